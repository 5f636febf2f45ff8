/-
  The triangles of a net, told in their order.
-/
import Derived.Test.YtgpapegpdfonpaaGreatDoorJoinH
import Derived.Test.YtgpapegpdfonpaaGreatDoorShelfT
import Derived.Shelf.SlSortCmp.NoneTotal
import Derived.Test.YtgpapegpdfonpaaGreatDoorWalksK
namespace Go.Proofs.YtgpapegpdfonpaaGreatDoor
set_option linter.unusedVariables false
set_option linter.unusedSimpArgs false
open Go.RowKit Go.Maps Go.Shelf Go.Lib Go.Sort

abbrev T3 := Int × Int × Int
def cmp3 (s t : T3) : Int := orI (cmpI s.1 t.1) (orI (cmpI s.2.1 t.2.1) (cmpI s.2.2 t.2.2))

set_option maxRecDepth 100000 in
set_option maxHeartbeats 2000000 in
theorem cmp3_any (b c : Nat) (x0 x1 x2 y0 y1 y2 : Int) (w : World) (h0 : w.cell? ⟨b, 0, none⟩ = some (iv x0)) (h1 : w.cell? ⟨b, 1, none⟩ = some (iv x1)) (h2 : w.cell? ⟨b, 2, none⟩ = some (iv x2))
    (k0 : w.cell? ⟨c, 0, none⟩ = some (iv y0)) (k1 : w.cell? ⟨c, 1, none⟩ = some (iv y1)) (k2 : w.cell? ⟨c, 2, none⟩ = some (iv y2)) :
    Calls Tryz.prog 110 #[.slice (some ⟨b, 0, none⟩) 3 3, .slice (some ⟨c, 0, none⟩) 3 3] w fun e w' => e = .returned (iv (cmp3 (x0, x1, x2) (y0, y1, y2))) ∧ w' = w := by
  have H0 := compare_any x0 y0 w
  have H1 := compare_any x1 y1 w
  have H2 := compare_any x2 y2 w
  unfold cmp3 orI
  dsimp only
  generalize cmpI x0 y0 = c0 at *
  generalize cmpI x1 y1 = c1 at *
  generalize cmpI x2 y2 = c2 at *
  by_cases e0 : c0 = 0
  · rw [if_pos e0]
    by_cases e1 : c1 = 0
    · rw [if_pos e1]
      by_cases e2 : c2 = 0
      · go_enter Tryz.func110, Tryz.ntmps110
        go_wp2
        refine wp_loop_rounds 4 ?_
        rw [rounds_succ]
        go_wp2_with (go_at_call 74; refine H0.mono ?_; rintro e w' ⟨rfl, rfl⟩)
        rw [rounds_succ]
        go_wp2_with (go_at_call 74; refine H1.mono ?_; rintro e w' ⟨rfl, rfl⟩)
        rw [rounds_succ]
        go_wp2_with (go_at_call 74; refine H2.mono ?_; rintro e w' ⟨rfl, rfl⟩)
        rw [rounds_succ]
        go_wp2
        go_ret
        exact ⟨by rw [e2]; rfl, rfl⟩
      · go_enter Tryz.func110, Tryz.ntmps110
        go_wp2
        refine wp_loop_rounds 3 ?_
        rw [rounds_succ]
        go_wp2_with (go_at_call 74; refine H0.mono ?_; rintro e w' ⟨rfl, rfl⟩)
        rw [rounds_succ]
        go_wp2_with (go_at_call 74; refine H1.mono ?_; rintro e w' ⟨rfl, rfl⟩)
        rw [rounds_succ]
        go_wp2_with (go_at_call 74; refine H2.mono ?_; rintro e w' ⟨rfl, rfl⟩)
        go_ret
        exact ⟨rfl, rfl⟩
    · rw [if_neg e1]
      go_enter Tryz.func110, Tryz.ntmps110
      go_wp2
      refine wp_loop_rounds 2 ?_
      rw [rounds_succ]
      go_wp2_with (go_at_call 74; refine H0.mono ?_; rintro e w' ⟨rfl, rfl⟩)
      rw [rounds_succ]
      go_wp2_with (go_at_call 74; refine H1.mono ?_; rintro e w' ⟨rfl, rfl⟩)
      go_ret
      exact ⟨rfl, rfl⟩
  · rw [if_neg e0]
    go_enter Tryz.func110, Tryz.ntmps110
    go_wp2
    refine wp_loop_rounds 1 ?_
    rw [rounds_succ]
    go_wp2_with (go_at_call 74; refine H0.mono ?_; rintro e w' ⟨rfl, rfl⟩)
    go_ret
    exact ⟨rfl, rfl⟩

def encT (t : T3) : List Value := [iv t.1, iv t.2.1, iv t.2.2]

set_option maxRecDepth 100000 in
set_option maxHeartbeats 2000000 in
theorem cmpT_any (s t : T3) (w : World) :
    Calls Tryz.prog 109 #[triV s.1 s.2.1 s.2.2, triV t.1 t.2.1 t.2.2] w fun e w' => e = .returned (iv (cmp3 s t)) ∧ ∃ o1 o2 q, w' = ((w.alloc o1).alloc o2).drewN q := by
  obtain ⟨x0, x1, x2⟩ := s
  obtain ⟨y0, y1, y2⟩ := t
  dsimp only
  go_enter Tryz.func109, Tryz.ntmps109
  go_wp2_with fail
  generalize hW : (w.alloc (.cells #[.int .i64 x0, .int .i64 x1, .int .i64 x2] 53)).alloc (.cells #[.int .i64 y0, .int .i64 y1, .int .i64 y2] 53) = W
  have hc := cmp3_any w.heap.size (w.heap.size + 1) x0 x1 x2 y0 y1 y2 W.drew
    (by rw [World.cell?_drew, ← hW, World.cell?_alloc_past _ _ _ (by simp), World.cell?_alloc_at _ _ _ _ rfl]; rfl) (by rw [World.cell?_drew, ← hW, World.cell?_alloc_past _ _ _ (by simp), World.cell?_alloc_at _ _ _ _ rfl]; rfl) (by rw [World.cell?_drew, ← hW, World.cell?_alloc_past _ _ _ (by simp), World.cell?_alloc_at _ _ _ _ rfl]; rfl)
    (by rw [World.cell?_drew, ← hW, World.cell?_alloc_at _ _ _ _ (by simp)]; rfl) (by rw [World.cell?_drew, ← hW, World.cell?_alloc_at _ _ _ _ (by simp)]; rfl) (by rw [World.cell?_drew, ← hW, World.cell?_alloc_at _ _ _ _ (by simp)]; rfl)
  have HW : Hid ((w.alloc (.cells #[.int .i64 x0, .int .i64 x1, .int .i64 x2] 53)).alloc (.cells #[.int .i64 y0, .int .i64 y1, .int .i64 y2] 53) = W) := hW
  clear hW
  go_region_held3 (fun w' => w' = W.drew) (first | rfl | assumption)
    (first | (go_at_call 110; refine hc.mono ?_; rintro e w' ⟨rfl, rfl⟩))
  go_wp2
  go_ret
  exact ⟨rfl, _, _, 1, by rw [HW.out]; rfl⟩

instance : Inhabited T3 := ⟨(0, 0, 0)⟩
/-- one triangle stands ahead of another -/
def t3lt (s t : T3) : Prop := s.1 < t.1 ∨ (s.1 = t.1 ∧ (s.2.1 < t.2.1 ∨ (s.2.1 = t.2.1 ∧ s.2.2 < t.2.2)))
theorem t3lt_irrefl (s : T3) : ¬ t3lt s s := by unfold t3lt; omega
theorem t3lt_trans {s t u : T3} (h : t3lt s t) (k : t3lt t u) : t3lt s u := by unfold t3lt at *; omega
theorem t3lt_tri (s t : T3) : t3lt s t ∨ s = t ∨ t3lt t s := by
  obtain ⟨a, b, c⟩ := s
  obtain ⟨a', b', c'⟩ := t
  unfold t3lt
  simp only [Prod.mk.injEq]
  omega
theorem orI_neg (x y : Int) : orI x y < 0 ↔ x < 0 ∨ (x = 0 ∧ y < 0) := by unfold orI; split <;> omega
theorem cmp3_neg (s t : T3) : cmp3 s t < 0 ↔ t3lt s t := by
  unfold cmp3 t3lt
  rw [orI_neg, orI_neg, cmpI_neg, cmpI_neg, cmpI_neg, cmpI_zero, cmpI_zero]
theorem ltT (s t : T3) : ltOf cmp3 s t = true ↔ t3lt s t := by
  unfold ltOf; rw [decide_eq_true_eq]; exact cmp3_neg s t
theorem ltT_false (s t : T3) : ltOf cmp3 s t = false ↔ ¬ t3lt s t := by
  rw [← ltT]; simp
theorem swoT : SWO (ltOf cmp3) := {
  irrefl := fun x => by rw [ltT_false]; exact t3lt_irrefl x
  trans := fun x y z h1 h2 => by rw [ltT] at *; exact t3lt_trans h1 h2
  ntrans := fun x y z h1 h2 => by
    rw [ltT_false] at *
    unfold t3lt at *; omega }

def flatT (ts : List T3) : List Value := ts.flatMap encT
theorem flatT_length : ∀ ts : List T3, (flatT ts).length = ts.length * 3
  | [] => rfl
  | t :: ts => by have := flatT_length ts; simp only [flatT, List.flatMap_cons, List.length_append, List.length_cons, encT, List.length_nil] at *; omega
theorem flatT_append (ts us : List T3) : flatT (ts ++ us) = flatT ts ++ flatT us := by simp [flatT]
theorem flatT_get : ∀ (ts : List T3) (i c : Nat), c < 3 → (h : i < ts.length) → (flatT ts)[i * 3 + c]? = (encT ts[i])[c]?
  | [], i, c, hc, h => by simp at h
  | t :: ts, 0, c, hc, h => by
    simp only [flatT, List.flatMap_cons, Nat.zero_mul, Nat.zero_add, List.getElem_cons_zero]
    rw [List.getElem?_append_left (by simp [encT]; omega)]
  | t :: ts, i + 1, c, hc, h => by
    have ih := flatT_get ts i c hc (by simpa using h)
    simp only [flatT, List.flatMap_cons, List.getElem_cons_succ] at *
    rw [List.getElem?_append_right (by simp [encT]; omega), ← ih]
    congr 1
    simp [encT]; omega
theorem flatK_flatT (d : Array T3) : (flatK encT 3 d).toList = flatT d.toList := by
  apply List.ext_getElem
  · simp [flatT_length]
  · intro t h1 h2
    have ht : t < d.size * 3 := by simpa using h1
    have e1 : (flatK encT 3 d).toList[t] = (flatK encT 3 d)[t]! := by simp [ht]
    rw [e1, get_flatK encT 3 d t ht]
    have hd : t / 3 < d.toList.length := by simp; omega
    have := flatT_get d.toList (t / 3) (t % 3) (Nat.mod_lt _ (by omega)) hd
    rw [show t / 3 * 3 + t % 3 = t by omega, List.getElem?_eq_getElem h2] at this
    have hm : t % 3 < (encT d.toList[t / 3]).length := by simp [encT]; omega
    rw [List.getElem?_eq_getElem hm] at this
    simp only [Option.some.injEq] at this
    rw [this]
    have e2 : d[t / 3]! = d.toList[t / 3] := by rw [Array.getElem_toList]; exact getElem!_pos d (t / 3) (by omega)
    rw [e2]
    exact getElem!_pos (encT d.toList[t / 3]) (t % 3) hm

theorem own_put {w : World} {base g n cap : Nat} {e : TypeId} {size : Nat} {xs : List Value} (h : w.ownsRow base e size (.slice (some ⟨g, 0, none⟩) n cap) n xs) (ys : Array Value) (hy : ys.size = n * size) :
    (putRow id w g 0 ys).ownsRow base e size (.slice (some ⟨g, 0, none⟩) n cap) n ys.toList := by
  obtain ⟨hl, h⟩ := h
  refine ⟨by simpa using hy, ?_⟩
  rcases h with ⟨h, _⟩ | ⟨g', cap', cur, hv, hb, hh, h1, h2, h3, h4⟩
  · cases h
  · cases hv
    refine .inr ⟨g, cap, putCells id 0 ys cur, rfl, hb, ?_, h1, h2, by simp [putCells, h3], ?_⟩
    · unfold putRow mapBlock
      simp only [Array.getElem?_modify]
      rw [if_pos trivial, hh]
      rfl
    · have hle : n * size ≤ cur.size := by rw [h3]; exact Nat.mul_le_mul_right _ h1
      apply List.ext_getElem
      · simp [putCells, hy]; omega
      · intro i i1 i2
        have hi : i < n * size := by simpa [hy] using i2
        simp [putCells, hy, hi]

/-- the sort of triangles -/
theorem sortT_any (base g cap : Nat) (ts : List T3) (w : World) (hlen : ts.length < 100000) (hown : w.ownsRow base 53 3 (.slice (some ⟨g, 0, none⟩) ts.length cap) ts.length (flatT ts)) (hbase : base ≤ w.heap.size) :
    Calls Tryz.prog 108 #[.slice (some ⟨g, 0, none⟩) ts.length cap, .func (.func 109) #[] #[]] w fun e w' =>
      e = .returned (.tuple #[]) ∧ ∃ us : List T3, us.Perm ts ∧ us.Pairwise (fun s t => ¬ t3lt t s) ∧ w'.ownsRow base 53 3 (.slice (some ⟨g, 0, none⟩) ts.length cap) ts.length (flatT us) ∧ Below base w w' := by
  have hg : g < w.heap.size ∧ base ≤ g := by
    obtain ⟨_, hn⟩ := hown
    rcases hn with ⟨hn, _⟩ | ⟨g', cap', cur, hv, hb, hh, r⟩
    · cases hn
    · cases hv; exact ⟨(Array.getElem?_eq_some_iff.1 hh).1, hb⟩
  have hH : HoldsK encT 3 w g 0 ts.toArray := by
    intro j hj
    have hj' : j < ts.length * 3 := by simpa using hj
    obtain ⟨hl, hn⟩ := hown
    rcases hn with ⟨hn, _⟩ | ⟨g', cap', cur, hv, hb, hh, h1, h2, h3, h4⟩
    · cases hn
    · cases hv
      have e : (flatK encT 3 ts.toArray)[j]! = (flatT ts)[j]'(by rw [flatT_length]; exact hj') := by
        have := flatK_flatT ts.toArray
        have e1 : (flatK encT 3 ts.toArray)[j]! = (flatK encT 3 ts.toArray).toList[j]'(by simpa using hj') := by simp [hj']
        rw [e1]
        simp only [this]
      have hjc : j < cur.size := by have := Nat.mul_le_mul_right 3 h1; omega
      have e2 : (flatT ts)[j]'(by rw [flatT_length]; exact hj') = cur[j] := by
        simp only [← h4]
        rw [List.getElem_take, Array.getElem_toList]
      refine ⟨?_, by simp [World.frozen?, hh]⟩
      rw [e, e2, Nat.zero_add]
      simp [World.cell?, hh, hjc]
  have hcmp : CmpLays Tryz.prog 109 #[] encT 3 cmp3 g 0 ts.toArray.size w := by
    intro m os dk hs x y
    refine (cmpT_any x y _).mono ?_
    rintro e w' ⟨he, o1, o2, q, hw⟩
    refine ⟨he, q, #[o1, o2], ?_⟩
    rw [hw, alloc_eq_grow, alloc_eq_grow, grow_grow]
    rfl
  have eg : ∀ args w, (callFunc 109 args).run Tryz.prog w = .ok (.enter 109 args) w := Tryz.call109
  have hS := AnyQ.slices_SortFunc Tryz.laySortT 3 Tryz.isAgg53 Tryz.sizeOf53 encT (fun _ => rfl) (fun x v hv => by simp [encT] at hv; rcases hv with rfl | rfl | rfl <;> rfl) cmp3 swoT 109 #[] g 0 cap ts.toArray w eg hcmp hH hg.1 (by simp; omega)
  change Calls Tryz.prog 108 _ _ _ at hS
  simp only [List.size_toArray] at hS
  refine hS.mono ?_
  rintro e w' ⟨he, d', q, os, hperm, hsorted, hw⟩
  obtain ⟨p1, _, p3⟩ := hperm
  have hd : d'.size = ts.length := by simpa using p1
  have hp : d'.toList.Perm ts := by
    have e1 : d'.extract 0 ts.length = d' := by rw [← hd]; simp
    have e2 : ts.toArray.extract 0 ts.length = ts.toArray := by simp
    rw [e1, e2] at p3
    simpa using p3
  refine ⟨he, d'.toList, hp, ?_, ?_, ?_⟩
  · rw [List.pairwise_iff_getElem]
    intro i j hi hj hij
    have := hsorted i j (Nat.zero_le _) hij (by rw [← hd]; simpa using hj)
    rw [ltT_false] at this
    have a1 : d'[j]! = d'[j] := getElem!_pos d' j (by simpa using hj)
    have a2 : d'[i]! = d'[i]'(by simpa using hi) := getElem!_pos d' i (by simpa using hi)
    rw [a1, a2] at this
    simpa using this
  · have h1 : (putRowK encT 3 (Sort.ahead w q) g 0 d').ownsRow base 53 3 (.slice (some ⟨g, 0, none⟩) ts.length cap) ts.length (flatT d'.toList) := by
      rw [← flatK_flatT]
      exact own_put (w := Sort.ahead w q) hown _ (by simp [hd])
    rw [hw]
    unfold sortWorldK
    obtain ⟨hl, hn⟩ := h1
    refine ⟨hl, ?_⟩
    rcases hn with hn | ⟨g', cap', cur, hv, hb, hh, r⟩
    · exact .inl hn
    · refine .inr ⟨g', cap', cur, hv, hb, ?_, r⟩
      show ((putRowK encT 3 (Sort.ahead w q) g 0 d').heap ++ os)[g']? = _
      rw [Array.getElem?_append_left (Array.getElem?_eq_some_iff.1 hh).1]
      exact hh
  · rw [hw]
    unfold sortWorldK
    refine ⟨rfl, rfl, rfl, ?_, fun k hk => ?_⟩
    · rw [Sort.size_grow, size_putRowK]; exact Nat.le_add_right _ _
    · show ((putRowK encT 3 (Sort.ahead w q) g 0 d').heap ++ os)[k]? = _
      have hk' : k < w.heap.size := by omega
      rw [Array.getElem?_append_left (by rw [size_putRowK]; exact hk')]
      unfold putRowK putRow mapBlock
      simp only [Array.getElem?_modify]
      rw [if_neg (by omega)]
      rfl

theorem sortT_v (base : Nat) {v : Value} (ts : List T3) (w : World) (hlen : ts.length < 100000) (hown : w.ownsRow base 53 3 v ts.length (flatT ts)) (hbase : base ≤ w.heap.size) :
    Calls Tryz.prog 108 #[v, .func (.func 109) #[] #[]] w fun e w' =>
      e = .returned (.tuple #[]) ∧ ∃ us : List T3, us.Perm ts ∧ us.Pairwise (fun s t => ¬ t3lt t s) ∧ w'.ownsRow base 53 3 v ts.length (flatT us) ∧ Below base w w' := by
  have hown' := hown
  obtain ⟨hl, h⟩ := hown
  rcases h with ⟨rfl, h0⟩ | ⟨g, cap, cur, rfl, _⟩
  · have e : ts = [] := List.length_eq_zero_iff.1 h0
    subst e
    have h := AnyF.slices_SortFunc_none Tryz.laySortT none 0 (.func (.func 109) #[] #[]) w
    change Calls Tryz.prog 108 _ _ _ at h
    exact h.mono fun e w' h => ⟨h.1, [], List.Perm.refl _, List.Pairwise.nil, by rw [h.2]; exact hown', by rw [h.2]; exact Below.refl _ _⟩
  · exact sortT_any base g cap ts w hlen hown' hbase

theorem RangeIs.cnt_le {P : Program} {K : TypeId} {w : World} {B r n : Nat} {f : Int → Int → Option Value} {left : Int → Int → Bool} {cnt : Nat} (h : RangeIs P K w B r n f left cnt) : cnt ≤ n := by
  obtain ⟨D, L, ⟨es, clock, since, seen, c0, _, _, hs, _, _, _, hc, _⟩, _⟩ := h
  rw [← hc]
  exact Nat.le_trans (by unfold leftOf; exact Array.size_filter_le ..) hs

theorem infoT : (Tryz.prog.info? 53).map (fun i => (i.zero, i.size, i.bytes)) = some (some (.agg #[.int .i64 0, .int .i64 0, .int .i64 0]), 3, 24) := by kernel_rfl

theorem own_any {w : World} {base n size : Nat} {e : TypeId} {xs : List Value} {v : Value} (h : w.ownsRow base e size v n xs) : ∃ a c, v = .slice a n c := by
  obtain ⟨_, h⟩ := h
  rcases h with ⟨rfl, rfl⟩ | ⟨g, cap, cur, rfl, _⟩
  · exact ⟨_, _, rfl⟩
  · exact ⟨_, _, rfl⟩
theorem own_belowS {w w' : World} {base n size : Nat} {e : TypeId} {xs : List Value} {v : Value} (h : w.ownsRow base e size v n xs) (hb : Below w.heap.size w w') : w'.ownsRow base e size v n xs := by
  obtain ⟨hl, h⟩ := h
  refine ⟨hl, ?_⟩
  rcases h with h | ⟨g, cap, cur, hv, hb', hh, r⟩
  · exact .inl h
  · exact .inr ⟨g, cap, cur, hv, hb', (hb.block g (Array.getElem?_eq_some_iff.1 hh).1).trans hh, r⟩
theorem own_keptS {w w' : World} {base n size : Nat} {e : TypeId} {xs : List Value} {v : Value} {row : Option Nat} (h : w.ownsRow base e size v n xs) (hg : w.grownBy w' row) (hr : ∀ j cur, row = some j → w.heap[j]? ≠ some (.cells cur e (0, 0))) : w'.ownsRow base e size v n xs := by
  obtain ⟨hl, h⟩ := h
  refine ⟨hl, ?_⟩
  rcases h with h | ⟨g, cap, cur, hv, hb', hh, r⟩
  · exact .inl h
  · exact .inr ⟨g, cap, cur, hv, hb', (hg.block g (Array.getElem?_eq_some_iff.1 hh).1 (fun e => hr g cur e.symm hh)).trans hh, r⟩
theorem own_ne_map {P : Program} {K : TypeId} {w : World} {base n size A m : Nat} {e : TypeId} {xs : List Value} {v : Value} {f : Int → Int → Option Value} (h : w.ownsRow base e size v n xs) (hm : MapIs P K w A m f) : some A ≠ v.ownBlock := by
  obtain ⟨D, ⟨es, clock, hb, _⟩, _⟩ := hm
  obtain ⟨_, h⟩ := h
  rcases h with ⟨rfl, _⟩ | ⟨g, cap, cur, rfl, _, hh, _⟩
  · simp [Value.ownBlock]
  · intro e1
    have : A = g := by simpa [Value.ownBlock] using e1
    subst this
    rw [hb] at hh; cases hh
theorem own_ne_iter {P : Program} {K : TypeId} {w : World} {base n size B r m cnt : Nat} {e : TypeId} {xs : List Value} {v : Value} {f : Int → Int → Option Value} {left : Int → Int → Bool} (h : w.ownsRow base e size v n xs) (hm : RangeIs P K w B r m f left cnt) : some r ≠ v.ownBlock := by
  obtain ⟨D, L, ⟨es, clock, since, seen, c0, _, _, _, _, hb, _⟩, _⟩ := hm
  obtain ⟨_, h⟩ := h
  rcases h with ⟨rfl, _⟩ | ⟨g, cap, cur, rfl, _, hh, _⟩
  · simp [Value.ownBlock]
  · intro e1
    have : r = g := by simpa [Value.ownBlock] using e1
    subst this
    rw [hb] at hh; cases hh
theorem own_base_row {w : World} {base n size : Nat} {e : TypeId} {xs : List Value} {v : Value} (h : w.ownsRow base e size v n xs) : ∀ j, v.ownBlock = some j → base ≤ j := by
  obtain ⟨_, h⟩ := h
  rcases h with ⟨rfl, _⟩ | ⟨g, cap, cur, rfl, hb, _⟩
  · intro j hj; simp [Value.ownBlock] at hj
  · intro j hj
    have : g = j := by simpa [Value.ownBlock] using hj
    omega
theorem RangeIs.no_cells {P : Program} {K : TypeId} {w : World} {B r n : Nat} {f : Int → Int → Option Value} {left : Int → Int → Bool} {cnt : Nat} (h : RangeIs P K w B r n f left cnt) {e : TypeId} : ∀ j cur, some r = some j → w.heap[j]? ≠ some (.cells cur e (0, 0)) := by
  obtain ⟨D, L, ⟨es, clock, since, seen, c0, _, _, _, _, hr, _⟩, _⟩ := h
  intro j cur e1 e2
  have : r = j := by simpa using e1
  subst this
  rw [hr] at e2; cases e2

theorem eqPair (a b c d : Int) (w : World) : (Op.equalIn 10000 165 (.agg #[.int .i64 a, .int .i64 b]) (.agg #[.int .i64 c, .int .i64 d])).run Tryz.prog w = .ok (a == c && b == d) w := by
  have u3 := Tryz.underlying3
  have a3 := Tryz.isAgg3
  have z3 := Tryz.sizeOf3
  rw [show (10000 : Nat) = 9999 + 1 from rfl, Op.equalIn]
  simp only [Sem.run_bind, run_underlying Tryz.underlying165, Result.andThen_ok]
  simp only [Std.Legacy.Range.forIn_eq_forIn_range', Std.Legacy.Range.size, Nat.sub_zero, Nat.add_sub_cancel, Nat.div_one, List.range'_succ, List.range'_zero, List.forIn_cons, List.forIn_nil]
  go_simp
  by_cases h1 : a = c <;> by_cases h2 : b = d <;> simp [h1, h2]

theorem rotL_case {x y z t0 t1 t2 : Int} (n1 : x ≠ y) (n2 : y ≠ z) (n3 : z ≠ x) (h : (t0, t1, t2) = rotL x y z) : ((x = t0 ∧ y = t1) ↔ (x < y ∧ x < z)) ∧ (x = t0 → y = t1 → t2 = z) := by
  unfold rotL at h
  split at h
  · simp only [Prod.mk.injEq] at h; obtain ⟨rfl, rfl, rfl⟩ := h; omega
  · split at h
    · simp only [Prod.mk.injEq] at h; obtain ⟨rfl, rfl, rfl⟩ := h; omega
    · simp only [Prod.mk.injEq] at h; obtain ⟨rfl, rfl, rfl⟩ := h; omega

/-- a key that is gone by -/
theorem mem_skip {Tr : Int → Int → Int → Prop} {left : Int → Int → Bool} {acc : List T3} {x y z : Int} (hF : Fn Tr) (hz : Tr x y z) (hno : ¬ (0 ≤ x ∧ x < y ∧ x < z)) (h : ∀ x y z, (x, y, z) ∈ acc ↔ Tr x y z ∧ (0 ≤ x ∧ x < y ∧ x < z) ∧ left x y = false) :
    ∀ a b c, (a, b, c) ∈ acc ↔ Tr a b c ∧ (0 ≤ a ∧ a < b ∧ a < c) ∧ strike left x y a b = false := by
  intro a b c
  rw [h]
  by_cases k : a = x ∧ b = y
  · obtain ⟨rfl, rfl⟩ := k
    constructor
    · rintro ⟨h1, h2, _⟩
      have := hF _ _ _ _ h1 hz; subst this; exact absurd h2 hno
    · rintro ⟨h1, h2, _⟩
      have := hF _ _ _ _ h1 hz; subst this; exact absurd h2 hno
  · rw [strike_other _ k]
theorem mem_take {Tr : Int → Int → Int → Prop} {left : Int → Int → Bool} {acc : List T3} {x y z : Int} (hF : Fn Tr) (hz : Tr x y z) (hyes : 0 ≤ x ∧ x < y ∧ x < z) (h : ∀ x y z, (x, y, z) ∈ acc ↔ Tr x y z ∧ (0 ≤ x ∧ x < y ∧ x < z) ∧ left x y = false) :
    ∀ a b c, (a, b, c) ∈ acc ++ [(x, y, z)] ↔ Tr a b c ∧ (0 ≤ a ∧ a < b ∧ a < c) ∧ strike left x y a b = false := by
  intro a b c
  rw [List.mem_append, h]
  by_cases k : a = x ∧ b = y
  · obtain ⟨rfl, rfl⟩ := k
    rw [strike_same]
    constructor
    · rintro (⟨h1, h2, _⟩ | h1)
      · exact ⟨h1, h2, rfl⟩
      · simp at h1; subst h1; exact ⟨hz, hyes, rfl⟩
    · rintro ⟨h1, h2, _⟩
      have := hF _ _ _ _ h1 hz; subst this; exact .inr (by simp)
  · rw [strike_other _ k]
    constructor
    · rintro (h1 | h1)
      · exact h1
      · simp at h1; exact absurd ⟨h1.1, h1.2.1⟩ k
    · exact .inl

set_option maxRecDepth 100000 in
set_option maxHeartbeats 4000000 in
theorem triangles_any (N Bp A H n : Nat) (Tr : Int → Int → Int → Prop) (w : World) (hF : Fn Tr) (hrotT : ∀ {x y z}, Tr x y z → Tr y z x) (hneT : ∀ {x y z}, Tr x y z → x ≠ y) (h64 : ∀ {x y z}, Tr x y z → I64 x) (hlow : ∀ {x y z}, Tr x y z → -1 ≤ x)
    (hN : NetAt w N Bp A H) (hm : MapIs Tryz.prog 165 w A n (fOf Tr)) (hn : n ≤ 4000) :
    Calls Tryz.prog 70 #[.pointer (some ⟨N, 0, none⟩)] w fun e w' =>
      ∃ v ts, e = .returned v ∧ w'.ownsRow w.heap.size 53 3 v ts.length (flatT ts) ∧ (∀ x y z, (x, y, z) ∈ ts ↔ Tr x y z ∧ 0 ≤ x ∧ x < y ∧ x < z) ∧ ts.Pairwise t3lt ∧ ts.length ≤ 4000 ∧ Below w.heap.size w w' := by
  obtain ⟨i0, hi0, hz0, hz1, hz2⟩ := info_parts infoT
  have hinv : ∀ x y v, fOf Tr x y = some v → ∃ t0 t1 t2, v = triV t0 t1 t2 := fun x y v h => by obtain ⟨z, _, e⟩ := fOf_inv h; exact ⟨_, _, _, e⟩
  obtain ⟨W2, cnt0, hrun2, hrg2, hgr2, hsz2⟩ := hm.range pairK Tryz.underlying159
  have c2 := hN.c2
  have hb2 : Below w.heap.size w W2 := below_in (Below.refl _ _) hgr2 (fun j hj => by cases hj) (Nat.le_refl _)
  have hcnt := hrg2.cnt_le
  go_enter Tryz.func70, Tryz.ntmps70
  go_wp2
  clear hrun2 c2
  go_loopw [3] (fun v wr => ∃ left cnt acc, RangeIs Tryz.prog 165 wr A w.heap.size n (fOf Tr) left cnt ∧ wr.ownsRow w.heap.size 53 3 v acc.length (flatT acc) ∧ Below w.heap.size w wr ∧ acc.length + cnt ≤ 4000 ∧ acc.Nodup ∧
      (∀ x y z, (x, y, z) ∈ acc ↔ Tr x y z ∧ (0 ≤ x ∧ x < y ∧ x < z) ∧ left x y = false)) (fun _ wr => wr.rangeLeft A w.heap.size)
  case atStart =>
    refine ⟨_, _, [], hrg2, World.ownsRow_nil _ _ _ _, hb2, by simp; omega, by simp, fun x y z => ⟨fun h => by simp at h, fun h => ?_⟩⟩
    have := h.2.2
    rw [fOf_isSome.2 ⟨z, h.1⟩] at this
    cases this
  case round =>
    clear hrg2 hgr2 hsz2 hb2 hcnt
    obtain ⟨left, cnt, acc, hrg, hown, hnx, hlen, hnd, hmem⟩ := hrel
    obtain ⟨va, vc, rfl⟩ := own_any hown
    have HMEM : Hid (∀ x y z, (x, y, z) ∈ acc ↔ Tr x y z ∧ (0 ≤ x ∧ x < y ∧ x < z) ∧ left x y = false) := hmem
    have HND : Hid acc.Nodup := hnd
    clear hmem hnd
    go_wp2_with (first | (at_next; refine wpList_next_tri pairK _ rfl _ rfl A w.heap.size n _ left cnt rfl hrg hinv ?_ ?_) | go_in)
    · intro hc hl0
      have hsort := sortT_v w.heap.size acc wr (by omega) hown hnx.size
      have hm0 : ∀ x y z, (x, y, z) ∈ acc ↔ Tr x y z ∧ 0 ≤ x ∧ x < y ∧ x < z := fun x y z => by
        rw [HMEM.out]
        exact ⟨fun h => ⟨h.1, h.2.1⟩, fun h => ⟨h.1, h.2, hl0 x y (h64 h.1) (h64 (hrotT h.1))⟩⟩
      have HM0 : Hid (∀ x y z, (x, y, z) ∈ acc ↔ Tr x y z ∧ 0 ≤ x ∧ x < y ∧ x < z) := hm0
      clear hm0 hl0 hrg HMEM hc
      go_wp2_with (go_at_call 108; refine hsort.mono ?_; rintro e w5 ⟨rfl, us, hp, hs, hown5, hb5⟩)
      go_ret
      refine ⟨_, us, rfl, by rw [hp.length_eq]; exact hown5, fun x y z => by rw [hp.mem_iff]; exact HM0.out x y z, ?_, by rw [hp.length_eq]; omega, hnx.trans hb5⟩
      have hnu : us.Nodup := hp.symm.nodup HND.out
      exact (hs.and hnu).imp (fun h => by
        rcases t3lt_tri _ _ with k | k | k
        · exact k
        · exact absurd k h.2
        · exact absurd k h.1)
    · intro x y t0 t1 t2 w1 cnt1 hx hy hlx hf hrg1 hlt hg hsz hen
      obtain ⟨z, hz, hrot⟩ := fOf_inv hf
      have n1 := hneT hz
      have n2 := hneT (hrotT hz)
      have n3 := hneT (hrotT (hrotT hz))
      have hR : (t0, t1, t2) = rotL x y z := by
        unfold rotV at hrot
        simp only [Value.agg.injEq, Array.mk.injEq, List.cons.injEq, Value.int.injEq, true_and, and_true] at hrot
        exact Prod.ext hrot.1 (Prod.ext hrot.2.1 hrot.2.2)
      have hown1 := own_keptS hown hg hrg.no_cells
      have hnx1 := below_in hnx hg (fun j hj => by have e : w.heap.size = j := (by simpa using hj); omega) hnx.size
      have HZ : Hid (Tr x y z ∧ x ≠ y ∧ y ≠ z ∧ z ≠ x ∧ (t0, t1, t2) = rotL x y z) := ⟨hz, n1, n2, n3, hR⟩
      have HS1 : Hid (w1.heap.size = wr.heap.size) := hsz
      have hlen1 : acc.length + 1 + cnt1 ≤ 4000 := by omega
      clear hf hrot hz n1 n2 n3 hR hg hsz hown hnx hlen
      generalize hWn : (w1.alloc (.cells #[.int .i64 x, .int .i64 y] 165)).alloc (.cells #[.int .i64 t0, .int .i64 t1, .int .i64 t2] 53) = Wn
      obtain ⟨e0, e1, e2, e3, e4, hsn, hbn⟩ := two_new w1 x y t0 t1 t2 Wn hWn.symm
      have HSN : Hid (Wn.heap.size = w1.heap.size + 2) := hsn
      have hrg2 := hrg1.kept (below_grown hbn (Nat.le_refl _)) (by simp) (by simp)
      have hown2 := own_belowS hown1 hbn
      have hnx2 := hnx1.trans (hbn.mono hnx1.size)
      clear hsn hown1 hnx1
      have RC := rotL_case HZ.out.2.1 HZ.out.2.2.1 HZ.out.2.2.2.1 HZ.out.2.2.2.2
      have HRC : Hid (((x = t0 ∧ y = t1) ↔ (x < y ∧ x < z)) ∧ (x = t0 → y = t1 → t2 = z)) := RC
      clear RC
      have heq := eqPair
      by_cases hs0 : t0 = -1
      · subst hs0
        go_wp2_with fail
        refine ⟨⟨_, cnt1, acc, hrg2, hown2, hnx2, by omega, HND.out, mem_skip hF HZ.out.1 (fun h => ?_) HMEM.out⟩, by rw [hrg2.left_eq, hrg.left_eq]; exact hlt⟩
        have := HRC.out.1.2 h.2
        omega
      · by_cases hse : x = t0 ∧ y = t1
        · have HSE : Hid (x = t0 ∧ y = t1 ∧ t2 = z) := ⟨hse.1, hse.2, HRC.out.2 hse.1 hse.2⟩
          have hbe : (x == t0 && y == t1) = true := by simp [hse.1, hse.2]
          clear hse
          have hwl := hnx2.size
          go_wp2_with (at_builtin; refine wpList_append_lies _ (by rfl) (.tmp 28) (.tmp 30) 42 (by rfl) w.heap.size 53 i0 (.agg #[.int .i64 0, .int .i64 0, .int .i64 0]) 3 24 Tryz.underlying42 hi0 hz0 hz1 hz2 rfl (by decide) _ _ _ (by rfl) (own_belowS hown2 (below1 _ _)) ⟨Wn.heap.size, 0, none⟩ 1 1 [.int .i64 t0, .int .i64 t1, .int .i64 t2] (by rfl) rfl ?c1 ?c2 (by decide) ?c3 ?c4 ?c5 (Wn.heap.size + 1) ?c6 ?_)
          case c1 =>
            intro j u hj
            match j, hj with
            | 0, hj => simp at hj; subst hj; simp [Addr.add]
            | 1, hj => simp at hj; subst hj; simp [Addr.add]
            | 2, hj => simp at hj; subst hj; simp [Addr.add]
          case c2 => intro u hu; simp at hu; rcases hu with rfl | rfl | rfl <;> rfl
          case c3 => unfold maxLen; omega
          case c4 => omega
          case c5 => simp; omega
          case c6 => simp
          · intro g2 cap2 w3 hown3 hgrow hat hlt3
            have hrg3 := hrg2.kept (below_grown (below1 Wn (.cells #[.int .i64 t0, .int .i64 t1, .int .i64 t2] 53)) (Nat.le_refl _)) (by simp) (by simp)
            have hown2' := own_belowS hown2 (below1 Wn (.cells #[.int .i64 t0, .int .i64 t1, .int .i64 t2] 53))
            have hrg4 := hrg3.kept hgrow (own_ne_map hown2' hrg3.map) (own_ne_iter hown2' hrg3)
            have hnx3 := below_in (hnx2.trans ((below1 Wn (.cells #[.int .i64 t0, .int .i64 t1, .int .i64 t2] 53)).mono hwl)) hgrow (own_base_row hown2') (by simp; omega)
            clear hgrow hat hown2 hown2' hrg2 hrg3 hrg1
            go_wp2
            go_roundw
            case rel =>
              obtain ⟨q1, q2, q3⟩ := HSE.out
              have hyes := HRC.out.1.1 ⟨q1, q2⟩
              have hx0 := hlow HZ.out.1
              refine ⟨_, cnt1, acc ++ [(x, y, z)], hrg4, ?_, hnx3, by simp; omega, ?_, mem_take hF HZ.out.1 ⟨by omega, hyes.1, hyes.2⟩ HMEM.out⟩
              · rw [flatT_append, List.length_append]
                have : flatT [(x, y, z)] = [.int .i64 t0, .int .i64 t1, .int .i64 t2] := by rw [q1, q2, ← q3]; rfl
                rw [this]
                exact hown3
              · rw [List.nodup_append]
                refine ⟨HND.out, by simp, fun a ha b hb e => ?_⟩
                simp at hb
                subst hb
                subst e
                have := (HMEM.out x y z).1 ha
                rw [hlx] at this
                exact absurd this.2.2 (by simp)
            case measure => rw [hrg4.left_eq, hrg.left_eq]; exact hlt
        · have hbe : (x == t0 && y == t1) = false := by simp; omega
          have HSE : Hid (¬ (x = t0 ∧ y = t1)) := hse
          clear hse
          go_wp2_with fail
          refine ⟨⟨_, cnt1, acc, hrg2, hown2, hnx2, by omega, HND.out, mem_skip hF HZ.out.1 (fun h => HSE.out (HRC.out.1.2 h.2)) HMEM.out⟩, by rw [hrg2.left_eq, hrg.left_eq]; exact hlt⟩
end Go.Proofs.YtgpapegpdfonpaaGreatDoor
