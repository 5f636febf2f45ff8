/-
  slices.Delete of one element: of points, of numbers.
-/
import Derived.Test.YtgpapegpdfonpaaPtsA
import Derived.Deep.LoopGhost
import Derived.Deep.Draws
import Derived.Deep.RegionLaw
import Derived.Shelf.RegionOpenPlain
namespace Go.Proofs.Ytgpapegpdfonpaa
set_option linter.unusedVariables false
set_option linter.unusedSimpArgs false
open Go.RowKit
attribute [local go_sem ↓] Go.wp_at_zero Go.wp_at_succ

theorem run_clear_pt (w : World) (b o c : Nat) (ty : TypeId) (h0 : (w.cell? ⟨b, o, none⟩).isSome = true) (h1 : (w.cell? ⟨b, o + 1, none⟩).isSome = true) (f0 : w.frozen? ⟨b, o, none⟩ = false) (f1 : w.frozen? ⟨b, o + 1, none⟩ = false) :
    (Builtin.clear_ #[28] ty #[.slice (some ⟨b, o, none⟩) 1 c]).run Try.prog w = .ok (.tuple #[]) (w.setCells b o [.int .i64 0, .int .i64 0]) := by
  obtain ⟨iP, hiP, hzP, hsP, hbP⟩ := info_parts infoPt
  have hv : ∀ w, (zeroValue 23).run Try.prog w = .ok (.agg #[.int .i64 0, .int .i64 0]) w := fun w => by go_simp
  have hz : (Builtin.zeroCells (Value.agg #[.int .i64 0, .int .i64 0]).cells 1).toList = [.int .i64 0, .int .i64 0] := by kernel_rfl
  have hst := run_storeCells_cells (P := Try.prog) b o [.int .i64 0, .int .i64 0] 0 w (fun j hj => by
    have : j = 0 ∨ j = 1 := by simp at hj; omega
    rcases this with rfl | rfl
    · exact h0
    · exact h1) (fun j hj => by
    have : j = 0 ∨ j = 1 := by simp at hj; omega
    rcases this with rfl | rfl
    · exact f0
    · exact f1) (by intro v hv'; simp at hv'; rw [hv']; rfl)
  simp only [Nat.add_zero] at hst
  simp [Builtin.clear_, run_underlying Try.underlying28, hv, hz, hst]
theorem run_clear_int (w : World) (b o c : Nat) (ty : TypeId) (h0 : (w.cell? ⟨b, o, none⟩).isSome = true) (f0 : w.frozen? ⟨b, o, none⟩ = false) :
    (Builtin.clear_ #[30] ty #[.slice (some ⟨b, o, none⟩) 1 c]).run Try.prog w = .ok (.tuple #[]) (w.setCells b o [.int .i64 0]) := by
  obtain ⟨i0, hi0, hz0, hs0, hb0⟩ := info_parts info3
  have hv : ∀ w, (zeroValue 3).run Try.prog w = .ok (.int .i64 0) w := fun w => by go_simp
  have hz : (Builtin.zeroCells (Value.int .i64 0).cells 1).toList = [.int .i64 0] := by kernel_rfl
  have hst := run_storeCells_cells (P := Try.prog) b o [.int .i64 0] 0 w (fun j hj => by
    have : j = 0 := by simp at hj; omega
    subst this; exact h0) (fun j hj => by
    have : j = 0 := by simp at hj; omega
    subst this; exact f0) (by intro v hv'; simp at hv'; rw [hv']; rfl)
  simp only [Nat.add_zero] at hst
  simp [Builtin.clear_, run_underlying Try.underlying30, hv, hz, hst]

/-- a row less one, in its block -/
theorem row_less {w : World} {g cap n s i : Nat} {e : TypeId} {cur : Array Value} {xs : List Value} {z : Value} (hg : w.heap[g]? = some (.cells cur e (0, 0))) (hcs : cur.size = cap * s) (hnc : n ≤ cap) (htk : cur.toList.take (n * s) = xs) (hi : i < n) (hcm : cap ≤ maxLen) (m : Nat) :
    (((w.drewN m).setCells g (i * s) (xs.drop ((i + 1) * s))).setCells g ((n - 1) * s) (List.replicate s z)).ownsRow 0 e s (.slice (some ⟨g, 0, none⟩) (n - 1) cap) (n - 1) (xs.take (i * s) ++ xs.drop ((i + 1) * s)) ∧
    Chg (fun k => k = g) w (((w.drewN m).setCells g (i * s) (xs.drop ((i + 1) * s))).setCells g ((n - 1) * s) (List.replicate s z)) := by
  have m1 : i * s ≤ n * s := Nat.mul_le_mul_right _ (by omega)
  have m2 : (i + 1) * s ≤ n * s := Nat.mul_le_mul_right _ (by omega)
  have m3 : n * s ≤ cap * s := Nat.mul_le_mul_right _ hnc
  have m4 : (n - 1) * s + s = n * s := by rw [← Nat.succ_mul]; congr 1; omega
  have m5 : (i + 1) * s = i * s + s := Nat.succ_mul _ _
  have hxl : xs.length = n * s := by rw [← htk]; simp; omega
  have hdl : (xs.drop ((i + 1) * s)).length = n * s - (i + 1) * s := by rw [List.length_drop, hxl]
  have b1 := setCells_block (g := g) (xs.drop ((i + 1) * s)) (i * s) (w.drewN m) cur hg (by omega)
  have b2 := setCells_block (g := g) (List.replicate s z) ((n - 1) * s) _ _ b1 (by simp; omega)
  refine ⟨⟨?_, .inr ⟨g, cap, _, rfl, Nat.zero_le _, b2, by omega, hcm, ?_, ?_⟩⟩, ?_⟩
  · simp only [List.length_append, List.length_take, hdl, hxl]; omega
  · simp only [List.size_toArray, List.length_append, List.length_take, List.length_drop, List.length_replicate, Array.length_toList, hcs, hxl]; omega
  · have e0 : cur.toList.take (i * s) = xs.take (i * s) := by rw [← htk, List.take_take, Nat.min_eq_left m1]
    have l1 : (xs.take (i * s) ++ xs.drop ((i + 1) * s)).length = (n - 1) * s := by
      rw [List.length_append, hdl, List.length_take, hxl, Nat.min_eq_left m1]; omega
    have e1 : (cur.toList.take (i * s) ++ xs.drop ((i + 1) * s) ++ cur.toList.drop (i * s + (xs.drop ((i + 1) * s)).length)).toArray.toList.take ((n - 1) * s) = xs.take (i * s) ++ xs.drop ((i + 1) * s) := by
      rw [e0, List.toList_toArray, List.take_left' l1]
    rw [e1, List.toList_toArray, List.append_assoc, List.take_left' l1]
  · have c1 := setCells_chg (g := g) (xs.drop ((i + 1) * s)) (i * s) (w.drewN m)
    have c2 := setCells_chg (g := g) (List.replicate s z) ((n - 1) * s) ((w.drewN m).setCells g (i * s) (xs.drop ((i + 1) * s)))
    have c := c1.trans c2 fun _ _ h => h
    exact ⟨c.os, c.tape, c.output, c.size, c.far⟩

set_option maxHeartbeats 4000000 in
set_option maxRecDepth 1000000 in
theorem delP_any (g cap i : Nat) (pts : List Pt) (w : World) (h : w.ownsRow 0 23 2 (.slice (some ⟨g, 0, none⟩) pts.length cap) pts.length (cellsP pts)) (hl : pts.length ≤ 60) (hi : i < pts.length) :
    Calls Try.prog 74 #[.slice (some ⟨g, 0, none⟩) pts.length cap, .int .i64 (i : Int), .int .i64 ((i : Int) + 1)] w fun e w' =>
      e = .returned (.slice (some ⟨g, 0, none⟩) (pts.length - 1) cap) ∧ w'.ownsRow 0 23 2 (.slice (some ⟨g, 0, none⟩) (pts.length - 1) cap) (pts.eraseIdx i).length (cellsP (pts.eraseIdx i)) ∧ Chg (fun k => k = g) w w' := by
  obtain ⟨iP, hiP, hzP, hsP, hbP⟩ := info_parts infoPt
  obtain ⟨cur, hg, hnc, hcm, hcs, htk⟩ : ∃ cur, w.heap[g]? = some (.cells cur 23 (0, 0)) ∧ pts.length ≤ cap ∧ cap ≤ maxLen ∧ cur.size = cap * 2 ∧ cur.toList.take (pts.length * 2) = cellsP pts := by
    rcases h.2 with ⟨e, _⟩ | ⟨g', cap', cur, e, _, r⟩
    · cases e
    · cases e; exact ⟨cur, r⟩
  have hcm' : cap ≤ 9223372036854775807 := hcm
  have HR := row_less (z := .int .i64 0) hg hcs hnc htk hi hcm
  have hel : (pts.eraseIdx i).length = pts.length - 1 := by rw [List.length_eraseIdx, if_pos hi]
  have hce := cellsP_erase pts i
  generalize hn : pts.length = n at *
  have hxl : (cellsP pts).length = n * 2 := by rw [cellsP_len, hn]
  -- the cells that are moved
  obtain ⟨j, hj⟩ : ∃ j, j = i + 1 := ⟨_, rfl⟩
  obtain ⟨news, hnews⟩ : ∃ news, news = (cellsP pts).drop ((i + 1) * 2) := ⟨_, rfl⟩
  have hlen : news.length = (n - j) * 2 := by rw [hnews, List.length_drop, hxl]; omega
  have hcell : ∀ j, j < cap * 2 → w.cell? ⟨g, j, none⟩ = cur[j]? := fun j hj => by simp [World.cell?, hg]
  have hfz : ∀ j, w.frozen? ⟨g, j, none⟩ = false := fun j => by simp [World.frozen?, hg]
  have hget : ∀ t u, news[t]? = some u → cur[j * 2 + t]? = some u := fun t u hu => by
    rw [hj]
    rw [hnews, List.getElem?_drop, ← htk] at hu
    rw [← Array.getElem?_toList]
    have := (List.getElem?_eq_some_iff.1 hu).1
    rw [List.getElem?_take_of_lt (by simp at this; omega)] at hu
    exact hu
  obtain ⟨A, hA, hsrc⟩ : ∃ A : Addr, (if cap = j then some (⟨g, 0, none⟩ : Addr) else some ⟨g, j * 2, none⟩) = some A ∧ Hid (∀ t u, news[t]? = some u → w.drew.cell? (A.add t) = some u) := by
    by_cases hc : cap = j
    · refine ⟨⟨g, 0, none⟩, by simp [hc], fun t u hu => ?_⟩
      have h0 : news.length = 0 := by rw [hlen]; omega
      rw [List.length_eq_zero_iff.1 h0] at hu
      simp at hu
    · refine ⟨⟨g, j * 2, none⟩, by simp [hc], fun t u hu => ?_⟩
      have ht := (List.getElem?_eq_some_iff.1 hu).1
      rw [Addr.add_lit]
      show w.cell? _ = _
      rw [hcell _ (by omega)]
      exact hget t u hu
  have s1 : Hid (news.length = (n - j) * 2) := hlen
  have s2 : Hid (∀ u ∈ news, u.oneCell' = true) := by
    intro u hu
    rw [hnews] at hu
    have := List.mem_of_mem_drop hu
    unfold cellsP at this
    obtain ⟨p, _, hp⟩ := List.mem_flatMap.1 this
    simp at hp
    rcases hp with rfl | rfl <;> rfl
  have s3 : Hid (∀ t, t < news.length → (w.drew.cell? ⟨g, 0 + i * 2 + t, none⟩).isSome = true ∧ w.drew.frozen? ⟨g, 0 + i * 2 + t, none⟩ = false) := by
    intro t ht
    refine ⟨?_, hfz _⟩
    show (w.cell? _).isSome = true
    rw [hcell _ (by omega), Array.getElem?_eq_getElem (by omega)]
    rfl
  obtain ⟨W1, hW1⟩ : ∃ W1, W1 = w.drew.setCells g (0 + i * 2) news := ⟨_, rfl⟩
  have hb1 : W1.heap[g]? = some (.cells (cur.toList.take (0 + i * 2) ++ news ++ cur.toList.drop (0 + i * 2 + news.length)).toArray 23 (0, 0)) := by
    rw [hW1]; exact setCells_block news (0 + i * 2) w.drew cur hg (by omega)
  have hc1 : ∀ j, j < cap * 2 → (W1.cell? ⟨g, j, none⟩).isSome = true := fun j hj => by
    simp only [World.cell?, hb1]
    rw [Array.getElem?_eq_getElem (by simp; omega)]
    rfl
  have hf1 : ∀ j, W1.frozen? ⟨g, j, none⟩ = false := fun j => by simp [World.frozen?, hb1]
  have e1 : i + (n - j) = n - 1 := by omega
  have hcl : ∀ ty, (Builtin.clear_ #[28] ty #[.slice (some ⟨g, (i + (n - j)) * 2, none⟩) (n - (i + (n - j))) (cap - (i + (n - j)))]).run Try.prog W1 = .ok (.tuple #[]) (W1.setCells g ((i + (n - j)) * 2) [.int .i64 0, .int .i64 0]) := by
    intro ty
    rw [e1, show n - (n - 1) = 1 by omega]
    exact run_clear_pt W1 g _ _ ty (hc1 _ (by omega)) (hc1 _ (by omega)) (hf1 _) (hf1 _)
  have hW : Hid (W1 = w.drew.setCells g (0 + i * 2) news) := hW1
  have HFIN : Hid ((W1.setCells g ((i + (n - j)) * 2) [.int .i64 0, .int .i64 0]).ownsRow 0 23 2 (.slice (some ⟨g, 0, none⟩) (n - 1) cap) (pts.eraseIdx i).length (cellsP (pts.eraseIdx i)) ∧ Chg (fun k => k = g) w (W1.setCells g ((i + (n - j)) * 2) [.int .i64 0, .int .i64 0])) := by
    have := HR 1
    rw [e1, hW1, hnews, hce, hel, Nat.zero_add]
    exact this
  have E1 : Hid (i + (n - j) = n - 1) := e1
  have hlt : i < j := by omega
  have q1 : (i : Int) + 1 = (j : Int) := by omega
  rw [q1]
  have hic : i ≤ cap := by omega
  have hij : i ≤ j := by omega
  have hjc : j ≤ cap := by omega
  have hin : j ≤ n := by omega
  have hne : ((i : Int) == (j : Int)) = false := beq_eq_false_iff_ne.2 (by omega)
  clear hW1 hb1 hc1 hf1 hget hnews hlen hcell hfz HR h hg hcs htk hce hxl hel hcm q1 hj hn e1
  go_enter Try.func74, Try.ntmps74
  go_wp2_with fail

  go_region_law (refine step_append_room rfl (.tmp 22) (.tmp 25) 28 rfl 23 iP 2 Try.underlying28 hiP hsP g 0 i cap (by simp [Act.eval, Act.put]) A (n - j) (cap - j) news (by simp [Act.eval, Act.put, hA]) s1.out hsrc.out s2.out (by omega) s3.out ?_; rw [← hW.out])
  go_wp2
  go_ret
  refine ⟨?_, HFIN.out⟩
  rw [E1.out]; rfl
set_option maxHeartbeats 4000000 in
set_option maxRecDepth 1000000 in
theorem delN_any (g cap i : Nat) (pts : List Int) (w : World) (h : w.ownsRow 0 3 1 (.slice (some ⟨g, 0, none⟩) pts.length cap) pts.length (pts.map (Value.int .i64))) (hl : pts.length ≤ 60) (hi : i < pts.length) :
    Calls Try.prog 75 #[.slice (some ⟨g, 0, none⟩) pts.length cap, .int .i64 (i : Int), .int .i64 ((i : Int) + 1)] w fun e w' =>
      e = .returned (.slice (some ⟨g, 0, none⟩) (pts.length - 1) cap) ∧ w'.ownsRow 0 3 1 (.slice (some ⟨g, 0, none⟩) (pts.length - 1) cap) (pts.eraseIdx i).length ((pts.eraseIdx i).map (Value.int .i64)) ∧ Chg (fun k => k = g) w w' := by
  obtain ⟨iP, hiP, hzP, hsP, hbP⟩ := info_parts info3
  obtain ⟨cur, hg, hnc, hcm, hcs, htk⟩ : ∃ cur, w.heap[g]? = some (.cells cur 3 (0, 0)) ∧ pts.length ≤ cap ∧ cap ≤ maxLen ∧ cur.size = cap * 1 ∧ cur.toList.take (pts.length * 1) = pts.map (Value.int .i64) := by
    rcases h.2 with ⟨e, _⟩ | ⟨g', cap', cur, e, _, r⟩
    · cases e
    · cases e; exact ⟨cur, r⟩
  have hcm' : cap ≤ 9223372036854775807 := hcm
  have HR := row_less (z := .int .i64 0) hg hcs hnc htk hi hcm
  have hel : (pts.eraseIdx i).length = pts.length - 1 := by rw [List.length_eraseIdx, if_pos hi]
  have hce : (pts.eraseIdx i).map (Value.int .i64) = (pts.map (Value.int .i64)).take (i * 1) ++ (pts.map (Value.int .i64)).drop ((i + 1) * 1) := by rw [List.eraseIdx_eq_take_drop_succ, List.map_append, Nat.mul_one, Nat.mul_one, List.map_take, List.map_drop]
  generalize hn : pts.length = n at *
  have hxl : (pts.map (Value.int .i64)).length = n * 1 := by rw [List.length_map, hn]; omega
  -- the cells that are moved
  obtain ⟨j, hj⟩ : ∃ j, j = i + 1 := ⟨_, rfl⟩
  obtain ⟨news, hnews⟩ : ∃ news, news = (pts.map (Value.int .i64)).drop ((i + 1) * 1) := ⟨_, rfl⟩
  have hlen : news.length = (n - j) * 1 := by rw [hnews, List.length_drop, hxl]; omega
  have hcell : ∀ j, j < cap * 1 → w.cell? ⟨g, j, none⟩ = cur[j]? := fun j hj => by simp [World.cell?, hg]
  have hfz : ∀ j, w.frozen? ⟨g, j, none⟩ = false := fun j => by simp [World.frozen?, hg]
  have hget : ∀ t u, news[t]? = some u → cur[j + t]? = some u := fun t u hu => by
    rw [hj]
    rw [Nat.mul_one] at hnews
    rw [hnews, List.getElem?_drop, ← htk] at hu
    rw [← Array.getElem?_toList]
    have := (List.getElem?_eq_some_iff.1 hu).1
    rw [List.getElem?_take_of_lt (by simp at this; omega)] at hu
    exact hu
  obtain ⟨A, hA, hsrc⟩ : ∃ A : Addr, (if cap = j then some (⟨g, 0, none⟩ : Addr) else some ⟨g, j, none⟩) = some A ∧ Hid (∀ t u, news[t]? = some u → w.drew.cell? (A.add t) = some u) := by
    by_cases hc : cap = j
    · refine ⟨⟨g, 0, none⟩, by simp [hc], fun t u hu => ?_⟩
      have h0 : news.length = 0 := by rw [hlen]; omega
      rw [List.length_eq_zero_iff.1 h0] at hu
      simp at hu
    · refine ⟨⟨g, j, none⟩, by simp [hc], fun t u hu => ?_⟩
      have ht := (List.getElem?_eq_some_iff.1 hu).1
      rw [Addr.add_lit]
      show w.cell? _ = _
      rw [hcell _ (by omega)]
      exact hget t u hu
  have s1 : Hid (news.length = (n - j) * 1) := hlen
  have s2 : Hid (∀ u ∈ news, u.oneCell' = true) := by
    intro u hu
    rw [hnews] at hu
    obtain ⟨p, _, rfl⟩ := List.mem_map.1 (List.mem_of_mem_drop hu)
    rfl
  have s3 : Hid (∀ t, t < news.length → (w.drew.cell? ⟨g, 0 + i * 1 + t, none⟩).isSome = true ∧ w.drew.frozen? ⟨g, 0 + i * 1 + t, none⟩ = false) := by
    intro t ht
    refine ⟨?_, hfz _⟩
    show (w.cell? _).isSome = true
    rw [hcell _ (by omega), Array.getElem?_eq_getElem (by omega)]
    rfl
  obtain ⟨W1, hW1⟩ : ∃ W1, W1 = w.drew.setCells g (0 + i * 1) news := ⟨_, rfl⟩
  have hb1 : W1.heap[g]? = some (.cells (cur.toList.take (0 + i * 1) ++ news ++ cur.toList.drop (0 + i * 1 + news.length)).toArray 3 (0, 0)) := by
    rw [hW1]; exact setCells_block news (0 + i * 1) w.drew cur hg (by omega)
  have hc1 : ∀ j, j < cap * 1 → (W1.cell? ⟨g, j, none⟩).isSome = true := fun j hj => by
    simp only [World.cell?, hb1]
    rw [Array.getElem?_eq_getElem (by simp; omega)]
    rfl
  have hf1 : ∀ j, W1.frozen? ⟨g, j, none⟩ = false := fun j => by simp [World.frozen?, hb1]
  have e1 : i + (n - j) = n - 1 := by omega
  have hcl : ∀ ty, (Builtin.clear_ #[30] ty #[.slice (some ⟨g, (i + (n - j)), none⟩) (n - (i + (n - j))) (cap - (i + (n - j)))]).run Try.prog W1 = .ok (.tuple #[]) (W1.setCells g ((i + (n - j))) [.int .i64 0]) := by
    intro ty
    rw [e1, show n - (n - 1) = 1 by omega]
    exact run_clear_int W1 g _ _ ty (hc1 _ (by omega)) (hf1 _)
  have hW : Hid (W1 = w.drew.setCells g (0 + i * 1) news) := hW1
  have HFIN : Hid ((W1.setCells g ((i + (n - j))) [.int .i64 0]).ownsRow 0 3 1 (.slice (some ⟨g, 0, none⟩) (n - 1) cap) (pts.eraseIdx i).length ((pts.eraseIdx i).map (Value.int .i64)) ∧ Chg (fun k => k = g) w (W1.setCells g ((i + (n - j))) [.int .i64 0])) := by
    have := HR 1
    rw [e1, hW1, hnews, hce, hel, Nat.zero_add]
    simp only [Nat.mul_one] at this ⊢
    exact this
  have E1 : Hid (i + (n - j) = n - 1) := e1
  have hlt : i < j := by omega
  have q1 : (i : Int) + 1 = (j : Int) := by omega
  rw [q1]
  have hic : i ≤ cap := by omega
  have hij : i ≤ j := by omega
  have hjc : j ≤ cap := by omega
  have hin : j ≤ n := by omega
  have hne : ((i : Int) == (j : Int)) = false := beq_eq_false_iff_ne.2 (by omega)
  clear hW1 hb1 hc1 hf1 hget hnews hlen hcell hfz HR h hg hcs htk hce hxl hel hcm q1 hj hn e1
  go_enter Try.func75, Try.ntmps75
  go_wp2_with fail

  go_region_law (refine step_append_room rfl (.tmp 22) (.tmp 25) 30 rfl 3 iP 1 Try.underlying30 hiP hsP g 0 i cap (by simp [Act.eval, Act.put]) A (n - j) (cap - j) news (by simp [Act.eval, Act.put, hA]) s1.out hsrc.out s2.out (by omega) s3.out ?_; rw [← hW.out])
  go_wp2
  go_ret
  refine ⟨?_, HFIN.out⟩
  rw [E1.out]; rfl
end Go.Proofs.Ytgpapegpdfonpaa
