/-
  plane.Order: the numbers of points, in order.
-/
import Derived.Test.YtgpapegpdfonpaaGreatDoorWalksE
namespace Go.Proofs.YtgpapegpdfonpaaGreatDoor
set_option linter.unusedVariables false
set_option linter.unusedSimpArgs false
open Go.RowKit Go.Shelf Go.Sort

/-- the comparison, by numbers -/
def cfO (l : List Pt) (n : Nat) (x y : Fin (n + 1)) : Int := cmpP (ptAt l x.val) (ptAt l y.val)
def encO (n : Nat) (x : Fin (n + 1)) : Value := .int .i64 (x.val : Int)

theorem ltO (l : List Pt) (n : Nat) (x y : Fin (n + 1)) : ltOf (cfO l n) x y = true ↔ plt (ptAt l x.val) (ptAt l y.val) := by
  unfold ltOf cfO
  rw [decide_eq_true_iff, cmpP_neg]
theorem ltOf_false (l : List Pt) (n : Nat) (x y : Fin (n + 1)) : ltOf (cfO l n) x y = false ↔ ¬ plt (ptAt l x.val) (ptAt l y.val) := by
  rw [← ltO, Bool.not_eq_true]

theorem swoO (l : List Pt) (n : Nat) : SWO (ltOf (cfO l n)) := {
  irrefl := fun x => (ltOf_false l n x x).2 (plt_irrefl _)
  trans := fun x y z h1 h2 => (ltO l n x z).2 (plt_trans ((ltO l n x y).1 h1) ((ltO l n y z).1 h2))
  ntrans := fun x y z h1 h2 => by
    have k1 := (ltOf_false l n x y).1 h1; have k2 := (ltOf_false l n y z).1 h2
    refine (ltOf_false l n x z).2 fun h => ?_
    unfold plt at *
    omega }

/-- 0, 1, 2 .. up to k, then noughts -/
def upTo (n k : Nat) : Array Value := ((List.range n).map fun j => Value.int .i64 (if j < k then (j : Int) else 0)).toArray

theorem upTo_zero (n : Nat) : madeCells #[Value.int .i64 0] n = upTo n 0 := by
  apply Array.ext_getElem?
  intro j
  unfold madeCells upTo
  by_cases h : j < n
  · simp [h, Nat.mod_one]
  · simp [h]
theorem upTo_set (n k : Nat) (h : k < n) : (upTo n k).setIfInBounds k (.int .i64 (k : Int)) = upTo n (k + 1) := by
  apply Array.ext_getElem?
  intro j
  by_cases hj : j < n
  · by_cases e : k = j
    · subst e; simp [upTo, hj]
    · rw [Array.getElem?_setIfInBounds_ne e]
      simp [upTo, hj]
      have : (j < k) = (j < k + 1) := by simp; omega
      simp [this]
  · rw [Array.getElem?_eq_none (by simp [upTo]; omega), Array.getElem?_eq_none (by simp [upTo]; omega)]
theorem upTo_size (n k : Nat) : (upTo n k).size = n := by simp [upTo]

theorem info3 : (Tryz.prog.info? 3).map (fun i => (i.zero, i.size, i.bytes)) = some (some (.int .i64 0), 1, 8) := by kernel_rfl

theorem holds_upTo (w : World) (n : Nat) (T : TypeId) : Holds (encO n) (w.alloc (.cells (upTo (n + 1) (n + 1)) T)) w.heap.size 0 (Array.ofFn fun i : Fin (n + 1) => i) := by
  intro j hj
  have hj' : j < n + 1 := by simpa using hj
  refine ⟨?_, ?_⟩
  · rw [World.cell?_alloc_at _ _ _ _ rfl]
    simp [upTo, encO, hj']
  · rw [World.frozen?_alloc_at _ _ _ _ rfl]

/-- numbers lie in a block, a cell each -/
def NatsAt (w : World) (g off : Nat) (is : List Nat) : Prop := ∀ j, j < is.length → w.cell? ⟨g, off + j, none⟩ = some (.int .i64 (is.getD j 0 : Nat))

/-- What plane.Order gives. -/
structure InOrder (l : List Pt) (is : List Nat) : Prop where
  perm : is.Perm (List.range l.length)
  sorted : ∀ i j, i < j → j < is.length → ¬ plt (ptAt l (is.getD j 0)) (ptAt l (is.getD i 0))

theorem heap_sorted {α : Type} [Inhabited α] (enc : α → Value) (w : World) (g n : Nat) (d : Array α) (os : Array Obj) (k : Nat) (h : k < w.heap.size) (hne : k ≠ g) :
    (sortWorld enc w g 0 n d os).heap[k]? = w.heap[k]? := by
  unfold sortWorld
  rw [heap_grow_old _ _ (by rw [Sort.size_putRow]; exact h)]
  unfold putRow mapBlock
  simp only [Array.getElem?_modify]
  rw [if_neg (Ne.symm hne)]
  rfl

theorem perm_of {n : Nat} {d d' : Array (Fin (n + 1))} (hp : PermIn 0 d.size d d') : d'.size = d.size ∧ d'.toList.Perm d.toList := by
  obtain ⟨h1, _, h3⟩ := hp
  refine ⟨h1, ?_⟩
  have e1 : d'.extract 0 d.size = d' := by rw [← h1]; simp
  have e2 : d.extract 0 d.size = d := by simp
  rw [e1, e2] at h3
  exact h3

set_option maxHeartbeats 1000000 in
theorem sort_order (b off cap : Nat) (l : List (Int × Int)) (n : Nat) (w W : World) (hn : l.length = n + 1) (hl : l.length ≤ 60) (hb : b < w.heap.size) (hp : PtsAt w b off l)
    (hW : W = (w.alloc (.cells #[.slice (some ⟨b, off, none⟩) l.length cap] 41)).alloc (.cells (upTo l.length l.length) 3)) :
    Calls Tryz.prog 71 #[.slice (some ⟨w.heap.size + 1, 0, none⟩) l.length l.length, .func (.func 72) #[] #[.pointer (some ⟨w.heap.size, 0, none⟩)]] W fun e w' =>
      e = .returned (.tuple #[]) ∧ ∃ is, w.heap.size + 1 < w'.heap.size ∧ RowKit.Below (w.heap.size + 1) W w' ∧ NatsAt w' (w.heap.size + 1) 0 is ∧ (∀ j, w'.frozen? ⟨w.heap.size + 1, j, none⟩ = false) ∧ InOrder l is := by
  have hWs : W.heap.size = w.heap.size + 1 + 1 := by rw [hW]; simp
  have hH : Holds (encO n) W (w.heap.size + 1) 0 (Array.ofFn fun i : Fin (n + 1) => i) := by
    have := holds_upTo (w.alloc (.cells #[.slice (some ⟨b, off, none⟩) l.length cap] 41)) n 3
    rw [hn] at hW
    rw [hn] at this
    simp only [World.size_alloc] at this
    rw [hW]
    exact this
  have hfz : ∀ j, W.frozen? ⟨w.heap.size + 1, j, none⟩ = false := fun j => by rw [hW]; exact World.frozen?_alloc_at _ _ _ _ (by simp)
  have hcB : W.cell? ⟨w.heap.size, 0, none⟩ = some (.slice (some ⟨b, off, none⟩) l.length cap) := by
    rw [hW, World.cell?_alloc_past _ _ _ (by simp), World.cell?_alloc_at _ _ _ _ rfl]; rfl
  have hpW : PtsAt W b off l := by
    have h2 : RowKit.Below w.heap.size w W := by rw [hW]; exact below2 _ _ _
    exact hp.below h2 hb
  have hcmp : CmpLays1 Tryz.prog 72 #[.pointer (some ⟨w.heap.size, 0, none⟩)] (encO n) (cfO l n) (w.heap.size + 1) 0 (Array.ofFn fun i : Fin (n + 1) => i).size W := by
    intro m os dk hs x y
    have hV : ∀ a : Addr, a.block ≠ w.heap.size + 1 → a.block < W.heap.size → (sortWorld (encO n) W (w.heap.size + 1) 0 m dk os).cell? a = W.cell? a := fun a h1 h2 =>
      World.cell?_of_block (w := W) (heap_sorted (encO n) W (w.heap.size + 1) m dk os a.block h2 h1)
    have hVs : W.heap.size ≤ (sortWorld (encO n) W (w.heap.size + 1) 0 m dk os).heap.size := by
      unfold sortWorld
      rw [Sort.size_grow, Sort.size_putRow]
      exact Nat.le_add_right _ _
    refine (order1_any w.heap.size b off cap l x.val y.val _ (by have := x.isLt; omega) (by have := y.isLt; omega) (by omega) (by omega) ?_ ?_).mono ?_
    · rw [hV _ (by simp) (by simp; omega)]; exact hcB
    · intro j hj
      have := hpW j hj
      rw [hV _ (by simp; omega) (by simp; omega), hV _ (by simp; omega) (by simp; omega)]
      exact this
    · rintro e w' ⟨he, o, hw⟩
      refine ⟨he, 1, #[o], ?_⟩
      rw [hw, alloc_eq_grow]
      rfl
  have eg : ∀ args w, (callFunc 72 args).run Tryz.prog w = .ok (.enter 72 args) w := Tryz.call72
  have hS := Any.slices_SortFunc Tryz.laySort (encO n) (fun _ => rfl) (cfO l n) (swoO l n) 72 #[.pointer (some ⟨w.heap.size, 0, none⟩)] (w.heap.size + 1) 0 l.length (Array.ofFn fun i : Fin (n + 1) => i) W eg hcmp hH (by omega) (by simp; omega)
  have hsz : (Array.ofFn fun i : Fin (n + 1) => i).size = l.length := by simp [hn]
  rw [hsz] at hS
  refine hS.mono ?_
  rintro e w' ⟨he, d', q, os, hperm, hsorted, hw⟩
  rw [← hsz] at hperm hsorted
  obtain ⟨ds, dp⟩ := perm_of hperm
  refine ⟨he, d'.toList.map (·.val), ?_, ?_, ?_, ?_, ?_, ?_⟩
  · rw [hw]; unfold sortWorld; rw [Sort.size_grow, Sort.size_putRow]; show w.heap.size + 1 < W.heap.size + _; omega
  · subst hw
    refine ⟨rfl, rfl, rfl, ?_, fun k hk => ?_⟩
    · unfold sortWorld; rw [Sort.size_grow, Sort.size_putRow]; exact Nat.le_add_right _ _
    · exact heap_sorted (encO n) W (w.heap.size + 1) q d' os k (by omega) (by omega)
  · intro j hj
    have hj' : j < d'.size := by simpa using hj
    rw [hw]
    unfold sortWorld
    rw [Sort.cell?_grow _ _ _ (by rw [Sort.size_putRow]; show w.heap.size + 1 < W.heap.size; omega)]
    rw [Sort.cell?_putRow (encO n) _ (w.heap.size + 1) 0 _ d' (Sort.holds_ahead _ _ _ _ _ _ hH) ds j hj']
    have : d'[j]! = d'[j] := getElem!_pos d' j hj'
    rw [this]
    simp [encO, hj']
  · intro j
    rw [hw]
    unfold sortWorld
    rw [Sort.frozen?_grow _ _ _ (by rw [Sort.size_putRow]; show w.heap.size + 1 < W.heap.size; omega), Sort.frozen?_putRow]
    exact hfz j
  · have := dp.map (fun x : Fin (n + 1) => x.val)
    refine this.trans ?_
    rw [hn]
    apply List.Perm.of_eq
    apply List.ext_getElem
    · simp
    · intro i h1 h2
      rw [List.getElem_map, Array.getElem_toList, Array.getElem_ofFn, List.getElem_range]
  · intro i j hij hj
    have hj' : j < d'.size := by simpa using hj
    have := hsorted i j (Nat.zero_le _) hij (by rw [← ds]; exact hj')
    rw [ltOf_false] at this
    have a1 : d'[j]! = d'[j] := getElem!_pos d' j hj'
    have a2 : d'[i]! = d'[i]'(by omega) := getElem!_pos d' i (by omega)
    rw [a1, a2] at this
    have hi' : i < d'.size := by omega
    simpa [hj', hi'] using this

set_option maxHeartbeats 1000000 in
theorem order_any (b off cap : Nat) (l : List (Int × Int)) (n : Nat) (w : World) (hn : l.length = n + 1) (hl : l.length ≤ 60) (hb : b < w.heap.size) (hp : PtsAt w b off l) :
    Calls Tryz.prog 28 #[.slice (some ⟨b, off, none⟩) l.length cap] w fun e w' =>
      ∃ g is, e = .returned (.slice (some ⟨g, 0, none⟩) l.length l.length) ∧ w.heap.size ≤ g ∧ g < w'.heap.size ∧ RowKit.Below w.heap.size w w' ∧ NatsAt w' g 0 is ∧ (∀ j, w'.frozen? ⟨g, j, none⟩ = false) ∧ InOrder l is := by
  have hmk := run_make_row' (P := Tryz.prog) 26 3 (.int .i64 0) 8 Tryz.underlying26 info3 rfl .i64 .i64 l.length (by omega) (by omega)
  have HN : Hid (l.length = n + 1) := hn
  clear hn
  go_enter Tryz.func28, Tryz.ntmps28
  go_wp2
  go_loopw [10] (fun i wr => ∃ k : Nat, k ≤ l.length ∧ i = .int .i64 k ∧ wr = (w.alloc (.cells #[.slice (some ⟨b, off, none⟩) l.length cap] 41)).alloc (.cells (upTo l.length k) 3))
    (fun i _ => l.length - (intOf i).toNat)
  case atStart => exact ⟨0, Nat.zero_le _, rfl, by rw [upTo_zero]⟩
  case round =>
    obtain ⟨k, hk, rfl, rfl⟩ := hrel
    by_cases hlt : k < l.length
    · have hc : ((w.alloc (.cells #[.slice (some ⟨b, off, none⟩) l.length cap] 41)).alloc (.cells (upTo l.length k) 3)).cell? ⟨w.heap.size + 1, k, none⟩ = some (.int .i64 0) := by
        rw [World.cell?_alloc_at _ _ _ _ (by simp)]
        simp [upTo, hlt]
      have hs := upTo_set l.length k hlt
      go_wp2
      go_roundw
      case rel => exact ⟨k + 1, by omega, by go_num, rfl⟩
      case measure => simp [intOf]; omega
    · have ek : k = l.length := by omega
      subst ek
      go_wp2_with fail
      refine (sort_order b off cap l n w _ HN.out hl hb hp rfl).mono ?_
      rintro e w' ⟨rfl, is, h1, h2, h3, h4, h5⟩
      go_wp2
      go_ret
      refine ⟨w.heap.size + 1, is, rfl, by omega, h1, ?_, h3, h4, h5⟩
      exact (below2 _ _ _).trans (h2.mono (by omega))

end Go.Proofs.YtgpapegpdfonpaaGreatDoor
