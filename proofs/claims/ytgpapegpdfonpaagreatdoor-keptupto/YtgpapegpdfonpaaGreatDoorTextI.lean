/-
  Package text: which triangles have places.
-/
import Derived.Test.YtgpapegpdfonpaaGreatDoorTextH
namespace Go.Proofs.YtgpapegpdfonpaaGreatDoor
set_option linter.unusedVariables false
set_option linter.unusedSimpArgs false
open Go.RowKit

/-- a triangle whose numbers are places of n points -/
def placesB (n : Nat) (t : Int × Int × Int) : Bool := decide (0 ≤ t.1 ∧ 0 ≤ t.2.1 ∧ 0 ≤ t.2.2) && decide (t.1 < n ∧ t.2.1 < n ∧ t.2.2 < n)
set_option maxHeartbeats 1000000 in
theorem allPlaces_any (a b c : Int) (n : Nat) (w : World) :
    Calls Tryz.prog 77 #[.agg #[.int .i64 a, .int .i64 b, .int .i64 c], .int .i64 (n : Int)] w fun e w' => e = .returned (.bool (placesB n (a, b, c))) ∧ Below w.heap.size w w' := by
  go_enter Tryz.func77, Tryz.ntmps77
  go_wp2
  all_goals go_ret
  all_goals
    refine ⟨congrArg (fun b => Ending.returned (.bool b)) ?_, below1 _ _⟩
    unfold placesB
    rw [Bool.eq_iff_iff]
    simp
    omega

set_option maxHeartbeats 1000000 in
theorem fault1_any (a b c : Int) (B : Nat) (pa : Option Addr) (n pc : Nat) (w : World) (hB : w.cell? ⟨B, 0, none⟩ = some (.slice pa n pc)) :
    Calls Tryz.prog 76 #[.agg #[.int .i64 a, .int .i64 b, .int .i64 c], .pointer (some ⟨B, 0, none⟩)] w fun e w' => e = .returned (.bool (!placesB n (a, b, c))) ∧ Below w.heap.size w w' := by
  have hl := World.block_lt_of_cell? w _ hB
  have hb0 := below1 w (.cells #[.int .i64 a, .int .i64 b, .int .i64 c] 53)
  have hB1 := (hb0.cell (p := ⟨B, 0, none⟩) hl).trans hB
  have HA := Lib.hid (fun W => allPlaces_any a b c n W)
  go_enter Tryz.func76, Tryz.ntmps76
  go_wp2_with (go_at_call 77; refine (HA.out _).mono ?_; rintro e w' ⟨rfl, hb1⟩)
  go_ret
  exact ⟨rfl, hb0.trans (hb1.mono hb0.size)⟩

/-- triangles that lie in a block, three cells each, from a place on -/
def Tri3At (w : World) (b off : Nat) (l : List (Int × Int × Int)) : Prop := ∀ j, j < l.length → w.cell? ⟨b, off + j * 3, none⟩ = some (.int .i64 (l.getD j (0, 0, 0)).1) ∧ w.cell? ⟨b, off + j * 3 + 1, none⟩ = some (.int .i64 (l.getD j (0, 0, 0)).2.1) ∧ w.cell? ⟨b, off + j * 3 + 2, none⟩ = some (.int .i64 (l.getD j (0, 0, 0)).2.2)
def noneB (n : Nat) (l : List (Int × Int × Int)) : Bool := l.any fun t => !placesB n t
theorem noneB_succ (n : Nat) (l : List (Int × Int × Int)) (k : Nat) (h : k < l.length) : noneB n (l.take (k + 1)) = (noneB n (l.take k) || !placesB n (l.getD k (0, 0, 0))) := by
  have e : l.getD k (0, 0, 0) = l[k] := by simp [h]
  unfold noneB; rw [List.take_succ_eq_append_getElem h, List.any_append, e]; simp only [List.any_cons, List.any_nil, Bool.or_false]
theorem noneB_hit (n : Nat) (l : List (Int × Int × Int)) (k : Nat) (h : k < l.length) (hf : placesB n (l.getD k (0, 0, 0)) = false) : noneB n l = true := by
  have e : l.getD k (0, 0, 0) = l[k] := by simp [h]
  unfold noneB; rw [List.any_eq_true]; exact ⟨l[k], List.getElem_mem h, by rw [← e, hf]; rfl⟩
set_option maxHeartbeats 2000000 in
theorem indexTri_any (b off cap : Nat) (l : List (Int × Int × Int)) (B : Nat) (pa : Option Addr) (n pc : Nat) (w : World) (hl : l.length ≤ 1000000000) (hb : b < w.heap.size) (hp : Tri3At w b off l) (hB : w.cell? ⟨B, 0, none⟩ = some (.slice pa n pc)) :
    Calls Tryz.prog 114 #[.slice (some ⟨b, off, none⟩) l.length cap, .func (.func 76) #[] #[.pointer (some ⟨B, 0, none⟩)]] w fun e w' =>
      (∃ r : Int, e = .returned (.int .i64 r) ∧ decide (0 ≤ r) = noneB n l) ∧ Below w.heap.size w w' := by
  have hBl := World.block_lt_of_cell? w _ hB
  have HF := Lib.hid (fun a b c W (h : Below w.heap.size w W) => fault1_any a b c B pa n pc W ((h.cell (p := ⟨B, 0, none⟩) hBl).trans hB))
  clear hB
  go_enter Tryz.func114, Tryz.ntmps114
  go_wp2
  go_loopw [8] (fun i wr => ∃ k : Nat, k ≤ l.length ∧ i = .int .i64 k ∧ noneB n (l.take k) = false ∧ Below w.heap.size w wr)
    (fun i _ => l.length - (intOf i).toNat)
  case atStart => exact ⟨0, Nat.zero_le _, rfl, rfl, Below.refl _ _⟩
  case round =>
    obtain ⟨k, hk, rfl, hno, hnx⟩ := hrel
    by_cases hlt : k < l.length
    · obtain ⟨c0, c1, c2⟩ := hp k hlt
      have hc0 := (hnx.cell (p := ⟨b, off + k * 3, none⟩) hb).trans c0
      have hc1 := (hnx.cell (p := ⟨b, off + k * 3 + 1, none⟩) hb).trans c1
      have hc2 := (hnx.cell (p := ⟨b, off + k * 3 + 2, none⟩) hb).trans c2
      have HC := Lib.hid (HF.out (l.getD k (0, 0, 0)).1 (l.getD k (0, 0, 0)).2.1 (l.getD k (0, 0, 0)).2.2 wr hnx)
      have HT : Hid (((l.getD k (0, 0, 0)).1, (l.getD k (0, 0, 0)).2.1, (l.getD k (0, 0, 0)).2.2) = l.getD k (0, 0, 0)) := rfl
      have HNO := Lib.hid hno
      have y4 : IntKind.i64.wrap ((k : Int) + 1) = (k : Int) + 1 := wrap_id (by omega) (by omega)
      clear c0 c1 c2 hno
      generalize (l.getD k (0, 0, 0)).1 = x at *
      generalize (l.getD k (0, 0, 0)).2.1 = y at *
      generalize (l.getD k (0, 0, 0)).2.2 = z at *
      obtain ⟨pb, epb⟩ : ∃ pb, placesB n (x, y, z) = pb := ⟨_, rfl⟩
      rw [epb] at HC
      have HPB : Hid (placesB n (l.getD k (0, 0, 0)) = pb) := by unfold Hid; rw [← HT.out]; exact epb
      clear epb
      cases pb with
      | false =>
        go_wp2_with (go_at_call 76; refine HC.out.mono ?_; rintro e w' ⟨rfl, hb1⟩)
        go_ret
        exact ⟨⟨k, rfl, by rw [noneB_hit n l k hlt HPB.out]; simp⟩, hnx.trans (hb1.mono hnx.size)⟩
      | true =>
        go_wp2_with (go_at_call 76; refine HC.out.mono ?_; rintro e w' ⟨rfl, hb1⟩)
        go_roundw
        case rel => exact ⟨k + 1, by omega, by go_num, by rw [noneB_succ n l k hlt, HNO.out, HPB.out]; rfl, hnx.trans (hb1.mono hnx.size)⟩
        case measure => simp [intOf]; omega
    · go_wp2
      go_ret
      rw [List.take_of_length_le (by omega)] at hno
      exact ⟨⟨-1, rfl, by rw [hno]; rfl⟩, hnx⟩
set_option maxHeartbeats 1000000 in
theorem indexTri_none (a : Option Addr) (cap : Nat) (f : Value) (w : World) : Calls Tryz.prog 114 #[.slice a 0 cap, f] w fun e w' => e = .returned (.int .i64 (-1)) ∧ w' = w := by
  go_enter Tryz.func114, Tryz.ntmps114
  go_wp2
  go_loopw [8] (fun i wr => i = .int .i64 0 ∧ wr = w) (fun _ _ => 0)
  case atStart => exact ⟨rfl, rfl⟩
  case round =>
    obtain ⟨rfl, rfl⟩ := hrel
    go_wp2
    go_ret
    exact ⟨rfl, rfl⟩
/-- a list of triangles in memory, or none -/
def TriRaw (w : World) (a : Option Addr) (l : List (Int × Int × Int)) : Prop := l = [] ∨ ∃ b off, a = some ⟨b, off, none⟩ ∧ b < w.heap.size ∧ Tri3At w b off l
theorem TriRaw.below {w w' : World} {a : Option Addr} {l : List (Int × Int × Int)} (h : TriRaw w a l) (hb : Below w.heap.size w w') : TriRaw w' a l := by
  rcases h with h | ⟨b, off, e, hlt, hp⟩
  · exact .inl h
  · exact .inr ⟨b, off, e, Nat.lt_of_lt_of_le hlt hb.size, fun j hj => ⟨(hb.cell (p := ⟨b, _, none⟩) hlt).trans (hp j hj).1, (hb.cell (p := ⟨b, _, none⟩) hlt).trans (hp j hj).2.1, (hb.cell (p := ⟨b, _, none⟩) hlt).trans (hp j hj).2.2⟩⟩
set_option maxHeartbeats 1000000 in
theorem containsTri_any (ta : Option Addr) (tc : Nat) (l : List (Int × Int × Int)) (B : Nat) (pa : Option Addr) (n pc : Nat) (w : World) (hl : l.length ≤ 1000000000) (hp : TriRaw w ta l) (hB : w.cell? ⟨B, 0, none⟩ = some (.slice pa n pc)) :
    Calls Tryz.prog 75 #[.slice ta l.length tc, .func (.func 76) #[] #[.pointer (some ⟨B, 0, none⟩)]] w fun e w' => e = .returned (.bool (noneB n l)) ∧ Below w.heap.size w w' := by
  have HI : Hid (Calls Tryz.prog 114 #[.slice ta l.length tc, .func (.func 76) #[] #[.pointer (some ⟨B, 0, none⟩)]] w fun e w' => (∃ r : Int, e = .returned (.int .i64 r) ∧ decide (0 ≤ r) = noneB n l) ∧ Below w.heap.size w w') := by
    rcases hp with rfl | ⟨b, off, rfl, hb, hp⟩
    · exact (indexTri_none ta tc _ w).mono fun e w' ⟨he, hw⟩ => ⟨⟨-1, he, rfl⟩, by rw [hw]; exact Below.refl _ _⟩
    · exact indexTri_any b off tc l B pa n pc w hl hb hp hB
  clear hp hB hl
  go_enter Tryz.func75, Tryz.ntmps75
  go_wp2_with (go_at_call 114; refine HI.out.mono ?_; rintro e w' ⟨⟨r, rfl, hr⟩, hb1⟩)
  go_ret
  exact ⟨by rw [← hr]; rfl, hb1⟩
end Go.Proofs.YtgpapegpdfonpaaGreatDoor
