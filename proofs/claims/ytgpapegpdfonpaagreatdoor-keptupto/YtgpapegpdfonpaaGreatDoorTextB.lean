/-
  Package text: a word as a number; a line of numbers.
-/
import Derived.Test.YtgpapegpdfonpaaGreatDoorTextA
namespace Go.Proofs.YtgpapegpdfonpaaGreatDoor
set_option linter.unusedVariables false
set_option linter.unusedSimpArgs false
open Go.RowKit

set_option maxRecDepth 100000 in
theorem parse_ok (s : ByteArray) (hs : s.size ≤ 9223372036854775806) (v : Int) (h : Lib.parseIntB 64 s.data.toList = .ok v) (w : World) : Calls Tryz.prog 186 #[.string s, .int .i64 10, .int .i64 64] w fun e w' => e = .returned (.tuple #[.int .i64 v, .nilIface]) ∧ Below w.heap.size w w' :=
  (Any.strconv_ParseInt_10_at64_ok Tryz.layParse s hs v h w).mono fun e w' ⟨he, hw⟩ => ⟨he, by
    rcases hw with rfl | ⟨t, rfl⟩
    · exact Below.refl _ _
    · exact Lib.bytesWorld_below _ _ _⟩
set_option maxRecDepth 100000 in
theorem parse_no (s : ByteArray) (hs : s.size ≤ 281474976710656) (h : ∀ v, Lib.parseIntB 64 s.data.toList ≠ .ok v) (w : World) (V : Vars w) : Calls Tryz.prog 186 #[.string s, .int .i64 10, .int .i64 64] w fun e w' => ∃ n N, e = .returned (.tuple #[.int .i64 n, .iface 260 (.pointer (some ⟨N, 0, none⟩))]) ∧ Below w.heap.size w w' := by
  cases hp : Lib.parseIntB 64 s.data.toList with
  | ok v => exact absurd hp (h v)
  | «syntax» =>
    obtain ⟨ev, h1, h2⟩ := V.syn
    exact (Any.strconv_ParseInt_10_at64_syntax Tryz.layParse s hs hp ev w h1 h2).mono fun e w' ⟨N, he, _, _, hb⟩ => ⟨0, N, he, hb⟩
  | range =>
    obtain ⟨ev, h1, h2⟩ := V.ran
    exact (Any.strconv_ParseInt_10_at64_range Tryz.layParse s hs hp ev w h1 h2).mono fun e w' ⟨N, he, _, _, hb⟩ => ⟨_, N, he, hb⟩
set_option maxRecDepth 100000 in
theorem format_any (n : Int) (h : J64 n) (w : World) (V : Vars w) : Calls Tryz.prog 187 #[.int .i64 n, .int .i64 10] w fun e w' => e = .returned (bs (Lib.itoa n)) ∧ Below w.heap.size w w' :=
  (Any.strconv_FormatInt_10 Tryz.layFormat n h.1 h.2 w V.tab).mono fun e w' ⟨he, k, os, hw⟩ => ⟨he, by
    rw [hw]
    exact Lib.below_grow _ _ (Nat.le_refl _) _ _⟩

/-- what number tells of a word -/
def numV (l : List UInt8) (n : Int) : Prop := ∀ m, numS l = some m → n = m
set_option maxHeartbeats 2000000 in
theorem number_any (l : List UInt8) (hl : l.length ≤ 281474976710656) (w : World) (V : Vars w) :
    Calls Tryz.prog 170 #[bs l] w fun e w' => ∃ n, e = .returned (.tuple #[.int .i64 n, .bool (numS l).isSome]) ∧ numV l n ∧ Below w.heap.size w w' := by
  have hsz : (⟨l.toArray⟩ : ByteArray).size ≤ 281474976710656 := by rw [bs_size]; exact hl
  cases hp : Lib.parseIntB 64 l with
  | ok v =>
    have HP := fun W => parse_ok ⟨l.toArray⟩ (by omega) v (by rw [bs_data]; exact hp) W
    have HF := fun W (hb : Below w.heap.size w W) => format_any v (parse_range hp) W (V.below hb)
    by_cases he : Lib.itoa v = l
    · have HN : Hid (numS l = some v) := by unfold Hid numS; rw [hp]; simp [he]
      rw [he] at HF
      clear hp he hsz hl V
      go_enter Tryz.func170, Tryz.ntmps170
      go_wp2_with (first
        | (go_at_call 186; refine (HP _).mono ?_; rintro e w1 ⟨rfl, hb1⟩)
        | (go_at_call 187; refine (HF _ hb1).mono ?_; rintro e w2 ⟨rfl, hb2⟩))
      go_ret2
      refine ⟨v, ?_, fun m hm => ?_, hb1.trans (hb2.mono hb1.size)⟩
      · rw [HN.out]; rfl
      · rw [HN.out] at hm; cases hm; rfl
    · have HN : Hid (numS l = none) := by unfold Hid numS; rw [hp]; simp [he]
      generalize Lib.itoa v = a at *
      have f1 : (a == l) = false := beq_eq_false_iff_ne.2 he
      clear hp he hsz hl V
      go_enter Tryz.func170, Tryz.ntmps170
      go_wp2_with (first
        | (go_at_call 186; refine (HP _).mono ?_; rintro e w1 ⟨rfl, hb1⟩)
        | (go_at_call 187; refine (HF _ hb1).mono ?_; rintro e w2 ⟨rfl, hb2⟩))
      go_ret2
      refine ⟨v, ?_, fun m hm => ?_, hb1.trans (hb2.mono hb1.size)⟩
      · rw [HN.out]; rfl
      · rw [HN.out] at hm; cases hm
  | _ =>
    have HN : Hid (numS l = none) := by unfold Hid numS; rw [hp]
    have HP := parse_no ⟨l.toArray⟩ hsz (by rw [bs_data, hp]; simp) w V
    clear hp hsz hl V
    go_enter Tryz.func170, Tryz.ntmps170
    go_wp2_with (first
      | (go_at_call 186; refine HP.mono ?_; rintro e w1 ⟨n, N, rfl, hb1⟩))
    go_ret2
    refine ⟨n, ?_, fun m hm => ?_, hb1⟩
    · rw [HN.out]; rfl
    · rw [HN.out] at hm; cases hm

/-! ### a line of numbers -/
theorem cutV_eq (c : UInt8) (l : List UInt8) : cutV c l = .tuple #[bs (cutD c l).1, bs (cutD c l).2, .bool (cutAt c l).isSome] := by
  unfold cutV cutD
  cases cutAt c l <;> rfl
theorem cutD_len (c : UInt8) (l : List UInt8) : (cutD c l).1.length ≤ l.length ∧ (cutD c l).2.length ≤ l.length := by
  unfold cutD
  cases h : cutAt c l with
  | none => simp
  | some q =>
    obtain ⟨a, b⟩ := q
    obtain ⟨rfl, _⟩ := cutAt_some h
    simp; omega
theorem nums_one {lo hi : Int} {l : List UInt8} : numsS lo hi 1 l = (numIn lo hi l).map ([·]) := by
  simp only [numsS]; cases numIn lo hi l <;> rfl
theorem nums_more {lo hi : Int} {j : Nat} {l : List UInt8} : numsS lo hi (j + 2) l = (numIn lo hi (cutD 32 l).1).bind fun n => (numsS lo hi (j + 1) (cutD 32 l).2).map (n :: ·) := by
  simp only [numsS]
  cases numIn lo hi (cutD 32 l).1 with
  | none => rfl
  | some n => cases numsS lo hi (j + 1) (cutD 32 l).2 <;> rfl
def F3 (w : World) (F : Nat) (ns : List Int) : Prop := w.heap[F]? = some (.cells #[.int .i64 (ns.getD 0 0), .int .i64 (ns.getD 1 0), .int .i64 (ns.getD 2 0)] 178 (0, 0))
theorem F3.put {w : World} {F : Nat} {ns : List Int} (h : F3 w F ns) (hl : ns.length < 3) (n : Int) : F3 (w.setCell ⟨F, ns.length, none⟩ (.int .i64 n)) F (ns ++ [n]) := by
  unfold F3 at *
  have := heap_setCell_same w F ns.length _ _ (.int .i64 n) h
  rw [this]
  match ns, hl with
  | [], _ => rfl
  | [a], _ => rfl
  | [a, b], _ => rfl
end Go.Proofs.YtgpapegpdfonpaaGreatDoor
