/-
  Package text: strings.Cut at one byte; a word as a number.
-/
import Derived.Test.YtgpapegpdfonpaaGreatDoorShelfS
import Derived.Test.YtgpapegpdfonpaaGreatDoorKeptM
import Derived.Test.YtgpapegpdfonpaaGreatDoorOwnA
import Derived.Lib.AppendIntMem
import Derived.Lib.ItoaLen
import Derived.Lib.Hide
namespace Go.Proofs.YtgpapegpdfonpaaGreatDoor
set_option linter.unusedVariables false
set_option linter.unusedSimpArgs false
open Go.RowKit

/-- a string of these bytes -/
abbrev bs (l : List UInt8) : Value := .string ⟨l.toArray⟩
theorem bs_data (l : List UInt8) : (⟨l.toArray⟩ : ByteArray).data.toList = l := by simp
theorem bs_size (l : List UInt8) : (⟨l.toArray⟩ : ByteArray).size = l.length := by simp [ByteArray.size]
theorem idx_app {c : UInt8} {b : List UInt8} : ∀ {a : List UInt8}, c ∉ a → Lib.indexByte (a ++ c :: b) c = a.length
  | [], _ => by simp [Lib.indexByte]
  | x :: r, h => by
    simp only [List.mem_cons, not_or] at h
    have ih := idx_app (b := b) h.2
    simp only [List.cons_append, Lib.indexByte]
    rw [if_neg (by simpa using Ne.symm h.1), ih]
    rw [if_neg (by simp)]
    rfl
theorem idx_none {c : UInt8} : ∀ {s : List UInt8}, c ∉ s → Lib.indexByte s c = -1
  | [], _ => rfl
  | x :: r, h => by
    simp only [List.mem_cons, not_or] at h
    simp only [Lib.indexByte]
    rw [if_neg (by simpa using Ne.symm h.1), idx_none h.2]
    rfl
theorem ext_l (a b : List UInt8) (c : UInt8) : (⟨(a ++ c :: b).toArray⟩ : ByteArray).extract 0 a.length = ⟨a.toArray⟩ := by
  rw [Lib.extract_eq]; simp
theorem ext_r (a b : List UInt8) (c : UInt8) (n : Nat) (hn : n = (⟨(a ++ c :: b).toArray⟩ : ByteArray).size) : (⟨(a ++ c :: b).toArray⟩ : ByteArray).extract (a.length + 1) n = ⟨b.toArray⟩ := by
  subst hn
  rw [Lib.extract_eq, bs_size]
  congr 2
  have e : ((⟨(a ++ c :: b).toArray⟩ : ByteArray).data.toList.drop (a.length + 1)) = b := by simp
  rw [e]
  exact List.take_of_length_le (by simp; omega)

set_option maxRecDepth 100000 in
theorem index_one (s : ByteArray) (c : UInt8) (w : World) : Calls Tryz.prog 185 #[.string s, .string ⟨#[c]⟩] w fun e w' => e = .returned (.int .i64 (Lib.indexByte s.data.toList c)) ∧ w' = w :=
  Any.stringslite_Index_one Tryz.layIndex s c w
set_option maxHeartbeats 2000000 in
theorem scut_core (s : ByteArray) (c : UInt8) (n : Nat) (hix : Lib.indexByte s.data.toList c = n) (hn : n + 1 ≤ s.size) (hs : s.size ≤ 4611686018427387904) (w : World) :
    Calls Tryz.prog 169 #[.string s, .string ⟨#[c]⟩] w fun e w' => e = .returned (.tuple #[.string (s.extract 0 n), .string (s.extract (n + 1) s.size), .bool true]) ∧ ∃ n, w' = w.drewN n := by
  have c1 : (0 : Int) ≤ (n : Int) := by omega
  have c2 : (n : Int) ≤ (s.size : Int) := by omega
  have c3 : (0 : Int) ≤ (n : Int) + 1 := by omega
  have c4 : (n : Int) + 1 ≤ (s.size : Int) := by omega
  have c5 : IntKind.i64.wrap ((n : Int) + 1) = (n : Int) + 1 := wrap_id (by omega) (by omega)
  clear hn hs
  go_enter Tryz.func169, Tryz.ntmps169
  go_wp2_with (go_at_call 185; refine (index_one s c _).mono ?_; rintro e w' ⟨rfl, rfl⟩; rw [hix])
  go_region
  go_wp2
  go_ret3
  exact ⟨rfl, 1, rfl⟩
set_option maxHeartbeats 2000000 in
theorem scut_miss (s : ByteArray) (c : UInt8) (hix : Lib.indexByte s.data.toList c = -1) (w : World) :
    Calls Tryz.prog 169 #[.string s, .string ⟨#[c]⟩] w fun e w' => e = .returned (.tuple #[.string s, .string ⟨#[]⟩, .bool false]) ∧ ∃ n, w' = w.drewN n := by
  go_enter Tryz.func169, Tryz.ntmps169
  go_wp2_with (go_at_call 185; refine (index_one s c _).mono ?_; rintro e w' ⟨rfl, rfl⟩; rw [hix])
  go_ret3
  exact ⟨rfl, 0, rfl⟩
/-- strings.Cut at one byte -/
def cutV (c : UInt8) (l : List UInt8) : Value := match cutAt c l with
  | some q => .tuple #[bs q.1, bs q.2, .bool true]
  | none => .tuple #[bs l, bs [], .bool false]
theorem scut_any (c : UInt8) (l : List UInt8) (hl : l.length ≤ 4611686018427387904) (w : World) :
    Calls Tryz.prog 169 #[bs l, .string ⟨#[c]⟩] w fun e w' => e = .returned (cutV c l) ∧ ∃ n, w' = w.drewN n := by
  unfold cutV
  cases h : cutAt c l with
  | none =>
    exact scut_miss ⟨l.toArray⟩ c (by rw [bs_data]; exact idx_none (cutAt_none h)) w
  | some q =>
    obtain ⟨a, b⟩ := q
    obtain ⟨rfl, hn⟩ := cutAt_some h
    have hsz : (⟨(a ++ c :: b).toArray⟩ : ByteArray).size = a.length + b.length + 1 := by rw [bs_size]; simp; omega
    have := scut_core ⟨(a ++ c :: b).toArray⟩ c a.length (by rw [bs_data]; exact idx_app hn) (by rw [hsz]; omega) (by rw [bs_size]; exact hl) w
    rw [ext_l, ext_r a b c _ rfl] at this
    exact this
set_option maxHeartbeats 1000000 in
theorem cut_any (c : UInt8) (l : List UInt8) (hl : l.length ≤ 4611686018427387904) (w : World) :
    Calls Tryz.prog 144 #[bs l, .string ⟨#[c]⟩] w fun e w' => e = .returned (cutV c l) ∧ ∃ n, w' = w.drewN n := by
  have H := fun W => scut_any c l hl W
  unfold cutV at H ⊢
  clear hl
  cases h : cutAt c l with
  | none =>
    simp only [h] at H
    clear h
    go_enter Tryz.func144, Tryz.ntmps144
    go_wp2_with (go_at_call 169; refine (H _).mono ?_; rintro e w' ⟨rfl, n, rfl⟩)
    go_ret3
    exact ⟨rfl, n, rfl⟩
  | some q =>
    obtain ⟨a, b⟩ := q
    simp only [h] at H
    clear h
    go_enter Tryz.func144, Tryz.ntmps144
    go_wp2_with (go_at_call 169; refine (H _).mono ?_; rintro e w' ⟨rfl, n, rfl⟩)
    go_ret3
    exact ⟨rfl, n, rfl⟩

/-! ### the variables that strconv reads -/
structure Vars (w : World) : Prop where
  tab : Lib.TabIs Tryz.prog w "internal/strconv.uint64pow10" .u64 Lib.pow10Tab
  syn : ∃ ev, w.cell? ⟨4, 0, none⟩ = some ev ∧ (ev = .nilIface ∨ ∃ te pe, ev = .iface te pe)
  ran : ∃ ev, w.cell? ⟨5, 0, none⟩ = some ev ∧ (ev = .nilIface ∨ ∃ te pe, ev = .iface te pe)
theorem Vars.below {w w' : World} (h : Vars w) (hb : Below w.heap.size w w') : Vars w' := by
  obtain ⟨h1, ⟨e, h2, h3⟩, ⟨f, h4, h5⟩⟩ := h
  exact ⟨Lib.tabBelow_of_tabIs h1 w' hb, ⟨e, (hb.cell (World.block_lt_of_cell? w _ h2)).trans h2, h3⟩, ⟨f, (hb.cell (World.block_lt_of_cell? w _ h4)).trans h4, h5⟩⟩
end Go.Proofs.YtgpapegpdfonpaaGreatDoor
