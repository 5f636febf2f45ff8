/-
  Read of the program.
-/
import Derived.Test.YtgpapegpdfonpaaGreatDoorTextG
namespace Go.Proofs.YtgpapegpdfonpaaGreatDoor
set_option linter.unusedVariables false
set_option linter.unusedSimpArgs false
open Go.RowKit

def ReadR4 (w w' : World) (s : List UInt8) (v u : Value) (x n : Int) : Prop := match readS s with
  | .inl q => x = 0 ∧ n = 0 ∧ w'.ownsRow w.heap.size 37 2 v q.1.length (cellsP (ptsOf q.1)) ∧ w'.ownsRow w.heap.size 53 3 u q.2.length (triCells q.2)
  | .inr k => x = 5 ∧ n = k ∧ v = .slice none 0 0 ∧ u = .slice none 0 0
set_option maxHeartbeats 1000000 in
theorem read_any (s : List UInt8) (w : World) (V : Vars w) (hs : s.length ≤ 1000000000) :
    Calls Tryz.prog 14 #[bs s] w fun e w' => ∃ v u x n, e = .returned (.tuple #[v, u, .int .i64 x, .int .i64 n]) ∧ ReadR4 w w' s v u x n ∧ Below w.heap.size w w' := by
  have HT := Lib.hid (tread_any s w V hs)
  clear V hs
  cases hr : readS s with
  | inl q =>
    have HR := Lib.hid hr
    clear hr
    go_enter Tryz.func14, Tryz.ntmps14
    go_upto_region 2 with (first | (go_at_call 31; refine HT.out.mono ?_; rintro e w1 ⟨v, u, n, rfl, hp, hb⟩))
    unfold ReadPost at hp
    rw [HR.out] at hp
    obtain ⟨rfl, h1, h2⟩ := hp
    go_wp2
    refine bodyPost_ret (v := .tuple #[v, u, .int .i64 0, .int .i64 0]) (by simp [results, Tryz.results14, go_sem]) rfl ⟨v, u, 0, 0, rfl, ?_, hb⟩
    unfold ReadR4
    rw [HR.out]
    exact ⟨rfl, rfl, h1, h2⟩
  | inr k =>
    have HR := Lib.hid hr
    clear hr
    go_enter Tryz.func14, Tryz.ntmps14
    go_upto_region 2 with (first | (go_at_call 31; refine HT.out.mono ?_; rintro e w1 ⟨v, u, n, rfl, hp, hb⟩))
    unfold ReadPost at hp
    rw [HR.out] at hp
    obtain ⟨rfl, hk, rfl, rfl⟩ := hp
    have hn : ((k : Int) != 0) = true := by simp; omega
    go_wp2
    refine bodyPost_ret (v := .tuple #[.slice none 0 0, .slice none 0 0, .int .i64 5, .int .i64 (k : Int)]) (by simp [results, Tryz.results14, go_sem]) rfl ⟨.slice none 0 0, .slice none 0 0, 5, k, rfl, ?_, hb⟩
    unfold ReadR4
    rw [HR.out]
    exact ⟨rfl, rfl, rfl, rfl⟩
end Go.Proofs.YtgpapegpdfonpaaGreatDoor
