/-
  Triangulate.
-/
import Derived.Test.YtgpapegpdfonpaaGreatDoorJoinK
namespace Go.Proofs.YtgpapegpdfonpaaGreatDoor
set_option linter.unusedVariables false
set_option linter.unusedSimpArgs false
open Go.RowKit Go.Maps

set_option maxHeartbeats 800000 in
theorem triang_many (a : Option Addr) (n cap : Nat) (w : World) (h : 60 < n) :
    Calls Tryz.prog 12 #[.slice a n cap] w fun e w' => e = .returned (.tuple #[.slice none 0 0, .int .i64 2]) ∧ RowKit.Below w.heap.size w w' := by
  go_enter Tryz.func12, Tryz.ntmps12
  go_wp2_with (go_at_call 26; refine (fault_many a n cap _ h).mono ?_; rintro e w1 ⟨rfl, rfl⟩)
  go_ret2
  exact ⟨rfl, RowKit.Below.refl _ _⟩

set_option maxHeartbeats 800000 in
theorem triang_fault (b off cap : Nat) (l : List Pt) (n : Nat) (w : World) (hn : l.length = n + 1) (hl : l.length ≤ 60) (hb : b < w.heap.size) (hp : PtsAt w b off l) (hf : faultN l ≠ 0) :
    Calls Tryz.prog 12 #[.slice (some ⟨b, off, none⟩) l.length cap] w fun e w' => e = .returned (.tuple #[.slice none 0 0, .int .i64 (faultN l)]) ∧ RowKit.Below w.heap.size w w' := by
  have HF := fault_any b off cap l n w hn hl hb hp
  have hf' : (faultN l != 0) = true := by simpa using hf
  clear hn hf
  generalize faultN l = f at *
  go_enter Tryz.func12, Tryz.ntmps12
  go_wp2_with (go_at_call 26; refine HF.mono ?_; rintro e w1 ⟨rfl, hb1⟩)
  go_ret2
  exact ⟨rfl, hb1⟩

set_option maxHeartbeats 800000 in
theorem triang_any (b off cap : Nat) (l : List Pt) (n : Nat) (w : World) (hn : l.length = n + 1) (hb : b < w.heap.size) (hp : PtsAt w b off l) (hf : faultN l = 0) :
    Calls Tryz.prog 12 #[.slice (some ⟨b, off, none⟩) l.length cap] w fun e w' =>
      ∃ v ts, e = .returned (.tuple #[v, .int .i64 0]) ∧ w'.ownsRow w.heap.size 53 3 v ts.length (flatT ts) ∧ TriSpec l ts ∧ ts.length ≤ 4000 ∧ RowKit.Below w.heap.size w w' := by
  obtain ⟨hl, hfar, hnd⟩ := fault_zero hf
  have hnear := near_of_far hfar
  have HF := fault_any b off cap l n w hn hl hb hp
  rw [hf] at HF
  have HO := fun W (hb' : b < W.heap.size) (hp' : PtsAt W b off l) => order_any b off cap l n W hn hl hb' hp'
  have HC : ∀ B g is W, InOrder l is → AskAt W B b off cap l → g < W.heap.size → NatsAt W g 0 is → Calls Tryz.prog 27 #[.slice (some ⟨g, 0, none⟩) l.length l.length, askV B] W _ := fun B g is W hio A hg his => by
    have := tris_any B b off cap g l.length l is W hl hio hnd A hnear hg his
    rw [hio.len] at this
    exact this
  clear hn hf hfar
  go_enter Tryz.func12, Tryz.ntmps12
  go_wp2_with (first
    | (go_at_call 26; refine HF.mono ?_; rintro e w1 ⟨rfl, hb1⟩)
    | (go_at_call 28; refine (HO _ (Nat.lt_of_lt_of_le hb hb1.size) (hp.below hb1 hb)).mono ?_; rintro e w2 ⟨g, is, rfl, hg, hgs, hb2, hns, hfz, hio⟩)
    | (go_at_call 17; refine (askOf_any _ _ _ _).mono ?_; rintro e w3 ⟨B, hB1, hB2, hcB, rfl, hb3⟩
       have hW3 : RowKit.Below w.heap.size w w3 := (hb1.trans (hb2.mono hb1.size)).trans (hb3.mono (hb1.trans (hb2.mono hb1.size)).size)
       have A : AskAt w3 B b off cap l := ⟨hB2, Nat.lt_of_lt_of_le hb hW3.size, hcB, hp.below hW3 hb⟩
       have hns3 := hns.below hb3 hgs
       have hg3 : g < w3.heap.size := Nat.lt_of_lt_of_le hgs hb3.size)
    | (go_at_call 27; refine (HC B g is _ hio A hg3 hns3).mono ?_; rintro e w4 ⟨v, ts, rfl, hown, hspec, hlen, hb4⟩))
  go_ret2
  exact ⟨v, ts, rfl, ownS_mono hown hW3.size, hspec, hlen, hW3.trans (hb4.mono hW3.size)⟩

set_option maxHeartbeats 800000 in
theorem triang_none (a : Option Addr) (cap : Nat) (w : World) :
    Calls Tryz.prog 12 #[.slice a 0 cap] w fun e w' => e = .returned (.tuple #[.slice none 0 0, .int .i64 0]) ∧ RowKit.Below w.heap.size w w' := by
  go_enter Tryz.func12, Tryz.ntmps12
  go_wp2_with (first
    | (go_at_call 26; refine (fault_none a cap _).mono ?_; rintro e w1 ⟨rfl, hb1⟩)
    | (go_at_call 28; refine (order_none a cap _).mono ?_; rintro e w2 ⟨g, rfl, hg, hgs, hb2⟩)
    | (go_at_call 17; refine (askOf_any _ _ _ _).mono ?_; rintro e w3 ⟨B, hB1, hB2, hcB, rfl, hb3⟩
       have hW3 : RowKit.Below w.heap.size w w3 := (hb1.trans (hb2.mono hb1.size)).trans (hb3.mono (hb1.trans (hb2.mono hb1.size)).size))
    | (go_at_call 27; refine (tris_none B g _ _).mono ?_; rintro e w4 ⟨rfl, hb4⟩))
  go_ret2
  exact ⟨rfl, hW3.trans (hb4.mono hW3.size)⟩
end Go.Proofs.YtgpapegpdfonpaaGreatDoor
