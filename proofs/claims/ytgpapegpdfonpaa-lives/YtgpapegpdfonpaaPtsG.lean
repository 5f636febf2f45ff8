/-
  mesh.Points.triangles, Nearest; the Mesh's own calls that hand on.
-/
import Derived.Test.YtgpapegpdfonpaaPtsB
import Derived.Deep.CutRange
import Derived.BigRegion
import Derived.BigQuiet
import Derived.Deep.DeepCutAuto
import Derived.Deep.CutBlock
namespace Go.Proofs.Ytgpapegpdfonpaa
set_option linter.unusedVariables false
set_option linter.unusedSimpArgs false
open Go.RowKit
attribute [local go_sem ↓] Go.wp_at_zero Go.wp_at_succ

/-! ### triangles, by places -/
set_option maxRecDepth 100000 in
set_option maxHeartbeats 4000000 in
theorem ptris_any (m : Nat) (pts : List Pt) (nums : List Int) (ever : Nat) (vA vN : Value) (w : World) (H : PRow w m pts nums ever vA vN) (hOk : MOk pts nums ever) :
    Calls Try.prog 76 #[.pointer (some ⟨m, 0, none⟩)] w fun e w' =>
      ∃ v ts, e = .returned v ∧ w'.ownsRow w.heap.size 42 3 v ts.length (flatT ts) ∧ TriSpec pts ts ∧ ts.length ≤ 4000 ∧ Below w.heap.size w w' := by
  obtain ⟨pa, pc, rfl⟩ := ownS_any H.ownA
  have HNEAR : Hid (AllNear pts) := hOk.near
  have HND : Hid (pts.Nodup) := hOk.nd
  have hle := hOk.le
  have c0 := H.cells.1
  have hm := H.lt
  by_cases h0 : pts = []
  · subst h0
    clear H hOk
    go_enter Try.func76, Try.ntmps76
    go_wp2_with fail
    go_region_held3 (fun w' => Below w.heap.size w w' ∧ ∀ b o, b < w.heap.size → w'.cell? ⟨b, o, none⟩ = w.cell? ⟨b, o, none⟩) (first | exact keep0 _ | exact keep1 (by assumption) hb1)
      (first
        | (go_at_call 26; refine (order_none _ _ _).mono ?_; rintro e w2 ⟨g, rfl, hg, hgs, hb1⟩)
        | (go_at_call 27; refine (askOf_any _ _ _ _).mono ?_; rintro e w3 ⟨B, hB1, hB2, hcB, rfl, hb1⟩)
        | (go_at_call 28; refine (tris_none _ _ _ _).mono ?_; rintro e w4 ⟨rfl, hb1⟩))
    rename_i hS
    have HB : Hid (Below w.heap.size w w4) := hS.1
    clear hS
    go_wp2
    go_ret
    exact ⟨_, [], rfl, ⟨rfl, .inl ⟨rfl, rfl⟩⟩, ⟨[], ⟨List.Perm.refl _, (fun i j _ h => by cases h)⟩, .inl ⟨(fun j _ h => by cases h), rfl⟩⟩, by simp, HB.out⟩
  · obtain ⟨n, hn⟩ : ∃ n, pts.length = n + 1 := ⟨pts.length - 1, by have := List.length_pos_iff.2 h0; omega⟩
    obtain ⟨b, off, rfl, hb, hp⟩ : ∃ b off, pa = some ⟨b, off, none⟩ ∧ b < w.heap.size ∧ PtsAt w b off pts := (RowP.raw' H.ownA).resolve_left h0
    have HP : Hid (PtsAt w b off pts) := hp
    have HO := order_any b off pc pts n w.drew hn hle hb hp
    have HC : ∀ B g is W, InOrder pts is → AskAt W B b off pc pts → g < W.heap.size → NatsAt W g 0 is → Calls Try.prog 28 #[.slice (some ⟨g, 0, none⟩) pts.length pts.length, askV B] W _ := fun B g is W hio A hg his => by
      have := tris_any B b off pc g pts.length pts is W hle hio HND.out A HNEAR.out hg his
      rw [hio.len] at this
      exact this
    clear H hOk hp hn h0
    go_enter Try.func76, Try.ntmps76
    go_wp2_with fail
    go_region_held3 (fun w' => Below w.heap.size w w' ∧ ∀ b o, b < w.heap.size → w'.cell? ⟨b, o, none⟩ = w.cell? ⟨b, o, none⟩) (first | exact keep0 _ | exact keep1 (by assumption) hb1)
      (first
        | (go_at_call 26; refine HO.mono ?_; rintro e w2 ⟨g, is, rfl, hg, hgs, hb1, hns, hfz, hio⟩
           have hbO : Below w.heap.size w w2 := ⟨hb1.os, hb1.tape, hb1.output, hb1.size, hb1.block⟩)
        | (go_at_call 27; refine (askOf_any _ _ _ _).mono ?_; rintro e w3 ⟨B, hB1, hB2, hcB, rfl, hb1⟩
           have hbA := hb1
           have hW3 : Below w.heap.size w w3 := hbO.trans (hb1.mono hbO.size)
           have HA : Hid (AskAt w3 B b off pc pts) := ⟨hB2, Nat.lt_of_lt_of_le hb hW3.size, hcB, HP.out.below hW3 hb⟩
           have HNS : Hid (NatsAt w3 g 0 is) := hns.below hbA hgs
           have hg3 : g < w3.heap.size := Nat.lt_of_lt_of_le hgs hbA.size)
        | (go_at_call 28; refine (HC B g is _ hio HA.out hg3 HNS.out).mono ?_; rintro e w4 ⟨v, ts, rfl, hown, hspec, hlen, hb1⟩))
    rename_i hS
    have HR : Hid (w4.ownsRow w.heap.size 42 3 v ts.length (flatT ts) ∧ TriSpec pts ts ∧ ts.length ≤ 4000 ∧ Below w.heap.size w w4) := ⟨ownS_mono hown hW3.size, hspec, hlen, hS.1⟩
    clear hS hown hspec hlen hb1 hcB hns hfz hio HC HO
    go_wp2
    go_ret
    exact ⟨v, ts, rfl, HR.out⟩

end Go.Proofs.Ytgpapegpdfonpaa
