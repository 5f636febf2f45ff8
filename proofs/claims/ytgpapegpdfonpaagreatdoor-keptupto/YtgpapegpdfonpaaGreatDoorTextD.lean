/-
  Package text: the next line.
-/
import Derived.Test.YtgpapegpdfonpaaGreatDoorTextC
namespace Go.Proofs.YtgpapegpdfonpaaGreatDoor
set_option linter.unusedVariables false
set_option linter.unusedSimpArgs false
open Go.RowKit
attribute [local go_sem ↓] Go.wp_at_zero Go.wp_at_succ

/-- what is left of a text, and how many lines were read -/
def LAt (w : World) (R : Nat) (s : List UInt8) (n : Int) : Prop := w.heap[R]? = some (.cells #[bs s, .int .i64 n] 129 (0, 0))
theorem LAt.below {w w' : World} {R : Nat} {s : List UInt8} {n : Int} (h : LAt w R s n) (hb : Below w.heap.size w w') : LAt w' R s n := (hb.block R (lt_some h)).trans h
theorem LAt.cells {w : World} {R : Nat} {s : List UInt8} {n : Int} (h : LAt w R s n) : w.cell? ⟨R, 0, none⟩ = some (bs s) ∧ w.cell? ⟨R, 1, none⟩ = some (.int .i64 n) ∧ ∀ j, w.frozen? ⟨R, j, none⟩ = false :=
  ⟨cell_of_heap h 0, cell_of_heap h 1, fun j => frozen_of_heap h j⟩
theorem LAt.put0 {w : World} {R : Nat} {s : List UInt8} {n : Int} (h : LAt w R s n) (s' : List UInt8) : LAt (w.setCell ⟨R, 0, none⟩ (bs s')) R s' n := by
  unfold LAt at *
  rw [heap_setCell_same w R 0 _ _ (bs s') h]; rfl
theorem LAt.put1 {w : World} {R : Nat} {s : List UInt8} {n : Int} (h : LAt w R s n) (n' : Int) : LAt (w.setCell ⟨R, 1, none⟩ (.int .i64 n')) R s n' := by
  unfold LAt at *
  rw [heap_setCell_same w R 1 _ _ (.int .i64 n') h]; rfl
theorem Chg.setAt {F : Nat → Prop} {w w' : World} (h : Chg F w w') {R o : Nat} (hR : F R ∨ w.heap.size ≤ R) (v : Value) : Chg F w (w'.setCell ⟨R, o, none⟩ v) :=
  ⟨h.os, h.tape, h.output, by simpa using h.size, fun k hk hF => by
    have hne : k ≠ R := by
      rintro rfl
      rcases hR with hR | hR
      · exact hF hR
      · omega
    rw [Below.heap_setCell _ _ _ _ hne]; exact h.far k hk hF⟩
theorem gTab : Tryz.prog.globalNamed "internal/strconv.uint64pow10" = some 0 := by kernel_rfl
theorem Vars.below6 {w w' : World} (h : Vars w) (hb : Below 6 w w') : Vars w' := by
  obtain ⟨h1, ⟨e, h2, h3⟩, ⟨f, h4, h5⟩⟩ := h
  refine ⟨?_, ⟨e, (hb.cell (p := ⟨4, 0, none⟩) (by decide)).trans h2, h3⟩, ⟨f, (hb.cell (p := ⟨5, 0, none⟩) (by decide)).trans h4, h5⟩⟩
  have e0 := hb.block 0 (by decide)
  unfold Lib.TabIs World.var? at *
  rw [gTab] at h1 ⊢
  simp only [Option.bind_some] at h1 ⊢
  rw [e0]; exact h1
def nextP (lo hi : Int) (k : Nat) (s : List UInt8) (x y z : Int) (s' : List UInt8) : Prop := ∀ ns b, lineS lo hi k s = some (ns, b) → x = ns.getD 0 0 ∧ y = ns.getD 1 0 ∧ z = ns.getD 2 0 ∧ s' = b
structure NextPost (w w' : World) (R : Nat) (lo hi : Int) (k : Nat) (s : List UInt8) (n x y z : Int) (s' : List UInt8) : Prop where
  val : nextP lo hi k s x y z s'
  len : s'.length ≤ s.length
  at' : LAt w' R s' (n + 1)
  chg : Chg (fun k => k = R) w w'
set_option maxRecDepth 100000 in
set_option maxHeartbeats 4000000 in
theorem next_any (R : Nat) (s : List UInt8) (n : Int) (k : Nat) (lo hi : Int) (w : World) (V : Vars w) (hR : LAt w R s n) (hR6 : 6 ≤ R) (hs : s.length ≤ 281474976710656) (hn0 : 0 ≤ n) (hn : n ≤ 281474976710656) (hk0 : 0 < k) (hk : k ≤ 3) :
    Calls Tryz.prog 116 #[.pointer (some ⟨R, 0, none⟩), .int .i64 k, .int .i64 lo, .int .i64 hi] w fun e w' => ∃ x y z s', e = .returned (.tuple #[.agg #[.int .i64 x, .int .i64 y, .int .i64 z], .bool (lineS lo hi k s).isSome]) ∧ NextPost w w' R lo hi k s n x y z s' := by
  have hRl := lt_some hR
  have hb0 := below1 w (.cells #[.int .i64 0, .int .i64 0, .int .i64 0] 178)
  have yn : IntKind.i64.wrap (n + 1) = n + 1 := wrap_id (by omega) (by omega)
  generalize hW : w.alloc (.cells #[.int .i64 0, .int .i64 0, .int .i64 0] 178) = W at *
  have hQ : F3 W w.heap.size [] := by rw [← hW]; exact heap_alloc_new _ _
  have hR1 := hR.below hb0
  obtain ⟨r0, r1, rf⟩ := hR1.cells
  have rf1 := rf 1
  have HR2 := Lib.hid (hR1.put1 (n + 1))
  have hC2 : Chg (fun k => k = R) w (W.setCell ⟨R, 1, none⟩ (.int .i64 (n + 1))) := Chg.setAt (F := fun k => k = R) (Chg.of_below hb0) (.inl rfl) _
  have HC2 := Lib.hid hC2
  have hQ2 : F3 (W.setCell ⟨R, 1, none⟩ (.int .i64 (n + 1))) w.heap.size [] := by unfold F3; rw [Below.heap_setCell _ _ _ _ (show w.heap.size ≠ R by omega)]; exact hQ
  have HQ2 := Lib.hid hQ2
  have HV2 : Hid (Vars (W.setCell ⟨R, 1, none⟩ (.int .i64 (n + 1)))) := V.below6 (hC2.below (by omega) fun k hk hF => by omega)
  have HCU := Lib.hid (fun W => cut_any 10 s (by omega) W)
  have HS := Lib.hid hs
  have HK := Lib.hid (And.intro hk0 hk)
  have HN := Lib.hid (And.intro hRl hR6)
  clear hQ hR1 rf hC2 hQ2 V hs hk0 hk hb0 hR
  go_enter Tryz.func116, Tryz.ntmps116
  go_upto_region 1 with fail
  clear hW
  go_upto_region 2 with fail
  clear r0 r1 rf1 yn
  generalize W.setCell ⟨R, 1, none⟩ (.int .i64 (n + 1)) = W2 at *
  obtain ⟨r0, r1, rf⟩ := HR2.out.cells
  have hcd := cutD_len 10 s
  have HCU2 : Hid (∀ W, Calls Tryz.prog 144 #[bs s, .string ⟨#[10]⟩] W fun e w' => e = .returned (.tuple #[bs (cutD 10 s).1, bs (cutD 10 s).2, .bool (cutAt 10 s).isSome]) ∧ ∃ n, w' = W.drewN n) := fun W => by have := HCU.out W; rw [cutV_eq] at this; exact this
  have HD : Hid (∀ q, cutAt 10 s = some q → cutD 10 s = q) := fun q hq => by unfold cutD; rw [hq]; rfl
  obtain ⟨p1, e1⟩ : ∃ p1, (cutD 10 s).1 = p1 := ⟨_, rfl⟩
  obtain ⟨p2, e2⟩ : ∃ p2, (cutD 10 s).2 = p2 := ⟨_, rfl⟩
  obtain ⟨fnd, e3⟩ : ∃ fnd, (cutAt 10 s).isSome = fnd := ⟨_, rfl⟩
  rw [e1, e2, e3] at HCU2
  rw [e1, e2] at hcd
  have HE := Lib.hid (And.intro e1 (And.intro e2 e3))
  have HCD := Lib.hid hcd
  have rf0 := rf 0
  clear e1 e2 e3 HCU hcd rf
  go_upto_region 3 with (first | (go_at_call 144; refine (HCU2.out _).mono ?_; rintro e w' ⟨rfl, q, rfl⟩))
  have hbq : Below W2.heap.size W2 (W2.drewN q) := below_drewN (Below.refl _ _)
  have HR3 := Lib.hid (HR2.out.below hbq)
  have HQ3 := Lib.hid (HQ2.out.below hbq)
  have HV3 := Lib.hid (HV2.out.below hbq)
  have HC3 : Hid (Chg (fun k => k = R) w (W2.drewN q)) := HC2.out.drewN
  clear HR2 HQ2 HV2 HC2 hbq HCU2 r0 r1 rf0
  generalize W2.drewN q = W3 at *
  cases fnd with
  | false =>
    have hL : Hid (lineS lo hi k s = none) := by
      have : cutAt 10 s = none := by have := HE.out.2.2; cases h : cutAt 10 s <;> simp_all
      unfold Hid lineS; rw [this]
    obtain ⟨z0, z1, z2, zf⟩ := HQ3.out.cells
    have g0 := zf 0
    have g1 := zf 1
    have g2 := zf 2
    clear zf
    have HR4 : Hid (LAt (((W3.setCell ⟨w.heap.size, 0, none⟩ (.int .i64 0)).setCell ⟨w.heap.size, 1, none⟩ (.int .i64 0)).setCell ⟨w.heap.size, 2, none⟩ (.int .i64 0)) R s (n + 1)) := by
      have hne : R ≠ w.heap.size := by have := HN.out.1; omega
      unfold Hid LAt
      rw [Below.heap_setCell _ _ _ _ hne, Below.heap_setCell _ _ _ _ hne, Below.heap_setCell _ _ _ _ hne]
      exact HR3.out
    have HC4 : Hid (Chg (fun k => k = R) w (((W3.setCell ⟨w.heap.size, 0, none⟩ (.int .i64 0)).setCell ⟨w.heap.size, 1, none⟩ (.int .i64 0)).setCell ⟨w.heap.size, 2, none⟩ (.int .i64 0))) :=
      ((HC3.out.setAt (.inr (Nat.le_refl _)) _).setAt (.inr (Nat.le_refl _)) _).setAt (.inr (Nat.le_refl _)) _
    go_wp2
    refine bodyPost_ret (v := .tuple #[.agg #[.int .i64 0, .int .i64 0, .int .i64 0], .bool false]) (by simp [results, Tryz.results116, go_sem, z0, z1, z2]) rfl ⟨0, 0, 0, s, ?_, ?_, Nat.le_refl _, HR4.out, HC4.out⟩
    · rw [hL.out]; rfl
    · intro ns b h; rw [hL.out] at h; cases h
  | true =>
    have hCut : Hid (cutAt 10 s = some (p1, p2)) := by
      obtain ⟨h1, h2, h3⟩ := HE.out
      obtain ⟨qq, hq⟩ := Option.isSome_iff_exists.1 h3
      have := HD.out qq hq
      rw [this] at h1 h2
      unfold Hid
      rw [hq, ← h1, ← h2]
    have HR4 := Lib.hid (HR3.out.put0 p2)
    obtain ⟨r0, r1, rf⟩ := HR3.out.cells
    have rf0 := rf 0
    have hC4 : Chg (fun k => k = R) w (W3.setCell ⟨R, 0, none⟩ (bs p2)) := HC3.out.setAt (.inl rfl) _
    have HC4 := Lib.hid hC4
    have HQ4 : Hid (F3 (W3.setCell ⟨R, 0, none⟩ (bs p2)) w.heap.size []) := by
      have hne : w.heap.size ≠ R := by have := HN.out.1; omega
      unfold Hid F3; rw [Below.heap_setCell _ _ _ _ hne]; exact HQ3.out
    have hV4 : Vars (W3.setCell ⟨R, 0, none⟩ (bs p2)) := HV3.out.below6 ⟨rfl, rfl, rfl, by simp, fun j hj => Below.heap_setCell _ _ _ _ (by have := HN.out.2; show j ≠ R; omega)⟩
    have HNU := Lib.hid (numbers_any p1 (by have := HCD.out; have := HS.out; omega) k HK.out.1 HK.out.2 lo hi _ hV4)
    obtain ⟨okB, eo⟩ : ∃ okB, (numsS lo hi k p1).isSome = okB := ⟨_, rfl⟩
    rw [eo] at HNU
    have HO := Lib.hid eo
    clear rf eo hC4 hV4 HV3 HC3 HR3 HQ3
    go_upto_region 6 with fail
    clear r0 r1 rf0
    generalize W3.setCell ⟨R, 0, none⟩ (bs p2) = W4 at *
    obtain ⟨z0, z1, z2, zf⟩ := HQ4.out.cells
    have g0 := zf 0
    have g1 := zf 1
    have g2 := zf 2
    have hQl := lt_some HQ4.out
    clear zf
    go_wp2_with (first | (go_at_call 145; refine HNU.out.mono ?_; rintro e w5 ⟨x, y, z, rfl, hnp, hb5⟩
                          have z0 := (hb5.cell (p := ⟨w.heap.size, 0, none⟩) hQl).trans z0
                          have z1 := (hb5.cell (p := ⟨w.heap.size, 1, none⟩) hQl).trans z1
                          have z2 := (hb5.cell (p := ⟨w.heap.size, 2, none⟩) hQl).trans z2
                          have fz : ∀ j, w5.frozen? ⟨w.heap.size, j, none⟩ = false := fun j => frozen_of_heap (HQ4.out.below hb5) j
                          have g0 := fz 0
                          have g1 := fz 1
                          have g2 := fz 2))
    refine bodyPost_ret (v := .tuple #[.agg #[.int .i64 x, .int .i64 y, .int .i64 z], .bool okB]) (by simp [results, Tryz.results116, go_sem, z0, z1, z2]) rfl ⟨x, y, z, p2, ?_, ?_, HCD.out.2, ?_, ?_⟩
    · have : (lineS lo hi k s).isSome = okB := by
        rw [← HO.out]
        unfold lineS; rw [hCut.out]
        simp only
        cases numsS lo hi k p1 <;> rfl
      rw [this]
    · intro ns b h
      unfold lineS at h
      rw [hCut.out] at h
      simp only at h
      cases hms : numsS lo hi k p1 with
      | none => rw [hms] at h; cases h
      | some ms =>
        rw [hms] at h
        cases h
        obtain ⟨a1, a2, a3⟩ := hnp _ hms
        exact ⟨a1, a2, a3, rfl⟩
    · have hne : R ≠ w.heap.size := by have := HN.out.1; omega
      unfold LAt
      rw [Below.heap_setCell _ _ _ _ hne, Below.heap_setCell _ _ _ _ hne, Below.heap_setCell _ _ _ _ hne]
      exact HR4.out.below hb5
    · exact ((((HC4.out.trans (Chg.of_below hb5) fun _ _ h => h).setAt (.inr (Nat.le_refl _)) _).setAt (.inr (Nat.le_refl _)) _).setAt (.inr (Nat.le_refl _)) _)
end Go.Proofs.YtgpapegpdfonpaaGreatDoor
