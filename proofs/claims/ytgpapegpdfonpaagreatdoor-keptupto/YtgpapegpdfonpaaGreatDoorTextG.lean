/-
  Package text: Read.
-/
import Derived.Test.YtgpapegpdfonpaaGreatDoorTextF
import Derived.BigQuiet
namespace Go.Proofs.YtgpapegpdfonpaaGreatDoor
set_option linter.unusedVariables false
set_option linter.unusedSimpArgs false
open Go.RowKit
attribute [local go_sem ↓] Go.wp_at_zero Go.wp_at_succ

abbrev hd1 (s : List UInt8) := headRows 0 60 (-8000) 8000 2 s
abbrev hd2 (s : List UInt8) := headRows 0 (mostT (hd1 s).1.length) 0 (((hd1 s).1.length : Int) - 1) 3 (hd1 s).2.1
theorem readS_bad1 {s : List UInt8} (h : (hd1 s).2.2.1 = false) : readS s = .inr (hd1 s).2.2.2 := by
  unfold readS readP
  unfold hd1 headRows at *
  cases hl : lineS 0 60 1 s with
  | none => rfl
  | some q =>
    rw [hl] at h
    simp only at h ⊢
    rcases hr : rowsS (-8000) 8000 2 (q.1.getD 0 0).toNat q.2 with ⟨ps, b, ok⟩
    rw [hr] at h
    simp only at h ⊢
    subst h
    simp
theorem readS_one {s : List UInt8} (h : (hd1 s).2.2.1 = true) : readP s = readT (hd1 s).1 (hd1 s).2.1 ∧ (hd1 s).2.2.2 = (hd1 s).1.length + 1 ∧ (hd1 s).1.length ≤ 60 := by
  unfold readP
  unfold hd1 headRows at *
  cases hl : lineS 0 60 1 s with
  | none => rw [hl] at h; cases h
  | some q =>
    rw [hl] at h
    simp only at h ⊢
    rcases hr : rowsS (-8000) 8000 2 (q.1.getD 0 0).toNat q.2 with ⟨ps, b, ok⟩
    rw [hr] at h
    simp only at h ⊢
    subst h
    refine ⟨rfl, by simp, ?_⟩
    obtain ⟨ns, b0⟩ := q
    obtain ⟨f1, f2, f3⟩ := lineS_iff.1 hl
    obtain ⟨g1, _, _⟩ := (rowsS_iff _ _ _ _).1 hr
    match ns, f1 with
    | [m], _ =>
      have := f2 m (by simp)
      simp at g1
      omega
theorem readS_bad2 {s : List UInt8} (h1 : (hd1 s).2.2.1 = true) (h : (hd2 s).2.2.1 = false) : readS s = .inr ((hd1 s).2.2.2 + (hd2 s).2.2.2) := by
  obtain ⟨e, e2, _⟩ := readS_one h1
  unfold readS
  rw [e, e2]
  unfold readT
  unfold hd2 at *
  generalize (hd1 s).1 = ps at *
  generalize (hd1 s).2.1 = b at *
  unfold headRows at *
  cases hl : lineS 0 (mostT ps.length) 1 b with
  | none => simp
  | some q =>
    rw [hl] at h
    simp only at h ⊢
    rcases hr : rowsS 0 ((ps.length : Int) - 1) 3 (q.1.getD 0 0).toNat q.2 with ⟨ts, b2, ok⟩
    rw [hr] at h
    simp only at h ⊢
    subst h
    simp
    omega
theorem readS_two {s : List UInt8} (h1 : (hd1 s).2.2.1 = true) (h : (hd2 s).2.2.1 = true) : readP s = .good (hd1 s).1 (hd2 s).1 (hd2 s).2.1 ∧ (hd2 s).2.2.2 = (hd2 s).1.length + 1 := by
  obtain ⟨e, e2, _⟩ := readS_one h1
  rw [e]
  unfold readT
  unfold hd2 at *
  generalize (hd1 s).1 = ps at *
  generalize (hd1 s).2.1 = b at *
  unfold headRows at *
  cases hl : lineS 0 (mostT ps.length) 1 b with
  | none => rw [hl] at h; cases h
  | some q =>
    rw [hl] at h
    simp only at h ⊢
    rcases hr : rowsS 0 ((ps.length : Int) - 1) 3 (q.1.getD 0 0).toNat q.2 with ⟨ts, b2, ok⟩
    rw [hr] at h
    simp only at h ⊢
    subst h
    simp
theorem ownT_mono {w : World} {a b n size : Nat} {e : TypeId} {xs : List Value} {v : Value} (h : w.ownsRow a e size v n xs) (hb : b ≤ a) : w.ownsRow b e size v n xs := by
  obtain ⟨hl, h⟩ := h
  refine ⟨hl, ?_⟩
  rcases h with h | ⟨g, cap, cur, hv, hg, r⟩
  · exact .inl h
  · exact .inr ⟨g, cap, cur, hv, Nat.le_trans hb hg, r⟩
theorem rowB_len : ∀ rs : List (List Int), rs.length ≤ (rowB rs).length
  | [] => by simp
  | r :: rs => by
    have := rowB_len rs
    simp only [rowB, List.flatMap_cons, List.length_append, List.length_cons] at *
    omega
def ReadPost (w w' : World) (s : List UInt8) (v u : Value) (n : Int) : Prop := match readS s with
  | .inl q => n = 0 ∧ w'.ownsRow w.heap.size 37 2 v q.1.length (cellsP (ptsOf q.1)) ∧ w'.ownsRow w.heap.size 53 3 u q.2.length (triCells q.2)
  | .inr k => n = k ∧ 0 < k ∧ v = .slice none 0 0 ∧ u = .slice none 0 0
theorem Chg.own {w w' : World} {R base sz n : Nat} {e : TypeId} {v : Value} {xs : List Value} (h : w.ownsRow base e sz v n xs) (hc : Chg (fun k => k = R) w w') (hb : R < base) : w'.ownsRow base e sz v n xs :=
  ownS_keep h fun g hg => hc.far g (ownS_lt h hg) (by have := (h.lt g hg).1; omega)
set_option maxRecDepth 100000 in
set_option maxHeartbeats 4000000 in
theorem tread_any (s : List UInt8) (w : World) (V : Vars w) (hs : s.length ≤ 1000000000) :
    Calls Tryz.prog 31 #[bs s] w fun e w' => ∃ v u n, e = .returned (.tuple #[v, u, .int .i64 n]) ∧ ReadPost w w' s v u n ∧ Below w.heap.size w w' := by
  have h6 : 6 ≤ w.heap.size := by
    obtain ⟨ev, h, _⟩ := V.ran
    have := World.block_lt_of_cell? w _ h
    exact this
  have hb0 := below1 w (.cells #[bs s, .int .i64 0] 129)
  have hL0 : LAt (w.alloc (.cells #[bs s, .int .i64 0] 129)) w.heap.size s 0 := heap_alloc_new _ _
  have HP := Lib.hid (rpoints_any w.heap.size s _ (V.below hb0) hL0 h6 (by omega))
  have HV := Lib.hid (V.below hb0)
  have HB0 := Lib.hid hb0
  have HS := Lib.hid hs
  have HH6 := Lib.hid h6
  have HSZ : Hid ((w.alloc (.cells #[bs s, .int .i64 0] 129)).heap.size = w.heap.size + 1) := by unfold Hid; simp
  clear V hs h6 hL0 hb0
  obtain ⟨ok1, e1⟩ : ∃ ok1, (hd1 s).2.2.1 = ok1 := ⟨_, rfl⟩
  have e1' : (headRows 0 60 (-8000) 8000 2 s).2.2.1 = ok1 := e1
  rw [e1'] at HP
  have HE1 := Lib.hid e1
  clear e1 e1'
  go_enter Tryz.func31, Tryz.ntmps31
  go_upto_region 2 with fail
  generalize w.alloc (.cells #[bs s, .int .i64 0] 129) = W at *
  generalize hR : w.heap.size = R at *
  have HR := Lib.hid hR
  clear hR
  go_upto_region 3 with (first | (go_at_call 79; refine HP.out.mono ?_; rintro e w1 ⟨v, rfl, hp1⟩))
  have HP1 := Lib.hid hp1
  obtain ⟨s1, hl1, hs1, hr1⟩ := hp1.lat
  obtain ⟨q0, q1, qf⟩ := hl1.cells
  have HL1 := Lib.hid hl1
  have HS1 := Lib.hid (And.intro hs1 hr1)
  clear HP hp1 hl1 hs1 hr1 qf
  cases ok1 with
  | false =>
    have hRS : Hid (readS s = .inr (hd1 s).2.2.2) := readS_bad1 HE1.out
    have hpos : Hid (0 < (hd1 s).2.2.2) := by
      unfold Hid hd1 headRows
      cases lineS 0 60 1 s with
      | none => simp
      | some q => simp only; split <;> omega
    have q1' : w1.cell? ⟨R, 1, none⟩ = some (.int .i64 ((hd1 s).2.2.2 : Nat)) := by rw [q1]; simp
    generalize (hd1 s).2.2.2 = k at *
    clear q0 q1
    go_upto_region 4 with fail
    go_quiet (fail)
    go_wp2
    go_ret3
    refine ⟨_, _, _, rfl, ?_, ?_⟩
    · unfold ReadPost; rw [hRS.out]; exact ⟨rfl, hpos.out, rfl, rfl⟩
    · exact below_drewN (by rw [HR.out]; exact HB0.out.trans (HP1.out.chg.below (by have := HSZ.out; omega) fun k hk hF => by omega))
  | true =>
    obtain ⟨_, hln, hp60⟩ := readS_one HE1.out
    have hown := HP1.out.good HE1.out
    obtain ⟨va, vc, rfl⟩ := ownS_any hown
    have hR6 := HH6.out
    have es1 : s1 = (hd1 s).2.1 := HS1.out.2 HE1.out
    have hV1 : Vars w1 := HV.out.below6 (HP1.out.chg.below (by have := HSZ.out; omega) fun k hk hF => by omega)
    have hL1' : LAt w1 R s1 (((hd1 s).2.2.2 : Nat) : Int) := by have := HL1.out; simpa using this
    have HT := Lib.hid (tris_read R s1 (((hd1 s).2.2.2 : Nat) : Int) (hd1 s).1.length hp60 (by omega) (by omega) w1 hV1 hL1' hR6 (by have := HS1.out.1; have := HS.out; omega))
    obtain ⟨ok2, e2⟩ : ∃ ok2, (hd2 s).2.2.1 = ok2 := ⟨_, rfl⟩
    have e2' : (headRows 0 (mostT (hd1 s).1.length) 0 (((hd1 s).1.length : Int) - 1) 3 s1).2.2.1 = ok2 := by rw [es1]; exact e2
    rw [e2'] at HT
    have HE2 := Lib.hid e2
    have HES := Lib.hid es1
    have HOWN := Lib.hid hown
    have HLN := Lib.hid (And.intro hln hp60)
    have HD2 : Hid (headRows 0 (mostT (hd1 s).1.length) 0 (((hd1 s).1.length : Int) - 1) 3 s1 = hd2 s) := by unfold Hid; rw [es1]
    have HPL := Lib.hid hL1'
    clear e2 e2' es1 hown hln hp60 hV1 hL1' q0 q1 HL1
    rw [HD2.out] at HT
    clear HD2
    go_upto_region 6 with (first | (go_at_call 80; refine HT.out.mono ?_; rintro e w2 ⟨u, rfl, hp2⟩))
    obtain ⟨s2, hl2, hs2, hr2⟩ := hp2.lat
    have HP2 := Lib.hid hp2
    have hb1 : Below R w w1 := HB0.out.trans (HP1.out.chg.below (by have := HSZ.out; omega) fun k hk hF => by omega)
    have hb2 : Below R w w2 := hb1.trans (hp2.chg.below (by have := hb1.size; have := HR.out; omega) fun k hk hF => by omega)
    have HBB := Lib.hid hb2
    obtain ⟨q0, q1, qf⟩ := hl2.cells
    have HS2 := Lib.hid hr2
    clear HT hp2 hl2 hs2 hr2 qf hb1 hb2
    cases ok2 with
    | false =>
      have hRS : Hid (readS s = .inr ((hd1 s).2.2.2 + (hd2 s).2.2.2)) := readS_bad2 HE1.out HE2.out
      have hpos : Hid (0 < (hd1 s).2.2.2 + (hd2 s).2.2.2) := by unfold Hid; have := HLN.out.1; omega
      have q1' : w2.cell? ⟨R, 1, none⟩ = some (.int .i64 (((hd1 s).2.2.2 + (hd2 s).2.2.2 : Nat) : Int)) := by rw [q1]; simp
      obtain ⟨k, ek⟩ : ∃ k, (hd1 s).2.2.2 + (hd2 s).2.2.2 = k := ⟨_, rfl⟩
      rw [ek] at q1' hRS hpos
      clear q0 q1 ek
      go_upto_region 7 with fail
      go_quiet (fail)
      go_wp2
      go_ret3
      refine ⟨_, _, _, rfl, ?_, ?_⟩
      · unfold ReadPost; rw [hRS.out]; exact ⟨rfl, hpos.out, rfl, rfl⟩
      · exact below_drewN (by rw [HR.out]; exact HBB.out)
    | true =>
      obtain ⟨hg, hl2⟩ := readS_two HE1.out HE2.out
      have es2 := HS2.out HE2.out
      have hownT := HP2.out.good HE2.out
      have hownP := Chg.own (R := R) HOWN.out HP2.out.chg (by have := HSZ.out; omega)
      have q1' : w2.cell? ⟨R, 1, none⟩ = some (.int .i64 (((hd1 s).1.length + (hd2 s).1.length + 2 : Nat) : Int)) := by
        rw [q1, hl2, HLN.out.1]
        congr 2
        omega
      have HG : Hid (readP s = .good (hd1 s).1 (hd2 s).1 s2) := by unfold Hid; rw [hg, es2]
      have HOP : Hid (w2.ownsRow R 37 2 (.slice va (hd1 s).1.length vc) (hd1 s).1.length (cellsP (ptsOf (hd1 s).1)) ∧ w2.ownsRow R 53 3 u (hd2 s).1.length (triCells (hd2 s).1)) :=
        ⟨ownT_mono hownP (by have := HSZ.out; omega), ownT_mono hownT (by have := HP1.out.chg.size; have := HSZ.out; omega)⟩
      have hlen : Hid ((hd1 s).1.length + (hd2 s).1.length + 2 ≤ 4000000000) := by
        obtain ⟨_, e⟩ := readP_iff.1 HG.out
        have h1 := rowB_len (hd1 s).1
        have h2 := rowB_len (hd2 s).1
        have h3 := congrArg List.length e
        have h4 := HS.out
        unfold Hid
        simp only [textB, List.length_append, List.length_cons] at h3
        omega
      clear hg hl2 es2 hownT hownP q1
      obtain ⟨k, ek⟩ : ∃ k, (hd1 s).1.length + (hd2 s).1.length + 2 = k := ⟨_, rfl⟩
      rw [ek] at q1'
      have HEK := Lib.hid ek
      have yk : IntKind.i64.wrap ((k : Int) + 1) = (k : Int) + 1 := wrap_id (by omega) (by have := hlen.out; omega)
      clear ek
      cases s2 with
      | nil =>
        have hRS : Hid (readS s = .inl ((hd1 s).1, (hd2 s).1)) := by unfold Hid readS; rw [HG.out]
        go_wp2
        go_ret3
        refine ⟨_, _, _, rfl, ?_, ?_⟩
        · unfold ReadPost; rw [hRS.out, HR.out]; exact ⟨rfl, HOP.out.1, HOP.out.2⟩
        · rw [HR.out]; exact HBB.out
      | cons c0 r0 =>
        have hRS : Hid (readS s = .inr (k + 1)) := by unfold Hid readS; rw [HG.out, ← HEK.out]
        go_upto_region 9 with fail
        go_quiet (fail)
        go_wp2
        go_ret3
        refine ⟨.slice none 0 0, .slice none 0 0, ((k + 1 : Nat) : Int), ?_, ?_, ?_⟩
        · rfl
        · unfold ReadPost; rw [hRS.out]; exact ⟨rfl, by omega, rfl, rfl⟩
        · exact below_drewN (by rw [HR.out]; exact HBB.out)
end Go.Proofs.YtgpapegpdfonpaaGreatDoor
