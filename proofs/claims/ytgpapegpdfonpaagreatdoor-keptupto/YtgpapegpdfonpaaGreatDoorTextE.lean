/-
  Package text: a count, and so many lines: points.
-/
import Derived.Test.YtgpapegpdfonpaaGreatDoorTextD
import Derived.Test.YtgpapegpdfonpaaGreatDoorBookA
namespace Go.Proofs.YtgpapegpdfonpaaGreatDoor
set_option linter.unusedVariables false
set_option linter.unusedSimpArgs false
open Go.RowKit
attribute [local go_sem ↓] Go.wp_at_zero Go.wp_at_succ

def ptsOf (rs : List (List Int)) : List Pt := rs.map fun r => (r.getD 0 0, r.getD 1 0)
/-- a count, and so many lines: the lines, what is left, whether all were there, how many lines were read -/
def headRows (lo1 hi1 lo hi : Int) (k : Nat) (s : List UInt8) : List (List Int) × List UInt8 × Bool × Nat := match lineS lo1 hi1 1 s with
  | none => ([], s, false, 1)
  | some q => ((rowsS lo hi k (q.1.getD 0 0).toNat q.2).1, (rowsS lo hi k (q.1.getD 0 0).toNat q.2).2.1, (rowsS lo hi k (q.1.getD 0 0).toNat q.2).2.2, if (rowsS lo hi k (q.1.getD 0 0).toNat q.2).2.2 then (rowsS lo hi k (q.1.getD 0 0).toNat q.2).1.length + 1 else (rowsS lo hi k (q.1.getD 0 0).toNat q.2).1.length + 2)
/-- how far the lines are read -/
def RowsI (lo hi : Int) (k c : Nat) (b : List UInt8) (i : Nat) (si : List UInt8) (rs : List (List Int)) : Prop :=
  rs.length = i ∧ si.length + i ≤ b.length ∧ rowsS lo hi k c b = (rs ++ (rowsS lo hi k (c - i) si).1, (rowsS lo hi k (c - i) si).2)
theorem RowsI.start {lo hi : Int} {k c : Nat} {b : List UInt8} : RowsI lo hi k c b 0 b [] := ⟨rfl, Nat.le_refl _, by simp⟩
theorem RowsI.step {lo hi : Int} {k c i : Nat} {b si sj : List UInt8} {rs : List (List Int)} {ns : List Int} (h : RowsI lo hi k c b i si rs) (hi' : i < c) (hl : lineS lo hi k si = some (ns, sj)) (hj : sj.length + 1 ≤ si.length) : RowsI lo hi k c b (i + 1) sj (rs ++ [ns]) := by
  obtain ⟨h1, h2, h3⟩ := h
  refine ⟨by simp [h1], by omega, ?_⟩
  rw [h3, show c - i = (c - (i + 1)) + 1 by omega, rowsS, hl]
  simp
theorem RowsI.bad {lo hi : Int} {k c i : Nat} {b si : List UInt8} {rs : List (List Int)} (h : RowsI lo hi k c b i si rs) (hi' : i < c) (hl : lineS lo hi k si = none) : rowsS lo hi k c b = (rs, si, false) := by
  obtain ⟨h1, h2, h3⟩ := h
  rw [h3, show c - i = (c - (i + 1)) + 1 by omega, rowsS, hl]
  simp
theorem RowsI.all {lo hi : Int} {k c : Nat} {b si : List UInt8} {rs : List (List Int)} (h : RowsI lo hi k c b c si rs) : rowsS lo hi k c b = (rs, si, true) := by
  obtain ⟨h1, h2, h3⟩ := h
  rw [h3, Nat.sub_self, rowsS]
  simp
theorem lineS_len {lo hi : Int} {k : Nat} {s b : List UInt8} {ns : List Int} (h : lineS lo hi (k + 1) s = some (ns, b)) : b.length + 1 ≤ s.length := by
  obtain ⟨_, _, rfl⟩ := lineS_iff.1 h
  simp
  try omega
theorem ptsOf_snoc (rs : List (List Int)) (ns : List Int) : ptsOf (rs ++ [ns]) = ptsOf rs ++ [(ns.getD 0 0, ns.getD 1 0)] := by simp [ptsOf]
theorem cellsP_snocT (l : List Pt) (p : Pt) : cellsP (l ++ [p]) = cellsP l ++ [.int .i64 p.1, .int .i64 p.2] := by
  induction l with
  | nil => rfl
  | cons q l ih => simp [cellsP, ih]
theorem cell_twoT (w : World) (v u : Value) (t : TypeId) : ∀ j x, [v, u][j]? = some x → (w.alloc (.cells #[v, u] t)).cell? ((⟨w.heap.size, 0, none⟩ : Addr).add j) = some x := by
  intro j x h
  match j, h with
  | 0, h => simp at h; subst h; simp [Addr.add, go_sem]
  | 1, h => simp at h; subst h; simp [Addr.add, go_sem]
structure HeadPost (w w' : World) (R : Nat) (nn : Int) (s : List UInt8) (H : List (List Int) × List UInt8 × Bool × Nat) (own : Value → Prop) (v : Value) : Prop where
  chg : Chg (fun k => k = R) w w'
  lat : ∃ s', LAt w' R s' (nn + H.2.2.2) ∧ s'.length ≤ s.length ∧ (H.2.2.1 = true → s' = H.2.1)
  good : H.2.2.1 = true → own v
  bad : H.2.2.1 = false → v = .slice none 0 0
set_option maxRecDepth 100000 in
set_option maxHeartbeats 4000000 in
theorem rpoints_any (R : Nat) (s : List UInt8) (w : World) (V : Vars w) (hR : LAt w R s 0) (hR6 : 6 ≤ R) (hs : s.length ≤ 1000000000000) :
    Calls Tryz.prog 79 #[.pointer (some ⟨R, 0, none⟩)] w fun e w' => ∃ v, e = .returned (.tuple #[v, .bool (headRows 0 60 (-8000) 8000 2 s).2.2.1]) ∧
      HeadPost w w' R 0 s (headRows 0 60 (-8000) 8000 2 s) (fun v => w'.ownsRow w.heap.size 37 2 v (headRows 0 60 (-8000) 8000 2 s).1.length (cellsP (ptsOf (headRows 0 60 (-8000) 8000 2 s).1))) v := by
  obtain ⟨iP, hiP, hzP, hsP, hbP⟩ := info_parts infoPt
  have HN1 := Lib.hid (next_any R s 0 1 0 60 w V hR hR6 (by omega) (by omega) (by omega) (by omega) (by omega))
  have hRl := lt_some hR
  have HR0 := Lib.hid hR
  have HV := Lib.hid V
  have HS := Lib.hid hs
  obtain ⟨ok1, eo⟩ : ∃ ok1, (lineS 0 60 1 s).isSome = ok1 := ⟨_, rfl⟩
  rw [eo] at HN1
  have HO := Lib.hid eo
  clear V hR hs eo
  go_enter Tryz.func79, Tryz.ntmps79
  go_upto_region 2 with (first | (go_at_call 116; refine HN1.out.mono ?_; rintro e w1 ⟨x, y, z, s1, rfl, hp1⟩))
  have HP1 := Lib.hid hp1
  have hC1 : Chg (fun k => k = R) w (w1.alloc (.cells #[.int .i64 x, .int .i64 y, .int .i64 z] 178)) := hp1.chg.trans (Chg.of_below (F := fun k => k = R) (below1 _ _)) fun _ _ h => h
  have hL1 : LAt (w1.alloc (.cells #[.int .i64 x, .int .i64 y, .int .i64 z] 178)) R s1 (0 + 1) := hp1.at'.below (below1 _ _)
  have hN1 : (w1.alloc (.cells #[.int .i64 x, .int .i64 y, .int .i64 z] 178)).cell? ⟨w1.heap.size, 0, none⟩ = some (.int .i64 x) := by rw [World.cell?_alloc_at _ _ _ _ (by simp)]; rfl
  clear hp1 HN1
  generalize w1.alloc (.cells #[.int .i64 x, .int .i64 y, .int .i64 z] 178) = W1 at *
  generalize w1.heap.size = N1 at *
  have HC1 := Lib.hid hC1
  have HL1 := Lib.hid hL1
  clear hC1 hL1
  cases ok1 with
  | false =>
    have hH : Hid (headRows 0 60 (-8000) 8000 2 s = ([], s, false, 1)) := by
      have : lineS 0 60 1 s = none := by have := HO.out; cases h : lineS 0 60 1 s <;> simp_all
      unfold Hid headRows; rw [this]
    go_wp2
    go_ret2
    refine ⟨.slice none 0 0, ?_, ?_⟩
    · rw [hH.out]; rfl
    · rw [hH.out]
      exact ⟨HC1.out, ⟨s1, HL1.out, HP1.out.len, (fun h => by cases h)⟩, (fun h => by cases h), fun _ => rfl⟩
  | true =>
    obtain ⟨c, b, hl, hc0, hc60, rfl, rfl⟩ : ∃ (c : Nat) (b : List UInt8), lineS 0 60 1 s = some ([(c : Int)], b) ∧ 0 ≤ c ∧ c ≤ 60 ∧ x = (c : Int) ∧ s1 = b := by
      obtain ⟨q, hq⟩ := Option.isSome_iff_exists.1 HO.out
      obtain ⟨ns, b⟩ := q
      obtain ⟨f1, f2, f3⟩ := lineS_iff.1 hq
      match ns, f1 with
      | [m], _ =>
        have hm := f2 m (by simp)
        obtain ⟨a1, _, _, a4⟩ := HP1.out.val _ _ hq
        refine ⟨m.toNat, b, by rw [hq, show ((m.toNat : Nat) : Int) = m by omega], by omega, by omega, ?_, a4⟩
        rw [a1]
        simp only [List.getD_cons_zero]
        omega
    have hH : Hid (headRows 0 60 (-8000) 8000 2 s = ((rowsS (-8000) 8000 2 c s1).1, (rowsS (-8000) 8000 2 c s1).2.1, (rowsS (-8000) 8000 2 c s1).2.2, if (rowsS (-8000) 8000 2 c s1).2.2 then (rowsS (-8000) 8000 2 c s1).1.length + 1 else (rowsS (-8000) 8000 2 c s1).1.length + 2)) := by
      unfold Hid headRows; rw [hl]; rfl
    have hlen1 : Hid (s1.length ≤ s.length) := HP1.out.len
    clear hl HO HP1
    go_wp2_with fail
    have hb1s := HC1.out.size
    go_loopw [6, 7, 8, 18] (fun s6 _ _ s18 wr => ∃ (i : Nat) (si : List UInt8) (rs : List (List Int)), i ≤ c ∧ s18 = .int .i64 i ∧ RowsI (-8000) 8000 2 c s1 i si rs ∧ wr.ownsRow w.heap.size 37 2 s6 rs.length (cellsP (ptsOf rs)) ∧ LAt wr R si (0 + 1 + i) ∧ Chg (fun k => k = R) w wr) (fun _ _ _ s18 _ => c - (intOf s18).toNat)
    case atStart => exact ⟨0, s1, [], Nat.zero_le _, rfl, RowsI.start, ⟨rfl, .inl ⟨rfl, rfl⟩⟩, by simpa using HL1.out, HC1.out⟩
    case round =>
      obtain ⟨i, si, rs, hic, rfl, hI, hO, hLA, hCh⟩ := hrel
      have HI := Lib.hid hI
      have HLA := Lib.hid hLA
      have HCH := Lib.hid hCh
      have HOW := Lib.hid hO
      obtain ⟨va, vc, rfl⟩ := ownS_any hO
      have HRL := Lib.hid hI.1
      clear hI hLA hCh hO
      by_cases hlt : i < c
      · have y1 : (i : Int) < (c : Int) := by omega
        have yi : IntKind.i64.wrap ((i : Int) + 1) = (i : Int) + 1 := wrap_id (by omega) (by omega)
        have hVr : Vars wr := HV.out.below6 (HCH.out.below (by omega) fun k hk hF => by omega)
        have HN2 := Lib.hid (next_any R si (0 + 1 + i) 2 (-8000) 8000 wr hVr HLA.out hR6 (by have := HI.out.2.1; have := hlen1.out; have := HS.out; omega) (by omega) (by omega) (by omega) (by omega))
        obtain ⟨ok2, eo⟩ : ∃ ok2, (lineS (-8000) 8000 2 si).isSome = ok2 := ⟨_, rfl⟩
        rw [eo] at HN2
        have HO2 := Lib.hid eo
        clear eo hVr
        go_upto_region 8 with (first | (go_at_call 116; refine HN2.out.mono ?_; rintro e w2 ⟨x2, y2, z2, s2, rfl, hp2⟩))
        have hb2a := below1 w2 (.cells #[.int .i64 x2, .int .i64 y2, .int .i64 z2] 178)
        have hC2 : Chg (fun k => k = R) w (w2.alloc (.cells #[.int .i64 x2, .int .i64 y2, .int .i64 z2] 178)) := (HCH.out.trans hp2.chg fun _ _ h => h).trans (Chg.of_below (F := fun k => k = R) hb2a) fun _ _ h => h
        have hL2 : LAt (w2.alloc (.cells #[.int .i64 x2, .int .i64 y2, .int .i64 z2] 178)) R s2 (0 + 1 + i + 1) := hp2.at'.below hb2a
        have hO2 : (w2.alloc (.cells #[.int .i64 x2, .int .i64 y2, .int .i64 z2] 178)).ownsRow w.heap.size 37 2 (.slice va rs.length vc) rs.length (cellsP (ptsOf rs)) := ownS_keep HOW.out fun g hg => by
          have h1 := ownS_lt HOW.out hg
          have h2 := (HOW.out.lt g hg).1
          rw [hb2a.block g (Nat.lt_of_lt_of_le h1 hp2.chg.size)]
          exact hp2.chg.far g h1 (by omega)
        have n0 : (w2.alloc (.cells #[.int .i64 x2, .int .i64 y2, .int .i64 z2] 178)).cell? ⟨w2.heap.size, 0, none⟩ = some (.int .i64 x2) := by rw [World.cell?_alloc_at _ _ _ _ (by simp)]; rfl
        have n1 : (w2.alloc (.cells #[.int .i64 x2, .int .i64 y2, .int .i64 z2] 178)).cell? ⟨w2.heap.size, 1, none⟩ = some (.int .i64 y2) := by rw [World.cell?_alloc_at _ _ _ _ (by simp)]; rfl
        have hNl : w2.heap.size < (w2.alloc (.cells #[.int .i64 x2, .int .i64 y2, .int .i64 z2] 178)).heap.size := by simp
        have HP2 := Lib.hid hp2
        clear hp2 hb2a HN2
        generalize w2.alloc (.cells #[.int .i64 x2, .int .i64 y2, .int .i64 z2] 178) = W2 at *
        generalize w2.heap.size = N2 at *
        have HC2 := Lib.hid hC2
        have HL2 := Lib.hid hL2
        have HOW2 := Lib.hid hO2
        have hWs : w.heap.size ≤ W2.heap.size := hC2.size
        clear hC2 hL2 hO2
        cases ok2 with
        | false =>
          have hB : Hid (rowsS (-8000) 8000 2 c s1 = (rs, si, false)) := by
            have : lineS (-8000) 8000 2 si = none := by have := HO2.out; cases h : lineS (-8000) 8000 2 si <;> simp_all
            exact HI.out.bad hlt this
          have hH2 : Hid (headRows 0 60 (-8000) 8000 2 s = (rs, si, false, rs.length + 2)) := by unfold Hid; rw [hH.out, hB.out]; rfl
          clear hH hB
          go_wp2
          go_ret2
          refine ⟨.slice none 0 0, ?_, ?_⟩
          · rw [hH2.out]; rfl
          · rw [hH2.out]
            refine ⟨HC2.out, ⟨s2, ?_, ?_, (fun h => by cases h)⟩, (fun h => by cases h), fun _ => rfl⟩
            · have := HL2.out
              rw [show (0 : Int) + 1 + (i : Int) + 1 = 0 + ((rs.length + 2 : Nat) : Int) by have := HRL.out; omega] at this
              exact this
            · have := HP2.out.len; have := HI.out.2.1; have := hlen1.out; omega
        | true =>
          obtain ⟨ns, hl2, e1, e2⟩ : ∃ ns, lineS (-8000) 8000 2 si = some (ns, s2) ∧ x2 = ns.getD 0 0 ∧ y2 = ns.getD 1 0 := by
            obtain ⟨q, hq⟩ := Option.isSome_iff_exists.1 HO2.out
            obtain ⟨ns, b⟩ := q
            obtain ⟨a1, a2, _, a4⟩ := HP2.out.val _ _ hq
            exact ⟨ns, by rw [hq, a4], a1, a2⟩
          have HI2 := Lib.hid (HI.out.step hlt hl2 (lineS_len hl2))
          have HSN : Hid (cellsP (ptsOf (rs ++ [ns])) = cellsP (ptsOf rs) ++ [.int .i64 x2, .int .i64 y2]) := by unfold Hid; rw [ptsOf_snoc, cellsP_snocT, e1, e2]
          have HN3 : Hid (∀ j u, [Value.int .i64 x2, .int .i64 y2][j]? = some u → (W2.alloc (.cells #[.int .i64 x2, .int .i64 y2] 37)).cell? ((⟨W2.heap.size, 0, none⟩ : Addr).add j) = some u) := cell_twoT _ _ _ _
          have hr60 : rs.length ≤ 60 := by have := HRL.out; omega
          clear hl2 e1 e2 HO2
          go_wp2_with (at_builtin; refine wpList_append_where _ (by rfl) (.tmp 27) (.tmp 33) 41 (by rfl) w.heap.size 37 iP (.agg #[.int .i64 0, .int .i64 0]) 2 16 Tryz.underlying41 hiP hzP hsP hbP rfl (by decide) _ _ _ (by rfl) (ownB_below HOW2.out (below1 _ _)) ⟨W2.heap.size, 0, none⟩ 1 1 [.int .i64 x2, .int .i64 y2] (by rfl) rfl HN3.out ?c2 (by decide) ?c3 ?c4 ?c5 (W2.heap.size + 1) ?c6 ?_)
          case c2 => intro u hu; simp at hu; rcases hu with rfl | rfl <;> rfl
          case c3 => unfold maxLen; omega
          case c4 => omega
          case c5 => simp; omega
          case c6 => simp
          · intro g2 cap2 w3 hown3 hat3 hlt3
            have hk0 : Chg (fun k => k = R) w (W2.alloc (.cells #[.int .i64 x2, .int .i64 y2] 37)) := HC2.out.trans (Chg.of_below (F := fun k => k = R) (below1 _ _)) fun _ _ h => h
            have HF : Hid (w3.ownsRow w.heap.size 37 2 (.slice (some ⟨g2, 0, none⟩) (rs.length + 1) cap2) (rs ++ [ns]).length (cellsP (ptsOf (rs ++ [ns]))) ∧ LAt w3 R s2 (0 + 1 + ((i + 1 : Nat) : Int)) ∧ Chg (fun k => k = R) w w3) := by
              have hg2 : w.heap.size ≤ g2 := (hown3.lt g2 rfl).1
              have hgr : ∀ k, k < W2.heap.size + 1 → k ≠ g2 → w3.heap[k]? = (W2.alloc (.cells #[.int .i64 x2, .int .i64 y2] 37)).heap[k]? := fun k hk hne => by
                rcases hat3 with ⟨_, h⟩ | ⟨_, h⟩
                · exact (Chg.of_grown (F := fun k => k = g2) h fun k hk => by cases hk; rfl).far k (by simpa using hk) hne
                · exact (Chg.of_grown (F := fun k => k = g2) h fun k hk => by cases hk).far k (by simpa using hk) hne
              have hcg : Chg (fun k => k = g2) (W2.alloc (.cells #[.int .i64 x2, .int .i64 y2] 37)) w3 := by
                rcases hat3 with ⟨_, h⟩ | ⟨_, h⟩
                · exact Chg.of_grown h fun k hk => by cases hk; rfl
                · exact Chg.of_grown h fun k hk => by cases hk
              refine ⟨?_, ?_, hk0.trans hcg fun k hk hF => by omega⟩
              · rw [HSN.out, List.length_append]; exact hown3
              · have h1 := HL2.out.below (below1 W2 (.cells #[.int .i64 x2, .int .i64 y2] 37))
                have : w3.heap[R]? = _ := (hgr R (by have := lt_some HL2.out; omega) (by omega)).trans h1
                rw [show (0 : Int) + 1 + ((i + 1 : Nat) : Int) = 0 + 1 + (i : Int) + 1 by omega]
                exact this
            clear hown3 hat3 HOW2 HL2 HC2 HN3 HSN hk0
            go_wp2
            go_roundw
            case rel => exact ⟨i + 1, s2, rs ++ [ns], by omega, by go_num, HI2.out, HF.out.1, HF.out.2.1, HF.out.2.2⟩
            case measure => simp [intOf]; omega
      · have y1 : ¬ (i : Int) < (c : Int) := by omega
        have eic : i = c := by omega
        have hB : Hid (rowsS (-8000) 8000 2 c s1 = (rs, si, true)) := by have := HI.out; rw [eic] at this; exact this.all
        have hH2 : Hid (headRows 0 60 (-8000) 8000 2 s = (rs, si, true, rs.length + 1)) := by unfold Hid; rw [hH.out, hB.out]; rfl
        clear hH hB eic
        go_wp2
        go_ret2
        refine ⟨.slice va rs.length vc, ?_, ?_⟩
        · rw [hH2.out]; rfl
        · rw [hH2.out]
          refine ⟨HCH.out, ⟨si, ?_, (by have := HI.out.2.1; have := hlen1.out; omega), fun _ => rfl⟩, fun _ => HOW.out, (fun h => by cases h)⟩
          have := HLA.out
          rw [show (0 : Int) + 1 + (i : Int) = 0 + ((rs.length + 1 : Nat) : Int) by have := HRL.out; omega] at this
          exact this
end Go.Proofs.YtgpapegpdfonpaaGreatDoor
