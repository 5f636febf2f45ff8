/-
  Package text: a count, and so many lines: triangles.
-/
import Derived.Test.YtgpapegpdfonpaaGreatDoorTextE
namespace Go.Proofs.YtgpapegpdfonpaaGreatDoor
set_option linter.unusedVariables false
set_option linter.unusedSimpArgs false
open Go.RowKit
attribute [local go_sem ↓] Go.wp_at_zero Go.wp_at_succ

def triCells (rs : List (List Int)) : List Value := rs.flatMap fun r => [.int .i64 (r.getD 0 0), .int .i64 (r.getD 1 0), .int .i64 (r.getD 2 0)]
theorem triCells_snoc (rs : List (List Int)) (ns : List Int) : triCells (rs ++ [ns]) = triCells rs ++ [.int .i64 (ns.getD 0 0), .int .i64 (ns.getD 1 0), .int .i64 (ns.getD 2 0)] := by simp [triCells]
theorem infoTr : (Tryz.prog.info? 53).map (fun i => (i.zero, i.size, i.bytes)) = some (some (.agg #[.int .i64 0, .int .i64 0, .int .i64 0]), 3, 24) := by kernel_rfl
theorem cell_threeT (w : World) (a b c : Value) (t : TypeId) : ∀ j x, [a, b, c][j]? = some x → (w.alloc (.cells #[a, b, c] t)).cell? ((⟨w.heap.size, 0, none⟩ : Addr).add j) = some x := by
  intro j x h
  match j, h with
  | 0, h => simp at h; subst h; simp [Addr.add, go_sem]
  | 1, h => simp at h; subst h; simp [Addr.add, go_sem]
  | 2, h => simp at h; subst h; simp [Addr.add, go_sem]
theorem most_any (n : Nat) (w : World) : Calls Tryz.prog 117 #[.int .i64 (n : Int)] w fun e w' => e = .returned (.int .i64 (mostT n)) ∧ w' = w := by
  unfold mostT
  by_cases h : n = 0
  · subst h
    go_enter Tryz.func117, Tryz.ntmps117
    go_wp2
    go_ret
    exact ⟨rfl, rfl⟩
  · rw [if_neg h]
    have hb : ((n : Int) == 0) = false := beq_eq_false_iff_ne.2 (by omega)
    go_enter Tryz.func117, Tryz.ntmps117
    go_wp2
    go_ret
    exact ⟨rfl, rfl⟩
set_option maxRecDepth 100000 in
set_option maxHeartbeats 4000000 in
theorem tris_read (R : Nat) (s : List UInt8) (nn : Int) (pn : Nat) (hp60 : pn ≤ 60) (hn0 : 0 ≤ nn) (hn1 : nn ≤ 1000) (w : World) (V : Vars w) (hR : LAt w R s nn) (hR6 : 6 ≤ R) (hs : s.length ≤ 1000000000) :
    Calls Tryz.prog 80 #[.pointer (some ⟨R, 0, none⟩), .int .i64 (pn : Int)] w fun e w' => ∃ v, e = .returned (.tuple #[v, .bool (headRows 0 (mostT pn) 0 ((pn : Int) - 1) 3 s).2.2.1]) ∧
      HeadPost w w' R nn s (headRows 0 (mostT pn) 0 ((pn : Int) - 1) 3 s) (fun v => w'.ownsRow w.heap.size 53 3 v (headRows 0 (mostT pn) 0 ((pn : Int) - 1) 3 s).1.length (triCells ((headRows 0 (mostT pn) 0 ((pn : Int) - 1) 3 s).1))) v := by
  obtain ⟨iP, hiP, hzP, hsP, hbP⟩ := info_parts infoTr
  have HN1 := Lib.hid (next_any R s nn 1 0 (mostT pn) w V hR hR6 (by omega) (by omega) (by omega) (by omega) (by omega))
  have hRl := lt_some hR
  have HR0 := Lib.hid hR
  have HV := Lib.hid V
  have HS := Lib.hid hs
  obtain ⟨ok1, eo⟩ : ∃ ok1, (lineS 0 (mostT pn) 1 s).isSome = ok1 := ⟨_, rfl⟩
  rw [eo] at HN1
  have HO := Lib.hid eo
  have HM := Lib.hid (fun W => most_any pn W)
  clear V hR hs eo
  have yp : IntKind.i64.wrap ((pn : Int) - 1) = (pn : Int) - 1 := wrap_id (by omega) (by omega)
  go_enter Tryz.func80, Tryz.ntmps80
  go_upto_region 2 with (first | (go_at_call 117; refine (HM.out _).mono ?_; rintro e w0 ⟨rfl, hw0⟩; rw [hw0]; clear hw0) | (go_at_call 116; refine HN1.out.mono ?_; rintro e w1 ⟨x, y, z, s1, rfl, hp1⟩))
  have HP1 := Lib.hid hp1
  have hC1 : Chg (fun k => k = R) w (w1.alloc (.cells #[.int .i64 x, .int .i64 y, .int .i64 z] 178)) := hp1.chg.trans (Chg.of_below (F := fun k => k = R) (below1 _ _)) fun _ _ h => h
  have hL1 : LAt (w1.alloc (.cells #[.int .i64 x, .int .i64 y, .int .i64 z] 178)) R s1 (nn + 1) := hp1.at'.below (below1 _ _)
  have hN1 : (w1.alloc (.cells #[.int .i64 x, .int .i64 y, .int .i64 z] 178)).cell? ⟨w1.heap.size, 0, none⟩ = some (.int .i64 x) := by rw [World.cell?_alloc_at _ _ _ _ (by simp)]; rfl
  clear hp1 HN1
  generalize w1.alloc (.cells #[.int .i64 x, .int .i64 y, .int .i64 z] 178) = W1 at *
  generalize w1.heap.size = N1 at *
  have HC1 := Lib.hid hC1
  have HL1 := Lib.hid hL1
  clear hC1 hL1
  cases ok1 with
  | false =>
    have hH : Hid (headRows 0 (mostT pn) 0 ((pn : Int) - 1) 3 s = ([], s, false, 1)) := by
      have : lineS 0 (mostT pn) 1 s = none := by have := HO.out; cases h : lineS 0 (mostT pn) 1 s <;> simp_all
      unfold Hid headRows; rw [this]
    go_wp2
    go_ret2
    refine ⟨.slice none 0 0, ?_, ?_⟩
    · rw [hH.out]; rfl
    · rw [hH.out]
      exact ⟨HC1.out, ⟨s1, HL1.out, HP1.out.len, (fun h => by cases h)⟩, (fun h => by cases h), fun _ => rfl⟩
  | true =>
    obtain ⟨c, b, hl, hc0, hc60, rfl, rfl⟩ : ∃ (c : Nat) (b : List UInt8), lineS 0 (mostT pn) 1 s = some ([(c : Int)], b) ∧ 0 ≤ c ∧ (c : Int) ≤ 9223372036854775807 ∧ x = (c : Int) ∧ s1 = b := by
      obtain ⟨q, hq⟩ := Option.isSome_iff_exists.1 HO.out
      obtain ⟨ns, b⟩ := q
      obtain ⟨f1, f2, f3⟩ := lineS_iff.1 hq
      match ns, f1 with
      | [m], _ =>
        have hm := f2 m (by simp)
        obtain ⟨a1, _, _, a4⟩ := HP1.out.val _ _ hq
        refine ⟨m.toNat, b, by rw [hq, show ((m.toNat : Nat) : Int) = m by omega], by omega, by have := hm.1.2; omega, ?_, a4⟩
        rw [a1]
        simp only [List.getD_cons_zero]
        omega
    have hH : Hid (headRows 0 (mostT pn) 0 ((pn : Int) - 1) 3 s = ((rowsS 0 ((pn : Int) - 1) 3 c s1).1, (rowsS 0 ((pn : Int) - 1) 3 c s1).2.1, (rowsS 0 ((pn : Int) - 1) 3 c s1).2.2, if (rowsS 0 ((pn : Int) - 1) 3 c s1).2.2 then (rowsS 0 ((pn : Int) - 1) 3 c s1).1.length + 1 else (rowsS 0 ((pn : Int) - 1) 3 c s1).1.length + 2)) := by
      unfold Hid headRows; rw [hl]; rfl
    have hlen1 : Hid (s1.length ≤ s.length) := HP1.out.len
    clear hl HO HP1
    go_wp2_with fail
    have hb1s := HC1.out.size
    go_loopw [8, 9, 10, 22] (fun s6 _ _ s18 wr => ∃ (i : Nat) (si : List UInt8) (rs : List (List Int)), i ≤ c ∧ s18 = .int .i64 i ∧ RowsI 0 ((pn : Int) - 1) 3 c s1 i si rs ∧ wr.ownsRow w.heap.size 53 3 s6 rs.length (triCells rs) ∧ LAt wr R si (nn + 1 + i) ∧ Chg (fun k => k = R) w wr) (fun _ _ _ s18 _ => c - (intOf s18).toNat)
    case atStart => exact ⟨0, s1, [], Nat.zero_le _, rfl, RowsI.start, ⟨rfl, .inl ⟨rfl, rfl⟩⟩, by simpa using HL1.out, HC1.out⟩
    case round =>
      obtain ⟨i, si, rs, hic, rfl, hI, hO, hLA, hCh⟩ := hrel
      have HI := Lib.hid hI
      have HLA := Lib.hid hLA
      have HCH := Lib.hid hCh
      have HOW := Lib.hid hO
      obtain ⟨va, vc, rfl⟩ := ownS_any hO
      have HRL := Lib.hid hI.1
      clear hI hLA hCh hO
      by_cases hlt : i < c
      · have y1 : (i : Int) < (c : Int) := by omega
        have yi : IntKind.i64.wrap ((i : Int) + 1) = (i : Int) + 1 := wrap_id (by omega) (by omega)
        have hVr : Vars wr := HV.out.below6 (HCH.out.below (by omega) fun k hk hF => by omega)
        have HN2 := Lib.hid (next_any R si (nn + 1 + i) 3 0 ((pn : Int) - 1) wr hVr HLA.out hR6 (by have := HI.out.2.1; have := hlen1.out; have := HS.out; omega) (by omega) (by have := HI.out.2.1; have := hlen1.out; have := HS.out; omega) (by omega) (by omega))
        obtain ⟨ok2, eo⟩ : ∃ ok2, (lineS 0 ((pn : Int) - 1) 3 si).isSome = ok2 := ⟨_, rfl⟩
        rw [eo] at HN2
        have HO2 := Lib.hid eo
        clear eo hVr
        go_upto_region 8 with (first | (go_at_call 116; refine HN2.out.mono ?_; rintro e w2 ⟨x2, y2, z2, s2, rfl, hp2⟩))
        have hb2a := below1 w2 (.cells #[.int .i64 x2, .int .i64 y2, .int .i64 z2] 178)
        have hC2 : Chg (fun k => k = R) w (w2.alloc (.cells #[.int .i64 x2, .int .i64 y2, .int .i64 z2] 178)) := (HCH.out.trans hp2.chg fun _ _ h => h).trans (Chg.of_below (F := fun k => k = R) hb2a) fun _ _ h => h
        have hL2 : LAt (w2.alloc (.cells #[.int .i64 x2, .int .i64 y2, .int .i64 z2] 178)) R s2 (nn + 1 + i + 1) := hp2.at'.below hb2a
        have hO2 : (w2.alloc (.cells #[.int .i64 x2, .int .i64 y2, .int .i64 z2] 178)).ownsRow w.heap.size 53 3 (.slice va rs.length vc) rs.length (triCells rs) := ownS_keep HOW.out fun g hg => by
          have h1 := ownS_lt HOW.out hg
          have h2 := (HOW.out.lt g hg).1
          rw [hb2a.block g (Nat.lt_of_lt_of_le h1 hp2.chg.size)]
          exact hp2.chg.far g h1 (by omega)
        have n0 : (w2.alloc (.cells #[.int .i64 x2, .int .i64 y2, .int .i64 z2] 178)).cell? ⟨w2.heap.size, 0, none⟩ = some (.int .i64 x2) := by rw [World.cell?_alloc_at _ _ _ _ (by simp)]; rfl
        have n2 : (w2.alloc (.cells #[.int .i64 x2, .int .i64 y2, .int .i64 z2] 178)).cell? ⟨w2.heap.size, 2, none⟩ = some (.int .i64 z2) := by rw [World.cell?_alloc_at _ _ _ _ (by simp)]; rfl
        have n1 : (w2.alloc (.cells #[.int .i64 x2, .int .i64 y2, .int .i64 z2] 178)).cell? ⟨w2.heap.size, 1, none⟩ = some (.int .i64 y2) := by rw [World.cell?_alloc_at _ _ _ _ (by simp)]; rfl
        have hNl : w2.heap.size < (w2.alloc (.cells #[.int .i64 x2, .int .i64 y2, .int .i64 z2] 178)).heap.size := by simp
        have HP2 := Lib.hid hp2
        clear hp2 hb2a HN2
        generalize w2.alloc (.cells #[.int .i64 x2, .int .i64 y2, .int .i64 z2] 178) = W2 at *
        generalize w2.heap.size = N2 at *
        have HC2 := Lib.hid hC2
        have HL2 := Lib.hid hL2
        have HOW2 := Lib.hid hO2
        have hWs : w.heap.size ≤ W2.heap.size := hC2.size
        clear hC2 hL2 hO2
        cases ok2 with
        | false =>
          have hB : Hid (rowsS 0 ((pn : Int) - 1) 3 c s1 = (rs, si, false)) := by
            have : lineS 0 ((pn : Int) - 1) 3 si = none := by have := HO2.out; cases h : lineS 0 ((pn : Int) - 1) 3 si <;> simp_all
            exact HI.out.bad hlt this
          have hH2 : Hid (headRows 0 (mostT pn) 0 ((pn : Int) - 1) 3 s = (rs, si, false, rs.length + 2)) := by unfold Hid; rw [hH.out, hB.out]; rfl
          clear hH hB
          go_wp2
          go_ret2
          refine ⟨.slice none 0 0, ?_, ?_⟩
          · rw [hH2.out]; rfl
          · rw [hH2.out]
            refine ⟨HC2.out, ⟨s2, ?_, ?_, (fun h => by cases h)⟩, (fun h => by cases h), fun _ => rfl⟩
            · have := HL2.out
              rw [show nn + 1 + (i : Int) + 1 = nn + ((rs.length + 2 : Nat) : Int) by have := HRL.out; omega] at this
              exact this
            · have := HP2.out.len; have := HI.out.2.1; have := hlen1.out; omega
        | true =>
          obtain ⟨ns, hl2, e1, e2, e3⟩ : ∃ ns, lineS 0 ((pn : Int) - 1) 3 si = some (ns, s2) ∧ x2 = ns.getD 0 0 ∧ y2 = ns.getD 1 0 ∧ z2 = ns.getD 2 0 := by
            obtain ⟨q, hq⟩ := Option.isSome_iff_exists.1 HO2.out
            obtain ⟨ns, b⟩ := q
            obtain ⟨a1, a2, a3, a4⟩ := HP2.out.val _ _ hq
            exact ⟨ns, by rw [hq, a4], a1, a2, a3⟩
          have HI2 := Lib.hid (HI.out.step hlt hl2 (lineS_len hl2))
          have HSN : Hid (triCells (rs ++ [ns]) = triCells rs ++ [.int .i64 x2, .int .i64 y2, .int .i64 z2]) := by unfold Hid; rw [triCells_snoc, e1, e2, e3]
          have HN3 : Hid (∀ j u, [Value.int .i64 x2, .int .i64 y2, .int .i64 z2][j]? = some u → (W2.alloc (.cells #[.int .i64 x2, .int .i64 y2, .int .i64 z2] 53)).cell? ((⟨W2.heap.size, 0, none⟩ : Addr).add j) = some u) := cell_threeT _ _ _ _ _
          have hr60 : rs.length ≤ 1000000000 := by have := HRL.out; have := HI.out.2.1; have := hlen1.out; have := HS.out; omega
          clear hl2 e1 e2 e3 HO2
          go_wp2_with (at_builtin; refine wpList_append_where _ (by rfl) (.tmp 33) (.tmp 41) 42 (by rfl) w.heap.size 53 iP (.agg #[.int .i64 0, .int .i64 0, .int .i64 0]) 3 24 Tryz.underlying42 hiP hzP hsP hbP rfl (by decide) _ _ _ (by rfl) (ownB_below HOW2.out (below1 _ _)) ⟨W2.heap.size, 0, none⟩ 1 1 [.int .i64 x2, .int .i64 y2, .int .i64 z2] (by rfl) rfl HN3.out ?c2 (by decide) ?c3 ?c4 ?c5 (W2.heap.size + 1) ?c6 ?_)
          case c2 => intro u hu; simp at hu; rcases hu with rfl | rfl | rfl <;> rfl
          case c3 => unfold maxLen; omega
          case c4 => omega
          case c5 => simp; omega
          case c6 => simp
          · intro g2 cap2 w3 hown3 hat3 hlt3
            have hk0 : Chg (fun k => k = R) w (W2.alloc (.cells #[.int .i64 x2, .int .i64 y2, .int .i64 z2] 53)) := HC2.out.trans (Chg.of_below (F := fun k => k = R) (below1 _ _)) fun _ _ h => h
            have HF : Hid (w3.ownsRow w.heap.size 53 3 (.slice (some ⟨g2, 0, none⟩) (rs.length + 1) cap2) (rs ++ [ns]).length (triCells (rs ++ [ns])) ∧ LAt w3 R s2 (nn + 1 + ((i + 1 : Nat) : Int)) ∧ Chg (fun k => k = R) w w3) := by
              have hg2 : w.heap.size ≤ g2 := (hown3.lt g2 rfl).1
              have hgr : ∀ k, k < W2.heap.size + 1 → k ≠ g2 → w3.heap[k]? = (W2.alloc (.cells #[.int .i64 x2, .int .i64 y2, .int .i64 z2] 53)).heap[k]? := fun k hk hne => by
                rcases hat3 with ⟨_, h⟩ | ⟨_, h⟩
                · exact (Chg.of_grown (F := fun k => k = g2) h fun k hk => by cases hk; rfl).far k (by simpa using hk) hne
                · exact (Chg.of_grown (F := fun k => k = g2) h fun k hk => by cases hk).far k (by simpa using hk) hne
              have hcg : Chg (fun k => k = g2) (W2.alloc (.cells #[.int .i64 x2, .int .i64 y2, .int .i64 z2] 53)) w3 := by
                rcases hat3 with ⟨_, h⟩ | ⟨_, h⟩
                · exact Chg.of_grown h fun k hk => by cases hk; rfl
                · exact Chg.of_grown h fun k hk => by cases hk
              refine ⟨?_, ?_, hk0.trans hcg fun k hk hF => by omega⟩
              · rw [HSN.out, List.length_append]; exact hown3
              · have h1 := HL2.out.below (below1 W2 (.cells #[.int .i64 x2, .int .i64 y2, .int .i64 z2] 53))
                have : w3.heap[R]? = _ := (hgr R (by have := lt_some HL2.out; omega) (by omega)).trans h1
                rw [show nn + 1 + ((i + 1 : Nat) : Int) = nn + 1 + (i : Int) + 1 by omega]
                exact this
            clear hown3 hat3 HOW2 HL2 HC2 HN3 HSN hk0
            go_wp2
            go_roundw
            case rel => exact ⟨i + 1, s2, rs ++ [ns], by omega, by go_num, HI2.out, HF.out.1, HF.out.2.1, HF.out.2.2⟩
            case measure => simp [intOf]; omega
      · have y1 : ¬ (i : Int) < (c : Int) := by omega
        have eic : i = c := by omega
        have hB : Hid (rowsS 0 ((pn : Int) - 1) 3 c s1 = (rs, si, true)) := by have := HI.out; rw [eic] at this; exact this.all
        have hH2 : Hid (headRows 0 (mostT pn) 0 ((pn : Int) - 1) 3 s = (rs, si, true, rs.length + 1)) := by unfold Hid; rw [hH.out, hB.out]; rfl
        clear hH hB eic
        go_wp2
        go_ret2
        refine ⟨.slice va rs.length vc, ?_, ?_⟩
        · rw [hH2.out]; rfl
        · rw [hH2.out]
          refine ⟨HCH.out, ⟨si, ?_, (by have := HI.out.2.1; have := hlen1.out; omega), fun _ => rfl⟩, fun _ => HOW.out, (fun h => by cases h)⟩
          have := HLA.out
          rw [show nn + 1 + (i : Int) = nn + ((rs.length + 1 : Nat) : Int) by have := HRL.out; omega] at this
          exact this
end Go.Proofs.YtgpapegpdfonpaaGreatDoor
