/-
  Package text: Write.
-/
import Derived.Test.YtgpapegpdfonpaaGreatDoorTextK
import Derived.Laws.IdiomStrings
namespace Go.Proofs.YtgpapegpdfonpaaGreatDoor
set_option linter.unusedVariables false
set_option linter.unusedSimpArgs false
open Go.RowKit
attribute [local go_sem ↓] Go.wp_at_zero Go.wp_at_succ

def rowsP (l : List Pt) : List (List Int) := l.map fun p => [p.1, p.2]
def rowsT (l : List (Int × Int × Int)) : List (List Int) := l.map fun t => [t.1, t.2.1, t.2.2]
theorem rowB_snoc (rs : List (List Int)) (r : List Int) : rowB (rs ++ [r]) = rowB rs ++ (lineB r ++ [10]) := by simp [rowB]
theorem rowB_le (rs : List (List Int)) (k : Nat) (hk : 1 ≤ k) (h : ∀ r ∈ rs, r.length ≤ k ∧ ∀ n ∈ r, J64 n) : (rowB rs).length ≤ rs.length * (k * 22 + 1) := by
  have hm : ∀ l : List Int, (∀ n ∈ l, J64 n) → (lineB l).length ≤ l.length * 22 := by
    intro l hI
    induction l with
    | nil => simp [lineB]
    | cons a r ih =>
      cases r with
      | nil => have := itoa_le (hI a (by simp)); simp [lineB]; omega
      | cons b r =>
        have h1 := itoa_le (hI a (by simp))
        have h2 := ih (fun n hn => hI n (List.mem_cons_of_mem _ hn))
        simp only [lineB, List.length_append, List.length_cons] at *
        omega
  induction rs with
  | nil => simp [rowB]
  | cons r rs ih =>
    have h1 := ih fun q hq => h q (List.mem_cons_of_mem _ hq)
    obtain ⟨h2, h3⟩ := h r (by simp)
    have h4 := hm r h3
    have h5 : r.length * 22 ≤ k * 22 := Nat.mul_le_mul_right _ h2
    have e : rowB (r :: rs) = (lineB r ++ [10]) ++ rowB rs := by simp [rowB]
    have e2 : (r :: rs).length * (k * 22 + 1) = rs.length * (k * 22 + 1) + (k * 22 + 1) := by rw [List.length_cons, Nat.add_mul, Nat.one_mul]
    rw [e, e2, List.length_append, List.length_append]
    simp only [List.length_cons, List.length_nil]
    omega
set_option maxRecDepth 100000 in
set_option maxHeartbeats 8000000 in
theorem twrite_any (pa : Option Addr) (pc : Nat) (l : List Pt) (ta : Option Addr) (tc : Nat) (ts : List (Int × Int × Int)) (w : World) (V : Vars w) (hr : RawAt w pa l) (ht : TriRaw w ta ts) (hl : l.length ≤ 60) (hts : ts.length ≤ 1000000000) (hI : ∀ p ∈ l, J64 p.1 ∧ J64 p.2) (hJ : ∀ t ∈ ts, J64 t.1 ∧ J64 t.2.1 ∧ J64 t.2.2) :
    Calls Tryz.prog 30 #[.slice pa l.length pc, .slice ta ts.length tc] w fun e w' => e = .returned (bs (textB (rowsP l) (rowsT ts))) ∧ Below w.heap.size w w' := by
  have T0 : Tab w.heap.size w := Lib.tabBelow_of_tabIs V.tab
  have HT := Lib.hid T0
  have HL1 := Lib.hid (line_any w.heap.size (.slice none 0 0) [] (l.length : Int) none 0 [] w T0 (Nat.le_refl _) (World.ownsRow_nil _ _ _ _) (by simp) (by simp) (.inl rfl) ⟨by omega, by omega⟩ (by simp))
  have HR := Lib.hid (And.intro hr ht)
  have HI := Lib.hid (And.intro hI hJ)
  have HB := Lib.hid (And.intro hl hts)
  have HHD : Hid ((lineB [(l.length : Int)]).length ≤ 21) := by
    have := itoa_le (n := (l.length : Int)) ⟨by omega, by omega⟩
    exact this
  clear T0 V hr ht hl hts hI hJ
  go_enter Tryz.func30, Tryz.ntmps30
  go_wp2_with (first | (go_at_call 78; refine HL1.out.mono ?_; rintro e w1 ⟨v1, rfl, hp1⟩))
  have HP1 : Hid (LineP w w1 w.heap.size v1 (lineB [(l.length : Int)] ++ [10])) := hp1
  clear hp1 HL1
  go_loopw [5, 7, 15] (fun s5 _ s15 wr => ∃ i : Nat, i ≤ l.length ∧ s15 = .int .i64 i ∧ LineP w wr w.heap.size s5 ((lineB [(l.length : Int)] ++ [10]) ++ rowB (rowsP (l.take i)))) (fun _ _ s15 _ => l.length - (intOf s15).toNat)
  case atStart => exact ⟨0, Nat.zero_le _, rfl, by simpa [rowsP, rowB] using HP1.out⟩
  case round =>
    obtain ⟨i, hi, rfl, hP⟩ := hrel
    obtain ⟨al, eal⟩ : ∃ al, (lineB [(l.length : Int)] ++ [10]) ++ rowB (rowsP (l.take i)) = al := ⟨_, rfl⟩
    rw [eal] at hP
    have HP := Lib.hid hP
    obtain ⟨va, vc, rfl⟩ := ownS_any hP.own
    have HEA := Lib.hid eal
    have HLE : Hid (((lineB [(l.length : Int)] ++ [10]) ++ rowB (rowsP (l.take i))).length ≤ 10000) := by
      have h1 := HHD.out
      have h2 := rowB_le (rowsP (l.take i)) 2 (by omega) (fun r hr => by
        obtain ⟨p, hp, rfl⟩ := List.mem_map.1 hr
        have := HI.out.1 p (List.mem_of_mem_take hp)
        exact ⟨by simp, by simp; exact this⟩)
      have h3 : (rowsP (l.take i)).length ≤ 60 := by have := HB.out.1; simp [rowsP]; omega
      unfold Hid
      simp only [List.length_append, List.length_cons, List.length_nil]
      have : (rowsP (l.take i)).length * (2 * 22 + 1) ≤ 60 * 45 := Nat.mul_le_mul h3 (by omega)
      omega
    by_cases hlt : i < l.length
    · have y0 : (0 : Int) ≤ (i : Int) := by omega
      have y1 : (i : Int) < (l.length : Int) := by omega
      have yi : IntKind.i64.wrap ((i : Int) + 1) = (i : Int) + 1 := wrap_id (by omega) (by have := HB.out.1; omega)
      rcases raw_belowT HR.out.1 hP.bel with h | ⟨b, off, rfl, hb, hpp⟩
      · rw [h] at hlt; simp at hlt
      obtain ⟨c0, c1⟩ := hpp i hlt
      have hmem : l.getD i (0, 0) ∈ l := by
        have : l.getD i (0, 0) = l[i] := by simp [hlt]
        rw [this]; exact List.getElem_mem hlt
      have hIx := HI.out.1 _ hmem
      have HRW : Hid (rowB (rowsP (l.take (i + 1))) = rowB (rowsP (l.take i)) ++ (lineB [(l.getD i (0, 0)).1, (l.getD i (0, 0)).2] ++ [10])) := by
        unfold Hid
        have : l.take (i + 1) = l.take i ++ [l.getD i (0, 0)] := by rw [List.take_add_one, List.getElem?_eq_getElem hlt]; simp [hlt]
        rw [this, show rowsP (l.take i ++ [l.getD i (0, 0)]) = rowsP (l.take i) ++ [[(l.getD i (0, 0)).1, (l.getD i (0, 0)).2]] by simp [rowsP], rowB_snoc]
      generalize (l.getD i (0, 0)).1 = x at *
      generalize (l.getD i (0, 0)).2 = y at *
      have hb1 := below1 wr (.cells #[.int .i64 x, .int .i64 y] 37)
      have hb2 := below2 wr (.cells #[.int .i64 x, .int .i64 y] 37) (.cells #[.int .i64 y] 3)
      have hsz : w.heap.size ≤ wr.heap.size := hP.bel.size
      have hle : al.length ≤ 10000 := by rw [← eal]; exact HLE.out
      have hsW : w.heap.size ≤ ((wr.alloc (.cells #[.int .i64 x, .int .i64 y] 37)).alloc (.cells #[.int .i64 y] 3)).heap.size := Nat.le_trans hsz hb2.size
      have hM2 : MoreAt ((wr.alloc (.cells #[.int .i64 x, .int .i64 y] 37)).alloc (.cells #[.int .i64 y] 3)) (some ⟨wr.heap.size + 1, 0, none⟩) [y] := .inr ⟨wr.heap.size + 1, rfl, by
        have := heap_alloc_new (wr.alloc (.cells #[.int .i64 x, .int .i64 y] 37)) (.cells #[.int .i64 y] 3)
        simpa using this⟩
      have hB2 := hP.bel.trans (hb2.mono hsz)
      have HLN := Lib.hid (line_any w.heap.size (.slice va al.length vc) al x (some ⟨wr.heap.size + 1, 0, none⟩) 1 [y] _ (HT.out.on hB2) hsW (ownB_below hP.own hb2) (by omega) (by simp) hM2 hIx.1 (by simp; exact hIx.2))
      have HB2 := Lib.hid hB2
      have HKP : Hid (Lib.OthersKept 5 none w ((wr.alloc (.cells #[.int .i64 x, .int .i64 y] 37)).alloc (.cells #[.int .i64 y] 3))) := (hP.kept.alloc _).alloc _
      clear hpp hmem hb1 hb2 hB2 hM2 hsW hle eal hP
      go_wp2_with (first | (go_at_call 78; refine HLN.out.mono ?_; rintro e w5 ⟨v5, rfl, hp5⟩))
      have HP5 : Hid (LineP w w5 w.heap.size v5 ((lineB [(l.length : Int)] ++ [10]) ++ rowB (rowsP (l.take (i + 1))))) := by
        refine ⟨?_, HB2.out.trans hp5.bel, HKP.out.trans hp5.kept⟩
        rw [HRW.out, ← List.append_assoc, HEA.out]
        exact hp5.own
      clear hp5 HLN
      go_roundw
      case rel => exact ⟨i + 1, by omega, by go_num, HP5.out⟩
      case measure => simp [intOf]; omega
    · have y1 : ¬ (i : Int) < (l.length : Int) := by omega
      have ei : l.take i = l := List.take_of_length_le (by omega)
      have hle : al.length ≤ 10000 := by rw [← eal]; exact HLE.out
      have hI2 : J64 (ts.length : Int) := ⟨by omega, by have := HB.out.2; omega⟩
      have HLN := Lib.hid (line_any w.heap.size (.slice va al.length vc) al (ts.length : Int) none 0 [] wr (HT.out.on hP.bel) hP.bel.size hP.own (by omega) (by simp) (.inl rfl) hI2 (by simp))
      have HAL : Hid (al = (lineB [(l.length : Int)] ++ [10]) ++ rowB (rowsP l)) := by rw [ei] at eal; exact eal.symm
      have HAL2 := Lib.hid hle
      have hlt2 := itoa_le hI2
      have HLT2 := Lib.hid hlt2
      clear eal ei hle hI2 HLE HEA hP hlt2
      go_wp2_with (first | (go_at_call 78; refine HLN.out.mono ?_; rintro e w6 ⟨v6, rfl, hp6⟩))
      have HP6 : Hid (LineP w w6 w.heap.size v6 (al ++ (lineB [(ts.length : Int)] ++ [10]))) := ⟨hp6.own, HP.out.bel.trans hp6.bel, HP.out.kept.trans hp6.kept⟩
      clear hp6 HLN HP
      go_loopw [5, 9, 33] (fun s5 _ s33 wx => ∃ j : Nat, j ≤ ts.length ∧ s33 = .int .i64 j ∧ LineP w wx w.heap.size s5 ((al ++ (lineB [(ts.length : Int)] ++ [10])) ++ rowB (rowsT (ts.take j)))) (fun _ _ s33 _ => ts.length - (intOf s33).toNat)
      case atStart => exact ⟨0, Nat.zero_le _, rfl, by simpa [rowsT, rowB] using HP6.out⟩
      case round =>
        obtain ⟨j, hj, rfl, hP⟩ := hrel
        obtain ⟨bl, ebl⟩ : ∃ bl, (al ++ (lineB [(ts.length : Int)] ++ [10])) ++ rowB (rowsT (ts.take j)) = bl := ⟨_, rfl⟩
        rw [ebl] at hP
        have HP := Lib.hid hP
        obtain ⟨ua, uc, rfl⟩ := ownS_any hP.own
        have HEB := Lib.hid ebl
        have HLE : Hid (bl.length ≤ 100000000000) := by
          have h1 := HLT2.out
          have h1' : (lineB [(ts.length : Int)]).length ≤ 21 := h1
          have h2 := rowB_le (rowsT (ts.take j)) 3 (by omega) (fun r hr => by
            obtain ⟨t, ht, rfl⟩ := List.mem_map.1 hr
            have := HI.out.2 t (List.mem_of_mem_take ht)
            exact ⟨by simp, by simp; exact this⟩)
          have h3 : (rowsT (ts.take j)).length ≤ 1000000000 := by have := HB.out.2; simp [rowsT]; omega
          have h4 := HAL2.out
          unfold Hid
          rw [← ebl]
          simp only [List.length_append, List.length_cons, List.length_nil]
          have : (rowsT (ts.take j)).length * (3 * 22 + 1) ≤ 1000000000 * 67 := Nat.mul_le_mul h3 (by omega)
          omega
        by_cases hlt : j < ts.length
        · have y0 : (0 : Int) ≤ (j : Int) := by omega
          have y2 : (j : Int) < (ts.length : Int) := by omega
          have yi : IntKind.i64.wrap ((j : Int) + 1) = (j : Int) + 1 := wrap_id (by omega) (by have := HB.out.2; omega)
          rcases HR.out.2.below hP.bel with h | ⟨b, off, rfl, hb, hpp⟩
          · rw [h] at hlt; simp at hlt
          obtain ⟨c0, c1, c2⟩ := hpp j hlt
          have hmem : ts.getD j (0, 0, 0) ∈ ts := by
            have : ts.getD j (0, 0, 0) = ts[j] := by simp [hlt]
            rw [this]; exact List.getElem_mem hlt
          have hIx := HI.out.2 _ hmem
          have HRW : Hid (rowB (rowsT (ts.take (j + 1))) = rowB (rowsT (ts.take j)) ++ (lineB [(ts.getD j (0, 0, 0)).1, (ts.getD j (0, 0, 0)).2.1, (ts.getD j (0, 0, 0)).2.2] ++ [10])) := by
            unfold Hid
            have : ts.take (j + 1) = ts.take j ++ [ts.getD j (0, 0, 0)] := by rw [List.take_add_one, List.getElem?_eq_getElem hlt]; simp [hlt]
            rw [this, show rowsT (ts.take j ++ [ts.getD j (0, 0, 0)]) = rowsT (ts.take j) ++ [[(ts.getD j (0, 0, 0)).1, (ts.getD j (0, 0, 0)).2.1, (ts.getD j (0, 0, 0)).2.2]] by simp [rowsT], rowB_snoc]
          generalize (ts.getD j (0, 0, 0)).1 = x at *
          generalize (ts.getD j (0, 0, 0)).2.1 = y at *
          generalize (ts.getD j (0, 0, 0)).2.2 = z at *
          have hb2 := below2 wr (.cells #[.int .i64 x, .int .i64 y, .int .i64 z] 53) (.cells #[.int .i64 y, .int .i64 z] 3)
          have hsz : w.heap.size ≤ wr.heap.size := hP.bel.size
          have hle : bl.length ≤ 100000000000 := HLE.out
          have hsW : w.heap.size ≤ ((wr.alloc (.cells #[.int .i64 x, .int .i64 y, .int .i64 z] 53)).alloc (.cells #[.int .i64 y, .int .i64 z] 3)).heap.size := Nat.le_trans hsz hb2.size
          have hM2 : MoreAt ((wr.alloc (.cells #[.int .i64 x, .int .i64 y, .int .i64 z] 53)).alloc (.cells #[.int .i64 y, .int .i64 z] 3)) (some ⟨wr.heap.size + 1, 0, none⟩) [y, z] := .inr ⟨wr.heap.size + 1, rfl, by
            have := heap_alloc_new (wr.alloc (.cells #[.int .i64 x, .int .i64 y, .int .i64 z] 53)) (.cells #[.int .i64 y, .int .i64 z] 3)
            simpa using this⟩
          have hB2 := hP.bel.trans (hb2.mono hsz)
          have HLN := Lib.hid (line_any w.heap.size (.slice ua bl.length uc) bl x (some ⟨wr.heap.size + 1, 0, none⟩) 2 [y, z] _ (HT.out.on hB2) hsW (ownB_below hP.own hb2) (by omega) (by simp) hM2 hIx.1 (by simp; exact hIx.2))
          have HB2 := Lib.hid hB2
          have HKP : Hid (Lib.OthersKept 5 none w ((wr.alloc (.cells #[.int .i64 x, .int .i64 y, .int .i64 z] 53)).alloc (.cells #[.int .i64 y, .int .i64 z] 3))) := (hP.kept.alloc _).alloc _
          clear hpp hmem hb2 hB2 hM2 hsW hle ebl hP
          go_wp2_with (first | (go_at_call 78; refine HLN.out.mono ?_; rintro e w7 ⟨v7, rfl, hp7⟩))
          have HP7 : Hid (LineP w w7 w.heap.size v7 ((al ++ (lineB [(ts.length : Int)] ++ [10])) ++ rowB (rowsT (ts.take (j + 1))))) := by
            refine ⟨?_, HB2.out.trans hp7.bel, HKP.out.trans hp7.kept⟩
            rw [HRW.out, ← List.append_assoc, HEB.out]
            exact hp7.own
          clear hp7 HLN
          go_roundw
          case rel => exact ⟨j + 1, by omega, by go_num, HP7.out⟩
          case measure => simp [intOf]; omega
        · have y2 : ¬ (j : Int) < (ts.length : Int) := by omega
          have ej : ts.take j = ts := List.take_of_length_le (by omega)
          have HTX : Hid (bl = textB (rowsP l) (rowsT ts)) := by
            unfold Hid
            rw [← ebl, ej, HAL.out]
            unfold textB
            simp [rowsP, rowsT]
          have hpos : 0 < bl.length := by rw [HTX.out]; exact List.length_pos_iff.2 (textB_ne _ _)
          have hcv : (convert 126 9 (.slice ua bl.length uc)).run Tryz.prog wr = .ok (.string ⟨bl.toArray⟩) wr := by
            rcases hP.own.2 with ⟨-, h0⟩ | ⟨g, cap, cur, e, -, -, -, -, -, -⟩
            · omega
            · cases e
              exact run_convert_bytes_back (P := Tryz.prog) wr 126 9 5 ⟨g, 0, none⟩ uc bl Tryz.underlying126 Tryz.underlying5 Tryz.underlying9 (fun k hk => hP.own.cells (g := g) rfl k _ (by simp [Lib.byteCells, hk]))
          have HBL := Lib.hid hP.bel
          clear ej ebl hpos hP
          go_wp2
          go_ret
          exact ⟨by rw [← HTX.out]; rfl, HBL.out⟩
/-- Write of the program -/
def writeV (l : List Pt) (ts : List (Int × Int × Int)) : Value := if wfaultN l ts = 0 then .tuple #[bs (textB (rowsP l) (rowsT ts)), .int .i64 0] else .tuple #[bs [], .int .i64 (wfaultN l ts)]
theorem wfault_zero {l : List Pt} {ts : List (Int × Int × Int)} (h : wfaultN l ts = 0) : l.length ≤ 60 ∧ anyFarB l = false ∧ ∀ t ∈ ts, placesB l.length t = true := by
  unfold wfaultN limitN at h
  by_cases h1 : 60 < l.length
  · simp [h1] at h
  · by_cases h2 : anyFarB l = true
    · simp [h1, h2] at h
    · simp only [if_neg h1, if_neg h2] at h
      by_cases h3 : noneB l.length ts = true
      · simp [h3] at h
      · refine ⟨by omega, by simpa using h2, fun t ht => ?_⟩
        unfold noneB at h3
        simp only [List.any_eq_true, not_exists, not_and] at h3
        have := h3 t ht
        simpa using this
theorem farB_J64 {x y : Int} (h : farB x y = false) : J64 x ∧ J64 y := by
  obtain ⟨a, b, c, d⟩ := farB_near h
  exact ⟨⟨by omega, by omega⟩, ⟨by omega, by omega⟩⟩
set_option maxHeartbeats 2000000 in
theorem write_any (pa : Option Addr) (pc : Nat) (l : List Pt) (ta : Option Addr) (tc : Nat) (ts : List (Int × Int × Int)) (w : World) (V : Vars w) (hr : RawAt w pa l) (ht : TriRaw w ta ts) (hts : ts.length ≤ 1000000000) :
    Calls Tryz.prog 13 #[.slice pa l.length pc, .slice ta ts.length tc] w fun e w' => e = .returned (writeV l ts) ∧ Below w.heap.size w w' := by
  have HF := Lib.hid (wfault_any pa pc l ta tc ts w hr ht hts)
  by_cases h0 : wfaultN l ts = 0
  · obtain ⟨h1, h2, h3⟩ := wfault_zero h0
    have HV : Hid (writeV l ts = .tuple #[bs (textB (rowsP l) (rowsT ts)), .int .i64 0]) := by unfold Hid writeV; rw [if_pos h0]
    rw [h0] at HF
    have HW := Lib.hid (fun W (hb : Below w.heap.size w W) => twrite_any pa pc l ta tc ts W (V.below hb) (raw_belowT hr hb) (ht.below hb) h1 hts (fun p hp => by
      unfold anyFarB at h2
      rw [List.any_eq_false] at h2
      exact farB_J64 (by simpa using h2 p hp)) (fun t ht => by
      have := h3 t ht
      unfold placesB at this
      simp at this
      unfold J64
      omega))
    generalize textB (rowsP l) (rowsT ts) = tx at *
    clear h0 h1 h2 h3 hr ht hts V
    go_enter Tryz.func13, Tryz.ntmps13
    go_wp2_with (first
      | (go_at_call 29; refine HF.out.mono ?_; rintro e w1 ⟨rfl, hb1⟩)
      | (go_at_call 30; refine (HW.out _ hb1).mono ?_; rintro e w2 ⟨rfl, hb2⟩))
    go_ret2
    exact ⟨by rw [HV.out]; rfl, hb1.trans (hb2.mono hb1.size)⟩
  · have HV : Hid (writeV l ts = .tuple #[bs [], .int .i64 (wfaultN l ts)]) := by unfold Hid writeV; rw [if_neg h0]
    have hn : (wfaultN l ts != 0) = true := by simpa using h0
    obtain ⟨k, ek⟩ : ∃ k, wfaultN l ts = k := ⟨_, rfl⟩
    rw [ek] at HF HV hn
    clear h0 ek hr ht hts V
    go_enter Tryz.func13, Tryz.ntmps13
    go_wp2_with (first
      | (go_at_call 29; refine HF.out.mono ?_; rintro e w1 ⟨rfl, hb1⟩))
    go_ret2
    exact ⟨by rw [HV.out]; rfl, hb1⟩
end Go.Proofs.YtgpapegpdfonpaaGreatDoor
