/-
  Kept of the statement: its walk.
-/
import Derived.Test.YtgpapegpdfonpaaGreatDoorTextL
import Derived.Test.YtgpapegpdfonpaaGreatDoorJoinL
import Derived.Test.YtgpapegpdfonpaaGreatDoorNetJL
import Derived.BigQuiet
namespace Go.Proofs.YtgpapegpdfonpaaGreatDoor
set_option linter.unusedVariables false
set_option linter.unusedSimpArgs false
open Go.RowKit
attribute [local go_sem ↓] Go.wp_at_zero Go.wp_at_succ

theorem ptsOf_rows (l : List Pt) : ptsOf (rowsP l) = l := by
  unfold ptsOf rowsP
  rw [List.map_map]
  conv => rhs; rw [← List.map_id l]
  apply List.map_congr_left
  intro p _
  rfl
theorem triCells_rows (ts : List T3) : triCells (rowsT ts) = flatT ts := by
  unfold triCells rowsT flatT
  rw [List.flatMap_map]
  rfl
/-- triangles of points, by the program -/
theorem triang_own (la : Option Addr) (lc : Nat) (l : List Pt) (w : World) (base : Nat) (ho : w.ownsRow base 37 2 (.slice la l.length lc) l.length (cellsP l)) (hl : l.length ≤ 60) (hnd : l.Nodup) (hn : AllNear l) :
    Calls Tryz.prog 12 #[.slice la l.length lc] w fun e w' => ∃ v ts, e = .returned (.tuple #[v, .int .i64 0]) ∧ w'.ownsRow w.heap.size 53 3 v ts.length (flatT ts) ∧ ts.length ≤ 4000 ∧ (∀ t ∈ ts, placesB l.length t = true) ∧ Below w.heap.size w w' := by
  by_cases h0 : l = []
  · subst h0
    exact (triang_none la lc w).mono fun e w' ⟨he, hb⟩ => ⟨_, [], he, ⟨rfl, .inl ⟨rfl, rfl⟩⟩, by simp, by simp, hb⟩
  · have hpos := List.length_pos_iff.2 h0
    obtain ⟨n, hn'⟩ : ∃ n, l.length = n + 1 := ⟨l.length - 1, by omega⟩
    obtain ⟨g, rfl, hg, hP⟩ : ∃ g, la = some ⟨g, 0, none⟩ ∧ g < w.heap.size ∧ PtsAt w g 0 l := by
      rcases RowP.raw' ho with h | ⟨b, off, e, hb, hp⟩
      · exact absurd h h0
      · obtain ⟨g, e', hg, _⟩ := ownS_place ho hpos
        rw [e'] at e
        simp at e
        obtain ⟨rfl, rfl⟩ := e
        exact ⟨g, e', hg, hp⟩
    have hf := fault_ok hl hn hnd
    exact (triang_any g 0 lc l n w hn' hg hP hf).mono fun e w' ⟨v, ts, he, h1, h2, h3, h4⟩ => ⟨v, ts, he, h1, h3, fun t ht => by
      obtain ⟨_, F, _⟩ := (good_of hf h2 h3).tri ht
      have := (F.tri t ht).1
      unfold placesB
      simp
      omega, h4⟩
theorem textOk_of {l : List Pt} {ts : List T3} (hl : l.length ≤ 60) (hn : AllNear l) (ht : ∀ t ∈ ts, placesB l.length t = true) (h4 : ts.length ≤ 1000000000) : TextOk (rowsP l) (rowsT ts) := by
  have hlen : (rowsP l).length = l.length := by simp [rowsP]
  refine ⟨by rw [hlen]; exact hl, fun r hr => ?_, fun r hr => ?_, by simp [rowsT]; omega⟩
  · obtain ⟨p, hp, rfl⟩ := List.mem_map.1 hr
    obtain ⟨i, hi, e⟩ := List.getElem_of_mem hp
    have := hn i hi
    have e1 : px l i = p.1 := by simp [px, hi, e]
    have e2 : py l i = p.2 := by simp [py, hi, e]
    rw [e1, e2] at this
    obtain ⟨a, b, c, d⟩ := this
    refine ⟨rfl, fun n hn => ?_⟩
    simp at hn
    unfold J64
    rcases hn with rfl | rfl <;> omega
  · obtain ⟨t, htm, rfl⟩ := List.mem_map.1 hr
    have := ht t htm
    unfold placesB at this
    simp at this
    rw [hlen]
    refine ⟨rfl, fun n hn => ?_⟩
    simp at hn
    unfold J64
    rcases hn with rfl | rfl | rfl <;> omega
theorem triRaw_own {w : World} {base tc : Nat} {ta : Option Addr} {ts : List T3} (h : w.ownsRow base 53 3 (.slice ta ts.length tc) ts.length (flatT ts)) : TriRaw w ta ts := by
  by_cases h0 : ts = []
  · exact .inl h0
  · obtain ⟨g, e, hg, hc⟩ := ownS_place h (List.length_pos_iff.2 h0)
    refine .inr ⟨g, 0, e, hg, fun j hj => ?_⟩
    have f0 := flatT_get ts j 0 (by omega) hj
    have f1 := flatT_get ts j 1 (by omega) hj
    have f2 := flatT_get ts j 2 (by omega) hj
    have eg : ts.getD j (0, 0, 0) = ts[j] := by simp [hj]
    rw [eg]
    simp only [Nat.zero_add]
    exact ⟨(hc _ (by omega)).trans f0, (hc _ (by omega)).trans f1, (hc _ (by omega)).trans f2⟩
theorem wfault_ok {l : List Pt} {ts : List T3} (hl : l.length ≤ 60) (hf : anyFarB l = false) (ht : ∀ t ∈ ts, placesB l.length t = true) : wfaultN l ts = 0 := by
  unfold wfaultN limitN
  have h3 : noneB l.length ts = false := by
    unfold noneB
    rw [List.any_eq_false]
    intro t h
    rw [ht t h]
    decide
  have h6 : ¬ 60 < l.length := by omega
  simp [h6, hf, h3]
theorem textB_le {l : List Pt} {ts : List T3} (h : TextOk (rowsP l) (rowsT ts)) (h4 : ts.length ≤ 4000) : (textB (rowsP l) (rowsT ts)).length ≤ 500000 := by
  have e1 := rowB_le (rowsP l) 2 (by omega) fun r hr => ⟨by rw [(h.pts r hr).1]; omega, fun n hn => ((h.pts r hr).2 n hn).1⟩
  have e2 := rowB_le (rowsT ts) 3 (by omega) fun r hr => ⟨by rw [(h.tri r hr).1]; omega, fun n hn => ((h.tri r hr).2 n hn).1⟩
  have l1 : (rowsP l).length ≤ 60 := h.few
  have l2 : (rowsT ts).length ≤ 4000 := by simp [rowsT]; exact h4
  have i1 := itoa_le (n := ((rowsP l).length : Int)) ⟨by omega, by omega⟩
  have i2 := itoa_le (n := ((rowsT ts).length : Int)) ⟨by omega, by omega⟩
  unfold textB lineB
  simp only [List.length_append, List.length_cons]
  have : (rowsP l).length * (2 * 22 + 1) ≤ 60 * 45 := Nat.mul_le_mul_right _ l1
  have : (rowsT ts).length * (3 * 22 + 1) ≤ 4000 * 67 := Nat.mul_le_mul_right _ l2
  omega
/-- the triples of rows -/
def trisOf (rs : List (List Int)) : List T3 := rs.map fun r => (r.getD 0 0, r.getD 1 0, r.getD 2 0)
theorem rows_back {ps ts : List (List Int)} (h : TextOk ps ts) : rowsP (ptsOf ps) = ps ∧ rowsT (trisOf ts) = ts ∧ triCells ts = flatT (trisOf ts) ∧ wfaultN (ptsOf ps) (trisOf ts) = 0 := by
  refine ⟨?_, ?_, ?_, ?_⟩
  · unfold rowsP ptsOf
    rw [List.map_map]
    conv => rhs; rw [← List.map_id ps]
    apply List.map_congr_left
    intro r hr
    match r, (h.pts r hr).1 with
    | [a, b], _ => rfl
  · unfold rowsT trisOf
    rw [List.map_map]
    conv => rhs; rw [← List.map_id ts]
    apply List.map_congr_left
    intro r hr
    match r, (h.tri r hr).1 with
    | [a, b, c], _ => rfl
  · unfold triCells trisOf flatT
    rw [List.flatMap_map]
    rfl
  · have hlen : (ptsOf ps).length = ps.length := by simp [ptsOf]
    refine wfault_ok (by rw [hlen]; exact h.few) ?_ fun t ht => ?_
    · unfold anyFarB
      rw [List.any_eq_false]
      intro p hp
      obtain ⟨r, hr, rfl⟩ := List.mem_map.1 hp
      have hr' := h.pts r hr
      match r, hr' with
      | [a, b], hr' =>
        have ha := hr'.2 a (by simp)
        have hb := hr'.2 b (by simp)
        simp [farB]
        omega
    · obtain ⟨r, hr, rfl⟩ := List.mem_map.1 ht
      have hr' := h.tri r hr
      rw [hlen]
      match r, hr' with
      | [a, b, c], hr' =>
        have ha := hr'.2 a (by simp)
        have hb := hr'.2 b (by simp)
        have hc := hr'.2 c (by simp)
        unfold placesB
        simp
        omega
theorem read_bad (s : List UInt8) (w : World) (V : Vars w) (hs : s.length ≤ 1000000000) {k : Nat} (h : readS s = .inr k) :
    Calls Tryz.prog 14 #[bs s] w fun e w' => e = .returned (.tuple #[.slice none 0 0, .slice none 0 0, .int .i64 5, .int .i64 (k : Int)]) ∧ Below w.heap.size w w' := by
  refine (read_any s w V hs).mono ?_
  rintro e w' ⟨v, u, x, n, rfl, hp, hb⟩
  unfold ReadR4 at hp
  rw [h] at hp
  obtain ⟨rfl, rfl, rfl, rfl⟩ := hp
  exact ⟨rfl, hb⟩
theorem eqTriK (a b c a' b' c' : Int) (w : World) : (Op.equalIn 10000 53 (.agg #[.int .i64 a, .int .i64 b, .int .i64 c]) (.agg #[.int .i64 a', .int .i64 b', .int .i64 c'])).run Tryz.prog w = .ok (a == a' && b == b' && c == c') w := by
  have u3 := Tryz.underlying3
  have a3 := Tryz.isAgg3
  have z3 := Tryz.sizeOf3
  rw [show (10000 : Nat) = 9999 + 1 from rfl, Op.equalIn]
  simp only [Sem.run_bind, run_underlying Tryz.underlying53, Result.andThen_ok]
  simp only [Std.Legacy.Range.forIn_eq_forIn_range', Std.Legacy.Range.size, Nat.sub_zero, Nat.add_sub_cancel, Nat.div_one, List.range'_succ, List.range'_zero, List.forIn_cons, List.forIn_nil]
  go_simp
  by_cases h1 : a = a' <;> by_cases h2 : b = b' <;> by_cases h3 : c = c' <;> simp [h1, h2, h3]
set_option maxRecDepth 100000 in
set_option maxHeartbeats 8000000 in
theorem kept_walk (a : Option Addr) (cap : Nat) (rs : List Pt) (step : Int) (text : List UInt8) (at' : Int) (w : World) (V : Vars w) (hm : rs.length ≤ maxLen) (hr : RawAt w a rs) (hfit : Fits rs) (t1 : -9223372036854775808 ≤ step) (t2 : step ≤ 9223372036854775807) (b1 : -9223372036854775808 ≤ at') (b2 : at' ≤ 9223372036854775807) (hs : text.length ≤ 1000000000) :
    Calls Tryz.prog 6 #[.slice a rs.length cap, .int .i64 step, bs text, .int .i64 at'] w fun e w' => e = .returned (.bool true) ∧ Below w.heap.size w w' := by
  have HC := Lib.hid (cloud_any a cap rs step w hm hr hfit t1 t2)
  clear hm hr hfit t1 t2
  go_enter Tryz.func6, Tryz.ntmps6
  go_upto_region 2 with (go_at_call 11; refine HC.out.mono ?_; rintro e w1 ⟨v, l, rfl, hl, hnd, hn, ho, hb1⟩)
  obtain ⟨va, vc, rfl⟩ := OwnP.any ho
  have HT := Lib.hid (triang_own va vc l w1 _ ho hl hnd hn)
  go_upto_region 3 with (go_at_call 12; refine HT.out.mono ?_; rintro e w2 ⟨tv, ts, rfl, hto, ht4, htp, hb2⟩)
  obtain ⟨ta, tc, rfl⟩ := ownS_any hto
  have hok := textOk_of hl hn htp (by omega)
  have hle := textB_le hok ht4
  have hw2 : Below w.heap.size w w2 := hb1.trans (hb2.mono hb1.size)
  have HO := Lib.hid (ho.below hb2)
  have HTO := Lib.hid hto
  have HW := Lib.hid (write_any va vc l ta tc ts w2 (V.below hw2) (RowP.raw' HO.out) (triRaw_own hto) (by omega))
  unfold writeV at HW
  rw [wfault_ok hl (anyFarB_near hn) htp, if_pos rfl] at HW
  have HOK := Lib.hid hok
  have hne := textB_ne (rowsP l) (rowsT ts)
  clear ho hto HC HT hb1 hb2 hnd hn htp hok
  have HRI := Lib.hid (readS_iff (s := textB (rowsP l) (rowsT ts)) |>.2 ⟨HOK.out, rfl⟩)
  have HCUT := Lib.hid (fun (i : Nat) (hi : i < (textB (rowsP l) (rowsT ts)).length) => readS_cut HOK.out hi)
  have HMO := Lib.hid (readS_more HOK.out 49 [])
  have HLD := Lib.hid (readS_lead HOK.out)
  generalize textB (rowsP l) (rowsT ts) = tx at *
  go_upto_region 4 with (go_at_call 13; refine HW.out.mono ?_; rintro e w3 ⟨rfl, hb3⟩)
  have hw3 : Below w.heap.size w w3 := hw2.trans (hb3.mono hw2.size)
  have HR := Lib.hid (read_any tx w3 (V.below hw3) (by omega))
  go_upto_region 5 with (go_at_call 14; refine HR.out.mono ?_; rintro e w4 ⟨mv, uv, x, n, rfl, hp, hb4⟩)
  have hw4 : Below w.heap.size w w4 := hw3.trans (hb4.mono hw3.size)
  unfold ReadR4 at hp
  rw [HRI.out] at hp
  obtain ⟨rfl, rfl, hm0, hu0⟩ := hp
  simp only [ptsOf_rows, triCells_rows] at hm0 hu0
  have em : (rowsP l).length = l.length := by simp [rowsP]
  have eu : (rowsT ts).length = ts.length := by simp [rowsT]
  rw [em] at hm0 HMO
  rw [eu] at hu0 HMO
  obtain ⟨ma, mc, rfl⟩ := ownS_any hm0
  obtain ⟨ua, uc, rfl⟩ := ownS_any hu0
  have h24 : Below w2.heap.size w2 w4 := hb3.trans (hb4.mono hb3.size)
  have HPL := Lib.hid (OwnP.below HO.out h24)
  have HPT := Lib.hid (ownB_below HTO.out h24)
  have HPM := Lib.hid hm0
  have HPU := Lib.hid hu0
  clear hm0 hu0 HO HTO HW HR HRI em eu hb3 hb4 hw3 hw2 h24
  have hemp : tx.isEmpty = false := by cases tx; exact absurd rfl hne; rfl
  have hpos : 0 < tx.length := List.length_pos_iff.2 hne
  have heq := eqTriK
  go_wp2_with fail
  go_loopw [18] (fun i wr => ∃ k : Nat, k ≤ l.length ∧ i = .int .i64 k ∧ Below w4.heap.size w4 wr) (fun i _ => l.length - (intOf i).toNat)
  case atStart => exact ⟨0, by omega, rfl, Below.refl _ _⟩
  case round =>
    obtain ⟨k, hk, rfl, hbr⟩ := hrel
    by_cases hlt : k < l.length
    · obtain ⟨g, rfl, hg, hc⟩ := ownS_place (ownB_below HPL.out hbr) (by omega)
      obtain ⟨g', rfl, hg', hc'⟩ := ownS_place (ownB_below HPM.out hbr) (by omega)
      have c := cellsP_get l k hlt
      have c0 := (hc (k * 2) (by omega)).trans c.1
      have c1 := (hc (k * 2 + 1) (by omega)).trans c.2
      have d0 := (hc' (k * 2) (by omega)).trans c.1
      have d1 := (hc' (k * 2 + 1) (by omega)).trans c.2
      generalize (l.getD k (0, 0)).1 = x at *
      generalize (l.getD k (0, 0)).2 = y at *
      have y0 : (0 : Int) ≤ (k : Int) := by omega
      have y1 : (k : Int) < (l.length : Int) := by omega
      have y2 : IntKind.i64.wrap ((k : Int) + 1) = (k : Int) + 1 := wrap_id (by omega) (by omega)
      clear hc hc' c heq
      go_wp2_with fail
      go_quiet (fail)
      go_wp2
      go_roundw
      case rel => exact ⟨k + 1, by omega, by go_num, below_drewN hbr⟩
      case measure => simp [intOf]; omega
    · go_wp2_with fail
      go_loopw [19] (fun i wr => ∃ k : Nat, k ≤ ts.length ∧ i = .int .i64 k ∧ Below w4.heap.size w4 wr) (fun i _ => ts.length - (intOf i).toNat)
      case atStart => exact ⟨0, by omega, rfl, hbr⟩
      case round =>
        clear hbr
        obtain ⟨j, hj, rfl, hbr⟩ := hrel
        by_cases hjt : j < ts.length
        · obtain ⟨g, rfl, hg, hc⟩ := ownS_place (ownB_below HPT.out hbr) (by omega)
          obtain ⟨g', rfl, hg', hc'⟩ := ownS_place (ownB_below HPU.out hbr) (by omega)
          have f0 := flatT_get ts j 0 (by omega) hjt
          have f1 := flatT_get ts j 1 (by omega) hjt
          have f2 := flatT_get ts j 2 (by omega) hjt
          obtain ⟨⟨x, y, z⟩, exyz⟩ : ∃ t, ts[j] = t := ⟨_, rfl⟩
          rw [exyz] at f0 f1 f2
          have c0 : wr.cell? ⟨g, j * 3, none⟩ = some (.int .i64 x) := (hc (j * 3 + 0) (by omega)).trans f0
          have c1 : wr.cell? ⟨g, j * 3 + 1, none⟩ = some (.int .i64 y) := (hc (j * 3 + 1) (by omega)).trans f1
          have c2 : wr.cell? ⟨g, j * 3 + 2, none⟩ = some (.int .i64 z) := (hc (j * 3 + 2) (by omega)).trans f2
          have d0 : wr.cell? ⟨g', j * 3, none⟩ = some (.int .i64 x) := (hc' (j * 3 + 0) (by omega)).trans f0
          have d1 : wr.cell? ⟨g', j * 3 + 1, none⟩ = some (.int .i64 y) := (hc' (j * 3 + 1) (by omega)).trans f1
          have d2 : wr.cell? ⟨g', j * 3 + 2, none⟩ = some (.int .i64 z) := (hc' (j * 3 + 2) (by omega)).trans f2
          have y0 : (0 : Int) ≤ (j : Int) := by omega
          have y1 : (j : Int) < (ts.length : Int) := by omega
          have y2 : IntKind.i64.wrap ((j : Int) + 1) = (j : Int) + 1 := wrap_id (by omega) (by omega)
          have e1 : (x == x && y == y && z == z) = true := by simp
          clear hc hc' f0 f1 f2 exyz
          go_wp2_with fail
          go_quiet (fail)
          go_wp2
          go_roundw
          case rel => exact ⟨j + 1, by omega, by go_num, below_drewN hbr⟩
          case measure => simp [intOf]; omega
        · have hwr : Below w.heap.size w wr := hw4.trans (hbr.mono hw4.size)
          clear hbr hw4 HPL HPT HPM HPU heq
          have HPK := Lib.hid (fun W => pick_any at' tx.length W b1 b2 (by omega) (by omega))
          have hp1 := pk_bd at' tx.length (by omega)
          go_upto_region 18 with (go_at_call 15; refine (HPK.out _).mono ?_; rintro e wp ⟨rfl, rfl⟩)
          obtain ⟨i, hi⟩ : ∃ i : Nat, pk at' tx.length = i := ⟨(pk at' tx.length).toNat, by omega⟩
          rw [hi]
          have hil : i < tx.length := by omega
          have i0 : (0 : Int) ≤ (i : Int) := by omega
          have i1 : (i : Int) ≤ (tx.length : Int) := by omega
          have hsz : (⟨tx.toArray⟩ : ByteArray).size = tx.length := bs_size tx
          obtain ⟨kc, hcut⟩ := HCUT.out i hil
          have HRC := Lib.hid (read_bad (tx.take i) wp (V.below hwr) (by simp; omega) hcut)
          clear hp1 HPK hi hcut HCUT
          have hex : (⟨tx.toArray⟩ : ByteArray).extract 0 i = ⟨(tx.take i).toArray⟩ := by
            apply ByteArray.ext
            simp
          have hap : (⟨tx.toArray⟩ : ByteArray) ++ (⟨#[49]⟩ : ByteArray) = ⟨(tx ++ [49]).toArray⟩ := by
            apply ByteArray.ext
            simp
          have hpr : (⟨#[48]⟩ : ByteArray) ++ (⟨tx.toArray⟩ : ByteArray) = ⟨(48 :: tx).toArray⟩ := by
            apply ByteArray.ext
            simp
          have HEX := Lib.hid hex
          have HAP := Lib.hid hap
          have HPR := Lib.hid hpr
          clear hex hap hpr
          go_upto_region 19 with (first | (go_at_call 14; simp only [Int.toNat_natCast, HEX.out]; refine HRC.out.mono ?_; rintro e w5 ⟨rfl, hb5⟩))
          have hw5 : Below w.heap.size w w5 := hwr.trans (hb5.mono hwr.size)
          have HRM := Lib.hid (read_bad (tx ++ [49]) w5 (V.below hw5) (by simp; omega) HMO.out)
          clear hb5 hwr HRC HMO HEX
          go_upto_region 20 with (first | (go_at_call 14; simp only [HAP.out]; refine HRM.out.mono ?_; rintro e w6 ⟨rfl, hb6⟩))
          have hw6 : Below w.heap.size w w6 := hw5.trans (hb6.mono hw5.size)
          have HRL := Lib.hid (read_bad (48 :: tx) w6 (V.below hw6) (by simp; omega) HLD.out)
          clear hb6 hw5 HRM HLD HAP
          go_upto_region 21 with (first | (go_at_call 14; simp only [HPR.out]; refine HRL.out.mono ?_; rintro e w7 ⟨rfl, hb7⟩))
          have hw7 : Below w.heap.size w w7 := hw6.trans (hb7.mono hw6.size)
          clear hb7 hw6 HRL HPR
          have z1 : IntKind.i64.wrap ((l.length : Int) + (ts.length : Int)) = (l.length : Int) + (ts.length : Int) := wrap_id (by omega) (by omega)
          have z2 : IntKind.i64.wrap ((l.length : Int) + (ts.length : Int) + 3) = (l.length : Int) + (ts.length : Int) + 3 := wrap_id (by omega) (by omega)
          cases hrs : readS text with
          | inr k =>
            have HRT := Lib.hid (read_bad text w7 (V.below hw7) hs hrs)
            go_upto_region 22 with (first | (go_at_call 14; refine HRT.out.mono ?_; rintro e w8 ⟨rfl, hb8⟩))
            have hw8 : Below w.heap.size w w8 := hw7.trans (hb8.mono hw7.size)
            have HWT := Lib.hid (write_any none 0 [] none 0 [] w8 (V.below hw8) (.inl rfl) (.inl rfl) (by simp))
            have eW : writeV [] [] = .tuple #[bs (textB (rowsP []) (rowsT [])), .int .i64 0] := rfl
            rw [eW] at HWT
            generalize textB (rowsP []) (rowsT []) = te at *
            clear hb8 hw7 HRT eW hrs
            go_upto_region 23 with (first | (go_at_call 13; refine HWT.out.mono ?_; rintro e w9 ⟨rfl, hb9⟩))
            have hw9 : Below w.heap.size w w9 := hw8.trans (hb9.mono hw8.size)
            clear hb9 hw8 HWT
            go_wp2
            go_ret
            exact ⟨rfl, hw9⟩
          | inl q =>
            obtain ⟨qp, qt⟩ := q
            have hq := (readS_iff.1 hrs).1
            have htx := (readS_iff.1 hrs).2
            have HRB := Lib.hid (rows_back hq)
            have HTX := Lib.hid htx
            have HRS := Lib.hid hrs
            have hqt : qt.length ≤ 1000000000 := by
              have := rowB_len qt
              have e : (textB qp qt).length ≤ 1000000000 := by rw [← htx]; exact hs
              unfold textB at e
              simp at e
              omega
            clear htx hq hrs
            have HRT := Lib.hid (read_any text w7 (V.below hw7) hs)
            go_upto_region 22 with (first | (go_at_call 14; refine HRT.out.mono ?_; rintro e w8 ⟨ov, pv, x, n, rfl, hp, hb8⟩))
            have hw8 : Below w.heap.size w w8 := hw7.trans (hb8.mono hw7.size)
            unfold ReadR4 at hp
            rw [HRS.out] at hp
            obtain ⟨r1, r2, r3, r4⟩ := HRB.out
            obtain ⟨rfl, rfl, hov, hpv⟩ := hp
            have e1 : qp.length = (ptsOf qp).length := by simp [ptsOf]
            have e2 : qt.length = (trisOf qt).length := by simp [trisOf]
            rw [r3] at hpv
            rw [e1] at hov
            rw [e2] at hpv
            obtain ⟨oa, oc, rfl⟩ := ownS_any hov
            obtain ⟨pa, pc, rfl⟩ := ownS_any hpv
            have HWT := Lib.hid (write_any oa oc (ptsOf qp) pa pc (trisOf qt) w8 (V.below hw8) (RowP.raw' hov) (triRaw_own hpv) (by omega))
            unfold writeV at HWT
            rw [r4, if_pos rfl, r1, r2, ← HTX.out] at HWT
            clear hb8 hw7 HRT r1 r2 r3 r4 HTX HRB HRS hov hpv e1 e2 hqt
            go_upto_region 23 with (first | (go_at_call 13; refine HWT.out.mono ?_; rintro e w9 ⟨rfl, hb9⟩))
            have hw9 : Below w.heap.size w w9 := hw8.trans (hb9.mono hw8.size)
            clear hb9 hw8 HWT
            go_wp2
            go_ret
            exact ⟨rfl, hw9⟩
end Go.Proofs.YtgpapegpdfonpaaGreatDoor
