/-
  The statement's net: the place of a number; its triangles.
-/
import Derived.Test.YtgpapegpdfonpaaGreatLivesAB
import Derived.Test.YtgpapegpdfonpaaGreatEmptyE
namespace Go.Proofs.YtgpapegpdfonpaaGreat
set_option linter.unusedVariables false
set_option linter.unusedSimpArgs false
open Go.RowKit
attribute [local go_sem ↓] Go.wp_at_zero Go.wp_at_succ

set_option maxHeartbeats 2000000 in
theorem nat_any (K : Nat) (na : Option Addr) (nc : Nat) (ns : List Int) (n : Int) (w : World) (hl : ns.length ≤ 1000) (hK : w.cell? ⟨K, 2, none⟩ = some (.slice na ns.length nc)) (hn : NumsAt w na ns) :
    Calls Tryz.prog 16 #[.pointer (some ⟨K, 0, none⟩), .int .i64 n] w fun e w' => e = .returned (.int .i64 (placeN ns n)) ∧ Below w.heap.size w w' := by
  have hKl := World.block_lt_of_cell? w _ hK
  go_enter Tryz.func16, Tryz.ntmps16
  go_wp2
  go_loopw [5] (fun s5 wr => ∃ k : Nat, k ≤ ns.length ∧ s5 = .int .i64 k ∧ (∀ j, j < k → ns.getD j 0 ≠ n) ∧ wr = w) (fun i _ => ns.length - (intOf i).toNat)
  case atStart => exact ⟨0, Nat.zero_le _, rfl, fun j hj => by omega, rfl⟩
  case round =>
    obtain ⟨k, hk, rfl, hno, rfl⟩ := hrel
    by_cases hkl : k < ns.length
    · obtain ⟨g, rfl, c0⟩ := hn k hkl
      have y0 : (0 : Int) ≤ (k : Int) := by omega
      have y1 : (k : Int) < (ns.length : Int) := by omega
      have y4 : IntKind.i64.wrap ((k : Int) + 1) = (k : Int) + 1 := wrap_id (by omega) (by omega)
      by_cases he : ns.getD k 0 = n
      · have HP : Hid (placeN ns n = k) := placeN_first hkl hno he
        rw [he] at c0
        have hq : (n == n) = true := by simp
        clear he hno hn
        go_wp2
        go_ret
        exact ⟨by rw [HP.out]; rfl, Below.refl _ _⟩
      · have HN : Hid (∀ j, j < k + 1 → ns.getD j 0 ≠ n) := fun j hj => by
          by_cases e : j = k
          · subst e; exact he
          · exact hno j (by omega)
        have hq : (ns.getD k 0 == n) = false := beq_eq_false_iff_ne.2 he
        generalize ns.getD k 0 = v at *
        clear hno hn
        go_wp2
        go_roundw
        case rel => exact ⟨k + 1, by omega, by go_num, HN.out, by first | rfl | trivial⟩
        case measure => simp [intOf]; omega
    · have HP : Hid (placeN ns n = -1) := placeN_none fun hm => by
        obtain ⟨j, hj, e⟩ := List.getElem_of_mem hm
        exact hno j (by omega) (by simp [hj, e])
      clear hno hn
      go_wp2
      go_ret
      exact ⟨by rw [HP.out]; rfl, Below.refl _ _⟩

theorem infoT1 : (Tryz.prog.info? 53).map (fun i => (i.zero, i.size, i.bytes)) = some (some (.agg #[.int .i64 0, .int .i64 0, .int .i64 0]), 3, 24) := by kernel_rfl
theorem cell_threeN (w : World) (a b c : Value) (t : TypeId) : ∀ j x, [a, b, c][j]? = some x → (w.alloc (.cells #[a, b, c] t)).cell? ((⟨w.heap.size, 0, none⟩ : Addr).add j) = some x := by
  intro j x hj
  have hl := (List.getElem?_eq_some_iff.1 hj).1
  simp at hl
  rw [Addr.add_lit, World.cell?_alloc_at _ _ _ _ (by simp), Nat.zero_add]
  simpa using hj
theorem num_rowcell {w : World} {base g c : Nat} {ts : List T3} {nums : List Int} (h : w.ownsRow base 53 3 (.slice (some ⟨g, 0, none⟩) ts.length c) ts.length (flatT (ts.map (numT nums)))) {i : Nat} (hi : i < ts.length) :
    w.cell? ⟨g, i * 3, none⟩ = some (.int .i64 (nums.getD (ts.getD i (0, 0, 0)).1.toNat 0)) ∧ w.cell? ⟨g, i * 3 + 1, none⟩ = some (.int .i64 (nums.getD (ts.getD i (0, 0, 0)).2.1.toNat 0)) ∧ w.cell? ⟨g, i * 3 + 2, none⟩ = some (.int .i64 (nums.getD (ts.getD i (0, 0, 0)).2.2.toNat 0)) := by
  have hm : i < (ts.map (numT nums)).length := by rw [List.length_map]; exact hi
  have f0 := flatT_get (ts.map (numT nums)) i 0 (by omega) hm
  have f1 := flatT_get (ts.map (numT nums)) i 1 (by omega) hm
  have f2 := flatT_get (ts.map (numT nums)) i 2 (by omega) hm
  have eg : ts.getD i (0, 0, 0) = ts[i] := by simp [hi]
  rw [List.getElem_map] at f0 f1 f2
  rw [eg]
  exact ⟨by rw [h.cellAt _ (by omega)]; exact f0, by rw [h.cellAt _ (by omega)]; exact f1, by rw [h.cellAt _ (by omega)]; exact f2⟩
theorem flatT_snocN (ts : List T3) (x y z : Int) : flatT (ts ++ [(x, y, z)]) = flatT ts ++ [.int .i64 x, .int .i64 y, .int .i64 z] := by
  rw [flatT_append]; rfl

/-! ### a region whose operations give what is known -/
structure ValI (V : World) (vals : Nat → Value) (L : Nat → Bool) (σ : Nat → Value) (w : World) : Prop where
  val : ∀ i, L i = true → σ i = vals i
  bel : Below V.heap.size V w
theorem ValI.step {V w w' : World} {vals : Nat → Value} {L : Nat → Bool} {σ : Nat → Value} {i : Nat} (h : ValI V vals L σ w) (hb : Below V.heap.size V w') : ValI V vals (fun j => if j = i then true else L j) (fun j => if j = i then vals i else σ j) w' :=
  ⟨fun j hl => by
    by_cases e : j = i
    · subst e; simp
    · simp only [if_neg e] at hl ⊢; exact h.val j hl, hb⟩
theorem idx_trisN (w : World) (g n cap i : Nat) (h : i < n) : (Instr.indexAt 41 (.slice (some ⟨g, 0, none⟩) n cap) (.int .i64 (i : Int))).run Tryz.prog w = .ok (.pointer (some ⟨g, i * 3, none⟩)) w := by
  have h1 : (0 : Int) ≤ (i : Int) := by omega
  have h2 : (i : Int) < (n : Int) := by omega
  go_simp
theorem idx_arrN0 (w : World) (g o : Nat) : (Instr.indexAt 53 (.pointer (some ⟨g, o, none⟩)) (.int .i64 0)).run Tryz.prog w = .ok (.pointer (some ⟨g, o, none⟩)) w := by go_simp
theorem idx_arrN1 (w : World) (g o : Nat) : (Instr.indexAt 53 (.pointer (some ⟨g, o, none⟩)) (.int .i64 1)).run Tryz.prog w = .ok (.pointer (some ⟨g, o + 1, none⟩)) w := by go_simp
theorem idx_arrN2 (w : World) (g o : Nat) : (Instr.indexAt 53 (.pointer (some ⟨g, o, none⟩)) (.int .i64 2)).run Tryz.prog w = .ok (.pointer (some ⟨g, o + 2, none⟩)) w := by go_simp
theorem gives_asgN {P : Program} {o : Oper} {ρ : Operand → Value} {w : World} {R : Value → World → Prop} {x : Operand} {v : Value} (hop : o.op = .assign x) (hx : ρ x = v) (hR : R v w) : Gives P o ρ w R := by
  refine Gives.value v w ?_ hR
  simp only [execOp, hop, hx]
  rfl
def valsT3 (X g n c i : Nat) (nx ny nz : Int) (x y z : Nat) : Nat → Value
  | 0 => .pointer (some ⟨X, 0, none⟩)
  | 1 => .slice (some ⟨g, 0, none⟩) n c
  | 2 => .int .i64 (i : Int)
  | 3 => .pointer (some ⟨g, i * 3, none⟩)
  | 4 => .pointer (some ⟨g, i * 3, none⟩)
  | 5 => .int .i64 nx
  | 6 => .int .i64 (x : Int)
  | 7 => .pointer (some ⟨X, 0, none⟩)
  | 8 => .slice (some ⟨g, 0, none⟩) n c
  | 9 => .int .i64 (i : Int)
  | 10 => .pointer (some ⟨g, i * 3, none⟩)
  | 11 => .pointer (some ⟨g, i * 3 + 1, none⟩)
  | 12 => .int .i64 ny
  | 13 => .int .i64 (y : Int)
  | 14 => .pointer (some ⟨X, 0, none⟩)
  | 15 => .slice (some ⟨g, 0, none⟩) n c
  | 16 => .int .i64 (i : Int)
  | 17 => .pointer (some ⟨g, i * 3, none⟩)
  | 18 => .pointer (some ⟨g, i * 3 + 2, none⟩)
  | 19 => .int .i64 nz
  | 20 => .int .i64 (z : Int)
  | 21 => .int .i64 (x : Int)
  | 22 => .int .i64 (y : Int)
  | 23 => .int .i64 (z : Int)
  | _ => undef

set_option maxRecDepth 100000 in
set_option maxHeartbeats 8000000 in
theorem ntris_any (w : World) (tag : Nat → Nat) (iT : Nat) (d : ND) (H : NetIs w tag iT d) :
    Calls Tryz.prog 9 #[.pointer (some ⟨d.X, 0, none⟩)] w fun e w' => ∃ v ts, e = .returned (.tuple #[v, .bool true]) ∧ w'.ownsRow w.heap.size 53 3 v ts.length (flatT ts) ∧ TriSpec d.pts ts ∧ ts.length ≤ 4000 ∧ Below w.heap.size w w' := by
  obtain ⟨vP, vN, vA, vM, H⟩ := H
  obtain ⟨pa, pc, rfl⟩ := ownS_any H.ownP
  obtain ⟨na, nc, rfl⟩ := ownS_any H.ownN
  obtain ⟨iE, hiE, hzE, hsE, hbE⟩ := info_parts infoT1
  obtain ⟨c0, c1, c2, c3, _⟩ := H.cells
  have hX0 := H.lt
  have HT := mtris_any d.m d.pts d.nums d.ever vA vM w H.row H.ok
  have HOK : Hid (MOk d.pts d.nums d.ever) := H.ok
  have HOP : Hid (w.ownsRow 0 32 2 (.slice pa d.pts.length pc) d.pts.length (cellsP d.pts)) := H.ownP
  have AT : Hid (∀ n W, Below w.heap.size w W → Calls Tryz.prog 16 #[.pointer (some ⟨d.X, 0, none⟩), .int .i64 n] W fun e w' => e = .returned (.int .i64 (placeN d.nums n)) ∧ Below W.heap.size W w') := fun n W hb =>
    nat_any d.X na nc d.nums n W (by have := H.ok.len; have := H.ok.le; omega) ((hb.cell (p := ⟨d.X, 2, none⟩) hX0).trans c2) ((NumsAt.of_own H.ownN).below hb)
  clear H c2 c3
  go_enter Tryz.func9, Tryz.ntmps9
  go_upto_region 2 with (first | (go_at_call 15; refine HT.mono ?_; rintro e w1 ⟨v, ts, rfl, hown, hsp, hlen, hb1⟩))
  have HSP : Hid (TriSpec d.pts ts ∧ ts.length ≤ 4000) := ⟨hsp, hlen⟩
  have HG : Hid (GoodT d.pts ts) := good_of (fault_ok HOK.out.le HOK.out.near HOK.out.nd) hsp hlen
  have HB1 : Hid (Below w.heap.size w w1) := hb1
  obtain ⟨ta, tc, rfl⟩ := ownS_any hown
  have HOW : Hid (w1.ownsRow w.heap.size 53 3 (.slice ta ts.length tc) ts.length (flatT (ts.map (numT d.nums)))) := hown
  have d1 := (hb1.cell (p := ⟨d.X, 1, none⟩) hX0).trans c1
  have hX1 : d.X < w1.heap.size := Nat.lt_of_lt_of_le hX0 hb1.size
  clear hown hsp HT c0 c1
  go_wp2_with fail
  go_loopw [5, 6] (fun s5 s6 wr => ∃ i : Nat, i ≤ ts.length ∧ s6 = .int .i64 i ∧ wr.ownsRow w1.heap.size 53 3 s5 i (flatT (ts.take i)) ∧ Below w1.heap.size w1 wr) (fun _ j _ => ts.length - (intOf j).toNat)
  case atStart => exact ⟨0, Nat.zero_le _, rfl, World.ownsRow_nil _ _ _ _, Below.refl _ _⟩
  case round =>
    obtain ⟨i, hi, rfl, hoR, hbr⟩ := hrel
    have HOR : Hid (wr.ownsRow w1.heap.size 53 3 u5 i (flatT (ts.take i))) := hoR
    have HBR : Hid (Below w1.heap.size w1 wr) := hbr
    have hbw : Below w.heap.size w wr := HB1.out.trans (hbr.mono HB1.out.size)
    have HBW : Hid (Below w.heap.size w wr) := hbw
    obtain ⟨oa, oc, rfl⟩ := ownS_any hoR
    clear hoR
    by_cases hil : i < ts.length
    · have y0 : (0 : Int) ≤ (i : Int) := by omega
      have y1 : (i : Int) < (ts.length : Int) := by omega
      have y4 : IntKind.i64.wrap ((i : Int) + 1) = (i : Int) + 1 := wrap_id (by omega) (by omega)
      have hmem : ts.getD i (0, 0, 0) ∈ ts := by
        have : ts.getD i (0, 0, 0) = ts[i] := by simp [hil]
        rw [this]; exact List.getElem_mem hil
      obtain ⟨r1, r2, r3, r4, r5, r6⟩ := HG.out.nums _ hmem
      have hln := HOK.out.len
      obtain ⟨x, ex⟩ : ∃ x : Nat, (ts.getD i (0, 0, 0)).1 = (x : Int) := ⟨_, (Int.toNat_of_nonneg r1).symm⟩
      obtain ⟨y, ey⟩ : ∃ y : Nat, (ts.getD i (0, 0, 0)).2.1 = (y : Int) := ⟨_, (Int.toNat_of_nonneg r3).symm⟩
      obtain ⟨z, ez⟩ : ∃ z : Nat, (ts.getD i (0, 0, 0)).2.2 = (z : Int) := ⟨_, (Int.toNat_of_nonneg r5).symm⟩
      obtain ⟨g, rfl, hg, _⟩ := ownS_place HOW.out (by omega)
      obtain ⟨m0, m1, m2⟩ := num_rowcell HOW.out hil
      rw [ex, Int.toNat_natCast] at m0
      rw [ey, Int.toNat_natCast] at m1
      rw [ez, Int.toNat_natCast] at m2
      have q0 := (hbr.cell (p := ⟨g, i * 3, none⟩) hg).trans m0
      have q1 := (hbr.cell (p := ⟨g, i * 3 + 1, none⟩) hg).trans m1
      have q2 := (hbr.cell (p := ⟨g, i * 3 + 2, none⟩) hg).trans m2
      have hgr : g < wr.heap.size := Nat.lt_of_lt_of_le hg hbr.size
      have px := place_num HOK.out.inc (show x < d.nums.length by omega)
      have py := place_num HOK.out.inc (show y < d.nums.length by omega)
      have pz := place_num HOK.out.inc (show z < d.nums.length by omega)
      have AX : Hid (∀ W, Below wr.heap.size wr W → Calls Tryz.prog 16 #[.pointer (some ⟨d.X, 0, none⟩), .int .i64 (d.nums.getD x 0)] W fun e w' => e = .returned (.int .i64 (x : Int)) ∧ Below W.heap.size W w') := fun W hb => by rw [← px]; exact AT.out _ W (hbw.trans (hb.mono hbw.size))
      have AY : Hid (∀ W, Below wr.heap.size wr W → Calls Tryz.prog 16 #[.pointer (some ⟨d.X, 0, none⟩), .int .i64 (d.nums.getD y 0)] W fun e w' => e = .returned (.int .i64 (y : Int)) ∧ Below W.heap.size W w') := fun W hb => by rw [← py]; exact AT.out _ W (hbw.trans (hb.mono hbw.size))
      have AZ : Hid (∀ W, Below wr.heap.size wr W → Calls Tryz.prog 16 #[.pointer (some ⟨d.X, 0, none⟩), .int .i64 (d.nums.getD z 0)] W fun e w' => e = .returned (.int .i64 (z : Int)) ∧ Below W.heap.size W w') := fun W hb => by rw [← pz]; exact AT.out _ W (hbw.trans (hb.mono hbw.size))
      have HTK : Hid (ts.take (i + 1) = ts.take i ++ [((x : Int), (y : Int), (z : Int))]) := by
        have eg : ts.getD i (0, 0, 0) = ts[i] := by simp [hil]
        unfold Hid
        rw [List.take_succ_eq_append_getElem hil, ← eg]
        congr 2
        exact Prod.ext ex (Prod.ext ey ez)
      clear m0 m1 m2 px py pz ex ey ez r1 r2 r3 r4 r5 r6 hmem hln hbw
      generalize d.nums.getD x 0 = nx at *
      generalize d.nums.getD y 0 = ny at *
      generalize d.nums.getD z 0 = nz at *
      have s0 : decide ((x : Int) < 0) = false := decide_eq_false (by omega)
      have s1 : decide ((y : Int) < 0) = false := decide_eq_false (by omega)
      have s2 : decide ((z : Int) < 0) = false := decide_eq_false (by omega)
      have t0 : ¬ ((x : Int) < 0) := by omega
      have t1 : ¬ ((y : Int) < 0) := by omega
      have t2 : ¬ ((z : Int) < 0) := by omega
      go_wp2_with fail
      go_cut [7, 8, 9] (fun s7 s8 s9 wx => s7 = .int .i64 (x : Int) ∧ s8 = .int .i64 (y : Int) ∧ s9 = .int .i64 (z : Int) ∧ Below wr.heap.size wr wx)
      case first =>
        as_aux_lemma =>
        refine wp_region_inv (m := 24) (by kernel_rfl) (by kernel_rfl) (dsts := [some 21, some 22, some 23, some 24, some 25, some 26, some 27, some 28, some 29, some 30, some 31, some 32, some 33, some 34, some 35, some 36, some 37, some 38, some 39, some 40, some 41, some 7, some 8, some 9]) rfl (by kernel_rfl) (l := []) rfl (ValI wr (valsT3 d.X g ts.length tc i nx ny nz x y z)) ⟨(fun _ h => by cases h), (Below.refl _ _).drew⟩ ?_ ?_
        · refine flS (flS (flS (flS (flS (flS (flS (flS (flS (flS (flS (flS (flS (flS (flS (flS (flS (flS (flS (flS (flS (flS (flS (flS fl0 ?_) ?_) ?_) ?_) ?_) ?_) ?_) ?_) ?_) ?_) ?_) ?_) ?_) ?_) ?_) ?_) ?_) ?_) ?_) ?_) ?_) ?_) ?_) ?_
          all_goals intro Ls σ wx hS hp hdn hun
          · exact (gives_move (x := .tmp 0) rfl rfl (hS.step (i := 0) hS.bel)).toS
          · exact (gives_move (x := .tmp 4) rfl rfl (hS.step (i := 1) hS.bel)).toS
          · exact (gives_move (x := .tmp 6) rfl rfl (hS.step (i := 2) hS.bel)).toS
          · exact (gives_index (T := 41) (x := .tmp 22) (y := .tmp 23) rfl (show σ 1 = _ from hS.val 1 (hp 1 rfl)) (show σ 2 = _ from hS.val 2 (hp 2 rfl)) (idx_trisN _ _ _ _ _ hil) (hS.step (i := 3) hS.bel)).toS
          · exact (gives_index (T := 53) (x := .tmp 24) (y := .const (.int .i64 0)) rfl (show σ 3 = _ from hS.val 3 (hp 3 rfl)) rfl (idx_arrN0 _ _ _) (hS.step (i := 4) hS.bel)).toS
          · exact (gives_load (T := 3) (x := .tmp 25) rfl (show σ 4 = _ from hS.val 4 (hp 4 rfl)) (run_load_int _ _ _ _ ((hS.bel.cell (p := ⟨g, i * 3, none⟩) hgr).trans q0)) (hS.step (i := 5) hS.bel)).toS
          · have ea : σ 0 = _ := hS.val 0 (hp 0 rfl)
            have eb : σ 5 = _ := hS.val 5 (hp 5 rfl)
            exact (gives_call (f := 16) (args := [.pointer (some ⟨d.X, 0, none⟩), .int .i64 nx]) rfl rfl (by show [σ 0, σ 5] = _; rw [ea, eb]; rfl) (by go_simp) ((AX.out wx hS.bel).mono fun e w' h => ⟨_, h.1, hS.step (i := 6) (hS.bel.trans (h.2.mono hS.bel.size))⟩)).toS
          · exact (gives_move (x := .tmp 0) rfl rfl (hS.step (i := 7) hS.bel)).toS
          · exact (gives_move (x := .tmp 4) rfl rfl (hS.step (i := 8) hS.bel)).toS
          · exact (gives_move (x := .tmp 6) rfl rfl (hS.step (i := 9) hS.bel)).toS
          · exact (gives_index (T := 41) (x := .tmp 29) (y := .tmp 30) rfl (show σ 8 = _ from hS.val 8 (hp 8 rfl)) (show σ 9 = _ from hS.val 9 (hp 9 rfl)) (idx_trisN _ _ _ _ _ hil) (hS.step (i := 10) hS.bel)).toS
          · exact (gives_index (T := 53) (x := .tmp 31) (y := .const (.int .i64 1)) rfl (show σ 10 = _ from hS.val 10 (hp 10 rfl)) rfl (idx_arrN1 _ _ _) (hS.step (i := 11) hS.bel)).toS
          · exact (gives_load (T := 3) (x := .tmp 32) rfl (show σ 11 = _ from hS.val 11 (hp 11 rfl)) (run_load_int _ _ _ _ ((hS.bel.cell (p := ⟨g, i * 3 + 1, none⟩) hgr).trans q1)) (hS.step (i := 12) hS.bel)).toS
          · have ea : σ 7 = _ := hS.val 7 (hp 7 rfl)
            have eb : σ 12 = _ := hS.val 12 (hp 12 rfl)
            exact (gives_call (f := 16) (args := [.pointer (some ⟨d.X, 0, none⟩), .int .i64 ny]) rfl rfl (by show [σ 7, σ 12] = _; rw [ea, eb]; rfl) (by go_simp) ((AY.out wx hS.bel).mono fun e w' h => ⟨_, h.1, hS.step (i := 13) (hS.bel.trans (h.2.mono hS.bel.size))⟩)).toS
          · exact (gives_move (x := .tmp 0) rfl rfl (hS.step (i := 14) hS.bel)).toS
          · exact (gives_move (x := .tmp 4) rfl rfl (hS.step (i := 15) hS.bel)).toS
          · exact (gives_move (x := .tmp 6) rfl rfl (hS.step (i := 16) hS.bel)).toS
          · exact (gives_index (T := 41) (x := .tmp 36) (y := .tmp 37) rfl (show σ 15 = _ from hS.val 15 (hp 15 rfl)) (show σ 16 = _ from hS.val 16 (hp 16 rfl)) (idx_trisN _ _ _ _ _ hil) (hS.step (i := 17) hS.bel)).toS
          · exact (gives_index (T := 53) (x := .tmp 38) (y := .const (.int .i64 2)) rfl (show σ 17 = _ from hS.val 17 (hp 17 rfl)) rfl (idx_arrN2 _ _ _) (hS.step (i := 18) hS.bel)).toS
          · exact (gives_load (T := 3) (x := .tmp 39) rfl (show σ 18 = _ from hS.val 18 (hp 18 rfl)) (run_load_int _ _ _ _ ((hS.bel.cell (p := ⟨g, i * 3 + 2, none⟩) hgr).trans q2)) (hS.step (i := 19) hS.bel)).toS
          · have ea : σ 14 = _ := hS.val 14 (hp 14 rfl)
            have eb : σ 19 = _ := hS.val 19 (hp 19 rfl)
            exact (gives_call (f := 16) (args := [.pointer (some ⟨d.X, 0, none⟩), .int .i64 nz]) rfl rfl (by show [σ 14, σ 19] = _; rw [ea, eb]; rfl) (by go_simp) ((AZ.out wx hS.bel).mono fun e w' h => ⟨_, h.1, hS.step (i := 20) (hS.bel.trans (h.2.mono hS.bel.size))⟩)).toS
          · exact (gives_asgN (x := .tmp 27) rfl (show σ 6 = _ from hS.val 6 (hp 6 rfl)) (hS.step (i := 21) hS.bel)).toS
          · exact (gives_asgN (x := .tmp 34) rfl (show σ 13 = _ from hS.val 13 (hp 13 rfl)) (hS.step (i := 22) hS.bel)).toS
          · exact (gives_asgN (x := .tmp 41) rfl (show σ 20 = _ from hS.val 20 (hp 20 rfl)) (hS.step (i := 23) hS.bel)).toS
        · intro Ls σ wx hS hall
          have e21 : σ 21 = .int .i64 (x : Int) := hS.val 21 (hall 21 (by omega))
          have e22 : σ 22 = .int .i64 (y : Int) := hS.val 22 (hall 22 (by omega))
          have e23 : σ 23 = .int .i64 (z : Int) := hS.val 23 (hall 23 (by omega))
          have hbx := hS.bel
          clear hS
          refine ⟨?_⟩
          simp only [lay, Act.put, List.drop_succ_cons, List.drop_zero, List.setIfInBounds_toArray, List.set_cons_succ, List.set_cons_zero, e21, e22, e23]
          go_wp2_with fail
          go_meet
          exact ⟨rfl, rfl, rfl, hbx⟩
      case rest =>
        as_aux_lemma =>
        obtain ⟨rfl, rfl, rfl, hbS⟩ := hcut
        have HO2 : Hid (wc.ownsRow w1.heap.size 53 3 (.slice oa i oc) i (flatT (ts.take i))) := ownB_below HOR.out hbS
        have HB2 : Hid (Below w1.heap.size w1 wc) := HBR.out.trans (hbS.mono HBR.out.size)
        have HN3 : Hid (∀ j u, [Value.int .i64 (x : Int), .int .i64 (y : Int), .int .i64 (z : Int)][j]? = some u → (wc.alloc (.cells #[.int .i64 (x : Int), .int .i64 (y : Int), .int .i64 (z : Int)] 53)).cell? ((⟨wc.heap.size, 0, none⟩ : Addr).add j) = some u) := cell_threeN _ _ _ _ _
        have hsz : w1.heap.size ≤ wc.heap.size := HB2.out.size
        clear hbS q0 q1 q2 AX AY AZ hbr
        generalize wc = W5 at *
        go_wp2_with (at_builtin; refine wpList_append_where _ (by rfl) (.tmp 52) (.tmp 57) 41 (by rfl) w1.heap.size 53 iE (.agg #[.int .i64 0, .int .i64 0, .int .i64 0]) 3 24 Tryz.underlying41 hiE hzE hsE hbE rfl (by decide) _ _ _ (by rfl) (ownB_below HO2.out (below1 _ _)) ⟨W5.heap.size, 0, none⟩ 1 1 [.int .i64 (x : Int), .int .i64 (y : Int), .int .i64 (z : Int)] (by rfl) rfl HN3.out ?c2 (by decide) ?c3 ?c4 ?c5 (W5.heap.size + 1) ?c6 ?_)
        case c2 => intro u hu; simp at hu; rcases hu with rfl | rfl | rfl <;> rfl
        case c3 => unfold maxLen; omega
        case c4 => omega
        case c5 => simp; omega
        case c6 => simp
        · intro g2 cap2 w3 hown3 hat3 hlt3
          have HR : Hid (w3.ownsRow w1.heap.size 53 3 (.slice (some ⟨g2, 0, none⟩) (i + 1) cap2) (i + 1) (flatT (ts.take (i + 1))) ∧ Below w1.heap.size w1 w3) := by
            refine ⟨by rw [HTK.out, flatT_snocN]; exact hown3, ?_⟩
            have k1 := HB2.out.trans ((below1 W5 (.cells #[.int .i64 (x : Int), .int .i64 (y : Int), .int .i64 (z : Int)] 53)).mono HB2.out.size)
            rcases hat3 with ⟨hv, hgr⟩ | ⟨hv, hgr⟩
            · exact k1.grown hgr (by simp; omega) fun k hk => by cases hk; exact (hown3.lt _ rfl).1
            · exact k1.grown hgr (by simp; omega) fun k hk => by cases hk
          clear hown3 hat3 HO2 HB2 HN3 HTK
          go_wp2
          go_roundw
          case rel => exact ⟨i + 1, by omega, by go_num, HR.out.1, HR.out.2⟩
          case measure => simp [intOf]; omega
    · have ei : i = ts.length := by omega
      subst ei
      have HO2 : Hid (wr.ownsRow w1.heap.size 53 3 (.slice oa ts.length oc) ts.length (flatT ts)) := by have := HOR.out; rw [List.take_length] at this; exact this
      have e1 := (hbr.cell (p := ⟨d.X, 1, none⟩) hX1).trans d1
      have HF := fills_all (b1 := 0) (b2 := w1.heap.size) (v := .slice pa d.pts.length pc) (tv := .slice oa ts.length oc) wr HOK.out.le HOK.out.nd HOK.out.near (ownB_below HOP.out HBW.out) HO2.out HSP.out.1 HSP.out.2
      have hXr : d.X < wr.heap.size := Nat.lt_of_lt_of_le hX1 hbr.size
      clear hbr HOR
      go_wp2_with (first | (go_at_call 17; refine HF.mono ?_; rintro e w6 ⟨rfl, hb6⟩))
      have HR : Hid (w6.ownsRow w.heap.size 53 3 (.slice oa ts.length oc) ts.length (flatT ts) ∧ Below w.heap.size w w6) := ⟨ownB_mono (ownB_below HO2.out hb6) HB1.out.size, HBW.out.trans (hb6.mono HBW.out.size)⟩
      clear hb6
      go_ret2
      exact ⟨_, ts, rfl, HR.out.1, HSP.out.1, HSP.out.2, HR.out.2⟩
end Go.Proofs.YtgpapegpdfonpaaGreat
