/-
  A point comes: the walk of add.
-/
import Derived.Test.YtgpapegpdfonpaaGreatDoorJoinF
namespace Go.Proofs.YtgpapegpdfonpaaGreatDoor
set_option linter.unusedVariables false
set_option linter.unusedSimpArgs false
open Go.RowKit Go.Maps

/-- where all lies when a point comes -/
structure AddAt (w : World) (N Bp A H bb off cap : Nat) (l : List Pt) : Prop where
  net : NetAt w N Bp A H
  ask : AskAt w Bp bb off cap l
  nA : N ≠ A
  nH : N ≠ H
  bA : Bp ≠ A
  bH : Bp ≠ H
  pA : bb ≠ A
  pH : bb ≠ H
  AH : A ≠ H
theorem AddAt.g2 {w w' : World} {N Bp A H bb off cap : Nat} {l : List Pt} (h : AddAt w N Bp A H bb off cap l) (g : G2 w w' A H) : AddAt w' N Bp A H bb off cap l :=
  ⟨h.net.g2 g h.nA h.nH, h.ask.g2 g h.bA h.bH h.pA h.pH, h.nA, h.nH, h.bA, h.bH, h.pA, h.pH, h.AH⟩

theorem flat_len (B : List Int) : ∀ A : List Int, (A.flatMap fun a => B.map fun b => (a, b)).length = A.length * B.length
  | [] => by simp
  | a :: A => by
    rw [List.flatMap_cons, List.length_append, flat_len B A, List.length_map, List.length_cons, Nat.succ_mul]; omega
theorem pairs_len (S : List Int) : (pairs S).length = S.length * S.length := flat_len S S

theorem two_new (W : World) (x y t0 t1 t2 : Int) (W2 : World) (h : W2 = (W.alloc (.cells #[.int .i64 x, .int .i64 y] 165)).alloc (.cells #[.int .i64 t0, .int .i64 t1, .int .i64 t2] 53)) :
    W2.cell? ⟨W.heap.size, 0, none⟩ = some (.int .i64 x) ∧ W2.cell? ⟨W.heap.size, 1, none⟩ = some (.int .i64 y) ∧ W2.cell? ⟨W.heap.size + 1, 0, none⟩ = some (.int .i64 t0) ∧ W2.cell? ⟨W.heap.size + 1, 1, none⟩ = some (.int .i64 t1) ∧ W2.cell? ⟨W.heap.size + 1, 2, none⟩ = some (.int .i64 t2) ∧ W2.heap.size = W.heap.size + 2 ∧ Below W.heap.size W W2 := by
  subst h
  refine ⟨?_, ?_, ?_, ?_, ?_, by simp, below2 _ _ _⟩
  · rw [World.cell?_alloc_past _ _ _ (by simp), World.cell?_alloc_at _ _ _ _ rfl]; rfl
  · rw [World.cell?_alloc_past _ _ _ (by simp), World.cell?_alloc_at _ _ _ _ rfl]; rfl
  · rw [World.cell?_alloc_at _ _ _ _ (by simp)]; rfl
  · rw [World.cell?_alloc_at _ _ _ _ (by simp)]; rfl
  · rw [World.cell?_alloc_at _ _ _ _ (by simp)]; rfl

set_option maxRecDepth 100000 in
set_option maxHeartbeats 4000000 in
theorem add_any {l : List Pt} {S : List Int} {a b c : Int} {Tr : Int → Int → Int → Prop} (NO : NetOf (pOf l) S a b c Tr) (hS : ∀ i ∈ S, 0 ≤ i ∧ i < l.length) (hSl : S.length ≤ 60) (N Bp A H bb off cap n m : Nat) (g0 : Int → Int → Option Value) (p : Nat) (w : World)
    (hp : p < l.length) (hpS : (p : Int) ∉ S) (hpn : NearP (ptAt l p)) (hpd : ∀ i ∈ S, pOf l i ≠ ptAt l p) (hl : l.length ≤ 60) (hn : AllNear l) (W0 : AddAt w N Bp A H bb off cap l) (hmA : MapIs Tryz.prog 165 w A n (fOf Tr)) (hmH : MapIs Tryz.prog 165 w H m g0) (hnm : n < 100000) :
    Calls Tryz.prog 69 #[.pointer (some ⟨N, 0, none⟩), iv p] w fun e w' =>
      e = .returned (.tuple #[]) ∧ MapIs Tryz.prog 165 w' A 4000 (fOf (addTr (VV (pOf l) a b c) Tr p)) ∧ (∃ m' g', MapIs Tryz.prog 165 w' H m' g') ∧ G2 w w' A H := by
  generalize hV : VV (pOf l) a b c = V
  generalize hM : (pairs (-1 :: S)).length = M
  have hM1 : M ≤ 3721 := by
    rw [← hM, pairs_len]
    have := Nat.mul_le_mul (show (-1 :: S).length ≤ 61 by simp; omega) (show (-1 :: S).length ≤ 61 by simp; omega)
    omega
  have hinv : ∀ x y v, fOf Tr x y = some v → ∃ t0 t1 t2, v = triV t0 t1 t2 := fun x y v h => by obtain ⟨z, _, e⟩ := fOf_inv h; exact ⟨_, _, _, e⟩
  have hsup : ∀ s t, Bad V Tr p s t → (s, t) ∈ pairs (-1 :: S) := by
    rintro s t ⟨z, h, _⟩
    rw [mem_pairs]
    exact ⟨by rcases NO.lab h with h | h <;> simp [h], by rcases NO.lab (NO.rot h) with h | h <;> simp [h]⟩
  have hAF : Fn (addTr V Tr p) := by
    rw [← hV]
    exact (NO.add hpS (by omega) hpn hpd).fnT
  have hTA : ∀ left, Fn (TA V Tr p left) := fun left _ _ _ _ h h' => hAF _ _ _ _ (TA_sub h) (TA_sub h')
  generalize hM2 : (pairs ((p : Int) :: -1 :: S)).length = M2
  have hM3 : M2 ≤ 3844 := by
    rw [← hM2, pairs_len]
    have := Nat.mul_le_mul (show ((p : Int) :: -1 :: S).length ≤ 62 by simp; omega) (show ((p : Int) :: -1 :: S).length ≤ 62 by simp; omega)
    omega
  have hlab : ∀ {s t z : Int}, addTr V Tr p s t z → s ∈ (p : Int) :: -1 :: S := by
    intro s t z h
    rw [← hV] at h
    rcases (NO.add hpS (by omega) hpn hpd).lab h with k | k
    · simp [k]
    · rcases List.mem_cons.1 k with k | k
      · simp [k]
      · simp [k]
  have hArot : ∀ {s t z : Int}, addTr V Tr p s t z → addTr V Tr p t z s := by
    intro s t z h
    rw [← hV] at h ⊢
    exact (NO.add hpS (by omega) hpn hpd).rot h
  have hsup2 : ∀ left s t, fOf (TA V Tr p left) s t ≠ none → (s, t) ∈ pairs ((p : Int) :: -1 :: S) := by
    intro left s t h
    obtain ⟨z, hz⟩ := fOf_ne.1 h
    exact mem_pairs.2 ⟨hlab (TA_sub hz), hlab (hArot (TA_sub hz))⟩
  have h64 : ∀ s ∈ (p : Int) :: -1 :: S, I64 s := by
    intro s hs
    rcases List.mem_cons.1 hs with rfl | hs
    · exact i64_of (by omega) (by omega)
    · rcases List.mem_cons.1 hs with rfl | hs
      · exact i64_of (by omega) (by omega)
      · have := hS s hs; exact i64_of (by omega) (by omega)
  have hTAend : ∀ left : Int → Int → Bool, (∀ x y, I64 x → I64 y → left x y = false) → ∀ x y z, I64 x → I64 y → (TA V Tr p left x y z ↔ addTr V Tr p x y z) := by
    intro left hl0 x y z hx hy
    refine ⟨TA_sub, fun h => ?_⟩
    have hz : I64 z := h64 z (hlab (hArot (hArot h)))
    rcases h with h | ⟨h, e⟩ | ⟨h, e⟩ | ⟨h, e⟩
    · exact .inl h
    · exact .inr (.inl ⟨⟨h, hl0 _ _ hx hy⟩, e⟩)
    · exact .inr (.inr (.inl ⟨⟨h, hl0 _ _ hy hz⟩, e⟩))
    · exact .inr (.inr (.inr ⟨⟨h, hl0 _ _ hz hx⟩, e⟩))
  have CL := clear_run (T := 160) Tryz.underlying160 hmH
  generalize hW1 : clearW 160 H w = W1 at CL
  obtain ⟨hcl, hmH1, hg1⟩ := CL
  have G1 : G2 w W1 A H := (G2.refl w A H).grown hg1 (fun j hj => .inr (.inl (by simpa using hj.symm)))
  have W1a := W0.g2 G1
  have hmA1 := hmA.kept hg1 (fun e => W0.AH (by simpa using e))
  obtain ⟨W2, cnt0, hrun2, hrg2, hgr2, hsz2⟩ := hmA1.range pairK Tryz.underlying159
  have c2 := W0.net.c2
  have c3 := W0.net.c3
  have d2 := W1a.net.c2
  have hrow : ∀ j, some W1.heap.size = some j → j = A ∨ j = H ∨ w.heap.size ≤ j := fun j hj => .inr (.inr (by have := G1.size; have e : W1.heap.size = j := (by simpa using hj); omega))
  have hHr : some H ≠ some W1.heap.size := fun e => by have := hmH.lt; have := G1.size; have e' : H = W1.heap.size := (by simpa using e); omega
  have hAr : some A ≠ some W1.heap.size := fun e => by have := hmA.lt; have := G1.size; have e' : A = W1.heap.size := (by simpa using e); omega
  go_enter Tryz.func69, Tryz.ntmps69
  go_wp2
  clear hcl hrun2 c2 c3 d2
  go_loopw [4] (fun _ wr => ∃ left cnt, RangeIs Tryz.prog 165 wr A W1.heap.size n (fOf Tr) left cnt ∧ MapIs Tryz.prog 165 wr H M (gOf V Tr p left) ∧ G2 w wr A H) (fun _ wr => wr.rangeLeft A W1.heap.size)
  case atStart =>
    refine ⟨_, _, hrg2, ?_, G1.grown hgr2 (fun j hj => by cases hj)⟩
    refine ((hmH1.kept hgr2 (by simp)).mono (Nat.zero_le _)).congr (fun x y hx hy => ?_)
    unfold gOf
    rw [if_neg]
    rintro ⟨⟨z, hz, _⟩, k⟩
    have := fOf_isSome.2 ⟨z, hz⟩
    dsimp only at k
    rw [this] at k; cases k
  case round =>
    clear hrg2 hgr2 hsz2 hmH1 hmA1 W1a hmA hmH
    obtain ⟨left, cnt, hrg, hmh, G⟩ := hrel
    have Wr := W0.g2 G
    go_wp2_with (first | (at_next; refine wpList_next_tri pairK _ rfl _ rfl A W1.heap.size n _ left cnt rfl hrg hinv ?_ ?_) | go_in)
    · intro hc hl0
      have hmA3 := hrg.map
      have hgB : MapIs Tryz.prog 165 wr H M (gOf V Tr p (fun _ _ => false)) := hmh.congr (fun s t hs ht => gOf_eq (hl0 s t hs ht))
      clear hrg hmh hl0 hc left cnt
      obtain ⟨W5, c5, hrun5, hrg5, hgr5, hsz5⟩ := hgB.range pairK Tryz.underlying160
      have hmA5 := hmA3.kept hgr5 (by simp)
      have G5 := G.grown hgr5 (fun j hj => by cases hj)
      have f3 := Wr.net.c3
      have hrow5 : ∀ j, some wr.heap.size = some j → j = A ∨ j = H ∨ w.heap.size ≤ j := fun j hj => .inr (.inr (by have := G.size; have e : wr.heap.size = j := (by simpa using hj); omega))
      have hHr5 : some H ≠ some wr.heap.size := fun e => by have := hgB.lt; have e' : H = wr.heap.size := (by simpa using e); omega
      have hAr5 : some A ≠ some wr.heap.size := fun e => by have := hmA3.lt; have e' : A = wr.heap.size := (by simpa using e); omega
      go_wp2
      clear hrun5 f3 hrow hHr hAr
      generalize wr = Wx at *
      go_loopw [6] (fun _ wr2 => ∃ left cnt, RangeIs Tryz.prog 165 wr2 H Wx.heap.size M (gOf V Tr p (fun _ _ => false)) left cnt ∧ MapIs Tryz.prog 165 wr2 A n (fOf (TD V Tr p left)) ∧ G2 w wr2 A H) (fun _ wr2 => wr2.rangeLeft H Wx.heap.size)
      case atStart =>
        refine ⟨_, _, hrg5, ?_, G5⟩
        refine hmA5.congr (fun x y hx hy => fOf_congr (TD_fn NO.fnT) (fun z => ⟨fun h => ⟨h, ?_⟩, fun h => h.1⟩))
        rintro ⟨h1, h2⟩
        dsimp only at h2
        rw [(gOf_isSome (left := fun _ _ => false) rfl).2 ⟨z, h, h1⟩] at h2
        cases h2
      case round =>
        clear hrg5 hgr5 hsz5 hmA5 G5 hgB hmA3
        obtain ⟨left, cnt, hrg, hmA6, G6⟩ := hrel
        go_wp2_with (first | (at_next; refine wpList_next_unit pairK _ rfl _ rfl H Wx.heap.size M _ left cnt rfl hrg (fun x y v h => gOf_inv h) ?_ ?_) | go_in)
        · intro hc hl0
          have hgC := hrg.map
          have hmT : MapIs Tryz.prog 165 wr A n (fOf (TA V Tr p (fun x y => (gOf V Tr p (fun _ _ => false) x y).isSome))) := hmA6.congr (fun x y hx hy => by
            refine fOf_congr (hTA _) (fun z => ?_)
            constructor
            · rintro ⟨h1, h2⟩
              refine .inl ⟨h1, ?_⟩
              rcases Int.lt_or_le 0 (kk (V x) (V y) (V z) (V p)) with k | k
              · exact absurd ⟨k, hl0 x y hx hy⟩ h2
              · exact k
            · rintro (⟨h1, h2⟩ | ⟨h, e⟩ | ⟨h, e⟩ | ⟨h, e⟩)
              · exact ⟨h1, fun k => by omega⟩
              · have h2 := h.2; dsimp only at h2; rw [(gOf_isSome rfl).2 (rim_bad h.1)] at h2; cases h2
              · have h2 := h.2; dsimp only at h2; rw [(gOf_isSome rfl).2 (rim_bad h.1)] at h2; cases h2
              · have h2 := h.2; dsimp only at h2; rw [(gOf_isSome rfl).2 (rim_bad h.1)] at h2; cases h2)
          have hmT2 := hmT.tight pairK (pairs ((p : Int) :: -1 :: S)) (fun s t _ _ h => hsup2 _ s t h)
          rw [hM2] at hmT2
          clear hrg hmA6 hl0 hc left cnt hmT
          obtain ⟨W8, c8, hrun8, hrg8, hgr8, hsz8⟩ := hgC.range pairK Tryz.underlying160
          have hmA8 := hmT2.kept hgr8 (by simp)
          have G8 := G6.grown hgr8 (fun j hj => by cases hj)
          have f3 := (W0.g2 G6).net.c3
          have hrow8 : ∀ j, some wr.heap.size = some j → j = A ∨ j = H ∨ w.heap.size ≤ j := fun j hj => .inr (.inr (by have := G6.size; have e : wr.heap.size = j := (by simpa using hj); omega))
          have hHr8 : some H ≠ some wr.heap.size := fun e => by have := hgC.lt; have e' : H = wr.heap.size := (by simpa using e); omega
          have hAr8 : some A ≠ some wr.heap.size := fun e => by have := hmT2.lt; have e' : A = wr.heap.size := (by simpa using e); omega
          go_wp2
          clear hrun8 f3 hrow5 hHr5 hAr5
          generalize wr = Wy at *
          go_loopw [7] (fun _ wr3 => ∃ left cnt, RangeIs Tryz.prog 165 wr3 H Wy.heap.size M (gOf V Tr p (fun _ _ => false)) left cnt ∧ MapIs Tryz.prog 165 wr3 A M2 (fOf (TA V Tr p left)) ∧ G2 w wr3 A H) (fun _ wr3 => wr3.rangeLeft H Wy.heap.size)
          case atStart => exact ⟨_, _, hrg8, hmA8, G8⟩
          case round =>
            clear hrg8 hgr8 hsz8 hmA8 G8 hgC hmT2
            obtain ⟨left, cnt, hrg, hmA9, G9⟩ := hrel
            go_wp2_with (first | (at_next; refine wpList_next_unit pairK _ rfl _ rfl H Wy.heap.size M _ left cnt rfl hrg (fun x y v h => gOf_inv h) ?_ ?_) | go_in)
            · intro hc hl0
              have hgD := hrg.map
              have hfin := (hmA9.congr (fun x y hx hy => fOf_congr hAF (fun z => hTAend left hl0 x y z hx hy))).mono (show M2 ≤ 4000 by omega)
              go_wp2
              go_end0
              exact ⟨rfl, hfin, ⟨_, _, hgD⟩, G9⟩
            · intro x y w1 cnt1 hx hy hlx hf hrg1 hlt hg hsz hen
              have hbad : Bad V Tr p x y := gOf_some (by rw [hf]; simp)
              have HB : Hid (Bad V Tr p x y) := hbad
              have G' : G2 w w1 A H := G9.grown hg hrow8
              have hmA7 := hmA9.kept hg hAr8
              clear hf hsz hg hmA9 hbad
              generalize hWn : w1.alloc (.cells #[.int .i64 x, .int .i64 y] 165) = Wn
              have hbn : Below w1.heap.size w1 Wn := by rw [← hWn]; exact below1 _ _
              have e0 : Wn.cell? ⟨w1.heap.size, 0, none⟩ = some (.int .i64 x) := by rw [← hWn]; simp [go_sem]
              have e1 : Wn.cell? ⟨w1.heap.size, 1, none⟩ = some (.int .i64 y) := by rw [← hWn]; simp [go_sem]
              have G'' := G'.below hbn (Nat.le_refl _)
              have f3 := (W0.g2 G'').net.c3
              have hmH8 := hrg1.map.below hbn hrg1.map.lt
              have hk2 : ∀ w1' w2', (Below Wn.heap.size Wn w1' ∧ w1'.cell? ⟨N, 3, none⟩ = some (.map (some H)) ∧ w1'.cell? ⟨w1.heap.size, 0, none⟩ = some (.int .i64 x) ∧ w1'.cell? ⟨w1.heap.size, 1, none⟩ = some (.int .i64 y) ∧ MapIs Tryz.prog 165 w1' H M (gOf V Tr p (fun _ _ => false))) → Below w1'.heap.size w1' w2' → (Below Wn.heap.size Wn w2' ∧ w2'.cell? ⟨N, 3, none⟩ = some (.map (some H)) ∧ w2'.cell? ⟨w1.heap.size, 0, none⟩ = some (.int .i64 x) ∧ w2'.cell? ⟨w1.heap.size, 1, none⟩ = some (.int .i64 y) ∧ MapIs Tryz.prog 165 w2' H M (gOf V Tr p (fun _ _ => false))) := fun w1' w2' h hb =>
                have hbb := h.1.trans (hb.mono h.1.size)
                ⟨hbb, (hbb.cell (p := ⟨N, 3, none⟩) (cell_blk f3)).trans f3, (hbb.cell (p := ⟨w1.heap.size, 0, none⟩) (cell_blk e0)).trans e0, (hbb.cell (p := ⟨w1.heap.size, 1, none⟩) (cell_blk e1)).trans e1, hmH8.below hbb hmH8.lt⟩
              have hS0 : (Below Wn.heap.size Wn Wn ∧ Wn.cell? ⟨N, 3, none⟩ = some (.map (some H)) ∧ Wn.cell? ⟨w1.heap.size, 0, none⟩ = some (.int .i64 x) ∧ Wn.cell? ⟨w1.heap.size, 1, none⟩ = some (.int .i64 y) ∧ MapIs Tryz.prog 165 Wn H M (gOf V Tr p (fun _ _ => false))) := ⟨Below.refl _ _, f3, e0, e1, hmH8⟩
              have hdr : ∀ w1' : World, Below w1'.heap.size w1' w1'.drew := fun w1' => (Below.refl _ _).drew
              have hlk : ∀ w', MapIs Tryz.prog 165 w' H M (gOf V Tr p (fun _ _ => false)) → (Instr.lookup 160 (.map (some H)) (.agg #[.int .i64 y, .int .i64 x]) true).run Tryz.prog w' = .ok (.tuple #[.agg #[], .bool (gOf V Tr p (fun _ _ => false) y x).isSome]) w' := fun w' h => by
                have := h.look_ok pairK Tryz.underlying160 (zeroUnit w') (a := y) (b := x) hy hx
                rw [this]
                cases hg : gOf V Tr p (fun _ _ => false) y x with
                | none => rfl
                | some v => rw [gOf_inv hg]; rfl
              generalize hbw : (gOf V Tr p (fun _ _ => false) y x).isSome = bw at hlk
              have HBW : Hid ((gOf V Tr p (fun _ _ => false) y x).isSome = bw) := hbw
              have hd : x ≠ y ∧ y ≠ (p : Int) ∧ (p : Int) ≠ x := by
                obtain ⟨z0, hz0, _⟩ := HB.out
                have h1 := NO.lab hz0
                have h2 := NO.lab (NO.rot hz0)
                refine ⟨NO.ne12 hz0, ?_, ?_⟩
                · intro e; rcases h2 with h2 | h2
                  · omega
                  · exact hpS (e ▸ h2)
                · intro e; rcases h1 with h1 | h1
                  · omega
                  · exact hpS (e ▸ h1)
              have hrimOf : (gOf V Tr p (fun _ _ => false) y x).isSome = false → Rim V Tr p x y := by
                intro h
                obtain ⟨z0, hz0, hk0⟩ := HB.out
                obtain ⟨d0, hd0⟩ := NO.pair hz0
                refine ⟨z0, d0, hz0, hk0, hd0, ?_⟩
                rcases Int.lt_or_le 0 (kk (V y) (V x) (V d0) (V p)) with k | k
                · rw [(gOf_isSome rfl).2 ⟨d0, hd0, k⟩] at h; cases h
                · exact k
              clear hbw
              go_wp2_with fail
              clear hWn
              have hal : ∀ (w1' : World) (o : Obj), Below w1'.heap.size w1' (w1'.drew.alloc o) := fun w1' o => ((Below.refl _ _).drew).alloc (Nat.le_refl _) _
              have FIN : ∀ Wf, (Below Wn.heap.size Wn Wf ∧ Wf.cell? ⟨N, 3, none⟩ = some (.map (some H)) ∧ Wf.cell? ⟨w1.heap.size, 0, none⟩ = some (.int .i64 x) ∧ Wf.cell? ⟨w1.heap.size, 1, none⟩ = some (.int .i64 y) ∧ MapIs Tryz.prog 165 Wf H M (gOf V Tr p (fun _ _ => false))) → RangeIs Tryz.prog 165 Wf H Wy.heap.size M (gOf V Tr p (fun _ _ => false)) (strike left x y) cnt1 ∧ G2 w Wf A H ∧ MapIs Tryz.prog 165 Wf A M2 (fOf (TA V Tr p left)) := fun Wf hS =>
                have gg := below_grown (hbn.trans (hS.1.mono hbn.size)) (Nat.le_refl _)
                ⟨hrg1.kept gg (by simp) (by simp), G''.below hS.1 (Nat.le_refl _), hmA7.kept gg (by simp)⟩
              cases bw with
              | true =>
                go_region_held3 (fun w' => Below Wn.heap.size Wn w' ∧ w'.cell? ⟨N, 3, none⟩ = some (.map (some H)) ∧ w'.cell? ⟨w1.heap.size, 0, none⟩ = some (.int .i64 x) ∧ w'.cell? ⟨w1.heap.size, 1, none⟩ = some (.int .i64 y) ∧ MapIs Tryz.prog 165 w' H M (gOf V Tr p (fun _ _ => false))) (first | assumption | exact hk2 _ _ hS0 (hdr _) | exact hk2 _ _ hS0 (hal _ _) | (refine hk2 _ _ ?_ hb3; first | assumption | exact hk2 _ _ hS0 (hdr _) | exact hk2 _ _ hS0 (hal _ _)) | (refine hk2 _ _ ?_ (below1 _ _); first | assumption | exact hk2 _ _ hS0 (hdr _)))
                  (first | (go_at_call 107; refine (turned_any _ _ _).mono ?_; rintro e w' ⟨rfl, hb3⟩))
                all_goals (
                  rename_i hS
                  obtain ⟨hrgF, GF, hmF⟩ := FIN _ hS
                  go_wp2_with fail
                  refine ⟨⟨_, cnt1, hrgF, hmF.congr (fun s t _ _ => fOf_congr (hTA _) (fun z => (TA_no NO.fnT (fun hr => rim_not NO.fnT hr ((gOf_isSome rfl).1 HBW.out)) s t z).symm)), GF⟩, by rw [hrgF.left_eq, hrg.left_eq]; exact hlt⟩)
              | false =>
                go_region_held3 (fun w' => Below Wn.heap.size Wn w' ∧ w'.cell? ⟨N, 3, none⟩ = some (.map (some H)) ∧ w'.cell? ⟨w1.heap.size, 0, none⟩ = some (.int .i64 x) ∧ w'.cell? ⟨w1.heap.size, 1, none⟩ = some (.int .i64 y) ∧ MapIs Tryz.prog 165 w' H M (gOf V Tr p (fun _ _ => false))) (first | assumption | exact hk2 _ _ hS0 (hdr _) | exact hk2 _ _ hS0 (hal _ _) | (refine hk2 _ _ ?_ hb3; first | assumption | exact hk2 _ _ hS0 (hdr _) | exact hk2 _ _ hS0 (hal _ _)) | (refine hk2 _ _ ?_ (below1 _ _); first | assumption | exact hk2 _ _ hS0 (hdr _)))
                  (first | (go_at_call 107; refine (turned_any _ _ _).mono ?_; rintro e w' ⟨rfl, hb3⟩))
                all_goals (
                  rename_i hS
                  obtain ⟨hrgF, GF, hmF⟩ := FIN _ hS
                  have c2 := (W0.g2 GF).net.c2
                  have hput := put_any N A M2 x y p _ _ hx hy (i64_of (by omega) (by omega)) (by unfold maxLen; omega) c2 hmF
                  go_wp2_with (go_at_call 105; refine hput.mono ?_; rintro e w5 ⟨rfl, hm5, hg5⟩)
                  have hrg5 := hrgF.kept hg5 (fun e => W0.AH (by simpa using e.symm)) (fun e => hAr8 e.symm)
                  have G5 := GF.grown hg5 (fun j hj => .inl (by simpa using hj.symm))
                  have hm6 := (hm5.congr (fun s t _ _ => fOf_put (hTA _) hd.1 hd.2.1 hd.2.2 (fun u v z => TA_yes (hrimOf HBW.out) u v z) s t)).tight pairK (pairs ((p : Int) :: -1 :: S)) (fun s t _ _ h => hsup2 _ s t h)
                  rw [hM2] at hm6
                  exact ⟨⟨_, cnt1, hrg5, hm6, G5⟩, by rw [hrg5.left_eq, hrg.left_eq]; exact hlt⟩)
        · intro x y w1 cnt1 hx hy hlx hf hrg1 hlt hg hsz hen
          have hbad : Bad V Tr p x y := gOf_some (by rw [hf]; simp)
          have HB : Hid (Bad V Tr p x y) := hbad
          have G' : G2 w w1 A H := G6.grown hg hrow5
          have hmA7 := hmA6.kept hg hAr5
          clear hf hsz hg hmA6 hbad
          generalize hWn : w1.alloc (.cells #[.int .i64 x, .int .i64 y] 165) = Wn
          have hbn : Below w1.heap.size w1 Wn := by rw [← hWn]; exact below1 _ _
          have e0 : Wn.cell? ⟨w1.heap.size, 0, none⟩ = some (.int .i64 x) := by rw [← hWn]; simp [go_sem]
          have e1 : Wn.cell? ⟨w1.heap.size, 1, none⟩ = some (.int .i64 y) := by rw [← hWn]; simp [go_sem]
          have G'' := G'.below hbn (Nat.le_refl _)
          have f2 := (W0.g2 G'').net.c2
          have hmA8 := (hmA7.below hbn hmA7.lt).block (w' := Wn.drew) rfl
          have P1 := del_run hx hy Tryz.underlying159 hmA8
          generalize hW3 : delW 159 A x y Wn.drew = W3 at P1
          obtain ⟨r1, m1, g1⟩ := P1
          have g1' : Wn.grownBy W3 (some A) := ⟨g1.os, g1.tape, g1.output, g1.size, g1.block⟩
          have nz := hmA8.ne_cell (w := Wn.drew) f2
          have d2 := g1'.cell f2 (fun e => nz (by simpa using e))
          have d0 := g1'.cell e0 (fun e => hmA8.ne_cell (w := Wn.drew) e0 (by simpa using e))
          have d1 := g1'.cell e1 (fun e => hmA8.ne_cell (w := Wn.drew) e1 (by simpa using e))
          have hrg3 := (hrg1.kept (below_grown hbn (Nat.le_refl _)) (by simp) (by simp)).kept g1' (fun e => W0.AH (by simpa using e.symm)) (fun e => hAr5 e.symm)
          have hG3 := G''.grown g1' (fun j hj => .inl (by simpa using hj.symm))
          have hmA9 := m1.congr (fun s t _ _ => fOf_del (TD_fn NO.fnT) (TD_strike NO.fnT HB.out) s t)
          clear m1 g1 g1' hmA7 hmA8 nz
          go_wp2_with fail
          clear hWn hW3
          go_region_held3 (fun w' => w'.cell? ⟨N, 2, none⟩ = some (.map (some A)) ∧ w'.cell? ⟨w1.heap.size, 0, none⟩ = some (.int .i64 x) ∧ w'.cell? ⟨w1.heap.size, 1, none⟩ = some (.int .i64 y)) (first | exact ⟨d2, d0, d1⟩ | go_keep) (fail)
          go_wp2_with fail
          exact ⟨⟨_, cnt1, hrg3, hmA9, hG3⟩, by rw [hrg3.left_eq, hrg.left_eq]; exact hlt⟩
    · intro x y t0 t1 t2 w1 cnt1 hx hy hlx hf hrg1 hlt hg hsz hen
      obtain ⟨z, hz, hrot⟩ := fOf_inv hf
      have G' : G2 w w1 A H := G.grown hg hrow
      have hmh1 : MapIs Tryz.prog 165 w1 H M (gOf V Tr p left) := hmh.kept hg hHr
      have W1' := W0.g2 G'
      have HZ : Hid (Tr x y z ∧ triV t0 t1 t2 = rotV x y z) := ⟨hz, hrot⟩
      have HS1 : Hid (w1.heap.size = wr.heap.size) := hsz
      clear hrot hf hsz hg hmh G Wr
      generalize hWn : (w1.alloc (.cells #[.int .i64 x, .int .i64 y] 165)).alloc (.cells #[.int .i64 t0, .int .i64 t1, .int .i64 t2] 53) = Wn
      have hWn' := two_new w1 x y t0 t1 t2 Wn hWn.symm
      obtain ⟨e0, e1, e2, e3, e4, hsn, hbn⟩ := hWn'
      have G'' := G'.below hbn (Nat.le_refl _)
      have Wa := W0.g2 G''
      have hmA2 := hrg1.map.below hbn hrg1.map.lt
      have hh := holds_tr NO hS N Bp A H bb off cap n p Wn hp hpn hl Wa.net Wa.ask hn hmA2 hz
      rw [← HZ.out.2, hV] at hh
      clear hz
      generalize hbv : decide (0 < kk (V x) (V y) (V z) (V p)) = bv at hh
      have HBV : Hid (decide (0 < kk (V x) (V y) (V z) (V p)) = bv) := hbv
      have HSN : Hid (Wn.heap.size = w1.heap.size + 2) := hsn
      clear hbv hsn hmA2 Wa
      have hnd : ∀ z', Tr x y z' → z' = z := fun z' h => NO.fn h HZ.out.1
      have HND : Hid (∀ z', Tr x y z' → z' = z) := hnd
      clear hnd
      have g12 : ∀ w2, Below Wn.heap.size Wn w2 → w1.grownBy w2 none := fun w2 hb2 => below_grown (hbn.trans (hb2.mono (by rw [HSN.out]; omega))) (Nat.le_refl _)
      have GG : ∀ w2, Below Wn.heap.size Wn w2 → G2 w w2 A H := fun w2 hb2 => G''.below hb2 (Nat.le_refl _)
      cases bv with
      | false =>
        go_wp2_with (go_at_call 106; refine hh.mono ?_; rintro e w2 ⟨rfl, hb2⟩)
        have hrg3 := hrg1.kept (g12 _ hb2) (by simp) (by simp)
        refine ⟨⟨_, cnt1, hrg3, ?_, GG _ hb2⟩, by rw [hrg3.left_eq, hrg.left_eq]; exact hlt⟩
        refine (hmh1.kept (g12 _ hb2) (by simp)).congr (fun s t _ _ => gOf_no ?_ s t)
        rintro ⟨z', h1, h2⟩
        have e := HND.out z' h1
        subst e
        have := HBV.out
        simp at this
        omega
      | true =>
        go_wp2_with (go_at_call 106; refine hh.mono ?_; rintro e w2 ⟨rfl, hb2⟩)
        have hmh2 := hmh1.kept (g12 _ hb2) (by simp)
        have f3 := (W0.g2 (GG _ hb2)).net.c3
        have f0 := (hb2.cell (p := ⟨w1.heap.size, 0, none⟩) (cell_blk e0)).trans e0
        have f1 := (hb2.cell (p := ⟨w1.heap.size, 1, none⟩) (cell_blk e1)).trans e1
        have P1 := put_drew (.agg #[]) hx hy (by unfold maxLen; omega) Tryz.underlying160 hmh2
        generalize hW3 : putW 160 H x y (.agg #[]) w2.drew = W3 at P1
        obtain ⟨r1, m1, g1, k1⟩ := P1
        have d3 := k1 _ _ _ f3; have d0 := k1 _ _ _ f0; have d1 := k1 _ _ _ f1
        have hrg3 := (hrg1.kept (g12 _ hb2) (by simp) (by simp)).kept g1 (fun e => W0.AH (by simpa using e)) (fun e => hHr e.symm)
        have hG3 := (GG _ hb2).grown g1 (fun j hj => .inr (.inl (by simpa using hj.symm)))
        have hbad : Bad V Tr p x y := ⟨z, HZ.out.1, by have := HBV.out; simpa using this⟩
        have hmh3 := (m1.congr (fun s t _ _ => gOf_yes hbad hlx s t)).tight pairK (pairs (-1 :: S)) (fun s t _ _ h => hsup s t (gOf_some h))
        rw [hM] at hmh3
        clear e0 e1 e2 e3 e4 hh hmh2 hmh1 k1 m1 g1 hbad hWn hW3
        go_region_held3 (fun w' => w'.cell? ⟨N, 3, none⟩ = some (.map (some H)) ∧ w'.cell? ⟨w1.heap.size, 0, none⟩ = some (.int .i64 x) ∧ w'.cell? ⟨w1.heap.size, 1, none⟩ = some (.int .i64 y)) (first | exact ⟨d3, d0, d1⟩ | go_keep) (fail)
        go_wp2_with fail
        exact ⟨⟨_, cnt1, hrg3, hmh3, hG3⟩, by rw [hrg3.left_eq, hrg.left_eq]; exact hlt⟩
end Go.Proofs.YtgpapegpdfonpaaGreatDoor
