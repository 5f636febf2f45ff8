/-
  Triangles, Triangulate.
-/
import Derived.Test.YtgpapegpdfonpaaGreatDoorJoinJ
namespace Go.Proofs.YtgpapegpdfonpaaGreatDoor
set_option linter.unusedVariables false
set_option linter.unusedSimpArgs false
open Go.RowKit Go.Maps

set_option maxRecDepth 100000 in
set_option maxHeartbeats 1000000 in
theorem offLine_none (B g ocap : Nat) (w : World) : Calls Tryz.prog 67 #[.slice (some ⟨g, 0, none⟩) 0 ocap, askV B] w fun e w' => e = .returned (iv (-1)) ∧ RowKit.Below w.heap.size w w' := by
  go_enter Tryz.func67, Tryz.ntmps67
  go_wp2
  refine wp_loop_rounds 1 ?_
  rw [rounds_succ]
  go_wp2
  go_ret
  exact ⟨rfl, below1 _ _⟩

set_option maxRecDepth 100000 in
set_option maxHeartbeats 1000000 in
theorem tris_none (B g ocap : Nat) (w : World) : Calls Tryz.prog 27 #[.slice (some ⟨g, 0, none⟩) 0 ocap, askV B] w fun e w' => e = .returned (.slice none 0 0) ∧ RowKit.Below w.heap.size w w' := by
  go_enter Tryz.func27, Tryz.ntmps27
  go_wp2_with (go_at_call 67; refine (offLine_none _ _ _ _).mono ?_; rintro e w1 ⟨rfl, hb1⟩)
  go_ret
  exact ⟨rfl, (below1 _ _).trans (hb1.mono (by simp))⟩

theorem ownS_mono {w : World} {a b n size : Nat} {e : TypeId} {xs : List Value} {v : Value} (h : w.ownsRow a e size v n xs) (hb : b ≤ a) : w.ownsRow b e size v n xs := by
  obtain ⟨hl, h⟩ := h
  refine ⟨hl, ?_⟩
  rcases h with h | ⟨g, cap, cur, hv, hg, r⟩
  · exact .inl h
  · exact .inr ⟨g, cap, cur, hv, Nat.le_trans hb hg, r⟩

/-- all that a caller saw is as it was -/
theorem g2_below {w0 w w' : World} {A H : Nat} (hb : RowKit.Below w0.heap.size w0 w) (g : G2 w w' A H) (hA : w0.heap.size ≤ A) (hH : w0.heap.size ≤ H) : RowKit.Below w0.heap.size w0 w' :=
  ⟨g.os.trans hb.os, g.tape.trans hb.tape, g.output.trans hb.output, Nat.le_trans hb.size g.size, fun i hi => (g.block i (Nat.lt_of_lt_of_le hi hb.size) (by omega) (by omega)).trans (hb.block i hi)⟩

set_option maxRecDepth 100000 in
set_option maxHeartbeats 4000000 in
theorem tris_any (B b off cap g ocap : Nat) (l : List Pt) (is : List Nat) (w : World) (hl : l.length ≤ 60) (hio : InOrder l is) (hnd : l.Nodup) (A0 : AskAt w B b off cap l) (hn : AllNear l)
    (hg : g < w.heap.size) (his : NatsAt w g 0 is) :
    Calls Tryz.prog 27 #[.slice (some ⟨g, 0, none⟩) is.length ocap, askV B] w fun e w' =>
      ∃ v ts, e = .returned v ∧ w'.ownsRow w.heap.size 53 3 v ts.length (flatT ts) ∧ TriSpec l ts ∧ ts.length ≤ 4000 ∧ RowKit.Below w.heap.size w w' := by
  have hlen : is.length ≤ 60 := by rw [hio.len]; exact hl
  have hi := hio.lt
  have hb1 := below1 w (.cells #[.func (.func 34) #[] #[.pointer (some ⟨B, 0, none⟩)], .func (.func 36) #[] #[.pointer (some ⟨B, 0, none⟩)]] 60)
  have k0 : (w.alloc (.cells #[.func (.func 34) #[] #[.pointer (some ⟨B, 0, none⟩)], .func (.func 36) #[] #[.pointer (some ⟨B, 0, none⟩)]] 60)).cell? ⟨w.heap.size, 0, none⟩ = some (.func (.func 34) #[] #[.pointer (some ⟨B, 0, none⟩)]) := by rw [World.cell?_alloc_at _ _ _ _ rfl]; rfl
  have k1 : (w.alloc (.cells #[.func (.func 34) #[] #[.pointer (some ⟨B, 0, none⟩)], .func (.func 36) #[] #[.pointer (some ⟨B, 0, none⟩)]] 60)).cell? ⟨w.heap.size, 1, none⟩ = some (.func (.func 36) #[] #[.pointer (some ⟨B, 0, none⟩)]) := by rw [World.cell?_alloc_at _ _ _ _ rfl]; rfl
  have A1 := A0.below hb1 (Nat.le_refl _)
  have his1 := his.below hb1 hg
  have hg1 : g < (w.alloc (.cells #[.func (.func 34) #[] #[.pointer (some ⟨B, 0, none⟩)], .func (.func 36) #[] #[.pointer (some ⟨B, 0, none⟩)]] 60)).heap.size := by simp; omega
  have hoff := offLine_any B b off cap g ocap l is _ hl hi hlen A1 hn hg1 his1
  have hoff2 : Calls Tryz.prog 67 #[.slice (some ⟨g, 0, none⟩) is.length ocap, askV B] (w.alloc (.cells #[.func (.func 34) #[] #[.pointer (some ⟨B, 0, none⟩)], .func (.func 36) #[] #[.pointer (some ⟨B, 0, none⟩)]] 60)) fun e w' =>
      ∃ r : Int, e = .returned (.int .i64 r) ∧ ((∃ t : Nat, r = t ∧ FirstOff l is t) ∨ (r = -1 ∧ AllOn l is)) ∧ RowKit.Below w.heap.size w w' ∧ w'.cell? ⟨w.heap.size, 0, none⟩ = some (.func (.func 34) #[] #[.pointer (some ⟨B, 0, none⟩)]) ∧ w'.cell? ⟨w.heap.size, 1, none⟩ = some (.func (.func 36) #[] #[.pointer (some ⟨B, 0, none⟩)]) := by
    refine hoff.mono (fun e w' h => ?_)
    have r1 := hb1.trans (h.2.mono hb1.size)
    have r2 := (h.2.cell (p := ⟨w.heap.size, 0, none⟩) (by simp)).trans k0
    have r3 := (h.2.cell (p := ⟨w.heap.size, 1, none⟩) (by simp)).trans k1
    rcases h.1 with ⟨t, he, ht⟩ | ⟨he, ht⟩
    · exact ⟨t, he, .inl ⟨t, rfl, ht⟩, r1, r2, r3⟩
    · exact ⟨-1, he, .inr ⟨rfl, ht⟩, r1, r2, r3⟩
  clear hoff k0 k1 A1 his1 hg1 hb1
  go_enter Tryz.func27, Tryz.ntmps27
  go_upto_region 2 with (go_at_call 67; refine hoff2.mono ?_; rintro e w1 ⟨rr, rfl, hr, hb2, q0, q1⟩)
  clear hoff2
  rcases hr with ⟨t, rfl, hfo⟩ | ⟨rfl, hall⟩
  · obtain ⟨p, q, r, BS⟩ := base_ex hfo
    obtain ⟨t2, tl, _, _⟩ := hfo
    obtain ⟨mp, mq, mr⟩ := BS.mems
    have A2 := A0.below hb2 (Nat.le_refl _)
    have m0 := hi _ (mem_getD (is := is) (show 0 < is.length by omega))
    have m1 := hi _ (mem_getD (is := is) (show 1 < is.length by omega))
    have mt := hi _ (mem_getD tl)
    have FN := firstNet_any B b off cap l (is.getD 0 0) (is.getD 1 0) (is.getD t 0) w1.drew hl m0 m1 mt A2.drew hn p q r (hi _ mp) (hi _ mq) (hi _ mr) BS.sd BS.pqr
    have NA := net_at hio hnd hn BS
    have c0 : w1.cell? ⟨g, 0, none⟩ = some (.int .i64 (is.getD 0 0 : Nat)) := by rw [hb2.cell (p := ⟨g, 0, none⟩) hg]; simpa using his 0 (by omega)
    have c1 : w1.cell? ⟨g, 1, none⟩ = some (.int .i64 (is.getD 1 0 : Nat)) := by rw [hb2.cell (p := ⟨g, 1, none⟩) hg]; simpa using his 1 (by omega)
    have ct : w1.cell? ⟨g, t, none⟩ = some (.int .i64 (is.getD t 0 : Nat)) := by rw [hb2.cell (p := ⟨g, t, none⟩) hg]; simpa using his t tl
    have HNA : Hid (∀ k, k ≤ is.length → NetOf (pOf l) (sAt is t p q r k) p q r (trAt l is t p q r k) ∧ (sAt is t p q r k).Nodup ∧ (∀ i ∈ sAt is t p q r k, 0 ≤ i ∧ i < l.length)) := NA
    have HBS : Hid (Base l is t p q r) := BS
    clear NA BS mp mq mr m0 m1 mt
    generalize is.getD 0 0 = i0 at c0 FN
    generalize is.getD 1 0 = i1 at c1 FN
    generalize is.getD t 0 = it at ct FN
    have p0 : 0 < is.length := by omega
    have p1 : (0 : Int) < (is.length : Int) := by omega
    have p2 : (1 : Int) < (is.length : Int) := by omega
    have p3 : (t : Int) < (is.length : Int) := by omega
    have p4 : (0 : Int) ≤ (t : Int) := by omega
    have hk : ∀ w', RowKit.Below w1.drew.heap.size w1.drew w' → w'.cell? ⟨w.heap.size, 0, none⟩ = some (.func (.func 34) #[] #[.pointer (some ⟨B, 0, none⟩)]) ∧ w'.cell? ⟨w.heap.size, 1, none⟩ = some (.func (.func 36) #[] #[.pointer (some ⟨B, 0, none⟩)]) ∧ w'.cell? ⟨g, 0, none⟩ = some (.int .i64 i0) ∧ w'.cell? ⟨g, 1, none⟩ = some (.int .i64 i1) ∧ w'.cell? ⟨g, t, none⟩ = some (.int .i64 it) := fun w' h =>
      ⟨(h.cell (p := ⟨w.heap.size, 0, none⟩) (cell_blk q0)).trans q0, (h.cell (p := ⟨w.heap.size, 1, none⟩) (cell_blk q1)).trans q1, (h.cell (p := ⟨g, 0, none⟩) (cell_blk c0)).trans c0, (h.cell (p := ⟨g, 1, none⟩) (cell_blk c1)).trans c1, (h.cell (p := ⟨g, t, none⟩) (cell_blk ct)).trans ct⟩
    go_wp2_with fail
    go_region_held3 (fun w' => w'.cell? ⟨w.heap.size, 0, none⟩ = some (.func (.func 34) #[] #[.pointer (some ⟨B, 0, none⟩)]) ∧ w'.cell? ⟨w.heap.size, 1, none⟩ = some (.func (.func 36) #[] #[.pointer (some ⟨B, 0, none⟩)]) ∧ w'.cell? ⟨g, 0, none⟩ = some (.int .i64 i0) ∧ w'.cell? ⟨g, 1, none⟩ = some (.int .i64 i1) ∧ w'.cell? ⟨g, t, none⟩ = some (.int .i64 it)) (first | exact ⟨q0, q1, c0, c1, ct⟩ | exact hk _ hb3)
      (first | (go_at_call 68; refine FN.mono ?_; rintro e w' ⟨N, Am, H, rfl, sN, sA, sH, nNA, nNH, nAH, hNet, hmA, hmH, hb3⟩))
    go_wp2
    have hb4 : RowKit.Below w.heap.size w w' := hb2.trans ((below_of_drew hb3).mono hb2.size)
    have hs4 := hb2.size
    have sA' : w.heap.size ≤ Am := Nat.le_trans hs4 sA
    have sH' : w.heap.size ≤ H := Nat.le_trans hs4 sH
    have AD : AddAt w' N B Am H b off cap l := ⟨hNet, A2.below (below_of_drew hb3) (Nat.le_refl _), nNA, nNH, by have := A0.hB; omega, by have := A0.hB; omega, by have := A0.hb; omega, by have := A0.hb; omega, nAH⟩
    clear hk q0 q1 c0 c1 ct FN hb3 hNet
    go_loopw [7] (fun i wr => ∃ k n m g', 2 ≤ k ∧ k ≤ is.length ∧ i = .int .i64 (k : Nat) ∧ n ≤ 4000 ∧ MapIs Tryz.prog 165 wr Am n (fOf (trAt l is t p q r k)) ∧ MapIs Tryz.prog 165 wr H m g' ∧ AddAt wr N B Am H b off cap l ∧ RowKit.Below w.heap.size w wr)
      (fun i _ => 100 - (intOf i).toNat)
    case atStart => exact ⟨2, 12, 0, _, by omega, by omega, rfl, by omega, hmA, hmH, AD, hb4⟩
    case round =>
      clear hmA hmH AD hb4
      obtain ⟨k, n, m, g', hk2, hkl, rfl, hn4, hmA, hmH, AD, hb4⟩ := hrel
      by_cases hlt : k < is.length
      · have hck : wr.cell? ⟨g, k, none⟩ = some (.int .i64 (is.getD k 0 : Nat)) := by rw [hb4.cell (p := ⟨g, k, none⟩) hg]; simpa using his k hlt
        by_cases hkt : k = t
        · have hT : trAt l is t p q r (k + 1) = trAt l is t p q r k := if_pos (.inr hkt)
          have HT : Hid (trAt l is t p q r (k + 1) = trAt l is t p q r k) := hT
          clear hT hck
          subst hkt
          go_wp2
          go_roundw
          case rel => exact ⟨k + 1, n, m, g', by omega, by omega, by go_num, hn4, by rw [HT.out]; exact hmA, hmH, AD, hb4⟩
          case measure => simp [intOf]; omega
        · have hT : trAt l is t p q r (k + 1) = addTr (VV (pOf l) p q r) (trAt l is t p q r k) (is.getD k 0 : Nat) := if_neg (by omega)
          obtain ⟨NO, hns, hrS⟩ := HNA.out k (by omega)
          have hnew := new_place HBS.out hio.nodup hlt (by omega)
          have hkn := hi _ (mem_getD hlt)
          have hkn' : NearP (ptAt l (is.getD k 0)) := by obtain ⟨a1, a2, a3, a4⟩ := hn _ hkn; exact ⟨a1, a2, a3, a4⟩
          have hSl : (sAt is t p q r k).length ≤ 60 := by
            have := len_le (sAt is t p q r k) ((List.range l.length).map (fun n : Nat => (n : Int))) hns (fun i hi => by
              have := hrS i hi
              exact List.mem_map.2 ⟨i.toNat, List.mem_range.2 (by omega), by omega⟩)
            simp at this; omega
          have hadd := add_any NO hrS hSl N B Am H b off cap n m g' (is.getD k 0) wr hkn hnew hkn' (fun i hi e => by
            have hi' := hrS i hi
            have : i.toNat = is.getD k 0 := ptAt_inj hnd (by omega) hkn e
            exact hnew (by rw [← this]; rw [Int.toNat_of_nonneg hi'.1]; exact hi)) hl hn AD hmA hmH (by omega)
          have HT : Hid (trAt l is t p q r (k + 1) = addTr (VV (pOf l) p q r) (trAt l is t p q r k) (is.getD k 0 : Nat)) := hT
          clear hT NO hns hrS hnew hkn hkn' hSl
          generalize hKK : addTr (VV (pOf l) p q r) (trAt l is t p q r k) (is.getD k 0 : Nat) = TK at hadd
          have HKK : Hid (addTr (VV (pOf l) p q r) (trAt l is t p q r k) (is.getD k 0 : Nat) = TK) := hKK
          clear hKK
          generalize is.getD k 0 = ik at hck hadd
          go_wp2_with (go_at_call 69; refine hadd.mono ?_; rintro e w5 ⟨rfl, hm5, ⟨m5, g5, hh5⟩, G5⟩)
          go_roundw
          case rel => exact ⟨k + 1, 4000, m5, g5, by omega, by omega, by go_num, by omega, by rw [HT.out, HKK.out]; exact hm5, hh5, AD.g2 G5, g2_below hb4 G5 sA' sH'⟩
          case measure => simp [intOf]; omega
      · have hke : k = is.length := by omega
        obtain ⟨NO, hns, hrS⟩ := HNA.out k (by omega)
        have htr := triangles_any N B Am H n (trAt l is t p q r k) wr NO.fnT (fun h => NO.rot h) (fun h => NO.ne12 h) (fun h => by
            rcases NO.lab h with e | e
            · exact i64_of (by omega) (by omega)
            · have := hrS _ e; exact i64_of (by omega) (by omega)) (fun h => by
            rcases NO.lab h with e | e
            · omega
            · have := hrS _ e; omega) AD.net hmA hn4
        have HKE : Hid (k = is.length) := hke
        clear hke NO hns hrS
        go_wp2_with (go_at_call 70; refine htr.mono ?_; rintro e w5 ⟨v, ts, rfl, hown5, hmem5, hsort5, hlen5, hb5⟩)
        go_ret
        refine ⟨v, ts, rfl, ownS_mono hown5 hb4.size, ⟨is, hio, .inr ⟨t, p, q, r, HBS.out, ?_, hsort5⟩⟩, hlen5, hb4.trans (hb5.mono hb4.size)⟩
        rw [← HKE.out]; exact hmem5
  · go_wp2
    go_ret
    exact ⟨_, [], rfl, World.ownsRow_nil _ _ _ _, ⟨is, hio, .inl ⟨hall, rfl⟩⟩, by simp, hb2⟩
end Go.Proofs.YtgpapegpdfonpaaGreatDoor
