/-
  The first point off the line of the first two; the first net.
-/
import Derived.Test.YtgpapegpdfonpaaGreatDoorJoinG
import Derived.Test.YtgpapegpdfonpaaGreatDoorWalksJ
namespace Go.Proofs.YtgpapegpdfonpaaGreatDoor
set_option linter.unusedVariables false
set_option linter.unusedSimpArgs false
open Go.RowKit Go.Maps

/-- t is the first place behind the second that is off the line -/
def FirstOff (l : List Pt) (is : List Nat) (t : Nat) : Prop := 2 ≤ t ∧ t < is.length ∧ askS l (is.getD 0 0) (is.getD 1 0) (is.getD t 0) ≠ 0 ∧ ∀ j, 2 ≤ j → j < t → askS l (is.getD 0 0) (is.getD 1 0) (is.getD j 0) = 0
def AllOn (l : List Pt) (is : List Nat) : Prop := ∀ j, 2 ≤ j → j < is.length → askS l (is.getD 0 0) (is.getD 1 0) (is.getD j 0) = 0

set_option maxRecDepth 100000 in
set_option maxHeartbeats 2000000 in
theorem offLine_any (B b off cap g ocap : Nat) (l : List Pt) (is : List Nat) (w : World) (hl : l.length ≤ 60) (hi : ∀ i ∈ is, i < l.length) (hlen : is.length ≤ 60) (A : AskAt w B b off cap l) (hn : AllNear l)
    (hg : g < w.heap.size) (his : NatsAt w g 0 is) :
    Calls Tryz.prog 67 #[.slice (some ⟨g, 0, none⟩) is.length ocap, askV B] w fun e w' =>
      ((∃ t : Nat, e = .returned (iv t) ∧ FirstOff l is t) ∨ (e = .returned (iv (-1)) ∧ AllOn l is)) ∧ Below w.heap.size w w' := by
  go_enter Tryz.func67, Tryz.ntmps67
  go_wp2
  go_loopw [5] (fun i wr => ∃ k : Nat, 2 ≤ k ∧ i = .int .i64 k ∧ k ≤ 62 ∧ (∀ j, 2 ≤ j → j < k → j < is.length → askS l (is.getD 0 0) (is.getD 1 0) (is.getD j 0) = 0) ∧ Below (w.heap.size + 1) (w.alloc (.cells #[.func (.func 34) #[] #[.pointer (some ⟨B, 0, none⟩)], .func (.func 36) #[] #[.pointer (some ⟨B, 0, none⟩)]] 60)) wr)
    (fun i _ => 62 - (intOf i).toNat)
  case atStart => exact ⟨2, by omega, rfl, by omega, fun j h1 h2 => by omega, Below.refl _ _⟩
  case round =>
    obtain ⟨k, hk2, rfl, hk62, hz, hnx⟩ := hrel
    have HZ : Hid (∀ j, 2 ≤ j → j < k → j < is.length → askS l (is.getD 0 0) (is.getD 1 0) (is.getD j 0) = 0) := hz
    clear hz
    have hbW : Below w.heap.size w wr := (below1 _ _).trans (hnx.mono (by omega))
    by_cases hlt : k < is.length
    · have c0 : wr.cell? ⟨g, 0, none⟩ = some (.int .i64 (is.getD 0 0 : Nat)) := by rw [hbW.cell (p := ⟨g, 0, none⟩) hg]; simpa using his 0 (by omega)
      have c1 : wr.cell? ⟨g, 1, none⟩ = some (.int .i64 (is.getD 1 0 : Nat)) := by rw [hbW.cell (p := ⟨g, 1, none⟩) hg]; simpa using his 1 (by omega)
      have ck : wr.cell? ⟨g, k, none⟩ = some (.int .i64 (is.getD k 0 : Nat)) := by rw [hbW.cell (p := ⟨g, k, none⟩) hg]; simpa using his k hlt
      have m0 := hi _ (mem_getD (show 0 < is.length by omega))
      have m1 := hi _ (mem_getD (show 1 < is.length by omega))
      have mk := hi _ (mem_getD hlt)
      have A2 : AskAt wr.drew B b off cap l := (A.below hbW (Nat.le_refl _)).drew
      have hask := ask1_any B b off cap l (is.getD 0 0) (is.getD 1 0) (is.getD k 0) wr.drew m0 m1 mk (by omega) A2.hb A2.hB A2.cell A2.pts hn
      rw [show sg (sideN (px l (is.getD 0 0)) (py l (is.getD 0 0)) (px l (is.getD 1 0)) (py l (is.getD 1 0)) (px l (is.getD k 0)) (py l (is.getD k 0))) = askS l (is.getD 0 0) (is.getD 1 0) (is.getD k 0) from rfl] at hask
      have q3 : wr.cell? ⟨w.heap.size, 0, none⟩ = some (.func (.func 34) #[] #[.pointer (some ⟨B, 0, none⟩)]) := by
        rw [hnx.cell (p := ⟨w.heap.size, 0, none⟩) (by simp), World.cell?_alloc_at _ _ _ _ rfl]; rfl
      generalize hC : askS l (is.getD 0 0) (is.getD 1 0) (is.getD k 0) = C at hask
      have HC : Hid (askS l (is.getD 0 0) (is.getD 1 0) (is.getD k 0) = C) := hC
      clear hC m0 m1 mk A2
      generalize hi0 : is.getD 0 0 = i0 at *
      generalize hi1 : is.getD 1 0 = i1 at *
      generalize hik : is.getD k 0 = ik at *
      have HI0 : Hid (is.getD 0 0 = i0) := hi0
      have HI1 : Hid (is.getD 1 0 = i1) := hi1
      have HIK : Hid (is.getD k 0 = ik) := hik
      clear hi0 hi1 hik
      have hk : ∀ w', Below wr.drew.heap.size wr.drew w' → w'.cell? ⟨w.heap.size, 0, none⟩ = some (.func (.func 34) #[] #[.pointer (some ⟨B, 0, none⟩)]) ∧ w'.cell? ⟨g, 0, none⟩ = some (.int .i64 i0) ∧ w'.cell? ⟨g, 1, none⟩ = some (.int .i64 i1) ∧ w'.cell? ⟨g, k, none⟩ = some (.int .i64 ik) := fun w' h =>
        ⟨(h.cell (p := ⟨w.heap.size, 0, none⟩) (cell_blk q3)).trans q3, (h.cell (p := ⟨g, 0, none⟩) (cell_blk c0)).trans c0, (h.cell (p := ⟨g, 1, none⟩) (cell_blk c1)).trans c1, (h.cell (p := ⟨g, k, none⟩) (cell_blk ck)).trans ck⟩
      have p0 : 0 < is.length := by omega
      have p1 : (0 : Int) < (is.length : Int) := by omega
      have p2 : (1 : Int) < (is.length : Int) := by omega
      have p3 : (k : Int) < (is.length : Int) := by omega
      have p4 : (0 : Int) ≤ (k : Int) := by omega
      go_wp2_with fail
      go_region_held3 (fun w' => w'.cell? ⟨w.heap.size, 0, none⟩ = some (.func (.func 34) #[] #[.pointer (some ⟨B, 0, none⟩)]) ∧ w'.cell? ⟨g, 0, none⟩ = some (.int .i64 i0) ∧ w'.cell? ⟨g, 1, none⟩ = some (.int .i64 i1) ∧ w'.cell? ⟨g, k, none⟩ = some (.int .i64 ik)) (first | exact ⟨q3, c0, c1, ck⟩ | exact hk _ hb2)
        (first | (go_at_call 34; refine hask.mono ?_; rintro e w' ⟨rfl, hb2⟩))
      have hb3 : Below wr.heap.size wr w' := below_of_drew hb2
      clear hb2 hk hask
      by_cases hc0 : C = 0
      · go_wp2
        go_roundw
        case rel =>
          refine ⟨k + 1, by omega, by go_num, by omega, fun j h1 h2 h3 => ?_, hnx.trans (hb3.mono (by have := hnx.size; simp at this; omega))⟩
          by_cases e : j = k
          · subst e; rw [HIK.out]; rw [HC.out]; exact hc0
          · exact HZ.out j h1 (by omega) h3
        case measure => simp [intOf]; omega
      · go_wp2
        go_ret
        refine ⟨.inl ⟨k, rfl, hk2, hlt, ?_, fun j h1 h2 => ?_⟩, hbW.trans (hb3.mono hbW.size)⟩
        · rw [HI0.out, HI1.out, HIK.out, HC.out]; exact hc0
        · rw [HI0.out, HI1.out]; exact HZ.out j h1 h2 (by omega)
    · go_wp2
      go_ret
      exact ⟨.inr ⟨rfl, fun j h1 h2 => HZ.out j h1 (by omega) h2⟩, hbW⟩

/-- the triangles of the first net, one after the other -/
theorem first_steps {P : Int → Pt} {a b c : Int} (ha : 0 ≤ a) (hb : 0 ≤ b) (hc : 0 ≤ c) (hs : 0 < sd (P a) (P b) (P c)) (na : NearP (P a)) (nb : NearP (P b)) (nc : NearP (P c)) (x y : Int) :
    upd (upd (upd (upd (upd (upd (upd (upd (upd (upd (upd (upd (fun _ _ => none) a b (some (rotV a b c))) b c (some (rotV a b c))) c a (some (rotV a b c)))
      b a (some (rotV b a (-1)))) a (-1) (some (rotV b a (-1)))) (-1) b (some (rotV b a (-1))))
      c b (some (rotV c b (-1)))) b (-1) (some (rotV c b (-1)))) (-1) c (some (rotV c b (-1))))
      a c (some (rotV a c (-1)))) c (-1) (some (rotV a c (-1)))) (-1) a (some (rotV a c (-1))) x y = fOf (firstTr a b c) x y := by
  have N := NetOf.start ha hb hc hs na nb nc
  have hF : Fn (firstTr a b c) := N.fnT
  have hab : a ≠ b := by intro e; subst e; unfold sd at hs; grind
  have hac : c ≠ a := by intro e; subst e; unfold sd at hs; grind
  have hbc : b ≠ c := by intro e; subst e; unfold sd at hs; grind
  have h0 : (fun _ _ => none) = fOf (fun _ _ _ => False) := by funext x y; rw [fOf_none (fun z h => h)]
  have s1 := fOf_put (T := fun _ _ _ => False) (T' := fun x y z => rots a b c x y z) (fun x y z w h h' => hF x y z w (.inl h) (.inl h')) hab hbc hac (fun x y z => by simp)
  have s2 := fOf_put (T := fun x y z => rots a b c x y z) (T' := fun x y z => rots a b c x y z ∨ rots b a (-1) x y z) (fun x y z w h h' => hF x y z w (h.imp id .inl) (h'.imp id .inl)) hab.symm (by omega) (by omega) (fun x y z => Iff.rfl)
  have s3 := fOf_put (T := fun x y z => rots a b c x y z ∨ rots b a (-1) x y z) (T' := fun x y z => (rots a b c x y z ∨ rots b a (-1) x y z) ∨ rots c b (-1) x y z) (fun x y z w h h' => hF x y z w (by rcases h with (h | h) | h; exact .inl h; exact .inr (.inl h); exact .inr (.inr (.inl h))) (by rcases h' with (h | h) | h; exact .inl h; exact .inr (.inl h); exact .inr (.inr (.inl h)))) hbc.symm (by omega) (by omega) (fun x y z => Iff.rfl)
  have hif : ∀ x y z, firstTr a b c x y z ↔ ((rots a b c x y z ∨ rots b a (-1) x y z) ∨ rots c b (-1) x y z) ∨ rots a c (-1) x y z := by
    intro x y z
    unfold firstTr
    constructor
    · rintro (h | h | h | h)
      · exact .inl (.inl (.inl h))
      · exact .inl (.inl (.inr h))
      · exact .inl (.inr h)
      · exact .inr h
    · rintro (((h | h) | h) | h)
      · exact .inl h
      · exact .inr (.inl h)
      · exact .inr (.inr (.inl h))
      · exact .inr (.inr (.inr h))
  have s4 := fOf_put (T := fun x y z => (rots a b c x y z ∨ rots b a (-1) x y z) ∨ rots c b (-1) x y z) (T' := firstTr a b c) hF hac.symm (show c ≠ -1 by omega) (show (-1 : Int) ≠ a by omega) hif
  have f1 := funext fun x => funext fun y => s1 x y
  have f2 := funext fun x => funext fun y => s2 x y
  have f3 := funext fun x => funext fun y => s3 x y
  rw [h0, f1, f2, f3]
  exact s4 x y

theorem below_in {N : Nat} {w w1 w2 : World} {row : Option Nat} (h : Below N w w1) (g : w1.grownBy w2 row) (hr : ∀ j, row = some j → N ≤ j) (hN : N ≤ w1.heap.size) : Below N w w2 :=
  ⟨g.os.trans h.os, g.tape.trans h.tape, g.output.trans h.output, Nat.le_trans h.size g.size, fun i hi => (g.block i (Nat.lt_of_lt_of_le hi hN) (fun e => by have := hr i e.symm; omega)).trans (h.block i hi)⟩

theorem new_net (w1 : World) (B : Nat) : NetAt (((w1.alloc (.map #[] 0)).alloc (.map #[] 0)).alloc (.cells #[.func (.func 34) #[] #[.pointer (some ⟨B, 0, none⟩)], .func (.func 36) #[] #[.pointer (some ⟨B, 0, none⟩)], .map (some w1.heap.size), .map (some (w1.heap.size + 1))] 162)) (w1.heap.size + 2) B w1.heap.size (w1.heap.size + 1) ∧ MapIs Tryz.prog 165 (((w1.alloc (.map #[] 0)).alloc (.map #[] 0)).alloc (.cells #[.func (.func 34) #[] #[.pointer (some ⟨B, 0, none⟩)], .func (.func 36) #[] #[.pointer (some ⟨B, 0, none⟩)], .map (some w1.heap.size), .map (some (w1.heap.size + 1))] 162)) w1.heap.size 0 (fun _ _ => none) := by
  refine ⟨⟨?_, ?_, ?_, ?_⟩, ?_⟩
  · rw [World.cell?_alloc_at _ _ _ _ (by simp)]; rfl
  · rw [World.cell?_alloc_at _ _ _ _ (by simp)]; rfl
  · rw [World.cell?_alloc_at _ _ _ _ (by simp)]; rfl
  · rw [World.cell?_alloc_at _ _ _ _ (by simp)]; rfl
  · exact ((MapIs.made _ _ w1).kept (World.grownBy_alloc _ _ none) (by simp)).kept (World.grownBy_alloc _ _ none) (by simp)
theorem new_hole (w1 : World) (B : Nat) : MapIs Tryz.prog 165 (((w1.alloc (.map #[] 0)).alloc (.map #[] 0)).alloc (.cells #[.func (.func 34) #[] #[.pointer (some ⟨B, 0, none⟩)], .func (.func 36) #[] #[.pointer (some ⟨B, 0, none⟩)], .map (some w1.heap.size), .map (some (w1.heap.size + 1))] 162)) (w1.heap.size + 1) 0 (fun _ _ => none) := by
  have := MapIs.made Tryz.prog 165 (w1.alloc (.map #[] 0))
  rw [show (w1.alloc (.map #[] 0)).heap.size = w1.heap.size + 1 by simp] at this
  exact this.kept (World.grownBy_alloc _ _ none) (by simp)

theorem put_net {N B A H n : Nat} {a b c : Int} {f : Int → Int → Option Value} {w : World} (hN : NetAt w N B A H) (hm : MapIs Tryz.prog 165 w A n f) (hne : N ≠ A) (ha : I64 a) (hb : I64 b) (hc : I64 c) (hn : n + 3 < maxLen) :
    Calls Tryz.prog 105 #[.pointer (some ⟨N, 0, none⟩), iv a, iv b, iv c] w fun e w' =>
      e = .returned (.tuple #[]) ∧ (NetAt w' N B A H ∧ MapIs Tryz.prog 165 w' A (n + 3) (upd (upd (upd f a b (some (rotV a b c))) b c (some (rotV a b c))) c a (some (rotV a b c)))) ∧ w.grownBy w' (some A) :=
  (put_any N A n a b c f w ha hb hc hn hN.c2 hm).mono fun e w' h => ⟨h.1, ⟨hN.grown h.2.2 (fun e => hne (by simpa using e)), h.2.1⟩, h.2.2⟩

set_option maxRecDepth 100000 in
set_option maxHeartbeats 4000000 in
theorem firstNet_any (B b off cap : Nat) (l : List Pt) (i j k : Nat) (w : World) (hl : l.length ≤ 60) (hi : i < l.length) (hj : j < l.length) (hk : k < l.length) (A : AskAt w B b off cap l) (hn : AllNear l)
    (p q r : Nat) (hp : p < l.length) (hq : q < l.length) (hr : r < l.length) (hsd : 0 < sd (ptAt l p) (ptAt l q) (ptAt l r)) (hcase : (askS l i j k < 0 ∧ p = i ∧ q = k ∧ r = j) ∨ (0 < askS l i j k ∧ p = i ∧ q = j ∧ r = k)) :
    Calls Tryz.prog 68 #[iv i, iv j, iv k, askV B] w fun e w' =>
      ∃ N Am H, e = .returned (.pointer (some ⟨N, 0, none⟩)) ∧ w.heap.size ≤ N ∧ w.heap.size ≤ Am ∧ w.heap.size ≤ H ∧ N ≠ Am ∧ N ≠ H ∧ Am ≠ H ∧ NetAt w' N B Am H ∧ MapIs Tryz.prog 165 w' Am 12 (fOf (firstTr p q r)) ∧ MapIs Tryz.prog 165 w' H 0 (fun _ _ => none) ∧ Below w.heap.size w w' := by
  have hmm := @run_makeMap Tryz.prog
  have hb1 := below1 w (.cells #[.func (.func 34) #[] #[.pointer (some ⟨B, 0, none⟩)], .func (.func 36) #[] #[.pointer (some ⟨B, 0, none⟩)]] 60)
  have A2 := A.below hb1 (Nat.le_refl _)
  have hask := ask1_any B b off cap l i j k _ hi hj hk (by omega) A2.hb A2.hB A2.cell A2.pts hn
  rw [show sg (sideN (px l i) (py l i) (px l j) (py l j) (px l k) (py l k)) = askS l i j k from rfl] at hask
  have near : ∀ m, m < l.length → NearP (pOf l m) := fun m hm => by obtain ⟨a1, a2, a3, a4⟩ := hn m hm; exact ⟨a1, a2, a3, a4⟩
  have FS := first_steps (P := pOf l) (a := p) (b := q) (c := r) (by omega) (by omega) (by omega) hsd (near p hp) (near q hq) (near r hr)
  have k0 : (w.alloc (.cells #[.func (.func 34) #[] #[.pointer (some ⟨B, 0, none⟩)], .func (.func 36) #[] #[.pointer (some ⟨B, 0, none⟩)]] 60)).cell? ⟨w.heap.size, 0, none⟩ = some (.func (.func 34) #[] #[.pointer (some ⟨B, 0, none⟩)]) := by rw [World.cell?_alloc_at _ _ _ _ rfl]; rfl
  have k1 : (w.alloc (.cells #[.func (.func 34) #[] #[.pointer (some ⟨B, 0, none⟩)], .func (.func 36) #[] #[.pointer (some ⟨B, 0, none⟩)]] 60)).cell? ⟨w.heap.size, 1, none⟩ = some (.func (.func 36) #[] #[.pointer (some ⟨B, 0, none⟩)]) := by rw [World.cell?_alloc_at _ _ _ _ rfl]; rfl
  generalize askS l i j k = C at *
  have hask2 := hask.mono (fun e w' h => (⟨h.1, h.2, (h.2.cell (p := ⟨w.heap.size, 0, none⟩) (by simp)).trans k0, (h.2.cell (p := ⟨w.heap.size, 1, none⟩) (by simp)).trans k1⟩ : _ ∧ _ ∧ _ ∧ _))
  have i1 : I64 p := i64_of (by omega) (by omega)
  have i2 : I64 q := i64_of (by omega) (by omega)
  have i3 : I64 r := i64_of (by omega) (by omega)
  have i4 : I64 (-1) := i64_of (by omega) (by omega)
  rcases hcase with ⟨hC, rfl, rfl, rfl⟩ | ⟨hC, rfl, rfl, rfl⟩
  · skip
    go_enter Tryz.func68, Tryz.ntmps68
    go_upto_region 4 with (go_at_call 34; refine hask2.mono ?_; rintro e w1 ⟨rfl, hb2, q0, q1⟩)
    have hb12 := hb1.trans (hb2.mono hb1.size)
    obtain ⟨W, hW, st0, hH0, hbW⟩ : ∃ W, ((w1.alloc (.map #[] 0)).alloc (.map #[] 0)).alloc (.cells #[.func (.func 34) #[] #[.pointer (some ⟨B, 0, none⟩)], .func (.func 36) #[] #[.pointer (some ⟨B, 0, none⟩)], .map (some w1.heap.size), .map (some (w1.heap.size + 1))] 162) = W ∧ (NetAt W (w1.heap.size + 1 + 1) B w1.heap.size (w1.heap.size + 1) ∧ MapIs Tryz.prog 165 W w1.heap.size 0 (fun _ _ => none)) ∧ MapIs Tryz.prog 165 W (w1.heap.size + 1) 0 (fun _ _ => none) ∧ Below w1.heap.size w1 W := ⟨_, rfl, new_net w1 B, new_hole w1 B, below3 _ _ _ _⟩
    rw [hW]
    clear hW q0 q1 hask hask2 k0 k1
    have hbw := hb12.trans (hbW.mono hb12.size)
    have hs1 := hb12.size
    have hN1 : w1.heap.size + 1 + 1 ≠ w1.heap.size := by omega
    have hN2 : w1.heap.size + 1 + 1 ≠ w1.heap.size + 1 := by omega
    have hN3 : w1.heap.size ≠ w1.heap.size + 1 := by omega
    have hs2 : w.heap.size ≤ w1.heap.size + 1 + 1 := by omega
    have hs3 : w.heap.size ≤ w1.heap.size + 1 := by omega
    clear hbW hb12 hb2
    generalize w1.heap.size + 1 + 1 = N at *
    generalize w1.heap.size + 1 = Hm at *
    generalize w1.heap.size = Am at *
    go_upto_region 5 with (go_at_call 105; refine (put_net st0.1 st0.2 hN1 i1 i2 i3 (by unfold maxLen; omega)).mono ?_; rintro e w2 ⟨rfl, st1, g1⟩)
    go_upto_region 6 with (go_at_call 105; refine (put_net st1.1 st1.2 hN1 i2 i1 i4 (by unfold maxLen; omega)).mono ?_; rintro e w3 ⟨rfl, st2, g2⟩)
    go_upto_region 7 with (go_at_call 105; refine (put_net st2.1 st2.2 hN1 i3 i2 i4 (by unfold maxLen; omega)).mono ?_; rintro e w4 ⟨rfl, st3, g3⟩)
    go_wp2_with (go_at_call 105; refine (put_net st3.1 st3.2 hN1 i1 i3 i4 (by unfold maxLen; omega)).mono ?_; rintro e w5 ⟨rfl, st4, g4⟩)
    go_ret
    have gg := g1.andThen (g2.andThen (g3.andThen g4 (fun j hj => .inr hj)) (fun j hj => .inr hj)) (fun j hj => .inr hj)
    exact ⟨N, Am, Hm, rfl, hs2, hs1, hs3, hN1, hN2, hN3, st4.1, st4.2.congr (fun x y _ _ => FS x y), hH0.kept gg (fun e => hN3 (by simpa using e.symm)), below_in hbw gg (fun j hj => by have e : Am = j := (by simpa using hj); omega) hbw.size⟩
  · skip
    go_enter Tryz.func68, Tryz.ntmps68
    go_upto_region 4 with (go_at_call 34; refine hask2.mono ?_; rintro e w1 ⟨rfl, hb2, q0, q1⟩)
    have hb12 := hb1.trans (hb2.mono hb1.size)
    obtain ⟨W, hW, st0, hH0, hbW⟩ : ∃ W, ((w1.alloc (.map #[] 0)).alloc (.map #[] 0)).alloc (.cells #[.func (.func 34) #[] #[.pointer (some ⟨B, 0, none⟩)], .func (.func 36) #[] #[.pointer (some ⟨B, 0, none⟩)], .map (some w1.heap.size), .map (some (w1.heap.size + 1))] 162) = W ∧ (NetAt W (w1.heap.size + 1 + 1) B w1.heap.size (w1.heap.size + 1) ∧ MapIs Tryz.prog 165 W w1.heap.size 0 (fun _ _ => none)) ∧ MapIs Tryz.prog 165 W (w1.heap.size + 1) 0 (fun _ _ => none) ∧ Below w1.heap.size w1 W := ⟨_, rfl, new_net w1 B, new_hole w1 B, below3 _ _ _ _⟩
    rw [hW]
    clear hW q0 q1 hask hask2 k0 k1
    have hbw := hb12.trans (hbW.mono hb12.size)
    have hs1 := hb12.size
    have hN1 : w1.heap.size + 1 + 1 ≠ w1.heap.size := by omega
    have hN2 : w1.heap.size + 1 + 1 ≠ w1.heap.size + 1 := by omega
    have hN3 : w1.heap.size ≠ w1.heap.size + 1 := by omega
    have hs2 : w.heap.size ≤ w1.heap.size + 1 + 1 := by omega
    have hs3 : w.heap.size ≤ w1.heap.size + 1 := by omega
    clear hbW hb12 hb2
    generalize w1.heap.size + 1 + 1 = N at *
    generalize w1.heap.size + 1 = Hm at *
    generalize w1.heap.size = Am at *
    go_upto_region 5 with (go_at_call 105; refine (put_net st0.1 st0.2 hN1 i1 i2 i3 (by unfold maxLen; omega)).mono ?_; rintro e w2 ⟨rfl, st1, g1⟩)
    go_upto_region 6 with (go_at_call 105; refine (put_net st1.1 st1.2 hN1 i2 i1 i4 (by unfold maxLen; omega)).mono ?_; rintro e w3 ⟨rfl, st2, g2⟩)
    go_upto_region 7 with (go_at_call 105; refine (put_net st2.1 st2.2 hN1 i3 i2 i4 (by unfold maxLen; omega)).mono ?_; rintro e w4 ⟨rfl, st3, g3⟩)
    go_wp2_with (go_at_call 105; refine (put_net st3.1 st3.2 hN1 i1 i3 i4 (by unfold maxLen; omega)).mono ?_; rintro e w5 ⟨rfl, st4, g4⟩)
    go_ret
    have gg := g1.andThen (g2.andThen (g3.andThen g4 (fun j hj => .inr hj)) (fun j hj => .inr hj)) (fun j hj => .inr hj)
    exact ⟨N, Am, Hm, rfl, hs2, hs1, hs3, hN1, hN2, hN3, st4.1, st4.2.congr (fun x y _ _ => FS x y), hH0.kept gg (fun e => hN3 (by simpa using e.symm)), below_in hbw gg (fun j hj => by have e : Am = j := (by simpa using hj); omega) hbw.size⟩
end Go.Proofs.YtgpapegpdfonpaaGreatDoor
