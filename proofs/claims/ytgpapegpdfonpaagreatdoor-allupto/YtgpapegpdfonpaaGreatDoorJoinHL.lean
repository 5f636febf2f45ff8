/- Part. -/
import Derived.Test.YtgpapegpdfonpaaGreatDoorJoinAG
import Derived.Test.YtgpapegpdfonpaaGreatDoorShelfT
import Derived.Test.YtgpapegpdfonpaaGreatDoorRefS
set_option linter.unusedVariables false
set_option linter.unusedSimpArgs false
set_option maxHeartbeats 16000000
set_option maxRecDepth 100000
namespace Go.Proofs.YtgpapegpdfonpaaGreatDoor
open Go.RowKit Go.Maps Go.Proofs.Tryz
open Go.Value(int)
open Go.IntKind(i64)
def Zj7 (l:List Pt)(is:List Nat)(t:Nat):Prop:=2<=t/\t<is.length/\Zo l (is.getD 0 0) (is.getD 1 0) (is.getD t 0)≠0/\∀ j,2<=j->j<t->Zo l (is.getD 0 0) (is.getD 1 0) (is.getD j 0)=0
def Zj8 (l:List Pt)(is:List Nat):Prop:=∀ j,2<=j->j<is.length->Zo l (is.getD 0 0) (is.getD 1 0) (is.getD j 0)=0
theorem Z0k (B b aa cap g ocap:Nat) (l:List Pt) (is:List Nat) (w:World) (hl:l.length<=60) (hi:∀ i∈is,i<l.length) (hlen:is.length<=60) (A:AskAt w B b aa cap l) (hn:Zv l)
  (hg:g<w.heap.size) (his:Xc w g 0 is) :
  Calls prog 67 #[.slice (some ⟨g,0,none⟩) is.length ocap,Zaw B] w fun e w'=>
   ((∃ t:Nat,e= .returned (iv t)/\Zj7 l is t)\/(e= .returned (iv (-1))/\Zj8 l is))/\Below w.heap.size w w':=by
 go_enter func67,ntmps67;go_wp2
 go_loopw [5] (fun i wr=>∃ k:Nat,2<=k/\i=int i64 k/\k<=62/\(∀ j,2<=j->j<k->j<is.length->Zo l (is.getD 0 0) (is.getD 1 0) (is.getD j 0)=0)/\Below (w.heap.size+1) (w.alloc (.cells #[.func (.func 34) #[] #[.pointer (some ⟨B,0,none⟩)],.func (.func 36) #[] #[.pointer (some ⟨B,0,none⟩)]] 60)) wr)
  (fun i _=>62-(intOf i).toNat)
 case atStart=>exact⟨2,by omega,rfl,by omega,fun j I J=>by omega,Below.refl _ _⟩
 case round=>
  obtain⟨k,hk2,rfl,hk62,hz,Y⟩:=hrel;have HZ:Hid (∀ j,2<=j->j<k->j<is.length->Zo l (is.getD 0 0) (is.getD 1 0) (is.getD j 0)=0):=hz;clear hz;have D:Below w.heap.size w wr:=(Zb _ _).trans (Y.mono (by omega));by_cases hlt:k<is.length
  ·have c0:wr.cell? ⟨g,0,none⟩=some (int i64 (is.getD 0 0:Nat)):=by rw[D.cell (p:=⟨g,0,none⟩) hg];simpa using his 0 (by omega)
   have c1:wr.cell? ⟨g,1,none⟩=some (int i64 (is.getD 1 0:Nat)):=by rw[D.cell (p:=⟨g,1,none⟩) hg];simpa using his 1 (by omega)
   have ck:wr.cell? ⟨g,k,none⟩=some (int i64 (is.getD k 0:Nat)):=by rw[D.cell (p:=⟨g,k,none⟩) hg];simpa using his k hlt
   have m0:=hi _ (Xu (show 0<is.length by omega));have m1:=hi _ (Xu (show 1<is.length by omega));have mk:=hi _ (Xu hlt);have O:AskAt wr.drew B b aa cap l:=(A.below D (Nat.le_refl _)).drew;have Z:=Zc3 B b aa cap l (is.getD 0 0) (is.getD 1 0) (is.getD k 0) wr.drew m0 m1 mk (by omega) O.hb O.hB O.cell O.pts hn;rw[show sg (Zk (px l (is.getD 0 0)) (py l (is.getD 0 0)) (px l (is.getD 1 0)) (py l (is.getD 1 0)) (px l (is.getD k 0)) (py l (is.getD k 0)))=Zo l (is.getD 0 0) (is.getD 1 0) (is.getD k 0) from rfl] at Z;have q3:wr.cell? ⟨w.heap.size,0,none⟩=some (.func (.func 34) #[] #[.pointer (some ⟨B,0,none⟩)]):=by
    rw[Y.cell (p:=⟨w.heap.size,0,none⟩) (by simp),World.cell?_alloc_at _ _ _ _ rfl];rfl
   generalize hC:Zo l (is.getD 0 0) (is.getD 1 0) (is.getD k 0)=C at Z;have HC:Hid (Zo l (is.getD 0 0) (is.getD 1 0) (is.getD k 0)=C):=hC;clear hC m0 m1 mk O;generalize hi0:is.getD 0 0=i0 at *
   generalize hi1:is.getD 1 0=i1 at *
   generalize hik:is.getD k 0=ik at *
   have HI0:Hid (is.getD 0 0=i0):=hi0;have HI1:Hid (is.getD 1 0=i1):=hi1;have HIK:Hid (is.getD k 0=ik):=hik;clear hi0 hi1 hik;have hk:∀ w',Below wr.drew.heap.size wr.drew w'->w'.cell? ⟨w.heap.size,0,none⟩=some (.func (.func 34) #[] #[.pointer (some ⟨B,0,none⟩)])/\w'.cell? ⟨g,0,none⟩=some (int i64 i0)/\w'.cell? ⟨g,1,none⟩=some (int i64 i1)/\w'.cell? ⟨g,k,none⟩=some (int i64 ik):=fun w' h=>
    ⟨(h.cell (p:=⟨w.heap.size,0,none⟩) (Yn q3)).trans q3,(h.cell (p:=⟨g,0,none⟩) (Yn c0)).trans c0,(h.cell (p:=⟨g,1,none⟩) (Yn c1)).trans c1,(h.cell (p:=⟨g,k,none⟩) (Yn ck)).trans ck⟩
   have p0:0<is.length:=by omega
   have p1:(0:Int)<(is.length:Int):=by omega
   have p2:(1:Int)<(is.length:Int):=by omega
   have p3:(k:Int)<(is.length:Int):=by omega
   have p4:(0:Int)<=(k:Int):=by omega
   go_wp2_with fail
   go_region_held3 (fun w'=>w'.cell? ⟨w.heap.size,0,none⟩=some (.func (.func 34) #[] #[.pointer (some ⟨B,0,none⟩)])/\w'.cell? ⟨g,0,none⟩=some (int i64 i0)/\w'.cell? ⟨g,1,none⟩=some (int i64 i1)/\w'.cell? ⟨g,k,none⟩=some (int i64 ik)) (first|exact⟨q3,c0,c1,ck⟩|exact hk _ hb2)
    (first|(go_at_call 34;refine Z.mono ?_;rintro e w' ⟨rfl,hb2⟩))
   have hb3:Below wr.heap.size wr w':=Zi2 hb2;clear hb2 hk Z;by_cases hc0:C=0
   ·go_wp2
    go_roundw
    case rel=>
     refine⟨k+1,by omega,by go_num,by omega,fun j I J h3=>?_,Y.trans (hb3.mono (by have:=Y.size;simp at this;omega))⟩;by_cases e:j=k
     ·subst e;rw[HIK.out];rw[HC.out];exact hc0
     ·exact HZ.out j I (by omega) h3
    case measure=>simp[intOf];omega
   ·go_wp2
    go_ret;refine⟨.inl ⟨k,rfl,hk2,hlt,?_,fun j I J=>?_⟩,D.trans (hb3.mono D.size)⟩
    ·rw[HI0.out,HI1.out,HIK.out,HC.out];exact hc0
    ·rw[HI0.out,HI1.out];exact HZ.out j I J (by omega)
  ·go_wp2
   go_ret;exact⟨.inr ⟨rfl,fun j I J=>HZ.out j I (by omega) J⟩,D⟩
theorem Z0l {P:Int->Pt}{a b c:Int}(ha:0<=a)(hb:0<=b)(hc:0<=c)(I:0<sd (P a) (P b) (P c))(na:Yo (P a))(nb:Yo (P b))(nc:Yo (P c))(x y:Int) :
  upd (upd (upd (upd (upd (upd (upd (upd (upd (upd (upd (upd (fun _ _ => none) a b (some (Z6 a b c))) b c (some (Z6 a b c))) c a (some (Z6 a b c)))
    b a (some (Z6 b a (-1)))) a (-1) (some (Z6 b a (-1)))) (-1) b (some (Z6 b a (-1))))
    c b (some (Z6 c b (-1)))) b (-1) (some (Z6 c b (-1)))) (-1) c (some (Z6 c b (-1))))
    a c (some (Z6 a c (-1)))) c (-1) (some (Z6 a c (-1)))) (-1) a (some (Z6 a c (-1))) x y = fOf (Y4 a b c) x y := by
 have N:=NetOf.start ha hb hc I na nb nc;have J:Fn (Y4 a b c):=N.fnT;have Y:a≠b:=by intro e;subst e;unfold sd at I;grind
 have O:c≠a:=by intro e;subst e;unfold sd at I;grind
 have Z:b≠c:=by intro e;subst e;unfold sd at I;grind
 have h0:(fun _ _=>none)=fOf (fun _ _ _=>False):=by funext x y;rw[Zj5 (fun z h=>h)]
 have s1:=Zhy (T:=fun _ _ _=>False) (T':=fun x y z=>Z7 a b c x y z) (fun x y z w h D=>J x y z w (.inl h) (.inl D)) Y Z O (fun x y z=>by simp);have s2:=Zhy (T:=fun x y z=>Z7 a b c x y z) (T':=fun x y z=>Z7 a b c x y z\/Z7 b a (-1) x y z) (fun x y z w h D=>J x y z w (h.imp id .inl) (D.imp id .inl)) Y.symm (by omega) (by omega) (fun x y z=>Iff.rfl);have s3:=Zhy (T:=fun x y z=>Z7 a b c x y z\/Z7 b a (-1) x y z) (T':=fun x y z=>(Z7 a b c x y z\/Z7 b a (-1) x y z)\/Z7 c b (-1) x y z) (fun x y z w h D=>J x y z w (by rcases h with (h|h)|h;exact .inl h;exact .inr (.inl h);exact .inr (.inr (.inl h))) (by rcases D with (h|h)|h;exact .inl h;exact .inr (.inl h);exact .inr (.inr (.inl h)))) Z.symm (by omega) (by omega) (fun x y z=>Iff.rfl);have hif:∀ x y z,Y4 a b c x y z↔((Z7 a b c x y z\/Z7 b a (-1) x y z)\/Z7 c b (-1) x y z)\/Z7 a c (-1) x y z:=by
  intro x y z;unfold Y4;constructor
  ·rintro (h|h|h|h)
   ·exact .inl (.inl (.inl h))
   ·exact .inl (.inl (.inr h))
   ·exact .inl (.inr h)
   ·exact .inr h
  ·rintro (((h|h)|h)|h)
   ·exact .inl h
   ·exact .inr (.inl h)
   ·exact .inr (.inr (.inl h))
   ·exact .inr (.inr (.inr h))
 have s4:=Zhy (T:=fun x y z=>(Z7 a b c x y z\/Z7 b a (-1) x y z)\/Z7 c b (-1) x y z) (T':=Y4 a b c) J O.symm (show c≠ -1 by omega) (show (-1:Int)≠a by omega) hif;have f1:=funext fun x=>funext fun y=>s1 x y
 have f2:=funext fun x=>funext fun y=>s2 x y
 have f3:=funext fun x=>funext fun y=>s3 x y
 rw[h0,f1,f2,f3];exact s4 x y
theorem Zh0 {N:Nat}{w D I:World}{row:Option Nat}(h:Below N w D)(g:D.grownBy I row)(J:∀ j,row=some j->N<=j)(O:N<=D.heap.size):Below N w I:=
 ⟨g.os.trans h.os,g.tape.trans h.tape,g.output.trans h.output,Nat.le_trans h.size g.size,fun i hi=>(g.block i (L3 hi O) (fun e=>by have:=J i e.symm;omega)).trans (h.block i hi)⟩
theorem Zrr (e:World)(B:Nat):NetAt (((e.alloc (.map #[] 0)).alloc (.map #[] 0)).alloc (.cells #[.func (.func 34) #[] #[.pointer (some ⟨B,0,none⟩)],.func (.func 36) #[] #[.pointer (some ⟨B,0,none⟩)],.map (some e.heap.size),.map (some (e.heap.size+1))] 162)) (e.heap.size+2) B e.heap.size (e.heap.size+1)/\Zi prog 165 (((e.alloc (.map #[] 0)).alloc (.map #[] 0)).alloc (.cells #[.func (.func 34) #[] #[.pointer (some ⟨B,0,none⟩)],.func (.func 36) #[] #[.pointer (some ⟨B,0,none⟩)],.map (some e.heap.size),.map (some (e.heap.size+1))] 162)) e.heap.size 0 (fun _ _=>none):=by
 refine⟨⟨?_,?_,?_,?_⟩,?_⟩
 ·rw[World.cell?_alloc_at _ _ _ _ (by simp)];rfl
 ·rw[World.cell?_alloc_at _ _ _ _ (by simp)];rfl
 ·rw[World.cell?_alloc_at _ _ _ _ (by simp)];rfl
 ·rw[World.cell?_alloc_at _ _ _ _ (by simp)];rfl
 ·exact ((Zi.made _ _ e).kept (World.grownBy_alloc _ _ none) (by simp)).kept (World.grownBy_alloc _ _ none) (by simp)
theorem Zrs (e:World)(B:Nat):Zi prog 165 (((e.alloc (.map #[] 0)).alloc (.map #[] 0)).alloc (.cells #[.func (.func 34) #[] #[.pointer (some ⟨B,0,none⟩)],.func (.func 36) #[] #[.pointer (some ⟨B,0,none⟩)],.map (some e.heap.size),.map (some (e.heap.size+1))] 162)) (e.heap.size+1) 0 (fun _ _=>none):=by
 have:=Zi.made prog 165 (e.alloc (.map #[] 0));rw[show (e.alloc (.map #[] 0)).heap.size=e.heap.size+1 by simp] at this;exact this.kept (World.grownBy_alloc _ _ none) (by simp)
theorem Zez {N B A H n:Nat}{a b c:Int}{f:Int->Int->Option Value}{w:World}(D:NetAt w N B A H)(I:Zi prog 165 w A n f)(O:N≠A)(ha:I64 a)(J:I64 b)(Y:I64 c)(Z:n+3<maxLen) :
  Calls prog 105 #[.pointer (some ⟨N,0,none⟩),iv a,iv b,iv c] w fun e w'=>
   e= .returned (.tuple #[])/\(NetAt w' N B A H/\Zi prog 165 w' A (n+3) (upd (upd (upd f a b (some (Z6 a b c))) b c (some (Z6 a b c))) c a (some (Z6 a b c))))/\w.grownBy w' (some A):=
 (Zq7 N A n a b c f w ha J Y Z D.c2 I).mono fun e w' h=>⟨h.1,⟨D.grown h.2.2 (fun e=>O (by simpa using e)),h.2.1⟩,h.2.2⟩
theorem Z0m (B b off cap:Nat) (l:List Pt) (i j k:Nat) (w:World) (hl:l.length<=60) (hi:i<l.length) (I:j<l.length) (hk:k<l.length) (A:AskAt w B b off cap l) (hn:Zv l)
  (p q r:Nat) (hp:p<l.length) (hq:q<l.length) (hr:r<l.length) (hsd:0<sd (Za l p) (Za l q) (Za l r)) (hcase:(Zo l i j k<0/\p=i/\q=k/\r=j)\/(0<Zo l i j k/\p=i/\q=j/\r=k)) :
  Calls prog 68 #[iv i,iv j,iv k,Zaw B] w fun e w'=>
   ∃ N O H,e= .returned (.pointer (some ⟨N,0,none⟩))/\w.heap.size<=N/\w.heap.size<=O/\w.heap.size<=H/\N≠O/\N≠H/\O≠H/\NetAt w' N B O H/\Zi prog 165 w' O 12 (fOf (Y4 p q r))/\Zi prog 165 w' H 0 (fun _ _=>none)/\Below w.heap.size w w':=by
 have hmm:=@run_makeMap prog;have hb1:=Zb w (.cells #[.func (.func 34) #[] #[.pointer (some ⟨B,0,none⟩)],.func (.func 36) #[] #[.pointer (some ⟨B,0,none⟩)]] 60);have A2:=A.below hb1 (Nat.le_refl _);have hask:=Zc3 B b off cap l i j k _ hi I hk (by omega) A2.hb A2.hB A2.cell A2.pts hn;rw[show sg (Zk (px l i) (py l i) (px l j) (py l j) (px l k) (py l k))=Zo l i j k from rfl] at hask;have near:∀ m,m<l.length->Yo (pOf l m):=fun m hm=>by obtain⟨a1,a2,a3,a4⟩:=hn m hm;exact⟨a1,a2,a3,a4⟩
 have FS:=Z0l (P:=pOf l) (a:=p) (b:=q) (c:=r) (by omega) (by omega) (by omega) hsd (near p hp) (near q hq) (near r hr);have k0:(w.alloc (.cells #[.func (.func 34) #[] #[.pointer (some ⟨B,0,none⟩)],.func (.func 36) #[] #[.pointer (some ⟨B,0,none⟩)]] 60)).cell? ⟨w.heap.size,0,none⟩=some (.func (.func 34) #[] #[.pointer (some ⟨B,0,none⟩)]):=by rw[World.cell?_alloc_at _ _ _ _ rfl];rfl
 have k1:(w.alloc (.cells #[.func (.func 34) #[] #[.pointer (some ⟨B,0,none⟩)],.func (.func 36) #[] #[.pointer (some ⟨B,0,none⟩)]] 60)).cell? ⟨w.heap.size,1,none⟩=some (.func (.func 36) #[] #[.pointer (some ⟨B,0,none⟩)]):=by rw[World.cell?_alloc_at _ _ _ _ rfl];rfl
 generalize Zo l i j k=C at *
 have hask2:=hask.mono (fun e w' h=>(⟨h.1,h.2,(h.2.cell (p:=⟨w.heap.size,0,none⟩) (by simp)).trans k0,(h.2.cell (p:=⟨w.heap.size,1,none⟩) (by simp)).trans k1⟩:_/\_/\_/\_));have i1:I64 p:=Zcy (by omega) (by omega);have i2:I64 q:=Zcy (by omega) (by omega);have i3:I64 r:=Zcy (by omega) (by omega);have Z:I64 (-1):=Zcy (by omega) (by omega);rcases hcase with ⟨hC,rfl,rfl,rfl⟩|⟨hC,rfl,rfl,rfl⟩
 ·skip
  go_enter func68,ntmps68;go_upto_region 4 with (go_at_call 34;refine hask2.mono ?_;rintro e D ⟨rfl,hb2,q0,q1⟩);have Y:=hb1.trans (hb2.mono hb1.size);obtain⟨W,hW,st0,hH0,hbW⟩:∃ W,((D.alloc (.map #[] 0)).alloc (.map #[] 0)).alloc (.cells #[.func (.func 34) #[] #[.pointer (some ⟨B,0,none⟩)],.func (.func 36) #[] #[.pointer (some ⟨B,0,none⟩)],.map (some D.heap.size),.map (some (D.heap.size+1))] 162)=W/\(NetAt W (D.heap.size+1+1) B D.heap.size (D.heap.size+1)/\Zi prog 165 W D.heap.size 0 (fun _ _=>none))/\Zi prog 165 W (D.heap.size+1) 0 (fun _ _=>none)/\Below D.heap.size D W:=⟨_,rfl,Zrr D B,Zrs D B,Zd0 _ _ _ _⟩;rw[hW];clear hW q0 q1 hask hask2 k0 k1;have hbw:=Y.trans (hbW.mono Y.size);have hs1:=Y.size;have J:D.heap.size+1+1≠D.heap.size:=by omega
  have hN2:D.heap.size+1+1≠D.heap.size+1:=by omega
  have hN3:D.heap.size≠D.heap.size+1:=by omega
  have hs2:w.heap.size<=D.heap.size+1+1:=by omega
  have hs3:w.heap.size<=D.heap.size+1:=by omega
  clear hbW Y hb2;generalize D.heap.size+1+1=N at *
  generalize D.heap.size+1=Hm at *
  generalize D.heap.size=O at *
  go_upto_region 5 with (go_at_call 105;refine (Zez st0.1 st0.2 J i1 i2 i3 (by unfold maxLen;omega)).mono ?_;rintro e w2 ⟨rfl,st1,g1⟩);go_upto_region 6 with (go_at_call 105;refine (Zez st1.1 st1.2 J i2 i1 Z (by unfold maxLen;omega)).mono ?_;rintro e w3 ⟨rfl,st2,g2⟩);go_upto_region 7 with (go_at_call 105;refine (Zez st2.1 st2.2 J i3 i2 Z (by unfold maxLen;omega)).mono ?_;rintro e w4 ⟨rfl,st3,g3⟩);go_wp2_with (go_at_call 105;refine (Zez st3.1 st3.2 J i1 i3 Z (by unfold maxLen;omega)).mono ?_;rintro e w5 ⟨rfl,st4,g4⟩)
  go_ret;have gg:=g1.andThen (g2.andThen (g3.andThen g4 (fun j I=>.inr I)) (fun j I=>.inr I)) (fun j I=>.inr I);exact⟨N,O,Hm,rfl,hs2,hs1,hs3,J,hN2,hN3,st4.1,st4.2.congr (fun x y _ _=>FS x y),hH0.kept gg (fun e=>hN3 (by simpa using e.symm)),Zh0 hbw gg (fun j I=>by have e:O=j:=(by simpa using I);omega) hbw.size⟩
 ·skip
  go_enter func68,ntmps68;go_upto_region 4 with (go_at_call 34;refine hask2.mono ?_;rintro e D ⟨rfl,hb2,q0,q1⟩);have Y:=hb1.trans (hb2.mono hb1.size);obtain⟨W,hW,st0,hH0,hbW⟩:∃ W,((D.alloc (.map #[] 0)).alloc (.map #[] 0)).alloc (.cells #[.func (.func 34) #[] #[.pointer (some ⟨B,0,none⟩)],.func (.func 36) #[] #[.pointer (some ⟨B,0,none⟩)],.map (some D.heap.size),.map (some (D.heap.size+1))] 162)=W/\(NetAt W (D.heap.size+1+1) B D.heap.size (D.heap.size+1)/\Zi prog 165 W D.heap.size 0 (fun _ _=>none))/\Zi prog 165 W (D.heap.size+1) 0 (fun _ _=>none)/\Below D.heap.size D W:=⟨_,rfl,Zrr D B,Zrs D B,Zd0 _ _ _ _⟩;rw[hW];clear hW q0 q1 hask hask2 k0 k1;have hbw:=Y.trans (hbW.mono Y.size);have hs1:=Y.size;have J:D.heap.size+1+1≠D.heap.size:=by omega
  have hN2:D.heap.size+1+1≠D.heap.size+1:=by omega
  have hN3:D.heap.size≠D.heap.size+1:=by omega
  have hs2:w.heap.size<=D.heap.size+1+1:=by omega
  have hs3:w.heap.size<=D.heap.size+1:=by omega
  clear hbW Y hb2;generalize D.heap.size+1+1=N at *
  generalize D.heap.size+1=Hm at *
  generalize D.heap.size=O at *
  go_upto_region 5 with (go_at_call 105;refine (Zez st0.1 st0.2 J i1 i2 i3 (by unfold maxLen;omega)).mono ?_;rintro e w2 ⟨rfl,st1,g1⟩);go_upto_region 6 with (go_at_call 105;refine (Zez st1.1 st1.2 J i2 i1 Z (by unfold maxLen;omega)).mono ?_;rintro e w3 ⟨rfl,st2,g2⟩);go_upto_region 7 with (go_at_call 105;refine (Zez st2.1 st2.2 J i3 i2 Z (by unfold maxLen;omega)).mono ?_;rintro e w4 ⟨rfl,st3,g3⟩);go_wp2_with (go_at_call 105;refine (Zez st3.1 st3.2 J i1 i3 Z (by unfold maxLen;omega)).mono ?_;rintro e w5 ⟨rfl,st4,g4⟩)
  go_ret;have gg:=g1.andThen (g2.andThen (g3.andThen g4 (fun j I=>.inr I)) (fun j I=>.inr I)) (fun j I=>.inr I);exact⟨N,O,Hm,rfl,hs2,hs1,hs3,J,hN2,hN3,st4.1,st4.2.congr (fun x y _ _=>FS x y),hH0.kept gg (fun e=>hN3 (by simpa using e.symm)),Zh0 hbw gg (fun j I=>by have e:O=j:=(by simpa using I);omega) hbw.size⟩
end Go.Proofs.YtgpapegpdfonpaaGreatDoor
namespace Go.Proofs.YtgpapegpdfonpaaGreatDoor
open Go.RowKit Go.Maps Go.Shelf Go.Lib Go.Sort Go.Proofs.Tryz
open Go.Value(int)
open Go.IntKind(i64)
abbrev T3:=Int×Int×Int
def Zdt (s t:T3):Int:=orI (Zbh s.1 t.1) (orI (Zbh s.2.1 t.2.1) (Zbh s.2.2 t.2.2))
theorem Z0n (b c:Nat) (x0 Y O Z D I:Int) (w:World) (h0:w.cell? ⟨b,0,none⟩=some (iv x0)) (h1:w.cell? ⟨b,1,none⟩=some (iv Y)) (h2:w.cell? ⟨b,2,none⟩=some (iv O))
  (k0:w.cell? ⟨c,0,none⟩=some (iv Z)) (k1:w.cell? ⟨c,1,none⟩=some (iv D)) (k2:w.cell? ⟨c,2,none⟩=some (iv I)) :
  Calls prog 110 #[.slice (some ⟨b,0,none⟩) 3 3,.slice (some ⟨c,0,none⟩) 3 3] w fun e w'=>e= .returned (iv (Zdt (x0,Y,O) (Z,D,I)))/\w'=w:=by
 have J:=Ziw x0 Z w;have H1:=Ziw Y D w;have H2:=Ziw O I w;unfold Zdt orI;dsimp only
 generalize Zbh x0 Z=c0 at *
 generalize Zbh Y D=c1 at *
 generalize Zbh O I=c2 at *
 by_cases e0:c0=0
 ·rw[if_pos e0];by_cases e1:c1=0
  ·rw[if_pos e1];by_cases e2:c2=0
   ·go_enter func110,ntmps110;go_wp2
    refine wp_loop_rounds 4 ?_;rw[rounds_succ];go_wp2_with (go_at_call 74;refine J.mono ?_;rintro e w' ⟨rfl,rfl⟩)
    rw[rounds_succ];go_wp2_with (go_at_call 74;refine H1.mono ?_;rintro e w' ⟨rfl,rfl⟩)
    rw[rounds_succ];go_wp2_with (go_at_call 74;refine H2.mono ?_;rintro e w' ⟨rfl,rfl⟩)
    rw[rounds_succ];go_wp2
    go_ret;exact⟨by rw[e2];rfl,rfl⟩
   ·go_enter func110,ntmps110;go_wp2
    refine wp_loop_rounds 3 ?_;rw[rounds_succ];go_wp2_with (go_at_call 74;refine J.mono ?_;rintro e w' ⟨rfl,rfl⟩)
    rw[rounds_succ];go_wp2_with (go_at_call 74;refine H1.mono ?_;rintro e w' ⟨rfl,rfl⟩)
    rw[rounds_succ];go_wp2_with (go_at_call 74;refine H2.mono ?_;rintro e w' ⟨rfl,rfl⟩)
    go_ret;exact⟨rfl,rfl⟩
  ·rw[if_neg e1];go_enter func110,ntmps110;go_wp2
   refine wp_loop_rounds 2 ?_;rw[rounds_succ];go_wp2_with (go_at_call 74;refine J.mono ?_;rintro e w' ⟨rfl,rfl⟩)
   rw[rounds_succ];go_wp2_with (go_at_call 74;refine H1.mono ?_;rintro e w' ⟨rfl,rfl⟩)
   go_ret;exact⟨rfl,rfl⟩
 ·rw[if_neg e0];go_enter func110,ntmps110;go_wp2
  refine wp_loop_rounds 1 ?_;rw[rounds_succ];go_wp2_with (go_at_call 74;refine J.mono ?_;rintro e w' ⟨rfl,rfl⟩)
  go_ret;exact⟨rfl,rfl⟩
def Xe (t:T3):List Value:=[iv t.1,iv t.2.1,iv t.2.2]
theorem Z0o (s t:T3)(w:World) :
  Calls prog 109 #[Yh s.1 s.2.1 s.2.2,Yh t.1 t.2.1 t.2.2] w fun e w'=>e= .returned (iv (Zdt s t))/\∃ o1 o2 q,w'=((w.alloc o1).alloc o2).drewN q:=by
 obtain⟨x0,Y,O⟩:=s;obtain⟨Z,I,J⟩:=t;dsimp only
 go_enter func109,ntmps109;go_wp2_with fail
 generalize D:(w.alloc (.cells #[int i64 x0,int i64 Y,int i64 O] 53)).alloc (.cells #[int i64 Z,int i64 I,int i64 J] 53)=W;have hc:=Z0n w.heap.size (w.heap.size+1) x0 Y O Z I J W.drew
  (by rw[World.cell?_drew,<-D,World.cell?_alloc_past _ _ _ (by simp),World.cell?_alloc_at _ _ _ _ rfl];rfl) (by rw[World.cell?_drew,<-D,World.cell?_alloc_past _ _ _ (by simp),World.cell?_alloc_at _ _ _ _ rfl];rfl) (by rw[World.cell?_drew,<-D,World.cell?_alloc_past _ _ _ (by simp),World.cell?_alloc_at _ _ _ _ rfl];rfl)
  (by rw[World.cell?_drew,<-D,World.cell?_alloc_at _ _ _ _ (by simp)];rfl) (by rw[World.cell?_drew,<-D,World.cell?_alloc_at _ _ _ _ (by simp)];rfl) (by rw[World.cell?_drew,<-D,World.cell?_alloc_at _ _ _ _ (by simp)];rfl)
 have HW:Hid ((w.alloc (.cells #[int i64 x0,int i64 Y,int i64 O] 53)).alloc (.cells #[int i64 Z,int i64 I,int i64 J] 53)=W):=D;clear D;go_region_held3 (fun w'=>w'=W.drew) (first|rfl|assumption)
  (first|(go_at_call 110;refine hc.mono ?_;rintro e w' ⟨rfl,rfl⟩))
 go_wp2
 go_ret;exact⟨rfl,_,_,1,by rw[HW.out];rfl⟩
instance:Inhabited T3:=⟨(0,0,0)⟩
def Y8 (s t:T3):Prop:=s.1<t.1\/(s.1=t.1/\(s.2.1<t.2.1\/(s.2.1=t.2.1/\s.2.2<t.2.2)))
theorem Zgr (s:T3):¬ Y8 s s:=by unfold Y8;omega
theorem Zrt {s t u:T3}(h:Y8 s t)(k:Y8 t u):Y8 s u:=by unfold Y8 at *;omega
theorem Z0p (s t:T3):Y8 s t\/s=t\/Y8 t s:=by
 obtain⟨a,b,c⟩:=s;obtain⟨D,I,e⟩:=t;unfold Y8;simp only[Prod.mk.injEq];omega
theorem Zru (x y:Int):orI x y<0↔x<0\/(x=0/\y<0):=by unfold orI;split <;> omega
theorem Z0q (s t:T3):Zdt s t<0↔Y8 s t:=by
 unfold Zdt Y8;rw[Zru,Zru,Zhe,Zhe,Zhe,Zlk,Zlk]
theorem ltT (s t:T3):ltOf Zdt s t=true↔Y8 s t:=by
 unfold ltOf;rw[decide_eq_true_eq];exact Z0q s t
theorem Zm2 (s t:T3):ltOf Zdt s t=false↔¬ Y8 s t:=by
 rw[<-ltT];simp
theorem Z0r : SWO (ltOf Zdt) := {
  irrefl := fun x => by rw [Zm2]; exact Zgr x
  trans := fun x y z D e => by rw [ltT] at *; exact Zrt D e
  ntrans := fun x y z D e => by
    rw [Zm2] at *
    unfold Y8 at *; omega }
def Zj (ts:List T3):List Value:=ts.flatMap Xe
theorem Zc9:∀ ts:List T3,(Zj ts).length=ts.length*3
 | []=>rfl
 | t :: ts=>by have:=Zc9 ts;simp only[Zj,List.flatMap_cons,List.length_append,List.length_cons,Xe,List.length_nil] at *;omega
theorem Zj9 (ts e:List T3):Zj (ts ++ e)=Zj ts ++ Zj e:=by simp[Zj]
theorem Zbs:∀ (ts:List T3) (i c:Nat),c<3->(h:i<ts.length)->(Zj ts)[i*3+c]? =(Xe ts[i])[c]?
 | [],i,c,hc,h=>by simp at h
 | t :: ts,0,c,hc,h=>by
  simp only[Zj,List.flatMap_cons,Nat.zero_mul,Nat.zero_add,List.getElem_cons_zero];rw[List.getElem?_append_left (by simp[Xe];omega)]
 | t :: ts,i+1,c,hc,h=>by
  have e:=Zbs ts i c hc (by simpa using h);simp only[Zj,List.flatMap_cons,List.getElem_cons_succ] at *
  rw[List.getElem?_append_right (by simp[Xe];omega),<-e];congr 1;simp[Xe];omega
theorem Zrv (d:Array T3):(flatK Xe 3 d).toList=Zj d.toList:=by
 apply List.ext_getElem
 ·simp[Zc9]
 ·intro t Z I;have D:t<d.size*3:=by simpa using Z
  have J:(flatK Xe 3 d).toList[t]=(flatK Xe 3 d)[t]! :=by simp[D]
  rw[J,get_flatK Xe 3 d t D];have Y:t / 3<d.toList.length:=by simp;omega
  have:=Zbs d.toList (t / 3) (t % 3) (Nat.mod_lt _ (by omega)) Y;rw[show t / 3*3+t % 3=t by omega,List.getElem?_eq_getElem I] at this;have e:t % 3<(Xe d.toList[t / 3]).length:=by simp[Xe];omega
  rw[List.getElem?_eq_getElem e] at this;simp only[Option.some.injEq] at this;rw[this];have O:d[t / 3]! =d.toList[t / 3]:=by rw[Array.getElem_toList];exact getElem!_pos d (t / 3) (by omega)
  rw[O];exact getElem!_pos (Xe d.toList[t / 3]) (t % 3) e
theorem Z0s {w:World}{aa g n cap:Nat}{e:TypeId}{D:Nat}{xs:List Value}(h:w.ownsRow aa e D (.slice (some ⟨g,0,none⟩) n cap) n xs)(I:Array Value)(J:I.size=n*D) :
  (putRow id w g 0 I).ownsRow aa e D (.slice (some ⟨g,0,none⟩) n cap) n I.toList:=by
 obtain⟨hl,h⟩:=h;refine⟨by simpa using J,?_⟩;rcases h with ⟨h,_⟩|⟨g',cap',Y,hv,hb,hh,Z,h2,O,h4⟩
 ·cases h
 ·cases hv;refine .inr ⟨g,cap,putCells id 0 I Y,rfl,hb,?_,Z,h2,by simp[putCells,O],?_⟩
  ·unfold putRow mapBlock;simp only[Array.getElem?_modify];rw[if_pos trivial,hh];rfl
  ·have hle:n*D<=Y.size:=by rw[O];exact Nat.mul_le_mul_right _ Z
   apply List.ext_getElem
   ·simp[putCells,J];omega
   ·intro i i1 i2;have hi:i<n*D:=by simpa [J] using i2
    simp[putCells,J,hi]
theorem Z0t (O g cap:Nat)(ts:List T3)(w:World)(hlen:ts.length<100000)(hown:w.ownsRow O 53 3 (.slice (some ⟨g,0,none⟩) ts.length cap) ts.length (Zj ts))(hbase:O<=w.heap.size) :
  Calls prog 108 #[.slice (some ⟨g,0,none⟩) ts.length cap,.func (.func 109) #[] #[]] w fun e w'=>
   e= .returned (.tuple #[])/\∃ us:List T3,us.Perm ts/\us.Pairwise (fun s t=>¬ Y8 t s)/\w'.ownsRow O 53 3 (.slice (some ⟨g,0,none⟩) ts.length cap) ts.length (Zj us)/\Below O w w':=by
 have hg:g<w.heap.size/\O<=g:=by
  obtain⟨_,D⟩:=hown;rcases D with ⟨D,_⟩|⟨g',cap',Y,I,hb,J,r⟩
  ·cases D
  ·cases I;exact⟨(Array.getElem?_eq_some_iff.1 J).1,hb⟩
 have hH:HoldsK Xe 3 w g 0 ts.toArray:=by
  intro j hj;have Z:j<ts.length*3:=by simpa using hj
  obtain⟨hl,D⟩:=hown;rcases D with ⟨D,_⟩|⟨g',cap',Y,I,hb,J,h1,h2,h3,h4⟩
  ·cases D
  ·cases I;have e:(flatK Xe 3 ts.toArray)[j]! =(Zj ts)[j]'(by rw[Zc9];exact Z):=by
    have:=Zrv ts.toArray;have e1:(flatK Xe 3 ts.toArray)[j]! =(flatK Xe 3 ts.toArray).toList[j]'(by simpa using Z):=by simp[Z]
    rw[e1];simp only[this]
   have hjc:j<Y.size:=by have:=Nat.mul_le_mul_right 3 h1;omega
   have e2:(Zj ts)[j]'(by rw[Zc9];exact Z)=Y[j]:=by
    simp only[<-h4];rw[List.getElem_take,Array.getElem_toList]
   refine⟨?_,by simp[World.frozen?,J]⟩;rw[e,e2,Nat.zero_add];simp[World.cell?,J,hjc]
 have hcmp:CmpLays prog 109 #[] Xe 3 Zdt g 0 ts.toArray.size w:=by
  intro m os dk hs x y;refine (Z0o x y _).mono ?_;rintro e w' ⟨he,o1,o2,q,hw⟩;refine⟨he,q,#[o1,o2],?_⟩;rw[hw,alloc_eq_grow,alloc_eq_grow,grow_grow];rfl
 have eg:∀ args w,(callFunc 109 args).run prog w= .ok (.enter 109 args) w:=call109;have hS:=AnyQ.slices_SortFunc laySortT 3 isAgg53 sizeOf53 Xe (fun _=>rfl) (fun x v I=>by simp[Xe] at I;rcases I with rfl|rfl|rfl <;> rfl) Zdt Z0r 109 #[] g 0 cap ts.toArray w eg hcmp hH hg.1 (by simp;omega);change Calls prog 108 _ _ _ at hS;simp only[List.size_toArray] at hS;refine hS.mono ?_;rintro e w' ⟨he,d',q,os,hperm,hsorted,hw⟩;obtain⟨p1,_,p3⟩:=hperm;have hd:d'.size=ts.length:=by simpa using p1
 have hp:d'.toList.Perm ts:=by
  have e1:d'.extract 0 ts.length=d':=by rw[<-hd];simp
  have e2:ts.toArray.extract 0 ts.length=ts.toArray:=by simp
  rw[e1,e2] at p3;simpa using p3
 refine⟨he,d'.toList,hp,?_,?_,?_⟩
 ·rw[List.pairwise_iff_getElem];intro i j hi hj hij;have:=hsorted i j (Nat.zero_le _) hij (by rw[<-hd];simpa using hj);rw[Zm2] at this;have a1:d'[j]! =d'[j]:=getElem!_pos d' j (by simpa using hj);have a2:d'[i]! =d'[i]'(by simpa using hi):=getElem!_pos d' i (by simpa using hi);rw[a1,a2] at this;simpa using this
 ·have h1:(putRowK Xe 3 (Sort.ahead w q) g 0 d').ownsRow O 53 3 (.slice (some ⟨g,0,none⟩) ts.length cap) ts.length (Zj d'.toList):=by
   rw[<-Zrv];exact Z0s (w:=Sort.ahead w q) hown _ (by simp[hd])
  rw[hw];unfold sortWorldK;obtain⟨hl,D⟩:=h1;refine⟨hl,?_⟩;rcases D with D|⟨g',cap',Y,I,hb,J,r⟩
  ·exact .inl D
  ·refine .inr ⟨g',cap',Y,I,hb,?_,r⟩;show ((putRowK Xe 3 (Sort.ahead w q) g 0 d').heap ++ os)[g']? =_
   rw[Array.getElem?_append_left (Array.getElem?_eq_some_iff.1 J).1];exact J
 ·rw[hw];unfold sortWorldK;refine⟨rfl,rfl,rfl,?_,fun k hk=>?_⟩
  ·rw[Sort.size_grow,size_putRowK];exact Nat.le_add_right _ _
  ·show ((putRowK Xe 3 (Sort.ahead w q) g 0 d').heap ++ os)[k]? =_
   have hk':k<w.heap.size:=by omega
   rw[Array.getElem?_append_left (by rw[size_putRowK];exact hk')];unfold putRowK putRow mapBlock;simp only[Array.getElem?_modify];rw[if_neg (by omega)];rfl
theorem Z0u (D:Nat){v:Value}(ts:List T3)(w:World)(Z:ts.length<100000)(J:w.ownsRow D 53 3 v ts.length (Zj ts))(aa:D<=w.heap.size) :
  Calls prog 108 #[v,.func (.func 109) #[] #[]] w fun e w'=>
   e= .returned (.tuple #[])/\∃ I:List T3,I.Perm ts/\I.Pairwise (fun s t=>¬ Y8 t s)/\w'.ownsRow D 53 3 v ts.length (Zj I)/\Below D w w':=by
 have O:=J;obtain⟨hl,h⟩:=J;rcases h with ⟨rfl,Y⟩|⟨g,cap,cur,rfl,_⟩
 ·have e:ts=[]:=List.length_eq_zero_iff.1 Y;subst e;have h:=AnyF.slices_SortFunc_none laySortT none 0 (.func (.func 109) #[] #[]) w;change Calls prog 108 _ _ _ at h;exact h.mono fun e w' h=>⟨h.1,[],List.Perm.refl _,List.Pairwise.nil,by rw[h.2];exact O,by rw[h.2];exact Below.refl _ _⟩
 ·exact Z0t D g cap ts w Z O aa
theorem Xn.cnt_le {P:Program}{K:TypeId}{w:World}{B r n:Nat}{f:Int->Int->Option Value}{left:Int->Int->Bool}{cnt:Nat}(h:Xn P K w B r n f left cnt):cnt<=n:=by
 obtain⟨D,L,⟨Y,Z,O,J,c0,_,_,e,_,_,_,I,_⟩,_⟩:=h;rw[<-I];exact Nat.le_trans (by unfold leftOf;exact Array.size_filter_le ..) e
theorem Z0v:(prog.info? 53).map (fun i=>(i.zero,i.size,i.bytes))=some (some (.agg #[int i64 0,int i64 0,int i64 0]),3,24):=by kernel_rfl
theorem Z0w {w:World}{D n I:Nat}{e:TypeId}{xs:List Value}{v:Value}(h:w.ownsRow D e I v n xs):∃ a c,v= .slice a n c:=by
 obtain⟨_,h⟩:=h;rcases h with ⟨rfl,rfl⟩|⟨g,cap,J,rfl,_⟩
 ·exact⟨_,_,rfl⟩
 ·exact⟨_,_,rfl⟩
theorem Zm3 {w w':World}{D n J:Nat}{e:TypeId}{xs:List Value}{v:Value}(h:w.ownsRow D e J v n xs)(Y:Below w.heap.size w w'):w'.ownsRow D e J v n xs:=by
 obtain⟨hl,h⟩:=h;refine⟨hl,?_⟩;rcases h with h|⟨g,cap,cur,Z,O,I,r⟩
 ·exact .inl h
 ·exact .inr ⟨g,cap,cur,Z,O,(Y.block g (Array.getElem?_eq_some_iff.1 I).1).trans I,r⟩
theorem Z0x {w w':World}{O n J:Nat}{e:TypeId}{xs:List Value}{v:Value}{row:Option Nat}(h:w.ownsRow O e J v n xs)(Y:w.grownBy w' row)(hr:∀ j D,row=some j->w.heap[j]? ≠some (.cells D e (0,0))):w'.ownsRow O e J v n xs:=by
 obtain⟨Z,h⟩:=h;refine⟨Z,?_⟩;rcases h with h|⟨g,cap,D,hv,aa,I,r⟩
 ·exact .inl h
 ·exact .inr ⟨g,cap,D,hv,aa,(Y.block g (Array.getElem?_eq_some_iff.1 I).1 (fun e=>hr g D e.symm I)).trans I,r⟩
theorem Z0y {P:Program}{K:TypeId}{w:World}{aa n Z A m:Nat}{e:TypeId}{xs:List Value}{v:Value}{f:Int->Int->Option Value}(h:w.ownsRow aa e Z v n xs)(J:Zi P K w A m f):some A≠v.ownBlock:=by
 obtain⟨D,⟨es,clock,O,_⟩,_⟩:=J;obtain⟨_,h⟩:=h;rcases h with ⟨rfl,_⟩|⟨g,cap,cur,rfl,_,I,_⟩
 ·simp[Value.ownBlock]
 ·intro Y;have:A=g:=by simpa [Value.ownBlock] using Y
  subst this;rw[O] at I;cases I
theorem Z0z {P:Program}{K:TypeId}{w:World}{aa n Z B r m cnt:Nat}{e:TypeId}{xs:List Value}{v:Value}{f:Int->Int->Option Value}{left:Int->Int->Bool}(h:w.ownsRow aa e Z v n xs)(J:Xn P K w B r m f left cnt):some r≠v.ownBlock:=by
 obtain⟨D,L,⟨es,clock,ac,ab,c0,_,_,_,_,O,_⟩,_⟩:=J;obtain⟨_,h⟩:=h;rcases h with ⟨rfl,_⟩|⟨g,cap,cur,rfl,_,I,_⟩
 ·simp[Value.ownBlock]
 ·intro Y;have:r=g:=by simpa [Value.ownBlock] using Y
  subst this;rw[O] at I;cases I
theorem Z00 {w:World}{I n J:Nat}{e:TypeId}{xs:List Value}{v:Value}(h:w.ownsRow I e J v n xs):∀ j,v.ownBlock=some j->I<=j:=by
 obtain⟨_,h⟩:=h;rcases h with ⟨rfl,_⟩|⟨g,cap,Y,rfl,O,_⟩
 ·intro j D;simp[Value.ownBlock] at D
 ·intro j D;have:g=j:=by simpa [Value.ownBlock] using D
  omega
theorem Xn.no_cells {P:Program}{K:TypeId}{w:World}{B r n:Nat}{f:Int->Int->Option Value}{left:Int->Int->Bool}{cnt:Nat}(h:Xn P K w B r n f left cnt){e:TypeId}:∀ j J,some r=some j->w.heap[j]? ≠some (.cells J e (0,0)):=by
 obtain⟨D,L,⟨es,clock,aa,Z,c0,_,_,_,_,Y,_⟩,_⟩:=h;intro j J O I;have:r=j:=by simpa using O
 subst this;rw[Y] at I;cases I
theorem Z01 (a b c d:Int)(w:World):(Op.equalIn 10000 165 (.agg #[int i64 a,int i64 b]) (.agg #[int i64 c,int i64 d])).run prog w= .ok (a == c && b == d) w:=by
 have O:=underlying3;have I:=isAgg3;have J:=sizeOf3;rw[show (10000:Nat)=9999+1 from rfl,Op.equalIn];simp only[Sem.run_bind,run_underlying underlying165,Result.andThen_ok];simp only[Std.Legacy.Range.forIn_eq_forIn_range',Std.Legacy.Range.size,Nat.sub_zero,Nat.add_sub_cancel,Nat.div_one,List.range'_succ,List.range'_zero,List.forIn_cons,List.forIn_nil];go_simp
 by_cases D:a=c <;> by_cases e:b=d <;> simp[D,e]
theorem Z02 {x y z D e I:Int}(J:x≠y)(Y:y≠z)(O:z≠x)(h:(D,e,I)=Zbq x y z):((x=D/\y=e)↔(x<y/\x<z))/\(x=D->y=e->I=z):=by
 unfold Zbq at h;split at h
 ·simp only[Prod.mk.injEq] at h;obtain⟨rfl,rfl,rfl⟩:=h;omega
 ·split at h
  ·simp only[Prod.mk.injEq] at h;obtain⟨rfl,rfl,rfl⟩:=h;omega
  ·simp only[Prod.mk.injEq] at h;obtain⟨rfl,rfl,rfl⟩:=h;omega
theorem Zrw {Tr:Int->Int->Int->Prop}{left:Int->Int->Bool}{Y:List T3}{x y z:Int}(J:Fn Tr)(I:Tr x y z)(O:¬ (0<=x/\x<y/\x<z))(h:∀ x y z,(x,y,z)∈Y↔Tr x y z/\(0<=x/\x<y/\x<z)/\left x y=false) :
  ∀ a b c,(a,b,c)∈Y↔Tr a b c/\(0<=a/\a<b/\a<c)/\Zaz left x y a b=false:=by
 intro a b c;rw[h];by_cases k:a=x/\b=y
 ·obtain⟨rfl,rfl⟩:=k;constructor
  ·rintro⟨D,e,_⟩;have:=J _ _ _ _ D I;subst this;exact absurd e O
  ·rintro⟨D,e,_⟩;have:=J _ _ _ _ D I;subst this;exact absurd e O
 ·rw[Zfi _ k]
theorem Z03 {Tr:Int->Int->Int->Prop}{left:Int->Int->Bool}{J:List T3}{x y z:Int}(Y:Fn Tr)(I:Tr x y z)(O:0<=x/\x<y/\x<z)(h:∀ x y z,(x,y,z)∈J↔Tr x y z/\(0<=x/\x<y/\x<z)/\left x y=false) :
  ∀ a b c,(a,b,c)∈J ++ [(x,y,z)]↔Tr a b c/\(0<=a/\a<b/\a<c)/\Zaz left x y a b=false:=by
 intro a b c;rw[List.mem_append,h];by_cases k:a=x/\b=y
 ·obtain⟨rfl,rfl⟩:=k;rw[Zjs];constructor
  ·rintro (⟨e,D,_⟩|e)
   ·exact⟨e,D,rfl⟩
   ·simp at e;subst e;exact⟨I,O,rfl⟩
  ·rintro⟨e,D,_⟩;have:=Y _ _ _ _ e I;subst this;exact .inr (by simp)
 ·rw[Zfi _ k];constructor
  ·rintro (e|e)
   ·exact e
   ·simp at e;exact absurd ⟨e.1,e.2.1⟩ k
  ·exact .inl
theorem Z04 (N Bp A H n:Nat) (Tr:Int->Int->Int->Prop) (w:World) (hF:Fn Tr) (hrotT:∀ {x y z},Tr x y z->Tr y z x) (hneT:∀ {x y z},Tr x y z->x≠y) (h64:∀ {x y z},Tr x y z->I64 x) (hlow:∀ {x y z},Tr x y z-> -1<=x)
  (hN:NetAt w N Bp A H) (hm:Zi prog 165 w A n (fOf Tr)) (hn:n<=4000) :
  Calls prog 70 #[.pointer (some ⟨N,0,none⟩)] w fun e w'=>
   ∃ v ts,e= .returned v/\w'.ownsRow w.heap.size 53 3 v ts.length (Zj ts)/\(∀ x y z,(x,y,z)∈ts↔Tr x y z/\0<=x/\x<y/\x<z)/\ts.Pairwise Y8/\ts.length<=4000/\Below w.heap.size w w':=by
 obtain⟨i0,hi0,hz0,hz1,hz2⟩:=info_parts Z0v;have hinv:∀ x y v,fOf Tr x y=some v->∃ D I Y,v=Yh D I Y:=fun x y v h=>by obtain⟨z,_,e⟩:=Zhx h;exact⟨_,_,_,e⟩
 obtain⟨W2,cnt0,hrun2,Z,hgr2,hsz2⟩:=hm.range Zbp underlying159;have c2:=hN.c2;have hb2:Below w.heap.size w W2:=Zh0 (Below.refl _ _) hgr2 (fun j O=>by cases O) (Nat.le_refl _);have hcnt:=Z.cnt_le;go_enter func70,ntmps70;go_wp2
 clear hrun2 c2
 go_loopw [3] (fun v wr => ∃ left cnt J, Xn prog 165 wr A w.heap.size n (fOf Tr) left cnt ∧ wr.ownsRow w.heap.size 53 3 v J.length (Zj J) ∧ Below w.heap.size w wr ∧ J.length + cnt ≤ 4000 ∧ J.Nodup ∧
     (∀ x y z, (x, y, z) ∈ J ↔ Tr x y z ∧ (0 ≤ x ∧ x < y ∧ x < z) ∧ left x y = false)) (fun _ wr => wr.rangeLeft A w.heap.size)
 case atStart=>
  refine⟨_,_,[],Z,World.ownsRow_nil _ _ _ _,hb2,by simp;omega,by simp,fun x y z=>⟨fun h=>by simp at h,fun h=>?_⟩⟩;have:=h.2.2;rw[Zmv.2 ⟨z,h.1⟩] at this;cases this
 case round=>
  clear Z hgr2 hsz2 hb2 hcnt;obtain⟨left,cnt,J,hrg,hown,hnx,hlen,hnd,hmem⟩:=hrel;obtain⟨va,vc,rfl⟩:=Z0w hown;have HMEM:Hid (∀ x y z,(x,y,z)∈J↔Tr x y z/\(0<=x/\x<y/\x<z)/\left x y=false):=hmem;have HND:Hid J.Nodup:=hnd;clear hmem hnd;go_wp2_with (first|(at_next;refine Zrl Zbp _ rfl _ rfl A w.heap.size n _ left cnt rfl hrg hinv ?_ ?_)|go_in)
  ·intro hc hl0;have hsort:=Z0u w.heap.size J wr (by omega) hown hnx.size;have hm0:∀ x y z,(x,y,z)∈J↔Tr x y z/\0<=x/\x<y/\x<z:=fun x y z=>by
    rw[HMEM.out];exact⟨fun h=>⟨h.1,h.2.1⟩,fun h=>⟨h.1,h.2,hl0 x y (h64 h.1) (h64 (hrotT h.1))⟩⟩
   have HM0:Hid (∀ x y z,(x,y,z)∈J↔Tr x y z/\0<=x/\x<y/\x<z):=hm0;clear hm0 hl0 hrg HMEM hc;go_wp2_with (go_at_call 108;refine hsort.mono ?_;rintro e w5 ⟨rfl,us,hp,hs,hown5,hb5⟩)
   go_ret;refine⟨_,us,rfl,by rw[hp.length_eq];exact hown5,fun x y z=>by rw[hp.mem_iff];exact HM0.out x y z,?_,by rw[hp.length_eq];omega,hnx.trans hb5⟩;have hnu:us.Nodup:=hp.symm.nodup HND.out
   exact (hs.and hnu).imp (fun h => by
     rcases Z0p _ _ with k | k | k
     · exact k
     · exact absurd k h.2
     · exact absurd k h.1)
  ·intro x y D I Y w1 cnt1 hx hy hlx hf hrg1 hlt hg hsz hen;obtain⟨z,hz,hrot⟩:=Zhx hf;have n1:=hneT hz;have n2:=hneT (hrotT hz);have n3:=hneT (hrotT (hrotT hz));have hR:(D,I,Y)=Zbq x y z:=by
    unfold Z6 at hrot;simp only[Value.agg.injEq,Array.mk.injEq,List.cons.injEq,Value.int.injEq,true_and,and_true] at hrot;exact Prod.ext hrot.1 (Prod.ext hrot.2.1 hrot.2.2)
   have hown1:=Z0x hown hg hrg.no_cells;have hnx1:=Zh0 hnx hg (fun j O=>by have e:w.heap.size=j:=(by simpa using O);omega) hnx.size;have HZ:Hid (Tr x y z/\x≠y/\y≠z/\z≠x/\(D,I,Y)=Zbq x y z):=⟨hz,n1,n2,n3,hR⟩;have HS1:Hid (w1.heap.size=wr.heap.size):=hsz;have hlen1:J.length+1+cnt1<=4000:=by omega
   clear hf hrot hz n1 n2 n3 hR hg hsz hown hnx hlen;generalize hWn:(w1.alloc (.cells #[int i64 x,int i64 y] 165)).alloc (.cells #[int i64 D,int i64 I,int i64 Y] 53)=Wn;obtain⟨e0,e1,e2,e3,e4,hsn,hbn⟩:=Zrq w1 x y D I Y Wn hWn.symm;have HSN:Hid (Wn.heap.size=w1.heap.size+2):=hsn;have Z:=hrg1.kept (Zfj hbn (Nat.le_refl _)) (by simp) (by simp);have hown2:=Zm3 hown1 hbn;have hnx2:=hnx1.trans (hbn.mono hnx1.size);clear hsn hown1 hnx1;have RC:=Z02 HZ.out.2.1 HZ.out.2.2.1 HZ.out.2.2.2.1 HZ.out.2.2.2.2;have HRC:Hid (((x=D/\y=I)↔(x<y/\x<z))/\(x=D->y=I->Y=z)):=RC;clear RC;have heq:=Z01;by_cases hs0:D= -1
   ·subst hs0;go_wp2_with fail
    refine⟨⟨_,cnt1,J,Z,hown2,hnx2,by omega,HND.out,Zrw hF HZ.out.1 (fun h=>?_) HMEM.out⟩,by rw[Z.left_eq,hrg.left_eq];exact hlt⟩;have:=HRC.out.1.2 h.2;omega
   ·by_cases aa:x=D/\y=I
    ·have HSE:Hid (x=D/\y=I/\Y=z):=⟨aa.1,aa.2,HRC.out.2 aa.1 aa.2⟩;have hbe:(x == D && y == I)=true:=by simp[aa.1,aa.2]
     clear aa;have hwl:=hnx2.size;go_wp2_with (at_builtin;refine wpList_append_lies _ (by rfl) (.tmp 28) (.tmp 30) 42 (by rfl) w.heap.size 53 i0 (.agg #[int i64 0,int i64 0,int i64 0]) 3 24 underlying42 hi0 hz0 hz1 hz2 rfl (by decide) _ _ _ (by rfl) (Zm3 hown2 (Zb _ _)) ⟨Wn.heap.size,0,none⟩ 1 1 [int i64 D,int i64 I,int i64 Y] (by rfl) rfl ?c1 ?c2 (by decide) ?c3 ?c4 ?c5 (Wn.heap.size+1) ?c6 ?_)
     case c1=>
      intro j u O;match j,O with
      | 0,O=>simp at O;subst O;simp[Addr.add]
      | 1,O=>simp at O;subst O;simp[Addr.add]
      | 2,O=>simp at O;subst O;simp[Addr.add]
     case c2=>intro u hu;simp at hu;rcases hu with rfl|rfl|rfl <;> rfl
     case c3=>unfold maxLen;omega
     case c4=>omega
     case c5=>simp;omega
     case c6=>simp
     ·intro g2 cap2 w3 hown3 hgrow hat hlt3;have hrg3:=Z.kept (Zfj (Zb Wn (.cells #[int i64 D,int i64 I,int i64 Y] 53)) (Nat.le_refl _)) (by simp) (by simp);have hown2':=Zm3 hown2 (Zb Wn (.cells #[int i64 D,int i64 I,int i64 Y] 53));have hrg4:=hrg3.kept hgrow (Z0y hown2' hrg3.map) (Z0z hown2' hrg3);have hnx3:=Zh0 (hnx2.trans ((Zb Wn (.cells #[int i64 D,int i64 I,int i64 Y] 53)).mono hwl)) hgrow (Z00 hown2') (by simp;omega);clear hgrow hat hown2 hown2' Z hrg3 hrg1;go_wp2
      go_roundw
      case rel=>
       obtain⟨q1,q2,q3⟩:=HSE.out;have hyes:=HRC.out.1.1 ⟨q1,q2⟩;have hx0:=hlow HZ.out.1;refine⟨_,cnt1,J ++ [(x,y,z)],hrg4,?_,hnx3,by simp;omega,?_,Z03 hF HZ.out.1 ⟨by omega,hyes.1,hyes.2⟩ HMEM.out⟩
       ·rw[Zj9,List.length_append];have:Zj [(x,y,z)]=[int i64 D,int i64 I,int i64 Y]:=by rw[q1,q2,<-q3];rfl
        rw[this];exact hown3
       ·rw[List.nodup_append];refine⟨HND.out,by simp,fun a ha b hb e=>?_⟩;simp at hb;subst hb;subst e;have:=(HMEM.out x y z).1 ha;rw[hlx] at this;exact absurd this.2.2 (by simp)
      case measure=>rw[hrg4.left_eq,hrg.left_eq];exact hlt
    ·have hbe:(x == D && y == I)=false:=by simp;omega
     have HSE:Hid (¬ (x=D/\y=I)):=aa;clear aa;go_wp2_with fail
     refine⟨⟨_,cnt1,J,Z,hown2,hnx2,by omega,HND.out,Zrw hF HZ.out.1 (fun h=>HSE.out (HRC.out.1.2 h.2)) HMEM.out⟩,by rw[Z.left_eq,hrg.left_eq];exact hlt⟩
end Go.Proofs.YtgpapegpdfonpaaGreatDoor
namespace Go.Proofs.YtgpapegpdfonpaaGreatDoor
open Go.RowKit Go.Maps
def Xi (l:List Pt)(is:List Nat)(t p q r:Nat):Nat->(Int->Int->Int->Prop)
 | 0=>Y4 p q r
 | k+1=>if k<2\/k=t then Xi l is t p q r k else Zbr (VV (pOf l) p q r) (Xi l is t p q r k) (is.getD k 0:Nat)
def sAt (is:List Nat)(t p q r:Nat):Nat->List Int
 | 0=>[(p:Int),q,r]
 | k+1=>if k<2\/k=t then sAt is t p q r k else ((is.getD k 0:Nat):Int) :: sAt is t p q r k
structure Base (l:List Pt)(is:List Nat)(t p q r:Nat):Prop where
 off:Zj7 l is t
 pqr:(Zo l (is.getD 0 0) (is.getD 1 0) (is.getD t 0)<0/\p=is.getD 0 0/\q=is.getD t 0/\r=is.getD 1 0)\/(0<Zo l (is.getD 0 0) (is.getD 1 0) (is.getD t 0)/\p=is.getD 0 0/\q=is.getD 1 0/\r=is.getD t 0)
section
variable {l:List Pt} {is:List Nat} {t p q r:Nat}
theorem Z05 (h:Zj7 l is t):∃ p q r,Base l is t p q r:=by
 rcases Int.lt_or_le (Zo l (is.getD 0 0) (is.getD 1 0) (is.getD t 0)) 0 with k|k
 ·exact⟨_,_,_,h,.inl ⟨k,rfl,rfl,rfl⟩⟩
 ·exact⟨_,_,_,h,.inr ⟨by have:=h.2.2.1;omega,rfl,rfl,rfl⟩⟩
theorem Base.mems (B:Base l is t p q r):p∈is/\q∈is/\r∈is:=by
 obtain⟨O,J,_⟩:=B.off;have D:=Xu (is:=is) (show 0<is.length by omega);have I:=Xu (is:=is) (show 1<is.length by omega);have e:=Xu J;rcases B.pqr with ⟨_,rfl,rfl,rfl⟩|⟨_,rfl,rfl,rfl⟩
 ·exact⟨D,e,I⟩
 ·exact⟨D,I,e⟩
theorem Base.sd (B:Base l is t p q r):0<sd (Za l p) (Za l q) (Za l r):=by
 rcases B.pqr with ⟨h,rfl,rfl,rfl⟩|⟨h,rfl,rfl,rfl⟩
 ·rw[Zj6] at h;have e:Go.Proofs.YtgpapegpdfonpaaGreatDoor.sd (Za l (is.getD 0 0)) (Za l (is.getD t 0)) (Za l (is.getD 1 0))= - Go.Proofs.YtgpapegpdfonpaaGreatDoor.sd (Za l (is.getD 0 0)) (Za l (is.getD 1 0)) (Za l (is.getD t 0)):=by unfold Go.Proofs.YtgpapegpdfonpaaGreatDoor.sd;grind
  rw[e];rcases Int.lt_or_le (Go.Proofs.YtgpapegpdfonpaaGreatDoor.sd (Za l (is.getD 0 0)) (Za l (is.getD 1 0)) (Za l (is.getD t 0))) 0 with k|k
  ·omega
  ·rcases Int.lt_or_le 0 (Go.Proofs.YtgpapegpdfonpaaGreatDoor.sd (Za l (is.getD 0 0)) (Za l (is.getD 1 0)) (Za l (is.getD t 0))) with D|D
   ·rw[Zmx D] at h;omega
   ·rw[(Zdr _).2 (by omega)] at h;omega
 ·rw[Zj6] at h;exact (Zfq _).1 h
theorem Zrx (B:Base l is t p q r):∀ k,k<=is.length->∀ i:Int,i∈sAt is t p q r k↔((i=p\/i=q\/i=r)\/∃ j,2<=j/\j<k/\j≠t/\i=(is.getD j 0:Nat)):=by
 intro k;induction k with
 | zero=>intro _ i;simp[sAt]
 | succ k O=>
  intro Z i;have O:=O (by omega) i;unfold sAt;split
  ·rename_i h;rw[O];constructor
   ·rintro (D|⟨j,D,Y,J,I⟩)
    ·exact .inl D
    ·exact .inr ⟨j,D,by omega,J,I⟩
   ·rintro (D|⟨j,D,Y,J,I⟩)
    ·exact .inl D
    ·exact .inr ⟨j,D,by omega,J,I⟩
  ·rename_i h;rw[List.mem_cons,O];constructor
   ·rintro (D|D|⟨j,D,Y,J,I⟩)
    ·exact .inr ⟨k,by omega,by omega,by omega,D⟩
    ·exact .inl D
    ·exact .inr ⟨j,D,by omega,J,I⟩
   ·rintro (D|⟨j,D,Y,J,I⟩)
    ·exact .inr (.inl D)
    ·by_cases e:j=k
     ·subst e;exact .inl I
     ·exact .inr (.inr ⟨j,D,by omega,J,I⟩)
theorem Zdu (I:is.Nodup){i j:Nat}(hi:i<is.length)(D:j<is.length)(e:is.getD i 0=is.getD j 0):i=j:=by
 have J:is[i]=is[j]:=by simpa [hi,D] using e
 exact Zhm I hi D J
theorem Zry (B:Base l is t p q r)(D:is.Nodup){k:Nat}(I:k<is.length)(O:¬ (k<2\/k=t)):((is.getD k 0:Nat):Int) ∉ sAt is t p q r k:=by
 rw[Zrx B k (by omega)];obtain⟨t2,tl,_⟩:=B.off;rintro (h|⟨j,h1,h3,Z,Y⟩)
 ·have J:(is.getD k 0=is.getD 0 0\/is.getD k 0=is.getD 1 0\/is.getD k 0=is.getD t 0):=by
   rcases B.pqr with ⟨_,rfl,rfl,rfl⟩|⟨_,rfl,rfl,rfl⟩ <;> omega
  rcases J with e|e|e
  ·have:=Zdu D I (by omega) e;omega
  ·have:=Zdu D I (by omega) e;omega
  ·have:=Zdu D I tl e;omega
 ·have:=Zdu D I (by omega) (by omega:is.getD k 0=is.getD j 0);omega
theorem Zka (hio:InOrder l is)(hnd:l.Nodup)(hn:Zv l)(B:Base l is t p q r):∀ k,k<=is.length->NetOf (pOf l) (sAt is t p q r k) p q r (Xi l is t p q r k)/\(sAt is t p q r k).Nodup/\(∀ i∈sAt is t p q r k,0<=i/\i<l.length):=by
 have J:∀ m,m<l.length->Yo (pOf l m):=fun m hm=>by obtain⟨a1,a2,a3,a4⟩:=hn m hm;exact⟨a1,a2,a3,a4⟩
 have lt:=hio.lt;obtain⟨mp,mq,mr⟩:=B.mems;have hin:is.Nodup:=hio.nodup;intro k;induction k with
 | zero=>
  intro _;have N:=NetOf.start (P:=pOf l) (a:=p) (b:=q) (c:=r) (by omega) (by omega) (by omega) B.sd (J _ (lt _ mp)) (J _ (lt _ mq)) (J _ (lt _ mr));refine⟨N,?_,?_⟩
  ·have h1:(p:Int)≠q:=fun e=>by have:=B.sd;have I:p=q:=(by omega);subst I;unfold Go.Proofs.YtgpapegpdfonpaaGreatDoor.sd at this;grind
   have D:(p:Int)≠r:=fun e=>by have:=B.sd;have I:p=r:=(by omega);subst I;unfold Go.Proofs.YtgpapegpdfonpaaGreatDoor.sd at this;grind
   have h3:(q:Int)≠r:=fun e=>by have:=B.sd;have I:q=r:=(by omega);subst I;unfold Go.Proofs.YtgpapegpdfonpaaGreatDoor.sd at this;grind
   simp[sAt,h1,D,h3]
  ·intro i hi;have:=lt _ mp;have:=lt _ mq;have:=lt _ mr;simp[sAt] at hi;omega
 | succ k ih=>
  intro hk;obtain⟨N,hns,hr⟩:=ih (by omega);by_cases D:k<2\/k=t
  ·have Z:sAt is t p q r (k+1)=sAt is t p q r k:=if_pos D;have Y:Xi l is t p q r (k+1)=Xi l is t p q r k:=if_pos D;rw[Z,Y];exact⟨N,hns,hr⟩
  ·have O:=Zry B hin (by omega) D;have hkl:=lt _ (Xu (is:=is) (show k<is.length by omega));have Z:sAt is t p q r (k+1)=((is.getD k 0:Nat):Int) :: sAt is t p q r k:=if_neg D;have Y:Xi l is t p q r (k+1)=Zbr (VV (pOf l) p q r) (Xi l is t p q r k) (is.getD k 0:Nat):=if_neg D;rw[Z,Y];refine⟨N.add O (by omega) (J _ hkl) ?_,List.nodup_cons.2 ⟨O,hns⟩,?_⟩
   ·intro i hi e;have hi':=hr i hi;have:i.toNat=is.getD k 0:=Zbk hnd (by omega) hkl e;exact O (by rw[<-this];rw[Int.toNat_of_nonneg hi'.1];exact hi)
   ·intro i hi;rcases List.mem_cons.1 hi with rfl|hi
    ·omega
    ·exact hr i hi
theorem Zrz (J:InOrder l is)(B:Base l is t p q r)(i:Int):i∈sAt is t p q r is.length↔0<=i/\i<l.length:=by
 rw[Zrx B _ (Nat.le_refl _)];obtain⟨mp,mq,O⟩:=B.mems;have lt:=J.lt;obtain⟨t2,tl,_⟩:=B.off;constructor
 ·rintro (h|⟨j,h1,D,h3,h4⟩)
  ·have:=lt _ mp;have:=lt _ mq;have:=lt _ O;omega
  ·have:=lt _ (Xu D);omega
 ·rintro⟨h1,D⟩;have Y:i.toNat∈is:=J.perm.mem_iff.2 (List.mem_range.2 (by omega));obtain⟨j,I,e⟩:=List.getElem_of_mem Y;have Z:i=(is.getD j 0:Nat):=by simp[I,e];omega
  by_cases k:2<=j/\j≠t
  ·exact .inr ⟨j,k.1,I,k.2,Z⟩
  ·left;have hp:(is.getD j 0=is.getD 0 0\/is.getD j 0=is.getD 1 0\/is.getD j 0=is.getD t 0):=by
    have:j=0\/j=1\/j=t:=by omega
    rcases this with rfl|rfl|rfl
    ·exact .inl rfl
    ·exact .inr (.inl rfl)
    ·exact .inr (.inr rfl)
   rcases B.pqr with ⟨_,rfl,rfl,rfl⟩|⟨_,rfl,rfl,rfl⟩ <;> omega
end
def Xr (l:List Pt)(ts:List T3):Prop:=∃ is,InOrder l is/\((Zj8 l is/\ts=[])\/∃ t p q r,Base l is t p q r/\(∀ x y z,(x,y,z)∈ts↔Xi l is t p q r is.length x y z/\0<=x/\x<y/\x<z)/\ts.Pairwise Y8)
theorem Zr0:∀ {l m:List T3},l.Pairwise Y8->m.Pairwise Y8->(∀ x,x∈l↔x∈m)->l=m
 | [],[],_,_,_=>rfl
 | [],b :: m,_,_,h=>by have:=(h b).2 (by simp);simp at this
 | a :: l,[],_,_,h=>by have:=(h a).1 (by simp);simp at this
 | a :: l,b :: m,hl,hm,h=>by
  have O:=List.pairwise_cons.1 hl;have I:=List.pairwise_cons.1 hm;have Z:a=b:=by
   have Y:a∈b :: m:=(h a).1 (by simp);have J:b∈a :: l:=(h b).2 (by simp);rcases List.mem_cons.1 Y with e|Y
   ·exact e
   ·rcases List.mem_cons.1 J with e|J
    ·exact e.symm
    ·exact absurd (Zrt (O.1 b J) (I.1 a Y)) (Zgr _)
  subst Z
  have : l = m := Zr0 O.2 I.2 (fun x => by
    constructor
    · intro D
      rcases List.mem_cons.1 ((h x).1 (by simp [D])) with e | e
      · subst e; exact absurd (O.1 x D) (Zgr _)
      · exact e
    · intro D
      rcases List.mem_cons.1 ((h x).2 (by simp [D])) with e | e
      · subst e; exact absurd (I.1 x D) (Zgr _)
      · exact e)
  rw[this]
theorem Z06 {l:List Pt}{is D:List Nat}(J:l.Nodup)(h:InOrder l is)(I:InOrder l D):is=D:=by
 have e:is.map (Za l)=D.map (Za l):=Zp5 (h.ordered_of J) (I.ordered_of J) (h.pts.trans I.pts.symm);apply List.ext_getElem
 ·rw[h.len,I.len]
 ·intro i Y O;have:(is.map (Za l))[i]'(by simpa using Y)=(D.map (Za l))[i]'(by simpa using O):=by simp only[e]
  simp only[List.getElem_map] at this;exact Zbk J (h.lt _ (List.getElem_mem Y)) (I.lt _ (List.getElem_mem O)) this
theorem Xr.unique {l:List Pt}(J:l.Nodup){ts I:List T3}(h:Xr l ts)(k:Xr l I):ts=I:=by
 obtain⟨is,hio,h⟩:=h;obtain⟨is',Y,k⟩:=k;have e:=Z06 J hio Y;subst e;rcases h with ⟨h1,rfl⟩|⟨t,p,q,r,B,hm,hp⟩ <;> rcases k with ⟨k1,rfl⟩|⟨t',p',q',r',D,km,Z⟩
 ·rfl
 ·exact absurd (h1 t' D.off.1 D.off.2.1) D.off.2.2.1
 ·exact absurd (k1 t B.off.1 B.off.2.1) B.off.2.2.1
 ·have et:t=t':=by
   rcases Nat.lt_trichotomy t t' with h|h|h
   ·exact absurd (D.off.2.2.2 t B.off.1 h) B.off.2.2.1
   ·exact h
   ·exact absurd (B.off.2.2.2 t' D.off.1 h) D.off.2.2.1
  subst et;have O:p=p'/\q=q'/\r=r':=by
   rcases B.pqr with ⟨c,rfl,rfl,rfl⟩|⟨c,rfl,rfl,rfl⟩ <;> rcases D.pqr with ⟨c',rfl,rfl,rfl⟩|⟨c',rfl,rfl,rfl⟩ <;> first|exact⟨rfl,rfl,rfl⟩|(exfalso;omega)
  obtain⟨rfl,rfl,rfl⟩:=O;exact Zr0 hp Z (fun ⟨x,y,z⟩=>(hm x y z).trans (km x y z).symm)
end Go.Proofs.YtgpapegpdfonpaaGreatDoor
namespace Go.Proofs.YtgpapegpdfonpaaGreatDoor
open Go.RowKit Go.Maps Go.Proofs.Tryz
open Go.Value(int)
open Go.IntKind(i64)
theorem Z07 (B g D:Nat)(w:World):Calls prog 67 #[.slice (some ⟨g,0,none⟩) 0 D,Zaw B] w fun e w'=>e= .returned (iv (-1))/\RowKit.Below w.heap.size w w':=by
 go_enter func67,ntmps67;go_wp2
 refine wp_loop_rounds 1 ?_;rw[rounds_succ];go_wp2
 go_ret;exact⟨rfl,Zb _ _⟩
theorem Zr1 (B g D:Nat)(w:World):Calls prog 27 #[.slice (some ⟨g,0,none⟩) 0 D,Zaw B] w fun e w'=>e= .returned (.slice none 0 0)/\RowKit.Below w.heap.size w w':=by
 go_enter func27,ntmps27;go_wp2_with (go_at_call 67;refine (Z07 _ _ _ _).mono ?_;rintro e J ⟨rfl,I⟩)
 go_ret;exact⟨rfl,(Zb _ _).trans (I.mono (by simp))⟩
theorem Zm4 {w:World}{a b n D:Nat}{e:TypeId}{xs:List Value}{v:Value}(h:w.ownsRow a e D v n xs)(J:b<=a):w.ownsRow b e D v n xs:=by
 obtain⟨Y,h⟩:=h;refine⟨Y,?_⟩;rcases h with h|⟨g,cap,Z,O,I,r⟩
 ·exact .inl h
 ·exact .inr ⟨g,cap,Z,O,Nat.le_trans J I,r⟩
theorem Z08 {D w w':World}{A H:Nat}(e:RowKit.Below D.heap.size D w)(g:G2 w w' A H)(I:D.heap.size<=A)(J:D.heap.size<=H):RowKit.Below D.heap.size D w':=
 ⟨g.os.trans e.os,g.tape.trans e.tape,g.output.trans e.output,Nat.le_trans e.size g.size,fun i hi=>(g.block i (L3 hi e.size) (by omega) (by omega)).trans (e.block i hi)⟩
theorem Zm5 (B b off cap g ocap:Nat) (l:List Pt) (is:List Nat) (w:World) (hl:l.length<=60) (hio:InOrder l is) (hnd:l.Nodup) (A0:AskAt w B b off cap l) (hn:Zv l)
  (hg:g<w.heap.size) (his:Xc w g 0 is) :
  Calls prog 27 #[.slice (some ⟨g,0,none⟩) is.length ocap,Zaw B] w fun e w'=>
   ∃ v ts,e= .returned v/\w'.ownsRow w.heap.size 53 3 v ts.length (Zj ts)/\Xr l ts/\ts.length<=4000/\RowKit.Below w.heap.size w w':=by
 have hlen:is.length<=60:=by rw[hio.len];exact hl
 have hi:=hio.lt;have hb1:=Zb w (.cells #[.func (.func 34) #[] #[.pointer (some ⟨B,0,none⟩)],.func (.func 36) #[] #[.pointer (some ⟨B,0,none⟩)]] 60);have k0:(w.alloc (.cells #[.func (.func 34) #[] #[.pointer (some ⟨B,0,none⟩)],.func (.func 36) #[] #[.pointer (some ⟨B,0,none⟩)]] 60)).cell? ⟨w.heap.size,0,none⟩=some (.func (.func 34) #[] #[.pointer (some ⟨B,0,none⟩)]):=by rw[World.cell?_alloc_at _ _ _ _ rfl];rfl
 have k1:(w.alloc (.cells #[.func (.func 34) #[] #[.pointer (some ⟨B,0,none⟩)],.func (.func 36) #[] #[.pointer (some ⟨B,0,none⟩)]] 60)).cell? ⟨w.heap.size,1,none⟩=some (.func (.func 36) #[] #[.pointer (some ⟨B,0,none⟩)]):=by rw[World.cell?_alloc_at _ _ _ _ rfl];rfl
 have A1:=A0.below hb1 (Nat.le_refl _);have his1:=his.below hb1 hg;have hg1:g<(w.alloc (.cells #[.func (.func 34) #[] #[.pointer (some ⟨B,0,none⟩)],.func (.func 36) #[] #[.pointer (some ⟨B,0,none⟩)]] 60)).heap.size:=by simp;omega
 have hoff:=Z0k B b off cap g ocap l is _ hl hi hlen A1 hn hg1 his1;have hoff2:Calls prog 67 #[.slice (some ⟨g,0,none⟩) is.length ocap,Zaw B] (w.alloc (.cells #[.func (.func 34) #[] #[.pointer (some ⟨B,0,none⟩)],.func (.func 36) #[] #[.pointer (some ⟨B,0,none⟩)]] 60)) fun e w'=>
   ∃ r:Int,e= .returned (int i64 r)/\((∃ t:Nat,r=t/\Zj7 l is t)\/(r= -1/\Zj8 l is))/\RowKit.Below w.heap.size w w'/\w'.cell? ⟨w.heap.size,0,none⟩=some (.func (.func 34) #[] #[.pointer (some ⟨B,0,none⟩)])/\w'.cell? ⟨w.heap.size,1,none⟩=some (.func (.func 36) #[] #[.pointer (some ⟨B,0,none⟩)]):=by
  refine hoff.mono (fun e w' h=>?_);have r1:=hb1.trans (h.2.mono hb1.size);have r2:=(h.2.cell (p:=⟨w.heap.size,0,none⟩) (by simp)).trans k0;have r3:=(h.2.cell (p:=⟨w.heap.size,1,none⟩) (by simp)).trans k1;rcases h.1 with ⟨t,he,ht⟩|⟨he,ht⟩
  ·exact⟨t,he,.inl ⟨t,rfl,ht⟩,r1,r2,r3⟩
  ·exact⟨-1,he,.inr ⟨rfl,ht⟩,r1,r2,r3⟩
 clear hoff k0 k1 A1 his1 hg1 hb1;go_enter func27,ntmps27;go_upto_region 2 with (go_at_call 67;refine hoff2.mono ?_;rintro e Z ⟨rr,rfl,hr,J,q0,q1⟩);clear hoff2;rcases hr with ⟨t,rfl,hfo⟩|⟨rfl,hall⟩
 ·obtain⟨p,q,r,BS⟩:=Z05 hfo;obtain⟨t2,tl,_,_⟩:=hfo;obtain⟨mp,mq,mr⟩:=BS.mems;have A2:=A0.below J (Nat.le_refl _);have m0:=hi _ (Xu (is:=is) (show 0<is.length by omega));have m1:=hi _ (Xu (is:=is) (show 1<is.length by omega));have mt:=hi _ (Xu tl);have FN:=Z0m B b off cap l (is.getD 0 0) (is.getD 1 0) (is.getD t 0) Z.drew hl m0 m1 mt A2.drew hn p q r (hi _ mp) (hi _ mq) (hi _ mr) BS.sd BS.pqr;have NA:=Zka hio hnd hn BS;have c0:Z.cell? ⟨g,0,none⟩=some (int i64 (is.getD 0 0:Nat)):=by rw[J.cell (p:=⟨g,0,none⟩) hg];simpa using his 0 (by omega)
  have c1:Z.cell? ⟨g,1,none⟩=some (int i64 (is.getD 1 0:Nat)):=by rw[J.cell (p:=⟨g,1,none⟩) hg];simpa using his 1 (by omega)
  have ct:Z.cell? ⟨g,t,none⟩=some (int i64 (is.getD t 0:Nat)):=by rw[J.cell (p:=⟨g,t,none⟩) hg];simpa using his t tl
  have HNA:Hid (∀ k,k<=is.length->NetOf (pOf l) (sAt is t p q r k) p q r (Xi l is t p q r k)/\(sAt is t p q r k).Nodup/\(∀ i∈sAt is t p q r k,0<=i/\i<l.length)):=NA;have HBS:Hid (Base l is t p q r):=BS;clear NA BS mp mq mr m0 m1 mt;generalize is.getD 0 0=i0 at c0 FN;generalize is.getD 1 0=i1 at c1 FN;generalize is.getD t 0=it at ct FN;have p0:0<is.length:=by omega
  have p1:(0:Int)<(is.length:Int):=by omega
  have p2:(1:Int)<(is.length:Int):=by omega
  have p3:(t:Int)<(is.length:Int):=by omega
  have p4:(0:Int)<=(t:Int):=by omega
  have hk:∀ w',RowKit.Below Z.drew.heap.size Z.drew w'->w'.cell? ⟨w.heap.size,0,none⟩=some (.func (.func 34) #[] #[.pointer (some ⟨B,0,none⟩)])/\w'.cell? ⟨w.heap.size,1,none⟩=some (.func (.func 36) #[] #[.pointer (some ⟨B,0,none⟩)])/\w'.cell? ⟨g,0,none⟩=some (int i64 i0)/\w'.cell? ⟨g,1,none⟩=some (int i64 i1)/\w'.cell? ⟨g,t,none⟩=some (int i64 it):=fun w' h=>
   ⟨(h.cell (p:=⟨w.heap.size,0,none⟩) (Yn q0)).trans q0,(h.cell (p:=⟨w.heap.size,1,none⟩) (Yn q1)).trans q1,(h.cell (p:=⟨g,0,none⟩) (Yn c0)).trans c0,(h.cell (p:=⟨g,1,none⟩) (Yn c1)).trans c1,(h.cell (p:=⟨g,t,none⟩) (Yn ct)).trans ct⟩
  go_wp2_with fail
  go_region_held3 (fun w'=>w'.cell? ⟨w.heap.size,0,none⟩=some (.func (.func 34) #[] #[.pointer (some ⟨B,0,none⟩)])/\w'.cell? ⟨w.heap.size,1,none⟩=some (.func (.func 36) #[] #[.pointer (some ⟨B,0,none⟩)])/\w'.cell? ⟨g,0,none⟩=some (int i64 i0)/\w'.cell? ⟨g,1,none⟩=some (int i64 i1)/\w'.cell? ⟨g,t,none⟩=some (int i64 it)) (first|exact⟨q0,q1,c0,c1,ct⟩|exact hk _ hb3)
   (first|(go_at_call 68;refine FN.mono ?_;rintro e w' ⟨N,Am,H,rfl,sN,sA,sH,nNA,nNH,nAH,hNet,aa,hmH,hb3⟩))
  go_wp2
  have D:RowKit.Below w.heap.size w w':=J.trans ((Zi2 hb3).mono J.size);have hs4:=J.size;have sA':w.heap.size<=Am:=Nat.le_trans hs4 sA;have sH':w.heap.size<=H:=Nat.le_trans hs4 sH;have Y:AddAt w' N B Am H b off cap l:=⟨hNet,A2.below (Zi2 hb3) (Nat.le_refl _),nNA,nNH,by have:=A0.hB;omega,by have:=A0.hB;omega,by have:=A0.hb;omega,by have:=A0.hb;omega,nAH⟩;clear hk q0 q1 c0 c1 ct FN hb3 hNet;go_loopw [7] (fun i wr=>∃ k n m g',2<=k/\k<=is.length/\i=int i64 (k:Nat)/\n<=4000/\Zi prog 165 wr Am n (fOf (Xi l is t p q r k))/\Zi prog 165 wr H m g'/\AddAt wr N B Am H b off cap l/\RowKit.Below w.heap.size w wr)
   (fun i _=>100-(intOf i).toNat)
  case atStart=>exact⟨2,12,0,_,by omega,by omega,rfl,by omega,aa,hmH,Y,D⟩
  case round=>
   clear aa hmH Y D;obtain⟨k,n,m,g',hk2,hkl,rfl,hn4,aa,hmH,Y,D⟩:=hrel;by_cases hlt:k<is.length
   ·have hck:wr.cell? ⟨g,k,none⟩=some (int i64 (is.getD k 0:Nat)):=by rw[D.cell (p:=⟨g,k,none⟩) hg];simpa using his k hlt
    by_cases hkt:k=t
    ·have hT:Xi l is t p q r (k+1)=Xi l is t p q r k:=if_pos (.inr hkt);have HT:Hid (Xi l is t p q r (k+1)=Xi l is t p q r k):=hT;clear hT hck;subst hkt;go_wp2
     go_roundw;case rel=>exact⟨k+1,n,m,g',by omega,by omega,by go_num,hn4,by rw[HT.out];exact aa,hmH,Y,D⟩
     case measure=>simp[intOf];omega
    ·have hT:Xi l is t p q r (k+1)=Zbr (VV (pOf l) p q r) (Xi l is t p q r k) (is.getD k 0:Nat):=if_neg (by omega);obtain⟨I,hns,O⟩:=HNA.out k (by omega);have hnew:=Zry HBS.out hio.nodup hlt (by omega);have hkn:=hi _ (Xu hlt);have hkn':Yo (Za l (is.getD k 0)):=by obtain⟨a1,a2,a3,a4⟩:=hn _ hkn;exact⟨a1,a2,a3,a4⟩
     have hSl:(sAt is t p q r k).length<=60:=by
      have := Zhs (sAt is t p q r k) ((List.range l.length).map (fun n : Nat => (n : Int))) hns (fun i hi => by
        have := O i hi
        exact List.mem_map.2 ⟨i.toNat, List.mem_range.2 (by omega), by omega⟩)
      simp at this;omega
     have hadd := Z0j I O hSl N B Am H b off cap n m g' (is.getD k 0) wr hkn hnew hkn' (fun i hi e => by
       have hi' := O i hi
       have : i.toNat = is.getD k 0 := Zbk hnd (by omega) hkn e
       exact hnew (by rw [← this]; rw [Int.toNat_of_nonneg hi'.1]; exact hi)) hl hn Y aa hmH (by omega)
     have HT:Hid (Xi l is t p q r (k+1)=Zbr (VV (pOf l) p q r) (Xi l is t p q r k) (is.getD k 0:Nat)):=hT;clear hT I hns O hnew hkn hkn' hSl;generalize hKK:Zbr (VV (pOf l) p q r) (Xi l is t p q r k) (is.getD k 0:Nat)=TK at hadd;have HKK:Hid (Zbr (VV (pOf l) p q r) (Xi l is t p q r k) (is.getD k 0:Nat)=TK):=hKK;clear hKK;generalize is.getD k 0=ik at hck hadd;go_wp2_with (go_at_call 69;refine hadd.mono ?_;rintro e w5 ⟨rfl,hm5,⟨m5,g5,hh5⟩,G5⟩)
     go_roundw;case rel=>exact⟨k+1,4000,m5,g5,by omega,by omega,by go_num,by omega,by rw[HT.out,HKK.out];exact hm5,hh5,Y.g2 G5,Z08 D G5 sA' sH'⟩
     case measure=>simp[intOf];omega
   ·have hke:k=is.length:=by omega
    obtain⟨I,hns,O⟩:=HNA.out k (by omega)
    have htr := Z04 N B Am H n (Xi l is t p q r k) wr I.fnT (fun h => I.rot h) (fun h => I.ne12 h) (fun h => by
        rcases I.lab h with e | e
        · exact Zcy (by omega) (by omega)
        · have := O _ e; exact Zcy (by omega) (by omega)) (fun h => by
        rcases I.lab h with e | e
        · omega
        · have := O _ e; omega) Y.net aa hn4
    have HKE:Hid (k=is.length):=hke;clear hke I hns O;go_wp2_with (go_at_call 70;refine htr.mono ?_;rintro e w5 ⟨v,ts,rfl,hown5,hmem5,hsort5,hlen5,hb5⟩)
    go_ret;refine⟨v,ts,rfl,Zm4 hown5 D.size,⟨is,hio,.inr ⟨t,p,q,r,HBS.out,?_,hsort5⟩⟩,hlen5,D.trans (hb5.mono D.size)⟩;rw[<-HKE.out];exact hmem5
 ·go_wp2
  go_ret;exact⟨_,[],rfl,World.ownsRow_nil _ _ _ _,⟨is,hio,.inl ⟨hall,rfl⟩⟩,by simp,J⟩
end Go.Proofs.YtgpapegpdfonpaaGreatDoor
namespace Go.Proofs.YtgpapegpdfonpaaGreatDoor
open Go.RowKit Go.Maps Go.Proofs.Tryz
theorem Z09 (a:Option Addr)(n cap:Nat)(w:World)(h:60<n) :
  Calls prog 12 #[.slice a n cap] w fun e w'=>e= .returned (.tuple #[.slice none 0 0,.int .i64 2])/\RowKit.Below w.heap.size w w':=by
 go_enter func12,ntmps12;go_wp2_with (go_at_call 26;refine (Zpt a n cap _ h).mono ?_;rintro e D ⟨rfl,rfl⟩)
 go_ret2;exact⟨rfl,RowKit.Below.refl _ _⟩
theorem Z1a (b D cap:Nat)(l:List Pt)(n:Nat)(w:World)(J:l.length=n+1)(Z:l.length<=60)(O:b<w.heap.size)(hp:Zp w b D l)(I:Zw l≠0) :
  Calls prog 12 #[.slice (some ⟨b,D,none⟩) l.length cap] w fun e w'=>e= .returned (.tuple #[.slice none 0 0,.int .i64 (Zw l)])/\RowKit.Below w.heap.size w w':=by
 have HF:=Zi4 b D cap l n w J Z O hp;have hf':(Zw l != 0)=true:=by simpa using I
 clear J I;generalize Zw l=f at *
 go_enter func12,ntmps12;go_wp2_with (go_at_call 26;refine HF.mono ?_;rintro e w1 ⟨rfl,Y⟩)
 go_ret2;exact⟨rfl,Y⟩
theorem Z1b (b D cap:Nat)(l:List Pt)(n:Nat)(w:World)(hn:l.length=n+1)(J:b<w.heap.size)(hp:Zp w b D l)(hf:Zw l=0) :
  Calls prog 12 #[.slice (some ⟨b,D,none⟩) l.length cap] w fun e w'=>
   ∃ v ts,e= .returned (.tuple #[v,.int .i64 0])/\w'.ownsRow w.heap.size 53 3 v ts.length (Zj ts)/\Xr l ts/\ts.length<=4000/\RowKit.Below w.heap.size w w':=by
 obtain⟨Z,hfar,hnd⟩:=Zf7 hf;have hnear:=Zhh hfar;have HF:=Zi4 b D cap l n w hn Z J hp;rw[hf] at HF;have HO:=fun W (hb':b<W.heap.size) (hp':Zp W b D l)=>Zhf b D cap l n W hn Z hb' hp'
 have HC:∀ B g is W,InOrder l is->AskAt W B b D cap l->g<W.heap.size->Xc W g 0 is->Calls prog 27 #[.slice (some ⟨g,0,none⟩) l.length l.length,Zaw B] W _:=fun B g is W Y A hg his=>by
  have:=Zm5 B b D cap g l.length l is W Z Y hnd A hnear hg his;rw[Y.len] at this;exact this
 clear hn hf hfar;go_enter func12,ntmps12
 go_wp2_with (first
   | (go_at_call 26; refine HF.mono ?_; rintro e w1 ⟨rfl, I⟩)
   | (go_at_call 28; refine (HO _ (L3 J I.size) (hp.below I J)).mono ?_; rintro e w2 ⟨g, is, rfl, hg, hgs, hb2, hns, hfz, Y⟩)
   | (go_at_call 17; refine (Zc2 _ _ _ _).mono ?_; rintro e w3 ⟨B, hB1, hB2, hcB, rfl, aa⟩
      have O : RowKit.Below w.heap.size w w3 := (I.trans (hb2.mono I.size)).trans (aa.mono (I.trans (hb2.mono I.size)).size)
      have A : AskAt w3 B b D cap l := ⟨hB2, L3 J O.size, hcB, hp.below O J⟩
      have hns3 := hns.below aa hgs
      have hg3 : g < w3.heap.size := L3 hgs aa.size)
   | (go_at_call 27; refine (HC B g is _ Y A hg3 hns3).mono ?_; rintro e w4 ⟨v, ts, rfl, hown, hspec, hlen, hb4⟩))
 go_ret2;exact⟨v,ts,rfl,Zm4 hown O.size,hspec,hlen,O.trans (hb4.mono O.size)⟩
theorem Z1c (a:Option Addr)(cap:Nat)(w:World) :
  Calls prog 12 #[.slice a 0 cap] w fun e w'=>e= .returned (.tuple #[.slice none 0 0,.int .i64 0])/\RowKit.Below w.heap.size w w':=by
 go_enter func12,ntmps12
 go_wp2_with (first
   | (go_at_call 26; refine (Zpv a cap _).mono ?_; rintro e w1 ⟨rfl, D⟩)
   | (go_at_call 28; refine (Zi5 a cap _).mono ?_; rintro e w2 ⟨g, rfl, hg, Z, I⟩)
   | (go_at_call 17; refine (Zc2 _ _ _ _).mono ?_; rintro e w3 ⟨B, hB1, aa, hcB, rfl, Y⟩
      have J : RowKit.Below w.heap.size w w3 := (D.trans (I.mono D.size)).trans (Y.mono (D.trans (I.mono D.size)).size))
   | (go_at_call 27; refine (Zr1 B g _ _).mono ?_; rintro e w4 ⟨rfl, O⟩))
 go_ret2;exact⟨rfl,J.trans (O.mono J.size)⟩
end Go.Proofs.YtgpapegpdfonpaaGreatDoor
