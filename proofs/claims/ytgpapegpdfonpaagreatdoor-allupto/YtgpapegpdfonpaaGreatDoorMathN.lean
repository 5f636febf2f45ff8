/- Part. -/
import Derived.Test.YtgpapegpdfonpaaGreatDoorJoinHL
set_option linter.unusedVariables false
set_option linter.unusedSimpArgs false
set_option maxHeartbeats 16000000
set_option maxRecDepth 100000
namespace Go.Proofs.YtgpapegpdfonpaaGreatDoor
def Zl (t:T3)(i:Nat):Int:=if i=0 then t.1 else if i=1 then t.2.1 else t.2.2
def Ze0 (s t:T3):Bool:=(List.range 3).any fun i=>(List.range 3).any fun k=>Zl s i == Zl t k && Zl s ((i+1) % 3) == Zl t ((k+1) % 3)
def onB (l:List Pt)(h:Nat->Pt)(m k:Nat):Bool:=(List.range m).any fun i=>decide (sd (h i) (h ((i+1) % m)) (Za l k)=0)
def Zm6 (l:List Pt)(h:Nat->Pt)(m n:Nat):Nat:=((List.range n).filter (onB l h m)).length
structure FillOk (l:List Pt)(h:Nat->Pt)(m:Nat)(ts:List T3):Prop where
 nz:fan h m≠0
 cnt:ts.length+2+Zm6 l h m l.length=2*l.length
 tri:∀ t∈ts,(0<=t.1/\t.1<t.2.1/\t.1<t.2.2/\t.2.1<l.length/\t.2.2<l.length)/\0<sd (pOf l t.1) (pOf l t.2.1) (pOf l t.2.2)/\∀ d,d<l.length->cc (pOf l t.1) (pOf l t.2.1) (pOf l t.2.2) (Za l d)<=0
 alg:ts.Pairwise (fun s t=>Ze0 s t=false)
 srt:ts.Pairwise Y8
 used:∀ k:Nat,k<l.length->∃ t∈ts,t.1=k\/t.2.1=k\/t.2.2=k
 area:Zf (fun t:T3=>sd (pOf l t.1) (pOf l t.2.1) (pOf l t.2.2)) ts=fan h m
theorem Ze1 {A B u v q:Pt}(h:A≠B)(D:sd A B u=0)(I:sd A B v=0)(e:sd A B q=0):sd u v q=0:=by
 have f:=Zc8 A B u v q;rw[D,I,e] at f;simp only[Int.sub_self,Int.mul_zero,Int.zero_mul] at f;exact dz (Za9 h) f
theorem Zh1 (t:T3):Zl t 0=t.1:=rfl
theorem Zh2 (t:T3):Zl t 1=t.2.1:=rfl
theorem Zh3 (t:T3):Zl t 2=t.2.2:=rfl
theorem Z1d {Tr:Int->Int->Int->Prop} (rot:∀ {x y z},Tr x y z->Tr y z x) (fn:∀ {x y z w},Tr x y z->Tr x y w->z=w) {s t:T3} (Y:Tr s.1 s.2.1 s.2.2) (Z:Tr t.1 t.2.1 t.2.2)
  (a:s.1<s.2.1) (b:s.1<s.2.2) (a':t.1<t.2.1) (b':t.1<t.2.2) (O:Ze0 s t=true):s=t:=by
 obtain⟨x,y,z⟩:=s;obtain⟨x',y',z'⟩:=t;dsimp only at Y Z a b a' b'
 have s2:=rot Y;have s3:=rot s2;have t2:=rot Z;have t3:=rot t2;unfold Ze0 at O;rw[List.any_eq_true] at O;obtain⟨i,hi,O⟩:=O;rw[List.any_eq_true] at O;obtain⟨k,hk,O⟩:=O;have hi:=List.mem_range.1 hi;have hk:=List.mem_range.1 hk;rw[Bool.and_eq_true,beq_iff_eq,beq_iff_eq] at O;obtain⟨I,D⟩:=O;have fin:∀ {a b c a' b' c':Int},Tr a b c->Tr a' b' c'->a=a'->b=b'->c=c':=fun h h' e e'=>by subst e e';exact fn h h'
 have hi3:i=0\/i=1\/i=2:=by omega
 have hk3:k=0\/k=1\/k=2:=by omega
 rcases hi3 with rfl|rfl|rfl <;> rcases hk3 with rfl|rfl|rfl <;> simp only[Nat.zero_add,Nat.reduceAdd,Nat.reduceMod,Zh1,Zh2,Zh3] at I D
 ·have J:=fin Y Z I D;rw[I,D,J]
 ·have J:=fin Y t2 I D;omega
 ·have J:=fin Y t3 I D;omega
 ·have J:=fin s2 Z I D;omega
 ·have J:=fin s2 t2 I D;rw[I,D,J]
 ·have J:=fin s2 t3 I D;omega
 ·have J:=fin s3 Z I D;omega
 ·have J:=fin s3 t2 I D;omega
 ·have J:=fin s3 t3 I D;rw[I,D,J]
section
open Classical
theorem Zm7 {l:List Pt} {is c:List Nat} {t p q r:Nat} {ts:List T3} (hio:InOrder l is) (hnd:l.Nodup) (hn:Zv l) (A:Arr l c) (hcn:c.Nodup) (BS:Base l is t p q r)
  (hm:∀ x y z,(x,y,z)∈ts↔Xi l is t p q r is.length x y z/\0<=x/\x<y/\x<z) (hp:ts.Pairwise Y8):FillOk l (cp l c) c.length ts:=by
 obtain⟨N,hSn,hSr⟩:=Zka hio hnd hn BS is.length (Nat.le_refl _);have O:=Zrz hio BS;generalize sAt is t p q r is.length=S at *
 generalize Xi l is t p q r is.length=Tr at *
 have hbase:=N.base;have lt:=hio.lt;obtain⟨mp,mq,mr⟩:=BS.mems;have hl3:3<=is.length:=by have:=BS.off.1;have:=BS.off.2.1;omega
 have hl3':3<=l.length:=by rw[<-hio.len];exact hl3
 have hc2:1<c.length:=A.two (by omega);have cinj:∀ i j,i<c.length->j<c.length->cp l c i=cp l c j->i=j:=by
  intro i j hi hj e;have:=Zbk hnd (A.lt i hi) (A.lt j hj) e;exact Zdu hcn hi hj this
 have hc3:3<=c.length:=by
  rcases Nat.lt_or_ge 2 c.length with h|h
  ·exact h
  ·exfalso;have e2:c.length=2:=by omega
   have hne:cp l c 0≠cp l c 1:=fun e=>by have:=cinj 0 1 (by omega) (by omega) e;omega
   have z:∀ k,k<l.length->sd (cp l c 0) (cp l c 1) (Za l k)=0:=by
    intro k hk;have h0:=(A.edge hc2 0 (by omega) k hk).1;have I:=(A.edge hc2 1 (by omega) k hk).1;rw[e2] at h0 I;have e:sd (cp l c 1) (cp l c 0) (Za l k)= - sd (cp l c 0) (cp l c 1) (Za l k):=by unfold sd;grind
    simp only[Nat.zero_add,Nat.reduceAdd,Nat.reduceMod] at h0 I;omega
   have:=Ze1 hne (z _ (lt _ mp)) (z _ (lt _ mq)) (z _ (lt _ mr));have:=BS.sd;omega
 have Y:Poly (pOf l) S (cp l c) c.length:=by
  refine⟨hc3,?_,?_,fun i hi=>A.turn (by omega) i hi,cinj⟩
  ·intro i hi;have:=A.lt i hi;exact⟨(c.getD i 0:Nat),(O _).2 ⟨by omega,by omega⟩,rfl⟩
  ·intro i hi x hx;have hx':=(O x).1 hx;exact A.edge hc2 i hi x.toNat (by omega)
 have htn:ts.Nodup:=hp.imp (fun h e=>by subst e;exact Zgr _ h);generalize hGe:(Zae S).filter (fun q=>decide (Tr q.1 q.2 (-1)))=G;have hG:G.Nodup:=by rw[<-hGe];exact (Zgi hSn).filter _
 have hGm:∀ x y,(x,y)∈G↔Tr x y (-1):=by
  intro x y;rw[<-hGe,List.mem_filter,decide_eq_true_eq,Zd7];exact⟨fun h=>h.2,fun h=>⟨N.ghost_mem h,h⟩⟩
 have hcount:=N.count hSn ts htn hm G hG hGm;have hSl:S.length=l.length:=by
  have:S.length=(List.range l.length).length:=by
   refine Zcz Int.toNat hSn List.nodup_range ?_ ?_ ?_
   ·intro x hx y Z e;have:=(O x).1 hx;have:=(O y).1 Z;omega
   ·intro x hx;have:=(O x).1 hx;exact List.mem_range.2 (by omega)
   ·intro k hk;have:=List.mem_range.1 hk;exact⟨(k:Int),(O _).2 ⟨by omega,by omega⟩,by simp⟩
  simpa using this
 have hrim:G.length=Zm6 l (cp l c) c.length l.length:=by
  unfold Zm6;refine Zcz (fun q:Int×Int=>q.1.toNat) hG (List.nodup_range.filter _) ?_ ?_ ?_
  ·rintro⟨x,y⟩ h ⟨x',y'⟩ h' e;have k:=(hGm x y).1 h;have k':=(hGm x' y').1 h';have m1:=(O x).1 (N.ghost_mem k).1;have m2:=(O x').1 (N.ghost_mem k').1;dsimp only at e
   have ex:x=x':=by omega
   subst ex;rw[N.fn (N.rot (N.rot k)) (N.rot (N.rot k'))]
  ·rintro⟨x,y⟩ h;have k:=(hGm x y).1 h;have m1:=(N.ghost_mem k).1;have m1':=(O x).1 m1;obtain⟨i,hi,h0⟩:=(N.rim_iff Y m1).2 ⟨y,k⟩;rw[List.mem_filter];refine⟨List.mem_range.2 (by omega),?_⟩;unfold onB;rw[List.any_eq_true];exact⟨i,List.mem_range.2 hi,decide_eq_true h0⟩
  ·intro k hk;rw[List.mem_filter] at hk;have hkl:=List.mem_range.1 hk.1;have hk2:=hk.2;unfold onB at hk2;rw[List.any_eq_true] at hk2;obtain⟨i,hi,h0⟩:=hk2;have mk:(k:Int)∈S:=(O _).2 ⟨by omega,by omega⟩;obtain⟨y,Z⟩:=(N.rim_iff Y mk).1 ⟨i,List.mem_range.1 hi,of_decide_eq_true h0⟩;exact⟨((k:Int),y),(hGm _ _).2 Z,by simp⟩
 have htT:∀ t∈ts,Tr t.1 t.2.1 t.2.2/\t.1∈S/\t.2.1∈S/\t.2.2∈S/\0<=t.1/\t.1<t.2.1/\t.1<t.2.2:=by
  rintro⟨x,y,z⟩ h;obtain⟨I,D,h3,h4⟩:=(hm x y z).1 h;exact⟨I,N.mem I D,N.mem (N.rot I) (show 0<=y by omega),N.mem (N.rot (N.rot I)) (show 0<=z by omega),D,h3,h4⟩
 refine⟨?_,?_,?_,?_,hp,?_,?_⟩
 ·-- the corners have an area
  have e:=N.area_ts hSn ts htn hm G hG hGm;rw[N.area_G hSn Y G hG hGm] at e;rw[<-e];have hpos:∀ L:List T3,(∀ t∈L,t∈ts)->L≠ []->0<Zf (fun t:T3=>sd (pOf l t.1) (pOf l t.2.1) (pOf l t.2.2)) L:=by
   intro L;induction L with
   | nil=>intro _ h;exact absurd rfl h
   | cons a L ih=>
    intro h _;have ha:=htT a (h a (by simp));have I:=N.side ha.1 ha.2.1 ha.2.2.1 ha.2.2.2.1;simp only[Zf];by_cases hL:L=[]
    ·subst hL;simp only[Zf];omega
    ·have:=ih (fun t ht=>h t (by simp[ht])) hL;omega
  have hne:ts≠ []:=by
   intro e0;obtain⟨y,z,J⟩:=N.used N.ma;have hgh:∀ {x y z},Tr x y z->x∈S->y∈S->z∈S->False:=by
    intro x y z h hx Z hz;have t2:=N.rot h;have t3:=N.rot t2;obtain⟨n1,n2,n3⟩:=N.ne3 h;have x0:=N.nn x hx;have y0:=N.nn y Z;have z0:=N.nn z hz;have none:∀ a b c,¬ (Tr a b c/\0<=a/\a<b/\a<c):=fun a b c k=>by have:=(hm a b c).2 k;rw[e0] at this;simp at this
    rcases Int.lt_or_le x y with I|I
    ·rcases Int.lt_or_le x z with D|D
     ·exact none x y z ⟨h,x0,I,D⟩
     ·exact none z x y ⟨t3,z0,by omega,by omega⟩
    ·rcases Int.lt_or_le y z with D|D
     ·exact none y z x ⟨t2,y0,D,by omega⟩
     ·exact none z x y ⟨t3,z0,by omega,by omega⟩
   obtain⟨Z,hz⟩|h:(y∈S/\z∈S)\/(y= -1\/z= -1):=by
    rcases N.lab (N.rot J) with e|e
    ·exact .inr (.inl e)
    ·rcases N.lab (N.rot (N.rot J)) with e'|e'
     ·exact .inr (.inr e')
     ·exact .inl ⟨e,e'⟩
   ·exact hgh J N.ma Z hz
   ·rcases h with rfl|rfl
    ·have g:=N.rot (N.rot J);obtain⟨w,hw,hr⟩:=N.ghost_pair g;exact hgh hr (N.ghost_mem g).2 (N.ghost_mem g).1 hw
    ·obtain⟨w,hw,hr⟩:=N.ghost_pair J;exact hgh hr (N.ghost_mem J).2 (N.ghost_mem J).1 hw
  exact Int.ne_of_gt (hpos ts (fun t h=>h) hne)
 ·rw[hSl] at hcount;rw[<-hrim];omega
 ·intro t ht;obtain⟨I,D,h3,h4,h5,h6,h7⟩:=htT t ht;have a2:=(O _).1 h3;have a3:=(O _).1 h4;refine⟨⟨h5,h6,h7,a2.2,a3.2⟩,N.side I D h3 h4,fun d hd=>?_⟩;have hc:=N.circ I D h3 h4 ((O (d:Int)).2 ⟨by omega,by omega⟩);have ep:pOf l (d:Int)=Za l d:=by unfold pOf;rw[Int.toNat_natCast]
  rw[ep] at hc;exact hc
 ·-- no edge is gone along twice
  have key:∀ s∈ts,∀ t∈ts,Ze0 s t=true->s=t:=by
   intro s hs t ht hal;have S1:=htT _ hs;have T1:=htT _ ht;exact Z1d (Tr:=Tr) (s:=s) (t:=t) N.rot N.fn S1.1 T1.1 S1.2.2.2.2.2.1 S1.2.2.2.2.2.2 T1.2.2.2.2.2.1 T1.2.2.2.2.2.2 hal
  refine List.Pairwise.imp_of_mem ?_ hp;intro s t hs ht hlt;cases hal:Ze0 s t with
  | false=>rfl
  | true=>have:=key s hs t ht hal;subst this;exact absurd hlt (Zgr _)
 ·-- all points are corners
  intro k hk;have mk:(k:Int)∈S:=(O _).2 ⟨by omega,by omega⟩;have fin:∀ {x y z},Tr x y z->x∈S->y∈S->z∈S->(x=k\/y=k\/z=k)->∃ t∈ts,t.1=k\/t.2.1=k\/t.2.2=k:=by
   intro x y z h hx Z hz hk;have t2:=N.rot h;have t3:=N.rot t2;obtain⟨n1,n2,n3⟩:=N.ne3 h;have x0:=N.nn x hx;have y0:=N.nn y Z;have z0:=N.nn z hz;rcases Int.lt_or_le x y with I|I
   ·rcases Int.lt_or_le x z with D|D
    ·exact⟨(x,y,z),(hm _ _ _).2 ⟨h,x0,I,D⟩,hk⟩
    ·exact⟨(z,x,y),(hm _ _ _).2 ⟨t3,z0,by omega,by omega⟩,by dsimp only;omega⟩
   ·rcases Int.lt_or_le y z with D|D
    ·exact⟨(y,z,x),(hm _ _ _).2 ⟨t2,y0,D,by omega⟩,by dsimp only;omega⟩
    ·exact⟨(z,x,y),(hm _ _ _).2 ⟨t3,z0,by omega,by omega⟩,by dsimp only;omega⟩
  obtain⟨y,z,J⟩:=N.used mk;rcases N.lab (N.rot J) with e|Z
  ·subst e;have g:=N.rot (N.rot J);obtain⟨w,hw,hr⟩:=N.ghost_pair g;exact fin hr (N.ghost_mem g).2 (N.ghost_mem g).1 hw (.inl rfl)
  ·rcases N.lab (N.rot (N.rot J)) with e|hz
   ·subst e;obtain⟨w,hw,hr⟩:=N.ghost_pair J;exact fin hr (N.ghost_mem J).2 (N.ghost_mem J).1 hw (.inr (.inl rfl))
   ·exact fin J mk Z hz (.inl rfl)
 ·rw[N.area_ts hSn ts htn hm G hG hGm,N.area_G hSn Y G hG hGm]
end
def Zbb (l:List Pt)(a b:Nat):Prop:=a≠b/\∀ j,j<l.length->j≠a->j≠b->0<=sd (Za l a) (Za l b) (Za l j)/\(sd (Za l a) (Za l b) (Za l j)=0->0<=dt (Za l a) (Za l b) (Za l j))
def X3 (ts:List T3)(a b:Int):Prop:=∃ t∈ts,∃ k,k<3/\Zl t k=a/\Zl t ((k+1) % 3)=b
structure IsOk (l:List Pt)(ts:List T3):Prop where
 off:∃ i,2<=i/\i<l.length/\sd (Za l 0) (Za l 1) (Za l i)≠0
 tri:∀ t∈ts,(0<=t.1/\t.1<t.2.1/\t.1<t.2.2/\t.2.1<l.length/\t.2.2<l.length)/\0<sd (pOf l t.1) (pOf l t.2.1) (pOf l t.2.2)/\∀ d,d<l.length->cc (pOf l t.1) (pOf l t.2.1) (pOf l t.2.2) (Za l d)<=0
 alg:ts.Pairwise (fun s t=>Ze0 s t=false)
 srt:ts.Pairwise Y8
 uniq:∀ a b c,a<l.length->b<l.length->c<l.length->Zbb l a b->Zbb l a c->b=c
 rim:∀ a b:Nat,a<l.length->b<l.length->Zbb l a b->X3 ts a b/\¬ X3 ts b a
 mate:∀ a b:Nat,a<l.length->b<l.length->¬ Zbb l a b->¬ Zbb l b a->(X3 ts a b↔X3 ts b a)
theorem Zse {l:List Pt}{is:List Nat}(D:InOrder l is)(Z:l.Nodup)(hall:Zj8 l is)(hl:2<=l.length){a b c:Nat}(ha:a<l.length)(hb:b<l.length)(hc:c<l.length):sd (Za l a) (Za l b) (Za l c)=0:=by
 have hlen:=D.len;have h01:Za l (is.getD 0 0)≠Za l (is.getD 1 0):=fun e=>by
  have:=Zbk Z (D.lt _ (Xu (by omega))) (D.lt _ (Xu (by omega))) e;have:=Zdu D.nodup (show 0<is.length by omega) (show 1<is.length by omega) this;omega
 have I:∀ k,k<l.length->sd (Za l (is.getD 0 0)) (Za l (is.getD 1 0)) (Za l k)=0:=by
  intro k hk;have hm:k∈is:=D.perm.mem_iff.2 (List.mem_range.2 hk);obtain⟨j,Y,e⟩:=List.getElem_of_mem hm;have J:is.getD j 0=k:=by simp[Y,e]
  rcases Nat.lt_or_ge j 2 with O|O
  ·have:j=0\/j=1:=by omega
   rcases this with rfl|rfl
   ·rw[<-J];exact Yu _ _
   ·rw[<-J];exact Y0 _ _
  ·have:=hall j O Y;rw[J] at this;exact (Zdr _).1 this
 exact Ze1 h01 (I a ha) (I b hb) (I c hc)
theorem Zsf {l:List Pt} {is:List Nat} {t p q r:Nat} {ts:List T3} (Y:InOrder l is) (hnd:l.Nodup) (hn:Zv l) (Z:Base l is t p q r)
  (hm:∀ x y z,(x,y,z)∈ts↔Xi l is t p q r is.length x y z/\0<=x/\x<y/\x<z) (hp:ts.Pairwise Y8):IsOk l ts:=by
 have F:=Zm7 Y hnd hn (Zhl Y hnd) (Zjb Y hnd) Z hm hp;obtain⟨N,hSn,hSr⟩:=Zka Y hnd hn Z is.length (Nat.le_refl _);have hS:=Zrz Y Z;have hbs:=Z.sd;obtain⟨mp,mq,mr⟩:=Z.mems;have lp:=Y.lt _ mp;have lq:=Y.lt _ mq;have lr:=Y.lt _ mr;have hl3:3<=l.length:=by have:=Z.off.1;have:=Z.off.2.1;have:=Y.len;omega
 clear Z;generalize sAt is t p q r is.length=S at *
 generalize Xi l is t p q r is.length=Tr at *
 have pe:∀ k:Nat,pOf l (k:Int)=Za l k:=fun k=>by unfold pOf;rw[Int.toNat_natCast]
 have mS:∀ k:Nat,k<l.length->(k:Int)∈S:=fun k hk=>(hS _).2 ⟨by omega,by omega⟩
 have rimT:∀ a b:Nat,a<l.length->b<l.length->(Zbb l a b↔Tr b a (-1)):=by
  intro a b I J;constructor
  ·intro h;refine N.of_bnd ⟨mS a I,mS b J,by have:=h.1;omega,fun x hx=>?_⟩;have hx':=(hS x).1 hx;obtain⟨j,rfl⟩:∃ j:Nat,x=j:=⟨x.toNat,by omega⟩;rw[pe,pe,pe];by_cases O:j=a
   ·subst O;have e1:sd (Za l j) (Za l b) (Za l j)=0:=Yu _ _;have e2:dt (Za l j) (Za l b) (Za l j)=0:=by unfold dt;grind
    rw[e1,e2];exact⟨Int.le_refl _,fun _=>Int.le_refl _⟩
   ·by_cases D:j=b
    ·subst D;have e1:sd (Za l a) (Za l j) (Za l j)=0:=Y0 _ _;have e2:dt (Za l a) (Za l j) (Za l j)=0:=by unfold dt;grind
     rw[e1,e2];exact⟨Int.le_refl _,fun _=>Int.le_refl _⟩
    ·exact h.2 j (by omega) O D
  ·intro h;obtain⟨_,_,hne,hall⟩:=N.bnd_of h;refine⟨fun e=>hne (by rw[e]),fun j hj _ _=>?_⟩;have:=hall j (mS j hj);rw[pe,pe,pe] at this;exact this
 have goneT:∀ a b:Nat,a<l.length->b<l.length->(X3 ts a b↔∃ z,0<=z/\Tr a b z):=by
  intro a b I J;constructor
  ·rintro⟨⟨x,y,z⟩,ht,k,hk,e1,e2⟩;obtain⟨O,D,h3,h4⟩:=(hm x y z).1 ht;have hk3:k=0\/k=1\/k=2:=by omega
   rcases hk3 with rfl|rfl|rfl <;> simp only[Nat.zero_add,Nat.reduceAdd,Nat.reduceMod,Zh1,Zh2,Zh3] at e1 e2
   ·exact⟨z,by omega,by rw[<-e1,<-e2];exact O⟩
   ·exact⟨x,by omega,by rw[<-e1,<-e2];exact N.rot O⟩
   ·exact⟨y,by omega,by rw[<-e1,<-e2];exact N.rot (N.rot O)⟩
  ·rintro⟨z,hz,h⟩;have t2:=N.rot h;have t3:=N.rot t2;obtain⟨n1,n2,n3⟩:=N.ne3 h;rcases Int.lt_or_le (a:Int) (b:Int) with O|O
   ·rcases Int.lt_or_le (a:Int) z with D|D
    ·exact⟨(a,b,z),(hm _ _ _).2 ⟨h,by omega,O,D⟩,0,by omega,rfl,rfl⟩
    ·exact⟨(z,a,b),(hm _ _ _).2 ⟨t3,hz,by omega,by omega⟩,1,by omega,rfl,rfl⟩
   ·rcases Int.lt_or_le (b:Int) z with D|D
    ·exact⟨(b,z,a),(hm _ _ _).2 ⟨t2,by omega,D,by omega⟩,2,by omega,rfl,rfl⟩
    ·exact⟨(z,a,b),(hm _ _ _).2 ⟨t3,hz,by omega,by omega⟩,1,by omega,rfl,rfl⟩
 have back:∀ a b:Nat,a<l.length->b<l.length->¬ Zbb l a b->X3 ts a b->X3 ts b a:=by
  intro a b I J hr hg;obtain⟨z,hz,h⟩:=(goneT a b I J).1 hg;obtain⟨w,hw⟩:=N.pair h;refine (goneT b a J I).2 ⟨w,?_,hw⟩;rcases N.lab (N.rot (N.rot hw)) with e|e
  ·subst e;exact absurd ((rimT a b I J).2 hw) hr
  ·exact N.nn _ e
 refine⟨?_,F.tri,F.alg,F.srt,?_,?_,?_⟩
 ·refine Classical.byContradiction fun hno=>?_
  have on:∀ k,k<l.length->sd (Za l 0) (Za l 1) (Za l k)=0:=by
   intro k hk;refine Classical.byContradiction fun h=>?_
   rcases Nat.lt_or_ge k 2 with D|D
   ·have:k=0\/k=1:=by omega
    rcases this with rfl|rfl
    ·exact h (Yu _ _)
    ·exact h (Y0 _ _)
   ·exact hno ⟨k,D,hk,h⟩
  have h01:Za l 0≠Za l 1:=fun e=>by have:=Zbk hnd (show 0<l.length by omega) (show 1<l.length by omega) e;omega
  have:=Ze1 h01 (on _ lp) (on _ lq) (on _ lr);omega
 ·intro a b c I J hc O D;have k1:=N.rot ((rimT a b I J).1 O);have k2:=N.rot ((rimT a c I hc).1 D);have:=N.fn k1 k2;omega
 ·intro a b I J h;have g:=(rimT a b I J).1 h;obtain⟨z,hz,hr⟩:=N.ghost_pair g;refine⟨(goneT a b I J).2 ⟨z,N.nn _ hz,hr⟩,fun hg=>?_⟩;obtain⟨z',hz',h'⟩:=(goneT b a J I).1 hg;have:=N.fn g h';omega
 ·intro a b I J O D;exact⟨back a b I J O,back b a J I D⟩
def ov (p u v:Pt):Int:=if p.1<u.1/\v.1<=p.1/\0<sd u v p then 1 else if u.1<=p.1/\p.1<v.1/\0<sd v u p then -1 else 0
theorem Z3b (p u v:Pt):ov p u v= - ov p v u:=by
 unfold ov;split <;> split <;> (try split) <;> (try split) <;> omega
theorem Zkj {p u v:Pt}(D:u.1<=p.1)(e:p.1<v.1):ov p u v=if 0<sd v u p then -1 else 0:=by
 unfold ov;split <;> split <;> (try split) <;> omega
theorem Zh7 {p u v:Pt}(D:p.1<u.1)(e:v.1<=p.1):ov p u v=if 0<sd u v p then 1 else 0:=by
 unfold ov;split <;> split <;> (try split) <;> omega
theorem Zgw {p u v:Pt}(D:u.1<=p.1)(e:v.1<=p.1):ov p u v=0:=by
 unfold ov;split <;> (try split) <;> omega
theorem Zh8 {p u v:Pt}(D:p.1<u.1)(e:p.1<v.1):ov p u v=0:=by
 unfold ov;split <;> (try split) <;> omega
theorem Z3c (p u v:Pt):ov p u v<=1:=by
 unfold ov;split <;> (try split) <;> omega
theorem Zso {p u v:Pt}(h:0<ov p u v):p.1<u.1/\v.1<=p.1:=by
 unfold ov at h;split at h
 ·omega
 ·split at h <;> omega
theorem Z3d (a b c:Pt):sd b c a=sd a b c:=by unfold sd;grind
theorem Zh9 (a b c:Pt):sd b a c= - sd a b c:=by unfold sd;grind
theorem Z3e {a b c p:Pt}(h:0<sd a b c)(Z:a.1<=p.1)(O:p.1<b.1)(I:p.1<c.1)(D:0<sd b a p):0<sd c a p:=by
 have e:(b.1-a.1)*sd c a p=(c.1-a.1)*sd b a p+(p.1-a.1)*sd a b c:=by unfold sd;grind
 have Y:=mpp (show 0<c.1-a.1 by omega) D;have J:=mnn (show 0<=p.1-a.1 by omega) (Int.le_of_lt h);rcases Int.lt_or_le 0 (sd c a p) with k|k
 ·exact k
 ·have:=mnq (show 0<=b.1-a.1 by omega) k;omega
theorem Z3f {a b c p:Pt}(h:0<sd a b c)(Z:a.1<=p.1)(O:b.1<=p.1)(I:p.1<c.1)(D:0<sd c b p):0<sd c a p:=by
 have e:(c.1-b.1)*sd c a p=(c.1-a.1)*sd c b p+(c.1-p.1)*sd a b c:=by unfold sd;grind
 have Y:=mpp (show 0<c.1-a.1 by omega) D;have J:=mnn (show 0<=c.1-p.1 by omega) (Int.le_of_lt h);rcases Int.lt_or_le 0 (sd c a p) with k|k
 ·exact k
 ·have:=mnq (show 0<=c.1-b.1 by omega) k;omega
def inT (p a b c:Pt):Int:=ov p a b+ov p b c+ov p c a
theorem Znk (p a b c:Pt):inT p b c a=inT p a b c:=by unfold inT;omega
theorem Zsp {a b c p:Pt}(I:a.1<=p.1)(D:p.1<b.1)(e:p.1<c.1):inT p a b c=(if 0<sd c a p then 1 else 0)-(if 0<sd b a p then 1 else 0):=by
 unfold inT;rw[Zkj I D,Zh8 D e,Zh7 e I];split <;> split <;> omega
theorem Zsq {a b c p:Pt}(I:a.1<=p.1)(D:b.1<=p.1)(e:p.1<c.1):inT p a b c=(if 0<sd c a p then 1 else 0)-(if 0<sd c b p then 1 else 0):=by
 unfold inT;rw[Zgw I D,Zkj D e,Zh7 e I];split <;> split <;> omega
theorem Zsr {Q:Pt->Pt->Pt->Prop} (p:Pt) (D:∀ a b c,Q a b c->Q b c a) (J:∀ a b c,a.1<=p.1->b.1<=p.1->c.1<=p.1->Q a b c) (I:∀ a b c,p.1<a.1->p.1<b.1->p.1<c.1->Q a b c)
  (h1:∀ a b c,a.1<=p.1->p.1<b.1->p.1<c.1->Q a b c) (h2:∀ a b c,a.1<=p.1->b.1<=p.1->p.1<c.1->Q a b c) (a b c:Pt):Q a b c:=by
 rcases Int.lt_or_le p.1 a.1 with ka|ka <;> rcases Int.lt_or_le p.1 b.1 with kb|kb <;> rcases Int.lt_or_le p.1 c.1 with e|e
 ·exact I a b c ka kb e
 ·exact D c a b (h1 c a b e ka kb)
 ·exact D _ _ _ (D _ _ _ (h1 b c a kb e ka))
 ·exact D _ _ _ (D _ _ _ (h2 b c a kb e ka))
 ·exact h1 a b c ka kb e
 ·exact D c a b (h2 c a b e ka kb)
 ·exact h2 a b c ka kb e
 ·exact J a b c ka kb e
theorem Z3g (p:Pt):∀ a b c,0<sd a b c->0<=inT p a b c:=by
 refine Zsr p (fun a b c h Y=>?_) (fun a b c I D e _=>?_) (fun a b c I D e _=>?_) (fun a b c I D e h=>?_) (fun a b c I D e h=>?_)
 ·rw[Znk];exact h (by rw[<-Z3d];exact Y)
 ·unfold inT;rw[Zgw I D,Zgw D e,Zgw e I];omega
 ·unfold inT;rw[Zh8 I D,Zh8 D e,Zh8 e I];omega
 ·rw[Zsp I D e];have:=Z3e h I D e;split
  ·split <;> omega
  ·split
   ·rename_i O J;exact absurd (this J) O
   ·omega
 ·rw[Zsq I D e];have:=Z3f h I D e;split
  ·split <;> omega
  ·split
   ·rename_i O J;exact absurd (this J) O
   ·omega
theorem Zkk (a b c p:Pt):sd a b c*p.1=sd b c p*a.1+sd c a p*b.1+sd a b p*c.1/\sd a b c*p.2=sd b c p*a.2+sd c a p*b.2+sd a b p*c.2/\sd a b c=sd b c p+sd c a p+sd a b p:=by
 unfold sd;grind
theorem Znl (p:Pt):∀ a b c,(0<sd a b p/\0<sd b c p/\0<sd c a p)->1<=inT p a b c:=by
 refine Zsr p (fun a b c h hs=>?_) (fun a b c J D I h=>?_) (fun a b c J D I h=>?_) (fun a b c J D I h=>?_) (fun a b c J D I h=>?_)
 ·rw[Znk];exact h ⟨hs.2.2,hs.1,hs.2.1⟩
 ·exfalso;obtain⟨Z,O,Y⟩:=h;obtain⟨e1,_,e3⟩:=Zkk a b c p;have k1:=mnq (Int.le_of_lt O) (show a.1-p.1<=0 by omega);have k2:=mnq (Int.le_of_lt Y) (show b.1-p.1<=0 by omega);have k3:=mnq (Int.le_of_lt Z) (show c.1-p.1<=0 by omega);have e:sd b c p*(a.1-p.1)+sd c a p*(b.1-p.1)+sd a b p*(c.1-p.1)=0:=by grind
  have z1:a.1-p.1=0:=dz O (by omega);have z2:b.1-p.1=0:=dz Y (by omega);have z3:c.1-p.1=0:=dz Z (by omega);have:sd a b p=0:=by
   unfold sd;rw[show b.1-a.1=0 by omega,show p.1-a.1=0 by omega];simp
  omega
 ·exfalso;obtain⟨Z,O,Y⟩:=h;obtain⟨e1,_,e3⟩:=Zkk a b c p;have k1:=mpp O (show 0<a.1-p.1 by omega);have k2:=mpp Y (show 0<b.1-p.1 by omega);have k3:=mpp Z (show 0<c.1-p.1 by omega);have e:sd b c p*(a.1-p.1)+sd c a p*(b.1-p.1)+sd a b p*(c.1-p.1)=0:=by grind
  omega
 ·rw[Zsp J D I,if_pos h.2.2,if_neg (by rw[Zh9];omega)];omega
 ·rw[Zsq J D I,if_pos h.2.2,if_neg (by rw[Zh9];omega)];omega
theorem Zia {a b c p:Pt}(Z:a≠b)(D:sd a b p=0)(O:dt a b p<0)(h:0<sd a b c):0<sd b c p/\0<sd c a p:=by
 have I:=Za9 Z;have e:=Zba a b a b p;rw[Zal,Zas,Yu,Y0,D] at e;have f1:=Zc8 a b b c p;have Y:=Zc8 a b c a p;rw[Zas,Y0,D] at f1;rw[Zal,Yu,D] at Y;have hneg:=mpm I O;generalize Zz a b=L at *
 generalize tau a b p=r at *
 generalize tau a b c=q at *
 have J:0<r:=by
  rcases Int.lt_or_le 0 r with k|k
  ·exact k
  ·have:=mqq k (show r-L<=0 by omega);grind
 have hrL:r<L:=by
  rcases Int.lt_or_le r L with k|k
  ·exact k
  ·have:=mnn (Int.le_of_lt J) (show 0<=r-L by omega);grind
 have g1:L*sd b c p=sd a b c*(L-r):=by grind
 have g2:L*sd c a p=sd a b c*r:=by grind
 have k1:=mpp h (show 0<L-r by omega);have k2:=mpp h J;constructor
 ·rcases Int.lt_or_le 0 (sd b c p) with k|k
  ·exact k
  ·have:=mnq (Int.le_of_lt I) k;omega
 ·rcases Int.lt_or_le 0 (sd c a p) with k|k
  ·exact k
  ·have:=mnq (Int.le_of_lt I) k;omega
theorem Zkl (A B q:Pt):Zz A B*(q.1-A.1)=tau A B q*(B.1-A.1)-sd A B q*(B.2-A.2):=by unfold Zz tau sd;grind
theorem Zkm {a b p:Pt}(Y:a≠b)(O:sd a b p=0)(I:dt a b p<0):0<tau a b p/\tau a b p<Zz a b:=by
 have J:=Za9 Y;have e:=Zba a b a b p;rw[Zal,Zas,Yu,Y0,O] at e;have Z:=mpm J I;generalize Zz a b=L at *
 generalize tau a b p=r at *
 have D:0<r:=by
  rcases Int.lt_or_le 0 r with k|k
  ·exact k
  ·have:=mqq k (show r-L<=0 by omega);grind
 refine⟨D,?_⟩;rcases Int.lt_or_le r L with k|k
 ·exact k
 ·have:=mnn (Int.le_of_lt D) (show 0<=r-L by omega);grind
def cnt (a b:Pt):Prop:=a.1<b.1\/(a.1=b.1/\b.2<a.2)
theorem Z3h {a b:Pt}(h:a≠b):cnt a b\/cnt b a:=by
 unfold cnt;have:¬ (a.1=b.1/\a.2=b.2):=fun e=>h (Prod.ext e.1 e.2)
 omega
theorem Z3i {a b c p:Pt}(h:0<sd a b c)(I:sd a b p=0)(hd:dt a b p<0)(Y:cnt a b):1<=inT p a b c:=by
 have O:a≠b:=by
  intro e;subst e;have:sd a a c=0:=by unfold sd;grind
  omega
 obtain⟨s1,s2⟩:=Zia O I hd h;obtain⟨r1,r2⟩:=Zkm O I hd;have hx:=Zkl a b p;rw[I] at hx;have J:=Za9 O;generalize Zz a b=L at *
 generalize tau a b p=r at *
 rcases Y with Y|⟨Y,hy⟩
 ·have Z:a.1<=p.1:=by
   have:=mpp r1 (show 0<b.1-a.1 by omega);rcases Int.lt_or_le p.1 a.1 with k|k
   ·have:=mpm J (show p.1-a.1<0 by omega);grind
   ·exact k
  have D:p.1<b.1:=by
   rcases Int.lt_or_le p.1 b.1 with k|k
   ·exact k
   ·have g:L*(p.1-b.1)=(r-L)*(b.1-a.1):=by grind
    have g1:=mmp (show r-L<0 by omega) (show 0<b.1-a.1 by omega);have g2:=mnn (Int.le_of_lt J) (show 0<=p.1-b.1 by omega);omega
  have hz:ov p a b=0:=by rw[Zkj Z D,if_neg (by rw[Zh9];omega)]
  unfold inT;rw[hz];rcases Int.lt_or_le p.1 c.1 with k|k
  ·rw[Zh8 D k,Zh7 k Z,if_pos s2];omega
  ·rw[Zh7 D k,Zgw k Z,if_pos s1];omega
 ·have ep:p.1=a.1:=by
   have:L*(p.1-a.1)=0:=by rw[hx,show b.1-a.1=0 by omega];simp
   have:=dz J this;omega
  have hk:p.1<c.1:=by
   have e:sd a b c=(a.2-b.2)*(c.1-a.1):=by unfold sd;rw[show b.1-a.1=0 by omega];grind
   rcases Int.lt_or_le p.1 c.1 with k|k
   ·exact k
   ·have:=mnq (show 0<=a.2-b.2 by omega) (show c.1-a.1<=0 by omega);omega
  unfold inT;rw[Zgw (show a.1<=p.1 by omega) (show b.1<=p.1 by omega),Zkj (show b.1<=p.1 by omega) hk,Zh7 hk (show a.1<=p.1 by omega),if_pos s2,if_neg (by rw[Zh9];omega)];omega
theorem Zss {α:Type}{f:α->Int}:∀ {L:List α},L.Nodup->(∀ x∈L,f x<=1)->(∀ x∈L,∀ y∈L,0<f x->0<f y->x=y)->Zf f L<=1
 | [],_,_,_=>by simp[Zf]
 | a :: L,D,h1,hu=>by
  obtain⟨O,D⟩:=List.nodup_cons.1 D;have Y:∀ M:List α,(∀ x∈M,f x<=0)->Zf f M<=0:=by
   intro M;induction M with
   | nil=>intro _;simp[Zf]
   | cons b M ih=>intro h;have:=ih (fun x e=>h x (by simp[e]));have:=h b (by simp);simp only[Zf];omega
  simp only[Zf];have Z:=h1 a (by simp);rcases Int.lt_or_le 0 (f a) with k|k
  ·have:=Y L fun x e=>by
    rcases Int.lt_or_le 0 (f x) with I|I
    ·have:=hu a (by simp) x (by simp[e]) k I;subst this;exact absurd e O
    ·exact I
   omega
  ·have:=Zss D (fun x e=>h1 x (by simp[e])) (fun x e y J=>hu x (by simp[e]) y (by simp[J]));omega
theorem Zst {α:Type}{f:α->Int}:∀ {L:List α},(∀ x∈L,0<=f x)->0<=Zf f L
 | [],_=>by simp[Zf]
 | a :: L,h=>by
  have:=Zst (L:=L) fun x e=>h x (by simp[e])
  have:=h a (by simp);simp only[Zf];omega
theorem Z3j {α:Type}[DecidableEq α]{f:α->Int}{L:List α}(h:∀ x∈L,0<=f x){x y:α}(J:x∈L)(e:y∈L)(O:x≠y)(Z:1<=f x)(Y:1<=f y):2<=Zf f L:=by
 rw[Zj3 f L x J];have D:y∈L.erase x:=(List.mem_erase_of_ne (Ne.symm O)).2 e;rw[Zj3 f (L.erase x) y D];have:=Zst (f:=f) (L:=(L.erase x).erase y) fun z I=>h z (List.mem_of_mem_erase (List.mem_of_mem_erase I))
 omega
section
variable {P:Int->Pt} {S:List Int} {a b c:Int} {Tr:Int->Int->Int->Prop}
open Classical
theorem NetOf.sum_ts (e:Pt->Pt->Int) (he:∀ u v,e u v= - e v u) (N:NetOf P S a b c Tr) (hS:S.Nodup) (ts:List (Int×Int×Int)) (hts:ts.Nodup) (hmem:∀ x y z,(x,y,z)∈ts↔Tr x y z/\0<=x/\x<y/\x<z)
  (G:List (Int×Int)) (hG:G.Nodup) (hGm:∀ x y,(x,y)∈G↔Tr x y (-1)) :
  Zf (fun t=>e (P t.1) (P t.2.1)+e (P t.2.1) (P t.2.2)+e (P t.2.2) (P t.1)) ts=Zf (fun q=>e (P q.2) (P q.1)) G:=by
 have hA:=Zj2 (Tr:=Tr) hS;have hP:=Zgi hS;have hT:∀ x y z,(x,y,z)∈ts->Tr x y z/\x∈S/\y∈S/\z∈S/\x<y/\x<z:=by
  intro x y z Z;obtain⟨t,h0,h1,h2⟩:=(hmem x y z).1 Z;exact⟨t,N.mem t h0,N.mem (N.rot t) (by omega),N.mem (N.rot (N.rot t)) (by omega),h1,h2⟩
 have e1:Zf (fun t:Int×Int×Int=>e (P t.1) (P t.2.1)) (Xh S Tr)=Zf (fun t:Int×Int×Int=>e (P t.1) (P t.2.1)+e (P t.2.1) (P t.2.2)+e (P t.2.2) (P t.1)) ts:=by
  rw [Zmr _ (fun t : Int × Int × Int => decide (t ∈ ts)) (fun t => decide ((t.2.1, t.2.2, t.1) ∈ ts)) (fun t => decide ((t.2.2, t.1, t.2.1) ∈ ts)) (Xh S Tr) (by
    rintro ⟨x, y, z⟩ Z
    obtain ⟨t, J, hy, hz⟩ := Yz.1 Z
    obtain ⟨n1, n2, n3⟩ := N.ne3 t
    have h0 := N.nn x J
    have h1 := N.nn y hy
    have h2 := N.nn z hz
    have t2 := N.rot t
    have t3 := N.rot t2
    simp only [decide_eq_true_eq, decide_eq_false_iff_not, hmem]
    by_cases k1 : x < y <;> by_cases k2 : x < z <;> by_cases k3 : y < z
    · exact .inl ⟨⟨t, h0, k1, k2⟩, fun r => by omega, fun r => by omega⟩
    · exact .inl ⟨⟨t, h0, k1, k2⟩, fun r => by omega, fun r => by omega⟩
    · omega
    · exact .inr (.inr ⟨fun r => by omega, fun r => by omega, ⟨t3, h2, by omega, by omega⟩⟩)
    · exact .inr (.inl ⟨fun r => by omega, ⟨t2, h1, by omega, by omega⟩, fun r => by omega⟩)
    · omega
    · exact .inr (.inl ⟨fun r => by omega, ⟨t2, h1, by omega, by omega⟩, fun r => by omega⟩)
    · exact .inr (.inr ⟨fun r => by omega, fun r => by omega, ⟨t3, h2, by omega, by omega⟩⟩))]
  have p1:Zf (fun t:Int×Int×Int=>e (P t.1) (P t.2.1)) ((Xh S Tr).filter (fun t=>decide (t∈ts)))=Zf (fun t:Int×Int×Int=>e (P t.1) (P t.2.1)) ts:=by
   refine Zcb id (hA.filter _) hts (fun _ _ _ _ I=>I) ?_ ?_ (fun _ _=>rfl)
   ·intro t D;rw[List.mem_filter,decide_eq_true_eq] at D;exact D.2
   ·rintro⟨x,y,z⟩ D;have:=hT x y z D;refine⟨(x,y,z),?_,rfl⟩;rw[List.mem_filter,decide_eq_true_eq];exact⟨Yz.2 ⟨this.1,this.2.1,this.2.2.1,this.2.2.2.1⟩,D⟩
  have p2:Zf (fun t:Int×Int×Int=>e (P t.1) (P t.2.1)) ((Xh S Tr).filter (fun t=>decide ((t.2.1,t.2.2,t.1)∈ts)))=Zf (fun t:Int×Int×Int=>e (P t.2.2) (P t.1)) ts:=by
   refine Zcb (fun t=>(t.2.1,t.2.2,t.1)) (hA.filter _) hts ?_ ?_ ?_ (fun _ _=>rfl)
   ·rintro⟨x,y,z⟩ _ ⟨x',y',z'⟩ _ I;simp at I ⊢;omega
   ·intro t D;rw[List.mem_filter,decide_eq_true_eq] at D;exact D.2
   ·rintro⟨x,y,z⟩ D;have:=hT x y z D;refine⟨(z,x,y),?_,rfl⟩;rw[List.mem_filter,decide_eq_true_eq];exact⟨Yz.2 ⟨N.rot (N.rot this.1),this.2.2.2.1,this.2.1,this.2.2.1⟩,D⟩
  have p3:Zf (fun t:Int×Int×Int=>e (P t.1) (P t.2.1)) ((Xh S Tr).filter (fun t=>decide ((t.2.2,t.1,t.2.1)∈ts)))=Zf (fun t:Int×Int×Int=>e (P t.2.1) (P t.2.2)) ts:=by
   refine Zcb (fun t=>(t.2.2,t.1,t.2.1)) (hA.filter _) hts ?_ ?_ ?_ (fun _ _=>rfl)
   ·rintro⟨x,y,z⟩ _ ⟨x',y',z'⟩ _ I;simp at I ⊢;omega
   ·intro t D;rw[List.mem_filter,decide_eq_true_eq] at D;exact D.2
   ·rintro⟨x,y,z⟩ D;have:=hT x y z D;refine⟨(y,z,x),?_,rfl⟩;rw[List.mem_filter,decide_eq_true_eq];exact⟨Yz.2 ⟨N.rot this.1,this.2.2.1,this.2.2.2.1,this.2.1⟩,D⟩
  rw[p1,p2,p3,<-Zfp,<-Zfp];refine Zd8 (fun t _=>?_);omega
 generalize hDEe:(Zae S).filter (fun q=>decide (∃ x,Tr q.1 q.2 x))=O;have hDEn:O.Nodup:=by rw[<-hDEe];exact hP.filter _
 have Y:∀ v w,(v,w)∈O↔(v∈S/\w∈S)/\∃ x,Tr v w x:=by
  intro v w;rw[<-hDEe,List.mem_filter,decide_eq_true_eq,Zd7]
 have e2:Zf (fun q:Int×Int=>e (P q.1) (P q.2)) O=0:=by
  have:Zf (fun q:Int×Int=>e (P q.1) (P q.2)) O=Zf (fun q:Int×Int=> - e (P q.1) (P q.2)) O:=by
   refine Zcb (fun q=>(q.2,q.1)) hDEn hDEn ?_ ?_ ?_ ?_
   ·rintro⟨v,w⟩ _ ⟨v',w'⟩ _ I;simp at I ⊢;omega
   ·rintro⟨v,w⟩ Z;obtain⟨⟨hv,hw⟩,x,J⟩:=(Y v w).1 Z;exact (Y w v).2 ⟨⟨hw,hv⟩,N.pair J⟩
   ·rintro⟨v,w⟩ Z;obtain⟨⟨hv,hw⟩,x,J⟩:=(Y v w).1 Z;exact⟨(w,v),(Y w v).2 ⟨⟨hw,hv⟩,N.pair J⟩,rfl⟩
   ·rintro⟨v,w⟩ _;exact he _ _
  rw[Zgk] at this;omega
 have e3:=Zj4 (fun q:Int×Int=>e (P q.1) (P q.2)) (fun q:Int×Int=>decide (∃ x∈S,Tr q.1 q.2 x)) O;have b6:Zf (fun t:Int×Int×Int=>e (P t.1) (P t.2.1)) (Xh S Tr)=Zf (fun q:Int×Int=>e (P q.1) (P q.2)) (O.filter (fun q:Int×Int=>decide (∃ x∈S,Tr q.1 q.2 x))):=by
  refine Zcb (fun t=>(t.1,t.2.1)) hA (hDEn.filter _) ?_ ?_ ?_ (fun _ _=>rfl)
  ·rintro⟨x,y,z⟩ h ⟨x',y',z'⟩ h' I;have h:=Yz.1 h;have h':=Yz.1 h';simp at I;obtain⟨rfl,rfl⟩:=I;rw[N.fn h.1 h'.1]
  ·rintro⟨x,y,z⟩ h;obtain⟨t,J,hy,hz⟩:=Yz.1 h;rw[List.mem_filter,decide_eq_true_eq,Y];exact⟨⟨⟨J,hy⟩,z,t⟩,z,hz,t⟩
  ·rintro⟨v,w⟩ h;rw[List.mem_filter,decide_eq_true_eq,Y] at h;obtain⟨⟨⟨hv,hw⟩,_⟩,x,J,t⟩:=h;exact⟨(v,w,x),Yz.2 ⟨t,hv,hw,J⟩,rfl⟩
 have b7:Zf (fun q:Int×Int=>e (P q.1) (P q.2)) (O.filter (fun q:Int×Int=> ! decide (∃ x∈S,Tr q.1 q.2 x)))=Zf (fun q:Int×Int=>e (P q.1) (P q.2)) G:=by
  refine Zcb id (hDEn.filter _) hG (fun _ _ _ _ I=>I) ?_ ?_ (fun _ _=>rfl)
  ·rintro⟨v,w⟩ h;rw[List.mem_filter,Y] at h;simp only[Bool.not_eq_true',decide_eq_false_iff_not] at h;obtain⟨⟨⟨hv,hw⟩,x,J⟩,h2⟩:=h;rcases N.lab (N.rot (N.rot J)) with I|I
   ·subst I;exact (hGm v w).2 J
   ·exact absurd ⟨x,I,J⟩ h2
  ·rintro⟨v,w⟩ h;have h:=(hGm v w).1 h;have hm:=N.ghost_mem h;refine⟨(v,w),?_,rfl⟩;rw[List.mem_filter,Y];simp only[Bool.not_eq_true',decide_eq_false_iff_not];refine⟨⟨hm,-1,h⟩,?_⟩;rintro⟨x,J,t⟩;have:=N.fn t h;have:=N.nn x J;omega
 have e4:Zf (fun q:Int×Int=>e (P q.2) (P q.1)) G= - Zf (fun q:Int×Int=>e (P q.1) (P q.2)) G:=by
  rw[<-Zgk];refine Zd8 (fun q _=>?_);exact he _ _
 omega
theorem Z3k {u v x y:Pt} {t:Int} (h1:0<=sd u v x) (h2:0<=sd u v y) (h3:0<=sd x y u) (h4:0<=sd x y v) (d1:sd u v x=0->0<=dt u v x) (d2:sd u v y=0->0<=dt u v y) (d3:sd x y u=0->0<=dt x y u) (d4:sd x y v=0->0<=dt x y v)
  (hu:t<u.1) (hv:v.1<=t) (hx:t<x.1) (hy:y.1<=t):x=u/\y=v:=by
 have aff:∀ q:Pt,(x.1-y.1)*sd u v q-(u.1-v.1)*sd x y q=(x.1-y.1)*sd u v u-(u.1-v.1)*sd x y u+(q.1-u.1)*((v.2-u.2)*(y.1-x.1)-(y.2-x.2)*(v.1-u.1)):=by
  intro q;unfold sd;grind
 have Y:0<u.1-v.1:=by omega
 have J:0<x.1-y.1:=by omega
 have I:=aff x;have Z:=aff y;have O:=aff v;have z1:sd u v u=0:=Yu u v;have z2:sd u v v=0:=Y0 u v;have z3:sd x y x=0:=Yu x y;have z4:sd x y y=0:=Y0 x y;rw[z1] at I Z O;rw[z3] at I;rw[z4] at Z;rw[z2] at O;have p1:=mnn (Int.le_of_lt J) h1;have p2:=mnn (Int.le_of_lt J) h2;have p3:=mnn (Int.le_of_lt Y) h3;have p4:=mnn (Int.le_of_lt Y) h4;generalize (v.2-u.2)*(y.1-x.1)-(y.2-x.2)*(v.1-u.1)=s at *
 simp only[Int.mul_zero,Int.zero_sub,Int.sub_zero] at I Z O;have hs:s=0:=by
  rcases Int.lt_trichotomy s 0 with k|k|k
  ·-- falling:at v against x
   have:=mpm (show 0<x.1-v.1 by omega) k;have e:(x.1-u.1)*s-(v.1-u.1)*s=(x.1-v.1)*s:=by grind
   omega
  ·exact k
  ·have:=mmp (show y.1-u.1<0 by omega) k;omega
 subst hs;simp only[Int.mul_zero,Int.add_zero] at I Z O;have c1:sd u v x=0:=dz J (by omega);have c2:sd u v y=0:=dz J (by omega);have c3:sd x y u=0:=dz Y (by omega);have c4:sd x y v=0:=dz Y (by omega);have aa:u≠v:=fun e=>by rw[e] at hu;omega
 have D:=Za9 aa;have f1:=Zba u v u v x;have f2:=Zba u v u v y;have f3:=Zba u v x y u;have f4:=Zba u v x y v;rw[Zal,Zas,Yu,Y0,c1] at f1;rw[Zal,Zas,Yu,Y0,c2] at f2;rw[Zal,Yu,c1,c2] at f3;rw[Zas,Y0,c1,c2] at f4;have g1:=mnn (Int.le_of_lt D) (d1 c1);have g2:=mnn (Int.le_of_lt D) (d2 c2);have g3:=mnn (Int.le_of_lt D) (d3 c3);have g4:=mnn (Int.le_of_lt D) (d4 c4);have lx:=Zkl u v x;have ly:=Zkl u v y;rw[c1] at lx;rw[c2] at ly;have q1:tau u v x<Zz u v:=by
  rcases Int.lt_or_le (tau u v x) (Zz u v) with k|k
  ·exact k
  ·have e:Zz u v*(x.1-v.1)=(tau u v x-Zz u v)*(v.1-u.1):=by grind
   have:=mpp D (show 0<x.1-v.1 by omega);have:=mnq (show 0<=tau u v x-Zz u v by omega) (show v.1-u.1<=0 by omega);omega
 have q2:0<tau u v y:=by
  rcases Int.lt_or_le 0 (tau u v y) with k|k
  ·exact k
  ·have:=mpm D (show y.1-u.1<0 by omega);have:=mqq k (show v.1-u.1<=0 by omega);grind
 have tx:tau u v x=0:=by
  have e1:tau u v x<=0:=by
   rcases Int.lt_or_le 0 (tau u v x) with k|k
   ·have:=mpm k (show tau u v x-Zz u v<0 by omega);grind
   ·exact k
  rcases Int.lt_or_le (tau u v x) 0 with k|k
  ·have:=mmp k q2;grind
  ·omega
 have ty:tau u v y=Zz u v:=by
  have e1:Zz u v<=tau u v y:=by
   rcases Int.lt_or_le (tau u v y) (Zz u v) with k|k
   ·have:=mpm q2 (show tau u v y-Zz u v<0 by omega);grind
   ·exact k
  rcases Int.lt_or_le (Zz u v) (tau u v y) with k|k
  ·have:=mpm D (show Zz u v-tau u v y<0 by omega);rw[tx] at f4;grind
  ·omega
 exact⟨Zgj aa c1 (Yu u v) (by rw[tx,Zal]),Zgj aa c2 (Y0 u v) (by rw[ty,Zas])⟩
theorem NetOf.one (N:NetOf P S a b c Tr) (hS:S.Nodup) {ts:List (Int×Int×Int)} (hts:ts.Nodup) (hmem:∀ x y z,(x,y,z)∈ts↔Tr x y z/\0<=x/\x<y/\x<z) (p:Pt)
  {t t':Int×Int×Int} (h:t∈ts) (h':t'∈ts) (k:1<=inT p (P t.1) (P t.2.1) (P t.2.2)) (k':1<=inT p (P t'.1) (P t'.2.1) (P t'.2.2)):t=t':=by
 refine Classical.byContradiction fun hne=>?_
 generalize hGe:(Zae S).filter (fun q=>decide (Tr q.1 q.2 (-1)))=G;have hG:G.Nodup:=by rw[<-hGe];exact (Zgi hS).filter _
 have hGm:∀ x y,(x,y)∈G↔Tr x y (-1):=by
  intro x y;rw[<-hGe,List.mem_filter,decide_eq_true_eq,Zd7];exact⟨fun h=>h.2,fun h=>⟨N.ghost_mem h,h⟩⟩
 have e:=N.sum_ts (ov p) (Z3b p) hS ts hts hmem G hG hGm;have h2:2<=Zf (fun t:Int×Int×Int=>ov p (P t.1) (P t.2.1)+ov p (P t.2.1) (P t.2.2)+ov p (P t.2.2) (P t.1)) ts:=by
  refine Z3j (fun x hx=>?_) h h' hne k k';obtain⟨x,y,z⟩:=x;obtain⟨O,h0,h1,h2⟩:=(hmem x y z).1 hx;exact Z3g p _ _ _ (N.side O (N.mem O h0) (N.mem (N.rot O) (show 0<=y by omega)) (N.mem (N.rot (N.rot O)) (show 0<=z by omega)))
 have h1:Zf (fun q:Int×Int=>ov p (P q.2) (P q.1)) G<=1:=by
  refine Zss hG (fun q _=>Z3c _ _ _) ?_;rintro⟨x,y⟩ hq ⟨I,D⟩ hq' o o';have b:=N.bnd_of ((hGm x y).1 hq);have b':=N.bnd_of ((hGm I D).1 hq');obtain⟨m1,m2,_,B⟩:=b;obtain⟨Y,Z,_,J⟩:=b';obtain⟨i1,i2⟩:=Zso o;obtain⟨i3,i4⟩:=Zso o';obtain⟨r1,r2⟩:=Z3k (B D Y).1 (B I Z).1 (J y m1).1 (J x m2).1 (B D Y).2 (B I Z).2 (J y m1).2 (J x m2).2 i1 i2 i3 i4;have:=N.inj D Y y m1 r1;have:=N.inj I Z x m2 r2;simp only at *
  rw[Prod.mk.injEq];omega
 omega
end
def Z4 (p A B:Pt):Prop:=sd A B p=0/\dt A B p<0
theorem Z4.ne {p A B:Pt}(h:Z4 p A B):A≠B:=by
 rintro rfl;obtain⟨_,h⟩:=h;have:0<=dt A A p:=by
  unfold dt;have:=Zf9 (p.1-A.1);have:=Zf9 (p.2-A.2);omega
 omega
theorem Z4.symm {p A B:Pt}(h:Z4 p A B):Z4 p B A:=by
 obtain⟨D,e⟩:=h;refine⟨by rw[Zh9];omega,?_⟩;have:dt B A p=dt A B p:=by unfold dt;grind
 omega
def Zbt (p A B C:Pt):Prop:=0<sd A B p/\0<sd B C p/\0<sd C A p
theorem aff (a b c p u v:Pt):sd a b c*sd u v p=sd b c p*sd u v a+sd c a p*sd u v b+sd a b p*sd u v c:=by unfold sd;grind
theorem Z3l {a b c p u v:Pt}(huv:u≠v)(h:Zbt p a b c)(ha:sd u v a<=0)(O:sd u v b<=0)(hc:sd u v c<=0):sd u v p≠0:=by
 intro Y;obtain⟨J,D,I⟩:=h;have e:=aff a b c p u v;rw[Y,Int.mul_zero] at e;have k1:=mnq (Int.le_of_lt D) ha;have k2:=mnq (Int.le_of_lt I) O;have k3:=mnq (Int.le_of_lt J) hc;have Z:=dz D (show sd b c p*sd u v a=0 by omega);have z2:=dz I (show sd c a p*sd u v b=0 by omega);have z3:=dz J (show sd a b p*sd u v c=0 by omega);have:=Ze1 huv Z z2 z3;have:=(Zkk a b c p).2.2;omega
theorem Z3m {A B p u v:Pt}(h:Z4 p A B)(J:sd u v p=0)(O:sd u v A<=0)(I:sd u v B<=0):sd u v A=0/\sd u v B=0:=by
 obtain⟨D,r2⟩:=Zkm h.ne h.1 h.2;have hL:=Za9 h.ne;have e:Zz A B*sd u v p=(Zz A B-tau A B p)*sd u v A+tau A B p*sd u v B+sd A B p*((v.1-u.1)*(B.1-A.1)+(v.2-u.2)*(B.2-A.2)):=by unfold Zz tau sd;grind
 rw[J,h.1,Int.mul_zero,Int.zero_mul,Int.add_zero] at e;have Z:=mnq (show 0<=Zz A B-tau A B p by omega) O;have Y:=mnq (Int.le_of_lt D) I;exact⟨dz (show 0<Zz A B-tau A B p by omega) (by omega),dz D (by omega)⟩
theorem Zsu {A B C D p:Pt}(h:Z4 p A B)(hCD:Z4 p C D)(c1:sd A B C=0)(c2:sd A B D=0)(d1:0<=dt A B C)(d2:0<=dt A B D)(d3:0<=dt C D A)(d4:0<=dt C D B):(C=A/\D=B)\/(C=B/\D=A):=by
 obtain⟨O,r2⟩:=Zkm h.ne h.1 h.2;have hAB:=h.ne;have J:=Za9 hAB;have f1:=Zba A B A B C;have f2:=Zba A B A B D;have f3:=Zba A B C D A;have f4:=Zba A B C D B;have f5:=Zba A B C D p;rw[Zal,Zas,Yu,Y0,c1] at f1;rw[Zal,Zas,Yu,Y0,c2] at f2;rw[Zal,Yu,c1,c2] at f3;rw[Zas,Y0,c1,c2] at f4;rw[c1,c2,h.1] at f5;have g1:=mnn (Int.le_of_lt J) d1;have g2:=mnn (Int.le_of_lt J) d2;have g3:=mnn (Int.le_of_lt J) d3;have g4:=mnn (Int.le_of_lt J) d4;have g5:=mpm J hCD.2;have inj:∀ {X Y:Pt},sd A B X=0->sd A B Y=0->tau A B X=tau A B Y->X=Y:=fun h1 h2 h3=>Zgj hAB h1 h2 h3
 have key:∀ {s t r L:Int},0<r->r<L->0<=s*(s-L)->0<=t*(t-L)->0<=(0-s)*(0-t)->0<=(L-s)*(L-t)->s<r->r<t->s=0/\t=L:=by
  intro s t r L O r2 g1 g2 g3 g4 h1 h2;have s0:s<=0:=by
   rcases Int.lt_or_le 0 s with k|k
   ·have:=mpm k (show s-L<0 by omega);omega
   ·exact k
  have tL:L<=t:=by
   rcases Int.lt_or_le t L with k|k
   ·have:=mpm (show 0<t by omega) (show t-L<0 by omega);omega
   ·exact k
  constructor
  ·rcases Int.lt_or_le s 0 with k|k
   ·have:=mpm (show 0<0-s by omega) (show 0-t<0 by omega);omega
   ·omega
  ·rcases Int.lt_or_le L t with k|k
   ·have:=mpm (show 0<L-s by omega) (show L-t<0 by omega);omega
   ·omega
 generalize hs:tau A B C=s at *
 generalize ht:tau A B D=t at *
 generalize hr:tau A B p=r at *
 generalize hLL:Zz A B=L at *
 have e1:0<=s*(s-L):=by grind
 have e2:0<=t*(t-L):=by grind
 have e3:0<=(0-s)*(0-t):=by grind
 have e4:0<=(L-s)*(L-t):=by grind
 have e5:(r-s)*(r-t)<0:=by grind
 have hB:tau A B B=L:=by rw[Zas,hLL]
 rcases Int.lt_or_le s r with k|k
 ·have I:r<t:=by
   rcases Int.lt_or_le r t with I|I
   ·exact I
   ·have:=mnn (show 0<=r-s by omega) (show 0<=r-t by omega);omega
  obtain⟨Z,a2⟩:=key O r2 e1 e2 e3 e4 k I;exact .inl ⟨inj c1 (Yu A B) (by rw[hs,Zal,Z]),inj c2 (Y0 A B) (by rw[ht,hB,a2])⟩
 ·have k0:s≠r:=fun e=>by rw[e,Int.sub_self,Int.zero_mul] at e5;omega
  have I:t<r:=by
   rcases Int.lt_or_le t r with I|I
   ·exact I
   ·have:=mqq (show r-s<=0 by omega) (show r-t<=0 by omega);omega
  obtain⟨Z,a2⟩:=key O r2 e2 e1 (by rw[Int.mul_comm];exact e3) (by rw[Int.mul_comm];exact e4) I (by omega);exact .inr ⟨inj c1 (Y0 A B) (by rw[hs,hB,a2]),inj c2 (Yu A B) (by rw[ht,Zal,Z])⟩
section
variable {P:Int->Pt} {S:List Int} {a b c:Int} {Tr:Int->Int->Int->Prop} {ts:List (Int×Int×Int)}
theorem NetOf.told (N:NetOf P S a b c Tr)(e:∀ x y z,(x,y,z)∈ts↔Tr x y z/\0<=x/\x<y/\x<z){x y z:Int}(h:Tr x y z)(hx:x∈S)(hy:y∈S)(hz:z∈S):(x,y,z)∈ts\/(y,z,x)∈ts\/(z,x,y)∈ts:=by
 obtain⟨n1,n2,n3⟩:=N.ne3 h;have J:=N.nn x hx;have Y:=N.nn y hy;have I:=N.nn z hz;have D:=N.rot h;have O:=N.rot D;rw[e,e,e];by_cases k1:x<y <;> by_cases Z:x<z <;> by_cases k3:y<z
 ·exact .inl ⟨h,J,k1,Z⟩
 ·exact .inl ⟨h,J,k1,Z⟩
 ·omega
 ·exact .inr (.inr ⟨O,I,by omega,by omega⟩)
 ·exact .inr (.inl ⟨D,Y,by omega,by omega⟩)
 ·omega
 ·exact .inr (.inl ⟨D,Y,by omega,by omega⟩)
 ·exact .inr (.inr ⟨O,I,by omega,by omega⟩)
theorem NetOf.seg (N:NetOf P S a b c Tr){x y w:Int}(h:Tr x y w)(I:x∈S)(J:y∈S){p:Pt}(D:Z4 p (P x) (P y)) :
  ∃ u v,((u=x/\v=y)\/(u=y/\v=x))/\Z4 p (P u) (P v)/\u∈S/\v∈S/\((∃ z∈S,Tr u v z/\1<=inT p (P u) (P v) (P z))\/Tr u v (-1)):=by
 have Y:∀ u v w,Tr u v w->u∈S->v∈S->Z4 p (P u) (P v)->cnt (P u) (P v)->(∃ z∈S,Tr u v z/\1<=inT p (P u) (P v) (P z))\/Tr u v (-1):=by
  intro u v w h Z hv O hc;rcases N.lab (N.rot (N.rot h)) with e|e
  ·right;rw[<-e];exact h
  ·exact .inl ⟨w,e,h,Z3i (N.side h Z hv e) O.1 O.2 hc⟩
 rcases Z3h D.ne with k|k
 ·exact⟨x,y,.inl ⟨rfl,rfl⟩,D,I,J,Y x y w h I J D k⟩
 ·obtain⟨w',h'⟩:=N.pair h;exact⟨y,x,.inr ⟨rfl,rfl⟩,D.symm,J,I,Y y x w' h' J I D.symm k⟩
theorem NetOf.same_tri (N:NetOf P S a b c Tr) (hS:S.Nodup) (hts:ts.Nodup) (Y:∀ x y z,(x,y,z)∈ts↔Tr x y z/\0<=x/\x<y/\x<z) {p:Pt} {x y z O I J:Int} (h:Tr x y z) (hx:x∈S) (hy:y∈S) (hz:z∈S) (Z:Tr O I J) (hx':O∈S) (hy':I∈S) (hz':J∈S)
  (k:1<=inT p (P x) (P y) (P z)) (k':1<=inT p (P O) (P I) (P J)):(O=x/\I=y/\J=z)\/(O=y/\I=z/\J=x)\/(O=z/\I=x/\J=y):=by
 have r:∀ {q u v:Int},1<=inT p (P q) (P u) (P v)->1<=inT p (P u) (P v) (P q):=fun h=>by rw[Znk];exact h
 have one:=fun {t t':Int×Int×Int} h Z k k'=>N.one hS hts Y p (t:=t) (t':=t') h Z k k'
 rcases N.told Y h hx hy hz with m|m|m <;> rcases N.told Y Z hx' hy' hz' with D|D|D
 ·have e:=one m D k k';simp only[Prod.mk.injEq] at e;omega
 ·have e:=one m D k (r k');simp only[Prod.mk.injEq] at e;omega
 ·have e:=one m D k (r (r k'));simp only[Prod.mk.injEq] at e;omega
 ·have e:=one m D (r k) k';simp only[Prod.mk.injEq] at e;omega
 ·have e:=one m D (r k) (r k');simp only[Prod.mk.injEq] at e;omega
 ·have e:=one m D (r k) (r (r k'));simp only[Prod.mk.injEq] at e;omega
 ·have e:=one m D (r (r k)) k';simp only[Prod.mk.injEq] at e;omega
 ·have e:=one m D (r (r k)) (r k');simp only[Prod.mk.injEq] at e;omega
 ·have e:=one m D (r (r k)) (r (r k'));simp only[Prod.mk.injEq] at e;omega
theorem NetOf.seg_out (N:NetOf P S a b c Tr) (hS:S.Nodup) (hts:ts.Nodup) (Z:∀ x y z,(x,y,z)∈ts↔Tr x y z/\0<=x/\x<y/\x<z) {p:Pt} {x y w:Int} (h:Tr x y w) (Y:x∈S) (hy:y∈S) (e:Z4 p (P x) (P y))
  {q r s:Int} (ht:Tr q r s) (hq:q∈S) (hr:r∈S) (hs:s∈S):¬ Zbt p (P q) (P r) (P s):=by
 intro J;obtain⟨u,v,_,e,hu,hv,I⟩:=N.seg h Y hy e;rcases I with ⟨z,I,O,hi⟩|D
 ·have k:=Znl p _ _ _ J;obtain⟨w1,w2,w3⟩:=J;have:=e.1;rcases N.same_tri hS hts Z ht hq hr hs O hu hv I k hi with ⟨rfl,rfl,rfl⟩|⟨rfl,rfl,rfl⟩|⟨rfl,rfl,rfl⟩ <;> omega
 ·exact Z3l e.ne J (N.ghost D hq).1 (N.ghost D hr).1 (N.ghost D hs).1 e.1
theorem NetOf.seg_one (N:NetOf P S a b c Tr) (hS:S.Nodup) (hts:ts.Nodup) (hmem:∀ x y z,(x,y,z)∈ts↔Tr x y z/\0<=x/\x<y/\x<z) {p:Pt} {x y w x' y' w':Int} (h:Tr x y w) (hx:x∈S) (hy:y∈S) (hp:Z4 p (P x) (P y))
  (h':Tr x' y' w') (hx':x'∈S) (hy':y'∈S) (hp':Z4 p (P x') (P y')):(x'=x/\y'=y)\/(x'=y/\y'=x):=by
 have ghost:∀ {u v I D w':Int},Tr u v (-1)->u∈S->v∈S->Z4 p (P u) (P v)->Tr I D w'->I∈S->D∈S->Z4 p (P I) (P D)->(I=u/\D=v)\/(I=v/\D=u):=by
  intro u v I D w' hg Y Z hp hT J O hp';obtain⟨g1,g2⟩:=N.ghost hg J;obtain⟨g3,g4⟩:=N.ghost hg O;obtain⟨z1,z2⟩:=Z3m hp' hp.1 g1 g3;have hne:=hp.ne;have y1:sd (P I) (P D) (P u)=0:=Ze1 hne z1 z2 (Yu _ _);have y2:sd (P I) (P D) (P v)=0:=Ze1 hne z1 z2 (Y0 _ _);rcases Zsu hp hp' z1 z2 (g2 z1) (g4 z2) (N.edge_dt J O Y hT y1) (N.edge_dt J O Z hT y2) with ⟨e1,e2⟩|⟨e1,e2⟩
  ·exact .inl ⟨N.inj _ J _ Y e1,N.inj _ O _ Z e2⟩
  ·exact .inr ⟨N.inj _ J _ Z e1,N.inj _ O _ Y e2⟩
 obtain⟨u,v,e,hpu,Y,Z,hz⟩:=N.seg h hx hy hp;obtain⟨I,D,e',hpu',J,O,hz'⟩:=N.seg h' hx' hy' hp';have fin:(I=u/\D=v)\/(I=v/\D=u):=by
  rcases hz with ⟨z,hz,hT,hi⟩|hg
  ·rcases hz' with ⟨z',hz',hT',hi'⟩|hg'
   ·obtain⟨m1,m2⟩:=Zia hpu.ne hpu.1 hpu.2 (N.side hT Y Z hz);have:=hpu'.1;rcases N.same_tri hS hts hmem hT Y Z hz hT' J O hz' hi hi' with ⟨rfl,rfl,rfl⟩|⟨rfl,rfl,rfl⟩|⟨rfl,rfl,rfl⟩
    ·exact .inl ⟨rfl,rfl⟩
    ·omega
    ·omega
   ·rcases ghost hg' J O hpu' hT Y Z hpu with ⟨r1,r2⟩|⟨r1,r2⟩
    ·exact .inl ⟨r1.symm,r2.symm⟩
    ·exact .inr ⟨r2.symm,r1.symm⟩
  ·rcases hz' with ⟨z',hz',hT',hi'⟩|hg'
   ·exact ghost hg Y Z hpu hT' J O hpu'
   ·exact ghost hg Y Z hpu hg' J O hpu'
 clear hz hz' ghost;omega
end
structure Tile (l:List Pt)(ts:List T3):Prop where
 one:∀ (p:Pt) (t t':T3),t∈ts->t'∈ts->Zbt p (pOf l t.1) (pOf l t.2.1) (pOf l t.2.2)->Zbt p (pOf l t'.1) (pOf l t'.2.1) (pOf l t'.2.2)->t=t'
 mid:∀ (p:Pt) (x y:Int),X3 ts x y->Z4 p (pOf l x) (pOf l y)->∀ t∈ts,¬ Zbt p (pOf l t.1) (pOf l t.2.1) (pOf l t.2.2)
 edge:∀ (p:Pt) (x y x' y':Int),X3 ts x y->X3 ts x' y'->Z4 p (pOf l x) (pOf l y)->Z4 p (pOf l x') (pOf l y')->(x'=x/\y'=y)\/(x'=y/\y'=x)
theorem Z3n {ts:List T3}(e:ts.Pairwise Y8):ts.Nodup:=by
 refine e.imp ?_;rintro s t h rfl;obtain⟨x,y,z⟩:=s;unfold Y8 at h;omega
theorem Z3o {l:List Pt} {is:List Nat} {t p q r:Nat} {ts:List T3} (hio:InOrder l is) (hnd:l.Nodup) (hn:Zv l) (BS:Base l is t p q r)
  (hm:∀ x y z,(x,y,z)∈ts↔Xi l is t p q r is.length x y z/\0<=x/\x<y/\x<z) (hp:ts.Pairwise Y8):Tile l ts:=by
 obtain⟨N,hSn,hSr⟩:=Zka hio hnd hn BS is.length (Nat.le_refl _);clear BS;generalize sAt is t p q r is.length=S at *
 generalize Xi l is t p q r is.length=Tr at *
 have htn:=Z3n hp;have real:∀ t∈ts,Tr t.1 t.2.1 t.2.2/\t.1∈S/\t.2.1∈S/\t.2.2∈S:=by
  rintro⟨x,y,z⟩ D;obtain⟨h,h0,h1,h2⟩:=(hm x y z).1 D;exact⟨h,N.mem h h0,N.mem (N.rot h) (show 0<=y by omega),N.mem (N.rot (N.rot h)) (show 0<=z by omega)⟩
 have gone:∀ x y,X3 ts x y->∃ w,Tr x y w/\x∈S/\y∈S:=by
  rintro x y ⟨t,D,k,hk,e1,e2⟩;obtain⟨h,J,O,I⟩:=real t D;have hk3:k=0\/k=1\/k=2:=by omega
  rcases hk3 with rfl|rfl|rfl <;> simp only[Nat.zero_add,Nat.reduceAdd,Nat.reduceMod,Zh1,Zh2,Zh3] at e1 e2 <;> subst e1 e2
  ·exact⟨_,h,J,O⟩
  ·exact⟨_,N.rot h,O,I⟩
  ·exact⟨_,N.rot (N.rot h),I,J⟩
 refine⟨fun p t t' h e w w'=>N.one hSn htn hm p h e (Znl p _ _ _ w) (Znl p _ _ _ w'),fun p x y Z Y t D=>?_,fun p x y x' y' Z hg' Y hs'=>?_⟩
 ·obtain⟨w,h,hx,hy⟩:=gone x y Z;obtain⟨e,J,O,I⟩:=real t D;exact N.seg_out hSn htn hm h hx hy Y e J O I
 ·obtain⟨w,h,hx,hy⟩:=gone x y Z;obtain⟨w',e,hx',hy'⟩:=gone x' y' hg';exact N.seg_one hSn htn hm h hx hy Y e hx' hy' hs'
end Go.Proofs.YtgpapegpdfonpaaGreatDoor
namespace Go.Proofs.YtgpapegpdfonpaaGreatDoor
open Go.RowKit
def dW (a b:Pt):Int:=wrap64 (wrap64 (wrap64 (a.1-b.1)*wrap64 (a.1-b.1))+wrap64 (wrap64 (a.2-b.2)*wrap64 (a.2-b.2)))
theorem Zib {n:Int}(D: -9223372036854775808<=n)(e:n<=9223372036854775807):wrap64 n=n:=by unfold wrap64;omega
theorem Zsv {a b:Pt}(D:Near a.1 a.2)(e:Near b.1 b.2):dW a b=dst a b:=by
 obtain⟨O,a2,J,a4⟩:=D;obtain⟨I,b2,Z,Y⟩:=e;have m1:=@Zag (a.1-b.1) (a.1-b.1) 16000 16000 (by omega) (by omega) (by omega) (by omega);have m2:=@Zag (a.2-b.2) (a.2-b.2) 16000 16000 (by omega) (by omega) (by omega) (by omega);unfold dW dst;rw[Zib (n:=a.1-b.1) (by omega) (by omega),Zib (n:=a.2-b.2) (by omega) (by omega),Zib (n:=(a.1-b.1)*(a.1-b.1)) (by omega) (by omega),Zib (n:=(a.2-b.2)*(a.2-b.2)) (by omega) (by omega),Zib (by omega) (by omega)]
def Z1 (l:List Pt)(p:Pt):Nat->Int
 | 0=> -1
 | k+1=>if Z1 l p k<0\/dW (Za l k) p<dW (pOf l (Z1 l p k)) p then (k:Int) else Z1 l p k
theorem Zgx (l:List Pt)(p:Pt):∀ k,0<k->0<=Z1 l p k/\Z1 l p k<k
 | 0,h=>by omega
 | 1,_=>by simp[Z1]
 | k+2,_=>by
  have:=Zgx l p (k+1) (by omega);rw[Z1];split <;> omega
def Yv:List Int->Int->Int
 | [],_=> -1
 | m :: r,n=>if m=n then 0 else if Yv r n<0 then -1 else Yv r n+1
theorem Znm {n:Int}:∀ {l:List Int},n ∉ l->Yv l n= -1
 | [],_=>rfl
 | m :: r,h=>by
  simp only[List.mem_cons,not_or] at h;rw[Yv,if_neg (fun e=>h.1 e.symm),Znm h.2,if_pos (by omega)]
theorem Znn {n:Int}:∀ {l:List Int} {k:Nat},k<l.length->(∀ j,j<k->l.getD j 0≠n)->l.getD k 0=n->Yv l n=k
 | [],k,h,_,_=>by simp at h
 | m :: r,0,_,_,e=>by
  rw[Yv,if_pos (by simpa using e)];rfl
 | m :: r,k+1,h,h1,e=>by
  have D:=h1 0 (by omega);have:=Znn (l:=r) (k:=k) (by simpa using h) (fun j I=>by simpa using h1 (j+1) (by omega)) (by simpa using e);rw[Yv,if_neg (by simpa using D),this,if_neg (by omega)];omega
def Z5 (t:T3)(n:Int):Bool:=t.1 == n || t.2.1 == n || t.2.2 == n
def Xa (l:List Pt)(a b k:Nat):Bool:=(List.range k).all fun c=>c == a || c == b || decide (0<=dt (Za l a) (Za l b) (Za l c))
def Zbz (l:List Pt)(ts:List T3)(e:Bool)(a b:Nat):Bool:=(e && Xa l a b l.length) || ts.any fun t=>Z5 t a && Z5 t b
def Yi (l:List Pt)(ts:List T3)(D:Bool)(a b:Nat):List (Nat×Nat):=((List.range b).filter fun e=>decide (a<e) && Zbz l ts D a e).map fun e=>(a,e)
def Zm (l:List Pt)(ts:List T3)(e:Bool)(a:Nat):List (Nat×Nat):=(List.range a).flatMap fun D=>Yi l ts e D l.length
theorem Zea {l:List Pt}{ts:List T3}{O:Bool}{n a b:Nat}:(a,b)∈Zm l ts O n↔a<n/\a<b/\b<l.length/\Zbz l ts O a b=true:=by
 simp only[Zm,Yi,List.mem_flatMap,List.mem_map,List.mem_filter,List.mem_range,Bool.and_eq_true,decide_eq_true_eq,Prod.mk.injEq];constructor
 ·rintro⟨Y,I,Z,⟨e,J,D⟩,rfl,rfl⟩;exact⟨I,J,e,D⟩
 ·rintro⟨I,e,J,D⟩;exact⟨a,I,b,⟨J,e,D⟩,rfl,rfl⟩
def Zdb (l:List Pt)(p:Pt)(t:T3):Prop:=Zbt p (pOf l t.1) (pOf l t.2.1) (pOf l t.2.2)
def Xl (l:List Pt)(ts:List T3)(J:List (Nat×Nat))(p:Pt)(k a b c:Int):Prop:=
 (∃ i:Nat,i<l.length/\Za l i=p/\k=3/\a=i/\b= -1/\c= -1)\/
 ((∀ i,i<l.length->Za l i≠p)/\∃ q∈J,Z4 p (Za l q.1) (Za l q.2)/\k=2/\a=q.1/\b=q.2/\c= -1)\/
 ((∀ i,i<l.length->Za l i≠p)/\(∀ q∈J,¬ Z4 p (Za l q.1) (Za l q.2))/\∃ t∈ts,Zdb l p t/\k=1/\a=t.1/\b=t.2.1/\c=t.2.2)\/
 ((∀ i,i<l.length->Za l i≠p)/\(∀ q∈J,¬ Z4 p (Za l q.1) (Za l q.2))/\(∀ t∈ts,¬ Zdb l p t)/\k=0/\a= -1/\b= -1/\c= -1)
def Zdc (l:List Pt):Prop:=∀ i,2<=i->i<l.length->sd (Za l 0) (Za l 1) (Za l i)=0
def Zau (l:List Pt)(ts:List T3):Prop:=ts.length<=4000/\((Zdc l/\ts=[])\/(¬ Zdc l/\IsOk l ts/\Tile l ts/\ts≠ []))
theorem Zno {l:List Pt}{ts:List T3}(hf:Zw l=0)(Z:Xr l ts)(hl:ts.length<=4000):Zau l ts:=by
 obtain⟨hl60,hfar,D⟩:=Zf7 hf;have aa:=Zhh hfar;refine⟨hl,?_⟩;obtain⟨is,I,Z⟩:=Z;rcases Z with ⟨hall,h⟩|⟨t,p,q,r,Y,J,O⟩
 ·exact .inl ⟨fun i h2 hi=>Zse I D hall (by omega) (by omega) (by omega) hi,h⟩
 ·have F:=Zsf I D aa Y J O;obtain⟨i,h1,h2,h3⟩:=F.off;refine .inr ⟨fun hflat=>h3 (hflat i h1 h2),F,Z3o I D aa Y J O,fun e=>?_⟩;obtain⟨x,hx,_⟩:=(Zm7 I D aa (Zhl I D) (Zjb I D) Y J O).used 0 (by omega);rw[e] at hx;cases hx
theorem Zau.nums {l:List Pt}{ts:List T3}(h:Zau l ts):∀ t∈ts,0<=t.1/\t.1<l.length/\0<=t.2.1/\t.2.1<l.length/\0<=t.2.2/\t.2.2<l.length:=by
 rcases h.2 with ⟨_,rfl⟩|⟨_,F,_,_⟩
 ·intro t e;cases e
 ·intro t e;obtain⟨⟨O,D,Y,J,I⟩,_⟩:=F.tri t e;omega
open Classical in
noncomputable def flB (l:List Pt):Bool:=decide (Zdc l)
open Classical in
theorem Zic (l:List Pt):flB l=true↔Zdc l:=by unfold flB;exact decide_eq_true_iff
theorem Zid {l:List Pt}(J:l.Nodup)(h:Zdc l){a b c:Nat}(ha:a<l.length)(hb:b<l.length)(O:c<l.length):sd (Za l a) (Za l b) (Za l c)=0:=by
 by_cases h2:2<=l.length
 ·have Z:Za l 0≠Za l 1:=fun e=>by have:=Zbk J (show 0<l.length by omega) (show 1<l.length by omega) e;omega
  have I:∀ k,k<l.length->sd (Za l 0) (Za l 1) (Za l k)=0:=fun k hk=>by
   by_cases e0:k=0
   ·subst e0;exact Yu _ _
   ·by_cases D:k=1
    ·subst D;exact Y0 _ _
    ·exact h k (by omega) hk
  exact Ze1 Z (I a ha) (I b hb) (I c O)
 ·have D:a=0:=by omega
  have Y:b=0:=by omega
  subst D Y;unfold sd;grind
theorem Znp {ts:List T3}{t:T3}(I:t∈ts){a b:Nat}(Z:a≠b)(D:Z5 t a=true)(e:Z5 t b=true):X3 ts a b\/X3 ts b a:=by
 unfold Z5 at D e;simp only[Bool.or_eq_true,beq_iff_eq] at D e;have O:Zl t 0=t.1:=rfl;have J:Zl t 1=t.2.1:=rfl;have Y:Zl t 2=t.2.2:=rfl;rcases D with (D|D)|D <;> rcases e with (e|e)|e
 ·omega
 ·exact .inl ⟨t,I,0,by omega,by rw[O,D],by rw[show (0+1) % 3=1 from rfl,J,e]⟩
 ·exact .inr ⟨t,I,2,by omega,by rw[Y,e],by rw[show (2+1) % 3=0 from rfl,O,D]⟩
 ·exact .inr ⟨t,I,0,by omega,by rw[O,e],by rw[show (0+1) % 3=1 from rfl,J,D]⟩
 ·omega
 ·exact .inl ⟨t,I,1,by omega,by rw[J,D],by rw[show (1+1) % 3=2 from rfl,Y,e]⟩
 ·exact .inl ⟨t,I,2,by omega,by rw[Y,D],by rw[show (2+1) % 3=0 from rfl,O,e]⟩
 ·exact .inr ⟨t,I,1,by omega,by rw[J,e],by rw[show (1+1) % 3=2 from rfl,Y,D]⟩
 ·omega
theorem Zkn {l:List Pt}{a b c:Nat}(h:Xa l a b l.length=true)(e:c<l.length):0<=dt (Za l a) (Za l b) (Za l c):=by
 unfold Xa at h;rw[List.all_eq_true] at h;have:=h c (List.mem_range.2 e);simp only[Bool.or_eq_true,beq_iff_eq,decide_eq_true_eq] at this;rcases this with (rfl|rfl)|h
 ·unfold dt;grind
 ·unfold dt;grind
 ·exact h
theorem Z3p {l:List Pt}{ts:List T3}(I:l.Nodup)(hG:Zau l ts){p:Pt}{q q':Nat×Nat}(hq:q∈Zm l ts (flB l) l.length)(hq':q'∈Zm l ts (flB l) l.length)(J:Z4 p (Za l q.1) (Za l q.2))(O:Z4 p (Za l q'.1) (Za l q'.2)):q=q':=by
 obtain⟨a,b⟩:=q;obtain⟨c,d⟩:=q';obtain⟨h1,h2,h3,Z⟩:=Zea.1 hq;obtain⟨k1,k2,k3,Y⟩:=Zea.1 hq';simp only at J O;rcases hG.2 with ⟨hf,rfl⟩|⟨hf,_,T,_⟩
 ·have e:flB l=true:=(Zic l).2 hf;rw[e] at Z Y;have f1:Xa l a b l.length=true:=by simpa [Zbz] using Z
  have f2:Xa l c d l.length=true:=by simpa [Zbz] using Y
  rcases Zsu J O (Zid I hf h1 h3 k1) (Zid I hf h1 h3 k3) (Zkn f1 k1) (Zkn f1 k3) (Zkn f2 h1) (Zkn f2 h3) with ⟨e1,e2⟩|⟨e1,e2⟩
  ·have:=Zbk I k1 h1 e1;have:=Zbk I k3 h3 e2;rw[Prod.mk.injEq];omega
  ·have:=Zbk I k1 h3 e1;have:=Zbk I k3 h1 e2;omega
 ·have e:flB l=false:=by
   cases hb:flB l with
   | false=>rfl
   | true=>exact absurd ((Zic l).1 hb) hf
  rw[e] at Z Y;unfold Zbz at Z Y;rw[Bool.false_and,Bool.false_or,List.any_eq_true] at Z Y;obtain⟨t,ht,hh⟩:=Z;obtain⟨t',ht',hh'⟩:=Y;rw[Bool.and_eq_true] at hh hh';have key:∀ {a b c d:Nat},X3 ts a b->X3 ts c d->Z4 p (Za l a) (Za l b)->Z4 p (Za l c) (Za l d)->(c=a/\d=b)\/(c=b/\d=a):=fun g D s s'=>by
   have:=T.edge p _ _ _ _ g D (by rw[Zby,Zby];exact s) (by rw[Zby,Zby];exact s');omega
  rw[Prod.mk.injEq];rcases Znp ht (by omega) hh.1 hh.2 with g|g <;> rcases Znp ht' (by omega) hh'.1 hh'.2 with D|D
  ·have:=key g D J O;omega
  ·have:=key g D J O.symm;omega
  ·have:=key g D J.symm O;omega
  ·have:=key g D J.symm O.symm;omega
theorem Z3q {l:List Pt}{ts:List T3}(ab:l.Nodup)(hG:Zau l ts){p:Pt}{k a b c k' a' b' c':Int}(h:Xl l ts (Zm l ts (flB l) l.length) p k a b c)(h':Xl l ts (Zm l ts (flB l) l.length) p k' a' b' c'):k=k'/\a=a'/\b=b'/\c=c':=by
 rcases h with ⟨i,hi,e,r1,r2,r3,r4⟩|⟨hno,q,hq,hs,r1,r2,r3,r4⟩|⟨hno,hj,t,ht,hin,r1,r2,r3,r4⟩|⟨hno,hj,hti,r1,r2,r3,r4⟩ <;>
 rcases h' with ⟨Z,I,J,s1,s2,s3,s4⟩|⟨D,q',Y,aa,s1,s2,s3,s4⟩|⟨D,O,t',ht',hin',s1,s2,s3,s4⟩|⟨D,O,hti',s1,s2,s3,s4⟩
 ·have:=Zbk ab hi I (e.trans J.symm);omega
 ·exact absurd e (D i hi)
 ·exact absurd e (D i hi)
 ·exact absurd e (D i hi)
 ·exact absurd J (hno Z I)
 ·have:=Z3p ab hG hq Y hs aa;subst this;omega
 ·exact absurd hs (O q hq)
 ·exact absurd hs (O q hq)
 ·exact absurd J (hno Z I)
 ·exact absurd aa (hj q' Y)
 ·have:t=t':=by
   rcases hG.2 with ⟨_,rfl⟩|⟨_,_,T,_⟩
   ·cases ht
   ·exact T.one p t t' ht ht' hin hin'
  subst this;omega
 ·exact absurd hin (hti' t ht)
 ·exact absurd J (hno Z I)
 ·exact absurd aa (hj q' Y)
 ·exact absurd hin' (hti t' ht')
 ·omega
structure MS where
 pts:List Pt
 nums:List Int
 ever:Nat
 ts:List T3
structure MS.Ok (s:MS):Prop where
 len:s.pts.length=s.nums.length
 le:s.pts.length<=60
 near:Zv s.pts
 nd:s.pts.Nodup
 inc:s.nums.Pairwise (· < ·)
 rng:∀ n∈s.nums,0<=n/\n<s.ever
 good:Zau s.pts s.ts
def Yc (e:List Int)(i:Int):Int:=if 0<=i then e.getD i.toNat 0 else i
def Xm (e:List Int)(t:T3):T3:=(e.getD t.1.toNat 0,e.getD t.2.1.toNat 0,e.getD t.2.2.toNat 0)
theorem Z3r {D:List Int}(h:D.Pairwise (· < ·)){i j:Nat}(hi:i<D.length)(I:j<D.length)(e:D.getD i 0=D.getD j 0):i=j:=by
 have J:D.getD i 0=D[i]:=by simp[hi]
 have O:D.getD j 0=D[j]:=by simp[I]
 rw[J,O] at e;have:=List.pairwise_iff_getElem.1 h;rcases Nat.lt_trichotomy i j with k|k|k
 ·have:=this i j hi I k;omega
 ·exact k
 ·have:=this j i I hi k;omega
theorem Zko {D:List Int}(h:D.Pairwise (· < ·)){i:Nat}(hi:i<D.length):Yv D (D.getD i 0)=i:=
 Znn hi (fun j I e=>by have:=Z3r h (by omega) hi e;omega) rfl
theorem Zie {e:List Int}{i:Nat}(h:i<e.length):e.getD i 0∈e:=by
 have:e.getD i 0=e[i]:=by simp[h]
 rw[this];exact List.getElem_mem h
theorem Z57 {a b c p:Pt}(h:0<sd a b c)(h0:sd a b p=0)(h1:0<=sd b c p)(h2:0<=sd c a p)(na:p≠a)(nb:p≠b):Z4 p a b:=by
 refine⟨h0,?_⟩;obtain⟨e1,e2,D⟩:=Zkk a b c p;rw[h0] at e1 e2 D;have hab:a≠b:=by rintro rfl;unfold sd at h;grind
 have hd:0<dst a b:=Zja hab;generalize sd a b c=S at *
 generalize sd b c p=u at *
 generalize sd c a p=v at *
 have J:S*(p.1-a.1)=v*(b.1-a.1):=by subst D;grind
 have O:S*(p.2-a.2)=v*(b.2-a.2):=by subst D;grind
 have Y:S*(p.1-b.1)=u*(a.1-b.1):=by subst D;grind
 have Z:S*(p.2-b.2)=u*(a.2-b.2):=by subst D;grind
 have I:S≠0:=by omega
 have hv:0<v:=by
  rcases Int.lt_or_eq_of_le h2 with k|k
  ·exact k
  ·exfalso;apply na;rw[<-k,Int.zero_mul] at J O;have z1:=(Int.mul_eq_zero.1 J).resolve_left I;have z2:=(Int.mul_eq_zero.1 O).resolve_left I;exact Prod.ext (by omega) (by omega)
 have hu:0<u:=by
  rcases Int.lt_or_eq_of_le h1 with k|k
  ·exact k
  ·exfalso;apply nb;rw[<-k,Int.zero_mul] at Y Z;have z1:=(Int.mul_eq_zero.1 Y).resolve_left I;have z2:=(Int.mul_eq_zero.1 Z).resolve_left I;exact Prod.ext (by omega) (by omega)
 have key:S*(S*dt a b p)= - (u*v*dst a b):=by
  have e:S*(S*dt a b p)=(S*(p.1-a.1))*(S*(p.1-b.1))+(S*(p.2-a.2))*(S*(p.2-b.2)):=by unfold dt;grind
  rw[e,J,O,Y,Z];unfold dst;grind
 have hpos:0<u*v*dst a b:=Int.mul_pos (Int.mul_pos hu hv) hd;exact Ziu h (Ziu h (by rw[key];omega))
theorem Ztn {p A B:Pt}(h:Z4 p A B)(Z:A.1<B.1):plt A p/\plt p B:=by
 obtain⟨I,Y⟩:=h;have O:A≠B:=fun e=>by rw[e] at Z;omega
 obtain⟨t0,t1⟩:=Zkm O I Y;have D:=Zkl A B p;have J:=Za9 O;rw[I,Int.zero_mul,Int.sub_zero] at D;have g1:0<p.1-A.1:=Ziv J (by rw[D];exact Int.mul_pos t0 (by omega));have g2:p.1-B.1<0:=by
  refine Ziu J ?_;have e:Zz A B*(p.1-B.1)= - ((Zz A B-tau A B p)*(B.1-A.1)):=by
   have:Zz A B*(p.1-B.1)=Zz A B*(p.1-A.1)-Zz A B*(B.1-A.1):=by grind
   rw[this,D];grind
  have:0<(Zz A B-tau A B p)*(B.1-A.1):=Int.mul_pos (by omega) (by omega);omega
 exact⟨.inl (by omega),.inl (by omega)⟩
theorem Zto {p A B:Pt}(h:Z4 p A B):(plt A p/\plt p B)\/(plt B p/\plt p A):=by
 rcases Int.lt_trichotomy A.1 B.1 with k|k|k
 ·exact .inl (Ztn h k)
 ·have Z:=h.ne;obtain⟨J,I⟩:=h;have O:B.2-A.2≠0:=fun e=>Z (Prod.ext k (by omega))
  have hp:p.1=A.1:=by
   unfold sd at J;rw[show B.1-A.1=0 by omega,Int.zero_mul] at J;have:(B.2-A.2)*(p.1-A.1)=0:=by omega
   have:=(Int.mul_eq_zero.1 this).resolve_left O;omega
  have D:(p.2-A.2)*(p.2-B.2)<0:=by
   unfold dt at I;rw[show p.1-A.1=0 by omega,Int.zero_mul] at I;omega
  rcases Int.lt_or_le A.2 p.2 with Y|Y
  ·have:=Ziu (show 0<p.2-A.2 by omega) D;exact .inl ⟨.inr ⟨by omega,by omega⟩,.inr ⟨by omega,by omega⟩⟩
  ·have k2:0<p.2-B.2:=by
    rcases Int.lt_or_le 0 (p.2-B.2) with q|q
    ·exact q
    ·have:=Int.mul_nonneg_of_nonpos_of_nonpos (show p.2-A.2<=0 by omega) q;omega
   have k3:p.2≠A.2:=fun e=>by rw[e,Int.sub_self,Int.zero_mul] at D;omega
   exact .inr ⟨.inr ⟨by omega,by omega⟩,.inr ⟨by omega,by omega⟩⟩
 ·exact .inr (Ztn h.symm k)
theorem Z58 {p A B:Pt}(I:sd A B p=0)(J:plt A p)(D:plt p B):Z4 p A B:=by
 refine⟨I,?_⟩;have aa:=Zlt I (Zit J) (Zit D);have ab:dt A B p≠0:=fun e=>by
  have Z:dt A B p*dt A B p+sd A B p*sd A B p=dst p A*dst p B:=by unfold dt sd dst;grind
  rw[e,I] at Z;have O:0<dst p A:=Zja fun e=>by rw[e] at J;exact Xs _ J
  have Y:0<dst p B:=Zja fun e=>by rw[e] at D;exact Xs _ D
  have:=Int.mul_pos O Y;omega
 omega
theorem Zcf {l:List Pt}{p:Pt}{i:Nat}(h:i<l.length):Za (l ++ [p]) i=Za l i:=by
 unfold Za px py;simp[List.getElem?_append_left h]
theorem Zii (l:List Pt)(p:Pt):Za (l ++ [p]) l.length=p:=by unfold Za px py;simp
theorem Ztp {l:List Pt}{is:List Nat}(D:InOrder l is)(J:l.Nodup){i j:Nat}(O:i<j)(I:j<is.length):plt (Za l (is.getD i 0)) (Za l (is.getD j 0)):=by
 have h:=D.sorted i j O I;rcases Zej (Za l (is.getD i 0)) (Za l (is.getD j 0)) with k|k|k
 ·exact k
 ·exfalso;have e:=Zbk J (D.lt _ (Xu (show i<is.length by omega))) (D.lt _ (Xu I)) k;have:=Zdu D.nodup (show i<is.length by omega) I e;omega
 ·exact absurd k h
theorem Zkv {l:List Pt}{is:List Nat}(O:InOrder l is){c:Nat}(I:c<l.length):∃ j,j<is.length/\is.getD j 0=c:=by
 have J:c∈is:=O.perm.mem_iff.2 (List.mem_range.2 I);obtain⟨j,D,e⟩:=List.getElem_of_mem J;exact⟨j,D,by simp[D,e]⟩
section
variable {l:List Pt} {p:Pt} {is:List Nat} {i:Nat}
theorem Zn3 (D:(l ++ [p]).Nodup):∀ j,j<l.length->Za l j≠p:=fun j I e=>by
 have:=Zbk D (show j<(l ++ [p]).length by simp;omega) (show l.length<(l ++ [p]).length by simp) (by rw[Zcf I,Zii];exact e);omega
theorem Z59 (hnd:(l ++ [p]).Nodup)(Y:InOrder (l ++ [p]) is)(hi:i<is.length)(hin:is.getD i 0=l.length){a b:Nat}(ha:a<l.length)(hb:b<l.length)(hs:Z4 p (Za l a) (Za l b)):i≠0/\i+1≠is.length:=by
 obtain⟨O,hja,ea⟩:=Zkv Y (c:=a) (by simp;omega);obtain⟨I,Z,eb⟩:=Zkv Y (c:=b) (by simp;omega);have lt:=fun {x y:Nat} (h:x<y) (hy:y<is.length)=>Ztp Y hnd h hy
 have pa:Za (l ++ [p]) (is.getD O 0)=Za l a:=by rw[ea,Zcf ha]
 have pb:Za (l ++ [p]) (is.getD I 0)=Za l b:=by rw[eb,Zcf hb]
 have e:Za (l ++ [p]) (is.getD i 0)=p:=by rw[hin,Zii]
 have aa:∀ j,j<is.length->plt (Za (l ++ [p]) (is.getD j 0)) p->j<i:=fun j hj h=>by
  rcases Nat.lt_trichotomy j i with k|k|k
  ·exact k
  ·rw[k,e] at h;exact absurd h (Xs _)
  ·have:=lt k hj;rw[e] at this;exact absurd (Zai h this) (Xs _)
 have key':∀ j,j<is.length->plt p (Za (l ++ [p]) (is.getD j 0))->i<j:=fun j hj h=>by
  rcases Nat.lt_trichotomy j i with k|k|k
  ·have:=lt k hi;rw[e] at this;exact absurd (Zai h this) (Xs _)
  ·rw[k,e] at h;exact absurd h (Xs _)
  ·exact k
 rcases Zto hs with ⟨J,D⟩|⟨J,D⟩
 ·have:=aa O hja (by rw[pa];exact J);have:=key' I Z (by rw[pb];exact D);omega
 ·have:=aa I Z (by rw[pb];exact J);have:=key' O hja (by rw[pa];exact D);omega
theorem Z6a (e:(l ++ [p]).Nodup)(O:InOrder (l ++ [p]) is)(hi:i<is.length)(Y:is.getD i 0=l.length)(he:i=0\/i+1=is.length):Xl l [] (Zm l [] (flB l) l.length) p 0 (-1) (-1) (-1):=by
 refine .inr (.inr (.inr ⟨Zn3 e,fun q J D=>?_,(fun t ht=>by cases ht),rfl,rfl,rfl,rfl⟩));obtain⟨a,b⟩:=q;obtain⟨I,h2,Z,_⟩:=Zea.1 J;have:=Z59 e O hi Y I Z D;omega
theorem Z6b (Y:(l ++ [p]).Nodup)(O:InOrder (l ++ [p]) is)(hi:i+1<is.length)(h0:0<i)(hin:is.getD i 0=l.length)(hf:Zdc l):is.getD (i-1) 0<l.length/\is.getD (i+1) 0<l.length/\is.getD (i-1) 0≠is.getD (i+1) 0/\
  (sd (Za l (is.getD (i-1) 0)) (Za l (is.getD (i+1) 0)) p≠0->Xl l [] (Zm l [] (flB l) l.length) p 0 (-1) (-1) (-1))/\
  (sd (Za l (is.getD (i-1) 0)) (Za l (is.getD (i+1) 0)) p=0->Xl l [] (Zm l [] (flB l) l.length) p 2 (min (is.getD (i-1) 0) (is.getD (i+1) 0):Nat) (max (is.getD (i-1) 0) (is.getD (i+1) 0):Nat) (-1)):=by
 have hnl:l.Nodup:=(List.nodup_append.1 Y).1;have hlt:∀ j,j<is.length->j≠i->is.getD j 0<l.length:=fun j Z hne=>by
  have h1:=O.lt _ (Xu Z);have h2:is.getD j 0≠l.length:=fun e=>hne (Zdu O.nodup Z (by omega) (e.trans hin.symm))
  simp only[List.length_append,List.length_cons,List.length_nil] at h1;omega
 have J:=hlt (i-1) (by omega) (by omega);have I:=hlt (i+1) (by omega) (by omega);have hne:is.getD (i-1) 0≠is.getD (i+1) 0:=fun e=>by have:=Zdu O.nodup (show i-1<is.length by omega) (show i+1<is.length by omega) e;omega
 have lt:=fun {x y:Nat} (h:x<y) (hy:y<is.length)=>Ztp O Y h hy
 have pi:Za (l ++ [p]) (is.getD i 0)=p:=by rw[hin,Zii]
 have l1:=lt (show i-1<i by omega) (by omega);have l2:=lt (show i<i+1 by omega) hi;have l3:=lt (show i-1<i+1 by omega) hi;rw[pi,Zcf J] at l1;rw[pi,Zcf I] at l2;rw[Zcf J,Zcf I] at l3;have out:∀ c,c<l.length->c≠is.getD (i-1) 0->c≠is.getD (i+1) 0->plt (Za l c) (Za l (is.getD (i-1) 0))\/plt (Za l (is.getD (i+1) 0)) (Za l c):=fun c D c1 c2=>by
  obtain⟨j,Z,e⟩:=Zkv O (c:=c) (by simp;omega);have n1:j≠i-1:=fun k=>c1 (by rw[<-e,k])
  have n2:j≠i+1:=fun k=>c2 (by rw[<-e,k])
  have n3:j≠i:=fun k=>by rw[k,hin] at e;omega
  rcases Nat.lt_or_ge j i with k|k
  ·have:=lt (show j<i-1 by omega) (by omega);rw[e,Zcf J,Zcf D] at this;exact .inl this
  ·have:=lt (show i+1<j by omega) Z;rw[e,Zcf I,Zcf D] at this;exact .inr this
 generalize is.getD (i-1) 0=a at *
 generalize is.getD (i+1) 0=b at *
 refine⟨J,I,hne,fun hs=>?_,fun hs=>?_⟩
 ·refine .inr (.inr (.inr ⟨Zn3 Y,fun q hq hq2=>?_,(fun t ht=>by cases ht),rfl,rfl,rfl,rfl⟩));obtain⟨c,d⟩:=q;obtain⟨h1,h2,h3,_⟩:=Zea.1 hq;exact hs (Ze1 hq2.ne (Zid hnl hf h1 h3 J) (Zid hnl hf h1 h3 I) hq2.1)
 ·have seg:Z4 p (Za l a) (Za l b):=Z58 hs l1 l2;have free:∀ c,c<l.length->c≠a->c≠b->0<=dt (Za l a) (Za l b) (Za l c):=fun c D c1 c2=>by
   rcases Int.lt_or_le (dt (Za l a) (Za l b) (Za l c)) 0 with k|k
   ·exfalso;have sc:Z4 (Za l c) (Za l a) (Za l b):=⟨Zid hnl hf J I D,k⟩;rcases out c D c1 c2 with o|o <;> rcases Zto sc with ⟨s1,s2⟩|⟨s1,s2⟩
    ·exact Xs _ (Zai o s1)
    ·exact Xs _ (Zai o (Zai l3 s1))
    ·exact Xs _ (Zai o s2)
    ·exact Xs _ (Zai o (Zai s2 l3))
   ·exact k
  have join:∀ {x y:Nat},x<y->x<l.length->y<l.length->(∀ c,c<l.length->c≠x->c≠y->0<=dt (Za l x) (Za l y) (Za l c))->(x,y)∈Zm l [] (flB l) l.length:=fun {x y} hxy hx hy hfr=>by
   refine Zea.2 ⟨hx,hxy,hy,?_⟩;unfold Zbz;rw[(Zic l).2 hf];have:Xa l x y l.length=true:=by
    unfold Xa;rw[List.all_eq_true];intro c D;have D:=List.mem_range.1 D;by_cases e1:c=x
    ·simp[e1]
    ·by_cases e2:c=y
     ·simp[e2]
     ·simp[e1,e2,hfr c D e1 e2]
   simp[this]
  refine .inr (.inl ⟨Zn3 Y,?_⟩);rcases Nat.lt_or_ge a b with k|k
  ·refine⟨(a,b),join k J I free,seg,rfl,?_,?_,rfl⟩
   ·rw[Nat.min_eq_left (by omega)]
   ·rw[Nat.max_eq_right (by omega)]
  ·refine⟨(b,a),join (by omega) I J (fun c D c1 c2=>by rw[Zi1];exact free c D c2 c1),seg.symm,rfl,?_,?_,rfl⟩
   ·rw[Nat.min_eq_right (by omega)]
   ·rw[Nat.max_eq_left (by omega)]
end
section
variable {l:List Pt} {ts:List T3} {p:Pt}
theorem Z6c {l:List Pt}(D:¬ Zdc l):flB l=false:=by
 cases e:flB l with
 | false=>rfl
 | true=>exact absurd ((Zic l).1 e) D
theorem Zau.tri {l:List Pt}{ts:List T3}(D:Zau l ts){t:T3}(O:t∈ts):¬ Zdc l/\IsOk l ts/\Tile l ts:=by
 rcases D.2 with ⟨_,rfl⟩|⟨I,e,J,_⟩
 ·cases O
 ·exact⟨I,e,J⟩
theorem Ztq (J:¬ Zdc l){a b:Nat}(h:(a,b)∈Zm l ts (flB l) l.length):a<l.length/\b<l.length/\a<b/\∃ t∈ts,(X3 [t] a b\/X3 [t] b a):=by
 obtain⟨O,I,Y,e⟩:=Zea.1 h;refine⟨O,Y,I,?_⟩;rw[Z6c J] at e;unfold Zbz at e;rw[Bool.false_and,Bool.false_or,List.any_eq_true] at e;obtain⟨t,Z,D⟩:=e;rw[Bool.and_eq_true] at D;exact⟨t,Z,Znp (List.mem_singleton.2 rfl) (by omega) D.1 D.2⟩
theorem Z6d {t:T3}{a b:Int}(h:X3 [t] a b):(t.1=a/\t.2.1=b)\/(t.2.1=a/\t.2.2=b)\/(t.2.2=a/\t.1=b):=by
 obtain⟨t',I,k,J,D,e⟩:=h;rw[List.mem_singleton.1 I] at D e;have:k=0\/k=1\/k=2:=by omega
 rcases this with rfl|rfl|rfl
 ·exact .inl ⟨D,e⟩
 ·exact .inr (.inl ⟨D,e⟩)
 ·exact .inr (.inr ⟨D,e⟩)
theorem Ztr {t:T3}{a b:Int}(e:t∈ts)(h:X3 [t] a b):X3 ts a b:=by
 obtain⟨t',D,r⟩:=h;rw[List.mem_singleton.1 D] at r;exact⟨t,e,r⟩
def sI (l:List Pt)(p:Pt)(a b:Int):Int:=sd (pOf l a) (pOf l b) p
theorem Z6e (hG:Zau l ts)(hno:∀ i,i<l.length->Za l i≠p){t:T3}(D:t∈ts)(J:0<sI l p t.1 t.2.1)(O:0<sI l p t.2.1 t.2.2)(I:0<sI l p t.2.2 t.1):Xl l ts (Zm l ts (flB l) l.length) p 1 t.1 t.2.1 t.2.2:=by
 obtain⟨hf,F,T⟩:=hG.tri D;refine .inr (.inr (.inl ⟨hno,fun q hq Y=>?_,t,D,⟨J,O,I⟩,rfl,rfl,rfl,rfl⟩));obtain⟨a,b⟩:=q;obtain⟨ha,hb,hab,t',Z,e⟩:=Ztq hf hq;rcases e with e|e
 ·exact T.mid p a b (Ztr Z e) (by rw[Zby,Zby];exact Y) t D ⟨J,O,I⟩
 ·exact T.mid p b a (Ztr Z e) (by rw[Zby,Zby];exact Y.symm) t D ⟨J,O,I⟩
theorem Zn4 (Z:Zau l ts)(O:∀ i,i<l.length->Za l i≠p){t:T3}(I:t∈ts){x y z:Int}(D:t=(x,y,z)\/t=(z,x,y)\/t=(y,z,x))(h0:sI l p x y=0)(h1:0<=sI l p y z)(h2:0<=sI l p z x):Xl l ts (Zm l ts (flB l) l.length) p 2 (min x y) (max x y) (-1):=by
 obtain⟨hf,F,T⟩:=Z.tri I;have hn:=Z.nums t I;have hr:0<=x/\x<l.length/\0<=y/\y<l.length:=by
  rcases D with rfl|rfl|rfl <;> simp only at hn <;> omega
 have J:0<sd (pOf l x) (pOf l y) (pOf l z):=by
  have h:=(F.tri t I).2.1;rcases D with rfl|rfl|rfl
  ·exact h
  ·rw[<-Zdj];rw[<-Zdj];rw[<-Zdj];simpa only[Zdj] using h
  ·simpa only[Zdj] using h
 have nx:p≠pOf l x:=fun e=>O x.toNat (by omega) e.symm
 have ny:p≠pOf l y:=fun e=>O y.toNat (by omega) e.symm
 have seg:=Z57 J h0 h1 h2 nx ny;have hxy:x≠y:=fun e=>by rw[e] at J;unfold sd at J;grind
 have Y:Z5 t x=true:=by rcases D with rfl|rfl|rfl <;> simp[Z5]
 have hy:Z5 t y=true:=by rcases D with rfl|rfl|rfl <;> simp[Z5]
 have mem:∀ {a b:Nat},a<b->b<l.length->Z5 t a=true->Z5 t b=true->(a,b)∈Zm l ts (flB l) l.length:=fun {a b} hab hb ka kb=>by
  refine Zea.2 ⟨by omega,hab,hb,?_⟩;unfold Zbz;rw[Bool.or_eq_true];right;rw[List.any_eq_true];exact⟨t,I,by rw[ka,kb];rfl⟩
 have ex:((x.toNat:Nat):Int)=x:=by omega
 have ey:((y.toNat:Nat):Int)=y:=by omega
 refine .inr (.inl ⟨O,?_⟩);rcases Int.lt_or_le x y with k|k
 ·refine⟨(x.toNat,y.toNat),mem (by omega) (by omega) (by rw[ex];exact Y) (by rw[ey];exact hy),seg,rfl,?_,?_,rfl⟩
  ·show _=((x.toNat:Nat):Int);omega
  ·show _=((y.toNat:Nat):Int);omega
 ·refine⟨(y.toNat,x.toNat),mem (by omega) (by omega) (by rw[ey];exact hy) (by rw[ex];exact Y),seg.symm,rfl,?_,?_,rfl⟩
  ·show _=((y.toNat:Nat):Int);omega
  ·show _=((x.toNat:Nat):Int);omega
theorem Z6f (hG:Zau l ts)(hne:ts≠ [])(hno:∀ i,i<l.length->Za l i≠p)(h:∀ t∈ts,sI l p t.1 t.2.1<0\/sI l p t.2.1 t.2.2<0\/sI l p t.2.2 t.1<0):Xl l ts (Zm l ts (flB l) l.length) p 0 (-1) (-1) (-1):=by
 obtain⟨t0,ht0⟩:=List.exists_mem_of_ne_nil _ hne;obtain⟨hf,F,T⟩:=hG.tri ht0;refine .inr (.inr (.inr ⟨hno,fun q hq e=>?_,fun t O Z=>?_,rfl,rfl,rfl,rfl⟩))
 ·obtain⟨a,b⟩:=q;obtain⟨ha,hb,hab,t,O,D⟩:=Ztq hf hq;have hS:=(F.tri t O).2.1;have key:∀ {u v:Nat},X3 [t] u v->Z4 p (Za l u) (Za l v)->False:=fun {u v} D e=>by
   have e:Z4 p (pOf l u) (pOf l v):=e;have Y:=h t O;unfold sI at Y;rcases Z6d D with ⟨J,I⟩|⟨J,I⟩|⟨J,I⟩
   ·rw[<-J,<-I] at e;have:=Zia e.ne e.1 e.2 hS;have:=e.1;omega
   ·rw[<-J,<-I] at e;have:=Zia e.ne e.1 e.2 (by rw[Zdj];exact hS);have:=e.1;omega
   ·rw[<-J,<-I] at e;have:=Zia e.ne e.1 e.2 (by rw[Zdj,Zdj];exact hS);have:=e.1;omega
  rcases D with D|D
  ·exact key D e
  ·exact key D e.symm
 ·have Y:=h t O;have Z:Zbt p (pOf l t.1) (pOf l t.2.1) (pOf l t.2.2):=Z;unfold sI at Y;obtain⟨i1,i2,i3⟩:=Z;omega
def Zaf (s0 s1 s2:Int)(t:T3):List Int:=
 if s0<0\/s1<0\/s2<0 then [] else if s2=0 then [min t.2.2 t.1,max t.2.2 t.1] else if s1=0 then [min t.2.1 t.2.2,max t.2.1 t.2.2] else if s0=0 then [min t.1 t.2.1,max t.1 t.2.1] else [t.1,t.2.1,t.2.2]
def Zg3 (l:List Pt)(p:Pt)(t:T3):List Int:=Zaf (sI l p t.1 t.2.1) (sI l p t.2.1 t.2.2) (sI l p t.2.2 t.1) t
def Zct (n:Nat):Int:=if n=0 then 0 else if n=1 then 3 else if n=2 then 2 else 1
def Zed (l:List Pt)(ts:List T3)(p:Pt)(e:List Int):Prop:=e.length<=3/\(∀ x∈e,0<=x/\x<l.length)/\Xl l ts (Zm l ts (flB l) l.length) p (Zct e.length) (e.getD 0 (-1)) (e.getD 1 (-1)) (e.getD 2 (-1))
theorem Z6g (e:Zau l ts)(I:∀ i,i<l.length->Za l i≠p){t:T3}(D:t∈ts)(J:Zg3 l p t≠ []):Zed l ts p (Zg3 l p t):=by
 have O:=e.nums t D;unfold Zg3 Zaf at J ⊢;obtain⟨x,y,z⟩:=t;simp only at O J ⊢;by_cases c:sI l p x y<0\/sI l p y z<0\/sI l p z x<0
 ·rw[if_pos c] at J;exact absurd rfl J
 ·rw[if_neg c];by_cases c2:sI l p z x=0
  ·rw[if_pos c2];exact⟨by simp,by simp;omega,Zn4 e I D (.inr (.inr rfl)) c2 (by omega) (by omega)⟩
  ·rw[if_neg c2];by_cases c1:sI l p y z=0
   ·rw[if_pos c1];exact⟨by simp,by simp;omega,Zn4 e I D (.inr (.inl rfl)) c1 (by omega) (by omega)⟩
   ·rw[if_neg c1];by_cases c0:sI l p x y=0
    ·rw[if_pos c0];exact⟨by simp,by simp;omega,Zn4 e I D (.inl rfl) c0 (by omega) (by omega)⟩
    ·rw[if_neg c0];exact⟨by simp,by simp;omega,Z6e e I D (show 0<sI l p x y by omega) (show 0<sI l p y z by omega) (show 0<sI l p z x by omega)⟩
theorem Z6h (e:Zau l ts)(J:ts≠ [])(D:∀ i,i<l.length->Za l i≠p)(h:∀ t∈ts,Zg3 l p t=[]):Zed l ts p []:=by
 refine⟨by simp,by simp,Z6f e J D fun t I=>?_⟩;have:=h t I;unfold Zg3 Zaf at this;split at this
 ·assumption
 ·repeat' split at this
  all_goals simp at this
end
end Go.Proofs.YtgpapegpdfonpaaGreatDoor
