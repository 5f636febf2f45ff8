/- Part. -/
import Derived.Test.YtgpapegpdfonpaaGreatDoorGOwn
import Derived.Deep.CutRange
import Derived.Deep.DeepCutAuto
set_option linter.unusedVariables false
set_option linter.unusedSimpArgs false
set_option maxHeartbeats 16000000
set_option maxRecDepth 100000
namespace Go.Proofs.YtgpapegpdfonpaaGreatDoor
theorem Zp5:∀ {l m:List Pt},Zb3 l->Zb3 m->l.Perm m->l=m
 | [],m,_,_,p=>(List.Perm.nil_eq p)
 | a :: l,[],_,_,p=>absurd p (List.not_perm_cons_nil)
 | a :: l,b :: m,hl,hm,p=>by
  have O:=List.pairwise_cons.1 hl;have J:=List.pairwise_cons.1 hm;have Y:a=b:=by
   have I:a∈b :: m:=p.mem_iff.1 (by simp);have D:b∈a :: l:=p.mem_iff.2 (by simp);rcases List.mem_cons.1 I with e|I
   ·exact e
   ·rcases List.mem_cons.1 D with e|D
    ·exact e.symm
    ·exact absurd (Zai (O.1 b D) (J.1 a I)) (Xs _)
  subst Y;rw[Zp5 O.2 J.2 (List.perm_cons a |>.1 p)]
def cp (l:List Pt)(c:List Nat)(i:Nat):Pt:=Za l (c.getD i 0)
structure Arr (l:List Pt)(c:List Nat):Prop where
 lt:∀ i,i<c.length->c.getD i 0<l.length
 edge:1<c.length->∀ i,i<c.length->∀ k,k<l.length->0<=sd (cp l c i) (cp l c ((i+1) % c.length)) (Za l k)/\(sd (cp l c i) (cp l c ((i+1) % c.length)) (Za l k)=0->dt (cp l c i) (cp l c ((i+1) % c.length)) (Za l k)<=0)
 turn:2<c.length->∀ i,i<c.length->0<sd (cp l c i) (cp l c ((i+1) % c.length)) (cp l c ((i+2) % c.length))
 first:∀ k,k<l.length->ple (cp l c 0) (Za l k)
 le:c.length<=l.length
 two:1<l.length->1<c.length
 one:0<l.length->0<c.length
theorem Zwp (l:List Pt)(is:List Nat):∀ p∈Xg l is,p∈is:=by
 unfold Xg;split
 ·exact fun p e=>e
 ·intro p e;rcases List.mem_append.1 e with e|e
  ·have:=List.dropLast_subset _ e;exact Zln l is p (by simpa [Zcj] using this)
  ·have:=List.dropLast_subset _ e;have:=Zln l is.reverse p (by simpa [upN] using this);simpa using this
theorem Zi8 {l:List Pt}{k:Nat}(h:k<l.length):Za l k∈l:=by
 have:Za l k=l[k]:=by simp[Zi3,h]
 rw[this];exact List.getElem_mem h
theorem Zhl {l:List Pt}{is:List Nat}(Z:InOrder l is)(hnd:l.Nodup):Arr l (Xg l is):=by
 have D:=Zpm (Z.ordered_of hnd);rw[<-Zpp] at D;have hsub:=Zwp l is;have hlt:=Z.lt;have hS:∀ k,k<l.length->Za l k∈is.map (Za l):=fun k J=>Z.pts.mem_iff.2 (Zi8 J)
 have Y:(is.map (Za l)).length=l.length:=Z.pts.length_eq;generalize Xg l is=c at *
 have O:∀ i,i<c.length->at' (c.map (Za l)) i=cp l c i:=fun i hi=>by simp[at',cp,hi]
 have I:(c.map (Za l)).length=c.length:=by simp
 refine⟨?_,?_,?_,?_,?_,?_,?_⟩
 ·intro i hi;exact hlt _ (hsub _ (Xu hi))
 ·intro h1 i hi k J;have:=D.edge (by rw[I];exact h1) i (by rw[I];exact hi) _ (hS k J);rw[I,O i hi,O _ (Nat.mod_lt _ (by omega))] at this;exact this
 ·intro h2 i hi;have:=D.turn (by rw[I];exact h2) i (by rw[I];exact hi);rw[I,O i hi,O _ (Nat.mod_lt _ (by omega)),O _ (Nat.mod_lt _ (by omega))] at this;exact this
 ·intro k J;have:=D.first _ (hS k J)
  by_cases h0:0<c.length
  ·rw[O 0 h0] at this;exact this
  ·have hc:c=[]:=List.length_eq_zero_iff.1 (by omega);have:=D.one (by intro e;have:=hS k J;rw[e] at this;simp at this);exact absurd (by rw[hc];rfl) this
 ·have:=D.le;rw[I,Y] at this;exact this
 ·intro h;have:=D.two (by rw[Y];exact h);rw[I] at this;exact this
 ·intro h;have:=D.one (by intro e;rw[e] at Y;simp at Y;omega);have:c≠ []:=fun e=>this (by rw[e];rfl)
  exact List.length_pos_iff.2 this
theorem Zwq {l:List Pt}(h:Zv l):Ya l=false:=by
 unfold Ya;rw[List.any_eq_false];intro p I;obtain⟨i,hi,rfl⟩:=List.getElem_of_mem I;have:=h i hi;have e:px l i=l[i].1:=by simp[px,hi]
 have D:py l i=l[i].2:=by simp[py,hi]
 rw[e,D] at this;rw[Zd1 this];simp
theorem Zlv {l:List Pt}(I:l.length<=60)(e:Zv l)(D:l.Nodup):Zw l=0:=by
 unfold Zw Zcv;rw[if_neg (by omega),Zwq e,if_neg (by simp),decide_eq_true D,if_neg (by simp)]
def dst (a b:Pt):Int:=(a.1-b.1)*(a.1-b.1)+(a.2-b.2)*(a.2-b.2)
def Zdl (A B Q:Pt):Bool:=decide (sd A B Q<0) || (decide (sd A B Q=0) && decide (dst A B<dst A Q))
def Zen (l:List Pt)(a:Nat)(b:Option Nat)(i:Nat):Option Nat:=
 if i=a then b else match b with
  | none=>some i
  | some b=>if Zdl (Za l a) (Za l b) (Za l i)=true then some i else some b
def Xw (l:List Pt)(a k:Nat):Option Nat:=(List.range k).foldl (Zen l a) none
theorem Zi9 (l:List Pt)(a k:Nat):Xw l a (k+1)=Zen l a (Xw l a k) k:=by simp[Xw,List.range_succ]
theorem Zf9 (x:Int):0<=x*x:=by
 rcases Int.le_total 0 x with h|h
 ·exact Int.mul_nonneg h h
 ·have:=Int.mul_nonneg (show 0<= -x by omega) (show 0<= -x by omega);rwa [Int.neg_mul_neg] at this
theorem Zp6 {x:Int}(h:x≠0):0<x*x:=by
 rcases Int.lt_or_gt_of_ne h with h|h
 ·have:=Int.mul_pos (show 0 < -x by omega) (show 0 < -x by omega);rwa [Int.neg_mul_neg] at this
 ·exact Int.mul_pos h h
theorem Zp7 (A T Q:Pt):dst A T-dst A Q=dst T Q-2*dt A T Q:=by unfold dst dt;grind
theorem Zwr (T Q:Pt):0<=dst T Q:=by
 unfold dst;have:=Zf9 (T.1-Q.1);have:=Zf9 (T.2-Q.2);omega
theorem Zja {T Q:Pt}(h:T≠Q):0<dst T Q:=by
 unfold dst;have J:=Zf9 (T.1-Q.1);have D:=Zf9 (T.2-Q.2);by_cases e:T.1-Q.1=0
 ·have:T.2-Q.2≠0:=fun I=>h (Prod.ext (by omega) (by omega))
  have:=Zp6 this;omega
 ·have:=Zp6 e;omega
theorem Zws (a b c:Pt):sd a c b= - sd a b c:=by unfold sd;grind
structure Tgt (l:List Pt)(a t:Nat):Prop where
 lt:t<l.length
 ne:t≠a
 all:∀ q,q<l.length->0<=sd (Za l a) (Za l t) (Za l q)/\(sd (Za l a) (Za l t) (Za l q)=0->dt (Za l a) (Za l t) (Za l q)<=0)
theorem Zhm {α:Type}{l:List α}(O:l.Nodup){i j:Nat}(hi:i<l.length)(I:j<l.length)(h:l[i]=l[j]):i=j:=by
 have J:=List.pairwise_iff_getElem.1 O;rcases Nat.lt_trichotomy i j with D|e|D
 ·exact absurd h (J i j hi I D)
 ·exact e
 ·exact absurd h.symm (J j i I hi D)
theorem Zbk {l:List Pt}(D:l.Nodup){i j:Nat}(hi:i<l.length)(e:j<l.length)(h:Za l i=Za l j):i=j:=by
 rw[Zi3,Zi3] at h;simp[hi,e] at h;exact Zhm D hi e h
theorem Tgt.stay {l:List Pt}{a t:Nat}(T:Tgt l a t){q:Nat}(I:q<l.length):Zdl (Za l a) (Za l t) (Za l q)=false:=by
 obtain⟨O,D⟩:=T.all q I;unfold Zdl;rw[decide_eq_false (by omega)];by_cases e:sd (Za l a) (Za l t) (Za l q)=0
 ·have:=D e;have J:=Zp7 (Za l a) (Za l t) (Za l q);have:=Zwr (Za l t) (Za l q);rw[decide_eq_false (p:=dst (Za l a) (Za l t)<dst (Za l a) (Za l q)) (by omega)];simp
 ·rw[decide_eq_false e];simp
theorem Tgt.take {l:List Pt}{a t:Nat}(T:Tgt l a t)(I:l.Nodup){b:Nat}(D:b<l.length)(Y:b≠t):Zdl (Za l a) (Za l b) (Za l t)=true:=by
 obtain⟨h1,J⟩:=T.all b D;have Z:=Zws (Za l a) (Za l t) (Za l b);unfold Zdl;by_cases O:sd (Za l a) (Za l t) (Za l b)=0
 ·have:=J O;have hd:=Zp7 (Za l a) (Za l t) (Za l b);have hp:0<dst (Za l t) (Za l b):=Zja fun e=>Y (Zbk I D T.lt e.symm)
  rw[decide_eq_true (p:=sd (Za l a) (Za l b) (Za l t)=0) (by omega),decide_eq_true (p:=dst (Za l a) (Za l b)<dst (Za l a) (Za l t)) (by omega)];simp
 ·rw[decide_eq_true (p:=sd (Za l a) (Za l b) (Za l t)<0) (by omega)];simp
theorem Zp8 (l:List Pt)(a:Nat):∀ k,k<=l.length->∀ b,Xw l a k=some b->b≠a/\b<k:=by
 intro k;induction k with
 | zero=>intro _ b h;simp[Xw] at h
 | succ k ih=>
  intro I b h;rw[Zi9] at h;unfold Zen at h;split at h
  ·have:=ih (by omega) b h;omega
  ·rename_i D;split at h
   ·cases h;exact⟨D,by omega⟩
   ·rename_i J e;split at h
    ·cases h;exact⟨D,by omega⟩
    ·cases h;have:=ih (by omega) _ e;exact⟨this.1,by omega⟩
theorem Zwt {l:List Pt}{a t:Nat}(T:Tgt l a t)(D:l.Nodup):∀ k,t<k->k<=l.length->Xw l a k=some t:=by
 intro k;induction k with
 | zero=>intro h;omega
 | succ k ih=>
  intro h Y;rw[Zi9];by_cases J:t<k
  ·rw[ih J (by omega)];unfold Zen;split
   ·rfl
   ·simp only;rw[T.stay (by omega),if_neg (by simp)]
  ·have e:k=t:=by omega
   subst e;unfold Zen;rw[if_neg T.ne];cases I:Xw l a k with
   | none=>rfl
   | some b=>
    have O:=Zp8 l a k (by omega) b I;simp only;rw[T.take D (by omega) (by omega),if_pos rfl]
theorem Zwu (l:List Pt)(h:l.length=1)(a:Nat)(e:a<l.length):Xw l a l.length=none:=by
 rw[h];have:a=0:=by omega
 subst this;simp[Xw,Zen,List.range_succ]
theorem Zwv {l:List Pt}{c:List Nat}(A:Arr l c)(O:c.Nodup)(J:1<c.length){i:Nat}(hi:i<c.length):Tgt l (c.getD i 0) (c.getD ((i+1) % c.length) 0):=by
 have D:(i+1) % c.length<c.length:=Nat.mod_lt _ (by omega);refine⟨A.lt _ D,?_,fun q Z=>A.edge J i hi q Z⟩;intro e;have h1':c.getD i 0=c[i]:=by simp[hi]
 have Y:c.getD ((i+1) % c.length) 0=c[(i+1) % c.length]:=by simp[D]
 rw[h1',Y] at e;have I:=Zhm O hi D e.symm;rcases Nat.lt_or_ge (i+1) c.length with h|h
 ·rw[Nat.mod_eq_of_lt h] at I;omega
 ·have h3:i+1=c.length:=by omega
  rw[h3,Nat.mod_self] at I;omega
theorem Zjb {l:List Pt}{is:List Nat}(I:InOrder l is)(D:l.Nodup):(Xg l is).Nodup:=by
 have:=(Zpm (I.ordered_of D)).nodup;rw[<-Zpp] at this;exact List.Pairwise.of_map (Za l) (fun a b J e=>J (by rw[e])) this
instance (a b:Pt):Decidable (plt a b):=by unfold plt;exact inferInstance
def Xx (l:List Pt)(k:Nat):Nat:=(List.range' 1 (k-1)).foldl (fun f i=>if decide (plt (Za l i) (Za l f))=true then i else f) 0
theorem Zp9 (l:List Pt):Xx l 1=0:=rfl
theorem Zqa (l:List Pt)(k:Nat)(h:1<=k):Xx l (k+1)=if decide (plt (Za l k) (Za l (Xx l k)))=true then k else Xx l k:=by
 unfold Xx;rw[show k+1-1=(k-1)+1 by omega,List.range'_concat,List.foldl_append];have:1+1*(k-1)=k:=by omega
 simp only[List.foldl_cons,List.foldl_nil,this]
theorem Zqb (l:List Pt):∀ k,1<=k->Xx l k<k/\∀ j,j<k->ple (Za l (Xx l k)) (Za l j):=by
 intro k;induction k with
 | zero=>intro h;omega
 | succ k ih=>
  intro _;by_cases O:k=0
  ·subst O;refine⟨by rw[Zp9];omega,fun j J=>?_⟩;have:j=0:=by omega
   subst this;rw[Zp9];exact Zdf _
  ·obtain⟨Y,I⟩:=ih (by omega);rw[Zqa l k (by omega)];by_cases D:plt (Za l k) (Za l (Xx l k))
   ·rw[decide_eq_true D,if_pos rfl];refine⟨by omega,fun j J=>?_⟩;by_cases e:j=k
    ·subst e;exact Zdf _
    ·exact Zo7 (Zit D) (I j (by omega))
   ·rw[decide_eq_false D,if_neg (by simp)];refine⟨by omega,fun j J=>?_⟩;by_cases e:j=k
    ·subst e;rcases Zej (Za l (Xx l j)) (Za l j) with h|h|h
     ·exact Zit h
     ·rw[h];exact Zdf _
     ·exact absurd h D
    ·exact I j (by omega)
theorem Zww {l:List Pt}{c:List Nat}(A:Arr l c)(J:l.Nodup)(I:0<l.length):Xx l l.length=c.getD 0 0:=by
 obtain⟨D,O⟩:=Zqb l l.length I;have e:=A.lt 0 (A.one I);exact Zbk J D e (Zek (O _ e) (A.first _ D))
end Go.Proofs.YtgpapegpdfonpaaGreatDoor
namespace Go.Proofs.YtgpapegpdfonpaaGreatDoor
open Go.RowKit Go.Proofs.Tryz
open Go.Value(int)
open Go.IntKind(i64)
attribute [local go_sem ↓] Go.wp_at_zero Go.wp_at_succ
theorem Zqc (n:Int)(w:World) :
  Calls prog 118 #[int i64 n] w fun e w'=>e= .returned (int i64 (sg n))/\w'=w:=by
 unfold sg;by_cases I:0<n
 ·rw[if_pos I];go_enter func118,ntmps118;go_wp2
  go_ret;exact⟨rfl,rfl⟩
 ·rw[if_neg I];by_cases D:n<0
  ·rw[if_pos D];go_enter func118,ntmps118;go_wp2
   go_ret;exact⟨rfl,rfl⟩
  ·rw[if_neg D];go_enter func118,ntmps118;go_wp2
   go_ret;exact⟨rfl,rfl⟩
theorem Zwx {x y:Int}(h:8000<x):Zc x y=true:=by
 cases e:Zc x y with
 | true=>rfl
 | false=>have:=(Xp e).x2;omega
theorem Zwy {x y:Int}(h:x < -8000):Zc x y=true:=by
 cases e:Zc x y with
 | true=>rfl
 | false=>have:=(Xp e).x1;omega
theorem Zwz {x y:Int}(h:8000<y):Zc x y=true:=by
 cases e:Zc x y with
 | true=>rfl
 | false=>have:=(Xp e).y2;omega
theorem Zw0 {x y:Int}(h:y < -8000):Zc x y=true:=by
 cases e:Zc x y with
 | true=>rfl
 | false=>have:=(Xp e).y1;omega
theorem Zck (x y:Int)(w:World) :
  Calls prog 63 #[.agg #[int i64 x,int i64 y]] w fun e w'=>e= .returned (.bool (Zc x y))/\Below w.heap.size w w':=by
 by_cases J:8000<x
 ·rw[Zwx J];go_enter func63,ntmps63;go_wp2
  go_ret;exact⟨rfl,Zb _ _⟩
 ·have d1:decide (8000<x)=false:=decide_eq_false J;by_cases D:x < -8000
  ·rw[Zwy D];go_enter func63,ntmps63;go_wp2
   go_ret;exact⟨rfl,Zb _ _⟩
  ·have Z:decide (x < -8000)=false:=decide_eq_false D;by_cases O:8000<y
   ·rw[Zwz O];go_enter func63,ntmps63;go_wp2
    go_ret;exact⟨rfl,Zb _ _⟩
   ·have d3:decide (8000<y)=false:=decide_eq_false O;by_cases I:y < -8000
    ·rw[Zw0 I];go_enter func63,ntmps63;go_wp2
     go_ret;exact⟨rfl,Zb _ _⟩
    ·have Y:decide (y < -8000)=false:=decide_eq_false I;rw[Zd1 ⟨by omega,by omega,by omega,by omega⟩];go_enter func63,ntmps63;go_wp2
     go_ret;exact⟨rfl,Zb _ _⟩
theorem Zbl (D I O Z J Y:Int)(w:World)(a:Near D I)(b:Near O Z)(c:Near J Y) :
  Calls prog 87 #[.agg #[int i64 D,int i64 I],.agg #[int i64 O,int i64 Z],.agg #[int i64 J,int i64 Y]] w fun e w'=>
   e= .returned (int i64 (sg (Zk D I O Z J Y)))/\Below w.heap.size w w':=by
 obtain⟨a1,a2,a3,a4⟩:=a;obtain⟨b1,b2,b3,b4⟩:=b;obtain⟨c1,c2,c3,c4⟩:=c;have m1:=@Zag (O-D) (Y-I) 16000 16000 (by omega) (by omega) (by omega) (by omega);have m2:=@Zag (Z-I) (J-D) 16000 16000 (by omega) (by omega) (by omega) (by omega);unfold Zk;go_enter func87,ntmps87;go_wp2_with (go_at_call 118;refine (Zqc _ _).mono ?_;rintro e w' ⟨rfl,rfl⟩)
 go_ret;exact⟨rfl,Zd0 _ _ _ _⟩
theorem Zqd (D J I O:Int)(w:World)(a:Near D J)(b:Near I O) :
  Calls prog 91 #[.agg #[int i64 D,int i64 J],.agg #[int i64 I,int i64 O]] w fun e w'=>
   e= .returned (int i64 (dst (D,J) (I,O)))/\Below w.heap.size w w':=by
 obtain⟨Z,a2,Y,a4⟩:=a;obtain⟨b1,b2,b3,b4⟩:=b;have m1:=@Zag (D-I) (D-I) 16000 16000 (by omega) (by omega) (by omega) (by omega);have m2:=@Zag (J-O) (J-O) 16000 16000 (by omega) (by omega) (by omega) (by omega);unfold dst;simp only;go_enter func91,ntmps91;go_wp2
 go_ret;exact⟨rfl,Yq _ _ _⟩
theorem Zw1 (D J O I:Int)(w:World) :
  Calls prog 90 #[.agg #[int i64 D,int i64 J],.agg #[int i64 O,int i64 I]] w fun e w'=>
   e= .returned (.bool (decide (plt (D,J) (O,I))))/\Below w.heap.size w w':=by
 by_cases h1:D<O
 ·rw[decide_eq_true (p:=plt (D,J) (O,I)) (by unfold plt;simp only;omega)];go_enter func90,ntmps90;go_wp2
  go_ret;exact⟨rfl,Yq _ _ _⟩
 ·have d1:decide (D<O)=false:=decide_eq_false h1;by_cases Y:D=O
  ·subst Y;by_cases Z:J<I
   ·rw[decide_eq_true (p:=plt (D,J) (D,I)) (.inr ⟨rfl,Z⟩)];go_enter func90,ntmps90;go_wp2
    go_ret;exact⟨rfl,Yq _ _ _⟩
   ·rw[decide_eq_false (p:=plt (D,J) (D,I)) (by unfold plt;simp only;omega)];have d3:decide (J<I)=false:=decide_eq_false Z;go_enter func90,ntmps90;go_wp2
    go_ret;exact⟨rfl,Yq _ _ _⟩
  ·rw[decide_eq_false (p:=plt (D,J) (O,I)) (by unfold plt;simp only;omega)];have d2:(D == O)=false:=beq_eq_false_iff_ne.2 Y;go_enter func90,ntmps90;go_wp2
   go_ret;exact⟨rfl,Yq _ _ _⟩
theorem Zqe (ax ay bx by' cx cy Z Y:Int)(w:World)(a:Near ax ay)(b:Near bx by')(c:Near cx cy)(d:Near Z Y) :
  Calls prog 88 #[.agg #[int i64 ax,int i64 ay],.agg #[int i64 bx,int i64 by'],.agg #[int i64 cx,int i64 cy],.agg #[int i64 Z,int i64 Y]] w fun e w'=>
   e= .returned (int i64 (sg (Zk ax ay bx by' cx cy)*sg (Zan ax ay bx by' cx cy Z Y)))/\Below w.heap.size w w':=by
 have ha:=a;have hb:=b;have hc:=c;obtain⟨a1,a2,a3,a4⟩:=a;obtain⟨b1,b2,b3,b4⟩:=b;obtain⟨c1,c2,c3,c4⟩:=c;obtain⟨d1,d2,d3,d4⟩:=d;unfold Zan;have B1: -16000<=ax-Z/\ax-Z<=16000:=by omega
 have B2: -16000<=ay-Y/\ay-Y<=16000:=by omega
 have B3: -16000<=bx-Z/\bx-Z<=16000:=by omega
 have B4: -16000<=by'-Y/\by'-Y<=16000:=by omega
 have B5: -16000<=cx-Z/\cx-Z<=16000:=by omega
 have B6: -16000<=cy-Y/\cy-Y<=16000:=by omega
 have HS:=fun W=>Zbl ax ay bx by' cx cy W ha hb hc
 have hsb:=Zir (Zk ax ay bx by' cx cy);generalize sg (Zk ax ay bx by' cx cy)=S at *
 have v1:=Zd (n:=ax-Z) (by omega) (by omega);have v2:=Zd (n:=ay-Y) (by omega) (by omega);have v3:=Zd (n:=bx-Z) (by omega) (by omega);have v4:=Zd (n:=by'-Y) (by omega) (by omega);have v5:=Zd (n:=cx-Z) (by omega) (by omega);have v6:=Zd (n:=cy-Y) (by omega) (by omega);go_enter func88,ntmps88;go_wp2_with (go_at_call 87;refine (HS _).mono ?_;rintro e w1 ⟨rfl,hb1⟩)
 have hw1:Below w.heap.size w w1:=(Zfy _ _ _ _ _).trans (hb1.mono (by simp;omega));have k0:w1.cell? ⟨w.heap.size,0,none⟩=some (int i64 ax):=(hb1.cell (p:=⟨w.heap.size,0,none⟩) (by simp;omega)).trans (by simp[go_sem]);have k1:w1.cell? ⟨w.heap.size,1,none⟩=some (int i64 ay):=(hb1.cell (p:=⟨w.heap.size,1,none⟩) (by simp;omega)).trans (by simp[go_sem]);have k2:w1.cell? ⟨w.heap.size+1,0,none⟩=some (int i64 bx):=(hb1.cell (p:=⟨w.heap.size+1,0,none⟩) (by simp)).trans (by simp[go_sem]);have k3:w1.cell? ⟨w.heap.size+1,1,none⟩=some (int i64 by'):=(hb1.cell (p:=⟨w.heap.size+1,1,none⟩) (by simp)).trans (by simp[go_sem]);have k4:w1.cell? ⟨w.heap.size+1+1,0,none⟩=some (int i64 cx):=(hb1.cell (p:=⟨w.heap.size+1+1,0,none⟩) (by simp)).trans (by rw[World.cell?_alloc_past _ _ _ (by simp),World.cell?_alloc_at _ _ _ _ (by simp)];rfl);have k5:w1.cell? ⟨w.heap.size+1+1,1,none⟩=some (int i64 cy):=(hb1.cell (p:=⟨w.heap.size+1+1,1,none⟩) (by simp)).trans (by rw[World.cell?_alloc_past _ _ _ (by simp),World.cell?_alloc_at _ _ _ _ (by simp)];rfl);have k6:w1.cell? ⟨w.heap.size+1+1+1,0,none⟩=some (int i64 Z):=(hb1.cell (p:=⟨w.heap.size+1+1+1,0,none⟩) (by simp)).trans (by rw[World.cell?_alloc_at _ _ _ _ (by simp)];rfl);have k7:w1.cell? ⟨w.heap.size+1+1+1,1,none⟩=some (int i64 Y):=(hb1.cell (p:=⟨w.heap.size+1+1+1,1,none⟩) (by simp)).trans (by rw[World.cell?_alloc_at _ _ _ _ (by simp)];rfl);clear hb1;go_quiet (fail);go_wp2_with fail
 go_quiet (fail);go_wp2_with fail
 go_quiet (fail);clear k0 k1 k2 k3 k4 k5 k6 k7 v1 v2 v3 v4 v5 v6 HS;generalize hs1:ax-Z=s1 at *;generalize hs2:ay-Y=s2 at *
 generalize ht1:bx-Z=I at *;generalize ht2:by'-Y=D at *
 generalize hu1:cx-Z=J at *;generalize hu2:cy-Y=O at *
 have HQ:Hid (ax-Z=s1/\ay-Y=s2/\bx-Z=I/\by'-Y=D/\cx-Z=J/\cy-Y=O):=⟨hs1,hs2,ht1,ht2,hu1,hu2⟩;clear hs1 hs2 ht1 ht2 hu1 hu2;have M:∀ {x y:Int},(-16000<=x/\x<=16000)->(-16000<=y/\y<=16000)-> -256000000<=x*y/\x*y<=256000000:=fun {x y} hx hy=>@Zag x y 16000 16000 (by omega) (by omega) (by omega) (by omega)
 have e1:=M B1 B1;have e2:=M B2 B2;have e3:=M B3 B6;have e4:=M B4 B5;have e5:=M B3 B3;have e6:=M B4 B4;have e7:=M B5 B2;have e8:=M B6 B1;have e9:=M B5 B5;have e10:=M B6 B6;have e11:=M B1 B4;have e12:=M B2 B3;have g1:=Zf3 s1 s2 I D J O B1 B2 B3 B4 B5 B6;have g2:=Zf3 I D J O s1 s2 B3 B4 B5 B6 B1 B2;have g3:=Zf3 J O s1 s2 I D B5 B6 B1 B2 B3 B4;have x1:=Zd (n:=s1*s1) (by omega) (by omega);have x2:=Zd (n:=s2*s2) (by omega) (by omega);have x3:=Zd (n:=s1*s1+s2*s2) (by omega) (by omega);have x4:=Zd (n:=I*O) (by omega) (by omega);have x5:=Zd (n:=D*J) (by omega) (by omega);have x6:=Zd (n:=I*O-D*J) (by omega) (by omega);have x7:=Zd (n:=(s1*s1+s2*s2)*(I*O-D*J)) (by omega) (by omega);have x8:=Zd (n:=I*I) (by omega) (by omega);have x9:=Zd (n:=D*D) (by omega) (by omega);have x10:=Zd (n:=I*I+D*D) (by omega) (by omega);have x11:=Zd (n:=J*s2) (by omega) (by omega);have x12:=Zd (n:=O*s1) (by omega) (by omega);have x13:=Zd (n:=J*s2-O*s1) (by omega) (by omega);have x14:=Zd (n:=(I*I+D*D)*(J*s2-O*s1)) (by omega) (by omega);have x15:=Zd (n:=(s1*s1+s2*s2)*(I*O-D*J)+(I*I+D*D)*(J*s2-O*s1)) (by omega) (by omega);have x16:=Zd (n:=J*J) (by omega) (by omega);have x17:=Zd (n:=O*O) (by omega) (by omega);have x18:=Zd (n:=J*J+O*O) (by omega) (by omega);have x19:=Zd (n:=s1*D) (by omega) (by omega);have x20:=Zd (n:=s2*I) (by omega) (by omega);have x21:=Zd (n:=s1*D-s2*I) (by omega) (by omega);have x22:=Zd (n:=(J*J+O*O)*(s1*D-s2*I)) (by omega) (by omega);have x23:=Zd (n:=(s1*s1+s2*s2)*(I*O-D*J)+(I*I+D*D)*(J*s2-O*s1)+(J*J+O*O)*(s1*D-s2*I)) (by omega) (by omega);clear e1 e2 e3 e4 e5 e6 e7 e8 e9 e10 e11 e12 g1 g2 g3 M B1 B2 B3 B4 B5 B6;have hfin:∀ n:Int,IntKind.i64.wrap (S*sg n)=S*sg n:=fun n=>by
  have:=Zir n;have:=@Zag S (sg n) 1 1 (by omega) (by omega) (by omega) (by omega);exact Zd (by omega) (by omega)
 go_wp2_with (go_at_call 118;refine (Zqc _ _).mono ?_;rintro e w2 ⟨rfl,rfl⟩;have hf':=hfin ((s1*s1+s2*s2)*(I*O-D*J)+(I*I+D*D)*(J*s2-O*s1)+(J*J+O*O)*(s1*D-s2*I)))
 go_ret;obtain⟨rfl,rfl,rfl,rfl,rfl,rfl⟩:=HQ.out;exact⟨rfl,Zt hw1⟩
structure Pts (W:World)(p:Nat)(l:List Pt):Prop where
 cells:∀ i,i<l.length->W.cell? ⟨p+i,0,none⟩=some (int i64 (l.getD i (0,0)).1)/\W.cell? ⟨p+i,1,none⟩=some (int i64 (l.getD i (0,0)).2)
 lt:p+l.length<=W.heap.size
theorem Pts.below {W D:World}{p:Nat}{l:List Pt}(h:Pts W p l)(e:Below W.heap.size W D):Pts D p l:=
 ⟨fun i hi=>⟨(e.cell (p:=⟨p+i,0,none⟩) (by have:=h.lt;show p+i<_;omega)).trans (h.cells i hi).1,(e.cell (p:=⟨p+i,1,none⟩) (by have:=h.lt;show p+i<_;omega)).trans (h.cells i hi).2⟩,Nat.le_trans h.lt e.size⟩
theorem Pts.snoc {W:World}{p:Nat}{l:List Pt}(h:Pts W p l)(e:p+l.length=W.heap.size)(x y:Int)(T:TypeId):Pts (W.alloc (.cells #[int i64 x,int i64 y] T)) p (l ++ [(x,y)]):=by
 refine⟨fun i hi=>?_,by simp;omega⟩;by_cases D:i<l.length
 ·have I:(l ++ [(x,y)]).getD i (0,0)=l.getD i (0,0):=by simp[List.getElem?_append_left D]
  rw[I,World.cell?_alloc_past _ _ _ (by show p+i<_;omega),World.cell?_alloc_past _ _ _ (by show p+i<_;omega)];exact h.cells i D
 ·have J:i=l.length:=by simp at hi;omega
  subst J;rw[World.cell?_alloc_at _ _ _ _ (by show p+l.length=_;omega),World.cell?_alloc_at _ _ _ _ (by show p+l.length=_;omega)];simp
theorem Pts.nil (W:World):Pts W W.heap.size []:=⟨fun i hi=>by simp at hi,by simp⟩
theorem Pts.three (w:World)(J I Y e D O:Int)(T:TypeId):Pts (((w.alloc (.cells #[int i64 J,int i64 I] T)).alloc (.cells #[int i64 Y,int i64 e] T)).alloc (.cells #[int i64 D,int i64 O] T)) w.heap.size [(J,I),(Y,e),(D,O)]:=
 (((Pts.nil w).snoc (by simp) J I T).snoc (by simp) Y e T).snoc (by simp) D O T
theorem Pts.four (w:World)(J I bx e D O Z Y:Int)(T:TypeId):Pts ((((w.alloc (.cells #[int i64 J,int i64 I] T)).alloc (.cells #[int i64 bx,int i64 e] T)).alloc (.cells #[int i64 D,int i64 O] T)).alloc (.cells #[int i64 Z,int i64 Y] T)) w.heap.size [(J,I),(bx,e),(D,O),(Z,Y)]:=
 (((((Pts.nil w).snoc (by simp) J I T).snoc (by simp) bx e T).snoc (by simp) D O T)).snoc (by simp) Z Y T
theorem Pts.get3 {W:World}{p:Nat}{J I Y e D O:Int}(h:Pts W p [(J,I),(Y,e),(D,O)]) :
  (W.cell? ⟨p,0,none⟩=some (int i64 J)/\W.cell? ⟨p,1,none⟩=some (int i64 I))/\(W.cell? ⟨p+1,0,none⟩=some (int i64 Y)/\W.cell? ⟨p+1,1,none⟩=some (int i64 e))/\(W.cell? ⟨p+1+1,0,none⟩=some (int i64 D)/\W.cell? ⟨p+1+1,1,none⟩=some (int i64 O)):=
 ⟨h.cells 0 (by simp),h.cells 1 (by simp),h.cells 2 (by simp)⟩
theorem Pts.get4 {W:World}{p:Nat}{J I bx e D O Z Y:Int}(h:Pts W p [(J,I),(bx,e),(D,O),(Z,Y)]) :
  (W.cell? ⟨p,0,none⟩=some (int i64 J)/\W.cell? ⟨p,1,none⟩=some (int i64 I))/\(W.cell? ⟨p+1,0,none⟩=some (int i64 bx)/\W.cell? ⟨p+1,1,none⟩=some (int i64 e))/\(W.cell? ⟨p+1+1,0,none⟩=some (int i64 D)/\W.cell? ⟨p+1+1,1,none⟩=some (int i64 O))/\(W.cell? ⟨p+1+1+1,0,none⟩=some (int i64 Z)/\W.cell? ⟨p+1+1+1,1,none⟩=some (int i64 Y)):=
 ⟨h.cells 0 (by simp),h.cells 1 (by simp),h.cells 2 (by simp),h.cells 3 (by simp)⟩
theorem Zw2 (J Y O aa I Z:Int)(w:World) :
  Calls prog 38 #[.agg #[int i64 J,int i64 Y],.agg #[int i64 O,int i64 aa],.agg #[int i64 I,int i64 Z]] w fun e w'=>
   e= .returned (.tuple #[int i64 (if (Zc J Y || Zc O aa || Zc I Z)=true then 0 else sg (Zk J Y O aa I Z)),int i64 (if (Zc J Y || Zc O aa || Zc I Z)=true then 1 else 0)])/\Below w.heap.size w w':=by
 have HS:=fun (h1:Zc J Y=false) (h2:Zc O aa=false) (h3:Zc I Z=false) W=>Zbl J Y O aa I Z W (Xp h1) (Xp h2) (Xp h3)
 have F1:=fun W=>Zck J Y W
 have F2:=fun W=>Zck O aa W
 have F3:=fun W=>Zck I Z W
 have T0:=Pts.three w J Y O aa I Z 37;have hb0:=Zd0 w (.cells #[int i64 J,int i64 Y] 37) (.cells #[int i64 O,int i64 aa] 37) (.cells #[int i64 I,int i64 Z] 37);generalize sg (Zk J Y O aa I Z)=S at *
 generalize Zc J Y=f1 at *
 generalize Zc O aa=f2 at *
 generalize Zc I Z=f3 at *
 go_enter func38,ntmps38;go_upto_region 1 with fail;generalize ((w.alloc (.cells #[int i64 J,int i64 Y] 37)).alloc (.cells #[int i64 O,int i64 aa] 37)).alloc (.cells #[int i64 I,int i64 Z] 37)=W0 at *
 obtain⟨⟨k0,k1⟩,⟨k2,k3⟩,k4,k5⟩:=T0.get3;go_upto_region 2 with (go_at_call 63;refine (F1 _).mono ?_;rintro e W1 ⟨rfl,D⟩);have T1:=T0.below D;have B1:=hb0.trans (D.mono hb0.size);clear T0 hb0 D k0 k1 k2 k3 k4 k5;obtain⟨⟨k0,k1⟩,⟨k2,k3⟩,k4,k5⟩:=T1.get3;go_upto_region 3 with (go_at_call 63;refine (F2 _).mono ?_;rintro e W2 ⟨rfl,D⟩);have T2:=T1.below D;have B2:=B1.trans (D.mono B1.size);clear T1 B1 D k0 k1 k2 k3 k4 k5;obtain⟨⟨k0,k1⟩,⟨k2,k3⟩,k4,k5⟩:=T2.get3;go_upto_region 4 with (go_at_call 63;refine (F3 _).mono ?_;rintro e W3 ⟨rfl,D⟩);have T3:=T2.below D;have B3:=B2.trans (D.mono B2.size);clear T2 B2 D k0 k1 k2 k3 k4 k5;obtain⟨⟨k0,k1⟩,⟨k2,k3⟩,k4,k5⟩:=T3.get3;cases f1 <;> cases f2 <;> cases f3
 ·go_wp2_with (go_at_call 87;refine (HS rfl rfl rfl _).mono ?_;rintro e W4 ⟨rfl,D⟩)
  go_ret2;exact⟨rfl,B3.trans (D.mono B3.size)⟩
 all_goals
  go_wp2
  go_ret2;exact⟨rfl,B3⟩
theorem Zw3 (J Y O aa I Z dx dy:Int)(w:World) :
  Calls prog 41 #[.agg #[int i64 J,int i64 Y],.agg #[int i64 O,int i64 aa],.agg #[int i64 I,int i64 Z],.agg #[int i64 dx,int i64 dy]] w fun e w'=>
   e= .returned (.tuple #[int i64 (if (Zc J Y || Zc O aa || Zc I Z || Zc dx dy)=true then 0 else sg (Zk J Y O aa I Z)*sg (Zan J Y O aa I Z dx dy)),int i64 (if (Zc J Y || Zc O aa || Zc I Z || Zc dx dy)=true then 1 else 0)])/\Below w.heap.size w w':=by
 have HS:=fun (h1:Zc J Y=false) (h2:Zc O aa=false) (h3:Zc I Z=false) (h4:Zc dx dy=false) W=>Zqe J Y O aa I Z dx dy W (Xp h1) (Xp h2) (Xp h3) (Xp h4)
 have F1:=fun W=>Zck J Y W
 have F2:=fun W=>Zck O aa W
 have F3:=fun W=>Zck I Z W
 have F4:=fun W=>Zck dx dy W
 have T0:=Pts.four w J Y O aa I Z dx dy 37;have hb0:=Zfy w (.cells #[int i64 J,int i64 Y] 37) (.cells #[int i64 O,int i64 aa] 37) (.cells #[int i64 I,int i64 Z] 37) (.cells #[int i64 dx,int i64 dy] 37);generalize sg (Zk J Y O aa I Z)*sg (Zan J Y O aa I Z dx dy)=S at *
 generalize Zc J Y=f1 at *
 generalize Zc O aa=f2 at *
 generalize Zc I Z=f3 at *
 generalize Zc dx dy=f4 at *
 go_enter func41,ntmps41;go_upto_region 1 with fail;generalize (((w.alloc (.cells #[int i64 J,int i64 Y] 37)).alloc (.cells #[int i64 O,int i64 aa] 37)).alloc (.cells #[int i64 I,int i64 Z] 37)).alloc (.cells #[int i64 dx,int i64 dy] 37)=W0 at *
 obtain⟨⟨k0,k1⟩,⟨k2,k3⟩,⟨k4,k5⟩,k6,k7⟩:=T0.get4;go_upto_region 2 with (go_at_call 63;refine (F1 _).mono ?_;rintro e W1 ⟨rfl,D⟩);have T1:=T0.below D;have B1:=hb0.trans (D.mono hb0.size);clear T0 hb0 D k0 k1 k2 k3 k4 k5 k6 k7;obtain⟨⟨k0,k1⟩,⟨k2,k3⟩,⟨k4,k5⟩,k6,k7⟩:=T1.get4;go_upto_region 3 with (go_at_call 63;refine (F2 _).mono ?_;rintro e W2 ⟨rfl,D⟩);have T2:=T1.below D;have B2:=B1.trans (D.mono B1.size);clear T1 B1 D k0 k1 k2 k3 k4 k5 k6 k7;obtain⟨⟨k0,k1⟩,⟨k2,k3⟩,⟨k4,k5⟩,k6,k7⟩:=T2.get4;go_upto_region 4 with (go_at_call 63;refine (F3 _).mono ?_;rintro e W3 ⟨rfl,D⟩);have T3:=T2.below D;have B3:=B2.trans (D.mono B2.size);clear T2 B2 D k0 k1 k2 k3 k4 k5 k6 k7;obtain⟨⟨k0,k1⟩,⟨k2,k3⟩,⟨k4,k5⟩,k6,k7⟩:=T3.get4;go_upto_region 5 with (go_at_call 63;refine (F4 _).mono ?_;rintro e W4 ⟨rfl,D⟩);have T4:=T3.below D;have B4:=B3.trans (D.mono B3.size);clear T3 B3 D k0 k1 k2 k3 k4 k5 k6 k7;obtain⟨⟨k0,k1⟩,⟨k2,k3⟩,⟨k4,k5⟩,k6,k7⟩:=T4.get4;cases f1 <;> cases f2 <;> cases f3 <;> cases f4
 ·go_wp2_with (go_at_call 88;refine (HS rfl rfl rfl rfl _).mono ?_;rintro e W5 ⟨rfl,D⟩)
  go_ret2;exact⟨rfl,B4.trans (D.mono B4.size)⟩
 all_goals
  go_wp2
  go_ret2;exact⟨rfl,B4⟩
end Go.Proofs.YtgpapegpdfonpaaGreatDoor
namespace Go.Proofs.YtgpapegpdfonpaaGreatDoor
open Go.RowKit Go.Proofs.Tryz
attribute [local go_sem ↓] Go.wp_at_zero Go.wp_at_succ
theorem Zw4 {l:List Pt}{i:Nat}(hi:i<l.length)(h:(l.take i).Nodup)(I:l[i] ∉ l.take i):(l.take (i+1)).Nodup:=by
 rw[List.take_succ_eq_append_getElem hi,List.nodup_append];exact⟨h,by simp,fun a J b D e=>by simp at D;subst D e;exact I J⟩
theorem Zw5 {l:List Pt}{n:Nat}(h:n<l.length){p:Pt}(D:p ∉ l.take n)(e:p≠l[n]):p ∉ l.take (n+1):=by
 rw[List.take_succ_eq_append_getElem h,List.mem_append,List.mem_singleton];exact fun x=>x.elim D e
theorem Zw6 {l:List Pt}{i j:Nat}(hi:i<l.length)(D:j<i)(h:l[i]=l[j]'(by omega)):¬ l.Nodup:=fun e=>by
 have:=Zhm e hi (by omega) h;omega
theorem Zlw {l:List Pt}(h:60<l.length):Zw l=2:=by unfold Zw;rw[if_pos h]
theorem Zw7 {l:List Pt}(h:¬ 60<l.length)(e:Ya l=true):Zw l=1:=by unfold Zw;rw[if_neg h,if_pos e]
theorem Zw8 {l:List Pt}(h:¬ 60<l.length)(D:Ya l=false)(e:¬ l.Nodup):Zw l=3:=by
 unfold Zw Zcv;rw[if_neg h,D,if_neg (by simp),decide_eq_false e,if_pos (by simp)]
theorem Zw9 {l:List Pt}(h:¬ 60<l.length)(D:Ya l=false)(e:l.Nodup):Zw l=0:=by
 unfold Zw Zcv;rw[if_neg h,D,if_neg (by simp),decide_eq_true e,if_neg (by simp)]
theorem Zhn (a:Option Addr)(cap:Nat)(l:List Pt)(w:World)(hr:Z0 w a l) :
  Calls prog 48 #[.slice a l.length cap] w fun e w'=>e= .returned (.int .i64 (Zw l))/\Below w.heap.size w w':=by
 by_cases h60:60<l.length
 ·rw[Zlw h60];have hc:(60:Int)<(l.length:Int):=by omega
  go_enter func48,ntmps48;go_wp2
  go_ret;exact⟨rfl,Below.refl _ _⟩
 ·have hc:¬ ((60:Int)<(l.length:Int)):=by omega
  have l60:(l.length:Int)<=60:=by omega
  have key:∀ k,k<l.length->∃ b O,a=some ⟨b,O,none⟩/\b<w.heap.size/\Zp w b O l:=fun k hk=>by
   rcases hr with rfl|h
   ·simp at hk
   ·exact h
  have KEY:Hid (∀ k,k<l.length->∃ b O,a=some ⟨b,O,none⟩/\b<w.heap.size/\Zp w b O l):=key;clear key hr;go_enter func48,ntmps48;go_wp2
  go_loopw [3] (fun i wr=>∃ k:Nat,k<=l.length/\i= .int .i64 k/\Ya (l.take k)=false/\Below w.heap.size w wr) (fun i _=>l.length-(intOf i).toNat)
  case atStart=>exact⟨0,Nat.zero_le _,rfl,rfl,Below.refl _ _⟩
  case round=>
   obtain⟨k,hk,rfl,hno,D⟩:=hrel;by_cases hlt:k<l.length
   ·obtain⟨b,O,rfl,hb,Z⟩:=KEY.out k hlt;obtain⟨c0,c1⟩:=(Z.below D hb) k hlt;have eg:l.getD k (0,0)=l[k]:=by simp[hlt]
    rw[eg] at c0 c1;have HNO:Hid (Ya (l.take k)=false):=hno;clear hno Z;have x0:(0:Int)<=(k:Int):=by omega
    have x1:(k:Int)<(l.length:Int):=by omega
    cases hf:Zc l[k].1 l[k].2 with
    | true=>
     have HF:Hid (Zc l[k].1 l[k].2=true):=hf;have F:=fun W=>Zck l[k].1 l[k].2 W
     rw[hf] at F;clear hf;generalize l[k].1=lx at c0 F;generalize l[k].2=ly at c1 F;go_wp2_with (go_at_call 63;refine (F _).mono ?_;rintro e w' ⟨rfl,hb1⟩)
     go_ret;exact⟨by rw[Zw7 h60 (Zoo l k hlt HF.out)];rfl,D.trans (hb1.mono D.size)⟩
    | false=>
     have HF:Hid (Zc l[k].1 l[k].2=false):=hf;have F:=fun W=>Zck l[k].1 l[k].2 W
     rw[hf] at F;clear hf;generalize l[k].1=lx at c0 F;generalize l[k].2=ly at c1 F;go_wp2_with (go_at_call 63;refine (F _).mono ?_;rintro e w' ⟨rfl,hb1⟩)
     go_roundw;case rel=>exact⟨k+1,by omega,by go_num,by rw[Zon l k hlt,HNO.out,HF.out];rfl,D.trans (hb1.mono D.size)⟩
     case measure=>simp[intOf];omega
   ·rw[List.take_of_length_le (by omega)] at hno;have HNO:Hid (Ya l=false):=hno;clear hno;go_wp2
    go_loopw [5] (fun i wr=>∃ k:Nat,k<=l.length/\i= .int .i64 k/\(l.take k).Nodup/\Below w.heap.size w wr) (fun i _=>l.length-(intOf i).toNat)
    case atStart=>exact⟨0,Nat.zero_le _,rfl,by simp,D⟩
    case round=>
     clear D;obtain⟨i,hi,rfl,hnd,D⟩:=hrel;have HND:Hid ((l.take i).Nodup):=hnd;clear hnd;by_cases hil:i<l.length
     ·obtain⟨b,O,rfl,hb,Z⟩:=KEY.out i hil;go_wp2
      go_loopw [6] (fun j wr=>∃ n:Nat,n<=i/\j= .int .i64 n/\l[i] ∉ l.take n/\Below w.heap.size w wr) (fun j _=>i-(intOf j).toNat)
      case atStart=>exact⟨0,Nat.zero_le _,rfl,by simp,D⟩
      case round=>
       clear D;obtain⟨n,hn,rfl,hnm,D⟩:=hrel;have HNM:Hid (l[i] ∉ l.take n):=hnm;clear hnm;by_cases hni:n<i
       ·have hnl:n<l.length:=by omega
        obtain⟨c0,c1⟩:=(Z.below D hb) i hil;obtain⟨c2,c3⟩:=(Z.below D hb) n hnl;have eg:l.getD i (0,0)=l[i]:=by simp[hil]
        have eh:l.getD n (0,0)=l[n]:=by simp[hnl]
        rw[eg] at c0 c1;rw[eh] at c2 c3;clear eg eh;have I:∀ h:¬ (l[i].1=l[n].1/\l[i].2=l[n].2),l[i] ∉ l.take (n+1):=fun h=>Zw5 hnl HNM.out fun e=>h ⟨by rw[e],by rw[e]⟩
        have J:∀ h:l[i].1=l[n].1/\l[i].2=l[n].2,¬ l.Nodup:=fun h=>Zw6 hil hni (Prod.ext h.1 h.2)
        generalize l[i].1=ix at c0 I J;generalize l[i].2=iy at c1 I J;generalize l[n].1=nx at c2 I J;generalize l[n].2=ny at c3 I J;have x0:(0:Int)<=(i:Int):=by omega
        have x1:(i:Int)<(l.length:Int):=by omega
        have x2:(0:Int)<=(n:Int):=by omega
        have x3:(n:Int)<(l.length:Int):=by omega
        have x4:IntKind.i64.wrap ((n:Int)+1)=(n:Int)+1:=Zd (by omega) (by omega);clear Z;by_cases e1:ix=nx
        ·by_cases e2:iy=ny
         ·subst e1 e2;have Y:Hid (¬ l.Nodup):=J ⟨rfl,rfl⟩;clear J I;go_wp2_with fail
          go_quiet (fail);go_wp2
          go_ret;exact⟨by rw[Zw8 h60 HNO.out Y.out];rfl,Zt D⟩
         ·have Y:Hid (l[i] ∉ l.take (n+1)):=I fun h=>e2 h.2
          clear J I;go_wp2_with fail
          go_quiet (fail);go_wp2
          go_roundw;case rel=>exact⟨n+1,by omega,by go_num,Y.out,Zt D⟩
          case measure=>simp[intOf];omega
        ·have Y:Hid (l[i] ∉ l.take (n+1)):=I fun h=>e1 h.1
         clear J I;go_wp2_with fail
         go_quiet (fail);go_wp2
         go_roundw;case rel=>exact⟨n+1,by omega,by go_num,Y.out,Zt D⟩
         case measure=>simp[intOf];omega
       ·have en:n=i:=by omega
        subst en;go_wp2
        go_roundw;case rel=>exact⟨n+1,by omega,by go_num,Zw4 hil HND.out HNM.out,D⟩
        case measure=>simp[intOf];omega
     ·have Y:Hid (l.Nodup):=by have:=HND.out;rwa [List.take_of_length_le (by omega)] at this
      go_wp2
      go_ret;exact⟨by rw[Zw9 h60 HNO.out Y.out];rfl,D⟩
end Go.Proofs.YtgpapegpdfonpaaGreatDoor
namespace Go.Proofs.YtgpapegpdfonpaaGreatDoor
open Go.RowKit Go.Proofs.Tryz
open Go.Value(int)
open Go.IntKind(i64)
attribute [local go_sem ↓] Go.wp_at_zero Go.wp_at_succ
theorem Zxa (a:Option Addr)(cap:Nat)(l:List Pt)(w:World)(D:Z0 w a l)(I:Zw l≠0) :
  Calls prog 44 #[.slice a l.length cap] w fun e w'=>e= .returned (.tuple #[.slice none 0 0,int i64 (Zw l)])/\Below w.heap.size w w':=by
 have J:=Zhn a cap l w D;have Z:(Zw l != 0)=true:=by simpa using I
 clear D I;generalize Zw l=f at *
 go_enter func44,ntmps44;go_wp2_with (go_at_call 48;refine J.mono ?_;rintro e Y ⟨rfl,O⟩)
 go_ret2;exact⟨rfl,O⟩
theorem Zxb (a:Option Addr)(cap:Nat)(w:World) :
  Calls prog 44 #[.slice a 0 cap] w fun e w'=>e= .returned (.tuple #[.slice none 0 0,int i64 0])/\Below w.heap.size w w':=by
 have D:=Zhn a cap [] w (.inl rfl);have I:Zw []=0:=rfl;rw[I] at D;simp only[List.length_nil] at D;go_enter func44,ntmps44;go_wp2_with (go_at_call 48;refine D.mono ?_;rintro e O ⟨rfl,J⟩)
 go_ret2;exact⟨rfl,J⟩
def Zcl (b:Option Nat):Value:=match b with
 | none=>int i64 (-1)
 | some i=>int i64 (i:Int)
theorem Zxc (w:World)(x:Nat)(T:TypeId):(w.alloc (.cells #[int i64 (x:Int)] T)).ownsRow w.heap.size T 1 (.slice (some ⟨w.heap.size,0,none⟩) 1 1) 1 [toV x]:=
 ⟨rfl,.inr ⟨w.heap.size,1,#[int i64 (x:Int)],rfl,Nat.le_refl _,heap_alloc_new w _,Nat.le_refl _,by unfold maxLen;omega,rfl,rfl⟩⟩
theorem Zxd {n:Int}(h:n<0):sg n= -1:=by unfold sg;rw[if_neg (by omega),if_pos h]
theorem Zxe {n:Int}(h:n=0):sg n=0:=by unfold sg;rw[if_neg (by omega),if_neg (by omega)]
theorem Zxf {n:Int}(h:0<n):sg n=1:=by unfold sg;rw[if_pos h]
theorem Zxg (b off cap:Nat)(l:List Pt)(is:List Nat)(n:Nat)(w:World)(hn:l.length=n+1)(hb:b<w.heap.size)(hp:Zp w b off l)(hf:Zw l=0)(hio:InOrder l is) :
  Calls prog 44 #[.slice (some ⟨b,off,none⟩) l.length cap] w fun e w'=>
   ∃ v,e= .returned (.tuple #[v,int i64 0])/\w'.ownsRow w.heap.size 3 1 v (Xg l is).length ((Xg l is).map toV)/\Below w.heap.size w w':=by
 obtain⟨hl,hfar,hnd⟩:=Zf7 hf;have hnear:=Zhh hfar;have HCk:=Zhn (some ⟨b,off,none⟩) cap l w (.inr ⟨b,off,rfl,hb,hp⟩);rw[hf] at HCk;have hA:=Zhl hio hnd;have hcn:=Zjb hio hnd;obtain⟨i0,hi0,hz0,hz1,hz2⟩:=info_parts Zbi;generalize Xg l is=c at *
 have HFIRST:Hid (Xx l l.length=c.getD 0 0):=Zww hA hnd (by omega);have HA:Hid (Arr l c):=hA;have HN:Hid (l.Nodup/\c.Nodup/\Zv l):=⟨hnd,hcn,hnear⟩;have hlp:0<l.length:=by omega
 have hcl:=hA.le;have hcp:=hA.one hlp;have l60:(l.length:Int)<=60:=by omega
 clear hf hfar hnd hnear hA hcn hio hn;have hl0:((l.length:Int) == 0)=false:=beq_eq_false_iff_ne.2 (by omega);go_enter func44,ntmps44;go_wp2_with (go_at_call 48;refine HCk.mono ?_;rintro e w1 ⟨rfl,J⟩)
 have hp1:=hp.below J hb;have hb01:b<w1.heap.size:=L3 hb J.size;have HPW:Hid (Zp w b off l):=hp;clear HCk hp hl0;go_loopw [5,6] (fun f i wr=>∃ k:Nat,1<=k/\k<=l.length/\i=int i64 k/\f=int i64 (Xx l k:Nat)/\Below w1.heap.size w1 wr) (fun _ i _=>l.length-(intOf i).toNat)
 case atStart=>exact⟨1,by omega,hlp,rfl,rfl,Below.refl _ _⟩
 case round=>
  obtain⟨k,hk1,hk,rfl,rfl,O⟩:=hrel;by_cases hlt:k<l.length
  ·obtain⟨c0,c1⟩:=(hp1.below O hb01) k hlt;have hfl:=(Zqb l k hk1).1;obtain⟨c2,c3⟩:=(hp1.below O hb01) (Xx l k) (by omega);have HS:=Zqa l k hk1;have e1:Za l k=((l.getD k (0,0)).1,(l.getD k (0,0)).2):=rfl;have e2:Za l (Xx l k)=((l.getD (Xx l k) (0,0)).1,(l.getD (Xx l k) (0,0)).2):=rfl;rw[e1,e2] at HS;clear e1 e2;generalize (l.getD k (0,0)).1=kx at *
   generalize (l.getD k (0,0)).2=ky at *
   generalize (l.getD (Xx l k) (0,0)).1=fx at *
   generalize (l.getD (Xx l k) (0,0)).2=fy at *
   have F:=fun W=>Zw1 kx ky fx fy W
   have HSH:Hid (Xx l (k+1)=if decide (plt (kx,ky) (fx,fy))=true then k else Xx l k):=HS;clear HS;generalize Xx l k=f at *
   have x0:(0:Int)<=(k:Int):=by omega
   have x1:(k:Int)<(l.length:Int):=by omega
   have x2:(0:Int)<=(f:Int):=by omega
   have x3:(f:Int)<(l.length:Int):=by omega
   have x4:IntKind.i64.wrap ((k:Int)+1)=(k:Int)+1:=Zd (by omega) (by omega);have zb:=L3 hb01 O.size;clear hp1;cases hd:decide (plt (kx,ky) (fx,fy)) with
   | true=>
    rw[hd] at F;have HQ:Hid (Xx l (k+1)=k):=by have:=HSH.out;rw[hd,if_pos rfl] at this;exact this
    clear HSH hd;go_wp2_with fail
    go_region_held3 (fun w'=>Below wr.heap.size wr w'/\∀ b o,b<wr.heap.size->w'.cell? ⟨b,o,none⟩=wr.cell? ⟨b,o,none⟩) (first|exact Yw _|exact Yx (by assumption) J)
     (first|(go_at_call 90;refine (F _).mono ?_;rintro e w' ⟨rfl,J⟩))
    rename_i I;have hR:=O.trans (I.1.mono O.size);clear I J c0 c1 c2 c3;go_wp2
    go_roundw;case rel=>exact⟨k+1,by omega,by omega,by go_num,by rw[HQ.out],hR⟩
    case measure=>simp[intOf];omega
   | false=>
    rw[hd] at F;have HQ:Hid (Xx l (k+1)=f):=by have:=HSH.out;rw[hd,if_neg (by simp)] at this;exact this
    clear HSH hd;go_wp2_with fail
    go_region_held3 (fun w'=>Below wr.heap.size wr w'/\∀ b o,b<wr.heap.size->w'.cell? ⟨b,o,none⟩=wr.cell? ⟨b,o,none⟩) (first|exact Yw _|exact Yx (by assumption) J)
     (first|(go_at_call 90;refine (F _).mono ?_;rintro e w' ⟨rfl,J⟩))
    rename_i I;have hR:=O.trans (I.1.mono O.size);clear I J c0 c1 c2 c3;go_wp2
    go_roundw;case rel=>exact⟨k+1,by omega,by omega,by go_num,by rw[HQ.out],hR⟩
    case measure=>simp[intOf];omega
  ·have ek:k=l.length:=by omega
   subst ek;rw[HFIRST.out];have hbW:=J.trans (O.mono J.size);have hpR:=hp1.below O hb01;have hbR:=L3 hb01 O.size;have e0:c.take 1=[c.getD 0 0]:=by
    match c,hcp with
    | x :: t,_=>simp
   have hown0:=Zxc wr (c.getD 0 0) 3;have hbN:=(hbW.alloc hbW.size (.cells #[int i64 ((c.getD 0 0:Nat):Int)] 3));have hpN:Zp (wr.alloc (.cells #[int i64 ((c.getD 0 0:Nat):Int)] 3)) b off l:=hpR.below (Zb _ _) hbR;have HFST:Hid (∀ j,j<c.length->(c.getD j 0=c.getD 0 0↔j=0)):=fun j hj=>by
    constructor
    ·intro e;have h1:c.getD j 0=c[j]:=by simp[hj]
     have h2:c.getD 0 0=c[0]:=by simp[hcp]
     rw[h1,h2] at e;exact Zhm HN.out.2.1 hj hcp e
    ·intro e;rw[e]
   have HE0:Hid (c.take 1=[c.getD 0 0]):=e0;have HL0:Hid (c.getD 0 0<l.length):=HA.out.lt 0 hcp;clear e0 hpR hp1 O J;generalize hfst:c.getD 0 0=fst at *
   have HF0:Hid (c.getD 0 0=fst):=hfst;clear hfst HFIRST;go_wp2_with fail
   have hown1:(wr.alloc (.cells #[int i64 (fst:Int)] 3)).ownsRow w.heap.size 3 1 (.slice (some ⟨wr.heap.size,0,none⟩) 1 1) (c.take 1).length ((c.take 1).map toV):=by
    rw[HE0.out];exact Ze7 hown0 hbW.size
   have hbNs:b<(wr.alloc (.cells #[int i64 (fst:Int)] 3)).heap.size:=by simp;omega
   have hWN:w.heap.size<=(wr.alloc (.cells #[int i64 (fst:Int)] 3)).heap.size:=hbN.size;clear hown0 hbW hbR;generalize hWW:wr.alloc (.cells #[int i64 (fst:Int)] 3)=W at *
   generalize wr.heap.size=wz at *
   clear hWW;go_loopw [8,9] (fun v a wr=>∃ j:Nat,j<c.length/\a=int i64 (c.getD j 0:Nat)/\wr.ownsRow w.heap.size 3 1 v (c.take (j+1)).length ((c.take (j+1)).map toV)/\Below w.heap.size w wr) (fun v _ _=>c.length+1-Zc4 v)
   case atStart=>exact⟨0,hcp,by rw[HF0.out],hown1,hbN⟩
   case round=>
    clear hown1 hbN hpN hbNs hWN;obtain⟨j,hj,rfl,hown,O⟩:=hrel;have hlen:(c.take (j+1)).length=j+1:=by simp;omega
    rw[hlen] at hown;rcases Zdi hown with ⟨_,h0⟩|⟨gv,cv,rfl⟩
    ·omega
    have HLEN:Hid ((c.take (j+1)).length=j+1):=hlen;clear hlen;have haj:=HA.out.lt j hj;have HAJ:Hid (∀ h1:1<c.length,Tgt l (c.getD j 0) (c.getD ((j+1) % c.length) 0)):=fun h1=>Zwv HA.out HN.out.2.1 h1 hj
    have HNEXT:Hid (j+1<c.length->c.take (j+1+1)=c.take (j+1) ++ [c.getD (j+1) 0]):=fun h=>by
     rw[List.take_succ_eq_append_getElem h];simp[h]
    have HJF:=HFST.out j hj;generalize haa:c.getD j 0=D at *
    have j60:(j:Int)+1<=(l.length:Int):=by omega
    have hd1:decide ((j:Int)+1<=(l.length:Int))=true:=decide_eq_true j60;have hdn:decide (j+1<=l.length)=true:=decide_eq_true (by omega);go_wp2_with fail
    generalize wr=V at *
    have hpV:=HPW.out.below O hb;have hbV:=L3 hb O.size;go_loopw [10,11] (fun bs i wr=>∃ k:Nat,k<=l.length/\i=int i64 k/\bs=Zcl (Xw l D k)/\Below V.heap.size V wr) (fun _ i _=>l.length-(intOf i).toNat)
    case atStart=>exact⟨0,Nat.zero_le _,rfl,rfl,Below.refl _ _⟩
    case round=>
     obtain⟨k,hk,rfl,rfl,hbk⟩:=hrel;by_cases hkl:k<l.length
     ·have x0:(0:Int)<=(k:Int):=by omega
      have x1:(k:Int)<(l.length:Int):=by omega
      have x4:IntKind.i64.wrap ((k:Int)+1)=(k:Int)+1:=Zd (by omega) (by omega);by_cases hka:k=D
      ·have HS:Hid (Zcl (Xw l D (k+1))=Zcl (Xw l D k)):=by rw[Zi9];unfold Zen;rw[if_pos hka];exact rfl
       generalize Zcl (Xw l D k)=eb at *
       have hke:((k:Int) == (D:Int))=true:=by rw[hka];simp
       go_wp2
       go_roundw;case rel=>exact⟨k+1,by omega,by go_num,HS.out.symm,hbk⟩
       case measure=>simp[intOf];omega
      ·have hke:((k:Int) == (D:Int))=false:=beq_eq_false_iff_ne.2 (by omega);have HS:Hid (Xw l D (k+1)=match Xw l D k with|none=>some k|some b=>if Zdl (Za l D) (Za l b) (Za l k)=true then some k else some b):=by rw[Zi9];unfold Zen;rw[if_neg hka];exact rfl
       have hsb:=Zp8 l D k (by omega);cases hsc:Xw l D k with
       | none=>
        have HS2:Hid (Xw l D (k+1)=some k):=by have:=HS.out;rw[hsc] at this;exact this
        clear hsb hsc HS;simp only[Zcl];go_wp2
        go_roundw;case rel=>exact⟨k+1,by omega,by go_num,(congrArg Zcl HS2.out).symm,hbk⟩
        case measure=>simp[intOf];omega
       | some bb=>
        have HS2:Hid (Xw l D (k+1)=if Zdl (Za l D) (Za l bb) (Za l k)=true then some k else some bb):=by have:=HS.out;rw[hsc] at this;exact this
        obtain⟨hba,hbk2⟩:=hsb bb hsc;clear hsb hsc HS;simp only[Zcl];obtain⟨c0,c1⟩:=(hpV.below hbk hbV) D haj;obtain⟨c2,c3⟩:=(hpV.below hbk hbV) bb (by omega);obtain⟨c4,c5⟩:=(hpV.below hbk hbV) k hkl;have nA:Near (l.getD D (0,0)).1 (l.getD D (0,0)).2:=HN.out.2.2 D haj;have nB:Near (l.getD bb (0,0)).1 (l.getD bb (0,0)).2:=HN.out.2.2 bb (by omega);have nQ:Near (l.getD k (0,0)).1 (l.getD k (0,0)).2:=HN.out.2.2 k hkl;have HB:=HS2.out;have e1:Za l D=((l.getD D (0,0)).1,(l.getD D (0,0)).2):=rfl;have e2:Za l bb=((l.getD bb (0,0)).1,(l.getD bb (0,0)).2):=rfl;have e3:Za l k=((l.getD k (0,0)).1,(l.getD k (0,0)).2):=rfl;rw[e1,e2,e3] at HB;clear e1 e2 e3 HS2;generalize (l.getD D (0,0)).1=Y at *
        generalize (l.getD D (0,0)).2=Z at *
        generalize (l.getD bb (0,0)).1=bx at *
        generalize (l.getD bb (0,0)).2=ab at *
        generalize (l.getD k (0,0)).1=qx at *
        generalize (l.getD k (0,0)).2=qy at *
        have HBH:Hid (Xw l D (k+1)=if Zdl (Y,Z) (bx,ab) (qx,qy)=true then some k else some bb):=HB;clear HB;have SC:=fun W=>Zbl Y Z bx ab qx qy W nA nB nQ
        have eS:Zk Y Z bx ab qx qy=sd (Y,Z) (bx,ab) (qx,qy):=rfl;rw[eS] at SC;have HBT:Hid (Zdl (Y,Z) (bx,ab) (qx,qy)=(decide (sd (Y,Z) (bx,ab) (qx,qy)<0) || (decide (sd (Y,Z) (bx,ab) (qx,qy)=0) && decide (dst (Y,Z) (bx,ab)<dst (Y,Z) (qx,qy))))):=rfl;generalize sd (Y,Z) (bx,ab) (qx,qy)=S at *
        generalize hdb:dst (Y,Z) (bx,ab)=db at *
        generalize hdq:dst (Y,Z) (qx,qy)=dq at *
        generalize Zdl (Y,Z) (bx,ab) (qx,qy)=bt at *
        have x2:(0:Int)<=(D:Int):=by omega
        have x3:(D:Int)<(l.length:Int):=by omega
        have x5:(0:Int)<=(bb:Int):=by omega
        have x6:(bb:Int)<(l.length:Int):=by omega
        have zb:=L3 hbV hbk.size;have HDB:Hid (dst (Y,Z) (bx,ab)=db):=hdb;have HDQ:Hid (dst (Y,Z) (qx,qy)=dq):=hdq;clear eS hdb hdq;go_wp2_with fail
        go_region_held3 (fun w'=>Below wr.heap.size wr w'/\∀ b o,b<wr.heap.size->w'.cell? ⟨b,o,none⟩=wr.cell? ⟨b,o,none⟩) (first|exact Yw _|exact Yx (by assumption) J)
         (first|(go_at_call 87;refine (SC _).mono ?_;rintro e w' ⟨rfl,J⟩))
        rename_i I;have hR:=hbk.trans (I.1.mono hbk.size);replace c0:=(I.2 b _ zb).trans c0;replace c1:=(I.2 b _ zb).trans c1;replace c2:=(I.2 b _ zb).trans c2;replace c3:=(I.2 b _ zb).trans c3;replace c4:=(I.2 b _ zb).trans c4;replace c5:=(I.2 b _ zb).trans c5;replace zb:=L3 zb I.1.size;clear I J hbk SC;generalize w'=wr at *
        rcases Int.lt_trichotomy S 0 with hs|hs|hs
        ·rw[Zxd hs];have HB2:Hid (Xw l D (k+1)=some k):=by
          have:=HBH.out;rw[HBT.out,decide_eq_true hs,Bool.true_or,if_pos rfl] at this;exact this
         clear HBH HBT;go_wp2_with fail
         go_quiet (fail);go_wp2
         go_roundw;case rel=>exact⟨k+1,by omega,by go_num,(congrArg Zcl HB2.out).symm,Zt hR⟩
         case measure=>simp[intOf];omega
        ·rw[Zxe hs];by_cases hdd:db<dq
         ·have HB2:Hid (Xw l D (k+1)=some k):=by
           have:=HBH.out;rw[HBT.out,decide_eq_false (p:=S<0) (by omega),decide_eq_true hs,decide_eq_true hdd,if_pos (by simp)] at this;exact this
          have hdt:decide (db<dq)=true:=decide_eq_true hdd;clear HBH HBT;go_wp2_with fail
          go_region_held3 (fun w'=>Below wr.heap.size wr w'/\∀ b o,b<wr.heap.size->w'.cell? ⟨b,o,none⟩=wr.cell? ⟨b,o,none⟩) (first|exact Yw _|exact Yx (by assumption) J)
           (first|(go_at_call 91;refine (Zqd _ _ _ _ _ (by assumption) (by assumption)).mono ?_;rintro e w' ⟨rfl,J⟩;first|rw[HDQ.out] | rw[HDB.out]))
          rename_i I;have hR2:=hR.trans (I.1.mono hR.size);clear I J;go_wp2
          go_roundw;case rel=>exact⟨k+1,by omega,by go_num,(congrArg Zcl HB2.out).symm,hR2⟩
          case measure=>simp[intOf];omega
         ·have HB2:Hid (Xw l D (k+1)=some bb):=by
           have:=HBH.out;rw[HBT.out,decide_eq_false (p:=S<0) (by omega),decide_eq_true hs,decide_eq_false hdd,if_neg (by simp)] at this;exact this
          have hdt:decide (db<dq)=false:=decide_eq_false hdd;clear HBH HBT;go_wp2_with fail
          go_region_held3 (fun w'=>Below wr.heap.size wr w'/\∀ b o,b<wr.heap.size->w'.cell? ⟨b,o,none⟩=wr.cell? ⟨b,o,none⟩) (first|exact Yw _|exact Yx (by assumption) J)
           (first|(go_at_call 91;refine (Zqd _ _ _ _ _ (by assumption) (by assumption)).mono ?_;rintro e w' ⟨rfl,J⟩;first|rw[HDQ.out] | rw[HDB.out]))
          rename_i I;have hR2:=hR.trans (I.1.mono hR.size);clear I J;go_wp2
          go_roundw;case rel=>exact⟨k+1,by omega,by go_num,(congrArg Zcl HB2.out).symm,hR2⟩
          case measure=>simp[intOf];omega
        ·rw[Zxf hs];have HB2:Hid (Xw l D (k+1)=some bb):=by
          have:=HBH.out;rw[HBT.out,decide_eq_false (p:=S<0) (by omega),decide_eq_false (p:=S=0) (by omega),if_neg (by simp)] at this;exact this
         clear HBH HBT;go_wp2_with fail
         go_quiet (fail);go_wp2
         go_roundw;case rel=>exact⟨k+1,by omega,by go_num,(congrArg Zcl HB2.out).symm,Zt hR⟩
         case measure=>simp[intOf];omega
     ·have ek:k=l.length:=by omega
      subst ek;have hownR:=Zbv hown hbk;have hbA:=O.trans (hbk.mono O.size);clear hown O hbk hpV hbV;by_cases h1:1<c.length
      ·have T:=HAJ.out h1;have hsc:=Zwt T HN.out.1 l.length T.lt (Nat.le_refl _);rw[hsc];simp only[Zcl];by_cases hend:j+1=c.length
       ·have hm:(j+1) % c.length=0:=by rw[hend,Nat.mod_self]
        have HTK:Hid (c.take (j+1)=c):=List.take_of_length_le (by omega);rw[hm,HF0.out];have HCL:Hid (j+1=c.length):=hend;clear T hsc hm hend;have y0:decide ((fst:Int)<0)=false:=decide_eq_false (by omega);go_wp2
        go_ret2;refine⟨_,rfl,?_,hbA⟩;have:=hownR;rw[HTK.out,HCL.out] at this;rw[HCL.out];exact this
       ·have hm:(j+1) % c.length=j+1:=Nat.mod_eq_of_lt (by omega);rw[hm];have hj1:j+1<c.length:=by omega
        have HTK:Hid (c.take (j+1+1)=c.take (j+1) ++ [c.getD (j+1) 0]):=HNEXT.out hj1;have hne:c.getD (j+1) 0≠fst:=fun e=>by
         have:=(HFST.out (j+1) hj1).1 e;omega
        clear T hsc hm hend HNEXT;have HT1:Hid (c.getD (j+1) 0=c.getD (j+1) 0):=rfl;generalize htt:c.getD (j+1) 0=tt at *
        have HTT:Hid (c.getD (j+1) 0=tt):=htt;clear htt HT1;have y0:decide ((tt:Int)<0)=false:=decide_eq_false (by omega);have y1:((tt:Int) == (fst:Int))=false:=beq_eq_false_iff_ne.2 (by omega);have y2:¬ tt=fst:=hne;have hws:=hbA.size;go_wp2_with (at_builtin;refine wpList_append_lies _ (by rfl) (.tmp 109) (.tmp 111) 26 (by rfl) w.heap.size 3 i0 (int i64 0) 1 8 underlying26 hi0 hz0 hz1 hz2 rfl (by decide) _ _ _ (by rfl) (Zbv hownR (Zb _ _)) ⟨wr.heap.size,0,none⟩ 1 1 [int i64 tt] (by rfl) rfl ?c1 ?c2 (by decide) ?c3 ?c4 ?c5 (wr.heap.size+1) ?c6 ?_)
        case c1=>
         intro j u hj;match j,hj with
         | 0,hj=>simp at hj;subst hj;simp[Addr.add]
        case c2=>intro u hu;simp at hu;subst hu;rfl
        case c3=>unfold maxLen;omega
        case c4=>omega
        case c5=>simp;omega
        case c6=>simp
        ·intro g2 cap2 w3 hown3 hgrow hat hlt3;have R:=Zhg (toB:=w.heap.size) hownR hbA hown3 hgrow hws;clear hown3 hgrow hownR hat;go_wp2
         go_roundw;case rel=>exact⟨j+1,hj1,by rw[HTT.out],by rw[HTK.out];simpa [toV,HLEN.out] using R.1,R.2⟩
         case measure=>simp[Zc4];omega
      ·have hc1:c.length=1:=by omega
       have hl1:l.length=1:=by
        have:=HA.out.two;omega
       have hj0:j=0:=by omega
       rw[Zwu l hl1 D haj];simp only[Zcl];have HTK:Hid (c.take (j+1)=c):=List.take_of_length_le (by omega);have hcl':j+1=c.length:=by omega
       have HCL:Hid (j+1=c.length):=hcl';clear hcl';clear hj0 hc1 hl1 h1;go_wp2
       go_ret2;refine⟨_,rfl,?_,hbA⟩;have:=hownR;rw[HTK.out,HCL.out] at this;rw[HCL.out];exact this
end Go.Proofs.YtgpapegpdfonpaaGreatDoor
