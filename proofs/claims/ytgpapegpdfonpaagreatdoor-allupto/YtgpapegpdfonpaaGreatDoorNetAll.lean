/- Part. -/
import Derived.Test.YtgpapegpdfonpaaGreatDoorWalksAK
set_option linter.unusedVariables false
set_option linter.unusedSimpArgs false
set_option maxHeartbeats 16000000
set_option maxRecDepth 100000
namespace Go.Proofs.YtgpapegpdfonpaaGreatDoor
structure Vec where
 x:Int
 y:Int
 w:Int
 z:Int
def d3 (a b c:Vec):Int:=a.x*(b.y*c.w-b.w*c.y)-a.y*(b.x*c.w-b.w*c.x)+a.w*(b.x*c.y-b.y*c.x)
def dot (l v:Vec):Int:=l.x*v.x+l.y*v.y+l.w*v.w+l.z*v.z
def kk (a b c p:Vec):Int:=a.z*d3 b c p+b.z*d3 c a p+c.z*d3 a b p-d3 a b c*p.z
def kf (a b c:Vec):Vec where
 x:=a.z*(b.y*c.w-b.w*c.y)+b.z*(c.y*a.w-c.w*a.y)+c.z*(a.y*b.w-a.w*b.y)
 y:= -(a.z*(b.x*c.w-b.w*c.x)+b.z*(c.x*a.w-c.w*a.x)+c.z*(a.x*b.w-a.w*b.x))
 w:=a.z*(b.x*c.y-b.y*c.x)+b.z*(c.x*a.y-c.y*a.x)+c.z*(a.x*b.y-a.y*b.x)
 z:= - d3 a b c
theorem Zju (a b c p:Vec):dot (kf a b c) p=kk a b c p:=by unfold dot kf kk d3;grind
theorem Zzo (a b c:Vec):(kf a b c).z= - d3 a b c:=rfl
theorem Yg (a b c:Vec):d3 b c a=d3 a b c:=by unfold d3;grind
theorem Zc6 (a b c:Vec):d3 b a c= - d3 a b c:=by unfold d3;grind
theorem Zd6 (a b c:Vec):d3 a c b= - d3 a b c:=by unfold d3;grind
theorem Zca (a b:Vec):d3 a a b=0:=by unfold d3;grind
theorem Za7 (a b:Vec):d3 a b a=0:=by unfold d3;grind
theorem Zfk (a b:Vec):d3 a b b=0:=by unfold d3;grind
theorem Zcn (a b c:Vec):kk a b c a=0:=by unfold kk;rw[Za7,Zfk,Yg a b c];grind
theorem Zar (a b c p:Vec):kk b c a p=kk a b c p:=by unfold kk;rw[Yg a b c];grind
theorem Zc7 (a b c:Vec):kk a b c b=0:=by rw[<-Zar];exact Zcn b c a
theorem Zra (a b c:Vec):kk a b c c=0:=by rw[<-Zar,<-Zar];exact Zcn c a b
theorem Zmi (a b c p:Vec):d3 a b c*p.x=d3 b c p*a.x+d3 c a p*b.x+d3 a b p*c.x:=by unfold d3;grind
theorem Zmj (a b c p:Vec):d3 a b c*p.y=d3 b c p*a.y+d3 c a p*b.y+d3 a b p*c.y:=by unfold d3;grind
theorem Zjv (a b c p:Vec):d3 a b c*p.w=d3 b c p*a.w+d3 c a p*b.w+d3 a b p*c.w:=by unfold d3;grind
theorem cf (l a b c p:Vec):d3 a b c*dot l p=d3 b c p*dot l a+d3 c a p*dot l b+d3 a b p*dot l c-l.z*kk a b c p:=by
 have J:=Zmi a b c p;have e:=Zmj a b c p;have O:=Zjv a b c p;unfold dot kk;generalize d3 a b c=D at *
 generalize d3 b c p=A at *
 generalize d3 c a p=B at *
 generalize d3 a b p=C at *
 have I:D*(l.x*p.x+l.y*p.y+l.w*p.w+l.z*p.z)=l.x*(D*p.x)+l.y*(D*p.y)+l.w*(D*p.w)+D*l.z*p.z:=by grind
 rw[I,J,e,O];grind
theorem mi (a b c d e f p:Vec):d3 a b c*kk d e f p=d3 b c p*kk d e f a+d3 c a p*kk d e f b+d3 a b p*kk d e f c+d3 d e f*kk a b c p:=by
 have:=cf (kf d e f) a b c p;rw[Zju,Zju,Zju,Zju,Zzo] at this;grind
theorem mnn {a b:Int}(h:0<=a)(k:0<=b):0<=a*b:=Int.mul_nonneg h k
theorem mpp {a b:Int}(h:0<a)(k:0<b):0<a*b:=Int.mul_pos h k
theorem mqq {a b:Int}(h:a<=0)(k:b<=0):0<=a*b:=by
 have:=Int.mul_nonneg (show 0<= -a by omega) (show 0<= -b by omega);rw[Int.neg_mul_neg] at this;exact this
theorem mnq {a b:Int}(h:0<=a)(k:b<=0):a*b<=0:=by
 have:=Int.mul_nonneg h (show 0<= -b by omega);rw[Int.mul_neg] at this;omega
theorem mqn {a b:Int}(h:a<=0)(k:0<=b):a*b<=0:=by rw[Int.mul_comm];exact mnq k h
theorem mpm {a b:Int}(h:0<a)(k:b<0):a*b<0:=by
 have:=Int.mul_pos h (show 0 < -b by omega);rw[Int.mul_neg] at this;omega
theorem mmp {a b:Int}(h:a<0)(k:0<b):a*b<0:=by rw[Int.mul_comm];exact mpm k h
theorem mmm {a b:Int}(h:a<0)(k:b<0):0<a*b:=by
 have:=Int.mul_pos (show 0 < -a by omega) (show 0 < -b by omega);rw[Int.neg_mul_neg] at this;exact this
theorem Zeu {a b:Int}(h:0<a)(k:0<a*b):0<b:=by
 rcases Int.lt_or_le 0 b with r|r
 ·exact r
 ·have:=mnq (Int.le_of_lt h) r;omega
theorem dnn {a b:Int}(h:0<a)(k:0<=a*b):0<=b:=by
 rcases Int.lt_or_le b 0 with r|r
 ·have:=mpm h r;omega
 ·exact r
theorem dnp {a b:Int}(h:0<a)(k:a*b<=0):b<=0:=by
 rcases Int.lt_or_le 0 b with r|r
 ·have:=mpp h r;omega
 ·exact r
theorem dz {a b:Int}(h:0<a)(k:a*b=0):b=0:=by
 have D:=dnn h (Int.le_of_eq k.symm);have e:=dnp h (Int.le_of_eq k);omega
theorem Zzp {a b c d p:Vec}(O:0<d3 a b c)(J:0<d3 b a d)(e:kk b a d c<=0)(D:d3 a b p<=0)(I:0<kk a b c p):0<kk b a d p:=by
 have:=mi a b c b a d p;rw[Zcn,Zc7] at this;have Z:=mqq D e;have Y:=mpp J I;exact Zeu O (by omega)
theorem Zzq {a b c d p q:Vec}(ht:0<d3 a b c)(aa:0<d3 b a d)(e:0<d3 a b p)(J:0<kk a b c p)(Y:kk b a d p<=0)(I:kk a b c q<=0)(Z:kk b a d q<=0):kk a b p q<=0:=by
 rcases Int.lt_or_le (d3 a b q) 0 with h|h
 ·have:=mi a b p b a d q;rw[Zcn,Zc7] at this;have O:=mnq (Int.le_of_lt e) Z;have D:=mqq (Int.le_of_lt h) Y;exact dnp aa (by omega)
 ·have:=mi a b p a b c q;rw[Zcn,Zc7] at this;have O:=mnq (Int.le_of_lt e) I;have D:=mnn h (Int.le_of_lt J);exact dnp ht (by omega)
theorem Zrb {a e b y x p D I:Vec} (aa:0<d3 a b p) (Z:0<d3 e b p) (ht:0<d3 b a y) (J:0<d3 e b x)
  (hk:kk b a y p<=0) (hk2:0<kk e b x p) (h1:kk b a y e<=0) (h2:kk e b x a<=0) (hs:0<=d3 b a e)
  (ta:dot D a=0) (ta':0<dot D e) (tab:0<dot D b) (sa':dot I e=0) (sa:0<dot I a) (sab:0<dot I b):False:=by
 have e1:=mi b a e b a y p;rw[Zcn,Zc7] at e1;have Y:=mi b a e e b x p;rw[Zcn,Zc7] at Y;have s1:d3 b a p= - d3 a b p:=Zc6 a b p;rw[s1] at e1 Y;have f1:kk b a e p<=0:=by
  refine dnp ht ?_;have m1:=mnq hs hk;have m2:=mnq (Int.le_of_lt aa) h1;have: -d3 a b p*kk b a y e= -(d3 a b p*kk b a y e):=Int.neg_mul _ _;omega
 have m3:=mnq (Int.le_of_lt Z) h2;have m4:=mnq (Int.le_of_lt J) f1;have m5:=mnn hs (Int.le_of_lt hk2);have O:d3 b a e=0:=by
  rcases Int.lt_or_le 0 (d3 b a e) with h|h
  ·have:=mpp h hk2;omega
  ·omega
 have hk0:kk b a e p=0:=dz J (by omega);have c1:=cf D b a e p;have c2:=cf I b a e p;rw[O,hk0,s1,ta] at c1;rw[O,hk0,s1,sa'] at c2;have g1:=mpp aa ta';have g2:=mpp Z sa;have n1: -d3 a b p*dot D e= -(d3 a b p*dot D e):=Int.neg_mul _ _;rcases Int.lt_or_le 0 (d3 a e p) with h|h
 ·have:=mpp h sab;omega
 ·have:=mqn h (Int.le_of_lt tab);omega
theorem Zrc {a b e y x p D I:Vec} (aa:0<d3 a b p) (Z:0<d3 a e p) (ht:0<d3 b a y) (J:0<d3 a e x)
  (hk:kk b a y p<=0) (hk2:0<kk a e x p) (h1:kk b a y e<=0) (h2:kk a e x b<=0) (hs:0<=d3 a e b)
  (tb:dot D b=0) (tb':0<dot D e) (tba:0<dot D a) (sb':dot I e=0) (sb:0<dot I b) (sba:0<dot I a):False:=by
 have e1:=mi a e b b a y p;rw[Zcn,Zc7] at e1;have Y:=mi a e b a e x p;rw[Zcn,Zc7] at Y;have s1:d3 b a p= - d3 a b p:=Zc6 a b p;rw[s1] at e1 Y;have f1:kk a e b p<=0:=by
  refine dnp ht ?_;have m1:=mnq hs hk;have m2:=mnq (Int.le_of_lt aa) h1;have: -d3 a b p*kk b a y e= -(d3 a b p*kk b a y e):=Int.neg_mul _ _;omega
 have m3:=mnq (Int.le_of_lt Z) h2;have m4:=mnq (Int.le_of_lt J) f1;have m5:=mnn hs (Int.le_of_lt hk2);have O:d3 a e b=0:=by
  rcases Int.lt_or_le 0 (d3 a e b) with h|h
  ·have:=mpp h hk2;omega
  ·omega
 have hk0:kk a e b p=0:=dz J (by omega);have c1:=cf D a e b p;have c2:=cf I a e b p;rw[O,hk0,s1,tb] at c1;rw[O,hk0,s1,sb'] at c2;have g1:=mpp aa tb';have g2:=mpp Z sb;have n1: -d3 a b p*dot D e= -(d3 a b p*dot D e):=Int.neg_mul _ _;rcases Int.lt_or_le 0 (d3 e b p) with h|h
 ·have:=mpp h sba;omega
 ·have:=mqn h (Int.le_of_lt tba);omega
def Zev (a b c d:Vec):Prop:=0<d3 b c d/\d3 a c d<0/\d3 a b d<0/\0<d3 a b c
theorem Zev.turn {a b c d:Vec}(h:Zev a b c d):Zev b a d c:=by
 obtain⟨I,e,J,D⟩:=h;refine⟨?_,?_,?_,?_⟩
 ·rw[Zd6];omega
 ·rw[Zd6];omega
 ·rw[Zc6];omega
 ·rw[Zc6];omega
theorem Zev.flip {a b c d:Vec}(h:Zev a b c d):Zev c d b a:=by
 obtain⟨I,e,J,D⟩:=h;refine⟨?_,?_,?_,?_⟩
 ·have:=Yg d a b;have:=Yg a b d;rw[Zd6];omega
 ·have:=Yg c a b;have:=Yg a b c;rw[Zd6];omega
 ·have:=Yg a c d;omega
 ·have:=Yg b c d;omega
theorem Zjw {a c d p u v x r s t:Vec} (hta:0<d3 u v x) (ht':0<d3 r s t) (O:kk u v x a=0) (Y:0<kk u v x p) (kc:kk u v x c<=0) (kd:kk u v x d<=0)
  (jc:kk r s t c=0) (jd:kk r s t d=0) (ja:kk r s t a<=0) (jp:kk r s t p<=0) (h:Zev a p c d):False:=by
 obtain⟨h1,e,h3,h4⟩:=h;have I:=mi a c d r s t p;have D:=mi a c d u v x p;rw[jc,jd] at I;rw[O] at D;have J:d3 c d p=d3 p c d:=Yg p c d;have r2:d3 d a p=d3 a p d:=(Yg d a p).symm;have Z:d3 a c p= - d3 a p c:=Zd6 a p c;rw[J] at I;rw[r2,Z] at D;have f1:0<=kk a c d p:=by
  refine dnn ht' ?_;have m1:=mqq (Int.le_of_lt e) jp;have m2:=mnq (Int.le_of_lt h1) ja;omega
 have m1:=mmp e Y;have m2:=mqq (Int.le_of_lt h3) kc;have m3:=mnq (Int.le_of_lt h4) kd;have m4:=mnn (Int.le_of_lt hta) f1;have n1: -d3 a p c*kk u v x d= -(d3 a p c*kk u v x d):=Int.neg_mul _ _;omega
theorem Zjx {a b c p l:Vec}(ht:0<d3 a b c)(ha:0<=d3 b c p)(Y:0<=d3 c a p)(hc:0<=d3 a b p)(lp:dot l p=0)(O:0<dot l a)(D:0<dot l b)(J:0<dot l c)(lz:0<l.z)(hw:p.w≠0):0<kk a b c p:=by
 have e:=cf l a b c p;rw[lp] at e;have m1:=mnn ha (Int.le_of_lt O);have m2:=mnn Y (Int.le_of_lt D);have m3:=mnn hc (Int.le_of_lt J);refine Zeu lz ?_;have hne:¬ (d3 b c p=0/\d3 c a p=0/\d3 a b p=0):=by
  rintro⟨Z,z2,z3⟩;have:=Zjv a b c p;rw[Z,z2,z3] at this;exact hw (dz ht (by omega))
 rcases Int.lt_or_le 0 (d3 b c p) with h|h
 ·have:=mpp h O;omega
 ·rcases Int.lt_or_le 0 (d3 c a p) with I|I
  ·have:=mpp I D;omega
  ·have h3:0<d3 a b p:=by omega
   have:=mpp h3 J;omega
theorem Zzr {a b c p l:Vec}(Z:0<d3 a b c)(ha:d3 b c p<=0)(D:d3 c a p<=0)(Y:d3 a b p<=0)(la:dot l a=0)(J:0<dot l p)(I:0<dot l b)(lc:0<dot l c)(lz:0<l.z)(O:0<kk a b c p):False:=by
 have e:=cf l a b c p;rw[la] at e;have m2:=mqn D (Int.le_of_lt I);have m3:=mqn Y (Int.le_of_lt lc);have m4:=mpp lz O;have m5:=mpp Z J;omega
structure Shut (V:Int->Vec)(vs:List Int)(Tr:Int->Int->Int->Prop):Prop where
 rot:∀ {a b c},Tr a b c->Tr b c a
 pair:∀ {a b c},Tr a b c->∃ d,Tr b a d
 mem:∀ {a b c},Tr a b c->a∈vs
 pos:∀ {a b c},Tr a b c->0<d3 (V a) (V b) (V c)
theorem Zfl {α:Type} (P:α->Prop) (le:α->α->Prop) (I:∀ x y,P x->P y->le x y\/le y x)
  (tr:∀ x y z,P x->P y->P z->le x y->le y z->le x z):∀ (L:List α),(∃ x∈L,P x)->∃ x∈L,P x/\∀ y∈L,P y->le y x
 | [],h=>by obtain⟨x,D,_⟩:=h;simp at D
 | a :: L,h=>by
  by_cases O:∃ x∈L,P x
  ·obtain⟨x,D,px,J⟩:=Zfl P le I tr L O;by_cases pa:P a
   ·rcases I a x pa px with k|k
    ·refine⟨x,by simp[D],px,fun y e py=>?_⟩;rcases List.mem_cons.1 e with rfl|e
     ·exact k
     ·exact J y e py
    ·refine⟨a,by simp,pa,fun y e py=>?_⟩;rcases List.mem_cons.1 e with rfl|e
     ·rcases I y y py py with k|k <;> exact k
     ·exact tr y x a py px pa (J y e py) k
   ·refine⟨x,by simp[D],px,fun y e py=>?_⟩;rcases List.mem_cons.1 e with rfl|e
    ·exact absurd py pa
    ·exact J y e py
  ·obtain⟨x,D,px⟩:=h;rcases List.mem_cons.1 D with rfl|D
   ·refine⟨x,by simp,px,fun y e py=>?_⟩;rcases List.mem_cons.1 e with rfl|e
    ·rcases I y y py py with k|k <;> exact k
    ·exact absurd ⟨y,e,py⟩ O
   ·exact absurd ⟨x,D,px⟩ O
def Zfm (vs:List Int):List (Int×Int×Int):=vs.flatMap fun a=>vs.flatMap fun b=>vs.map fun c=>(a,b,c)
theorem Zfn {vs:List Int}{a b c:Int}:(a,b,c)∈Zfm vs↔a∈vs/\b∈vs/\c∈vs:=by
 simp only[Zfm,List.mem_flatMap,List.mem_map,Prod.mk.injEq];constructor
 ·rintro⟨O,I,Y,D,J,e,rfl,rfl,rfl⟩;exact⟨I,D,e⟩
 ·rintro⟨I,D,e⟩;exact⟨a,I,b,D,c,e,rfl,rfl,rfl⟩
theorem big (f:Int->Int):∀ vs:List Int,∃ k:Int,1<=k/\∀ b∈vs,f b<k
 | []=>⟨1,by omega,by simp⟩
 | b :: vs=>by
  obtain⟨k,I,D⟩:=big f vs;refine⟨k+(f b).natAbs+1,by omega,fun c e=>?_⟩;rcases List.mem_cons.1 e with rfl|e
  ·omega
  ·have:=D c e;omega
theorem Zzs {c0 c1 c2 k:Int}(Y:1<=k)(O:((c0.natAbs+c1.natAbs:Nat):Int)<k)(h:c0+k*c1+k*k*c2=0):c0=0/\c1=0/\c2=0:=by
 have D:c0=0:=by
  refine Int.eq_zero_of_dvd_of_natAbs_lt_natAbs (d:=k) (n:=c0) ⟨-(c1+k*c2),by grind⟩ (by omega)
 subst D;have I:k*(c1+k*c2)=0:=by grind
 have J:c1+k*c2=0:=dz (by omega) I;have e:c1=0:=by
  refine Int.eq_zero_of_dvd_of_natAbs_lt_natAbs (d:=k) (n:=c1) ⟨-c2,by grind⟩ (by omega)
 subst e;exact⟨rfl,rfl,dz (show 0<k by omega) (by omega)⟩
def mix (a b c:Vec)(k:Int):Vec:=⟨a.x+k*b.x+k*k*c.x,a.y+k*b.y+k*k*c.y,a.w+k*b.w+k*k*c.w,0⟩
def lin (m n:Int)(r q:Vec):Vec:=⟨n*r.x+m*q.x,n*r.y+m*q.y,n*r.w+m*q.w,0⟩
theorem Zjy (a b c u v:Vec)(k:Int):d3 (mix a b c k) u v=d3 a u v+k*d3 b u v+k*k*d3 c u v:=by unfold mix d3;grind
theorem Zgg (m n:Int)(r q u v:Vec):d3 u v (lin m n r q)=n*d3 u v r+m*d3 u v q:=by unfold lin d3;grind
def two (u v:Vec):Vec:=⟨u.y*v.w-u.w*v.y,-(u.x*v.w-u.w*v.x),u.x*v.y-u.y*v.x,0⟩
theorem Zjz (u v y:Vec):dot (two u v) y=d3 y u v:=by unfold dot two d3;grind
theorem Zfo (a b c y u v:Vec):d3 a b c*d3 y u v=d3 b c y*d3 a u v+d3 c a y*d3 b u v+d3 a b y*d3 c u v:=by
 have:=cf (two u v) a b c y;rw[Zjz,Zjz,Zjz,Zjz] at this;rw[this];simp[two]
theorem Zmk {a b c A B C:Int}(J:a*B<=b*A)(D:b*C<=c*B)(O:0<=A)(I:0<B)(e:0<=C):a*C<=c*A:=by
 have Z:=Int.mul_le_mul_of_nonneg_right J e;have Y:=Int.mul_le_mul_of_nonneg_right D O;have:0<=B*(c*A-a*C):=by grind
 have:=dnn I this;omega
section
variable (V:Int->Vec) (Tr:Int->Int->Int->Prop) (r q:Vec)
def Ent (a b c:Int):Prop:=Tr a b c/\∃ m n:Int,0<=m/\0<n/\0<n*d3 (V a) (V b) r+m*d3 (V a) (V b) q/\0<n*d3 (V b) (V c) r+m*d3 (V b) (V c) q/\0<n*d3 (V c) (V a) r+m*d3 (V c) (V a) q
def Zgh (a b c:Int):Prop:=Ent V Tr r q a b c/\d3 (V a) (V b) q<0/\
 (d3 (V b) (V c) q<0->d3 (V a) (V b) r*(- d3 (V b) (V c) q)<=d3 (V b) (V c) r*(- d3 (V a) (V b) q))/\
 (d3 (V c) (V a) q<0->d3 (V a) (V b) r*(- d3 (V c) (V a) q)<=d3 (V c) (V a) r*(- d3 (V a) (V b) q))
end
theorem Ent.turn {V Tr r q a b c}(J:∀ {a b c},Tr a b c->Tr b c a)(h:Ent V Tr r q a b c):Ent V Tr r q b c a:=by
 obtain⟨h,m,n,I,e,O,D,Y⟩:=h;exact⟨J h,m,n,I,e,D,Y,O⟩
theorem Ent.exit {V Tr r q a b c}(hr:∀ {a b c},Tr a b c->Tr b c a)(h:Ent V Tr r q a b c)(hn:d3 (V a) (V b) q<0\/d3 (V b) (V c) q<0\/d3 (V c) (V a) q<0) :
  Zgh V Tr r q a b c\/Zgh V Tr r q b c a\/Zgh V Tr r q c a b:=by
 have Y:=h.turn hr;have Z:=Y.turn hr;unfold Zgh;generalize Ent V Tr r q a b c=P1 at *
 generalize Ent V Tr r q b c a=P2 at *
 generalize Ent V Tr r q c a b=P3 at *
 generalize d3 (V a) (V b) q=x at *
 generalize d3 (V b) (V c) q=y at *
 generalize d3 (V c) (V a) q=z at *
 generalize d3 (V a) (V b) r=A at *
 generalize d3 (V b) (V c) r=B at *
 generalize d3 (V c) (V a) r=C at *
 by_cases J:x<0 <;> by_cases O:y<0 <;> by_cases I:z<0
 ·rcases Int.le_total (A * -y) (B * -x) with k|k
  ·rcases Int.le_total (A * -z) (C * -x) with D|D
   ·exact .inl ⟨h,J,fun _=>k,fun _=>D⟩
   ·exact .inr (.inr ⟨Z,I,fun _=>D,fun _=>Zmk D k (by omega) (by omega) (by omega)⟩)
  ·rcases Int.le_total (B * -z) (C * -y) with D|D
   ·exact .inr (.inl ⟨Y,O,fun _=>D,fun _=>k⟩)
   ·exact .inr (.inr ⟨Z,I,fun _=>Zmk D k (by omega) (by omega) (by omega),fun _=>D⟩)
 ·rcases Int.le_total (A * -y) (B * -x) with k|k
  ·exact .inl ⟨h,J,fun _=>k,fun e=>absurd e I⟩
  ·exact .inr (.inl ⟨Y,O,fun e=>absurd e I,fun _=>k⟩)
 ·rcases Int.le_total (A * -z) (C * -x) with D|D
  ·exact .inl ⟨h,J,fun e=>absurd e O,fun _=>D⟩
  ·exact .inr (.inr ⟨Z,I,fun _=>D,fun e=>absurd e O⟩)
 ·exact .inl ⟨h,J,fun e=>absurd e O,fun e=>absurd e I⟩
 ·rcases Int.le_total (B * -z) (C * -y) with D|D
  ·exact .inr (.inl ⟨Y,O,fun _=>D,fun e=>absurd e J⟩)
  ·exact .inr (.inr ⟨Z,I,fun e=>absurd e J,fun _=>D⟩)
 ·exact .inr (.inl ⟨Y,O,fun e=>absurd e I,fun e=>absurd e J⟩)
 ·exact .inr (.inr ⟨Z,I,fun e=>absurd e J,fun e=>absurd e O⟩)
 ·omega
theorem Zrd {A x B y m n:Int}(O:0<=m)(e:0<n)(Z:0<n*A+m*x)(I:0<n*B+m*y)(hx:x<0)(D:y<0->A * -y<=B * -x):0<=(-x)*B+A*y:=by
 rcases Int.lt_or_le y 0 with h|h
 ·have:=D h;grind
 ·refine dnn e ?_;have Y:0<=(-x)*(n*B+m*y):=mnn (by omega) (by omega);have J:0<=y*(n*A+m*x):=mnn h (by omega);grind
theorem Zzt {a b c:Vec}{q e:Vec}(J:0<d3 a b c)(I:d3 a q e=0)(D:d3 b q e=0)(O:d3 c q e=0)(y:Vec):d3 y q e=0:=by
 have:=Zfo a b c y q e;rw[I,D,O] at this;exact dz J (by omega)
theorem Zhr {V:Int->Vec}{vs:List Int}{Tr:Int->Int->Int->Prop}(S:Shut V vs Tr){D I c0:Int}(O:Tr D I c0)(q:Vec) :
  ∃ a b c,Tr a b c/\0<=d3 (V a) (V b) q/\0<=d3 (V b) (V c) q/\0<=d3 (V c) (V a) q:=by
 refine Classical.byContradiction fun hno=>?_
 have hneg:∀ a b c,Tr a b c->d3 (V a) (V b) q<0\/d3 (V b) (V c) q<0\/d3 (V c) (V a) q<0:=by
  intro a b c h;refine Classical.byContradiction fun hn=>hno ⟨a,b,c,h,?_,?_,?_⟩ <;> omega
 obtain⟨k,hk1,hk⟩:=big (fun b=>(((d3 (V D) q (V b)).natAbs+(d3 (V I) q (V b)).natAbs:Nat):Int)) vs;have hD0:=S.pos O;generalize hr:mix (V D) (V I) (V c0) k=r;have gen:∀ b∈vs,(∃ y,d3 y q (V b)≠0)->d3 r q (V b)≠0:=by
  intro b hb ⟨y,J⟩ e;rw[<-hr,Zjy] at e;obtain⟨e1,Z,e3⟩:=Zzs hk1 (hk b hb) e;exact J (Zzt hD0 e1 Z e3 y)
 have hE0:Ent V Tr r q D I c0:=by
  refine⟨O,0,1,by omega,by omega,?_,?_,?_⟩
  ·rw[<-hr,<-Yg,<-Yg,Zjy,Zca,Za7];have:d3 (V c0) (V D) (V I)=d3 (V D) (V I) (V c0):=(Yg _ _ _).symm;rw[this];have:=mpp (mpp (show 0<k by omega) (show 0<k by omega)) hD0;omega
  ·rw[<-hr,<-Yg,<-Yg,Zjy,Zca,Za7];omega
  ·rw[<-hr,<-Yg,<-Yg,Zjy,Zca,Za7];rw[Yg];have:=mpp (show 0<k by omega) hD0;omega
 have hX:∃ t∈Zfm vs,Zgh V Tr r q t.1 t.2.1 t.2.2:=by
  have m1:=S.mem O;have m2:=S.mem (S.rot O);have m3:=S.mem (S.rot (S.rot O));rcases hE0.exit S.rot (hneg _ _ _ O) with h|h|h
  ·exact⟨(D,I,c0),Zfn.2 ⟨m1,m2,m3⟩,h⟩
  ·exact⟨(I,c0,D),Zfn.2 ⟨m2,m3,m1⟩,h⟩
  ·exact⟨(c0,D,I),Zfn.2 ⟨m3,m1,m2⟩,h⟩
 obtain⟨⟨a,b,c⟩,_,⟨hE,Y,J,hz⟩,hmax⟩:=Zfl (fun t:Int×Int×Int=>Zgh V Tr r q t.1 t.2.1 t.2.2)
  (fun s t=>d3 (V s.1) (V s.2.1) r*(- d3 (V t.1) (V t.2.1) q)<=d3 (V t.1) (V t.2.1) r*(- d3 (V s.1) (V s.2.1) q))
  (fun x y _ _=>Int.le_total _ _)
  (fun x y z Y J hz h1 h2=>Zmk h1 h2 (by have:=Y.2.1;omega) (by have:=J.2.1;omega) (by have:=hz.2.1;omega)) (Zfm vs) hX
 dsimp only at hE Y J hz hmax
 obtain⟨hT,m,n,hm,hn,g1,g2,g3⟩:=hE;have hD:=S.pos hT;generalize hQ:lin (d3 (V a) (V b) r) (- d3 (V a) (V b) q) r q=Q;have q1:d3 (V a) (V b) Q=0:=by rw[<-hQ,Zgg];grind
 have q2:0<=d3 (V b) (V c) Q:=by rw[<-hQ,Zgg];exact Zrd hm hn g1 g2 Y J
 have q3:0<=d3 (V c) (V a) Q:=by rw[<-hQ,Zgg];exact Zrd hm hn g1 g3 Y hz
 have qz:d3 r q Q=0:=by rw[<-hQ,Zgg,Za7,Zfk];simp
 have gb:d3 r q (V b)≠0:=gen b (S.mem (S.rot hT)) ⟨V a,by rw[Zd6];omega⟩;have ga:d3 r q (V a)≠0:=gen a (S.mem hT) ⟨V b,by rw[Zd6,Zc6];omega⟩;have Qn:∀ u v,d3 u v Q=(- d3 (V a) (V b) q)*d3 u v r+d3 (V a) (V b) r*d3 u v q:=fun u v=>by rw[<-hQ,Zgg]
 have nz:¬ (d3 (V b) (V c) Q=0/\d3 (V c) (V a) Q=0):=by
  rintro⟨z2,z3⟩;have all:∀ u v,d3 u v Q=0:=by
   intro u v;have:=Zfo (V a) (V b) (V c) Q u v;rw[z2,z3,q1] at this;have e:=dz hD (by omega:d3 (V a) (V b) (V c)*d3 Q u v=0);rw[Yg];exact e
  have e:=all q (V b);rw[Qn,Za7] at e;have e':d3 q (V b) r=0:=dz (show 0 < - d3 (V a) (V b) q by omega) (by omega);rw[Yg] at e';exact gb e'
 have cr:=Zfo (V a) (V b) (V c) Q r q;rw[q1] at cr;have cz:d3 Q r q=0:=by rw[<-Yg];exact qz
 rw[cz] at cr;have ra:d3 (V a) r q=d3 r q (V a):=(Yg _ _ _).symm;have rb:d3 (V b) r q=d3 r q (V b):=(Yg _ _ _).symm;rw[ra,rb] at cr;have p2:0<d3 (V b) (V c) Q:=by
  rcases Int.lt_or_le 0 (d3 (V b) (V c) Q) with h|h
  ·exact h
  ·have Z:d3 (V b) (V c) Q=0:=by omega
   rw[Z] at cr;have h3:d3 (V c) (V a) Q≠0:=fun e=>nz ⟨Z,e⟩
   have:=dz (show 0<d3 (V c) (V a) Q by omega) (by omega:d3 (V c) (V a) Q*d3 r q (V b)=0);exact absurd this gb
 have p3:0<d3 (V c) (V a) Q:=by
  rcases Int.lt_or_le 0 (d3 (V c) (V a) Q) with h|h
  ·exact h
  ·have e3:d3 (V c) (V a) Q=0:=by omega
   rw[e3] at cr;have:=dz p2 (by omega:d3 (V b) (V c) Q*d3 r q (V a)=0);exact absurd this ga
 obtain⟨d,aa⟩:=S.pair hT;have hD':=S.pos aa;have s1:0<d3 (V a) (V d) Q:=by
  have:=Zfo (V a) (V b) (V c) Q (V a) (V d);rw[q1,Zca] at this;have e:d3 Q (V a) (V d)=d3 (V a) (V d) Q:=(Yg _ _ _).symm;rw[e] at this;refine Zeu hD ?_;have:=mpp p3 hD';omega
 have s2:0<d3 (V d) (V b) Q:=by
  have:=Zfo (V a) (V b) (V c) Q (V d) (V b);rw[q1] at this;have e:d3 Q (V d) (V b)=d3 (V d) (V b) Q:=(Yg _ _ _).symm;have Z:d3 (V b) (V d) (V b)=0:=Za7 _ _;have e3:d3 (V a) (V d) (V b)=d3 (V b) (V a) (V d):=Yg _ _ _;rw[e,Z,e3] at this;refine Zeu hD ?_;have:=mpp p2 hD';omega
 generalize hN:((d3 (V a) (V d) q).natAbs:Int)+((d3 (V d) (V b) q).natAbs:Int)+1=N;have hN1:1<=N:=by omega
 have hE':Ent V Tr r q b a d:=by
  refine⟨aa,N*d3 (V a) (V b) r+1,N*(- d3 (V a) (V b) q),?_,mpp (by omega) (by omega),?_,?_,?_⟩
  ·-- the edge's number is not below nought at r
   have h1:0<d3 (V a) (V b) r:=by
    refine Zeu hn ?_;have:=mnq hm (Int.le_of_lt Y);omega
   have:=mpp (show 0<N by omega) h1;omega
  ·rw[Zc6 (V a) (V b) r,Zc6 (V a) (V b) q];grind
  ·have:=Qn (V a) (V d);have e:N * -d3 (V a) (V b) q*d3 (V a) (V d) r+(N*d3 (V a) (V b) r+1)*d3 (V a) (V d) q=N*d3 (V a) (V d) Q+d3 (V a) (V d) q:=by rw[this];grind
   rw[e];have:=Int.mul_le_mul_of_nonneg_left (show 1<=d3 (V a) (V d) Q by omega) (show 0<=N by omega);omega
  ·have:=Qn (V d) (V b);have e:N * -d3 (V a) (V b) q*d3 (V d) (V b) r+(N*d3 (V a) (V b) r+1)*d3 (V d) (V b) q=N*d3 (V d) (V b) Q+d3 (V d) (V b) q:=by rw[this];grind
   rw[e];have:=Int.mul_le_mul_of_nonneg_left (show 1<=d3 (V d) (V b) Q by omega) (show 0<=N by omega);omega
 have fin:∀ u v,0<N*(- d3 (V a) (V b) q)*d3 (V u) (V v) r+(N*d3 (V a) (V b) r+1)*d3 (V u) (V v) q->d3 (V u) (V v) q<0->d3 (V u) (V v) r*(- d3 (V a) (V b) q)<=d3 (V a) (V b) r*(- d3 (V u) (V v) q)->False:=by
  intro u v h1 h2 h3;have:=Int.mul_le_mul_of_nonneg_left h3 (show 0<=N by omega);grind
 obtain⟨_,m',n',hm',hn',f1,f2,f3⟩:=id hE';have hex:=hE'.exit S.rot (hneg _ _ _ aa);have mb:=S.mem aa;have ma:=S.mem (S.rot aa);have md:=S.mem (S.rot (S.rot aa));obtain⟨_,m2,n2,hm2,hn2,k1,k2,k3⟩:=hE';have w1:0<N*(- d3 (V a) (V b) q)*d3 (V b) (V a) r+(N*d3 (V a) (V b) r+1)*d3 (V b) (V a) q:=by
  rw[Zc6 (V a) (V b) r,Zc6 (V a) (V b) q];grind
 have w2:0<N*(- d3 (V a) (V b) q)*d3 (V a) (V d) r+(N*d3 (V a) (V b) r+1)*d3 (V a) (V d) q:=by
  have:=Qn (V a) (V d);have e:N * -d3 (V a) (V b) q*d3 (V a) (V d) r+(N*d3 (V a) (V b) r+1)*d3 (V a) (V d) q=N*d3 (V a) (V d) Q+d3 (V a) (V d) q:=by rw[this];grind
  rw[e];have:=Int.mul_le_mul_of_nonneg_left (show 1<=d3 (V a) (V d) Q by omega) (show 0<=N by omega);omega
 have w3:0<N*(- d3 (V a) (V b) q)*d3 (V d) (V b) r+(N*d3 (V a) (V b) r+1)*d3 (V d) (V b) q:=by
  have:=Qn (V d) (V b);have e:N * -d3 (V a) (V b) q*d3 (V d) (V b) r+(N*d3 (V a) (V b) r+1)*d3 (V d) (V b) q=N*d3 (V d) (V b) Q+d3 (V d) (V b) q:=by rw[this];grind
  rw[e];have:=Int.mul_le_mul_of_nonneg_left (show 1<=d3 (V d) (V b) Q by omega) (show 0<=N by omega);omega
 rcases hex with h|h|h
 ·exact fin b a w1 h.2.1 (hmax (b,a,d) (Zfn.2 ⟨mb,ma,md⟩) h)
 ·exact fin a d w2 h.2.1 (hmax (a,d,b) (Zfn.2 ⟨ma,md,mb⟩) h)
 ·exact fin d b w3 h.2.1 (hmax (d,b,a) (Zfn.2 ⟨md,mb,ma⟩) h)
structure Net (V:Int->Vec)(vs:List Int)(Tr:Int->Int->Int->Prop):Prop extends Shut V vs Tr where
 fn:∀ {a b c d},Tr a b c->Tr a b d->c=d
 out:∀ {a b c},Tr a b c->∀ q∈vs,kk (V a) (V b) (V c) (V q)<=0
 ncr:∀ {a b x c d y},Tr a b x->Tr c d y->¬ Zev (V a) (V b) (V c) (V d)
 ne:∃ a b c,Tr a b c
def Sep (V:Int->Vec)(e:List Int):Prop:=∀ a∈e,(V a).w≠0/\∃ l:Vec,0<l.z/\dot l (V a)=0/\∀ b∈e,b≠a->0<dot l (V b)
theorem Zhs {α:Type}:∀ (H S:List α),H.Nodup->(∀ p∈H,p∈S)->H.length<=S.length:=by
 classical
 intro H;induction H with
 | nil=>intro S _ _;simp
 | cons a H ih=>
  intro S Y D;have O:a∈S:=D a (by simp);have I:=List.nodup_cons.1 Y
  have := ih (S.erase a) I.2 (fun p J => by
    have Z : p ≠ a := fun e => I.1 (e ▸ J)
    exact (List.mem_erase_of_ne Z).2 (D p (by simp [J])))
  rw[List.length_erase_of_mem O] at this;have aa:0<S.length:=List.length_pos_of_mem O;simp only[List.length_cons];omega
theorem Zht {α β:Type}(f:α->β):∀ (L:List α),L.Nodup->(∀ a∈L,∀ b∈L,f a=f b->a=b)->(L.map f).Nodup
 | [],_,_=>by simp
 | a :: L,h,hi=>by
  rw[List.map_cons,List.nodup_cons];have I:=List.nodup_cons.1 h;refine⟨fun O=>?_,Zht f L I.2 (fun x Y y J=>hi x (by simp[Y]) y (by simp[J]))⟩;obtain⟨b,D,e⟩:=List.mem_map.1 O;have:=hi b (by simp[D]) a (by simp) e;subst this;exact I.1 D
section
variable (V:Int->Vec) (Tr:Int->Int->Int->Prop) (p:Int)
def Rim (a b:Int):Prop:=∃ c d,Tr a b c/\0<kk (V a) (V b) (V c) (V p)/\Tr b a d/\kk (V b) (V a) (V d) (V p)<=0
def Zbr (a b c:Int):Prop:=(Tr a b c/\kk (V a) (V b) (V c) (V p)<=0)\/(Rim V Tr p a b/\c=p)\/(Rim V Tr p b c/\a=p)\/(Rim V Tr p c a/\b=p)
end
section
variable {V:Int->Vec} {Tr:Int->Int->Int->Prop} {p:Int} {vs:List Int}
theorem Net.rim_pos (N:Net V vs Tr){a b:Int}(h:Rim V Tr p a b):0<d3 (V a) (V b) (V p):=by
 obtain⟨c,d,e,I,D,J⟩:=h;rcases Int.lt_or_le 0 (d3 (V a) (V b) (V p)) with k|k
 ·exact k
 ·have:=Zzp (N.pos e) (N.pos D) (N.out D c (N.mem (N.rot (N.rot e)))) k I;omega
theorem Net.rim_in_uniq (N:Net V vs Tr)(sep:Sep V vs){a D b:Int}(h:Rim V Tr p a b)(h':Rim V Tr p D b):a=D:=by
 have hp:=N.rim_pos h;have hp':=N.rim_pos h';obtain⟨c,y,h1,h2,h3,h4⟩:=h;obtain⟨c',y',h1',h2',h3',h4'⟩:=h';have I:=N.mem h1;have J:=N.mem h1';have mb:=N.mem h3;refine Classical.byContradiction fun Y=>?_
 have hab:a≠b:=by intro e;subst e;have:=N.pos h1;rw[Zca] at this;omega
 have hab':D≠b:=by intro e;subst e;have:=N.pos h1';rw[Zca] at this;omega
 obtain⟨la,_,la0,O⟩:=(sep a I).2;obtain⟨la',_,la0',Z⟩:=(sep D J).2;rcases Int.lt_or_le (d3 (V b) (V a) (V D)) 0 with k|k
 ·exact Zrb hp' hp (N.pos h3') (N.pos h1) h4' h2 (N.out h3' a I) (N.out h1 D J) (by rw[Zd6];omega) la0' (Z a I Y) (Z b mb (Ne.symm hab')) la0 (O D J (Ne.symm Y)) (O b mb (Ne.symm hab))
 ·exact Zrb hp hp' (N.pos h3) (N.pos h1') h4 h2' (N.out h3 D J) (N.out h1' a I) k la0 (O D J (Ne.symm Y)) (O b mb (Ne.symm hab)) la0' (Z a I Y) (Z b mb (Ne.symm hab'))
theorem Net.rim_out_uniq (N:Net V vs Tr)(sep:Sep V vs){a b D:Int}(h:Rim V Tr p a b)(h':Rim V Tr p a D):b=D:=by
 have hp:=N.rim_pos h;have hp':=N.rim_pos h';obtain⟨c,y,h1,h2,h3,h4⟩:=h;obtain⟨c',y',h1',h2',h3',h4'⟩:=h';have ma:=N.mem h1;have J:=N.mem h3;have I:=N.mem h3';refine Classical.byContradiction fun Y=>?_
 have hab:a≠b:=by intro e;subst e;have:=N.pos h1;rw[Zca] at this;omega
 have hab':a≠D:=by intro e;subst e;have:=N.pos h1';rw[Zca] at this;omega
 obtain⟨lb,_,lb0,O⟩:=(sep b J).2;obtain⟨lb',_,lb0',Z⟩:=(sep D I).2;rcases Int.lt_or_le (d3 (V a) (V D) (V b)) 0 with k|k
 ·exact Zrc hp' hp (N.pos h3') (N.pos h1) h4' h2 (N.out h3' b J) (N.out h1 D I) (by rw[Zd6];omega) lb0' (Z b J Y) (Z a ma hab') lb0 (O D I (Ne.symm Y)) (O a ma hab)
 ·exact Zrc hp hp' (N.pos h3) (N.pos h1') h4 h2' (N.out h3 D I) (N.out h1' b J) k lb0 (O D I (Ne.symm Y)) (O a ma hab) lb0' (Z b J Y) (Z a ma hab')
theorem Net.around (N:Net V vs Tr)(J:vs.Nodup)(b:Int):∃ (L:List Int) (f:Int->Int),L.Nodup/\(∀ c,c∈L↔∃ x,Tr c b x/\0<kk (V c) (V b) (V x) (V p))/\(∀ c∈L,Tr c b (f c))/\(L.map f).Nodup:=by
 classical
 refine⟨vs.filter (fun c=>decide (∃ x,Tr c b x/\0<kk (V c) (V b) (V x) (V p))),fun c=>if h:∃ x,Tr c b x then Classical.choose h else c,J.filter _,?_,?_,?_⟩
 ·intro c;rw[List.mem_filter,decide_eq_true_eq];refine⟨fun h=>h.2,fun h=>⟨?_,h⟩⟩;obtain⟨x,D,_⟩:=h;exact N.mem D
 ·intro c I;rw[List.mem_filter,decide_eq_true_eq] at I;obtain⟨_,x,D,_⟩:=I;have h:∃ x,Tr c b x:=⟨x,D⟩;dsimp only
  rw[dif_pos h];exact Classical.choose_spec h
 ·refine Zht _ _ (J.filter _) ?_;intro c I d O e;rw[List.mem_filter,decide_eq_true_eq] at I O;obtain⟨_,x,D,_⟩:=I;obtain⟨_,y,hy,_⟩:=O;have h:∃ x,Tr c b x:=⟨x,D⟩;have Y:∃ x,Tr d b x:=⟨y,hy⟩;rw[dif_pos h,dif_pos Y] at e;have s:=Classical.choose_spec h;have Z:=Classical.choose_spec Y;rw[e] at s;exact N.fn (N.rot s) (N.rot Z)
theorem Net.rim_out_ex (N:Net V vs Tr)(hnd:vs.Nodup){a b:Int}(h:Rim V Tr p a b):∃ c,Rim V Tr p b c:=by
 obtain⟨L,f,hL,I,hf,hfn⟩:=N.around (p:=p) hnd b;refine Classical.byContradiction fun hno=>?_
 have hsub:∀ c∈L.map f,c∈L:=by
  intro c Y;obtain⟨d,Z,rfl⟩:=List.mem_map.1 Y;obtain⟨x,D,O⟩:=(I d).1 Z;have e:=N.fn D (hf d Z);subst e;obtain⟨y,hy⟩:=N.pair (N.rot D);rw[I];refine⟨y,hy,?_⟩;rcases Int.lt_or_le 0 (kk (V (f d)) (V b) (V y) (V p)) with k|k
  ·exact k
  ·refine absurd ⟨f d,d,y,N.rot D,?_,hy,k⟩ hno;rw[Zar];exact O
 obtain⟨c,d,h1,h2,h3,h4⟩:=h;have haL:a∈L:=(I a).2 ⟨c,h1,h2⟩;have hna:a ∉ L.map f:=by
  intro Y;obtain⟨e,he,ef⟩:=List.mem_map.1 Y;obtain⟨x,D,O⟩:=(I e).1 he;have e1:=N.fn D (hf e he);subst e1;have t:=N.rot D;rw[ef] at t;have e2:=N.fn t h3;subst e2;rw[ef,<-Zar] at O;omega
 have := Zhs (a :: L.map f) L (List.nodup_cons.2 ⟨hna, hfn⟩) (fun q J => by
   rcases List.mem_cons.1 J with rfl | J
   · exact haL
   · exact hsub q J)
 simp at this;omega
theorem Net.rim_in_ex (N:Net V vs Tr)(hnd:vs.Nodup){b c:Int}(h:Rim V Tr p b c):∃ a,Rim V Tr p a b:=by
 obtain⟨L,f,hL,D,hf,hfn⟩:=N.around (p:=p) hnd b;refine Classical.byContradiction fun hno=>?_
 have hsub:∀ c∈L,c∈L.map f:=by
  intro c O;obtain⟨x,e,Y⟩:=(D c).1 O;obtain⟨y,I⟩:=N.pair e;rcases Int.lt_or_le 0 (kk (V b) (V c) (V y) (V p)) with k|k
  ·have t:Tr y b c:=N.rot (N.rot I);have Z:y∈L:=(D y).2 ⟨c,t,by rw[<-Zar];exact k⟩;exact List.mem_map.2 ⟨y,Z,N.fn (hf y Z) t⟩
  ·exact absurd ⟨c,x,y,e,Y,I,k⟩ hno
 obtain⟨x,d,h1,h2,h3,h4⟩:=h;have hcL:c ∉ L:=by
  intro O;obtain⟨y,I,Y⟩:=(D c).1 O;have:=N.fn I h3;subst this;omega
 have hcm:c∈L.map f:=by
  have t:Tr x b c:=N.rot (N.rot h1);have e:x∈L:=(D x).2 ⟨c,t,by rw[<-Zar];exact h2⟩;exact List.mem_map.2 ⟨x,e,N.fn (hf x e) t⟩
 have := Zhs (c :: L) (L.map f) (List.nodup_cons.2 ⟨hcL, hL⟩) (fun q J => by
   rcases List.mem_cons.1 J with rfl | J
   · exact hcm
   · exact hsub q J)
 simp at this;omega
theorem Net.hole_ne (N:Net V vs Tr)(I:p ∉ vs)(sep:Sep V (p :: vs)):∃ a b c,Tr a b c/\0<kk (V a) (V b) (V c) (V p):=by
 obtain⟨a0,b0,c0,h0⟩:=N.ne;obtain⟨a,b,c,h,h1,Z,h3⟩:=Zhr N.toShut h0 (V p);obtain⟨hw,l,lz,l0,D⟩:=sep p (by simp);have O:=N.mem h;have Y:=N.mem (N.rot h);have J:=N.mem (N.rot (N.rot h));exact⟨a,b,c,h,Zjx (N.pos h) Z h3 h1 l0 (D a (by simp[O]) (fun e=>I (e ▸ O))) (D b (by simp[Y]) (fun e=>I (e ▸ Y))) (D c (by simp[J]) (fun e=>I (e ▸ J))) lz hw⟩
def Zml (v:Vec):Vec:=⟨-v.x,-v.y,-v.w,-v.z⟩
theorem Zzu (a b v:Vec):d3 a b (Zml v)= - d3 a b v:=by unfold Zml d3;grind
theorem Net.rim_ne (N:Net V vs Tr)(Z:p ∉ vs)(O:Sep V (p :: vs)):∃ a b,Rim V Tr p a b:=by
 refine Classical.byContradiction fun hno=>?_
 obtain⟨a0,b0,c0,h0,k0⟩:=N.hole_ne Z O;have S:Shut V vs (fun a b c=>Tr a b c/\0<kk (V a) (V b) (V c) (V p)):=by
  refine⟨?_,?_,?_,?_⟩
  ·rintro a b c ⟨h,k⟩;exact⟨N.rot h,by rw[Zar];exact k⟩
  ·rintro a b c ⟨h,k⟩;obtain⟨d,Y⟩:=N.pair h;refine⟨d,Y,?_⟩;rcases Int.lt_or_le 0 (kk (V b) (V a) (V d) (V p)) with I|I
   ·exact I
   ·exact absurd ⟨a,b,c,d,h,k,Y,I⟩ hno
  ·rintro a b c ⟨h,k⟩;exact N.mem h
  ·rintro a b c ⟨h,k⟩;exact N.pos h
 obtain⟨a,b,c,⟨h,k⟩,h1,h2,h3⟩:=Zhr S ⟨h0,k0⟩ (Zml (V p));rw[Zzu] at h1 h2 h3;have ma:=N.mem h;have mb:=N.mem (N.rot h);have mc:=N.mem (N.rot (N.rot h));obtain⟨hw,l,lz,l0,D⟩:=O a (by simp[ma]);have hpa:p≠a:=fun e=>Z (e ▸ ma)
 have J:=N.pos h;have hba:b≠a:=by intro e;subst e;rw[Zca] at J;omega
 have hca:c≠a:=by intro e;subst e;rw[Za7] at J;omega
 exact Zzr J (by omega) (by omega) (by omega) l0 (D p (by simp) hpa) (D b (by simp[mb]) hba) (D c (by simp[mc]) hca) lz k
theorem Net.rim_mem (N:Net V vs Tr){a b:Int}(h:Rim V Tr p a b):a∈vs/\b∈vs:=by
 obtain⟨c,d,e,_,D,_⟩:=h;exact⟨N.mem e,N.mem D⟩
theorem Net.edge_kind (N:Net V vs Tr)(O:p ∉ vs){a b x:Int}(h:Zbr V Tr p a b x) :
  ((∃ y,Tr a b y)/\a∈vs/\b∈vs/\∃ r s t,Tr r s t/\kk (V r) (V s) (V t) (V p)<=0/\kk (V r) (V s) (V t) (V a)=0/\kk (V r) (V s) (V t) (V b)=0)\/
  (a=p/\b∈vs/\∃ u v w,Tr u v w/\0<kk (V u) (V v) (V w) (V p)/\kk (V u) (V v) (V w) (V b)=0)\/
  (b=p/\a∈vs/\∃ u v w,Tr u v w/\0<kk (V u) (V v) (V w) (V p)/\kk (V u) (V v) (V w) (V a)=0):=by
 rcases h with ⟨h,k⟩|⟨h,rfl⟩|⟨h,rfl⟩|⟨h,rfl⟩
 ·exact .inl ⟨⟨x,h⟩,N.mem h,N.mem (N.rot h),a,b,x,h,k,Zcn _ _ _,Zc7 _ _ _⟩
 ·have m:=N.rim_mem h;obtain⟨c,d,e,D,I,J⟩:=h;exact .inl ⟨⟨c,e⟩,m.1,m.2,b,a,d,I,J,Zc7 _ _ _,Zcn _ _ _⟩
 ·have m:=N.rim_mem h;obtain⟨c,d,e,D,I,J⟩:=h;exact .inr (.inl ⟨rfl,m.1,b,x,c,e,D,Zcn _ _ _⟩)
 ·have m:=N.rim_mem h;obtain⟨c,d,e,D,I,J⟩:=h;exact .inr (.inr ⟨rfl,m.2,x,a,c,e,D,Zc7 _ _ _⟩)
theorem Net.add (N:Net V vs Tr)(hnd:vs.Nodup)(hp:p ∉ vs)(sep:Sep V (p :: vs)):Net V (p :: vs) (Zbr V Tr p):=by
 have sep':Sep V vs:=fun a ha=>by
  obtain⟨hw,l,lz,l0,l1⟩:=sep a (by simp[ha]);exact⟨hw,l,lz,l0,fun b hb=>l1 b (by simp[hb])⟩
 have Y:∀ {a},a∈vs->a≠p:=fun ha e=>hp (e ▸ ha)
 refine { rot:=?_,pair:=?_,mem:=?_,pos:=?_,fn:=?_,out:=?_,ncr:=?_,ne:=?_ }
 ·rintro a b c (⟨h,k⟩|⟨h,e⟩|⟨h,e⟩|⟨h,e⟩)
  ·exact .inl ⟨N.rot h,by rw[Zar];exact k⟩
  ·exact .inr (.inr (.inr ⟨h,e⟩))
  ·exact .inr (.inl ⟨h,e⟩)
  ·exact .inr (.inr (.inl ⟨h,e⟩))
 ·rintro a b c (⟨h,k⟩|⟨h,rfl⟩|⟨h,rfl⟩|⟨h,rfl⟩)
  ·obtain⟨d,hd⟩:=N.pair h;rcases Int.lt_or_le 0 (kk (V b) (V a) (V d) (V p)) with k'|k'
   ·exact⟨p,.inr (.inl ⟨⟨d,c,hd,k',h,k⟩,rfl⟩)⟩
   ·exact⟨d,.inl ⟨hd,k'⟩⟩
  ·obtain⟨x,d,_,_,h3,h4⟩:=h;exact⟨d,.inl ⟨h3,h4⟩⟩
  ·obtain⟨z,hz⟩:=N.rim_in_ex hnd h;exact⟨z,.inr (.inr (.inr ⟨hz,rfl⟩))⟩
  ·obtain⟨z,hz⟩:=N.rim_out_ex hnd h;exact⟨z,.inr (.inr (.inl ⟨hz,rfl⟩))⟩
 ·rintro a b c (⟨h,k⟩|⟨h,rfl⟩|⟨h,rfl⟩|⟨h,rfl⟩)
  ·have:=N.mem h;simp[this]
  ·have:=(N.rim_mem h).1;simp[this]
  ·simp
  ·have:=(N.rim_mem h).2;simp[this]
 ·rintro a b c (⟨h,k⟩|⟨h,rfl⟩|⟨h,rfl⟩|⟨h,rfl⟩)
  ·exact N.pos h
  ·exact N.rim_pos h
  ·rw[<-Yg];exact N.rim_pos h
  ·have:=N.rim_pos h;rw[Yg,Yg] at this;exact this
 ·intro a b c d h D;rcases h with ⟨h,k⟩|⟨h,e⟩|⟨h,e⟩|⟨h,e⟩ <;> rcases D with ⟨D,k'⟩|⟨D,e'⟩|⟨D,e'⟩|⟨D,e'⟩
  ·exact N.fn h D
  ·obtain⟨x,y,h1,h2,_,_⟩:=D;have:=N.fn h h1;subst this;omega
  ·exact absurd e' (Y (N.mem h))
  ·exact absurd e' (Y (N.mem (N.rot h)))
  ·obtain⟨x,y,h1,h2,_,_⟩:=h;have:=N.fn D h1;subst this;omega
  ·rw[e,e']
  ·exact absurd e' (Y (N.rim_mem h).1)
  ·exact absurd e' (Y (N.rim_mem h).2)
  ·exact absurd e (Y (N.mem D))
  ·exact absurd e (Y (N.rim_mem D).1)
  ·exact N.rim_out_uniq sep' h D
  ·exact absurd e' (Y (N.rim_mem h).1)
  ·exact absurd e (Y (N.mem (N.rot D)))
  ·exact absurd e (Y (N.rim_mem D).2)
  ·exact absurd e (Y (N.rim_mem D).1)
  ·exact N.rim_in_uniq sep' h D
 ·have rimk:∀ {a b},Rim V Tr p a b->∀ q∈p :: vs,kk (V a) (V b) (V p) (V q)<=0:=by
   intro a b h q I;have hpos:=N.rim_pos h;rcases List.mem_cons.1 I with rfl|I
   ·rw[Zra];omega
   ·obtain⟨c,d,h1,h2,h3,h4⟩:=h;exact Zzq (N.pos h1) (N.pos h3) hpos h2 h4 (N.out h1 q I) (N.out h3 q I)
  rintro a b c (⟨h,k⟩|⟨h,rfl⟩|⟨h,rfl⟩|⟨h,rfl⟩) q I
  ·rcases List.mem_cons.1 I with rfl|I
   ·exact k
   ·exact N.out h q I
  ·exact rimk h q I
  ·rw[<-Zar];exact rimk h q I
  ·have:=rimk h q I;rw[Zar,Zar] at this;exact this
 ·intro a b x c d y h D hc;have k:=N.edge_kind hp h;have k':=N.edge_kind hp D;rcases k with ⟨⟨x1,Z⟩,ma,mb,r,s,t,g2,g3,g4,g5⟩|⟨rfl,mb,u,v,w,Z,g2,g3⟩|⟨rfl,ma,u,v,w,Z,g2,g3⟩
  ·rcases k' with ⟨⟨x1',J⟩,mc,md,r',s',t',O,g3',g4',g5'⟩|⟨rfl,md,u',v',w',J,O,g3'⟩|⟨rfl,mc,u',v',w',J,O,g3'⟩
   ·exact N.ncr Z J hc
   ·exact Zjw (N.pos J) (N.pos g2) g3' O (N.out J a ma) (N.out J b mb) g4 g5 (N.out g2 d md) g3 hc.flip.turn
   ·exact Zjw (N.pos J) (N.pos g2) g3' O (N.out J b mb) (N.out J a ma) g5 g4 (N.out g2 c mc) g3 hc.flip
  ·rcases k' with ⟨⟨x1',J⟩,mc,md,r',s',t',O,g3',g4',g5'⟩|⟨e,md,_⟩|⟨e,mc,_⟩
   ·exact Zjw (N.pos Z) (N.pos O) g3 g2 (N.out Z d md) (N.out Z c mc) g5' g4' (N.out O b mb) g3' hc.turn
   ·have:=hc.2.1;rw[e,Zca] at this;omega
   ·have:=hc.2.1;rw[e,Za7] at this;omega
  ·rcases k' with ⟨⟨x1',J⟩,mc,md,r',s',t',O,g3',g4',g5'⟩|⟨e,md,_⟩|⟨e,mc,_⟩
   ·exact Zjw (N.pos Z) (N.pos O) g3 g2 (N.out Z c mc) (N.out Z d md) g4' g5' (N.out O a ma) g3' hc
   ·have:=hc.1;rw[e,Zca] at this;omega
   ·have:=hc.1;rw[e,Za7] at this;omega
 ·obtain⟨a,b,h⟩:=N.rim_ne hp sep;exact⟨a,b,p,.inr (.inl ⟨h,rfl⟩)⟩
end
def Ze (q:Pt):Vec:=⟨q.1,q.2,1,q.1*q.1+q.2*q.2⟩
def BIG:Int:=100000000000000000000
def Xd (a b c:Pt):Vec:=⟨-(a.1+b.1+c.1),-(a.2+b.2+c.2),-3,BIG-((a.1*a.1+a.2*a.2)+(b.1*b.1+b.2*b.2)+(c.1*c.1+c.2*c.2))⟩
def VV (P:Int->Pt)(a b c:Int)(i:Int):Vec:=if i<0 then Xd (P a) (P b) (P c) else Ze (P i)
theorem Zdp (P:Int->Pt)(a b c:Int):VV P a b c (-1)=Xd (P a) (P b) (P c):=rfl
theorem Zew (P:Int->Pt)(a b c:Int){i:Int}(h:0<=i):VV P a b c i=Ze (P i):=by unfold VV;rw[if_neg (by omega)]
def cc (a b c d:Pt):Int:=
 ((a.1-d.1)*(a.1-d.1)+(a.2-d.2)*(a.2-d.2))*((b.1-d.1)*(c.2-d.2)-(b.2-d.2)*(c.1-d.1)) +
 ((b.1-d.1)*(b.1-d.1)+(b.2-d.2)*(b.2-d.2))*((c.1-d.1)*(a.2-d.2)-(c.2-d.2)*(a.1-d.1)) +
 ((c.1-d.1)*(c.1-d.1)+(c.2-d.2)*(c.2-d.2))*((a.1-d.1)*(b.2-d.2)-(a.2-d.2)*(b.1-d.1))
theorem Za0 (a b c:Pt):d3 (Ze a) (Ze b) (Ze c)=sd a b c:=by unfold d3 Ze sd;grind
theorem Zhu (a b c d:Pt):kk (Ze a) (Ze b) (Ze c) (Ze d)=cc a b c d:=by unfold kk d3 Ze cc;grind
theorem Zmm (u v a b c:Pt):d3 (Ze u) (Ze v) (Xd a b c)= -(sd u v a+sd u v b+sd u v c):=by unfold d3 Ze Xd sd;grind
theorem Zhv (u v x q:Pt):cc u v x q= -(sd u v x)*dt u v q+sd u v q*dt u v x:=by unfold cc sd dt;grind
theorem Zj0 (a b c p:Vec):kk a b p c= - kk a b c p:=by unfold kk d3;grind
theorem Zmn (a b c p:Vec):kk b a c p= - kk a b c p:=by unfold kk d3;grind
theorem Zre (u v a b c q:Pt):kk (Ze u) (Ze v) (Xd a b c) (Ze q)=BIG*sd u v q-(cc u v a q+cc u v b q+cc u v c q):=by
 rw[<-Zhu,<-Zhu,<-Zhu];unfold kk d3 Ze Xd sd;grind
def Yo (q:Pt):Prop:= -8000<=q.1/\q.1<=8000/\ -8000<=q.2/\q.2<=8000
theorem Za8 {a b A B:Int}(h1: -A<=a)(D:a<=A)(h3: -B<=b)(O:b<=B): -(A*B)<=a*b/\a*b<=A*B:=by
 have hA:0<=A:=by omega
 have J:0<=B:=by omega
 have Y:0<=(A-a)*(B-b):=mnn (by omega) (by omega);have I:0<=(A+a)*(B+b):=mnn (by omega) (by omega);have Z:0<=(A-a)*(B+b):=mnn (by omega) (by omega);have e:0<=(A+a)*(B-b):=mnn (by omega) (by omega);constructor <;> grind
theorem Zex {a d:Int}(h: -8000<=a/\a<=8000)(k: -8000<=d/\d<=8000): -16000<=a-d/\a-d<=16000:=by omega
theorem Zmo {a b c d:Pt}(ha:Yo a)(hb:Yo b)(hc:Yo c)(hd:Yo d): -1000000000000000000<=cc a b c d/\cc a b c d<=1000000000000000000:=by
 obtain⟨a1,a2,a3,a4⟩:=ha;obtain⟨b1,b2,b3,b4⟩:=hb;obtain⟨c1,c2,c3,c4⟩:=hc;obtain⟨e1,e2,e3,e4⟩:=hd;unfold cc;have O:=Zex ⟨a1,a2⟩ ⟨e1,e2⟩;have J:=Zex ⟨a3,a4⟩ ⟨e3,e4⟩;have e:=Zex ⟨b1,b2⟩ ⟨e1,e2⟩;have D:=Zex ⟨b3,b4⟩ ⟨e3,e4⟩;have I:=Zex ⟨c1,c2⟩ ⟨e1,e2⟩;have Y:=Zex ⟨c3,c4⟩ ⟨e3,e4⟩;generalize a.1-d.1=ax at *
 generalize a.2-d.2=ay at *
 generalize b.1-d.1=bx at *
 generalize b.2-d.2=b_y at *
 generalize c.1-d.1=Z at *
 generalize c.2-d.2=cy at *
 have p1:=Za8 O.1 O.2 O.1 O.2;have p2:=Za8 J.1 J.2 J.1 J.2;have p3:=Za8 e.1 e.2 e.1 e.2;have p4:=Za8 D.1 D.2 D.1 D.2;have p5:=Za8 I.1 I.2 I.1 I.2;have p6:=Za8 Y.1 Y.2 Y.1 Y.2;have q1:=Za8 e.1 e.2 Y.1 Y.2;have q2:=Za8 D.1 D.2 I.1 I.2;have q3:=Za8 I.1 I.2 J.1 J.2;have q4:=Za8 Y.1 Y.2 O.1 O.2;have q5:=Za8 O.1 O.2 D.1 D.2;have q6:=Za8 J.1 J.2 e.1 e.2;have t1:=Za8 (A:=512000000) (B:=512000000) (a:=ax*ax+ay*ay) (b:=bx*cy-b_y*Z) (by omega) (by omega) (by omega) (by omega);have t2:=Za8 (A:=512000000) (B:=512000000) (a:=bx*bx+b_y*b_y) (b:=Z*ay-cy*ax) (by omega) (by omega) (by omega) (by omega);have t3:=Za8 (A:=512000000) (B:=512000000) (a:=Z*Z+cy*cy) (b:=ax*b_y-ay*bx) (by omega) (by omega) (by omega) (by omega);omega
theorem Zrf {u v a b c q:Pt}(D:Yo u)(I:Yo v)(Y:Yo a)(O:Yo b)(J:Yo c)(e:Yo q) :
  (0<sd u v q->0<kk (Ze u) (Ze v) (Xd a b c) (Ze q))/\(sd u v q<0->kk (Ze u) (Ze v) (Xd a b c) (Ze q)<0)/\
  (sd u v q=0->kk (Ze u) (Ze v) (Xd a b c) (Ze q)= - (d3 (Ze u) (Ze v) (Xd a b c)*dt u v q)):=by
 rw[Zre,Zmm];have h1:=Zmo D I Y e;have Z:=Zmo D I O e;have h3:=Zmo D I J e;refine⟨fun h=>?_,fun h=>?_,fun h=>?_⟩
 ·unfold BIG;omega
 ·unfold BIG;omega
 ·rw[Zhv u v a q,Zhv u v b q,Zhv u v c q,h];grind
theorem Zdq {x:Int}(h:x≠0):0<x*x:=by
 rcases Int.lt_or_le 0 x with k|k
 ·exact mpp k k
 ·exact mmm (by omega) (by omega)
theorem Zco (x:Int):0<=x*x:=by
 rcases Int.le_total 0 x with k|k
 ·exact mnn k k
 ·exact mqq k k
theorem Zj1 {P:Int->Pt} {a b c:Int} {Y:List Int} (ha:Yo (P a)) (hb:Yo (P b)) (hc:Yo (P c)) (I:∀ i∈Y,i= -1\/(0<=i/\Yo (P i)))
  (hinj:∀ i∈Y,∀ j∈Y,0<=i->0<=j->P i=P j->i=j):Sep (VV P a b c) Y:=by
 have D:∀ u v:Pt,Yo u->Yo v->(u.1-v.1)*(u.1-v.1)+(u.2-v.2)*(u.2-v.2)<=512000000:=by
  intro u v I hv;obtain⟨a1,a2,a3,a4⟩:=I;obtain⟨b1,b2,b3,b4⟩:=hv;have x:=Zex ⟨a1,a2⟩ ⟨b1,b2⟩;have y:=Zex ⟨a3,a4⟩ ⟨b3,b4⟩;have p1:=Za8 x.1 x.2 x.1 x.2;have p2:=Za8 y.1 y.2 y.1 y.2;omega
 have Z:Yo (0,0):=by unfold Yo;omega
 have na:=D _ _ ha Z;have nb:=D _ _ hb Z;have nc:=D _ _ hc Z;simp only[Int.sub_zero] at na nb nc;intro i hi;rcases I i hi with rfl|⟨h0,hn⟩
 ·rw[Zdp];refine⟨by unfold Xd;dsimp only;omega,⟨0,0,BIG-(((P a).1*(P a).1+(P a).2*(P a).2)+((P b).1*(P b).1+(P b).2*(P b).2)+((P c).1*(P c).1+(P c).2*(P c).2)),3⟩,by dsimp only;omega,by unfold dot Xd;dsimp only;grind,?_⟩;intro j J aa;rcases I j J with rfl|⟨O,hn1⟩
  ·exact absurd rfl aa
  ·rw[Zew _ _ _ _ O];unfold dot Ze BIG;dsimp only
   have:=Zco (P j).1;have:=Zco (P j).2;omega
 ·rw[Zew _ _ _ _ h0];refine⟨by unfold Ze;dsimp only;omega,⟨-(2*(P i).1),-(2*(P i).2),(P i).1*(P i).1+(P i).2*(P i).2,1⟩,by dsimp only;omega,by unfold dot Ze;dsimp only;grind,?_⟩;intro j J aa;rcases I j J with rfl|⟨O,hn1⟩
  ·rw[Zdp];have d1:=D _ _ ha hn;have d2:=D _ _ hb hn;have d3:=D _ _ hc hn;have e:dot ⟨-(2*(P i).1),-(2*(P i).2),(P i).1*(P i).1+(P i).2*(P i).2,1⟩ (Xd (P a) (P b) (P c))=BIG-(((P a).1-(P i).1)*((P a).1-(P i).1)+((P a).2-(P i).2)*((P a).2-(P i).2))-(((P b).1-(P i).1)*((P b).1-(P i).1)+((P b).2-(P i).2)*((P b).2-(P i).2))-(((P c).1-(P i).1)*((P c).1-(P i).1)+((P c).2-(P i).2)*((P c).2-(P i).2)):=by
    unfold dot Xd;dsimp only;grind
   rw[e];unfold BIG;omega
  ·rw[Zew _ _ _ _ O];have e:dot ⟨-(2*(P i).1),-(2*(P i).2),(P i).1*(P i).1+(P i).2*(P i).2,1⟩ (Ze (P j))=((P j).1-(P i).1)*((P j).1-(P i).1)+((P j).2-(P i).2)*((P j).2-(P i).2):=by
    unfold dot Ze;dsimp only;grind
   rw[e];have s1:=Zco ((P j).1-(P i).1);have s2:=Zco ((P j).2-(P i).2);by_cases e1:(P j).1=(P i).1
   ·have e2:(P j).2≠(P i).2:=fun e2=>aa (hinj j J i hi O h0 (Prod.ext e1 e2))
    have:=Zdq (show (P j).2-(P i).2≠0 by omega);omega
   ·have:=Zdq (show (P j).1-(P i).1≠0 by omega);omega
def Z7 (a b c x y z:Int):Prop:=(x=a/\y=b/\z=c)\/(x=b/\y=c/\z=a)\/(x=c/\y=a/\z=b)
def Y4 (a b c x y z:Int):Prop:=Z7 a b c x y z\/Z7 b a (-1) x y z\/Z7 c b (-1) x y z\/Z7 a c (-1) x y z
theorem Zzv {a b c x y z:Int}(h:Y4 a b c x y z):Y4 a b c y z x:=by
 unfold Y4 Z7 at h;rcases h with (⟨rfl,rfl,rfl⟩|⟨rfl,rfl,rfl⟩|⟨rfl,rfl,rfl⟩)|(⟨rfl,rfl,rfl⟩|⟨rfl,rfl,rfl⟩|⟨rfl,rfl,rfl⟩)|(⟨rfl,rfl,rfl⟩|⟨rfl,rfl,rfl⟩|⟨rfl,rfl,rfl⟩)|(⟨rfl,rfl,rfl⟩|⟨rfl,rfl,rfl⟩|⟨rfl,rfl,rfl⟩) <;> simp[Y4,Z7]
theorem Zzw {a b c x y z:Int}(h:Y4 a b c x y z):∃ w,Y4 a b c y x w:=by
 unfold Y4 Z7 at h;rcases h with (⟨rfl,rfl,rfl⟩|⟨rfl,rfl,rfl⟩|⟨rfl,rfl,rfl⟩)|(⟨rfl,rfl,rfl⟩|⟨rfl,rfl,rfl⟩|⟨rfl,rfl,rfl⟩)|(⟨rfl,rfl,rfl⟩|⟨rfl,rfl,rfl⟩|⟨rfl,rfl,rfl⟩)|(⟨rfl,rfl,rfl⟩|⟨rfl,rfl,rfl⟩|⟨rfl,rfl,rfl⟩)
 ·exact⟨-1,by simp[Y4,Z7]⟩
 ·exact⟨-1,by simp[Y4,Z7]⟩
 ·exact⟨-1,by simp[Y4,Z7]⟩
 ·exact⟨c,by simp[Y4,Z7]⟩
 ·exact⟨c,by simp[Y4,Z7]⟩
 ·exact⟨c,by simp[Y4,Z7]⟩
 ·exact⟨a,by simp[Y4,Z7]⟩
 ·exact⟨a,by simp[Y4,Z7]⟩
 ·exact⟨a,by simp[Y4,Z7]⟩
 ·exact⟨b,by simp[Y4,Z7]⟩
 ·exact⟨b,by simp[Y4,Z7]⟩
 ·exact⟨b,by simp[Y4,Z7]⟩
theorem four {a b c d:Vec}(Y:a.x+b.x+c.x+d.x=0)(J:a.y+b.y+c.y+d.y=0)(O:a.w+b.w+c.w+d.w=0):d3 a b d= - d3 a c d:=by
 have e:b.x= -(a.x+c.x+d.x):=by omega
 have D:b.y= -(a.y+c.y+d.y):=by omega
 have I:b.w= -(a.w+c.w+d.w):=by omega
 unfold d3;rw[e,D,I];grind
theorem Zzx {P:Int->Pt}{a b c:Int}(ha:0<=a)(hb:0<=b)(Y:0<=c)(hs:0<sd (P a) (P b) (P c))(na:Yo (P a))(nb:Yo (P b))(nc:Yo (P c)) :
  Net (VV P a b c) [-1,a,b,c] (Y4 a b c):=by
 have hab:a≠b:=by intro e;subst e;unfold sd at hs;grind
 have hac:a≠c:=by intro e;subst e;unfold sd at hs;grind
 have hbc:b≠c:=by intro e;subst e;unfold sd at hs;grind
 generalize hA:VV P a b c a=A;generalize hB:VV P a b c b=B;generalize Z:VV P a b c c=C;generalize hO:VV P a b c (-1)=O;have lA:A=Ze (P a):=by rw[<-hA,Zew _ _ _ _ ha]
 have lB:B=Ze (P b):=by rw[<-hB,Zew _ _ _ _ hb]
 have lC:C=Ze (P c):=by rw[<-Z,Zew _ _ _ _ Y]
 have lO:O=Xd (P a) (P b) (P c):=by rw[<-hO,Zdp]
 have sx:A.x+B.x+C.x+O.x=0:=by rw[lA,lB,lC,lO];unfold Ze Xd;dsimp only;omega
 have sy:A.y+B.y+C.y+O.y=0:=by rw[lA,lB,lC,lO];unfold Ze Xd;dsimp only;omega
 have sw:A.w+B.w+C.w+O.w=0:=by rw[lA,lB,lC,lO];unfold Ze Xd;dsimp only;omega
 have hD:0<d3 A B C:=by rw[lA,lB,lC,Za0];exact hs
 have hK:kk A B C O<0:=by
  have:kk A B C O= - (BIG*sd (P a) (P b) (P c)):=by
   have:=Zre (P a) (P b) (P a) (P b) (P c) (P c);rw[Zj0,<-lA,<-lB,<-lC,<-lO] at this;have e1:cc (P a) (P b) (P a) (P c)=0:=by unfold cc;grind
   have e2:cc (P a) (P b) (P b) (P c)=0:=by unfold cc;grind
   have e3:cc (P a) (P b) (P c) (P c)=0:=by unfold cc;grind
   rw[e1,e2,e3] at this;omega
  rw[this];unfold BIG;omega
 have d1:d3 B A O=d3 A B C:=by
  have:=four (a:=B) (b:=C) (c:=A) (d:=O) (by omega) (by omega) (by omega);have D:=four (a:=C) (b:=O) (c:=A) (d:=B) (by omega) (by omega) (by omega);have J:=Yg B C O;have h4:=Yg C O B;have h5:=Yg C A B;have h6:=Yg A B C;have h7:=Yg O B C;omega
 have d2:d3 C B O=d3 A B C:=by
  have I:=four (a:=B) (b:=C) (c:=A) (d:=O) (by omega) (by omega) (by omega);have D:=Zc6 B C O;omega
 have d3':d3 A C O=d3 A B C:=by
  have I:=four (a:=A) (b:=C) (c:=B) (d:=O) (by omega) (by omega) (by omega);have D:=Zc6 A B O;omega
 have k1:kk B A O C=kk A B C O:=by rw[Zj0,Zmn];omega
 have k2:kk C B O A=kk A B C O:=by rw[Zj0,Zmn,Zar];omega
 have k3:kk A C O B=kk A B C O:=by rw[Zj0,Zmn,<-Zar,<-Zar];omega
 have hmem:∀ {x y z},Y4 a b c x y z->(x= -1\/x=a\/x=b\/x=c)/\(y= -1\/y=a\/y=b\/y=c)/\x≠y:=by
  intro x y z h;unfold Y4 Z7 at h;omega
 refine { rot:=?_,pair:=?_,mem:=?_,pos:=?_,fn:=?_,out:=?_,ncr:=?_,ne:=?_ }
 ·intro x y z h;exact Zzv h
 ·intro x y z h;exact Zzw h
 ·intro x y z h;have:=(hmem h).1;simp;omega
 ·have key:∀ {u v w x y z},Z7 u v w x y z->0<d3 (VV P a b c u) (VV P a b c v) (VV P a b c w)->0<d3 (VV P a b c x) (VV P a b c y) (VV P a b c z):=by
   rintro u v w x y z (⟨rfl,rfl,rfl⟩|⟨rfl,rfl,rfl⟩|⟨rfl,rfl,rfl⟩) h
   ·exact h
   ·rw[Yg];exact h
   ·rw[<-Yg];exact h
  rintro x y z (h|h|h|h)
  ·exact key h (by rw[hA,hB,Z];exact hD)
  ·exact key h (by rw[hA,hB,hO,d1];exact hD)
  ·exact key h (by rw[Z,hB,hO,d2];exact hD)
  ·exact key h (by rw[hA,Z,hO,d3'];exact hD)
 ·intro x y z w h h';unfold Y4 Z7 at h h';rcases h with (⟨I,D,J⟩|⟨I,D,J⟩|⟨I,D,J⟩)|(⟨I,D,J⟩|⟨I,D,J⟩|⟨I,D,J⟩)|(⟨I,D,J⟩|⟨I,D,J⟩|⟨I,D,J⟩)|(⟨I,D,J⟩|⟨I,D,J⟩|⟨I,D,J⟩) <;> omega
 ·have key:∀ {u v w x y z q},Z7 u v w x y z->kk (VV P a b c u) (VV P a b c v) (VV P a b c w) q<=0->kk (VV P a b c x) (VV P a b c y) (VV P a b c z) q<=0:=by
   rintro u v w x y z q (⟨rfl,rfl,rfl⟩|⟨rfl,rfl,rfl⟩|⟨rfl,rfl,rfl⟩) h
   ·exact h
   ·rw[Zar];exact h
   ·rw[<-Zar];exact h
  have hle:=Int.le_of_lt hK;intro x y z h q hq;have hq':q= -1\/q=a\/q=b\/q=c:=by simpa using hq
  rcases h with h|h|h|h <;> refine key h ?_ <;> rcases hq' with rfl|rfl|rfl|rfl <;>
   simp only[hA,hB,Z,hO,Zcn,Zc7,Zra,k1,k2,k3] <;> omega
 ·intro x y z u v w h h' Y;obtain⟨hx,hy,hxy⟩:=hmem h;obtain⟨hu,hv,huv⟩:=hmem h';have nxu:x≠u:=by intro e;subst e;have:=Y.2.1;rw[Zca] at this;omega
  have nxv:x≠v:=by intro e;subst e;have:=Y.2.1;rw[Za7] at this;omega
  have nyu:y≠u:=by intro e;subst e;have:=Y.1;rw[Zca] at this;omega
  have nyv:y≠v:=by intro e;subst e;have:=Y.1;rw[Za7] at this;omega
  have:d3 (VV P a b c x) (VV P a b c y) (VV P a b c v)= - d3 (VV P a b c x) (VV P a b c u) (VV P a b c v):=by
   rcases hx with rfl|rfl|rfl|rfl <;> rcases hy with rfl|rfl|rfl|rfl <;> (try (exact absurd rfl hxy)) <;>
   rcases hu with rfl|rfl|rfl|rfl <;> (try (exact absurd rfl nxu)) <;> (try (exact absurd rfl nyu)) <;>
   rcases hv with rfl|rfl|rfl|rfl <;> (try (exact absurd rfl nxv)) <;> (try (exact absurd rfl nyv)) <;> (try (exact absurd rfl huv)) <;>
   (simp only[hA,hB,Z,hO];apply four <;> omega)
  have:=Y.2.1;have:=Y.2.2.1;omega
 ·exact⟨a,b,c,.inl (.inl ⟨rfl,rfl,rfl⟩)⟩
structure NetOf (P:Int->Pt)(S:List Int)(a b c:Int)(Tr:Int->Int->Int->Prop):Prop where
 net:∃ vs:List Int,vs.Nodup/\(∀ i,i∈vs↔i= -1\/i∈S)/\Net (VV P a b c) vs Tr
 nn:∀ i∈S,0<=i
 near:∀ i∈S,Yo (P i)
 inj:∀ i∈S,∀ j∈S,P i=P j->i=j
 ma:a∈S
 mb:b∈S
 mc:c∈S
 base:0<sd (P a) (P b) (P c)
section
variable {P:Int->Pt} {S:List Int} {a b c:Int} {Tr:Int->Int->Int->Prop}
theorem NetOf.start (ha:0<=a)(J:0<=b)(hc:0<=c)(D:0<sd (P a) (P b) (P c))(na:Yo (P a))(nb:Yo (P b))(nc:Yo (P c)) :
  NetOf P [a,b,c] a b c (Y4 a b c):=by
 have Z:a≠b:=by intro e;subst e;unfold sd at D;grind
 have Y:a≠c:=by intro e;subst e;unfold sd at D;grind
 have hbc:b≠c:=by intro e;subst e;unfold sd at D;grind
 refine⟨⟨[-1,a,b,c],?_,by intro i;simp,Zzx ha J hc D na nb nc⟩,?_,?_,?_,by simp,by simp,by simp,D⟩
 ·simp[Z,Y,hbc];omega
 ·intro i hi;simp at hi;omega
 ·intro i hi;simp at hi;rcases hi with rfl|rfl|rfl <;> assumption
 ·intro i hi j I e;simp at hi I;have O:∀ u v:Pt,sd u u v=0:=by intro u v;unfold sd;grind
  have z2:∀ u v:Pt,sd u v u=0:=by intro u v;unfold sd;grind
  have z3:∀ u v:Pt,sd u v v=0:=by intro u v;unfold sd;grind
  rcases hi with rfl|rfl|rfl <;> rcases I with rfl|rfl|rfl <;> (try rfl) <;> (rw[e] at D;simp only[O,z2,z3] at D;omega)
theorem NetOf.add (N:NetOf P S a b c Tr){p:Int}(hp:p ∉ S)(h0:0<=p)(hn:Yo (P p))(Y:∀ i∈S,P i≠P p):NetOf P (p :: S) a b c (Zbr (VV P a b c) Tr p):=by
 obtain⟨vs,aa,D,net⟩:=N.net;have hpv:p ∉ vs:=by
  rw[D];rintro (h|h)
  ·omega
  ·exact hp h
 have sep:Sep (VV P a b c) (p :: vs):=by
  refine Zj1 (N.near _ N.ma) (N.near _ N.mb) (N.near _ N.mc) ?_ ?_
  ·intro i hi;rcases List.mem_cons.1 hi with rfl|hi
   ·exact .inr ⟨h0,hn⟩
   ·rcases (D i).1 hi with h|h
    ·exact .inl h
    ·exact .inr ⟨N.nn i h,N.near i h⟩
  ·intro i hi j Z hi0 hj0 e;have J:i=p\/i∈S:=by
    rcases List.mem_cons.1 hi with h|h
    ·exact .inl h
    ·rcases (D i).1 h with h|h
     ·omega
     ·exact .inr h
   have O:j=p\/j∈S:=by
    rcases List.mem_cons.1 Z with h|h
    ·exact .inl h
    ·rcases (D j).1 h with h|h
     ·omega
     ·exact .inr h
   rcases J with rfl|J <;> rcases O with rfl|O
   ·rfl
   ·exact absurd e.symm (Y j O)
   ·exact absurd e (Y i J)
   ·exact N.inj i J j O e
 refine⟨⟨p :: vs,List.nodup_cons.2 ⟨hpv,aa⟩,?_,net.add aa hpv sep⟩,?_,?_,?_,by simp[N.ma],by simp[N.mb],by simp[N.mc],N.base⟩
 ·intro i;rw[List.mem_cons,List.mem_cons,D];constructor
  ·rintro (h|h|h)
   ·exact .inr (.inl h)
   ·exact .inl h
   ·exact .inr (.inr h)
  ·rintro (h|h|h)
   ·exact .inr (.inl h)
   ·exact .inl h
   ·exact .inr (.inr h)
 ·intro i hi;rcases List.mem_cons.1 hi with rfl|hi
  ·exact h0
  ·exact N.nn i hi
 ·intro i hi;rcases List.mem_cons.1 hi with rfl|hi
  ·exact hn
  ·exact N.near i hi
 ·intro i hi j Z e;rcases List.mem_cons.1 hi with k|k <;> rcases List.mem_cons.1 Z with I|I
  ·rw[k,I]
  ·rw[k] at e;exact absurd e.symm (Y j I)
  ·rw[I] at e;exact absurd e (Y i k)
  ·exact N.inj i k j I e
theorem NetOf.rot (N:NetOf P S a b c Tr){x y z:Int}(h:Tr x y z):Tr y z x:=by obtain⟨vs,_,_,e⟩:=N.net;exact e.rot h
theorem NetOf.pair (N:NetOf P S a b c Tr){x y z:Int}(h:Tr x y z):∃ w,Tr y x w:=by obtain⟨vs,_,_,e⟩:=N.net;exact e.pair h
theorem NetOf.fn (N:NetOf P S a b c Tr){x y z w:Int}(h:Tr x y z)(D:Tr x y w):z=w:=by obtain⟨vs,_,_,e⟩:=N.net;exact e.fn h D
theorem NetOf.lab (N:NetOf P S a b c Tr){x y z:Int}(h:Tr x y z):x= -1\/x∈S:=by obtain⟨vs,_,e,D⟩:=N.net;exact (e x).1 (D.mem h)
theorem NetOf.pos (N:NetOf P S a b c Tr){x y z:Int}(h:Tr x y z):0<d3 (VV P a b c x) (VV P a b c y) (VV P a b c z):=by obtain⟨vs,_,D,e⟩:=N.net;exact e.pos h
theorem NetOf.ne12 (N:NetOf P S a b c Tr){x y z:Int}(h:Tr x y z):x≠y:=by intro e;subst e;have:=N.pos h;rw[Zca] at this;omega
theorem NetOf.mem (N:NetOf P S a b c Tr){x y z:Int}(h:Tr x y z)(e:0<=x):x∈S:=by rcases N.lab h with h|h;omega;exact h
theorem NetOf.vv (N:NetOf P S a b c Tr){x:Int}(h:x∈S):VV P a b c x=Ze (P x):=Zew _ _ _ _ (N.nn x h)
theorem NetOf.side (N:NetOf P S a b c Tr){x y z:Int}(h:Tr x y z)(I:x∈S)(e:y∈S)(D:z∈S):0<sd (P x) (P y) (P z):=by
 have:=N.pos h;rw[N.vv I,N.vv e,N.vv D,Za0] at this;exact this
theorem NetOf.circ (N:NetOf P S a b c Tr){x y z:Int}(h:Tr x y z)(Y:x∈S)(D:y∈S)(O:z∈S){q:Int}(e:q∈S):cc (P x) (P y) (P z) (P q)<=0:=by
 obtain⟨vs,_,I,J⟩:=N.net;have:=J.out h q ((I q).2 (.inr e));rw[N.vv Y,N.vv D,N.vv O,N.vv e,Zhu] at this;exact this
theorem NetOf.ghost_mem (N:NetOf P S a b c Tr){x y:Int}(h:Tr x y (-1)):x∈S/\y∈S:=by
 have O:=N.ne12 (N.rot h);have D:=N.ne12 (N.rot (N.rot h));have I:=N.lab h;have J:=N.lab (N.rot h);refine⟨?_,?_⟩
 ·rcases I with e|e
  ·exact absurd e.symm D
  ·exact e
 ·rcases J with e|e
  ·exact absurd e O
  ·exact e
theorem NetOf.ghost (N:NetOf P S a b c Tr){x y:Int}(h:Tr x y (-1)){q:Int}(I:q∈S):sd (P x) (P y) (P q)<=0/\(sd (P x) (P y) (P q)=0->0<=dt (P x) (P y) (P q)):=by
 obtain⟨J,D⟩:=N.ghost_mem h;have O:=N.pos h;obtain⟨vs,_,Y,Z⟩:=N.net;have:=Z.out h q ((Y q).2 (.inr I));rw[N.vv J,N.vv D,Zdp] at O;rw[N.vv J,N.vv D,N.vv I,Zdp] at this;have g:=Zrf (N.near x J) (N.near y D) (N.near a N.ma) (N.near b N.mb) (N.near c N.mc) (N.near q I);refine⟨?_,fun e=>?_⟩
 ·rcases Int.lt_or_le 0 (sd (P x) (P y) (P q)) with k|k
  ·have:=g.1 k;omega
  ·exact k
 ·have k:=g.2.2 e;rw[k] at this;exact dnn O (by omega)
theorem NetOf.ghost_sum (N:NetOf P S a b c Tr){x y:Int}(h:Tr x y (-1)):sd (P x) (P y) (P a)+sd (P x) (P y) (P b)+sd (P x) (P y) (P c)<0:=by
 obtain⟨I,e⟩:=N.ghost_mem h;have D:=N.pos h;rw[N.vv I,N.vv e,Zdp,Zmm] at D;omega
theorem NetOf.ghost_pair (N:NetOf P S a b c Tr){x y:Int}(h:Tr x y (-1)):∃ z∈S,Tr y x z:=by
 obtain⟨z,D⟩:=N.pair h;rcases N.lab (N.rot (N.rot D)) with e|e
 ·subst e;have J:=N.ghost_sum h;have I:=N.ghost_sum D;have s:∀ q,sd (P y) (P x) q= - sd (P x) (P y) q:=by intro q;unfold sd;grind
  rw[s,s,s] at I;omega
 ·exact⟨z,e,D⟩
theorem NetOf.used (N:NetOf P S a b c Tr){v:Int}(hv:v∈S):∃ y z,Tr v y z:=by
 have O:=N;obtain⟨vs,_,I,D⟩:=N.net;obtain⟨a0,b0,c0,h0⟩:=D.ne;obtain⟨x,y,z,h,h1,h2,h3⟩:=Zhr D.toShut h0 (VV P a b c v);have sep:Sep (VV P a b c) vs:=by
  refine Zj1 (N.near _ N.ma) (N.near _ N.mb) (N.near _ N.mc) ?_ ?_
  ·intro i hi;rcases (I i).1 hi with h|h
   ·exact .inl h
   ·exact .inr ⟨N.nn i h,N.near i h⟩
  ·intro i hi j hj hi0 hj0 e;have hi':i∈S:=by
    rcases (I i).1 hi with h|h
    ·omega
    ·exact h
   have hj':j∈S:=by
    rcases (I j).1 hj with h|h
    ·omega
    ·exact h
   exact N.inj i hi' j hj' e
 have Z:v∈vs:=(I v).2 (.inr hv);obtain⟨hw,l,lz,l0,J⟩:=sep v Z;by_cases e1:x=v
 ·subst e1;exact⟨y,z,h⟩
 ·by_cases Y:y=v
  ·subst Y;exact⟨z,x,O.rot h⟩
  ·by_cases e3:z=v
   ·subst e3;exact⟨x,y,O.rot (O.rot h)⟩
   ·have:=Zjx (D.pos h) h2 h3 h1 l0 (J x (D.mem h) e1) (J y (D.mem (D.rot h)) Y) (J z (D.mem (D.rot (D.rot h))) e3) lz hw;have:=D.out h v Z;omega
def Zey (u v w:Vec):Vec:=⟨u.x+v.x+w.x,u.y+v.y+w.y,u.w+v.w+w.w,0⟩
theorem Zmp (p q u v w:Vec):d3 p q (Zey u v w)=d3 p q u+d3 p q v+d3 p q w:=by unfold Zey d3;grind
theorem Zzy {x y p q:Pt} {D α β:Int} (hD:0<D) (hα:0<=α) (hβ:0<=β) (hxy:x≠y) (hpq:p≠q) (hp:sd x y p=0) (hq:sd x y q=0)
  (h1:0<=dt x y p) (h2:0<=dt x y q) (h3:0<=dt p q x) (h4:0<=dt p q y)
  (ex:D*(p.1+q.1)=α*x.1+β*y.1) (ey:D*(p.2+q.2)=α*x.2+β*y.2) (ew:D*2=α+β):(p=x/\q=y)\/(p=y/\q=x):=by
 have O:0<(y.1-x.1)*(y.1-x.1)+(y.2-x.2)*(y.2-x.2):=by
  have s1:=Zco (y.1-x.1);have s2:=Zco (y.2-x.2);by_cases Z:y.1=x.1
  ·have Y:y.2≠x.2:=fun Y=>hxy (Prod.ext Z.symm Y.symm)
   have:=Zdq (show y.2-x.2≠0 by omega);omega
  ·have:=Zdq (show y.1-x.1≠0 by omega);omega
 generalize aa:(y.1-x.1)*(y.1-x.1)+(y.2-x.2)*(y.2-x.2)=L at O;generalize htp:(p.1-x.1)*(y.1-x.1)+(p.2-x.2)*(y.2-x.2)=I;generalize ab:(q.1-x.1)*(y.1-x.1)+(q.2-x.2)*(y.2-x.2)=J;have f1:dt x y p*L=I*(I-L):=by
  have e:dt x y p*L-I*(I-L)=sd x y p*sd x y p:=by rw[<-aa,<-htp];unfold dt sd;grind
  rw[hp] at e;omega
 have f2:dt x y q*L=J*(J-L):=by
  have e:dt x y q*L-J*(J-L)=sd x y q*sd x y q:=by rw[<-aa,<-ab];unfold dt sd;grind
  rw[hq] at e;omega
 have f3:dt p q x*L=I*J:=by
  have e:dt p q x*L-I*J=sd x y p*sd x y q:=by rw[<-aa,<-htp,<-ab];unfold dt sd;grind
  rw[hp] at e;omega
 have f4:dt p q y*L=(L-I)*(L-J):=by
  have e:dt p q y*L-(L-I)*(L-J)=sd x y p*sd x y q:=by rw[<-aa,<-htp,<-ab];unfold dt sd;grind
  rw[hp] at e;omega
 have g1:0<=I*(I-L):=by rw[<-f1];exact mnn h1 (Int.le_of_lt O)
 have g2:0<=J*(J-L):=by rw[<-f2];exact mnn h2 (Int.le_of_lt O)
 have g3:0<=I*J:=by rw[<-f3];exact mnn h3 (Int.le_of_lt O)
 have g4:0<=(L-I)*(L-J):=by rw[<-f4];exact mnn h4 (Int.le_of_lt O)
 have mid:D*(I+J)=β*L:=by
  have e:D*(I+J)=(D*(p.1+q.1)-D*2*x.1)*(y.1-x.1)+(D*(p.2+q.2)-D*2*x.2)*(y.2-x.2):=by rw[<-htp,<-ab];grind
  rw[e,ex,ey,ew,<-aa];grind
 have m0:0<=I+J:=dnn hD (by rw[mid];exact mnn hβ (Int.le_of_lt O));have m1:I+J<=2*L:=by
  have:0<=D*(2*L-(I+J)):=by
   have e:D*(2*L-(I+J))=α*L:=by
    have:D*(2*L-(I+J))=D*2*L-D*(I+J):=by grind
    rw[this,mid,ew];grind
   rw[e];exact mnn hα (Int.le_of_lt O)
  have:=dnn hD this;omega
 have pt:∀ (u:Pt) (t:Int),sd x y u=0->(u.1-x.1)*(y.1-x.1)+(u.2-x.2)*(y.2-x.2)=t->(t=0->u=x)/\(t=L->u=y):=by
  intro u t hu ht;refine⟨fun h0=>?_,fun hl=>?_⟩
  ·have Z:L*(u.1-x.1)=(y.1-x.1)*t-(y.2-x.2)*sd x y u:=by rw[<-aa,<-ht];unfold sd;grind
   have Y:L*(u.2-x.2)=(y.2-x.2)*t+(y.1-x.1)*sd x y u:=by rw[<-aa,<-ht];unfold sd;grind
   rw[h0,hu] at Z Y;have:=dz O (by omega:L*(u.1-x.1)=0);have:=dz O (by omega:L*(u.2-x.2)=0);exact Prod.ext (by omega) (by omega)
  ·have Z:L*(u.1-y.1)=(y.1-x.1)*(t-L)-(y.2-x.2)*sd x y u:=by rw[<-aa,<-ht];unfold sd;grind
   have Y:L*(u.2-y.2)=(y.2-x.2)*(t-L)+(y.1-x.1)*sd x y u:=by rw[<-aa,<-ht];unfold sd;grind
   rw[hl,hu,Int.sub_self] at Z Y;have:=dz O (by omega:L*(u.1-y.1)=0);have:=dz O (by omega:L*(u.2-y.2)=0);exact Prod.ext (by omega) (by omega)
 have outp:I<=0\/L<=I:=by
  rcases Int.lt_or_le 0 I with k|k
  ·have:=dnn k g1;omega
  ·omega
 have outq:J<=0\/L<=J:=by
  rcases Int.lt_or_le 0 J with k|k
  ·have:=dnn k g2;omega
  ·omega
 rcases outp with k|k <;> rcases outq with k'|k'
 ·exact absurd (((pt p I hp htp).1 (by omega)).trans ((pt q J hq ab).1 (by omega)).symm) hpq
 ·left;have Z:I=0:=by
   rcases Int.lt_or_le I 0 with r|r
   ·have:=mmp r (show 0<J by omega);omega
   ·omega
  have Y:J=L:=by
   rcases Int.lt_or_le L J with r|r
   ·have:=mpm (show 0<L-I by omega) (show L-J<0 by omega);omega
   ·omega
  exact⟨(pt p I hp htp).1 Z,(pt q J hq ab).2 Y⟩
 ·right;have Z:J=0:=by
   rcases Int.lt_or_le J 0 with r|r
   ·have:=mpm (show 0<I by omega) r;omega
   ·omega
  have Y:I=L:=by
   rcases Int.lt_or_le L I with r|r
   ·have:=mmp (show L-I<0 by omega) (show 0<L-J by omega);omega
   ·omega
  exact⟨(pt p I hp htp).2 Y,(pt q J hq ab).1 Z⟩
 ·exact absurd (((pt p I hp htp).2 (by omega)).trans ((pt q J hq ab).2 (by omega)).symm) hpq
theorem Zzz {u v x y z:Pt}(Y:u≠v)(O:0<sd x y z)(hx:0<=sd u v x)(Z:0<=sd u v y)(hz:0<=sd u v z):0<sd u v x+sd u v y+sd u v z:=by
 rcases Int.lt_or_le 0 (sd u v x+sd u v y+sd u v z) with k|k
 ·exact k
 ·have D:sd u v x=0:=by omega
  have e:sd u v y=0:=by omega
  have I:sd u v z=0:=by omega
  have J:0<(v.1-u.1)*(v.1-u.1)+(v.2-u.2)*(v.2-u.2):=by
   have s1:=Zco (v.1-u.1);have s2:=Zco (v.2-u.2);by_cases D:v.1=u.1
   ·have e:v.2≠u.2:=fun e=>Y (Prod.ext D.symm e.symm)
    have:=Zdq (show v.2-u.2≠0 by omega);omega
   ·have:=Zdq (show v.1-u.1≠0 by omega);omega
  have:((v.1-u.1)*(v.1-u.1)+(v.2-u.2)*(v.2-u.2))*sd x y z =
    ((y.1-x.1)*(v.1-u.1)+(y.2-x.2)*(v.2-u.2))*(sd u v z-sd u v x)-((z.1-x.1)*(v.1-u.1)+(z.2-x.2)*(v.2-u.2))*(sd u v y-sd u v x):=by
   unfold sd;grind
  rw[D,e,I,Int.sub_self,Int.mul_zero,Int.mul_zero] at this;have:=mpp J O;omega
def Bnd (P:Int->Pt)(S:List Int)(x y:Int):Prop:=x∈S/\y∈S/\x≠y/\∀ q∈S,0<=sd (P x) (P y) (P q)/\(sd (P x) (P y) (P q)=0->0<=dt (P x) (P y) (P q))
theorem NetOf.bnd_of (N:NetOf P S a b c Tr){x y:Int}(h:Tr y x (-1)):Bnd P S x y:=by
 obtain⟨D,J⟩:=N.ghost_mem h;refine⟨J,D,(N.ne12 h).symm,fun q I=>?_⟩;have:=N.ghost h I;have s:sd (P x) (P y) (P q)= - sd (P y) (P x) (P q):=by unfold sd;grind
 have s2:dt (P x) (P y) (P q)=dt (P y) (P x) (P q):=Zi1 _ _ _;rw[s,s2];exact⟨by omega,fun e=>this.2 (by omega)⟩
theorem NetOf.of_bnd (N:NetOf P S a b c Tr){u v:Int}(h:Bnd P S u v):Tr v u (-1):=by
 obtain⟨hu,hv,hne,hall⟩:=h;have hPne:P u≠P v:=fun e=>hne (N.inj u hu v hv e)
 have hsum:0<sd (P u) (P v) (P a)+sd (P u) (P v) (P b)+sd (P u) (P v) (P c):=Zzz hPne N.base (hall a N.ma).1 (hall b N.mb).1 (hall c N.mc).1;have hψ:d3 (Ze (P u)) (Ze (P v)) (Xd (P a) (P b) (P c))<0:=by rw[Zmm];omega
 have key:∀ {x y:Int},Tr x y (-1)->0<=d3 (VV P a b c x) (VV P a b c y) (Zey (Ze (P u)) (Ze (P v)) (Xd (P a) (P b) (P c)))->0<=d3 (VV P a b c y) (VV P a b c (-1)) (Zey (Ze (P u)) (Ze (P v)) (Xd (P a) (P b) (P c)))->0<=d3 (VV P a b c (-1)) (VV P a b c x) (Zey (Ze (P u)) (Ze (P v)) (Xd (P a) (P b) (P c)))->Tr v u (-1):=by
  intro x y h h1 h2 h3;obtain⟨Y,Z⟩:=N.ghost_mem h;have hD:=N.pos h;rw[N.vv Y,N.vv Z,Zdp] at hD;rw[N.vv Y,N.vv Z] at h1;rw[N.vv Z,Zdp] at h2;rw[N.vv Y,Zdp] at h3;generalize hq:Zey (Ze (P u)) (Ze (P v)) (Xd (P a) (P b) (P c))=q at *
  generalize hO:Xd (P a) (P b) (P c)=O at *
  have cr:=Zfo (Ze (P x)) (Ze (P y)) O q (Ze (P u)) (Ze (P v));have J:∀ w,d3 w (Ze (P u)) (Ze (P v))=d3 (Ze (P u)) (Ze (P v)) w:=fun w=>(Yg _ _ _).symm
  rw[J,J,J,J] at cr;have qO:d3 (Ze (P u)) (Ze (P v)) q=d3 (Ze (P u)) (Ze (P v)) O:=by rw[<-hq,Zmp,Za7,Zfk];omega
  have c3:d3 (Ze (P x)) (Ze (P y)) q=sd (P x) (P y) (P u)+sd (P x) (P y) (P v)+d3 (Ze (P x)) (Ze (P y)) O:=by rw[<-hq,Zmp,Za0,Za0]
  rw[qO,c3,Za0,Za0] at cr;have gu:=N.ghost h hu;have gv:=N.ghost h hv;have ax:=hall x Y;have ay:=hall y Z;have t1:=mnn h2 ax.1;have t2:=mnn h3 ay.1;generalize hΔ:d3 (Ze (P x)) (Ze (P y)) O=D at *
  generalize hΨ:d3 (Ze (P u)) (Ze (P v)) O=ψ at *
  have e0:(sd (P x) (P y) (P u)+sd (P x) (P y) (P v))*ψ= - (d3 (Ze (P y)) O q*sd (P u) (P v) (P x))-d3 O (Ze (P x)) q*sd (P u) (P v) (P y):=by grind
  have I:sd (P x) (P y) (P u)=0/\sd (P x) (P y) (P v)=0:=by
   rcases Int.lt_or_le (sd (P x) (P y) (P u)+sd (P x) (P y) (P v)) 0 with k|k
   ·have:=mmm k hψ;omega
   ·omega
  have hPxy:P x≠P y:=fun e=>N.ne12 h (N.inj x Y y Z e)
  have ex:=Zmi (Ze (P x)) (Ze (P y)) O q;have ey:=Zmj (Ze (P x)) (Ze (P y)) O q;have ew:=Zjv (Ze (P x)) (Ze (P y)) O q;rw[c3,I.1,I.2,hΔ] at ex ey ew
  have := Zzy hD h2 h3 hPxy hPne I.1 I.2 (gu.2 I.1) (gv.2 I.2) (by
      rcases Int.lt_or_le 0 (sd (P u) (P v) (P x)) with k | k
      · exfalso
        have : ((P v).1 - (P u).1) * 0 = 0 := by omega
        have e : ((P y).1 - (P x).1) * sd (P u) (P v) (P x) = ((P u).1 - (P x).1) * sd (P x) (P y) (P v) - ((P v).1 - (P x).1) * sd (P x) (P y) (P u) := by unfold sd; grind
        have e' : ((P y).2 - (P x).2) * sd (P u) (P v) (P x) = ((P u).2 - (P x).2) * sd (P x) (P y) (P v) - ((P v).2 - (P x).2) * sd (P x) (P y) (P u) := by unfold sd; grind
        rw [I.1, I.2, Int.mul_comm] at e e'
        have z1 := dz k (by omega : sd (P u) (P v) (P x) * ((P y).1 - (P x).1) = 0)
        have z2 := dz k (by omega : sd (P u) (P v) (P x) * ((P y).2 - (P x).2) = 0)
        exact hPxy (Prod.ext (by omega) (by omega))
      · exact ax.2 (by have := ax.1; omega)) (by
      rcases Int.lt_or_le 0 (sd (P u) (P v) (P y)) with k | k
      · exfalso
        have e : ((P y).1 - (P x).1) * sd (P u) (P v) (P y) = ((P u).1 - (P y).1) * sd (P x) (P y) (P v) - ((P v).1 - (P y).1) * sd (P x) (P y) (P u) := by unfold sd; grind
        have e' : ((P y).2 - (P x).2) * sd (P u) (P v) (P y) = ((P u).2 - (P y).2) * sd (P x) (P y) (P v) - ((P v).2 - (P y).2) * sd (P x) (P y) (P u) := by unfold sd; grind
        rw [I.1, I.2, Int.mul_comm] at e e'
        have z1 := dz k (by omega : sd (P u) (P v) (P y) * ((P y).1 - (P x).1) = 0)
        have z2 := dz k (by omega : sd (P u) (P v) (P y) * ((P y).2 - (P x).2) = 0)
        exact hPxy (Prod.ext (by omega) (by omega))
      · exact ay.2 (by have := ay.1; omega))
   (by have : q.x = (P u).1 + (P v).1 + O.x := by rw [← hq]; rfl
       rw [this] at ex
       have lx : (Ze (P x)).x = (P x).1 := rfl
       have ly : (Ze (P y)).x = (P y).1 := rfl
       rw [lx, ly] at ex
       grind)
   (by have : q.y = (P u).2 + (P v).2 + O.y := by rw [← hq]; rfl
       rw [this] at ey
       have lx : (Ze (P x)).y = (P x).2 := rfl
       have ly : (Ze (P y)).y = (P y).2 := rfl
       rw [lx, ly] at ey
       grind)
   (by have : q.w = 1 + 1 + O.w := by rw [← hq]; rfl
       rw [this] at ew
       have lx : (Ze (P x)).w = 1 := rfl
       have ly : (Ze (P y)).w = 1 := rfl
       rw [lx, ly] at ew
       grind)
  rcases this with ⟨e1,e2⟩|⟨e1,e2⟩
  ·rw[e1,e2,hΔ] at hΨ;omega
  ·have i1:=N.inj u hu y Z e1;have i2:=N.inj v hv x Y e2;rw[i1,i2];exact h
 obtain⟨vs,_,hm,net⟩:=N.net;obtain⟨a0,b0,c0,h0⟩:=net.ne;obtain⟨x,y,z,h,h1,h2,h3⟩:=Zhr net.toShut h0 (Zey (Ze (P u)) (Ze (P v)) (Xd (P a) (P b) (P c)));by_cases ez:z= -1
 ·subst ez;exact key h h1 h2 h3
 ·by_cases ex:x= -1
  ·subst ex;exact key (N.rot h) h2 h3 h1
  ·by_cases ey:y= -1
   ·subst ey;exact key (N.rot (N.rot h)) h3 h1 h2
   ·exfalso;have Y:x∈S:=(N.lab h).resolve_left ex;have Z:y∈S:=(N.lab (N.rot h)).resolve_left ey;have hz:z∈S:=(N.lab (N.rot (N.rot h))).resolve_left ez;have hD:=N.pos h;have cr:=Zfo (VV P a b c x) (VV P a b c y) (VV P a b c z) (Zey (Ze (P u)) (Ze (P v)) (Xd (P a) (P b) (P c))) (Ze (P u)) (Ze (P v));have J:∀ w,d3 w (Ze (P u)) (Ze (P v))=d3 (Ze (P u)) (Ze (P v)) w:=fun w=>(Yg _ _ _).symm
    rw[J,J,J,J,Zmp,Za7,Zfk] at cr;rw[N.vv Y,N.vv Z,N.vv hz] at *
    rw[Za0 (P u) (P v),Za0 (P u) (P v),Za0 (P u) (P v)] at cr;have t1:=mnn h2 (hall x Y).1;have t2:=mnn h3 (hall y Z).1;have t3:=mnn h1 (hall z hz).1;have t4:=mpm hD hψ;simp only[Int.zero_add,Int.add_zero] at cr;omega
end
theorem Zcz {α β:Type}(f:α->β){L:List α}{M:List β}(Z:L.Nodup)(hM:M.Nodup)(hi:∀ x∈L,∀ y∈L,f x=f y->x=y)(Y:∀ x∈L,f x∈M)(O:∀ y∈M,∃ x∈L,f x=y):L.length=M.length:=by
 have h1:=Zhs (L.map f) M (Zht f L Z hi) (fun y D=>by obtain⟨x,I,rfl⟩:=List.mem_map.1 D;exact Y x I);have J:=Zhs M (L.map f) hM (fun y D=>by obtain⟨x,I,e⟩:=O y D;exact List.mem_map.2 ⟨x,I,e⟩);simp at h1 J;omega
theorem Zrg {α:Type}(f:α->Int):∀ vs:List α,∃ k:Int,1<=k/\∀ b∈vs,f b<k
 | []=>⟨1,by omega,by simp⟩
 | b :: vs=>by
  obtain⟨k,I,D⟩:=Zrg f vs;refine⟨k+(f b).natAbs+1,by omega,fun c e=>?_⟩;rcases List.mem_cons.1 e with rfl|e
  ·omega
  ·have:=D c e;omega
def Zae (S:List Int):List (Int×Int):=S.flatMap fun a=>S.map fun b=>(a,b)
theorem Zd7 {S:List Int}{a b:Int}:(a,b)∈Zae S↔a∈S/\b∈S:=by
 simp only[Zae,List.mem_flatMap,List.mem_map,Prod.mk.injEq];constructor
 ·rintro⟨I,D,J,e,rfl,rfl⟩;exact⟨D,e⟩
 ·rintro⟨D,e⟩;exact⟨a,D,b,e,rfl,rfl⟩
theorem Zgi {S:List Int}(h:S.Nodup):(Zae S).Nodup:=by
 unfold Zae List.Nodup;rw[List.pairwise_flatMap];refine⟨fun a Y=>Zht _ _ h (fun x _ y _ e=>by simpa using e),?_⟩;refine h.imp (fun J x I y D e=>?_);obtain⟨b,_,rfl⟩:=List.mem_map.1 I;obtain⟨O,_,rfl⟩:=List.mem_map.1 D;exact J (Prod.mk.inj e).1
theorem Zz0 {S:List Int}(h:S.Nodup):(Zfm S).Nodup:=by
 have J:=Zgi h;unfold Zfm List.Nodup;rw[List.pairwise_flatMap];refine⟨fun a ha=>?_,?_⟩
 ·have e:(S.flatMap fun b=>S.map fun c=>(a,b,c))=(Zae S).map (fun q=>(a,q.1,q.2)):=by
   unfold Zae;rw[List.map_flatMap];simp only[List.map_map];rfl
  rw[e]
  exact Zht _ _ J (fun x _ y _ e => by
    have := (Prod.mk.inj (Prod.mk.inj e).2); exact Prod.ext this.1 this.2)
 ·refine h.imp (fun O x I y D e=>?_);simp only[List.mem_flatMap,List.mem_map] at I D;obtain⟨b,_,c,_,rfl⟩:=I;obtain⟨Z,_,Y,_,rfl⟩:=D;exact O (Prod.mk.inj e).1
theorem Zhw {α:Type}(p:α->Bool):∀ L:List α,L.length=(L.filter p).length+(L.filter (fun x=> ! p x)).length
 | []=>rfl
 | a :: L=>by
  have:=Zhw p L;by_cases h:p a
  ·simp[h];omega
  ·simp[h];omega
theorem Zrh {α:Type}(p q r:α->Bool):∀ L:List α,(∀ x∈L,(p x=true/\q x=false/\r x=false)\/(p x=false/\q x=true/\r x=false)\/(p x=false/\q x=false/\r x=true))->
  L.length=(L.filter p).length+(L.filter q).length+(L.filter r).length
 | [],_=>rfl
 | a :: L,h=>by
  have D:=Zrh p q r L (fun x e=>h x (by simp[e]));rcases h a (by simp) with ⟨h1,h2,h3⟩|⟨h1,h2,h3⟩|⟨h1,h2,h3⟩ <;> simp[h1,h2,h3] <;> omega
section
variable {P:Int->Pt} {S:List Int} {a b c:Int} {Tr:Int->Int->Int->Prop}
theorem NetOf.sector (N:NetOf P S a b c Tr){v:Int}(hv:v∈S)(m:Vec):∃ y z,Tr v y z/\0<=d3 (VV P a b c v) (VV P a b c y) m/\0<=d3 (VV P a b c z) (VV P a b c v) m:=by
 have N':=N;obtain⟨vs,_,J,D⟩:=N.net;obtain⟨a0,b0,c0,h0⟩:=D.ne;obtain⟨K,hK1,hK⟩:=Zrg (fun q:Int×Int=>((d3 (VV P a b c q.1) (VV P a b c q.2) m).natAbs:Int)) (Zae vs);obtain⟨x,y,z,h,Y,I,O⟩:=Zhr D.toShut h0 (lin 1 K (VV P a b c v) m);rw[Zgg] at Y I O;have mx:=D.mem h;have my:=D.mem (D.rot h);have mz:=D.mem (D.rot (D.rot h));have small:∀ {s t:Int},s∈vs->t∈vs->0<=K*d3 (VV P a b c s) (VV P a b c t) (VV P a b c v)+1*d3 (VV P a b c s) (VV P a b c t) m->0<=d3 (VV P a b c s) (VV P a b c t) (VV P a b c v):=by
  intro s t hs ht h;have:=hK (s,t) (Zd7.2 ⟨hs,ht⟩);dsimp only at this
  rcases Int.lt_or_le (d3 (VV P a b c s) (VV P a b c t) (VV P a b c v)) 0 with k|k
  ·have:=Int.mul_le_mul_of_nonneg_left (show d3 (VV P a b c s) (VV P a b c t) (VV P a b c v)<= -1 by omega) (show 0<=K by omega);omega
  ·exact k
 have g1:=small mx my Y;have g2:=small my mz I;have g3:=small mz mx O;have sep:Sep (VV P a b c) vs:=by
  refine Zj1 (N.near _ N.ma) (N.near _ N.mb) (N.near _ N.mc) ?_ ?_
  ·intro i hi;rcases (J i).1 hi with h|h
   ·exact .inl h
   ·exact .inr ⟨N.nn i h,N.near i h⟩
  ·intro i hi j hj hi0 hj0 e;have hi':i∈S:=by
    rcases (J i).1 hi with h|h
    ·omega
    ·exact h
   have hj':j∈S:=by
    rcases (J j).1 hj with h|h
    ·omega
    ·exact h
   exact N.inj i hi' j hj' e
 have mv:v∈vs:=(J v).2 (.inr hv);obtain⟨hw,l,lz,l0,Z⟩:=sep v mv;by_cases e1:x=v
 ·subst e1;rw[Za7] at Y;rw[Zfk] at O;exact⟨y,z,h,by omega,by omega⟩
 ·by_cases e2:y=v
  ·subst e2;rw[Za7] at I;rw[Zfk] at Y;exact⟨z,x,N'.rot h,by omega,by omega⟩
  ·by_cases e3:z=v
   ·subst e3;rw[Za7] at O;rw[Zfk] at I;exact⟨x,y,N'.rot (N'.rot h),by omega,by omega⟩
   ·have:=Zjx (D.pos h) g2 g3 g1 l0 (Z x mx e1) (Z y my e2) (Z z mz e3) lz hw;have:=D.out h v mv;omega
theorem Zz1 {mx my yx yy zx O D β γ:Int} (I:fw mx my) (Z:0<D) (J:0<=β) (hγ:0<=γ) (ex:D*mx=β*yx+γ*zx) (ey:D*my=β*yy+γ*O)
  (hy:β=0\/fw (-yx) (-yy)) (hz:γ=0\/fw (-zx) (-O)):False:=by
 have Y:∀ {β x y:Int},0<=β->(β=0\/fw (-x) (-y))->β*x<=0/\(β*x=0->β*y<=0):=by
  intro β x y J h;rcases h with rfl|h
  ·simp
  ·unfold fw at h;refine⟨mnq J (by omega),fun e=>?_⟩;rcases Int.lt_or_le 0 β with k|k
   ·have:=dz k e;exact mnq J (by omega)
   ·have:β=0:=by omega
    subst this;simp
 have ky:=Y J hy;have kz:=Y hγ hz;unfold fw at I;rcases I with I|⟨h0,I⟩
 ·have:=mpp Z I;omega
 ·subst h0;rw[Int.mul_zero] at ex;have:=mpp Z I;have:=ky.2 (by omega);have:=kz.2 (by omega);omega
def RN (P:Int->Pt)(S:List Int)(Tr:Int->Int->Int->Prop)(v w:Int):Prop:=w∈S/\plt (P v) (P w)/\∃ x,Tr v w x
theorem NetOf.right_ex (N:NetOf P S a b c Tr){v m:Int}(I:v∈S)(hm:m∈S)(hlt:plt (P v) (P m)):∃ w,RN P S Tr v w:=by
 obtain⟨y,z,h,h1,h2⟩:=N.sector I (Ze (P m));refine Classical.byContradiction fun hno=>?_
 have hD:=N.pos h;have hz':∃ x,Tr v z x:=N.pair (N.rot (N.rot h));have key:∀ w,(∃ x,Tr v w x)->w∈S->fw (-((P w).1-(P v).1)) (-((P w).2-(P v).2)):=by
  intro w hw hwS;have hne:v≠w:=by obtain⟨x,hx⟩:=hw;exact N.ne12 hx
  rcases Zej (P v) (P w) with k|k|k
  ·exact absurd ⟨w,hwS,k,hw⟩ hno
  ·exact absurd (N.inj v I w hwS k) hne
  ·have:=X6 k;unfold fw at *;omega
 have cx:=Zmi (VV P a b c v) (VV P a b c y) (VV P a b c z) (Ze (P m));have cy:=Zmj (VV P a b c v) (VV P a b c y) (VV P a b c z) (Ze (P m));have cw:=Zjv (VV P a b c v) (VV P a b c y) (VV P a b c z) (Ze (P m));generalize hA:d3 (VV P a b c y) (VV P a b c z) (Ze (P m))=A at *
 generalize hB:d3 (VV P a b c z) (VV P a b c v) (Ze (P m))=B at *
 generalize hC:d3 (VV P a b c v) (VV P a b c y) (Ze (P m))=C at *
 generalize hDD:d3 (VV P a b c v) (VV P a b c y) (VV P a b c z)=D at *
 generalize hY:VV P a b c y=Y at *
 generalize hZ:VV P a b c z=Z at *
 rw[N.vv I] at cx cy cw;have lx:(Ze (P v)).x=(P v).1:=rfl;have ly:(Ze (P v)).y=(P v).2:=rfl;have lw:(Ze (P v)).w=1:=rfl;have mx:(Ze (P m)).x=(P m).1:=rfl;have my:(Ze (P m)).y=(P m).2:=rfl;have mw:(Ze (P m)).w=1:=rfl;rw[lx,mx] at cx;rw[ly,my] at cy;rw[lw,mw] at cw;have ex:D*((P m).1-(P v).1)=B*(Y.x-(P v).1*Y.w)+C*(Z.x-(P v).1*Z.w):=by grind
 have ey:D*((P m).2-(P v).2)=B*(Y.y-(P v).2*Y.w)+C*(Z.y-(P v).2*Z.w):=by grind
 have hYc:B=0\/fw (-(Y.x-(P v).1*Y.w)) (-(Y.y-(P v).2*Y.w)):=by
  rcases N.lab (N.rot h) with e|O
  ·left;subst e;have t:Tr z v (-1):=N.rot (N.rot h);have J:=(N.ghost_mem t).1;have:=(N.ghost t hm).1;rw[<-hZ,N.vv J,N.vv I,Za0] at hB;omega
  ·right;have:=key y ⟨z,h⟩ O;rw[<-hY,N.vv O];have e1:(Ze (P y)).x=(P y).1:=rfl;have e2:(Ze (P y)).y=(P y).2:=rfl;have e3:(Ze (P y)).w=1:=rfl;rw[e1,e2,e3,Int.mul_one,Int.mul_one];exact this
 have hZc:C=0\/fw (-(Z.x-(P v).1*Z.w)) (-(Z.y-(P v).2*Z.w)):=by
  rcases N.lab (N.rot (N.rot h)) with e|J
  ·left;subst e;have O:=(N.ghost_mem h).2;have:=(N.ghost h hm).1;rw[<-hY,N.vv O,N.vv I,Za0] at hC;omega
  ·right;have:=key z hz' J;rw[<-hZ,N.vv J];have e1:(Ze (P z)).x=(P z).1:=rfl;have e2:(Ze (P z)).y=(P z).2:=rfl;have e3:(Ze (P z)).w=1:=rfl;rw[e1,e2,e3,Int.mul_one,Int.mul_one];exact this
 exact Zz1 (X6 hlt) hD h2 h1 ex ey hYc hZc
def Top (P:Int->Pt)(S:List Int)(Tr:Int->Int->Int->Prop)(v w:Int):Prop:=RN P S Tr v w/\∀ x,Tr v w x->¬ (x∈S/\plt (P v) (P x))
theorem NetOf.top_ex (N:NetOf P S a b c Tr){v m:Int}(O:v∈S)(Y:m∈S)(aa:plt (P v) (P m)):∃ w,Top P S Tr v w:=by
 obtain⟨w0,J⟩:=N.right_ex O Y aa
 obtain ⟨w, hw, hR, ab⟩ := Zfl (fun w => RN P S Tr v w) (fun x y => 0 ≤ sd (P v) (P x) (P y)) (fun x y _ _ => by
     have : sd (P v) (P y) (P x) = - sd (P v) (P x) (P y) := by unfold sd; grind
     omega) (fun x y z e hy Z h1 I => by
     exact Zo8 (X6 e.2.1) (X6 hy.2.1) (X6 Z.2.1) h1 I) S ⟨w0, J.1, J⟩
 refine⟨w,hR,fun x e D=>?_⟩;have hxe:∃ y,Tr v x y:=N.pair (N.rot (N.rot e));have:=ab x D.1 ⟨D.1,D.2,hxe⟩;have I:=N.side e O hw D.1;have:sd (P v) (P x) (P w)= - sd (P v) (P w) (P x):=by unfold sd;grind
 omega
theorem Zz2 {v w u:Pt}(hw:plt v w)(hu:plt v u)(Y:sd v w u=0)(h1:0<=dt v w u)(h2:0<=dt v u w):w=u:=by
 have f1:=X6 hw;have f2:=X6 hu;unfold sd at Y;unfold dt at h1 h2;have e1:u.1-w.1=(u.1-v.1)-(w.1-v.1):=by omega
 have e2:u.2-w.2=(u.2-v.2)-(w.2-v.2):=by omega
 have e3:w.1-u.1=(w.1-v.1)-(u.1-v.1):=by omega
 have e4:w.2-u.2=(w.2-v.2)-(u.2-v.2):=by omega
 rw[e1,e2] at h1;rw[e3,e4] at h2;suffices h:w.1-v.1=u.1-v.1/\w.2-v.2=u.2-v.2 by exact Prod.ext (by omega) (by omega)
 generalize w.1-v.1=D at *
 generalize w.2-v.2=J at *
 generalize u.1-v.1=I at *
 generalize u.2-v.2=O at *
 have hc:0<D*I+J*O:=by
  unfold fw at f1 f2;rcases f1 with k|⟨k0,k⟩
  ·have Z:0<I:=by
    rcases f2 with r|⟨r0,r⟩
    ·exact r
    ·subst r0;have:=mpp k r;rw[Int.mul_zero] at Y;omega
   refine Zeu k ?_;have e:D*(D*I+J*O)=I*(D*D+J*J):=by grind
   rw[e];have:=mpp k k;have:=Zco J;exact mpp Z (by omega)
  ·subst k0;have Z:I=0:=dz k (by omega);subst Z;have:0<O:=by omega
   have:=mpp k this;omega
 have sq:(D*D+J*J)*(I*I+O*O)=(D*I+J*O)*(D*I+J*O):=by
  have:(D*D+J*J)*(I*I+O*O)-(D*I+J*O)*(D*I+J*O)=(D*O-J*I)*(D*O-J*I):=by grind
  rw[Y] at this;omega
 have ha:D*I+J*O<=I*I+O*O:=by grind
 have hb:D*I+J*O<=D*D+J*J:=by grind
 generalize hA:D*D+J*J=A at *
 generalize hB:I*I+O*O=B at *
 generalize hC:D*I+J*O=C at *
 have k1:A=C:=by
  rcases Int.lt_or_le C A with r|r
  ·have:=mpp (show 0<A-C by omega) (show 0<B by omega);have:=mnn (show 0<=C by omega) (show 0<=B-C by omega);grind
  ·omega
 have k2:B=C:=by
  rw[k1] at sq;have:C*(B-C)=0:=by grind
  have:=dz hc this;omega
 have z:(D-I)*(D-I)+(J-O)*(J-O)=0:=by
  have:(D-I)*(D-I)+(J-O)*(J-O)=A+B-2*C:=by rw[<-hA,<-hB,<-hC];grind
  omega
 have s1:=Zco (D-I);have s2:=Zco (J-O);constructor
 ·refine Classical.byContradiction fun hne=>?_
  have:=Zdq (show D-I≠0 by omega);omega
 ·refine Classical.byContradiction fun hne=>?_
  have:=Zdq (show J-O≠0 by omega);omega
theorem NetOf.edge_dt (N:NetOf P S a b c Tr){v w u x:Int}(Y:v∈S)(D:w∈S)(I:u∈S)(h:Tr v w x)(J:sd (P v) (P w) (P u)=0):0<=dt (P v) (P w) (P u):=by
 rcases N.lab (N.rot (N.rot h)) with e|O
 ·subst e;exact (N.ghost h I).2 J
 ·have h1:=N.circ h Y D O I;have Z:=N.side h Y D O;rw[Zhv,J] at h1;refine dnn Z ?_;have: -sd (P v) (P w) (P x)*dt (P v) (P w) (P u)= -(sd (P v) (P w) (P x)*dt (P v) (P w) (P u)):=Int.neg_mul _ _;omega
theorem NetOf.top_aux (N:NetOf P S a b c Tr){v w u:Int}(I:v∈S)(hw:Top P S Tr v w)(hu:RN P S Tr v u)(hs:0<=sd (P v) (P w) (P u)):w=u:=by
 obtain⟨⟨J,hwl,x,Y⟩,hno⟩:=hw;obtain⟨D,hul,y,hy⟩:=hu;have hno:=hno x Y;rcases Int.lt_or_le 0 (sd (P v) (P w) (P u)) with k|k
 ·exfalso;rcases N.lab (N.rot (N.rot Y)) with e|O
  ·subst e;have:=(N.ghost Y D).1;omega
  ·have hvx:v≠x:=(N.ne12 (N.rot (N.rot Y))).symm;have hxl:plt (P x) (P v):=by
    rcases Zej (P v) (P x) with r|r|r
    ·exact absurd ⟨O,r⟩ hno
    ·exact absurd (N.inj v I x O r) hvx
    ·exact r
   have hD:=N.side Y I J O;have hux:0<sd (P v) (P u) (P x):=by
    have z:=X6 hxl;have e:((P v).1-(P x).1)*((P w).2-(P v).2)-((P v).2-(P x).2)*((P w).1-(P v).1)=sd (P v) (P w) (P x):=by unfold sd;grind
    have:=Zpk z (X6 hwl) (X6 hul) (by rw[e];exact hD) (Int.le_of_lt k);have e:((P v).1-(P x).1)*((P u).2-(P v).2)-((P v).2-(P x).2)*((P u).1-(P v).1)=sd (P v) (P u) (P x):=by unfold sd;grind
    rw[e] at this;exact this
   have N':=N;obtain⟨vs,hnd,Z,net⟩:=N.net;rcases Int.lt_or_le (sd (P w) (P x) (P u)) 0 with r|r
   ·obtain⟨d,hd⟩:=N.pair (N.rot Y);refine net.ncr hy hd ⟨?_,?_,?_,?_⟩
    ·rw[N.vv D,N.vv O,N.vv J,Za0];have:sd (P u) (P x) (P w)= - sd (P w) (P x) (P u):=by unfold sd;grind
     omega
    ·rw[N.vv I,N.vv O,N.vv J,Za0];have:sd (P v) (P x) (P w)= - sd (P v) (P w) (P x):=by unfold sd;grind
     omega
    ·rw[N.vv I,N.vv D,N.vv J,Za0];have:sd (P v) (P u) (P w)= - sd (P v) (P w) (P u):=by unfold sd;grind
     omega
    ·rw[N.vv I,N.vv D,N.vv O,Za0];exact hux
   ·have sep:Sep (VV P a b c) vs:=by
     refine Zj1 (N.near _ N.ma) (N.near _ N.mb) (N.near _ N.mc) ?_ ?_
     ·intro i hi;rcases (Z i).1 hi with h|h
      ·exact .inl h
      ·exact .inr ⟨N.nn i h,N.near i h⟩
     ·intro i hi j hj hi0 hj0 e;have hi':i∈S:=by
       rcases (Z i).1 hi with h|h
       ·omega
       ·exact h
      have hj':j∈S:=by
       rcases (Z j).1 hj with h|h
       ·omega
       ·exact h
      exact N.inj i hi' j hj' e
    have mu:u∈vs:=(Z u).2 (.inr D);obtain⟨hwt,l,lz,l0,l1⟩:=sep u mu;have nvu:v≠u:=N'.ne12 hy;have nwu:w≠u:=by intro e;subst e;have:sd (P v) (P w) (P w)=0:=by { unfold sd;grind };omega
    have nxu:x≠u:=by intro e;subst e;have:sd (P v) (P x) (P x)=0:=by { unfold sd;grind };omega
    have:=Zjx (net.pos Y) (p:=VV P a b c u) (by rw[N.vv J,N.vv O,N.vv D,Za0];exact r)
     (by rw[N.vv I,N.vv O,N.vv D,Za0];have:sd (P x) (P v) (P u)=sd (P v) (P u) (P x):=by { unfold sd;grind };omega)
     (by rw[N.vv I,N.vv J,N.vv D,Za0];omega) l0 (l1 v ((Z v).2 (.inr I)) nvu) (l1 w ((Z w).2 (.inr J)) nwu) (l1 x ((Z x).2 (.inr O)) nxu) lz hwt
    have:=net.out Y u mu;omega
 ·have e0:sd (P v) (P w) (P u)=0:=by omega
  have e0':sd (P v) (P u) (P w)=0:=by have:sd (P v) (P u) (P w)= - sd (P v) (P w) (P u):=by { unfold sd;grind };omega
  exact N.inj w J u D (Zz2 hwl hul e0 (N.edge_dt I J D Y e0) (N.edge_dt I D J hy e0'))
theorem NetOf.top_uniq (N:NetOf P S a b c Tr){v w u:Int}(I:v∈S)(e:Top P S Tr v w)(D:Top P S Tr v u):w=u:=by
 rcases Int.le_total 0 (sd (P v) (P w) (P u)) with k|k
 ·exact N.top_aux I e D.1 k
 ·exact (N.top_aux I D e.1 (by have:sd (P v) (P u) (P w)= - sd (P v) (P w) (P u):=by { unfold sd;grind };omega)).symm
end
section
variable {P:Int->Pt} {S:List Int} {a b c:Int} {Tr:Int->Int->Int->Prop}
open Classical
noncomputable def Xh (S:List Int) (Tr:Int->Int->Int->Prop):List (Int×Int×Int):=(Zfm S).filter (fun t=>decide (Tr t.1 t.2.1 t.2.2))
theorem Yz {x y z:Int}:(x,y,z)∈Xh S Tr↔Tr x y z/\x∈S/\y∈S/\z∈S:=by
 unfold Xh;rw[List.mem_filter,Zfn,decide_eq_true_eq];constructor
 ·rintro⟨⟨D,e,I⟩,h⟩;exact⟨h,D,e,I⟩
 ·rintro⟨h,D,e,I⟩;exact⟨⟨D,e,I⟩,h⟩
theorem Zj2 (e:S.Nodup):(Xh S Tr).Nodup:=(Zz0 e).filter _
theorem NetOf.third (N:NetOf P S a b c Tr) (hS:S.Nodup) (Q:Int×Int×Int->Prop)
  (hQ:∀ x y z,Tr x y z->x∈S->y∈S->z∈S->(Q (x,y,z)/\¬ Q (y,z,x)/\¬ Q (z,x,y))\/(¬ Q (x,y,z)/\Q (y,z,x)/\¬ Q (z,x,y))\/(¬ Q (x,y,z)/\¬ Q (y,z,x)/\Q (z,x,y))) :
  ∀ M:List (Int×Int×Int),M.Nodup->(∀ t,t∈M↔t∈Xh S Tr/\Q t)->(Xh S Tr).length=3*M.length:=by
 intro M hMn Y
 have h3 := Zrh (fun t : Int × Int × Int => decide (Q t)) (fun t => decide (Q (t.2.1, t.2.2, t.1))) (fun t => decide (Q (t.2.2, t.1, t.2.1))) (Xh S Tr) (by
   rintro ⟨x, y, z⟩ h
   obtain ⟨h, I, J, D⟩ := Yz.1 h
   rcases hQ x y z h I J D with ⟨k1, k2, k3⟩ | ⟨k1, k2, k3⟩ | ⟨k1, k2, k3⟩ <;> simp [k1, k2, k3])
 have O:=Zj2 (Tr:=Tr) hS;have e1:((Xh S Tr).filter (fun t=>decide (Q (t.2.1,t.2.2,t.1)))).length=((Xh S Tr).filter (fun t=>decide (Q t))).length:=by
  refine Zcz (fun t=>(t.2.1,t.2.2,t.1)) (O.filter _) (O.filter _) ?_ ?_ ?_
  ·rintro⟨x,y,z⟩ _ ⟨x',Z,z'⟩ _ e;simp at e ⊢;omega
  ·rintro⟨x,y,z⟩ h;rw[List.mem_filter,decide_eq_true_eq] at h ⊢;obtain⟨t,I,J,D⟩:=Yz.1 h.1;exact⟨Yz.2 ⟨N.rot t,J,D,I⟩,h.2⟩
  ·rintro⟨x,y,z⟩ h;rw[List.mem_filter,decide_eq_true_eq] at h;obtain⟨t,I,J,D⟩:=Yz.1 h.1;refine⟨(z,x,y),?_,rfl⟩;rw[List.mem_filter,decide_eq_true_eq];exact⟨Yz.2 ⟨N.rot (N.rot t),D,I,J⟩,h.2⟩
 have e2:((Xh S Tr).filter (fun t=>decide (Q (t.2.2,t.1,t.2.1)))).length=((Xh S Tr).filter (fun t=>decide (Q t))).length:=by
  refine Zcz (fun t=>(t.2.2,t.1,t.2.1)) (O.filter _) (O.filter _) ?_ ?_ ?_
  ·rintro⟨x,y,z⟩ _ ⟨x',Z,z'⟩ _ e;simp at e ⊢;omega
  ·rintro⟨x,y,z⟩ h;rw[List.mem_filter,decide_eq_true_eq] at h ⊢;obtain⟨t,I,J,D⟩:=Yz.1 h.1;exact⟨Yz.2 ⟨N.rot (N.rot t),D,I,J⟩,h.2⟩
  ·rintro⟨x,y,z⟩ h;rw[List.mem_filter,decide_eq_true_eq] at h;obtain⟨t,I,J,D⟩:=Yz.1 h.1;refine⟨(y,z,x),?_,rfl⟩;rw[List.mem_filter,decide_eq_true_eq];exact⟨Yz.2 ⟨N.rot t,J,D,I⟩,h.2⟩
 have e3:((Xh S Tr).filter (fun t=>decide (Q t))).length=M.length:=by
  refine Zcz id (O.filter _) hMn (fun _ _ _ _ e=>e) ?_ ?_
  ·intro t h;rw[List.mem_filter,decide_eq_true_eq] at h;exact (Y t).2 h
  ·intro t h;refine⟨t,?_,rfl⟩;rw[List.mem_filter,decide_eq_true_eq];exact (Y t).1 h
 omega
theorem NetOf.ne3 (N:NetOf P S a b c Tr){x y z:Int}(h:Tr x y z):x≠y/\y≠z/\z≠x:=⟨N.ne12 h,N.ne12 (N.rot h),N.ne12 (N.rot (N.rot h))⟩
theorem NetOf.count (N:NetOf P S a b c Tr) (hS:S.Nodup) (ts:List (Int×Int×Int)) (hts:ts.Nodup) (hmem:∀ x y z,(x,y,z)∈ts↔Tr x y z/\0<=x/\x<y/\x<z)
  (G:List (Int×Int)) (hG:G.Nodup) (hGm:∀ x y,(x,y)∈G↔Tr x y (-1)):ts.length+2+G.length=2*S.length:=by
 have hA:=Zj2 (Tr:=Tr) hS;have hP:=Zgi hS;have c1:(Xh S Tr).length=3*ts.length:=by
  refine N.third hS (fun t=>t.1<t.2.1/\t.1<t.2.2) ?_ ts hts ?_
  ·intro x y z h _ _ _;obtain⟨J,I,h3⟩:=N.ne3 h;dsimp only
   omega
  ·rintro⟨x,y,z⟩;rw[hmem,Yz];constructor
   ·rintro⟨t,h0,J,I⟩;exact⟨⟨t,N.mem t h0,N.mem (N.rot t) (by omega),N.mem (N.rot (N.rot t)) (by omega)⟩,J,I⟩
   ·rintro⟨⟨t,D,hy,hz⟩,J,I⟩;exact⟨t,N.nn x D,J,I⟩
 have tri3:∀ x y z,Tr x y z->x∈S->y∈S->z∈S->((plt (P x) (P y)/\plt (P x) (P z))/\¬ (plt (P y) (P z)/\plt (P y) (P x))/\¬ (plt (P z) (P x)/\plt (P z) (P y)))\/(¬ (plt (P x) (P y)/\plt (P x) (P z))/\(plt (P y) (P z)/\plt (P y) (P x))/\¬ (plt (P z) (P x)/\plt (P z) (P y)))\/(¬ (plt (P x) (P y)/\plt (P x) (P z))/\¬ (plt (P y) (P z)/\plt (P y) (P x))/\(plt (P z) (P x)/\plt (P z) (P y))):=by
  intro x y z h D hy hz;obtain⟨J,I,h3⟩:=N.ne3 h;have n1:¬ ((P x).1=(P y).1/\(P x).2=(P y).2):=fun e=>J (N.inj x D y hy (Prod.ext e.1 e.2))
  have n2:¬ ((P y).1=(P z).1/\(P y).2=(P z).2):=fun e=>I (N.inj y hy z hz (Prod.ext e.1 e.2))
  have n3:¬ ((P z).1=(P x).1/\(P z).2=(P x).2):=fun e=>h3 (N.inj z hz x D (Prod.ext e.1 e.2))
  unfold plt;omega
 generalize hGMe:(Xh S Tr).filter (fun t=>decide (plt (P t.1) (P t.2.1)/\plt (P t.1) (P t.2.2)))=GM;have hGM:∀ x y z,(x,y,z)∈GM↔(Tr x y z/\x∈S/\y∈S/\z∈S)/\plt (P x) (P y)/\plt (P x) (P z):=by
  intro x y z;rw[<-hGMe,List.mem_filter,decide_eq_true_eq,Yz]
 have hGMn:GM.Nodup:=by rw[<-hGMe];exact hA.filter _
 have c2:(Xh S Tr).length=3*GM.length:=by
  refine N.third hS (fun t=>plt (P t.1) (P t.2.1)/\plt (P t.1) (P t.2.2)) tri3 GM hGMn ?_;rintro⟨x,y,z⟩;rw[hGM,Yz]
 generalize hELe:(Zae S).filter (fun q=>decide (plt (P q.1) (P q.2)/\∃ x,Tr q.1 q.2 x))=EL;have hELn:EL.Nodup:=by rw[<-hELe];exact hP.filter _
 have hEL:∀ v w,(v,w)∈EL↔(v∈S/\w∈S)/\plt (P v) (P w)/\∃ x,Tr v w x:=by
  intro v w;rw[<-hELe,List.mem_filter,decide_eq_true_eq,Zd7]
 have s1:=Zhw (fun q:Int×Int=>decide (∃ x,Tr q.1 q.2 x/\x∈S/\plt (P q.1) (P x))) EL;have b1:GM.length=(EL.filter (fun q:Int×Int=>decide (∃ x,Tr q.1 q.2 x/\x∈S/\plt (P q.1) (P x)))).length:=by
  refine Zcz (fun t=>(t.1,t.2.1)) hGMn (hELn.filter _) ?_ ?_ ?_
  ·rintro⟨x,y,z⟩ h ⟨x',y',z'⟩ Z e;have h:=(hGM _ _ _).1 h;have Z:=(hGM _ _ _).1 Z;simp at e;obtain⟨rfl,rfl⟩:=e;rw[N.fn h.1.1 Z.1.1]
  ·rintro⟨x,y,z⟩ h;obtain⟨⟨t,D,hy,hz⟩,J,I⟩:=(hGM _ _ _).1 h;rw[List.mem_filter,decide_eq_true_eq];exact⟨(hEL x y).2 ⟨⟨D,hy⟩,J,z,t⟩,z,t,hz,I⟩
  ·rintro⟨v,w⟩ h;rw[List.mem_filter,decide_eq_true_eq] at h;obtain⟨hm,x,t,D,I⟩:=h;obtain⟨⟨O,Y⟩,J,_⟩:=(hEL v w).1 hm;exact⟨(v,w,x),(hGM _ _ _).2 ⟨⟨t,O,Y,D⟩,J,I⟩,rfl⟩
 have b2:(EL.filter (fun q:Int×Int=> ! decide (∃ x,Tr q.1 q.2 x/\x∈S/\plt (P q.1) (P x)))).length=(S.filter (fun v=>decide (∃ m∈S,plt (P v) (P m)))).length:=by
  have top:∀ v w,(v,w)∈EL.filter (fun q:Int×Int=> ! decide (∃ x,Tr q.1 q.2 x/\x∈S/\plt (P q.1) (P x)))↔v∈S/\Top P S Tr v w:=by
   intro v w;rw[List.mem_filter,hEL];simp only[Bool.not_eq_true',decide_eq_false_iff_not];constructor
   ·rintro⟨⟨⟨O,Y⟩,J,I⟩,h3⟩;exact⟨O,⟨Y,J,I⟩,fun x D hxr=>h3 ⟨x,D,hxr⟩⟩
   ·rintro⟨O,⟨Y,J,I⟩,h3⟩;exact⟨⟨⟨O,Y⟩,J,I⟩,fun ⟨x,D,hxr⟩=>h3 x D hxr⟩
  refine Zcz (fun q=>q.1) (hELn.filter _) (hS.filter _) ?_ ?_ ?_
  ·rintro⟨v,w⟩ h ⟨v',w'⟩ Z e;have h:=(top v w).1 h;have Z:=(top v' w').1 Z;dsimp only at e
   subst e;rw[N.top_uniq h.1 h.2 Z.2]
  ·rintro⟨v,w⟩ h;obtain⟨O,ht⟩:=(top v w).1 h;rw[List.mem_filter,decide_eq_true_eq];exact⟨O,w,ht.1.1,ht.1.2.1⟩
  ·intro v h;rw[List.mem_filter,decide_eq_true_eq] at h;obtain⟨O,m,hm,hlt⟩:=h;obtain⟨w,Y⟩:=N.top_ex O hm hlt;exact⟨(v,w),(top v w).2 ⟨O,Y⟩,rfl⟩
 have b3:S.length=(S.filter (fun v=>decide (∃ m∈S,plt (P v) (P m)))).length+1:=by
  rw[Zhw (fun v=>decide (∃ m∈S,plt (P v) (P m))) S];congr 1
  obtain ⟨m, hm, _, hmax⟩ := Zfl (fun _ : Int => True) (fun x y => ple (P x) (P y)) (fun x y _ _ => by
    rcases Zej (P x) (P y) with h | h | h
    · exact .inl (.inl h)
    · exact .inl (.inr h)
    · exact .inr (.inl h)) (fun x y z _ _ _ J I => Zo7 J I) S ⟨a, N.ma, trivial⟩
  have:(S.filter (fun v=> ! decide (∃ m∈S,plt (P v) (P m)))).length=[m].length:=by
   refine Zcz id (hS.filter _) (by simp) (fun _ _ _ _ e=>e) ?_ ?_
   ·intro v h;rw[List.mem_filter] at h;simp only[Bool.not_eq_true',decide_eq_false_iff_not] at h;rcases hmax v h.1 trivial with k|k
    ·exact absurd ⟨m,hm,k⟩ h.2
    ·simp[N.inj v h.1 m hm k]
   ·intro v h;simp at h;subst h;refine⟨v,?_,rfl⟩;rw[List.mem_filter];simp only[Bool.not_eq_true',decide_eq_false_iff_not];refine⟨hm,?_⟩;rintro⟨u,hu,k⟩;rcases hmax u hu trivial with r|r
    ·exact Xs _ (Zai k r)
    ·rw[r] at k;exact Xs _ k
  simpa using this
 generalize hDEe:(Zae S).filter (fun q=>decide (∃ x,Tr q.1 q.2 x))=DE;have hDEn:DE.Nodup:=by rw[<-hDEe];exact hP.filter _
 have hDE:∀ v w,(v,w)∈DE↔(v∈S/\w∈S)/\∃ x,Tr v w x:=by
  intro v w;rw[<-hDEe,List.mem_filter,decide_eq_true_eq,Zd7]
 have s2:=Zhw (fun q:Int×Int=>decide (plt (P q.1) (P q.2))) DE;have b4:(DE.filter (fun q:Int×Int=>decide (plt (P q.1) (P q.2)))).length=EL.length:=by
  refine Zcz id (hDEn.filter _) hELn (fun _ _ _ _ e=>e) ?_ ?_
  ·rintro⟨v,w⟩ h;rw[List.mem_filter,decide_eq_true_eq,hDE] at h;exact (hEL v w).2 ⟨h.1.1,h.2,h.1.2⟩
  ·rintro⟨v,w⟩ h;have h:=(hEL v w).1 h;refine⟨(v,w),?_,rfl⟩;rw[List.mem_filter,decide_eq_true_eq,hDE];exact⟨⟨h.1,h.2.2⟩,h.2.1⟩
 have b5:(DE.filter (fun q:Int×Int=> ! decide (plt (P q.1) (P q.2)))).length=EL.length:=by
  refine Zcz (fun q=>(q.2,q.1)) (hDEn.filter _) hELn ?_ ?_ ?_
  ·rintro⟨v,w⟩ _ ⟨v',w'⟩ _ e;simp at e ⊢;omega
  ·rintro⟨v,w⟩ h;rw[List.mem_filter,hDE] at h;simp only[Bool.not_eq_true',decide_eq_false_iff_not] at h;obtain⟨⟨⟨O,Y⟩,x,D⟩,I⟩:=h;refine (hEL w v).2 ⟨⟨Y,O⟩,?_,N.pair D⟩;rcases Zej (P v) (P w) with k|k|k
   ·exact absurd k I
   ·exact absurd (N.inj v O w Y k) (N.ne12 D)
   ·exact k
  ·rintro⟨w,v⟩ h;obtain⟨⟨Y,O⟩,J,x,D⟩:=(hEL w v).1 h;refine⟨(v,w),?_,rfl⟩;rw[List.mem_filter,hDE];simp only[Bool.not_eq_true',decide_eq_false_iff_not];exact⟨⟨⟨O,Y⟩,N.pair D⟩,fun k=>Xs _ (Zai J k)⟩
 have s3:=Zhw (fun q:Int×Int=>decide (∃ x∈S,Tr q.1 q.2 x)) DE;have b6:(Xh S Tr).length=(DE.filter (fun q:Int×Int=>decide (∃ x∈S,Tr q.1 q.2 x))).length:=by
  refine Zcz (fun t=>(t.1,t.2.1)) hA (hDEn.filter _) ?_ ?_ ?_
  ·rintro⟨x,y,z⟩ h ⟨x',y',z'⟩ Z e;have h:=Yz.1 h;have Z:=Yz.1 Z;simp at e;obtain⟨rfl,rfl⟩:=e;rw[N.fn h.1 Z.1]
  ·rintro⟨x,y,z⟩ h;obtain⟨t,D,hy,hz⟩:=Yz.1 h;rw[List.mem_filter,decide_eq_true_eq,hDE];exact⟨⟨⟨D,hy⟩,z,t⟩,z,hz,t⟩
  ·rintro⟨v,w⟩ h;rw[List.mem_filter,decide_eq_true_eq,hDE] at h;obtain⟨⟨⟨O,Y⟩,_⟩,x,D,t⟩:=h;exact⟨(v,w,x),Yz.2 ⟨t,O,Y,D⟩,rfl⟩
 have b7:(DE.filter (fun q:Int×Int=> ! decide (∃ x∈S,Tr q.1 q.2 x))).length=G.length:=by
  refine Zcz id (hDEn.filter _) hG (fun _ _ _ _ e=>e) ?_ ?_
  ·rintro⟨v,w⟩ h;rw[List.mem_filter,hDE] at h;simp only[Bool.not_eq_true',decide_eq_false_iff_not] at h;obtain⟨⟨⟨O,Y⟩,x,D⟩,I⟩:=h;rcases N.lab (N.rot (N.rot D)) with e|e
   ·subst e;exact (hGm v w).2 D
   ·exact absurd ⟨x,e,D⟩ I
  ·rintro⟨v,w⟩ h;have h:=(hGm v w).1 h;have hm:=N.ghost_mem h;refine⟨(v,w),?_,rfl⟩;rw[List.mem_filter,hDE];simp only[Bool.not_eq_true',decide_eq_false_iff_not];refine⟨⟨hm,-1,h⟩,?_⟩;rintro⟨x,D,t⟩;have:=N.fn t h;have:=N.nn x D;omega
 omega
end
def tau (A B q:Pt):Int:=(q.1-A.1)*(B.1-A.1)+(q.2-A.2)*(B.2-A.2)
def Zz (A B:Pt):Int:=(B.1-A.1)*(B.1-A.1)+(B.2-A.2)*(B.2-A.2)
theorem Za9 {A B:Pt}(h:A≠B):0<Zz A B:=by
 unfold Zz;have s1:=Zco (B.1-A.1);have s2:=Zco (B.2-A.2);by_cases D:B.1=A.1
 ·have e:B.2≠A.2:=fun e=>h (Prod.ext D.symm e.symm)
  have:=Zdq (show B.2-A.2≠0 by omega);omega
 ·have:=Zdq (show B.1-A.1≠0 by omega);omega
theorem Zal (A B:Pt):tau A B A=0:=by unfold tau;grind
theorem Zas (A B:Pt):tau A B B=Zz A B:=rfl
theorem Yu (A B:Pt):sd A B A=0:=by unfold sd;grind
theorem Y0 (A B:Pt):sd A B B=0:=by unfold sd;grind
theorem Zc8 (A B u v q:Pt):Zz A B*sd u v q=(tau A B v-tau A B u)*(sd A B q-sd A B u)-(sd A B v-sd A B u)*(tau A B q-tau A B u):=by
 unfold Zz sd tau;grind
theorem Zba (A B u v q:Pt):Zz A B*dt u v q=(tau A B q-tau A B u)*(tau A B q-tau A B v)+(sd A B q-sd A B u)*(sd A B q-sd A B v):=by
 unfold Zz sd tau dt;grind
theorem Zgj {A B u v:Pt}(h:A≠B)(O:sd A B u=0)(Y:sd A B v=0)(e:tau A B u=tau A B v):u=v:=by
 have D:=Za9 h;have I:Zz A B*(u.1-v.1)=(B.1-A.1)*(tau A B u-tau A B v)-(B.2-A.2)*(sd A B u-sd A B v):=by unfold Zz tau sd;grind
 have J:Zz A B*(u.2-v.2)=(B.2-A.2)*(tau A B u-tau A B v)+(B.1-A.1)*(sd A B u-sd A B v):=by unfold Zz tau sd;grind
 rw[e,O,Y,Int.sub_self,Int.sub_self,Int.mul_zero,Int.mul_zero] at I J;have:=dz D (by omega:Zz A B*(u.1-v.1)=0);have:=dz D (by omega:Zz A B*(u.2-v.2)=0);exact Prod.ext (by omega) (by omega)
structure Poly (P:Int->Pt)(S:List Int)(h:Nat->Pt)(m:Nat):Prop where
 three:3<=m
 mem:∀ i,i<m->∃ u∈S,P u=h i
 edge:∀ i,i<m->∀ q∈S,0<=sd (h i) (h ((i+1) % m)) (P q)/\(sd (h i) (h ((i+1) % m)) (P q)=0->dt (h i) (h ((i+1) % m)) (P q)<=0)
 turn:∀ i,i<m->0<sd (h i) (h ((i+1) % m)) (h ((i+2) % m))
 inj:∀ i j,i<m->j<m->h i=h j->i=j
section
variable {P:Int->Pt} {S:List Int} {a b c:Int} {Tr:Int->Int->Int->Prop} {h:Nat->Pt} {m:Nat}
theorem Zz3 {i m:Nat}(D:3<=m)(hi:i<m):∃ k,k<m/\(k+1) % m=i/\(k+2) % m=(i+1) % m:=by
 by_cases e:i=0
 ·subst e;refine⟨m-1,by omega,?_,?_⟩
  ·rw[show m-1+1=m by omega,Nat.mod_self]
  ·rw[show m-1+2=1+m by omega,Nat.add_mod_right]
 ·refine⟨i-1,by omega,?_,?_⟩
  ·rw[show i-1+1=i by omega,Nat.mod_eq_of_lt hi]
  ·rw[show i-1+2=i+1 by omega]
theorem Poly.ne (Y:Poly P S h m){i:Nat}(hi:i<m):h i≠h ((i+1) % m):=by
 intro e;have:=Y.turn i hi;rw[<-e] at this;have z:sd (h i) (h i) (h ((i+2) % m))=0:=by unfold sd;grind
 omega
theorem NetOf.on_edge (N:NetOf P S a b c Tr)(Y:Poly P S h m){x y:Int}(ht:Tr x y (-1)):∃ i,i<m/\sd (h i) (h ((i+1) % m)) (P x)=0/\sd (h i) (h ((i+1) % m)) (P y)=0:=by
 obtain⟨hy,hx,hne,hall⟩:=N.bnd_of ht;have hPne:P y≠P x:=fun e=>hne (N.inj y hy x hx e)
 have hc:∀ i,i<m->0<=sd (P y) (P x) (h i):=by
  intro i hi;obtain⟨u,hu,e⟩:=Y.mem i hi;rw[<-e];exact (hall u hu).1
 obtain⟨i,hi,_,hmin⟩:=Zfl (fun _:Nat=>True) (fun s t=>sd (P y) (P x) (h t)<=sd (P y) (P x) (h s)) (fun s t _ _=>Int.le_total _ _) (fun s t r _ _ _ h1 h2=>Int.le_trans h2 h1) (List.range m) ⟨0,List.mem_range.2 (by have:=Y.three;omega),trivial⟩;have hi:=List.mem_range.1 hi;obtain⟨k,J,e1,e2⟩:=Zz3 Y.three hi;have I:=Y.turn k J;rw[e1,e2] at I;have hk1:(i+1) % m<m:=Nat.mod_lt _ (by omega);have c1:=hmin k (List.mem_range.2 J) trivial;have c2:=hmin _ (List.mem_range.2 hk1) trivial;have n0:=hc i hi;have n1:=hc k J;have n2:=hc _ hk1;have key:∀ u∈S,sd (P y) (P x) (P u)=0->sd (P y) (P x) (h i)=0/\sd (h k) (h i) (P u)*sd (P y) (P x) (h ((i+1) % m))=0/\sd (h i) (h ((i+1) % m)) (P u)*sd (P y) (P x) (h k)=0:=by
  intro u hu hz;have s1:0<=sd (h k) (h i) (P u):=by have:=(Y.edge k J u hu).1;rw[e1] at this;exact this
  have s2:0<=sd (h i) (h ((i+1) % m)) (P u):=(Y.edge i hi u hu).1;generalize h ((i+1) % m)=B at *
  generalize h i=O at *
  generalize h k=A at *
  have e:sd A O B*(sd (P y) (P x) (P u)-sd (P y) (P x) O)=sd A O (P u)*(sd (P y) (P x) B-sd (P y) (P x) O)+sd O B (P u)*(sd (P y) (P x) A-sd (P y) (P x) O):=by
   unfold sd;grind
  rw[hz] at e;have t1:=mnn s1 (show 0<=sd (P y) (P x) B-sd (P y) (P x) O by omega);have t2:=mnn s2 (show 0<=sd (P y) (P x) A-sd (P y) (P x) O by omega);have t3:sd A O B*(0-sd (P y) (P x) O)= -(sd A O B*sd (P y) (P x) O):=by grind
  have t4:=mnn (Int.le_of_lt I) n0;have z0:sd (P y) (P x) O=0:=dz I (by omega);rw[z0,Int.sub_zero,Int.mul_zero] at e;rw[z0,Int.sub_zero] at t1 t2;rw[Int.sub_zero,Int.sub_zero] at e;exact⟨z0,by omega,by omega⟩
 have zx:sd (P y) (P x) (P x)=0:=Y0 _ _;have zy:sd (P y) (P x) (P y)=0:=Yu _ _;obtain⟨k0,kx1,kx2⟩:=key x hx zx;obtain⟨_,ky1,ky2⟩:=key y hy zy;have fin:∀ A B:Pt,sd (P y) (P x) A=0->sd (P y) (P x) B=0->sd A B (P x)=0/\sd A B (P y)=0:=by
  intro A B hA hB;have hL:=Za9 hPne;have Z:=Zc8 (P y) (P x) A B (P x);have D:=Zc8 (P y) (P x) A B (P y);rw[hA,hB,Y0] at Z;rw[hA,hB,Yu] at D;simp only[Int.sub_self,Int.mul_zero,Int.zero_mul] at Z D;exact⟨dz hL Z,dz hL D⟩
 by_cases zB:sd (P y) (P x) (h ((i+1) % m))=0
 ·exact⟨i,hi,fin _ _ k0 zB⟩
 ·by_cases zA:sd (P y) (P x) (h k)=0
  ·refine⟨k,J,?_⟩;rw[e1];exact fin _ _ zA k0
  ·exfalso;have a1:=dz (show 0<sd (P y) (P x) (h ((i+1) % m)) by omega) (by rw[Int.mul_comm];exact kx1);have a2:=dz (show 0<sd (P y) (P x) (h k) by omega) (by rw[Int.mul_comm];exact kx2);have b1:=dz (show 0<sd (P y) (P x) (h ((i+1) % m)) by omega) (by rw[Int.mul_comm];exact ky1);have b2:=dz (show 0<sd (P y) (P x) (h k) by omega) (by rw[Int.mul_comm];exact ky2);have z:∀ u:Pt,sd (h k) (h i) u=0->sd (h i) (h ((i+1) % m)) u=0->u=h i:=by
    intro u h1 h2;generalize h ((i+1) % m)=B at *
    generalize h i=O at *
    generalize h k=A at *
    have Z:sd A O B*(u.1-O.1)=sd A O u*(B.1-O.1)+sd O B u*(A.1-O.1):=by unfold sd;grind
    have D:sd A O B*(u.2-O.2)=sd A O u*(B.2-O.2)+sd O B u*(A.2-O.2):=by unfold sd;grind
    rw[h1,h2,Int.zero_mul,Int.zero_mul] at Z D;have:=dz I (by omega:sd A O B*(u.1-O.1)=0);have:=dz I (by omega:sd A O B*(u.2-O.2)=0);exact Prod.ext (by omega) (by omega)
   exact hPne ((z _ b1 b2).trans (z _ a1 a2).symm)
theorem Poly.tau_range (Y:Poly P S h m){i:Nat}(hi:i<m){u:Int}(J:u∈S)(D:sd (h i) (h ((i+1) % m)) (P u)=0):0<=tau (h i) (h ((i+1) % m)) (P u)/\tau (h i) (h ((i+1) % m)) (P u)<=Zz (h i) (h ((i+1) % m)):=by
 have I:=(Y.edge i hi u J).2 D;have O:=Za9 (Y.ne hi);have e:=Zba (h i) (h ((i+1) % m)) (h i) (h ((i+1) % m)) (P u);rw[D,Yu,Y0,Zal,Zas] at e;generalize tau (h i) (h ((i+1) % m)) (P u)=t at *
 generalize Zz (h i) (h ((i+1) % m))=L at *
 have:=mnq (Int.le_of_lt O) I;simp only[Int.sub_zero,Int.sub_self,Int.mul_zero,Int.zero_mul,Int.add_zero] at e;have k:t*(t-L)<=0:=by omega
 constructor
 ·rcases Int.lt_or_le t 0 with r|r
  ·have:=mmm r (show t-L<0 by omega);omega
  ·exact r
 ·rcases Int.lt_or_le L t with r|r
  ·have:=mpp (show 0<t by omega) (show 0<t-L by omega);omega
  ·exact r
theorem Poly.bnd (Y:Poly P S h m) {i:Nat} (hi:i<m) {u v:Int} (hu:u∈S) (hv:v∈S) (hu0:sd (h i) (h ((i+1) % m)) (P u)=0) (hv0:sd (h i) (h ((i+1) % m)) (P v)=0)
  (hlt:tau (h i) (h ((i+1) % m)) (P u)<tau (h i) (h ((i+1) % m)) (P v))
  (hno:∀ q∈S,sd (h i) (h ((i+1) % m)) (P q)=0->tau (h i) (h ((i+1) % m)) (P q)<=tau (h i) (h ((i+1) % m)) (P u)\/tau (h i) (h ((i+1) % m)) (P v)<=tau (h i) (h ((i+1) % m)) (P q)):Bnd P S u v:=by
 have D:=Za9 (Y.ne hi);refine⟨hu,hv,by intro e;subst e;omega,fun q I=>?_⟩;have O:=(Y.edge i hi q I).1;have hn:=hno q I;have f:=Zc8 (h i) (h ((i+1) % m)) (P u) (P v) (P q);have g:=Zba (h i) (h ((i+1) % m)) (P u) (P v) (P q);rw[hu0,hv0] at f g;generalize sd (h i) (h ((i+1) % m)) (P q)=s at *
 generalize tau (h i) (h ((i+1) % m)) (P u)=Z at *
 generalize tau (h i) (h ((i+1) % m)) (P v)=tv at *
 generalize tau (h i) (h ((i+1) % m)) (P q)=tq at *
 generalize Zz (h i) (h ((i+1) % m))=L at *
 simp only[Int.sub_zero,Int.sub_self,Int.zero_mul] at f g;refine⟨dnn D ?_,fun e=>?_⟩
 ·rw[f];exact mnn (by omega) O
 ·rw[e,Int.mul_zero] at f;have J:s=0:=dz (show 0<tv-Z by omega) f.symm;rw[J,Int.mul_zero,Int.add_zero] at g;refine dnn D ?_;rw[g];rcases hn J with k|k
  ·exact mqq (by omega) (by omega)
  ·exact mnn (by omega) (by omega)
theorem NetOf.edge_next (N:NetOf P S a b c Tr)(Y:Poly P S h m){i:Nat}(hi:i<m){u:Int}(D:u∈S)(e:sd (h i) (h ((i+1) % m)) (P u)=0)(hne:P u≠h ((i+1) % m)) :
  ∃ v∈S,sd (h i) (h ((i+1) % m)) (P v)=0/\Tr v u (-1):=by
 have r:=Y.tau_range hi D e;have ac:tau (h i) (h ((i+1) % m)) (P u)<Zz (h i) (h ((i+1) % m)):=by
  rcases Int.lt_or_le (tau (h i) (h ((i+1) % m)) (P u)) (Zz (h i) (h ((i+1) % m))) with k|k
  ·exact k
  ·exact absurd (Zgj (Y.ne hi) e (Y0 _ _) (by rw[Zas];omega)) hne
 obtain⟨w,hw,J⟩:=Y.mem ((i+1) % m) (Nat.mod_lt _ (by omega));obtain⟨v,O,⟨I,aa⟩,ab⟩:=Zfl (fun v=>sd (h i) (h ((i+1) % m)) (P v)=0/\tau (h i) (h ((i+1) % m)) (P u)<tau (h i) (h ((i+1) % m)) (P v))
  (fun x y=>tau (h i) (h ((i+1) % m)) (P y)<=tau (h i) (h ((i+1) % m)) (P x)) (fun x y _ _=>Int.le_total _ _) (fun x y z _ _ _ h1 Z=>Int.le_trans Z h1) S
  ⟨w,hw,by rw[J];exact Y0 _ _,by rw[J,Zas];exact ac⟩
 refine⟨v,O,I,N.of_bnd (Y.bnd hi D O e I aa ?_)⟩;intro q hq hq0;rcases Int.lt_or_le (tau (h i) (h ((i+1) % m)) (P u)) (tau (h i) (h ((i+1) % m)) (P q)) with k|k
 ·exact .inr (ab q hq ⟨hq0,k⟩)
 ·exact .inl k
theorem NetOf.edge_prev (N:NetOf P S a b c Tr)(Y:Poly P S h m){i:Nat}(hi:i<m){u:Int}(D:u∈S)(e:sd (h i) (h ((i+1) % m)) (P u)=0)(hne:P u≠h i) :
  ∃ v∈S,sd (h i) (h ((i+1) % m)) (P v)=0/\Tr u v (-1):=by
 have r:=Y.tau_range hi D e;have ab:0<tau (h i) (h ((i+1) % m)) (P u):=by
  rcases Int.lt_or_le 0 (tau (h i) (h ((i+1) % m)) (P u)) with k|k
  ·exact k
  ·exact absurd (Zgj (Y.ne hi) e (Yu _ _) (by rw[Zal];omega)) hne
 obtain⟨w,hw,J⟩:=Y.mem i hi;obtain⟨v,O,⟨I,aa⟩,ac⟩:=Zfl (fun v=>sd (h i) (h ((i+1) % m)) (P v)=0/\tau (h i) (h ((i+1) % m)) (P v)<tau (h i) (h ((i+1) % m)) (P u))
  (fun x y=>tau (h i) (h ((i+1) % m)) (P x)<=tau (h i) (h ((i+1) % m)) (P y)) (fun x y _ _=>Int.le_total _ _) (fun x y z _ _ _ h1 Z=>Int.le_trans h1 Z) S
  ⟨w,hw,by rw[J];exact Yu _ _,by rw[J,Zal];exact ab⟩
 refine⟨v,O,I,N.of_bnd (Y.bnd hi O D I e aa ?_)⟩;intro q hq hq0;rcases Int.lt_or_le (tau (h i) (h ((i+1) % m)) (P q)) (tau (h i) (h ((i+1) % m)) (P u)) with k|k
 ·exact .inl (ac q hq ⟨hq0,k⟩)
 ·exact .inr k
theorem NetOf.edge_dir (N:NetOf P S a b c Tr)(Y:Poly P S h m){i:Nat}(hi:i<m){x y:Int}(Z:Tr x y (-1))(J:sd (h i) (h ((i+1) % m)) (P x)=0)(I:sd (h i) (h ((i+1) % m)) (P y)=0) :
  tau (h i) (h ((i+1) % m)) (P y)<tau (h i) (h ((i+1) % m)) (P x):=by
 have hs:=N.ghost_sum Z;have O:=Za9 (Y.ne hi);rcases Int.lt_or_le (tau (h i) (h ((i+1) % m)) (P y)) (tau (h i) (h ((i+1) % m)) (P x)) with k|k
 ·exact k
 ·exfalso;have e:∀ q∈S,0<=sd (P x) (P y) (P q):=by
   intro q D;have f:=Zc8 (h i) (h ((i+1) % m)) (P x) (P y) (P q);rw[J,I] at f;simp only[Int.sub_zero,Int.sub_self,Int.zero_mul] at f;refine dnn O ?_;rw[f];exact mnn (by omega) (Y.edge i hi q D).1
  have:=e a N.ma;have:=e b N.mb;have:=e c N.mc;omega
theorem NetOf.rim_iff (N:NetOf P S a b c Tr)(Y:Poly P S h m){u:Int}(I:u∈S):(∃ i,i<m/\sd (h i) (h ((i+1) % m)) (P u)=0)↔∃ y,Tr u y (-1):=by
 constructor
 ·rintro⟨i,hi,D⟩;by_cases J:P u=h i
  ·obtain⟨v,Z,_,e⟩:=N.edge_next Y hi I D (by rw[J];exact Y.ne hi);obtain⟨d,O⟩:=N.pair (N.rot e);exact⟨d,N.rot O⟩
  ·obtain⟨v,Z,_,e⟩:=N.edge_prev Y hi I D J;exact⟨v,e⟩
 ·rintro⟨y,e⟩;obtain⟨i,hi,D,_⟩:=N.on_edge Y e;exact⟨i,hi,D⟩
theorem Zz4 {A B C D:Pt}(hAB:A≠B)(hCD:C≠D)(I:sd A B C=0)(J:sd A B D=0)(h1:dt A B C<=0)(h2:dt A B D<=0)(h3:dt C D A<=0)(h4:dt C D B<=0):(C=A/\D=B)\/(C=B/\D=A):=by
 have O:=Za9 hAB;have f1:=Zba A B A B C;have f2:=Zba A B A B D;have f3:=Zba A B C D A;have Z:=Zba A B C D B;rw[Yu,Y0,I,Zal,Zas] at f1;rw[Yu,Y0,J,Zal,Zas] at f2;rw[Yu,I,J,Zal] at f3;rw[Y0,I,J,Zas] at Z;have j:∀ {u v:Pt},sd A B u=0->sd A B v=0->tau A B u=tau A B v->u=v:=fun hu hv e=>Zgj hAB hu hv e
 have jC0:=j I (Yu A B);have jCL:=j I (Y0 A B);have jD0:=j J (Yu A B);have jDL:=j J (Y0 A B);rw[Zal] at jC0 jD0;rw[Zas] at jCL jDL;generalize tau A B C=s at *
 generalize tau A B D=t at *
 generalize Zz A B=L at *
 simp only[Int.sub_zero,Int.sub_self,Int.mul_zero,Int.zero_mul,Int.add_zero,Int.zero_sub] at f1 f2 f3 Z;have m1:=mnq (Int.le_of_lt O) h1;have m2:=mnq (Int.le_of_lt O) h2;have m3:=mnq (Int.le_of_lt O) h3;have m4:=mnq (Int.le_of_lt O) h4;have rng:∀ r:Int,r*(r-L)<=0->0<=r/\r<=L:=by
  intro r hr;constructor
  ·rcases Int.lt_or_le r 0 with k|k
   ·have:=mmm k (show r-L<0 by omega);omega
   ·exact k
  ·rcases Int.lt_or_le L r with k|k
   ·have:=mpp (show 0<r by omega) (show 0<r-L by omega);omega
   ·exact k
 have rs:=rng s (by omega);have rt:=rng t (by omega);have z:s=0\/t=0:=by
  rcases Int.lt_or_le 0 s with k|k
  ·rcases Int.lt_or_le 0 t with Y|Y
   ·have:=mpp k Y;have e: -s * -t=s*t:=Int.neg_mul_neg _ _;omega
   ·right;omega
  ·left;omega
 have y:s=L\/t=L:=by
  rcases Int.lt_or_le s L with k|k
  ·rcases Int.lt_or_le t L with Y|Y
   ·have:=mpp (show 0<L-s by omega) (show 0<L-t by omega);omega
   ·right;omega
  ·left;omega
 rcases z with z|z
 ·rcases y with y|y
  ·omega
  ·exact .inl ⟨jC0 z,jDL y⟩
 ·rcases y with y|y
  ·exact .inr ⟨jCL y,jD0 z⟩
  ·omega
theorem Poly.edge_uniq (Y:Poly P S h m) {i j:Nat} (hi:i<m) (D:j<m) {x y:Int} (hx:x∈S) (hy:y∈S) (hne:P x≠P y)
  (ix:sd (h i) (h ((i+1) % m)) (P x)=0) (iy:sd (h i) (h ((i+1) % m)) (P y)=0) (jx:sd (h j) (h ((j+1) % m)) (P x)=0) (jy:sd (h j) (h ((j+1) % m)) (P y)=0):i=j:=by
 have hi1:(i+1) % m<m:=Nat.mod_lt _ (by omega);have hj1:(j+1) % m<m:=Nat.mod_lt _ (by omega);have col:∀ A B:Pt,sd A B (P x)=0->sd A B (P y)=0->A≠B->sd (P x) (P y) A=0/\sd (P x) (P y) B=0:=by
  intro A B h1 O hAB;have hL:=Za9 hAB;have f1:=Zc8 A B (P x) (P y) A;have f2:=Zc8 A B (P x) (P y) B;rw[h1,O,Yu] at f1;rw[h1,O,Y0] at f2;simp only[Int.sub_self,Int.mul_zero,Int.zero_mul] at f1 f2;exact⟨dz hL f1,dz hL f2⟩
 have I:=col _ _ ix iy (Y.ne hi);have J:=col _ _ jx jy (Y.ne D);have Z:∀ A B C:Pt,sd (P x) (P y) A=0->sd (P x) (P y) B=0->sd (P x) (P y) C=0->sd A B C=0:=by
  intro A B C h1 O h3;have hL:=Za9 hne;have f:=Zc8 (P x) (P y) A B C;rw[h1,O,h3] at f;simp only[Int.sub_self,Int.mul_zero,Int.zero_mul] at f;exact dz hL f
 have at':∀ k l,k<m->l<m->sd (h k) (h ((k+1) % m)) (h l)=0->dt (h k) (h ((k+1) % m)) (h l)<=0:=by
  intro k l hk hl h0;obtain⟨u,hu,e⟩:=Y.mem l hl;rw[<-e] at h0 ⊢;exact (Y.edge k hk u hu).2 h0
 have c1:=Z _ _ _ I.1 I.2 J.1;have c2:=Z _ _ _ I.1 I.2 J.2;have c3:=Z _ _ _ J.1 J.2 I.1;have c4:=Z _ _ _ J.1 J.2 I.2;rcases Zz4 (Y.ne hi) (Y.ne D) c1 c2 (at' i j hi D c1) (at' i _ hi hj1 c2) (at' j i D hi c3) (at' j _ D hi1 c4) with ⟨e,_⟩|⟨e1,e2⟩
 ·exact (Y.inj j i D hi e).symm
 ·exfalso;have q1:=Y.inj j _ D hi1 e1;have q2:=Y.inj _ i hj1 hi e2;have t:=Y.turn i hi;have:(i+2) % m=i:=by
   rw[show i+2=(i+1)+1 by omega,Nat.add_mod,<-q1,<-q2];conv=>rhs;rw[Nat.add_mod,Nat.mod_eq_of_lt D]
  rw[this] at t;have z:sd (h i) (h ((i+1) % m)) (h i)=0:=Yu _ _;omega
end
def Zf {α:Type}(f:α->Int):List α->Int
 | []=>0
 | a :: L=>f a+Zf f L
theorem Zmq {α:Type}(f:α->Int):∀ L M:List α,Zf f (L ++ M)=Zf f L+Zf f M
 | [],M=>by simp[Zf]
 | a :: L,M=>by simp only[List.cons_append,Zf,Zmq f L M];omega
theorem Zd8 {α:Type}{f g:α->Int}:∀ {L:List α},(∀ x∈L,f x=g x)->Zf f L=Zf g L
 | [],_=>rfl
 | a :: L,h=>by simp only[Zf];rw[h a (by simp),Zd8 (fun x e=>h x (by simp[e]))]
theorem Zfp {α:Type}(f g:α->Int):∀ L:List α,Zf (fun x=>f x+g x) L=Zf f L+Zf g L
 | []=>rfl
 | a :: L=>by simp only[Zf,Zfp f g L];omega
theorem Zgk {α:Type}(f:α->Int):∀ L:List α,Zf (fun x=> - f x) L= - Zf f L
 | []=>rfl
 | a :: L=>by simp only[Zf,Zgk f L];omega
theorem Zj3 {α:Type}[DecidableEq α](f:α->Int):∀ (L:List α) (a:α),a∈L->Zf f L=f a+Zf f (L.erase a)
 | [],a,h=>by simp at h
 | b :: L,a,h=>by
  by_cases e:b=a
  ·subst e;simp[Zf]
  ·have D:a∈L:=by
    rcases List.mem_cons.1 h with k|k
    ·exact absurd k.symm e
    ·exact k
   rw[List.erase_cons_tail (by simpa using e)];simp only[Zf,Zj3 f L a D];omega
theorem Zcb {α β:Type}{f:α->Int}{g:β->Int}(φ:α->β):∀ {L:List α} {M:List β},L.Nodup->M.Nodup->(∀ x∈L,∀ y∈L,φ x=φ y->x=y)->(∀ x∈L,φ x∈M)->(∀ y∈M,∃ x∈L,φ x=y)->(∀ x∈L,f x=g (φ x))->Zf f L=Zf g M:=by
 classical
 intro L;induction L with
 | nil=>
  intro M _ _ _ _ J _;have:M=[]:=by
   cases M with
   | nil=>rfl
   | cons y M=>obtain⟨x,D,_⟩:=J y (by simp);simp at D
  subst this;rfl
 | cons a L ih=>
  intro M hL Y hi O J Z;have aa:=List.nodup_cons.1 hL;have ha:φ a∈M:=O a (by simp);rw[Zj3 g M (φ a) ha];simp only[Zf];rw[Z a (by simp)];congr 1;refine ih aa.2 (Y.erase _) (fun x D y I=>hi x (by simp[D]) y (by simp[I])) ?_ ?_ (fun x D=>Z x (by simp[D]))
  ·intro x D;have hne:φ x≠φ a:=fun e=>aa.1 (hi x (by simp[D]) a (by simp) e ▸ D)
   exact (List.mem_erase_of_ne hne).2 (O x (by simp[D]))
  ·intro y I;have hy':=List.mem_of_mem_erase I;obtain⟨x,D,e⟩:=J y hy';rcases List.mem_cons.1 D with k|k
   ·subst k;rw[<-e] at I;exact absurd I (Y.not_mem_erase)
   ·exact⟨x,k,e⟩
theorem Zj4 {α:Type}(f:α->Int)(p:α->Bool):∀ L:List α,Zf f L=Zf f (L.filter p)+Zf f (L.filter (fun x=> ! p x))
 | []=>rfl
 | a :: L=>by
  have:=Zj4 f p L;by_cases h:p a
  ·simp[h,Zf];omega
  ·simp[h,Zf];omega
theorem Zmr {α:Type}(f:α->Int)(p q r:α->Bool):∀ L:List α,(∀ x∈L,(p x=true/\q x=false/\r x=false)\/(p x=false/\q x=true/\r x=false)\/(p x=false/\q x=false/\r x=true))->
  Zf f L=Zf f (L.filter p)+Zf f (L.filter q)+Zf f (L.filter r)
 | [],_=>rfl
 | a :: L,h=>by
  have D:=Zmr f p q r L (fun x e=>h x (by simp[e]));rcases h a (by simp) with ⟨h1,h2,h3⟩|⟨h1,h2,h3⟩|⟨h1,h2,h3⟩ <;> simp[h1,h2,h3,Zf] <;> omega
theorem Zms {α:Type}{f:α->Int}:∀ {L:List α},(∀ x∈L,f x=0)->Zf f L=0
 | [],_=>rfl
 | a :: L,h=>by simp only[Zf];rw[h a (by simp),Zms (fun x e=>h x (by simp[e]))];rfl
theorem Zmt {α:Type}{f:α->Int}:∀ {L:List α} {a:α},L.Nodup->a∈L->(∀ x∈L,x≠a->f x=0)->Zf f L=f a
 | [],a,_,h,_=>by simp at h
 | b :: L,a,hn,h,hz=>by
  have I:=List.nodup_cons.1 hn;simp only[Zf];by_cases e:b=a
  ·subst e;rw[Zms (fun x D=>hz x (by simp[D]) (fun e=>I.1 (e ▸ D)))];omega
  ·have J:a∈L:=by
    rcases List.mem_cons.1 h with k|k
    ·exact absurd k.symm e
    ·exact k
   rw[hz b (by simp) e,Zmt I.2 J (fun x D=>hz x (by simp[D]))];omega
theorem Zri {α:Type}(f:α->Int)(m:Nat)(p:Nat->α->Bool):∀ L:List α,(∀ x∈L,∃ i,i<m/\p i x=true/\∀ j,j<m->p j x=true->j=i)->Zf f L=Zf (fun i=>Zf f (L.filter (p i))) (List.range m)
 | [],_=>(Zms (L:=List.range m) (f:=fun i=>Zf f (List.filter (p i) [])) (fun i _=>rfl)).symm
 | a :: L,h=>by
  have D:=Zri f m p L (fun x Y=>h x (by simp[Y]));obtain⟨i,hi,O,I⟩:=h a (by simp);have e:Zf (fun i=>Zf f ((a :: L).filter (p i))) (List.range m)=Zf (fun i=>(if p i a=true then f a else 0)+Zf f (L.filter (p i))) (List.range m):=by
   refine Zd8 (fun j _=>?_);by_cases k:p j a=true
   ·simp[k,Zf]
   ·simp[k,Zf]
  rw[e,Zfp,<-D];simp only[Zf];congr 1;rw[Zmt (a:=i) List.nodup_range (List.mem_range.2 hi)]
  ·rw[if_pos O]
  ·intro j J Z;rw[if_neg (fun k=>Z (I j (List.mem_range.1 J) k))]
def cr (u v:Pt):Int:=u.1*v.2-u.2*v.1
theorem Zgl (u v:Pt):cr u v= - cr v u:=by unfold cr;grind
theorem Zmu (x y z:Pt):sd x y z=cr x y+cr y z+cr z x:=by unfold sd cr;grind
def fan (h:Nat->Pt):Nat->Int
 | 0=>0
 | k+1=>fan h k+(if 2<=k then sd (h 0) (h (k-1)) (h k) else 0)
theorem Zz5 (h:Nat->Pt):∀ k,k<=2->fan h k=0:=by
 intro k e;match k,e with
 | 0,_=>rfl
 | 1,_=>rfl
 | 2,_=>rfl
theorem Zrj (h:Nat->Pt):∀ k,fan h (k+2)=Zf (fun i=>cr (h i) (h (i+1))) (List.range (k+1))+cr (h (k+1)) (h 0)
 | 0=>by
  rw[Zz5 h 2 (by omega)];simp only[Nat.zero_add,List.range_one,Zf];have:=Zgl (h 0) (h 1);omega
 | k+1=>by
  have e:=Zrj h k;rw[List.range_succ,Zmq];simp only[Zf];show fan h (k+2)+(if 2<=k+2 then sd (h 0) (h (k+2-1)) (h (k+2)) else 0)=_
  rw[e,if_pos (by omega),show k+2-1=k+1 by omega,Zmu];have:=Zgl (h 0) (h (k+1));simp only[show k+1+1=k+2 by omega];omega
section
variable {P:Int->Pt} {S:List Int} {a b c:Int} {Tr:Int->Int->Int->Prop} {h:Nat->Pt} {m:Nat}
open Classical
theorem Zz6 (e:3<=m):fan h m=Zf (fun i=>cr (h i) (h ((i+1) % m))) (List.range m):=by
 obtain⟨k,rfl⟩:∃ k,m=k+2:=⟨m-2,by omega⟩;rw[Zrj,List.range_succ (n:=k+1),Zmq];simp only[Zf];rw[show k+1+1=k+2 by omega,Nat.mod_self];have:Zf (fun i=>cr (h i) (h ((i+1) % (k+2)))) (List.range (k+1))=Zf (fun i=>cr (h i) (h (i+1))) (List.range (k+1)):=by
  refine Zd8 (fun i hi=>?_);rw[Nat.mod_eq_of_lt (by have:=List.mem_range.1 hi;omega)]
 rw[this];omega
theorem NetOf.area_ts (N:NetOf P S a b c Tr) (hS:S.Nodup) (ts:List (Int×Int×Int)) (hts:ts.Nodup) (hmem:∀ x y z,(x,y,z)∈ts↔Tr x y z/\0<=x/\x<y/\x<z)
  (G:List (Int×Int)) (hG:G.Nodup) (hGm:∀ x y,(x,y)∈G↔Tr x y (-1)) :
  Zf (fun t=>sd (P t.1) (P t.2.1) (P t.2.2)) ts=Zf (fun q=>cr (P q.2) (P q.1)) G:=by
 have hA:=Zj2 (Tr:=Tr) hS;have hP:=Zgi hS;have hT:∀ x y z,(x,y,z)∈ts->Tr x y z/\x∈S/\y∈S/\z∈S/\x<y/\x<z:=by
  intro x y z Y;obtain⟨t,h0,h1,Z⟩:=(hmem x y z).1 Y;exact⟨t,N.mem t h0,N.mem (N.rot t) (by omega),N.mem (N.rot (N.rot t)) (by omega),h1,Z⟩
 have e1:Zf (fun t:Int×Int×Int=>cr (P t.1) (P t.2.1)) (Xh S Tr)=Zf (fun t:Int×Int×Int=>sd (P t.1) (P t.2.1) (P t.2.2)) ts:=by
  rw [Zmr _ (fun t : Int × Int × Int => decide (t ∈ ts)) (fun t => decide ((t.2.1, t.2.2, t.1) ∈ ts)) (fun t => decide ((t.2.2, t.1, t.2.1) ∈ ts)) (Xh S Tr) (by
    rintro ⟨x, y, z⟩ Y
    obtain ⟨t, I, hy, hz⟩ := Yz.1 Y
    obtain ⟨n1, n2, n3⟩ := N.ne3 t
    have h0 := N.nn x I
    have h1 := N.nn y hy
    have Z := N.nn z hz
    have t2 := N.rot t
    have t3 := N.rot t2
    simp only [decide_eq_true_eq, decide_eq_false_iff_not, hmem]
    by_cases k1 : x < y <;> by_cases k2 : x < z <;> by_cases k3 : y < z
    · exact .inl ⟨⟨t, h0, k1, k2⟩, fun r => by omega, fun r => by omega⟩
    · exact .inl ⟨⟨t, h0, k1, k2⟩, fun r => by omega, fun r => by omega⟩
    · omega
    · exact .inr (.inr ⟨fun r => by omega, fun r => by omega, ⟨t3, Z, by omega, by omega⟩⟩)
    · exact .inr (.inl ⟨fun r => by omega, ⟨t2, h1, by omega, by omega⟩, fun r => by omega⟩)
    · omega
    · exact .inr (.inl ⟨fun r => by omega, ⟨t2, h1, by omega, by omega⟩, fun r => by omega⟩)
    · exact .inr (.inr ⟨fun r => by omega, fun r => by omega, ⟨t3, Z, by omega, by omega⟩⟩))]
  have p1:Zf (fun t:Int×Int×Int=>cr (P t.1) (P t.2.1)) ((Xh S Tr).filter (fun t=>decide (t∈ts)))=Zf (fun t:Int×Int×Int=>cr (P t.1) (P t.2.1)) ts:=by
   refine Zcb id (hA.filter _) hts (fun _ _ _ _ e=>e) ?_ ?_ (fun _ _=>rfl)
   ·intro t D;rw[List.mem_filter,decide_eq_true_eq] at D;exact D.2
   ·rintro⟨x,y,z⟩ D;have:=hT x y z D;refine⟨(x,y,z),?_,rfl⟩;rw[List.mem_filter,decide_eq_true_eq];exact⟨Yz.2 ⟨this.1,this.2.1,this.2.2.1,this.2.2.2.1⟩,D⟩
  have p2:Zf (fun t:Int×Int×Int=>cr (P t.1) (P t.2.1)) ((Xh S Tr).filter (fun t=>decide ((t.2.1,t.2.2,t.1)∈ts)))=Zf (fun t:Int×Int×Int=>cr (P t.2.2) (P t.1)) ts:=by
   refine Zcb (fun t=>(t.2.1,t.2.2,t.1)) (hA.filter _) hts ?_ ?_ ?_ (fun _ _=>rfl)
   ·rintro⟨x,y,z⟩ _ ⟨x',y',z'⟩ _ e;simp at e ⊢;omega
   ·intro t D;rw[List.mem_filter,decide_eq_true_eq] at D;exact D.2
   ·rintro⟨x,y,z⟩ D;have:=hT x y z D;refine⟨(z,x,y),?_,rfl⟩;rw[List.mem_filter,decide_eq_true_eq];exact⟨Yz.2 ⟨N.rot (N.rot this.1),this.2.2.2.1,this.2.1,this.2.2.1⟩,D⟩
  have p3:Zf (fun t:Int×Int×Int=>cr (P t.1) (P t.2.1)) ((Xh S Tr).filter (fun t=>decide ((t.2.2,t.1,t.2.1)∈ts)))=Zf (fun t:Int×Int×Int=>cr (P t.2.1) (P t.2.2)) ts:=by
   refine Zcb (fun t=>(t.2.2,t.1,t.2.1)) (hA.filter _) hts ?_ ?_ ?_ (fun _ _=>rfl)
   ·rintro⟨x,y,z⟩ _ ⟨x',y',z'⟩ _ e;simp at e ⊢;omega
   ·intro t D;rw[List.mem_filter,decide_eq_true_eq] at D;exact D.2
   ·rintro⟨x,y,z⟩ D;have:=hT x y z D;refine⟨(y,z,x),?_,rfl⟩;rw[List.mem_filter,decide_eq_true_eq];exact⟨Yz.2 ⟨N.rot this.1,this.2.2.1,this.2.2.2.1,this.2.1⟩,D⟩
  rw[p1,p2,p3,<-Zfp,<-Zfp];refine Zd8 (fun t _=>?_);rw[Zmu];omega
 generalize hDEe:(Zae S).filter (fun q=>decide (∃ x,Tr q.1 q.2 x))=J;have hDEn:J.Nodup:=by rw[<-hDEe];exact hP.filter _
 have O:∀ v w,(v,w)∈J↔(v∈S/\w∈S)/\∃ x,Tr v w x:=by
  intro v w;rw[<-hDEe,List.mem_filter,decide_eq_true_eq,Zd7]
 have e2:Zf (fun q:Int×Int=>cr (P q.1) (P q.2)) J=0:=by
  have:Zf (fun q:Int×Int=>cr (P q.1) (P q.2)) J=Zf (fun q:Int×Int=> - cr (P q.1) (P q.2)) J:=by
   refine Zcb (fun q=>(q.2,q.1)) hDEn hDEn ?_ ?_ ?_ ?_
   ·rintro⟨v,w⟩ _ ⟨v',w'⟩ _ e;simp at e ⊢;omega
   ·rintro⟨v,w⟩ Y;obtain⟨⟨hv,hw⟩,x,I⟩:=(O v w).1 Y;exact (O w v).2 ⟨⟨hw,hv⟩,N.pair I⟩
   ·rintro⟨v,w⟩ Y;obtain⟨⟨hv,hw⟩,x,I⟩:=(O v w).1 Y;exact⟨(w,v),(O w v).2 ⟨⟨hw,hv⟩,N.pair I⟩,rfl⟩
   ·rintro⟨v,w⟩ _;exact Zgl _ _
  rw[Zgk] at this;omega
 have e3:=Zj4 (fun q:Int×Int=>cr (P q.1) (P q.2)) (fun q:Int×Int=>decide (∃ x∈S,Tr q.1 q.2 x)) J;have b6:Zf (fun t:Int×Int×Int=>cr (P t.1) (P t.2.1)) (Xh S Tr)=Zf (fun q:Int×Int=>cr (P q.1) (P q.2)) (J.filter (fun q:Int×Int=>decide (∃ x∈S,Tr q.1 q.2 x))):=by
  refine Zcb (fun t=>(t.1,t.2.1)) hA (hDEn.filter _) ?_ ?_ ?_ (fun _ _=>rfl)
  ·rintro⟨x,y,z⟩ h ⟨x',y',z'⟩ h' e;have h:=Yz.1 h;have h':=Yz.1 h';simp at e;obtain⟨rfl,rfl⟩:=e;rw[N.fn h.1 h'.1]
  ·rintro⟨x,y,z⟩ h;obtain⟨t,I,hy,hz⟩:=Yz.1 h;rw[List.mem_filter,decide_eq_true_eq,O];exact⟨⟨⟨I,hy⟩,z,t⟩,z,hz,t⟩
  ·rintro⟨v,w⟩ h;rw[List.mem_filter,decide_eq_true_eq,O] at h;obtain⟨⟨⟨hv,hw⟩,_⟩,x,I,t⟩:=h;exact⟨(v,w,x),Yz.2 ⟨t,hv,hw,I⟩,rfl⟩
 have b7:Zf (fun q:Int×Int=>cr (P q.1) (P q.2)) (J.filter (fun q:Int×Int=> ! decide (∃ x∈S,Tr q.1 q.2 x)))=Zf (fun q:Int×Int=>cr (P q.1) (P q.2)) G:=by
  refine Zcb id (hDEn.filter _) hG (fun _ _ _ _ e=>e) ?_ ?_ (fun _ _=>rfl)
  ·rintro⟨v,w⟩ h;rw[List.mem_filter,O] at h;simp only[Bool.not_eq_true',decide_eq_false_iff_not] at h;obtain⟨⟨⟨hv,hw⟩,x,I⟩,Z⟩:=h;rcases N.lab (N.rot (N.rot I)) with e|e
   ·subst e;exact (hGm v w).2 I
   ·exact absurd ⟨x,e,I⟩ Z
  ·rintro⟨v,w⟩ h;have h:=(hGm v w).1 h;have hm:=N.ghost_mem h;refine⟨(v,w),?_,rfl⟩;rw[List.mem_filter,O];simp only[Bool.not_eq_true',decide_eq_false_iff_not];refine⟨⟨hm,-1,h⟩,?_⟩;rintro⟨x,I,t⟩;have:=N.fn t h;have:=N.nn x I;omega
 have e4:Zf (fun q:Int×Int=>cr (P q.2) (P q.1)) G= - Zf (fun q:Int×Int=>cr (P q.1) (P q.2)) G:=by
  rw[<-Zgk];refine Zd8 (fun q _=>?_);exact Zgl _ _
 omega
theorem NetOf.area_G (N:NetOf P S a b c Tr)(hS:S.Nodup)(Y:Poly P S h m)(G:List (Int×Int))(hG:G.Nodup)(hGm:∀ x y,(x,y)∈G↔Tr x y (-1)) :
  Zf (fun q=>cr (P q.2) (P q.1)) G=fan h m:=by
 rw[Zz6 Y.three]
 rw [Zri _ m (fun i q => decide (sd (h i) (h ((i + 1) % m)) (P q.1) = 0 ∧ sd (h i) (h ((i + 1) % m)) (P q.2) = 0)) G (by
   rintro ⟨x, y⟩ Z
   have ht := (hGm x y).1 Z
   obtain ⟨hx, hy⟩ := N.ghost_mem ht
   have hne : P x ≠ P y := fun e => N.ne12 ht (N.inj x hx y hy e)
   obtain ⟨i, hi, I, h2⟩ := N.on_edge Y ht
   refine ⟨i, hi, by simp [I, h2], fun j hj hh => ?_⟩
   simp only [decide_eq_true_eq] at hh
   exact Y.edge_uniq hj hi hx hy hne hh.1 hh.2 I h2)]
 refine Zd8 (fun i hi=>?_);have hi:=List.mem_range.1 hi;have hi1:(i+1) % m<m:=Nat.mod_lt _ (by omega);generalize O:h i=A;generalize J:h ((i+1) % m)=B;have hAB:A≠B:=by rw[<-O,<-J];exact Y.ne hi
 have mG:∀ x y,(x,y)∈G.filter (fun q:Int×Int=>decide (sd A B (P q.1)=0/\sd A B (P q.2)=0))↔Tr x y (-1)/\sd A B (P x)=0/\sd A B (P y)=0:=by
  intro x y;rw[List.mem_filter,decide_eq_true_eq,hGm]
 generalize hGi:G.filter (fun q:Int×Int=>decide (sd A B (P q.1)=0/\sd A B (P q.2)=0))=Gi at mG;have hGin:Gi.Nodup:=by rw[<-hGi];exact hG.filter _
 have t1:Zf (fun q:Int×Int=>cr (P q.2) (P q.1)) Gi=Zf (fun q:Int×Int=>cr A (P q.1)) Gi-Zf (fun q:Int×Int=>cr A (P q.2)) Gi:=by
  have:Zf (fun q:Int×Int=>cr (P q.2) (P q.1)) Gi=Zf (fun q:Int×Int=>cr A (P q.1) + - cr A (P q.2)) Gi:=by
   refine Zd8 ?_;rintro⟨x,y⟩ Z;obtain⟨_,I,h2⟩:=(mG x y).1 Z;have z:sd (P x) (P y) A=0:=by
    have f:=Zc8 A B (P x) (P y) A;rw[I,h2,Yu] at f;simp only[Int.sub_self,Int.mul_zero,Int.zero_mul] at f;exact dz (Za9 hAB) f
   rw[Zmu] at z;have s1:=Zgl (P y) (P x);have s2:=Zgl (P y) A;dsimp only
   omega
  rw[this,Zfp,Zgk];omega
 generalize hSi:S.filter (fun u=>decide (sd A B (P u)=0))=Si;have mS:∀ u,u∈Si↔u∈S/\sd A B (P u)=0:=by intro u;rw[<-hSi,List.mem_filter,decide_eq_true_eq]
 have hSin:Si.Nodup:=by rw[<-hSi];exact hS.filter _
 have one:∀ C:Pt,sd A B C=0->(∃ u∈S,P u=C)->Zf (fun u=>cr A (P u)) Si=cr A C+Zf (fun u=>cr A (P u)) (Si.filter (fun u=> ! decide (P u=C))):=by
  intro C hC D;obtain⟨u,D,e⟩:=D;rw[Zj4 _ (fun u=>decide (P u=C)) Si];congr 1;rw[Zmt (a:=u) (hSin.filter _)]
  ·rw[e]
  ·rw[List.mem_filter,decide_eq_true_eq,mS,e];exact⟨⟨D,hC⟩,rfl⟩
  ·intro v hv hne;rw[List.mem_filter,decide_eq_true_eq,mS] at hv;exact absurd (N.inj v hv.1.1 u D (hv.2.trans e.symm)) hne
 have oA:=one A (Yu _ _) (by obtain⟨u,D,e⟩:=Y.mem i hi;exact⟨u,D,e.trans O⟩);have oB:=one B (Y0 _ _) (by obtain⟨u,D,e⟩:=Y.mem _ hi1;exact⟨u,D,e.trans J⟩);have zA:cr A A=0:=by unfold cr;grind
 have t2:Zf (fun q:Int×Int=>cr A (P q.1)) Gi=Zf (fun u=>cr A (P u)) (Si.filter (fun u=> ! decide (P u=A))):=by
  refine Zcb (fun q=>q.1) hGin (hSin.filter _) ?_ ?_ ?_ (fun _ _=>rfl)
  ·rintro⟨x,y⟩ Z ⟨x',y'⟩ hq' e;have k:=((mG x y).1 Z).1;have k':=((mG x' y').1 hq').1;dsimp only at e
   subst e;rw[N.fn (N.rot (N.rot k)) (N.rot (N.rot k'))]
  ·rintro⟨x,y⟩ Z;obtain⟨k,I,h2⟩:=(mG x y).1 Z;have hd:=N.edge_dir Y hi k (by rw[O,J];exact I) (by rw[O,J];exact h2);obtain⟨hx,hy⟩:=N.ghost_mem k;have r:=Y.tau_range hi hy (by rw[O,J];exact h2);rw[O,J] at hd r;rw[List.mem_filter,mS];simp only[Bool.not_eq_true',decide_eq_false_iff_not];refine⟨⟨hx,I⟩,fun e=>?_⟩;rw[e,Zal] at hd;omega
  ·intro u D;rw[List.mem_filter,mS] at D;simp only[Bool.not_eq_true',decide_eq_false_iff_not] at D;obtain⟨v,hv,I,ht⟩:=N.edge_prev Y hi D.1.1 (by rw[O,J];exact D.1.2) (by rw[O];exact D.2);rw[O,J] at I;exact⟨(u,v),(mG u v).2 ⟨ht,D.1.2,I⟩,rfl⟩
 have t3:Zf (fun q:Int×Int=>cr A (P q.2)) Gi=Zf (fun u=>cr A (P u)) (Si.filter (fun u=> ! decide (P u=B))):=by
  refine Zcb (fun q=>q.2) hGin (hSin.filter _) ?_ ?_ ?_ (fun _ _=>rfl)
  ·rintro⟨x,y⟩ Z ⟨x',y'⟩ hq' e;have k:=((mG x y).1 Z).1;have k':=((mG x' y').1 hq').1;dsimp only at e
   subst e;rw[N.fn (N.rot k) (N.rot k')]
  ·rintro⟨x,y⟩ Z;obtain⟨k,I,h2⟩:=(mG x y).1 Z;have hd:=N.edge_dir Y hi k (by rw[O,J];exact I) (by rw[O,J];exact h2);obtain⟨hx,hy⟩:=N.ghost_mem k;have r:=Y.tau_range hi hx (by rw[O,J];exact I);rw[O,J] at hd r;rw[List.mem_filter,mS];simp only[Bool.not_eq_true',decide_eq_false_iff_not];refine⟨⟨hy,h2⟩,fun e=>?_⟩;rw[e,Zas] at hd;omega
  ·intro u D;rw[List.mem_filter,mS] at D;simp only[Bool.not_eq_true',decide_eq_false_iff_not] at D;obtain⟨v,hv,I,ht⟩:=N.edge_next Y hi D.1.1 (by rw[O,J];exact D.1.2) (by rw[J];exact D.2);rw[O,J] at I;exact⟨(v,u),(mG v u).2 ⟨ht,I,D.1.2⟩,rfl⟩
 have:Zf (fun q:Int×Int=>cr (P q.2) (P q.1)) Gi=cr A B:=by omega
 exact this
end
end Go.Proofs.YtgpapegpdfonpaaGreatDoor
