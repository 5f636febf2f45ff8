/- Part. -/
import Derived.Test.YtgpapegpdfonpaaGreatDoorRefDH
set_option linter.unusedVariables false
set_option linter.unusedSimpArgs false
set_option maxHeartbeats 16000000
set_option maxRecDepth 100000
namespace Go.Proofs.YtgpapegpdfonpaaGreatDoor
open Go.RowKit Go.Proofs.Tryz
open Go.Value(int)
open Go.IntKind(i64)
attribute [local go_sem ↓] Go.wp_at_zero Go.wp_at_succ
theorem Z2h (O J Z D I Y:Int)(w:World) :
  Calls prog 8 #[.agg #[int i64 O,int i64 J],.agg #[int i64 Z,int i64 D],.agg #[int i64 I,int i64 Y]] w fun e w'=>
   e= .returned (.tuple #[int i64 (if (Zc O J || Zc Z D || Zc I Y)=true then 0 else sg (Zk O J Z D I Y)),int i64 (if (Zc O J || Zc Z D || Zc I Y)=true then 1 else 0)])/\Below w.heap.size w w':=by
 cases h:(Zc O J || Zc Z D || Zc I Y) with
 | true=>exact Zut O J Z D I Y w h
 | false=>
  simp only[Bool.or_eq_false_iff] at h;exact Zuu O J Z D I Y w (Xp h.1.1) (Xp h.1.2) (Xp h.2)
theorem Z2i (O J Z D I Y dx dy:Int)(w:World) :
  Calls prog 40 #[.agg #[int i64 O,int i64 J],.agg #[int i64 Z,int i64 D],.agg #[int i64 I,int i64 Y],.agg #[int i64 dx,int i64 dy]] w fun e w'=>
   e= .returned (.tuple #[int i64 (if (Zc O J || Zc Z D || Zc I Y || Zc dx dy)=true then 0 else sg (Zk O J Z D I Y)*sg (Zan O J Z D I Y dx dy)),int i64 (if (Zc O J || Zc Z D || Zc I Y || Zc dx dy)=true then 1 else 0)])/\Below w.heap.size w w':=by
 cases h:(Zc O J || Zc Z D || Zc I Y || Zc dx dy) with
 | true=>exact Zuv O J Z D I Y dx dy w h
 | false=>
  simp only[Bool.or_eq_false_iff] at h;exact Zuw O J Z D I Y dx dy w (Xp h.1.1.1) (Xp h.1.1.2) (Xp h.1.2) (Xp h.2)
theorem Zcc (x:Int)(w:World):Calls prog 39 #[int i64 x] w fun e w'=>e= .returned (int i64 x)/\w'=w:=by
 go_enter func39,ntmps39;go_wp2
 go_ret;exact⟨rfl,rfl⟩
def Ans (l:List Pt)(c:List Nat):Prop:=(c=[]/\(Zw l≠0\/l=[]))\/(Zw l=0/\0<l.length/\∃ is,InOrder l is/\c=Xg l is)
theorem Ans.le {l:List Pt}{c:List Nat}(h:Ans l c):c.length<=60:=by
 rcases h with ⟨rfl,_⟩|⟨D,_,is,I,rfl⟩
 ·simp
 ·obtain⟨O,J,e⟩:=Zf7 D;have:=(Zhl I e).le;omega
theorem Zkf (w:World)(e:Nat):w.ownsRow e 3 1 (.slice none 0 0) ([]:List Nat).length (([]:List Nat).map toV):=World.ownsRow_nil _ _ _ _
theorem Z2j (a:Option Addr)(cap:Nat)(l:List Pt)(w:World)(Y:Z0 w a l) :
  Calls prog 43 #[.slice a l.length cap] w fun e w'=>∃ v c,e= .returned (.tuple #[v,int i64 (Zw l)])/\Ans l c/\w'.ownsRow w.heap.size 3 1 v c.length (c.map toV)/\Below w.heap.size w w':=by
 by_cases h60:60<l.length
 ·refine (Zvx a l.length cap w h60).mono ?_;rintro e w' ⟨rfl,D⟩;have I:Zw l=2:=Zlw h60;exact⟨_,[],by rw[I],.inl ⟨rfl,.inl (by rw[I];decide)⟩,Zkf _ _,D⟩
 ·by_cases J:l=[]
  ·subst J;refine (Zv8 a cap w).mono ?_;rintro e w' ⟨v,rfl,O,D⟩;exact⟨v,[],rfl,.inl ⟨rfl,.inr rfl⟩,O,D⟩
  ·have hlp:0<l.length:=List.length_pos_iff.2 J;rcases Y with Y|⟨b,Z,rfl,D,hp⟩
   ·exact absurd Y J
   ·by_cases I:Zw l=0
    ·refine (Zv0 b Z cap l (l.length-1) w (by omega) D hp I).mono ?_;rintro e w' ⟨v,is,rfl,hio,O,D⟩;exact⟨v,Xg l is,by rw[I],.inr ⟨I,hlp,is,hio,rfl⟩,O,D⟩
    ·refine (Zvy b Z cap l (l.length-1) w (by omega) (by omega) D hp I).mono ?_;rintro e w' ⟨rfl,D⟩;exact⟨_,[],rfl,.inl ⟨rfl,.inl I⟩,Zkf _ _,D⟩
theorem Z2k (a:Option Addr)(cap:Nat)(l:List Pt)(c:List Nat)(w:World)(O:Z0 w a l)(hA:Ans l c) :
  Calls prog 44 #[.slice a l.length cap] w fun e w'=>∃ v,e= .returned (.tuple #[v,int i64 (Zw l)])/\w'.ownsRow w.heap.size 3 1 v c.length (c.map toV)/\Below w.heap.size w w':=by
 rcases hA with ⟨rfl,I⟩|⟨I,hlp,is,hio,rfl⟩
 ·by_cases J:Zw l=0
  ·have:l=[]:=I.resolve_left (fun h=>h J);subst this;refine (Zxb a cap w).mono ?_;rintro e w' ⟨rfl,D⟩;exact⟨_,rfl,Zkf _ _,D⟩
  ·refine (Zxa a cap l w O J).mono ?_;rintro e w' ⟨rfl,D⟩;exact⟨_,rfl,Zkf _ _,D⟩
 ·rcases O with rfl|⟨b,Y,rfl,D,hp⟩
  ·simp at hlp
  ·refine (Zxg b Y cap l is (l.length-1) w (by omega) D hp I hio).mono ?_;rintro e w' ⟨v,rfl,Z,D⟩;exact⟨v,by rw[I],Z,D⟩
abbrev Xj (kd n O ax J bx e I cy dx dy:Int)(Z:Option Addr)(ln Y:Nat)(ta:Option Addr)(D tc:Nat)(s:ByteArray):Value:=
 .agg #[int i64 kd,int i64 n,int i64 O,int i64 ax,int i64 J,int i64 bx,int i64 e,int i64 I,int i64 cy,int i64 dx,int i64 dy,.slice Z ln Y,.slice ta D tc,.string s]
theorem Zcd {w I:World}{D:Array Value}{T:TypeId}(J:Below (w.alloc (.cells D T)).heap.size (w.alloc (.cells D T)) I)(j:Nat):I.cell? ⟨w.heap.size,j,none⟩=D[j]? :=by
 rw[J.cell (p:=⟨w.heap.size,j,none⟩) (by simp)];have e:=heap_alloc_new w (.cells D T);simp only[World.cell?,e];simp
theorem Zsd {w e D:World}{o:Obj}(O:Below (w.alloc o).heap.size (w.alloc o) e)(J:Below e.heap.size e D):Below w.heap.size w D:=by
 have I:=(Zb w o).trans (O.mono (by simp));exact I.trans (J.mono I.size)
theorem Z2l (WB:Nat)(n wh I Y O aa D Z dx dy:Int)(la:Option Addr)(ln lc:Nat)(ta:Option Addr)(tn tc:Nat)(s:ByteArray)(w:World) :
  Calls prog 19 #[.pointer (some ⟨WB,0,none⟩),Xj 1 n wh I Y O aa D Z dx dy la ln lc ta tn tc s] w fun e w'=>e= .returned (.bool true)/\Below w.heap.size w w':=by
 have FP:=fun W=>Z2h I Y O aa D Z W
 have FR:=fun W=>Zw2 I Y O aa D Z W
 generalize (if (Zc I Y || Zc O aa || Zc D Z)=true then 0 else sg (Zk I Y O aa D Z))=r at *
 generalize (if (Zc I Y || Zc O aa || Zc D Z)=true then (1:Int) else 0)=f at *
 go_enter func19,ntmps19
 go_wp2_with (first
   | (go_at_call 8; refine (FP _).mono ?_; rintro e w1 ⟨rfl, J⟩
      have c3 : w1.cell? ⟨w.heap.size, 3, none⟩ = some (int i64 I) := Zcd J 3
      have c4 : w1.cell? ⟨w.heap.size, 4, none⟩ = some (int i64 Y) := Zcd J 4
      have c5 : w1.cell? ⟨w.heap.size, 5, none⟩ = some (int i64 O) := Zcd J 5
      have c6 : w1.cell? ⟨w.heap.size, 6, none⟩ = some (int i64 aa) := Zcd J 6
      have c7 : w1.cell? ⟨w.heap.size, 7, none⟩ = some (int i64 D) := Zcd J 7
      have c8 : w1.cell? ⟨w.heap.size, 8, none⟩ = some (int i64 Z) := Zcd J 8)
   | (go_at_call 38; refine (FR _).mono ?_; rintro e w2 ⟨rfl, hb2⟩)
   | (go_at_call 39; refine (Zcc _ _).mono ?_; rintro e w3 ⟨rfl, rfl⟩))
 go_ret;exact⟨rfl,Zsd J hb2⟩
theorem Z2m (WB:Nat)(n wh J Z O by' I cy dx dy:Int)(la:Option Addr)(ln lc:Nat)(ta:Option Addr)(tn tc:Nat)(s:ByteArray)(w:World) :
  Calls prog 19 #[.pointer (some ⟨WB,0,none⟩),Xj 2 n wh J Z O by' I cy dx dy la ln lc ta tn tc s] w fun e w'=>e= .returned (.bool true)/\Below w.heap.size w w':=by
 have FP:=fun W=>Z2i J Z O by' I cy dx dy W
 have FR:=fun W=>Zw3 J Z O by' I cy dx dy W
 generalize (if (Zc J Z || Zc O by' || Zc I cy || Zc dx dy)=true then 0 else sg (Zk J Z O by' I cy)*sg (Zan J Z O by' I cy dx dy))=r at *
 generalize (if (Zc J Z || Zc O by' || Zc I cy || Zc dx dy)=true then (1:Int) else 0)=f at *
 go_enter func19,ntmps19
 go_wp2_with (first
   | (go_at_call 40; refine (FP _).mono ?_; rintro e Y ⟨rfl, D⟩
      have c3 : Y.cell? ⟨w.heap.size, 3, none⟩ = some (int i64 J) := Zcd D 3
      have c4 : Y.cell? ⟨w.heap.size, 4, none⟩ = some (int i64 Z) := Zcd D 4
      have c5 : Y.cell? ⟨w.heap.size, 5, none⟩ = some (int i64 O) := Zcd D 5
      have c6 : Y.cell? ⟨w.heap.size, 6, none⟩ = some (int i64 by') := Zcd D 6
      have c7 : Y.cell? ⟨w.heap.size, 7, none⟩ = some (int i64 I) := Zcd D 7
      have c8 : Y.cell? ⟨w.heap.size, 8, none⟩ = some (int i64 cy) := Zcd D 8
      have c9 : Y.cell? ⟨w.heap.size, 9, none⟩ = some (int i64 dx) := Zcd D 9
      have c10 : Y.cell? ⟨w.heap.size, 10, none⟩ = some (int i64 dy) := Zcd D 10)
   | (go_at_call 41; refine (FR _).mono ?_; rintro e w2 ⟨rfl, hb2⟩)
   | (go_at_call 39; refine (Zcc _ _).mono ?_; rintro e w3 ⟨rfl, rfl⟩))
 go_ret;exact⟨rfl,Zsd D hb2⟩
def Zgt (WB:Nat)(w:World)(a:Option Addr)(l:List Pt):Prop:=l=[]\/∃ b e,a=some ⟨b,e,none⟩/\b<WB/\Zp w b e l
theorem Zgt.below {WB:Nat}{w w':World}{a:Option Addr}{l:List Pt}(h:Zgt WB w a l)(J:Below WB w w'):Zgt WB w' a l:=by
 rcases h with h|⟨b,I,e,D,O⟩
 ·exact .inl h
 ·exact .inr ⟨b,I,e,D,O.below J D⟩
theorem Z2.raw {w:World}{g:Nat}{l:List Pt}(h:Z2 w g (l ++ Yl 8)):Z0 w (some ⟨g,0,none⟩) l:=by
 refine .inr ⟨g,0,rfl,h.lt,fun j e=>?_⟩;have:=h.pts j (by simp;omega);rwa [Zqj e] at this
end Go.Proofs.YtgpapegpdfonpaaGreatDoor
namespace Go.Proofs.YtgpapegpdfonpaaGreatDoor
open Go.RowKit Go.Proofs.Tryz
attribute [local go_sem ↓] Go.wp_at_zero Go.wp_at_succ
def Bks (w:World)(WB:Nat)(v0:Value)(tag:Nat->Nat)(N:Nat):Prop:=∃ sh nk,Bk w WB v0 tag sh nk/\(∀ j,j<3->(sh j).ls.length=(sh j).ms.length/\(sh j).ls.length<=4*N)/\nk<=2*N
def BkF (WB:Nat)(tag:Nat->Nat):Nat->Prop:=fun k=>k=WB\/(tag k≠0/\tag k<=3)
def Yp (WB:Nat)(v0:Value)(N:Nat)(tag:Nat->Nat)(w w':World):Prop:=∃ tag',Bks w' WB v0 tag' (N+1)/\Ye w tag tag'/\Chg (BkF WB tag) w w'
section
variable {w w' w4 w5:World} {WB N M:Nat} {v0:Value} {tag:Nat->Nat}
theorem Bks.more (h:Bks w WB v0 tag N)(J:N<=M):Bks w WB v0 tag M:=by
 obtain⟨sh,nk,I,e,O⟩:=h;exact⟨sh,nk,I,fun j D=>⟨(e j D).1,by have:=(e j D).2;omega⟩,by omega⟩
theorem Bks.below (h:Bks w WB v0 tag N)(D:Below w.heap.size w w'):Bks w' WB v0 tag N:=by
 obtain⟨sh,nk,I,e⟩:=h;exact⟨sh,nk,I.below D,e⟩
theorem Bks.chg {F:Nat->Prop}(h:Bks w WB v0 tag N)(I:Chg F w w')(D:∀ k,F k->k<w.heap.size->tag k=0\/4<tag k):Bks w' WB v0 tag N:=by
 obtain⟨sh,nk,J,e⟩:=h;exact⟨sh,nk,J.chg I D,e⟩
theorem Bks.lt (h:Bks w WB v0 tag N):WB<w.heap.size:=by
 obtain⟨sh,nk,e,D⟩:=h;exact e.ltW
theorem Bks.low (h:Bks w WB v0 tag N):∀ k,k<WB->tag k=0:=by
 obtain⟨sh,nk,e,D⟩:=h;exact e.low
theorem Bks.tlt (h:Bks w WB v0 tag N):∀ k,tag k≠0->k<w.heap.size:=by
 obtain⟨sh,nk,e,D⟩:=h;exact e.lt
theorem Bks.cell0 (h:Bks w WB v0 tag N):w.cell? ⟨WB,0,none⟩=some v0:=by
 obtain⟨sh,nk,e,D⟩:=h;exact e.cells.1
theorem Yp.of_below (h:Bks w WB v0 tag N)(e:Below w.heap.size w w'):Yp WB v0 N tag w w':=
 ⟨tag,(h.below e).more (by omega),fun _ _=>rfl,Chg.of_below e⟩
theorem Yp.low (h:Yp WB v0 N tag w w')(D:Bks w WB v0 tag N):Below WB w w':=by
 obtain⟨tag',_,_,I⟩:=h;refine I.below (Nat.le_of_lt D.lt) fun k J e=>?_
 have:=D.low k J;rcases e with e|⟨e,_⟩ <;> omega
theorem Yp.pre {o:Obj}(h:Yp WB v0 N tag (w.alloc o) w'):Yp WB v0 N tag w w':=by
 obtain⟨tag',D,e,I⟩:=h;exact⟨tag',D,fun k J=>e k (by simp;omega),(Chg.of_below (F:=BkF WB tag) (Zb w o)).trans I fun _ _ h=>h⟩
theorem X8.after {j nk:Nat} {sh:Nat->Sh} {v:Value} (I:X8 j WB v0 tag sh nk v w4 w5) (hj:j<3) (O:Bk w WB v0 tag sh nk) (D:∀ j,j<3->(sh j).ls.length=(sh j).ms.length/\(sh j).ls.length<=4*N) (hnk:nk<=2*N)
  (hb:Below w.heap.size w w4) (hv:∀ g,v.ownBlock=some g->w.heap.size<=g) :
  ∃ tag',Bks w5 WB v0 tag' (N+1)/\Ye w tag tag'/\Chg (BkF WB tag) w w5/\∀ k,k<w4.heap.size->w.heap.size<=k->some k≠v.ownBlock->w5.heap[k]? =w4.heap[k]? /\tag' k=0:=by
 obtain⟨tag',sh',hB',hoth,ac,hl2,ab,Y⟩:=I;have I:=O.ltW;refine⟨tag',⟨sh',nk+1,hB',fun i hi=>?_,by omega⟩,fun k Z=>ab k (L3 Z hb.size) fun e=>by have:=hv k e.symm;omega,(Chg.of_below (F:=BkF WB tag) hb).trans Y fun i hi h=>?_,fun k J Z aa=>?_⟩
 ·by_cases e:i=j
  ·subst e;have:=D i hi;exact⟨ac,by omega⟩
  ·rw[hoth i e];have:=D i hi;exact⟨this.1,by omega⟩
 ·rcases h with h|h|h
  ·exact .inl h
  ·exact .inr ⟨by omega,by omega⟩
  ·have:=hv i h.symm;omega
 ·have h0:tag k=0:=by
   by_cases h:tag k=0
   ·exact h
   ·have:=O.lt k h;omega
  exact⟨Y.far k J fun h=>by rcases h with h|h|h <;> first|omega|exact aa h,by rw[ab k J aa,h0]⟩
end
def Z24 (l:List Pt)(ts:List T3):Prop:=(ts=[]/\Zw l≠0)\/(Zw l=0/\Xr l ts)
theorem Znh (w:World)(e:Nat):w.ownsRow e 53 3 (.slice none 0 0) ([]:List T3).length (Zj []):=World.ownsRow_nil _ _ _ _
theorem Z25:Xr [] []:=⟨[],⟨by simp,fun i j _ h=>by simp at h⟩,.inl ⟨fun j _ h=>by simp at h,rfl⟩⟩
theorem Zsn (a:Option Addr)(cap:Nat)(l:List Pt)(w:World)(O:Z0 w a l) :
  Calls prog 12 #[.slice a l.length cap] w fun e w'=>∃ v ts,e= .returned (.tuple #[v,.int .i64 (Zw l)])/\Z24 l ts/\w'.ownsRow w.heap.size 53 3 v ts.length (Zj ts)/\ts.length<=4000/\Below w.heap.size w w':=by
 by_cases aa:60<l.length
 ·refine (Z09 a l.length cap w aa).mono ?_;rintro e w' ⟨rfl,D⟩;have I:Zw l=2:=Zlw aa;exact⟨_,[],by rw[I],.inl ⟨rfl,by rw[I];decide⟩,Znh _ _,by simp,D⟩
 ·by_cases J:l=[]
  ·subst J;refine (Z1c a cap w).mono ?_;rintro e w' ⟨rfl,D⟩;exact⟨_,[],rfl,.inr ⟨rfl,Z25⟩,Znh _ _,by simp,D⟩
  ·have hlp:0<l.length:=List.length_pos_iff.2 J;rcases O with O|⟨b,Y,rfl,D,Z⟩
   ·exact absurd O J
   ·by_cases I:Zw l=0
    ·refine (Z1b b Y cap l (l.length-1) w (by omega) D Z I).mono ?_;rintro e w' ⟨v,ts,rfl,ho,hs,hl,D⟩;exact⟨v,ts,by rw[I],.inr ⟨I,hs⟩,ho,hl,D⟩
    ·refine (Z1a b Y cap l (l.length-1) w (by omega) (by omega) D Z I).mono ?_;rintro e w' ⟨rfl,D⟩;exact⟨_,[],rfl,.inl ⟨rfl,I⟩,Znh _ _,by simp,D⟩
theorem Zni (a:Option Addr)(cap:Nat)(w:World):Calls prog 92 #[.slice a 0 cap] w fun e w'=>e= .returned (.bool true)/\w'=w:=by
 go_enter func92,ntmps92;go_wp2
 go_loopw [3] (fun i wr=>i= .int .i64 2/\wr=w) (fun _ _=>0)
 case atStart=>exact⟨rfl,rfl⟩
 case round=>
  obtain⟨rfl,rfl⟩:=hrel;go_wp2
  go_ret;exact⟨rfl,rfl⟩
theorem Znj (a:Option Addr)(n cap:Nat)(ta:Option Addr)(tc:Nat)(w:World)(D:Calls prog 92 #[.slice a n cap] w fun e w'=>e= .returned (.bool true)/\Below w.heap.size w w') :
  Calls prog 49 #[.slice a n cap,.slice ta 0 tc] w fun e w'=>e= .returned (.bool true)/\Below w.heap.size w w':=by
 go_enter func49,ntmps49;go_wp2_with (go_at_call 92;refine D.mono ?_;rintro e J ⟨rfl,I⟩)
 go_ret;exact⟨rfl,I⟩
theorem Z26 (a:Option Addr)(cap base:Nat)(l:List Pt)(ts:List T3)(v:Value)(w:World)(hr:Z0 w a l)(hf:Zw l=0)(Y:Xr l ts)(D:w.ownsRow base 53 3 v ts.length (Zj ts))(htl:ts.length<=4000) :
  Calls prog 49 #[.slice a l.length cap,v] w fun e w'=>e= .returned (.bool true)/\Below w.heap.size w w':=by
 obtain⟨hl,hfar,J⟩:=Zf7 hf;have aa:=Zhh hfar;obtain⟨is,I,Y⟩:=Y;by_cases h0:l=[]
 ·subst h0;have hts:ts=[]:=by
   rcases Y with ⟨_,h⟩|⟨t,p,q,r,O,_⟩
   ·exact h
   ·have h1:=O.off.2.1;have h2:is.length=([]:List Pt).length:=I.len;rw[List.length_nil] at h2;omega
  subst hts;obtain⟨ta,tc,rfl⟩:=Zn D;refine Znj a _ cap ta tc w ((Zni a cap w).mono ?_);rintro e w' ⟨rfl,rfl⟩;exact⟨rfl,Below.refl _ _⟩
 ·rcases hr with hr|⟨b,off,rfl,hb,hp⟩
  ·exact absurd hr h0
  ·rcases Y with ⟨hall,rfl⟩|⟨t,p,q,r,O,hm,hpw⟩
   ·obtain⟨ta,tc,rfl⟩:=Zn D;refine Znj _ _ cap ta tc w ((Zkg b off cap l w hl aa hb hp).mono ?_);rintro e w' ⟨B,rfl,hB,hb'⟩;have:B=true:=hB.2 fun i h2 hi=>Zse I J hall (by omega) (by omega) (by omega) hi
    subst this;exact⟨rfl,hb'⟩
   ·have F:=Zsf I J aa O hm hpw;have hne:0<ts.length:=by
     obtain⟨x,h1,_⟩:=(Zm7 I J aa (Zhl I J) (Zjb I J) O hm hpw).used 0 (List.length_pos_iff.2 h0);exact List.length_pos_of_mem h1
    obtain⟨ta,tc,rfl⟩:=Zn D;obtain⟨g,rfl,hg,_⟩:=Zcw D hne;have hT:Zcr w g ts:=by
     intro j Z;have f0:=Zbs ts j 0 (by omega) Z;have f1:=Zbs ts j 1 (by omega) Z;have f2:=Zbs ts j 2 (by omega) Z;have eg:ts.getD j (0,0,0)=ts[j]:=by simp[Z]
     rw[eg];refine⟨?_,?_,?_⟩
     ·rw[D.cellAt _ (by omega)];exact f0
     ·rw[D.cellAt _ (by omega)];exact f1
     ·rw[D.cellAt _ (by omega)];exact f2
    exact Zsm b off cap g tc l ts w hl aa hb hp hg hT htl F
end Go.Proofs.YtgpapegpdfonpaaGreatDoor
namespace Go.Proofs.YtgpapegpdfonpaaGreatDoor
open Go.RowKit Go.Proofs.Tryz
open Go.Value(int)
open Go.IntKind(i64)
attribute [local go_sem ↓] Go.wp_at_zero Go.wp_at_succ
def X9 (tag:Nat->Nat)(w:World)(a:Option Addr)(l:List Pt):Prop:=l=[]\/∃ b e,a=some ⟨b,e,none⟩/\b<w.heap.size/\tag b=0/\Zp w b e l
theorem X9.raw {tag:Nat->Nat}{w:World}{a:Option Addr}{l:List Pt}(h:X9 tag w a l):Z0 w a l:=by
 rcases h with h|⟨b,D,e,I,_,J⟩
 ·exact .inl h
 ·exact .inr ⟨b,D,e,I,J⟩
theorem X9.below {tag:Nat->Nat}{w w':World}{a:Option Addr}{l:List Pt}(h:X9 tag w a l)(I:Below w.heap.size w w'):X9 tag w' a l:=by
 rcases h with h|⟨b,J,e,D,O,Y⟩
 ·exact .inl h
 ·exact .inr ⟨b,J,e,L3 D I.size,O,Y.below I D⟩
theorem X9.chg {tag:Nat->Nat}{w w':World}{WB:Nat}{a:Option Addr}{l:List Pt}(h:X9 tag w a l)(I:Chg (BkF WB tag) w w')(hW:tag WB=4):X9 tag w' a l:=by
 rcases h with h|⟨b,aa,e,D,Y,J⟩
 ·exact .inl h
 ·have Z:¬ BkF WB tag b:=fun h=>by
   rcases h with h|⟨h,_⟩
   ·subst h;omega
   ·exact h Y
  exact .inr ⟨b,aa,e,L3 D I.size,Y,fun j O=>⟨(I.cell D Z).trans (J j O).1,(I.cell D Z).trans (J j O).2⟩⟩
theorem Zgv {w:World}{D s n:Nat}{e:TypeId}{v:Value}{xs:List Value}(h:w.ownsRow D e s v n xs):∀ g,v.ownBlock=some g->D<=g:=fun g I=>(h.lt g I).1
theorem Zfs {w:World}{I s n k:Nat}{e t:TypeId}{v:Value}{xs:List Value}{J:Array Value}(h:w.ownsRow I e s v n xs)(Y:w.heap[k]? =some (.cells J t (0,0)))(Z:t≠e):some k≠v.ownBlock:=fun O=>by
 obtain⟨aa,D⟩:=Yy h O.symm;exact X7 Y D Z rfl
theorem Z27 (WB N:Nat)(v0:Value)(tag:Nat->Nat)(n wh ax ay bx by' cx cy dx dy:Int)(D:Option Addr)(l:List Pt)(I:Nat)(ta:Option Addr)(tn tc:Nat)(s:ByteArray)(w:World)(h:Bks w WB v0 tag N)(hN:N<=925904528800)(hr:X9 tag w D l)(hl:l.length<=8796093021952) :
  Calls prog 19 #[.pointer (some ⟨WB,0,none⟩),Xj 3 n wh ax ay bx by' cx cy dx dy D l.length I ta tn tc s] w fun e w'=>e= .returned (.bool true)/\Yp WB v0 N tag w w':=by
 obtain⟨sh,nk,hB,hlen,hnk⟩:=h;have hWB:=hB.ltW;have HB:Hid (Bk w WB v0 tag sh nk/\(∀ j,j<3->(sh j).ls.length=(sh j).ms.length/\(sh j).ls.length<=4*N)/\nk<=2*N):=⟨hB,hlen,hnk⟩;have HR:Hid (X9 tag w D l):=hr;have HL:Hid (l.length<=8796093021952):=hl;have l20:(l.length:Int)<=8796093021952:=by omega
 clear hB hlen hnk hr hl;go_enter func19,ntmps19;go_upto_region 10 with fail;have hb0:Below w.heap.size w (w.alloc (.cells #[int i64 3,int i64 n,int i64 wh,int i64 ax,int i64 ay,int i64 bx,int i64 by',int i64 cx,int i64 cy,int i64 dx,int i64 dy,.slice D l.length I,.slice ta tn tc,.string s] 44)):=Zb _ _;have O:∃ J,(w.alloc (.cells #[int i64 3,int i64 n,int i64 wh,int i64 ax,int i64 ay,int i64 bx,int i64 by',int i64 cx,int i64 cy,int i64 dx,int i64 dy,.slice D l.length I,.slice ta tn tc,.string s] 44)).heap[w.heap.size]? =some (.cells J 44 (0,0))/\J[11]? =some (.slice D l.length I):=⟨_,heap_alloc_new _ _,rfl⟩;generalize hW0:w.alloc (.cells #[int i64 3,int i64 n,int i64 wh,int i64 ax,int i64 ay,int i64 bx,int i64 by',int i64 cx,int i64 cy,int i64 dx,int i64 dy,.slice D l.length I,.slice ta tn tc,.string s] 44)=W0 at *
 clear hW0;obtain⟨J,O,hcs⟩:=O;have key:∀ {W:World},W.heap[w.heap.size]? =some (.cells J 44 (0,0))->W.cell? ⟨w.heap.size,11,none⟩=some (.slice D l.length I):=fun {W} hW=>by
  simp only[World.cell?,hW];simpa using hcs
 have KEY:Hid (∀ {W:World},W.heap[w.heap.size]? =some (.cells J 44 (0,0))->W.cell? ⟨w.heap.size,11,none⟩=some (.slice D l.length I)):=key;clear key hcs;have hlow0:=HR.out.below hb0;have hs0:w.heap.size<W0.heap.size:=Zh O;have q0:=KEY.out O;go_upto_region 11 with (go_at_call 42;refine (Zjd D I l W0 hlow0.raw HL.out).mono ?_;rintro e w1 ⟨g,rfl,hg,hrow1,hb1⟩);have hbox1:=(hb1.block _ hs0).trans O;have q1:=KEY.out hbox1;have hb01:=hb0.trans (hb1.mono hb0.size);have hs1:w.heap.size<w1.heap.size:=Zh hbox1;clear q0 hb1 O hb0;go_upto_region 12 with (go_at_call 43;refine (Z2j (some ⟨g,0,none⟩) (l.length+8) l w1 hrow1.raw).mono ?_;rintro e w2 ⟨v,c,rfl,hA,hown2,hb2⟩);have hbox2:=(hb2.block _ hs1).trans hbox1;have q2:=KEY.out hbox2;have hrow2:=hrow1.keep (hb2.block g hrow1.lt);have hb02:=hb01.trans (hb2.mono hb01.size);have hs2:w.heap.size<w2.heap.size:=Zh hbox2;have hlow2:=HR.out.below hb02;have hown2':=Ze7 hown2 (show w.heap.size<=w1.heap.size by omega);obtain⟨va,vc,rfl⟩:=Zjf hown2;clear q1 hb2 hbox1 hrow1 hb01 hown2 hlow0;go_upto_region 13 with (go_at_call 44;refine (Z2k D I l c w2 hlow2.raw hA).mono ?_;rintro e w3 ⟨v3,rfl,hown3,aa⟩);have hbox3:=(aa.block _ hs2).trans hbox2;have hrow3:=hrow2.keep (aa.block g hrow2.lt);have hb03:=hb02.trans (aa.mono hb02.size);have hs3:w.heap.size<w3.heap.size:=Zh hbox3;have hown23:=Zbv hown2' aa;have hia:=Zga.own hown23;have hib:=Zga.own hown3;obtain⟨va3,vc3,rfl⟩:=Zjf hown3;clear q2 aa hbox2 hrow2 hb02 hown2' hown3 hlow2;go_upto_region 14 with (go_at_call 45;refine (Zxx _ _ c w3 hia hib hA.le).mono ?_;rintro e w4 ⟨rfl,Y⟩);have hbox4:=(Y.block _ hs3).trans hbox3;have hrow4:=hrow3.keep (Y.block g hrow3.lt);have hb04:=hb03.trans (Y.mono hb03.size);have hs4:w.heap.size<w4.heap.size:=Zh hbox4;have Z:=Zbv hown23 Y;have hB4:=HB.out.1.below hb04;have hown4':=Zb5 Z (Nat.zero_le _);have hcb:=hA.le;have HB2:=HB.out.2;have hnb:∀ g,(Value.slice va c.length vc).ownBlock=some g->w.heap.size<=g:=Zgv Z;have hzero:∀ k,w.heap.size<=k->tag k=0:=fun k hk=>by
  by_cases h:tag k=0
  ·exact h
  ·have:=HB.out.1.lt k h;omega
 have HIN:Hid (Calls prog 46 #[.pointer (some ⟨WB,1,none⟩),.slice va c.length vc] w4 fun e w'=>e= .returned (.tuple #[])/\X8 0 WB v0 tag sh nk (.slice va c.length vc) w4 w'):=
  Zzb WB nk c.length v0 _ tag sh _ w4 hB4 (HB2.1 0 (by decide)).1 (by have:=(HB2.1 0 (by decide)).2;omega) (by omega) hown4' (by omega) fun g hg=>⟨hzero g (hnb g hg),by have:=hnb g hg;omega⟩
 have HFR:Hid (∀ w5,X8 0 WB v0 tag sh nk (.slice va c.length vc) w4 w5->∃ tag',Bks w5 WB v0 tag' (N+1)/\Ye w tag tag'/\Chg (BkF WB tag) w w5/\w5.heap[w.heap.size]? =some (.cells J 44 (0,0))/\Z2 w5 g (l ++ Yl 8)/\tag' g=0):=fun w5 hW=>by
  obtain⟨tag',k1,k2,k3,k4⟩:=hW.after (by decide) HB.out.1 HB2.1 HB2.2 hb04 hnb;have x1:=(k4 w.heap.size hs4 (Nat.le_refl _) (Zfs Z hbox4 (by decide))).1;have x2:=k4 g hrow4.lt (by omega) (Zfs Z hrow4 (by decide));exact⟨tag',k1,k2,k3,x1.trans hbox4,hrow4.keep x2.1,x2.2⟩
 clear Y hbox3 hrow3 hb03 hown23 Z hB4 hown4' HB2 hia hib hnb hzero;go_upto_region 15 with (go_at_call 46;refine HIN.out.mono ?_;rintro e w5 ⟨rfl,hW5⟩);obtain⟨tag5,hB5,hag5,hc5,hbox5,hrow5,htg5⟩:=HFR.out w5 hW5;have q5:=KEY.out hbox5;have hlow5:=HR.out.chg hc5 HB.out.1.tW;have hs5:w.heap.size<w5.heap.size:=Zh hbox5;have HB5:Hid (Bks w5 WB v0 tag5 (N+1)/\Ye w tag tag5/\Chg (BkF WB tag) w w5/\tag5 g=0):=⟨hB5,hag5,hc5,htg5⟩;have hne:∀ b off,D=some ⟨b,off,none⟩->l≠ []->b≠g:=fun b off e h0=>by
  rcases HR.out with h|⟨b',off',e',hlt,_⟩
  ·exact absurd h h0
  ·rw[e] at e';cases e';omega
 have HRT:=Zje g (l.length+8) D I l w5 hlow5.raw hrow5 hne HL.out;clear hB5 hag5 hc5 htg5 hW5 hbox4 hbox5 hrow4 hb04 hlow5 hne HFR HIN hs4;go_upto_region 16 with (go_at_call 47;refine HRT.mono ?_;rintro e w6 ⟨rfl,hg6⟩);have hR:Yp WB v0 N tag w w6:=by
  obtain⟨h1,h2,h3,h4⟩:=HB5.out;have hcg:Chg (fun k=>k=g) w5 w6:=Chg.of_grown hg6 fun k hk=>by cases hk;rfl
  exact⟨tag5,h1.chg hcg fun k hk _=>.inl (by rw[hk];exact h4),h2,h3.trans hcg fun k hk e=>by omega⟩
 have HRR:Hid (Yp WB v0 N tag w w6):=hR;clear hR HRT HB5 hrow5 hg6 q5;go_wp2_with (go_at_call 39;refine (Zcc _ _).mono ?_;rintro e w7 ⟨rfl,rfl⟩)
 go_ret;exact⟨rfl,HRR.out⟩
theorem Z28 (WB N:Nat)(v0:Value)(tag:Nat->Nat)(n wh ax ay bx by' cx cy dx dy:Int)(D:Option Addr)(l:List Pt)(I:Nat)(ta:Option Addr)(tn tc:Nat)(s:ByteArray)(w:World)(h:Bks w WB v0 tag N)(hN:N<=925904528800)(hr:X9 tag w D l)(hl:l.length<=8796093021952)(hf:Zw l≠0) :
  Calls prog 20 #[.pointer (some ⟨WB,0,none⟩),Xj 4 n wh ax ay bx by' cx cy dx dy D l.length I ta tn tc s] w fun e w'=>e= .returned (.bool true)/\Yp WB v0 N tag w w':=by
 obtain⟨sh,nk,hB,hlen,hnk⟩:=h;have hWB:=hB.ltW;have HB:Hid (Bk w WB v0 tag sh nk/\(∀ j,j<3->(sh j).ls.length=(sh j).ms.length/\(sh j).ls.length<=4*N)/\nk<=2*N):=⟨hB,hlen,hnk⟩;have HR:Hid (X9 tag w D l):=hr;have HL:Hid (l.length<=8796093021952):=hl;have l20:(l.length:Int)<=8796093021952:=by omega
 clear hB hlen hnk hr hl;go_enter func20,ntmps20;go_upto_region 1 with fail;have hb0:Below w.heap.size w (w.alloc (.cells #[int i64 4,int i64 n,int i64 wh,int i64 ax,int i64 ay,int i64 bx,int i64 by',int i64 cx,int i64 cy,int i64 dx,int i64 dy,.slice D l.length I,.slice ta tn tc,.string s] 44)):=Zb _ _;have O:∃ J,(w.alloc (.cells #[int i64 4,int i64 n,int i64 wh,int i64 ax,int i64 ay,int i64 bx,int i64 by',int i64 cx,int i64 cy,int i64 dx,int i64 dy,.slice D l.length I,.slice ta tn tc,.string s] 44)).heap[w.heap.size]? =some (.cells J 44 (0,0))/\J[11]? =some (.slice D l.length I):=⟨_,heap_alloc_new _ _,rfl⟩;generalize hW0:w.alloc (.cells #[int i64 4,int i64 n,int i64 wh,int i64 ax,int i64 ay,int i64 bx,int i64 by',int i64 cx,int i64 cy,int i64 dx,int i64 dy,.slice D l.length I,.slice ta tn tc,.string s] 44)=W0 at *
 clear hW0;obtain⟨J,O,hcs⟩:=O;have key:∀ {W:World},W.heap[w.heap.size]? =some (.cells J 44 (0,0))->W.cell? ⟨w.heap.size,11,none⟩=some (.slice D l.length I):=fun {W} hW=>by
  simp only[World.cell?,hW];simpa using hcs
 have Y:Hid (∀ {W:World},W.heap[w.heap.size]? =some (.cells J 44 (0,0))->W.cell? ⟨w.heap.size,11,none⟩=some (.slice D l.length I)):=key;clear key hcs;have hlow0:=HR.out.below hb0;have hs0:w.heap.size<W0.heap.size:=Zh O;have q0:=Y.out O;go_upto_region 2 with (go_at_call 42;refine (Zjd D I l W0 hlow0.raw HL.out).mono ?_;rintro e w1 ⟨g,rfl,hg,hrow1,hb1⟩);have hbox1:=(hb1.block _ hs0).trans O;have q1:=Y.out hbox1;have hb01:=hb0.trans (hb1.mono hb0.size);have hs1:w.heap.size<w1.heap.size:=Zh hbox1;clear q0 hb1 O hb0;go_upto_region 3 with (go_at_call 12;refine (Zsn (some ⟨g,0,none⟩) (l.length+8) l w1 hrow1.raw).mono ?_;rintro e w2 ⟨v,ts,rfl,hA,hown2,htl,hb2⟩);have hbox2:=(hb2.block _ hs1).trans hbox1;have q2:=Y.out hbox2;have hrow2:=hrow1.keep (hb2.block g hrow1.lt);have hb02:=hb01.trans (hb2.mono hb01.size);have hs2:w.heap.size<w2.heap.size:=Zh hbox2;have hlow2:=HR.out.below hb02;have hown2':=Zb5 hown2 (show w.heap.size<=w1.heap.size by omega);clear q1 hb2 hbox1 hrow1 hb01 hown2 hlow0;have hts:ts=[]:=by
  rcases hA with ⟨h,_⟩|⟨h,_⟩
  ·exact h
  ·exact absurd h hf
 subst hts;clear hA;obtain⟨va,vc,rfl⟩:=Zn hown2';go_upto_region 4 with (go_at_call 48;refine (Zhn D I l w2 hlow2.raw).mono ?_;rintro e w3 ⟨rfl,ab⟩);have hbox3:=(ab.block _ hs2).trans hbox2;have q3:=Y.out hbox3;have hrow3:=hrow2.keep (ab.block g hrow2.lt);have hb03:=hb02.trans (ab.mono hb02.size);have hs3:w.heap.size<w3.heap.size:=Zh hbox3;have hown23:=Yt hown2' ab;have hlow3:=HR.out.below hb03;clear q2 ab hbox2 hrow2 hb02 hown2' hlow2;have hf':(Zw l != 0)=true:=by simpa using hf
 generalize Zw l=f at *
 go_upto_region 5 with fail;obtain⟨w4,hw4⟩:∃ w4,w4=w3:=⟨_,rfl⟩;have Z:Below w3.heap.size w3 w4:=by rw[hw4];exact Below.refl _ _
 rw[<-hw4];clear hw4 hlow3;have hbox4:=(Z.block _ hs3).trans hbox3;have hrow4:=hrow3.keep (Z.block g hrow3.lt);have hb04:=hb03.trans (Z.mono hb03.size);have hs4:w.heap.size<w4.heap.size:=Zh hbox4;have aa:=Yt hown23 Z;have hB4:=HB.out.1.below hb04;have hown4':=Zb5 aa (Nat.zero_le _);have HB2:=HB.out.2;have hnb:∀ g,(Value.slice va ([]:List T3).length vc).ownBlock=some g->w.heap.size<=g:=Zgv aa;have hzero:∀ k,w.heap.size<=k->tag k=0:=fun k hk=>by
  by_cases h:tag k=0
  ·exact h
  ·have:=HB.out.1.lt k h;omega
 have HIN:Hid (Calls prog 50 #[.pointer (some ⟨WB,1,none⟩),.slice va ([]:List T3).length vc] w4 fun e w'=>e= .returned (.tuple #[])/\X8 1 WB v0 tag sh nk (.slice va ([]:List T3).length vc) w4 w'):=
  Zjr WB nk ([]:List T3).length v0 _ tag sh _ w4 hB4 (HB2.1 1 (by decide)).1 (by have:=(HB2.1 1 (by decide)).2;omega) (by omega) hown4' (by simp) fun g hg=>⟨hzero g (hnb g hg),by have:=hnb g hg;omega⟩
 have HFR:Hid (∀ w5,X8 1 WB v0 tag sh nk (.slice va ([]:List T3).length vc) w4 w5->∃ tag',Bks w5 WB v0 tag' (N+1)/\Ye w tag tag'/\Chg (BkF WB tag) w w5/\w5.heap[w.heap.size]? =some (.cells J 44 (0,0))/\Z2 w5 g (l ++ Yl 8)/\tag' g=0):=fun w5 hW=>by
  obtain⟨tag',k1,k2,k3,k4⟩:=hW.after (by decide) HB.out.1 HB2.1 HB2.2 hb04 hnb;have x1:=(k4 w.heap.size hs4 (Nat.le_refl _) (Zfs aa hbox4 (by decide))).1;have x2:=k4 g hrow4.lt (by omega) (Zfs aa hrow4 (by decide));exact⟨tag',k1,k2,k3,x1.trans hbox4,hrow4.keep x2.1,x2.2⟩
 clear Z hbox3 hrow3 hb03 hown23 aa hB4 hown4' HB2 hnb hzero;go_upto_region 6 with (go_at_call 50;refine HIN.out.mono ?_;rintro e w5 ⟨rfl,hW5⟩);obtain⟨tag5,hB5,hag5,hc5,hbox5,hrow5,htg5⟩:=HFR.out w5 hW5;have q5:=Y.out hbox5;have hlow5:=HR.out.chg hc5 HB.out.1.tW;have hs5:w.heap.size<w5.heap.size:=Zh hbox5;have HB5:Hid (Bks w5 WB v0 tag5 (N+1)/\Ye w tag tag5/\Chg (BkF WB tag) w w5/\tag5 g=0):=⟨hB5,hag5,hc5,htg5⟩;have hne:∀ b off,D=some ⟨b,off,none⟩->l≠ []->b≠g:=fun b off e h0=>by
  rcases HR.out with h|⟨b',off',e',hlt,_⟩
  ·exact absurd h h0
  ·rw[e] at e';cases e';omega
 have HRT:=Zje g (l.length+8) D I l w5 hlow5.raw hrow5 hne HL.out;clear hB5 hag5 hc5 htg5 hW5 hbox4 hbox5 hrow4 hb04 hlow5 hne HFR HIN hs4;go_upto_region 7 with (go_at_call 47;refine HRT.mono ?_;rintro e w6 ⟨rfl,hg6⟩);have hR:Yp WB v0 N tag w w6:=by
  obtain⟨h1,h2,h3,h4⟩:=HB5.out;have hcg:Chg (fun k=>k=g) w5 w6:=Chg.of_grown hg6 fun k hk=>by cases hk;rfl
  exact⟨tag5,h1.chg hcg fun k hk _=>.inl (by rw[hk];exact h4),h2,h3.trans hcg fun k hk e=>by omega⟩
 have HRR:Hid (Yp WB v0 N tag w w6):=hR;clear hR HRT HB5 hrow5 hg6 q5;go_wp2_with (go_at_call 39;refine (Zcc _ _).mono ?_;rintro e w7 ⟨rfl,rfl⟩)
 go_ret;exact⟨rfl,HRR.out⟩
theorem Z29 (WB N:Nat)(v0:Value)(tag:Nat->Nat)(n wh ax ay bx by' cx cy dx dy:Int)(D:Option Addr)(l:List Pt)(I:Nat)(ta:Option Addr)(tn tc:Nat)(s:ByteArray)(w:World)(h:Bks w WB v0 tag N)(hN:N<=925904528800)(hr:X9 tag w D l)(hl:l.length<=8796093021952)(hf:Zw l=0) :
  Calls prog 20 #[.pointer (some ⟨WB,0,none⟩),Xj 4 n wh ax ay bx by' cx cy dx dy D l.length I ta tn tc s] w fun e w'=>e= .returned (.bool true)/\Yp WB v0 N tag w w':=by
 obtain⟨sh,nk,hB,hlen,hnk⟩:=h;have hWB:=hB.ltW;have HB:Hid (Bk w WB v0 tag sh nk/\(∀ j,j<3->(sh j).ls.length=(sh j).ms.length/\(sh j).ls.length<=4*N)/\nk<=2*N):=⟨hB,hlen,hnk⟩;have HR:Hid (X9 tag w D l):=hr;have HL:Hid (l.length<=8796093021952):=hl;have l20:(l.length:Int)<=8796093021952:=by omega
 clear hB hlen hnk hr hl;go_enter func20,ntmps20;go_upto_region 1 with fail;have hb0:Below w.heap.size w (w.alloc (.cells #[int i64 4,int i64 n,int i64 wh,int i64 ax,int i64 ay,int i64 bx,int i64 by',int i64 cx,int i64 cy,int i64 dx,int i64 dy,.slice D l.length I,.slice ta tn tc,.string s] 44)):=Zb _ _;have O:∃ J,(w.alloc (.cells #[int i64 4,int i64 n,int i64 wh,int i64 ax,int i64 ay,int i64 bx,int i64 by',int i64 cx,int i64 cy,int i64 dx,int i64 dy,.slice D l.length I,.slice ta tn tc,.string s] 44)).heap[w.heap.size]? =some (.cells J 44 (0,0))/\J[11]? =some (.slice D l.length I):=⟨_,heap_alloc_new _ _,rfl⟩;generalize hW0:w.alloc (.cells #[int i64 4,int i64 n,int i64 wh,int i64 ax,int i64 ay,int i64 bx,int i64 by',int i64 cx,int i64 cy,int i64 dx,int i64 dy,.slice D l.length I,.slice ta tn tc,.string s] 44)=W0 at *
 clear hW0;obtain⟨J,O,hcs⟩:=O;have key:∀ {W:World},W.heap[w.heap.size]? =some (.cells J 44 (0,0))->W.cell? ⟨w.heap.size,11,none⟩=some (.slice D l.length I):=fun {W} hW=>by
  simp only[World.cell?,hW];simpa using hcs
 have Y:Hid (∀ {W:World},W.heap[w.heap.size]? =some (.cells J 44 (0,0))->W.cell? ⟨w.heap.size,11,none⟩=some (.slice D l.length I)):=key;clear key hcs;have hlow0:=HR.out.below hb0;have hs0:w.heap.size<W0.heap.size:=Zh O;have q0:=Y.out O;go_upto_region 2 with (go_at_call 42;refine (Zjd D I l W0 hlow0.raw HL.out).mono ?_;rintro e w1 ⟨g,rfl,hg,hrow1,hb1⟩);have hbox1:=(hb1.block _ hs0).trans O;have q1:=Y.out hbox1;have hb01:=hb0.trans (hb1.mono hb0.size);have hs1:w.heap.size<w1.heap.size:=Zh hbox1;clear q0 hb1 O hb0;go_upto_region 3 with (go_at_call 12;refine (Zsn (some ⟨g,0,none⟩) (l.length+8) l w1 hrow1.raw).mono ?_;rintro e w2 ⟨v,ts,rfl,hA,hown2,htl,hb2⟩);have hbox2:=(hb2.block _ hs1).trans hbox1;have q2:=Y.out hbox2;have hrow2:=hrow1.keep (hb2.block g hrow1.lt);have hb02:=hb01.trans (hb2.mono hb01.size);have hs2:w.heap.size<w2.heap.size:=Zh hbox2;have hlow2:=HR.out.below hb02;have hown2':=Zb5 hown2 (show w.heap.size<=w1.heap.size by omega);clear q1 hb2 hbox1 hrow1 hb01 hown2 hlow0;have hA':Xr l ts:=by
  rcases hA with ⟨_,h⟩|⟨_,h⟩
  ·exact absurd hf h
  ·exact h
 have HA:Hid (Xr l ts/\Zw l=0):=⟨hA',hf⟩;clear hA hA';obtain⟨va,vc,rfl⟩:=Zn hown2';go_upto_region 4 with (go_at_call 48;refine (Zhn D I l w2 hlow2.raw).mono ?_;rintro e w3 ⟨rfl,ab⟩);have hbox3:=(ab.block _ hs2).trans hbox2;have q3:=Y.out hbox3;have hrow3:=hrow2.keep (ab.block g hrow2.lt);have hb03:=hb02.trans (ab.mono hb02.size);have hs3:w.heap.size<w3.heap.size:=Zh hbox3;have hown23:=Yt hown2' ab;have hlow3:=HR.out.below hb03;clear q2 ab hbox2 hrow2 hb02 hown2' hlow2;have HIS:=Z26 D I _ l ts _ w3 hlow3.raw hf HA.out.1 hown23 htl;go_upto_region 5 with (go_at_call 49;refine HIS.mono ?_;rintro e w4 ⟨rfl,Z⟩);clear HIS hlow3;have hbox4:=(Z.block _ hs3).trans hbox3;have hrow4:=hrow3.keep (Z.block g hrow3.lt);have hb04:=hb03.trans (Z.mono hb03.size);have hs4:w.heap.size<w4.heap.size:=Zh hbox4;have aa:=Yt hown23 Z;have hB4:=HB.out.1.below hb04;have hown4':=Zb5 aa (Nat.zero_le _);have HB2:=HB.out.2;have hnb:∀ g,(Value.slice va ts.length vc).ownBlock=some g->w.heap.size<=g:=Zgv aa;have hzero:∀ k,w.heap.size<=k->tag k=0:=fun k hk=>by
  by_cases h:tag k=0
  ·exact h
  ·have:=HB.out.1.lt k h;omega
 have HIN:Hid (Calls prog 50 #[.pointer (some ⟨WB,1,none⟩),.slice va ts.length vc] w4 fun e w'=>e= .returned (.tuple #[])/\X8 1 WB v0 tag sh nk (.slice va ts.length vc) w4 w'):=
  Zjr WB nk ts.length v0 _ tag sh _ w4 hB4 (HB2.1 1 (by decide)).1 (by have:=(HB2.1 1 (by decide)).2;omega) (by omega) hown4' (by omega) fun g hg=>⟨hzero g (hnb g hg),by have:=hnb g hg;omega⟩
 have HFR:Hid (∀ w5,X8 1 WB v0 tag sh nk (.slice va ts.length vc) w4 w5->∃ tag',Bks w5 WB v0 tag' (N+1)/\Ye w tag tag'/\Chg (BkF WB tag) w w5/\w5.heap[w.heap.size]? =some (.cells J 44 (0,0))/\Z2 w5 g (l ++ Yl 8)/\tag' g=0):=fun w5 hW=>by
  obtain⟨tag',k1,k2,k3,k4⟩:=hW.after (by decide) HB.out.1 HB2.1 HB2.2 hb04 hnb;have x1:=(k4 w.heap.size hs4 (Nat.le_refl _) (Zfs aa hbox4 (by decide))).1;have x2:=k4 g hrow4.lt (by omega) (Zfs aa hrow4 (by decide));exact⟨tag',k1,k2,k3,x1.trans hbox4,hrow4.keep x2.1,x2.2⟩
 clear Z hbox3 hrow3 hb03 hown23 aa hB4 hown4' HB2 hnb hzero;go_upto_region 6 with (go_at_call 50;refine HIN.out.mono ?_;rintro e w5 ⟨rfl,hW5⟩);obtain⟨tag5,hB5,hag5,hc5,hbox5,hrow5,htg5⟩:=HFR.out w5 hW5;have q5:=Y.out hbox5;have hlow5:=HR.out.chg hc5 HB.out.1.tW;have hs5:w.heap.size<w5.heap.size:=Zh hbox5;have HB5:Hid (Bks w5 WB v0 tag5 (N+1)/\Ye w tag tag5/\Chg (BkF WB tag) w w5/\tag5 g=0):=⟨hB5,hag5,hc5,htg5⟩;have hne:∀ b off,D=some ⟨b,off,none⟩->l≠ []->b≠g:=fun b off e h0=>by
  rcases HR.out with h|⟨b',off',e',hlt,_⟩
  ·exact absurd h h0
  ·rw[e] at e';cases e';omega
 have HRT:=Zje g (l.length+8) D I l w5 hlow5.raw hrow5 hne HL.out;clear hB5 hag5 hc5 htg5 hW5 hbox4 hbox5 hrow4 hb04 hlow5 hne HFR HIN hs4;go_upto_region 7 with (go_at_call 47;refine HRT.mono ?_;rintro e w6 ⟨rfl,hg6⟩);have hR:Yp WB v0 N tag w w6:=by
  obtain⟨h1,h2,h3,h4⟩:=HB5.out;have hcg:Chg (fun k=>k=g) w5 w6:=Chg.of_grown hg6 fun k hk=>by cases hk;rfl
  exact⟨tag5,h1.chg hcg fun k hk _=>.inl (by rw[hk];exact h4),h2,h3.trans hcg fun k hk e=>by omega⟩
 have HRR:Hid (Yp WB v0 N tag w w6):=hR;clear hR HRT HB5 hrow5 hg6 q5;go_wp2_with (go_at_call 39;refine (Zcc _ _).mono ?_;rintro e w7 ⟨rfl,rfl⟩)
 go_ret;exact⟨rfl,HRR.out⟩
theorem Z3a (WB N:Nat)(v0:Value)(tag:Nat->Nat)(n wh O ay bx by' J cy Z Y:Int)(D:Option Addr)(l:List Pt)(lc:Nat)(ta:Option Addr)(I tc:Nat)(s:ByteArray)(w:World)(h:Bks w WB v0 tag N)(hN:N<=925904528800)(hr:X9 tag w D l)(hl:l.length<=8796093021952) :
  Calls prog 20 #[.pointer (some ⟨WB,0,none⟩),Xj 4 n wh O ay bx by' J cy Z Y D l.length lc ta I tc s] w fun e w'=>e= .returned (.bool true)/\Yp WB v0 N tag w w':=by
 by_cases hf:Zw l=0
 ·exact Z29 WB N v0 tag n wh O ay bx by' J cy Z Y D l lc ta I tc s w h hN hr hl hf
 ·exact Z28 WB N v0 tag n wh O ay bx by' J cy Z Y D l lc ta I tc s w h hN hr hl hf
end Go.Proofs.YtgpapegpdfonpaaGreatDoor
namespace Go.Proofs.YtgpapegpdfonpaaGreatDoor
open Go.RowKit
attribute [local go_sem ↓] Go.wp_at_zero Go.wp_at_succ
structure OpD where
 (kd n wh ax ay bx by' cx cy dx dy:Int) (la:Option Addr) (l:List Pt) (lc:Nat) (ta:Option Addr) (tn tc:Nat) (s:ByteArray)
def OpD.cells (o:OpD):List Value:=[.int .i64 o.kd,.int .i64 o.n,.int .i64 o.wh,.int .i64 o.ax,.int .i64 o.ay,.int .i64 o.bx,.int .i64 o.by',.int .i64 o.cx,.int .i64 o.cy,.int .i64 o.dx,.int .i64 o.dy,.slice o.la o.l.length o.lc,.slice o.ta o.tn o.tc,.string o.s]
def Zdy (WB:Nat)(w:World)(a:Option Addr)(e:List OpD):Prop:=
 ∀ k,(h:k<e.length)->∃ b D,a=some ⟨b,D,none⟩/\b<WB/\(∀ j,j<14->w.cell? ⟨b,D+k*14+j,none⟩=e[k].cells[j]?)/\Zgt WB w e[k].la e[k].l/\e[k].l.length<=8796093021952
theorem Zdy.below {WB:Nat}{w w':World}{a:Option Addr}{D:List OpD}(h:Zdy WB w a D)(J:Below WB w w'):Zdy WB w' a D:=fun k hk=>by
 obtain⟨b,e,ha,I,O,hl,Y⟩:=h k hk;exact⟨b,e,ha,I,fun j Z=>(J.cell (p:=⟨b,e+k*14+j,none⟩) I).trans (O j Z),hl.below J,Y⟩
end Go.Proofs.YtgpapegpdfonpaaGreatDoor
namespace Go.Proofs.YtgpapegpdfonpaaGreatDoor
open Go.RowKit Go.Proofs.Tryz
attribute [local go_sem ↓] Go.wp_at_zero Go.wp_at_succ
theorem Zgt.for {WB N:Nat}{v0:Value}{tag:Nat->Nat}{w:World}{a:Option Addr}{l:List Pt}(h:Zgt WB w a l)(D:Bks w WB v0 tag N):X9 tag w a l:=by
 rcases h with h|⟨b,J,e,I,O⟩
 ·exact .inl h
 ·exact .inr ⟨b,J,e,Nat.lt_trans I D.lt,D.low b I,O⟩
theorem Z4m (WB N:Nat)(v0:Value)(tag:Nat->Nat)(kd n wh O ay bx by' J cy Z Y:Int)(D:Option Addr)(l:List Pt)(lc:Nat)(ta:Option Addr)(I tc:Nat)(s:ByteArray)(w:World)(h:Bks w WB v0 tag N)(hN:N<=925904528800)(hr:X9 tag w D l)(hl:l.length<=8796093021952)(h1:1<=kd)(h3:kd<=3) :
  Calls prog 19 #[.pointer (some ⟨WB,0,none⟩),Xj kd n wh O ay bx by' J cy Z Y D l.length lc ta I tc s] w fun e w'=>e= .returned (.bool true)/\Yp WB v0 N tag w w':=by
 have hk:kd=1\/kd=2\/kd=3:=by omega
 rcases hk with rfl|rfl|rfl
 ·refine (Z2l WB n wh O ay bx by' J cy Z Y D l.length lc ta I tc s w).mono ?_;rintro e w' ⟨rfl,hb⟩;exact⟨rfl,Yp.of_below h hb⟩
 ·refine (Z2m WB n wh O ay bx by' J cy Z Y D l.length lc ta I tc s w).mono ?_;rintro e w' ⟨rfl,hb⟩;exact⟨rfl,Yp.of_below h hb⟩
 ·exact Z27 WB N v0 tag n wh O ay bx by' J cy Z Y D l lc ta I tc s w h hN hr hl
theorem Z4n (WB N:Nat)(ma:Option Addr)(D I:Nat)(tag:Nat->Nat)(kd n wh Z ay bx by' O cy dx dy:Int)(la:Option Addr)(ln:Nat)(lc:Nat)(ta:Option Addr)(J tc:Nat)(s:ByteArray)(w:World)(h:Bks w WB (.slice ma D I) tag N)(h1:kd<1) :
  Calls prog 10 #[.pointer (some ⟨WB,0,none⟩),Xj kd n wh Z ay bx by' O cy dx dy la ln lc ta J tc s] w fun e w'=>e= .returned (.bool true)/\Below w.heap.size w w':=by
 have hWB:=h.lt;have c0:=h.cell0;clear h;have d1:decide (1<=kd)=false:=decide_eq_false (by omega);have x4:(kd == 4)=false:=beq_eq_false_iff_ne.2 (by omega);have x5:(kd == 5)=false:=beq_eq_false_iff_ne.2 (by omega);have x12:(kd == 12)=false:=beq_eq_false_iff_ne.2 (by omega);have x13:(kd == 13)=false:=beq_eq_false_iff_ne.2 (by omega);have y1:¬ (1<=kd):=by omega
 have y4:¬ kd=4:=by omega
 have y5:¬ kd=5:=by omega
 have y12:¬ kd=12:=by omega
 have y13:¬ kd=13:=by omega
 by_cases Y:D=0
 ·subst Y;go_enter func10,ntmps10;go_wp2
  go_ret;exact⟨rfl,Zb _ _⟩
 ·have z0:((D:Int) == 0)=false:=beq_eq_false_iff_ne.2 (by omega);have z1:¬ ((D:Int)=0):=by omega
  go_enter func10,ntmps10;go_wp2
  go_ret;exact⟨rfl,Zb _ _⟩
theorem Z4o (WB N:Nat)(v0:Value)(tag:Nat->Nat)(kd n wh Y ay bx by' J cy dx dy:Int)(D:Option Addr)(l:List Pt)(lc:Nat)(ta:Option Addr)(I tc:Nat)(s:ByteArray)(w:World)(h:Bks w WB v0 tag N)(O:N<=925904528800)(hr:X9 tag w D l)(Z:l.length<=8796093021952)(h1:1<=kd)(h3:kd<=3) :
  Calls prog 10 #[.pointer (some ⟨WB,0,none⟩),Xj kd n wh Y ay bx by' J cy dx dy D l.length lc ta I tc s] w fun e w'=>e= .returned (.bool true)/\Yp WB v0 N tag w w':=by
 have FP:=fun o=>Z4m WB N v0 tag kd n wh Y ay bx by' J cy dx dy D l lc ta I tc s (w.alloc o) (h.below (Zb w o)) O (hr.below (Zb w o)) Z h1 h3
 clear h hr Z O;go_enter func10,ntmps10;go_wp2_with (go_at_call 19;refine (FP _).mono ?_;rintro e w1 ⟨rfl,hb1⟩)
 go_ret;exact⟨rfl,hb1.pre⟩
theorem Z4p (WB N:Nat)(v0:Value)(tag:Nat->Nat)(n wh Y ay bx by' J cy dx dy:Int)(D:Option Addr)(l:List Pt)(lc:Nat)(ta:Option Addr)(I tc:Nat)(s:ByteArray)(w:World)(h:Bks w WB v0 tag N)(O:N<=925904528800)(hr:X9 tag w D l)(Z:l.length<=8796093021952) :
  Calls prog 10 #[.pointer (some ⟨WB,0,none⟩),Xj 4 n wh Y ay bx by' J cy dx dy D l.length lc ta I tc s] w fun e w'=>e= .returned (.bool true)/\Yp WB v0 N tag w w':=by
 have FP:=fun o=>Z3a WB N v0 tag n wh Y ay bx by' J cy dx dy D l lc ta I tc s (w.alloc o) (h.below (Zb w o)) O (hr.below (Zb w o)) Z
 clear h hr Z O;go_enter func10,ntmps10;go_wp2_with (go_at_call 20;refine (FP _).mono ?_;rintro e w1 ⟨rfl,hb1⟩)
 go_ret;exact⟨rfl,hb1.pre⟩
theorem Z4q (WB N:Nat)(ma:Option Addr)(mn mc:Nat)(tag:Nat->Nat)(kd n wh O ay bx by' J cy Z Y:Int)(D:Option Addr)(l:List Pt)(lc:Nat)(ta:Option Addr)(I tc:Nat)(s:ByteArray)(w:World)(h:Bks w WB (.slice ma mn mc) tag N)(hN:N<=925904528800)(hr:X9 tag w D l)(hl:l.length<=8796093021952)(h3:kd<=4) :
  Calls prog 10 #[.pointer (some ⟨WB,0,none⟩),Xj kd n wh O ay bx by' J cy Z Y D l.length lc ta I tc s] w fun e w'=>e= .returned (.bool true)/\Yp WB (.slice ma mn mc) N tag w w':=by
 by_cases h1:1<=kd
 ·by_cases h4:kd=4
  ·subst h4;exact Z4p WB N _ tag n wh O ay bx by' J cy Z Y D l lc ta I tc s w h hN hr hl
  ·exact Z4o WB N _ tag kd n wh O ay bx by' J cy Z Y D l lc ta I tc s w h hN hr hl h1 (by omega)
 ·refine (Z4n WB N ma mn mc tag kd n wh O ay bx by' J cy Z Y D l.length lc ta I tc s w h (by omega)).mono ?_;rintro e w' ⟨rfl,hb⟩;exact⟨rfl,Yp.of_below h hb⟩
theorem Z4r (WB N:Nat)(v0:Value)(tag:Nat->Nat)(w:World)(h:Bks w WB v0 tag N)(O:N<=925904529000):Calls prog 18 #[.pointer (some ⟨WB,1,none⟩)] w fun e w'=>e= .returned (.bool true)/\Below w.heap.size w w':=by
 obtain⟨sh,nk,J,I,Y⟩:=h;exact Zzf WB nk v0 tag sh w J (fun j D=>(I j D).1) fun j D=>by have:=(I j D).2;omega
def sh0:Nat->Sh:=fun _=>⟨.slice none 0 0,.slice none 0 0,[],[]⟩
theorem Z4s (w:World):Bks (w.alloc (.cells #[.slice none 0 0,.slice none 0 0,.slice none 0 0,.slice none 0 0,.slice none 0 0,.slice none 0 0,.slice none 0 0,.int .i64 0] 32)) w.heap.size (.slice none 0 0) (fun k=>if k=w.heap.size then 4 else 0) 0:=by
 refine⟨sh0,0,⟨heap_alloc_new _ _,if_pos rfl,fun k I=>?_,fun k I=>if_neg (by omega),fun j _=>⟨World.ownsRow_nil _ _ _ _,World.ownsRow_nil _ _ _ _,(fun g D=>by cases D),(fun g D=>by cases D),(fun e J=>by cases J)⟩⟩,fun j _=>⟨rfl,Nat.le_refl _⟩,Nat.le_refl _⟩;by_cases e:k=w.heap.size
 ·subst e;simp
 ·exact absurd (if_neg e) I
end Go.Proofs.YtgpapegpdfonpaaGreatDoor
