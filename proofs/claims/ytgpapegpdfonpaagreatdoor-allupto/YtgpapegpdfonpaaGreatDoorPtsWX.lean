/- Part. -/
import Derived.Test.YtgpapegpdfonpaaGreatDoorMeshAI
set_option linter.unusedVariables false
set_option linter.unusedSimpArgs false
set_option maxHeartbeats 16000000
set_option maxRecDepth 100000
namespace Go.Proofs.YtgpapegpdfonpaaGreatDoor
open Go.RowKit Go.Proofs.Tryz
open Go.Value(int)
open Go.IntKind(i64)
attribute [local go_sem ↓] Go.wp_at_zero Go.wp_at_succ
def hK (s0 s1 s2:Int)(t:T3):Nat->List Int
 | 0=>[t.1,t.2.1,t.2.2]
 | 1=>if s0=0 then [min t.1 t.2.1,max t.1 t.2.1] else [t.1,t.2.1,t.2.2]
 | 2=>if s1=0 then [min t.2.1 t.2.2,max t.2.1 t.2.2] else if s0=0 then [min t.1 t.2.1,max t.1 t.2.1] else [t.1,t.2.1,t.2.2]
 | _=>if s2=0 then [min t.2.2 t.1,max t.2.2 t.1] else if s1=0 then [min t.2.1 t.2.2,max t.2.1 t.2.2] else if s0=0 then [min t.1 t.2.1,max t.1 t.2.1] else [t.1,t.2.1,t.2.2]
theorem Z6z {s0 s1 s2:Int}{t:T3}(D:0<=s0)(I:0<=s1)(e:0<=s2):Zaf s0 s1 s2 t=hK s0 s1 s2 t 3:=by
 unfold Zaf hK;rw[if_neg (by omega)];rfl
theorem Z60 (a b c:Int)(t:T3):Zaf (sg a) (sg b) (sg c) t=Zaf a b c t:=by
 have n:∀ x:Int,sg x<0↔x<0:=fun x=>by unfold sg;split <;> (try split) <;> omega
 have z:∀ x:Int,sg x=0↔x=0:=Zdr;unfold Zaf;simp only[n,z]
theorem Zk1 {w:World}{e g:Nat}{a b:Int}(h:w.ownsRow e 3 1 (.slice (some ⟨g,0,none⟩) 2 2) 2 [int i64 a,int i64 b]):Zy w (some ⟨g,0,none⟩) [a,b]:=by
 have D:w.ownsRow e 3 1 (.slice (some ⟨g,0,none⟩) [a,b].length 2) [a,b].length ([a,b].map (int i64)):=h;exact Zy.of_own D
theorem Z61 (B b off cap:Nat)(l:List Pt)(x y z n:Nat)(w:World)(hl:l.length<=61)(hx:x<l.length)(hy:y<l.length)(hz:z<l.length)(hn:n<l.length)(A:AskAt w B b off cap l)(hnear:Zv l) :
  Calls prog 190 #[.agg #[int i64 (x:Int),int i64 (y:Int),int i64 (z:Int)],int i64 (n:Int),Zaw B] w fun e w'=>
   ∃ a c,e= .returned (.slice a (Zaf (Zo l x y n) (Zo l y z n) (Zo l z x n) ((x:Int),(y:Int),(z:Int))).length c)/\Zy w' a (Zaf (Zo l x y n) (Zo l y z n) (Zo l z x n) ((x:Int),(y:Int),(z:Int)))/\Below w.heap.size w w':=by
 have ab:Hid (∀ t:T3,0<=Zo l x y n->0<=Zo l y z n->0<=Zo l z x n->Zaf (Zo l x y n) (Zo l y z n) (Zo l z x n) t=hK (Zo l x y n) (Zo l y z n) (Zo l z x n) t 3):=fun t h0 h1 h2=>Z6z h0 h1 h2
 have aa:Hid (∀ t:T3,(Zo l x y n<0\/Zo l y z n<0\/Zo l z x n<0)->Zaf (Zo l x y n) (Zo l y z n) (Zo l z x n) t=[]):=fun t h=>by unfold Zaf;rw[if_pos h]
 have R0:=Zmh (Zk (px l x) (py l x) (px l y) (py l y) (px l n) (py l n));have R1:=Zmh (Zk (px l y) (py l y) (px l z) (py l z) (px l n) (py l n));have R2:=Zmh (Zk (px l z) (py l z) (px l x) (py l x) (px l n) (py l n));have HA0:=fun W (Y:AskAt W B b off cap l)=>Zc3 B b off cap l x y n W hx hy hn (by omega) Y.hb Y.hB Y.cell Y.pts hnear
 have HA1:=fun W (Y:AskAt W B b off cap l)=>Zc3 B b off cap l y z n W hy hz hn (by omega) Y.hb Y.hB Y.cell Y.pts hnear
 have HA2:=fun W (Y:AskAt W B b off cap l)=>Zc3 B b off cap l z x n W hz hx hn (by omega) Y.hb Y.hB Y.cell Y.pts hnear
 have e0:sg (Zk (px l x) (py l x) (px l y) (py l y) (px l n) (py l n))=Zo l x y n:=rfl;have e1:sg (Zk (px l y) (py l y) (px l z) (py l z) (px l n) (py l n))=Zo l y z n:=rfl;have e2:sg (Zk (px l z) (py l z) (px l x) (py l x) (px l n) (py l n))=Zo l z x n:=rfl;rw[e0] at R0 HA0;rw[e1] at R1 HA1;rw[e2] at R2 HA2;clear e0 e1 e2;generalize Zo l x y n=s0 at *
 generalize Zo l y z n=s1 at *
 generalize Zo l z x n=s2 at *
 have HAS:Hid (AskAt w B b off cap l):=A;clear A hnear;go_enter func190,ntmps190;go_wp2
 have hb0:=Yq w (.cells #[int i64 (x:Int),int i64 (y:Int),int i64 (z:Int)] 53) (.cells #[.func (.func 34) #[] #[.pointer (some ⟨B,0,none⟩)],.func (.func 36) #[] #[.pointer (some ⟨B,0,none⟩)]] 60);have x0:((w.alloc (.cells #[int i64 (x:Int),int i64 (y:Int),int i64 (z:Int)] 53)).alloc (.cells #[.func (.func 34) #[] #[.pointer (some ⟨B,0,none⟩)],.func (.func 36) #[] #[.pointer (some ⟨B,0,none⟩)]] 60)).heap[w.heap.size]? =some (.cells #[int i64 (x:Int),int i64 (y:Int),int i64 (z:Int)] 53 (0,0)):=by
  rw[Below.heap_alloc _ _ _ (by simp)];exact Zda _ _
 have x1:((w.alloc (.cells #[int i64 (x:Int),int i64 (y:Int),int i64 (z:Int)] 53)).alloc (.cells #[.func (.func 34) #[] #[.pointer (some ⟨B,0,none⟩)],.func (.func 36) #[] #[.pointer (some ⟨B,0,none⟩)]] 60)).cell? ⟨w.heap.size+1,0,none⟩=some (.func (.func 34) #[] #[.pointer (some ⟨B,0,none⟩)]):=by
  rw[World.cell?_alloc_at _ _ _ _ (by simp)];rfl
 have hs0:((w.alloc (.cells #[int i64 (x:Int),int i64 (y:Int),int i64 (z:Int)] 53)).alloc (.cells #[.func (.func 34) #[] #[.pointer (some ⟨B,0,none⟩)],.func (.func 36) #[] #[.pointer (some ⟨B,0,none⟩)]] 60)).heap.size=w.heap.size+2:=by simp
 generalize (w.alloc (.cells #[int i64 (x:Int),int i64 (y:Int),int i64 (z:Int)] 53)).alloc (.cells #[.func (.func 34) #[] #[.pointer (some ⟨B,0,none⟩)],.func (.func 36) #[] #[.pointer (some ⟨B,0,none⟩)]] 60)=W at *
 have HB0:Hid (Below w.heap.size w W):=hb0;have HAW:Hid (AskAt W B b off cap l):=HAS.out.below hb0 (Nat.le_refl _);have t0:W.cell? ⟨w.heap.size,0,none⟩=some (int i64 (x:Int)):=by simp[World.cell?,x0]
 have t1:W.cell? ⟨w.heap.size,1,none⟩=some (int i64 (y:Int)):=by simp[World.cell?,x0]
 have t2:W.cell? ⟨w.heap.size,2,none⟩=some (int i64 (z:Int)):=by simp[World.cell?,x0]
 have hxW:w.heap.size<W.heap.size:=by omega
 have hyW:w.heap.size+1<W.heap.size:=by omega
 clear hb0 x0 HAS hs0;generalize hBX:w.heap.size=BX at *
 go_loopw [7,12] (fun s7 s12 wr=>∃ (k:Nat) (a:Option Addr) (c:Nat),k<=3/\s12=int i64 k/\s7= .slice a (hK s0 s1 s2 ((x:Int),(y:Int),(z:Int)) k).length c/\Zy wr a (hK s0 s1 s2 ((x:Int),(y:Int),(z:Int)) k)/\(0<k->0<=s0)/\(1<k->0<=s1)/\(2<k->0<=s2)/\Below W.heap.size W wr) (fun _ i _=>3-(intOf i).toNat)
 case atStart=>
  refine⟨0,_,_,by omega,rfl,rfl,fun j hj=>⟨BX,rfl,?_⟩,by omega,by omega,by omega,Below.refl _ _⟩;have:j=0\/j=1\/j=2:=by simp[hK] at hj;omega
  rcases this with rfl|rfl|rfl
  ·exact t0
  ·exact t1
  ·exact t2
 case round=>
  obtain⟨k,a,c,hk,rfl,rfl,hN,g0,g1,g2,hbr⟩:=hrel;have Z:Hid (Zy wr a (hK s0 s1 s2 ((x:Int),(y:Int),(z:Int)) k)):=hN;have O:Hid (Below W.heap.size W wr):=hbr;have r0:=(hbr.cell (p:=⟨BX,0,none⟩) hxW).trans t0;have r1:=(hbr.cell (p:=⟨BX,1,none⟩) hxW).trans t1;have r2:=(hbr.cell (p:=⟨BX,2,none⟩) hxW).trans t2;have r3:=(hbr.cell (p:=⟨BX+1,0,none⟩) hyW).trans x1;have v0:BX<wr.heap.size:=L3 hxW hbr.size;have v1:BX+1<wr.heap.size:=L3 hyW hbr.size;have HA:Hid (∀ q,AskAt (wr.drewN q) B b off cap l):=fun q=>by
   have:=HAW.out.below hbr (Nat.le_refl _);exact⟨this.hB,this.hb,this.cell,this.pts⟩
  clear hN hbr;have hcs:k=3\/k=0\/k=1\/k=2:=by omega
  rcases hcs with rfl|rfl|rfl|rfl
  ·skip
   have HE:=ab.out ((x:Int),(y:Int),(z:Int)) (g0 (by omega)) (g1 (by omega)) (g2 (by omega));rw[<-HE] at Z ⊢;have HRR:Hid (Below BX w wr):=HB0.out.trans (O.out.mono (by omega));clear ab aa HE;generalize hhe:Zaf s0 s1 s2 ((x:Int),(y:Int),(z:Int))=hh at *
   have HHE:Hid (Zaf s0 s1 s2 ((x:Int),(y:Int),(z:Int))=hh):=hhe;clear hhe;go_wp2
   go_ret;rw[hBX];exact⟨a,c,by rw[HHE.out];rfl,by rw[HHE.out];exact Z.out,HRR.out⟩
  ·have I:Hid (hK s0 s1 s2 ((x:Int),(y:Int),(z:Int)) (0+1)=if s0=0 then [min (x:Int) y,max (x:Int) y] else hK s0 s1 s2 ((x:Int),(y:Int),(z:Int)) 0):=rfl;by_cases n1:s0<0
   ·have em:s0= -1:=by omega
    have HE:Hid (Zaf s0 s1 s2 ((x:Int),(y:Int),(z:Int))=[]):=aa.out _ (by omega);have HRR:Hid (Below BX w wr):=HB0.out.trans (O.out.mono (by omega));subst em;clear ab aa I Z;generalize (hK _ _ _ ((x:Int),(y:Int),(z:Int)) 0).length=hn at *
    go_wp2_with fail
    go_quiet (fail);go_wp2_with (first|(go_at_call 34;refine (HA0 _ (HA.out _)).mono ?_;rintro e J ⟨rfl,D⟩))
    go_ret;rw[hBX,HE.out];exact⟨_,_,rfl,(fun j hj=>by cases hj),HRR.out.trans ((⟨D.os,D.tape,D.output,D.size,D.block⟩:Below wr.heap.size wr J).mono (by omega))⟩
   ·by_cases n2:s0=0
    ·subst n2;rw[if_pos rfl] at I;clear ab aa Z;generalize (hK _ _ _ ((x:Int),(y:Int),(z:Int)) 0).length=hn at *
     go_wp2_with fail
     go_quiet (fail);go_wp2_with (first|(go_at_call 34;refine (HA0 _ (HA.out _)).mono ?_;rintro e J ⟨rfl,D⟩)|(go_at_call 189;refine (Zkx _ _ _).mono ?_;rintro e w2 ⟨rfl,hown,hb2⟩))
     have HM:Hid (Zy w2 (some ⟨J.heap.size,0,none⟩) [min (x:Int) y,max (x:Int) y]/\Below W.heap.size W w2):=⟨Zk1 hown,O.out.trans (Below.mono (Below.trans (⟨D.os,D.tape,D.output,D.size,D.block⟩:Below wr.heap.size wr J) (hb2.mono D.size)) O.out.size)⟩;clear hown D hb2;go_roundw;case rel=>exact⟨0+1,_,_,by omega,by go_num,by rw[I.out];rfl,by rw[I.out];exact HM.out.1,by omega,by omega,by omega,HM.out.2⟩
     case measure=>simp[intOf]
    ·have ep:s0=1:=by omega
     rw[if_neg n2] at I;rw[<-I.out] at Z ⊢;have HG:Hid ((0<0+1->0<=s0)/\(1<0+1->0<=s1)/\(2<0+1->0<=s2)):=⟨by omega,by omega,by omega⟩;clear ab aa I n1 n2 g0 g1 g2;generalize hhe:hK s0 s1 s2 ((x:Int),(y:Int),(z:Int)) (0+1)=hh at *
     have HHE:Hid (hK s0 s1 s2 ((x:Int),(y:Int),(z:Int)) (0+1)=hh):=hhe;clear hhe;go_wp2_with fail
     go_quiet (fail);go_wp2_with (first|(go_at_call 34;refine (HA0 _ (HA.out _)).mono ?_;rintro e J ⟨rfl,D⟩))
     have hb1':Below wr.heap.size wr J:=⟨D.os,D.tape,D.output,D.size,D.block⟩;go_roundw;case rel=>exact⟨0+1,_,_,by omega,by go_num,by rw[HHE.out],by rw[HHE.out];exact Z.out.below hb1',HG.out.1,HG.out.2.1,HG.out.2.2,O.out.trans (hb1'.mono O.out.size)⟩
     case measure=>simp[intOf]
  ·have I:Hid (hK s0 s1 s2 ((x:Int),(y:Int),(z:Int)) (1+1)=if s1=0 then [min (y:Int) z,max (y:Int) z] else hK s0 s1 s2 ((x:Int),(y:Int),(z:Int)) 1):=rfl;by_cases n1:s1<0
   ·have em:s1= -1:=by omega
    have HE:Hid (Zaf s0 s1 s2 ((x:Int),(y:Int),(z:Int))=[]):=aa.out _ (by omega);have HRR:Hid (Below BX w wr):=HB0.out.trans (O.out.mono (by omega));subst em;clear ab aa I Z;generalize (hK _ _ _ ((x:Int),(y:Int),(z:Int)) 1).length=hn at *
    go_wp2_with fail
    go_quiet (fail);go_wp2_with (first|(go_at_call 34;refine (HA1 _ (HA.out _)).mono ?_;rintro e J ⟨rfl,D⟩))
    go_ret;rw[hBX,HE.out];exact⟨_,_,rfl,(fun j hj=>by cases hj),HRR.out.trans ((⟨D.os,D.tape,D.output,D.size,D.block⟩:Below wr.heap.size wr J).mono (by omega))⟩
   ·by_cases n2:s1=0
    ·subst n2;rw[if_pos rfl] at I;clear ab aa Z;generalize (hK _ _ _ ((x:Int),(y:Int),(z:Int)) 1).length=hn at *
     go_wp2_with fail
     go_quiet (fail);go_wp2_with (first|(go_at_call 34;refine (HA1 _ (HA.out _)).mono ?_;rintro e J ⟨rfl,D⟩)|(go_at_call 189;refine (Zkx _ _ _).mono ?_;rintro e w2 ⟨rfl,hown,hb2⟩))
     have HM:Hid (Zy w2 (some ⟨J.heap.size,0,none⟩) [min (y:Int) z,max (y:Int) z]/\Below W.heap.size W w2):=⟨Zk1 hown,O.out.trans (Below.mono (Below.trans (⟨D.os,D.tape,D.output,D.size,D.block⟩:Below wr.heap.size wr J) (hb2.mono D.size)) O.out.size)⟩;clear hown D hb2;go_roundw;case rel=>exact⟨1+1,_,_,by omega,by go_num,by rw[I.out];rfl,by rw[I.out];exact HM.out.1,by omega,by omega,by omega,HM.out.2⟩
     case measure=>simp[intOf]
    ·have ep:s1=1:=by omega
     rw[if_neg n2] at I;rw[<-I.out] at Z ⊢;have HG:Hid ((0<1+1->0<=s0)/\(1<1+1->0<=s1)/\(2<1+1->0<=s2)):=⟨by omega,by omega,by omega⟩;clear ab aa I n1 n2 g0 g1 g2;generalize hhe:hK s0 s1 s2 ((x:Int),(y:Int),(z:Int)) (1+1)=hh at *
     have HHE:Hid (hK s0 s1 s2 ((x:Int),(y:Int),(z:Int)) (1+1)=hh):=hhe;clear hhe;go_wp2_with fail
     go_quiet (fail);go_wp2_with (first|(go_at_call 34;refine (HA1 _ (HA.out _)).mono ?_;rintro e J ⟨rfl,D⟩))
     have hb1':Below wr.heap.size wr J:=⟨D.os,D.tape,D.output,D.size,D.block⟩;go_roundw;case rel=>exact⟨1+1,_,_,by omega,by go_num,by rw[HHE.out],by rw[HHE.out];exact Z.out.below hb1',HG.out.1,HG.out.2.1,HG.out.2.2,O.out.trans (hb1'.mono O.out.size)⟩
     case measure=>simp[intOf]
  ·have I:Hid (hK s0 s1 s2 ((x:Int),(y:Int),(z:Int)) (2+1)=if s2=0 then [min (z:Int) x,max (z:Int) x] else hK s0 s1 s2 ((x:Int),(y:Int),(z:Int)) 2):=rfl;by_cases n1:s2<0
   ·have em:s2= -1:=by omega
    have HE:Hid (Zaf s0 s1 s2 ((x:Int),(y:Int),(z:Int))=[]):=aa.out _ (by omega);have HRR:Hid (Below BX w wr):=HB0.out.trans (O.out.mono (by omega));subst em;clear ab aa I Z;generalize (hK _ _ _ ((x:Int),(y:Int),(z:Int)) 2).length=hn at *
    go_wp2_with fail
    go_quiet (fail);go_wp2_with (first|(go_at_call 34;refine (HA2 _ (HA.out _)).mono ?_;rintro e J ⟨rfl,D⟩))
    go_ret;rw[hBX,HE.out];exact⟨_,_,rfl,(fun j hj=>by cases hj),HRR.out.trans ((⟨D.os,D.tape,D.output,D.size,D.block⟩:Below wr.heap.size wr J).mono (by omega))⟩
   ·by_cases n2:s2=0
    ·subst n2;rw[if_pos rfl] at I;clear ab aa Z;generalize (hK _ _ _ ((x:Int),(y:Int),(z:Int)) 2).length=hn at *
     go_wp2_with fail
     go_quiet (fail);go_wp2_with (first|(go_at_call 34;refine (HA2 _ (HA.out _)).mono ?_;rintro e J ⟨rfl,D⟩)|(go_at_call 189;refine (Zkx _ _ _).mono ?_;rintro e w2 ⟨rfl,hown,hb2⟩))
     have HM:Hid (Zy w2 (some ⟨J.heap.size,0,none⟩) [min (z:Int) x,max (z:Int) x]/\Below W.heap.size W w2):=⟨Zk1 hown,O.out.trans (Below.mono (Below.trans (⟨D.os,D.tape,D.output,D.size,D.block⟩:Below wr.heap.size wr J) (hb2.mono D.size)) O.out.size)⟩;clear hown D hb2;go_roundw;case rel=>exact⟨2+1,_,_,by omega,by go_num,by rw[I.out];rfl,by rw[I.out];exact HM.out.1,by omega,by omega,by omega,HM.out.2⟩
     case measure=>simp[intOf]
    ·have ep:s2=1:=by omega
     rw[if_neg n2] at I;rw[<-I.out] at Z ⊢;have HG:Hid ((0<2+1->0<=s0)/\(1<2+1->0<=s1)/\(2<2+1->0<=s2)):=⟨by omega,by omega,by omega⟩;clear ab aa I n1 n2 g0 g1 g2;generalize hhe:hK s0 s1 s2 ((x:Int),(y:Int),(z:Int)) (2+1)=hh at *
     have HHE:Hid (hK s0 s1 s2 ((x:Int),(y:Int),(z:Int)) (2+1)=hh):=hhe;clear hhe;go_wp2_with fail
     go_quiet (fail);go_wp2_with (first|(go_at_call 34;refine (HA2 _ (HA.out _)).mono ?_;rintro e J ⟨rfl,D⟩))
     have hb1':Below wr.heap.size wr J:=⟨D.os,D.tape,D.output,D.size,D.block⟩;go_roundw;case rel=>exact⟨2+1,_,_,by omega,by go_num,by rw[HHE.out],by rw[HHE.out];exact Z.out.below hb1',HG.out.1,HG.out.2.1,HG.out.2.2,O.out.trans (hb1'.mono O.out.size)⟩
     case measure=>simp[intOf]
def Zdz (w:World)(a:Option Addr)(ts:List T3):Prop:=∀ j,j<ts.length->∃ g,a=some ⟨g,0,none⟩/\g<w.heap.size/\w.cell? ⟨g,j*3,none⟩=some (int i64 (ts.getD j (0,0,0)).1)/\w.cell? ⟨g,j*3+1,none⟩=some (int i64 (ts.getD j (0,0,0)).2.1)/\w.cell? ⟨g,j*3+2,none⟩=some (int i64 (ts.getD j (0,0,0)).2.2)
theorem Zdz.below {w w':World}{a:Option Addr}{ts:List T3}(h:Zdz w a ts)(I:Below w.heap.size w w'):Zdz w' a ts:=fun j O=>by
 obtain⟨g,e,D,Y,Z,J⟩:=h j O;exact⟨g,e,L3 D I.size,(I.cell (p:=⟨g,j*3,none⟩) D).trans Y,(I.cell (p:=⟨g,j*3+1,none⟩) D).trans Z,(I.cell (p:=⟨g,j*3+2,none⟩) D).trans J⟩
theorem Zdz.of_own {w:World}{J c:Nat}{a:Option Addr}{ts:List T3}(h:w.ownsRow J 53 3 (.slice a ts.length c) ts.length (Zj ts)):Zdz w a ts:=fun j D=>by
 obtain⟨g,e,Z,I⟩:=Zcw h (by omega);have Y:ts.getD j (0,0,0)=ts[j]:=by simp[D]
 have f0:=Zbs ts j 0 (by omega) D;have O:=Zbs ts j 1 (by omega) D;have f2:=Zbs ts j 2 (by omega) D;rw[Y];exact⟨g,e,Z,by rw[I _ (by omega)];exact f0,by rw[I _ (by omega)];exact O,by rw[I _ (by omega)];exact f2⟩
def Zee (l:List Pt)(n:Nat)(t:T3):List Int:=Zaf (Zo l t.1.toNat t.2.1.toNat n) (Zo l t.2.1.toNat t.2.2.toNat n) (Zo l t.2.2.toNat t.1.toNat n) t
def Zk2 (l:List Pt)(n:Nat)(ts:List T3)(e:List Int):Prop:=(∃ t∈ts,e=Zee l n t/\e≠ [])\/(e=[]/\∀ t∈ts,Zee l n t=[])
theorem Z62 (B b off cap:Nat) (l:List Pt) (ta:Option Addr) (tc:Nat) (ts:List T3) (n:Nat) (w:World) (hl:l.length<=61) (htl:ts.length<=4000) (hr:∀ t∈ts,0<=t.1/\t.1<l.length/\0<=t.2.1/\t.2.1<l.length/\0<=t.2.2/\t.2.2<l.length) (hn:n<l.length)
  (A:AskAt w B b off cap l) (hnear:Zv l) (hT:Zdz w ta ts) :
  Calls prog 176 #[.slice ta ts.length tc,int i64 (n:Int),Zaw B] w fun e w'=>
   ∃ a c hs,e= .returned (.slice a hs.length c)/\Zy w' a hs/\Zk2 l n ts hs/\Below w.heap.size w w':=by
 have HR:Hid (∀ t∈ts,0<=t.1/\t.1<l.length/\0<=t.2.1/\t.2.1<l.length/\0<=t.2.2/\t.2.2<l.length):=hr;have HAS:Hid (AskAt w B b off cap l):=A;have HNR:Hid (Zv l):=hnear;have HT:Hid (Zdz w ta ts):=hT;clear hr A hnear hT;go_enter func176,ntmps176;go_wp2
 have hb0:=Zb w (.cells #[.func (.func 34) #[] #[.pointer (some ⟨B,0,none⟩)],.func (.func 36) #[] #[.pointer (some ⟨B,0,none⟩)]] 60);have x0:(w.alloc (.cells #[.func (.func 34) #[] #[.pointer (some ⟨B,0,none⟩)],.func (.func 36) #[] #[.pointer (some ⟨B,0,none⟩)]] 60)).cell? ⟨w.heap.size,0,none⟩=some (.func (.func 34) #[] #[.pointer (some ⟨B,0,none⟩)]):=by rw[World.cell?_alloc_at _ _ _ _ (by simp)];rfl
 have x1:(w.alloc (.cells #[.func (.func 34) #[] #[.pointer (some ⟨B,0,none⟩)],.func (.func 36) #[] #[.pointer (some ⟨B,0,none⟩)]] 60)).cell? ⟨w.heap.size,1,none⟩=some (.func (.func 36) #[] #[.pointer (some ⟨B,0,none⟩)]):=by rw[World.cell?_alloc_at _ _ _ _ (by simp)];rfl
 have hs0:(w.alloc (.cells #[.func (.func 34) #[] #[.pointer (some ⟨B,0,none⟩)],.func (.func 36) #[] #[.pointer (some ⟨B,0,none⟩)]] 60)).heap.size=w.heap.size+1:=by simp
 generalize w.alloc (.cells #[.func (.func 34) #[] #[.pointer (some ⟨B,0,none⟩)],.func (.func 36) #[] #[.pointer (some ⟨B,0,none⟩)]] 60)=W at *
 have HB0:Hid (Below w.heap.size w W):=hb0;have HAW:Hid (AskAt W B b off cap l):=HAS.out.below hb0 (Nat.le_refl _);have HTW:Hid (Zdz W ta ts):=HT.out.below hb0;have hxW:w.heap.size<W.heap.size:=by omega
 clear hb0 HAS HT hs0;generalize hBX:w.heap.size=BX at *
 go_loopw [12] (fun s12 wr=>∃ k:Nat,k<=ts.length/\s12=int i64 k/\(∀ j,j<k->Zee l n (ts.getD j (0,0,0))=[])/\Below W.heap.size W wr) (fun i _=>ts.length-(intOf i).toNat)
 case atStart=>exact⟨0,Nat.zero_le _,rfl,fun j O=>by omega,Below.refl _ _⟩
 case round=>
  obtain⟨k,hk,rfl,hno,D⟩:=hrel;have Z:Hid (∀ j,j<k->Zee l n (ts.getD j (0,0,0))=[]):=hno;have aa:Hid (Below W.heap.size W wr):=D;clear hno;by_cases hkl:k<ts.length
  ·obtain⟨g,rfl,hg,c0,c1,c2⟩:=HTW.out.below D k hkl;have q0:=(D.cell (p:=⟨BX,0,none⟩) hxW).trans x0;have q1:=(D.cell (p:=⟨BX,1,none⟩) hxW).trans x1;have hmem:ts.getD k (0,0,0)∈ts:=by
    have:ts.getD k (0,0,0)=ts[k]:=by simp[hkl]
    rw[this];exact List.getElem_mem hkl
   have HME:Hid (ts.getD k (0,0,0)∈ts):=hmem;obtain⟨r1,r2,r3,r4,r5,r6⟩:=HR.out _ hmem;obtain⟨x,ex⟩:∃ x:Nat,(ts.getD k (0,0,0)).1=(x:Int):=⟨_,(Int.toNat_of_nonneg r1).symm⟩;obtain⟨y,ey⟩:∃ y:Nat,(ts.getD k (0,0,0)).2.1=(y:Int):=⟨_,(Int.toNat_of_nonneg r3).symm⟩;obtain⟨z,ez⟩:∃ z:Nat,(ts.getD k (0,0,0)).2.2=(z:Int):=⟨_,(Int.toNat_of_nonneg r5).symm⟩;have HE:Hid (Zee l n (ts.getD k (0,0,0))=Zaf (Zo l x y n) (Zo l y z n) (Zo l z x n) ((x:Int),(y:Int),(z:Int))):=by
    unfold Hid Zee;rw[ex,ey,ez,Int.toNat_natCast,Int.toNat_natCast,Int.toNat_natCast];congr 1;exact Prod.ext ex (Prod.ext ey ez)
   have HC:=fun V (hV:Below wr.heap.size wr V)=>Z61 B b off cap l x y z n V hl (by omega) (by omega) (by omega) hn ((HAW.out.below D (Nat.le_refl _)).below hV (Nat.le_refl _)) HNR.out
   rw[ex] at c0;rw[ey] at c1;rw[ez] at c2;have ab:=Zb wr (.cells #[int i64 (x:Int),int i64 (y:Int),int i64 (z:Int)] 53);have HC1:=HC _ ab;have y0:(0:Int)<=(k:Int):=by omega
   have y1:(k:Int)<(ts.length:Int):=by omega
   have y4:IntKind.i64.wrap ((k:Int)+1)=(k:Int)+1:=Zd (by omega) (by omega);have hxr:BX<wr.heap.size:=L3 hxW D.size;generalize hhe:Zaf (Zo l x y n) (Zo l y z n) (Zo l z x n) ((x:Int),(y:Int),(z:Int))=I at *
   clear hhe ex ey ez r1 r2 r3 r4 r5 r6 hmem HC D;by_cases Y:I=[]
   ·have HN1:Hid (∀ j,j<k+1->Zee l n (ts.getD j (0,0,0))=[]):=fun j O=>by
     by_cases e:j=k
     ·subst e;rw[HE.out];exact Y
     ·exact Z.out j (by omega)
    have e0:I.length=0:=by rw[Y];rfl
    rw[e0] at HC1;clear Z HE Y e0;go_wp2_with (first|(go_at_call 190;refine HC1.mono ?_;rintro e w1 ⟨a,c,rfl,hNums,hb1⟩))
    have J:Hid (Below W.heap.size W w1):=aa.out.trans ((ab.trans (hb1.mono ab.size)).mono aa.out.size);go_roundw;case rel=>exact⟨k+1,by omega,by go_num,HN1.out,J.out⟩
    case measure=>simp[intOf];omega
   ·have hp:=List.length_pos_iff.2 Y;have p1:(0:Int)<(I.length:Int):=by omega
    have HTH:Hid (Zk2 l n ts I):=.inl ⟨_,HME.out,HE.out.symm,Y⟩;clear Z HE Y;go_wp2_with (first|(go_at_call 190;refine HC1.mono ?_;rintro e w1 ⟨a,c,rfl,hNums,hb1⟩))
    have J:Hid (Zy w1 a I/\Below BX w w1):=⟨hNums,HB0.out.trans ((aa.out.trans ((ab.trans (hb1.mono ab.size)).mono aa.out.size)).mono (by omega))⟩;clear hNums hb1;go_ret;rw[hBX];exact⟨a,c,I,rfl,J.out.1,HTH.out,J.out.2⟩
  ·have ek:k=ts.length:=by omega
   subst ek
   have HTH : Hid (Zk2 l n ts []) := .inr ⟨rfl, fun t ht => by
     obtain ⟨j, O, e⟩ := List.getElem_of_mem ht
     have := Z.out j O
     have eg : ts.getD j (0, 0, 0) = ts[j] := by simp [O]
     rw [eg, e] at this; exact this⟩
   have J:Hid (Below BX w wr):=HB0.out.trans (aa.out.mono (by omega));clear Z D;go_wp2
   go_ret;rw[hBX];exact⟨none,0,[],rfl,(fun j O=>by cases O),HTH.out,J.out⟩
def Zef (l:List Pt)(is:List Nat)(i n:Nat):List Int:=
 if i=0\/i+1=is.length then [] else if Zo l (is.getD (i-1) 0) (is.getD (i+1) 0) n=0 then [min ((is.getD (i-1) 0:Nat):Int) ((is.getD (i+1) 0:Nat):Int),max ((is.getD (i-1) 0:Nat):Int) ((is.getD (i+1) 0:Nat):Int)] else []
theorem Z63 (B b off cap g ocap:Nat)(l:List Pt)(is:List Nat)(n i:Nat)(w:World)(hl:l.length<=61)(hlen:is.length<=61)(hlt:∀ x∈is,x<l.length)(hi:i<is.length)(hin:is.getD i 0=n)(hnd:∀ j,j<i->is.getD j 0≠n)(A:AskAt w B b off cap l)(hnear:Zv l)(hg:g<w.heap.size)(hns:Xc w g 0 is) :
  Calls prog 175 #[.slice (some ⟨g,0,none⟩) is.length ocap,int i64 (n:Int),Zaw B] w fun e w'=>
   ∃ a c,e= .returned (.slice a (Zef l is i n).length c)/\Zy w' a (Zef l is i n)/\Below w.heap.size w w':=by
 have hnl:n<l.length:=by rw[<-hin];exact hlt _ (Xu hi)
 have O:=Zb w (.cells #[.func (.func 34) #[] #[.pointer (some ⟨B,0,none⟩)],.func (.func 36) #[] #[.pointer (some ⟨B,0,none⟩)]] 60);have x0:(w.alloc (.cells #[.func (.func 34) #[] #[.pointer (some ⟨B,0,none⟩)],.func (.func 36) #[] #[.pointer (some ⟨B,0,none⟩)]] 60)).cell? ⟨w.heap.size,0,none⟩=some (.func (.func 34) #[] #[.pointer (some ⟨B,0,none⟩)]):=by rw[World.cell?_alloc_at _ _ _ _ (by simp)];rfl
 have HI:=Z6n g ocap is n (w.alloc (.cells #[.func (.func 34) #[] #[.pointer (some ⟨B,0,none⟩)],.func (.func 36) #[] #[.pointer (some ⟨B,0,none⟩)]] 60)) (by omega) (L3 hg O.size) (hns.below O hg) i hi hin hnd;have HAW:Hid (AskAt (w.alloc (.cells #[.func (.func 34) #[] #[.pointer (some ⟨B,0,none⟩)],.func (.func 36) #[] #[.pointer (some ⟨B,0,none⟩)]] 60)) B b off cap l):=A.below O (Nat.le_refl _);have HNW:Hid (Xc (w.alloc (.cells #[.func (.func 34) #[] #[.pointer (some ⟨B,0,none⟩)],.func (.func 36) #[] #[.pointer (some ⟨B,0,none⟩)]] 60)) g 0 is):=hns.below O hg;have HNR:Hid (Zv l):=hnear;have HLT:Hid (∀ x∈is,x<l.length):=hlt;have I:Hid (Zef l is i n=if i=0\/i+1=is.length then [] else if Zo l (is.getD (i-1) 0) (is.getD (i+1) 0) n=0 then [min ((is.getD (i-1) 0:Nat):Int) ((is.getD (i+1) 0:Nat):Int),max ((is.getD (i-1) 0:Nat):Int) ((is.getD (i+1) 0:Nat):Int)] else []):=rfl;have Y:Hid (Below w.heap.size w (w.alloc (.cells #[.func (.func 34) #[] #[.pointer (some ⟨B,0,none⟩)],.func (.func 36) #[] #[.pointer (some ⟨B,0,none⟩)]] 60))):=O;clear A hnear hns hlt hin hnd O;by_cases h0:i=0
 ·subst h0;rw[if_pos (.inl rfl)] at I;go_enter func175,ntmps175;go_wp2_with (first|(go_at_call 188;refine HI.mono ?_;rintro e J ⟨rfl,rfl⟩))
  go_ret;rw[I.out];exact⟨none,0,rfl,(fun j Z=>by cases Z),Y.out⟩
 ·have q0:((i:Int) == 0)=false:=beq_eq_false_iff_ne.2 (by omega);have q0':¬ ((i:Int)=0):=by omega
  have wr1:IntKind.i64.wrap ((is.length:Int)-1)=(is.length:Int)-1:=Zd (by omega) (by omega);by_cases h1:i+1=is.length
  ·rw[if_pos (.inr h1)] at I;have q1:((i:Int) == (is.length:Int)-1)=true:=beq_iff_eq.2 (by omega);have q1':(i:Int)=(is.length:Int)-1:=by omega
   clear h1;go_enter func175,ntmps175;go_wp2_with (first|(go_at_call 188;refine HI.mono ?_;rintro e J ⟨rfl,rfl⟩))
   go_ret;rw[I.out];exact⟨none,0,rfl,(fun j Z=>by cases Z),Y.out⟩
  ·rw[if_neg (by omega)] at I;have q1:((i:Int) == (is.length:Int)-1)=false:=beq_eq_false_iff_ne.2 (by omega);have q1':¬ ((i:Int)=(is.length:Int)-1):=by omega
   have hu:=HLT.out _ (Xu (show i-1<is.length by omega));have hv:=HLT.out _ (Xu (show i+1<is.length by omega));have c1:=HNW.out (i-1) (by omega);have c2:=HNW.out (i+1) (by omega);rw[Nat.zero_add] at c1 c2;have wr2:IntKind.i64.wrap ((i:Int)-1)=((i-1:Nat):Int):=by rw[Zd (by omega) (by omega)];omega
   have wr3:IntKind.i64.wrap ((i:Int)+1)=((i+1:Nat):Int):=by rw[Zd (by omega) (by omega)];omega
   have p1:(0:Int)<=((i-1:Nat):Int):=by omega
   have p2:((i-1:Nat):Int)<(is.length:Int):=by omega
   have p3:(0:Int)<=((i+1:Nat):Int):=by omega
   have p4:((i+1:Nat):Int)<(is.length:Int):=by omega
   generalize hU:i-1=iU at *
   generalize hV:i+1=iV at *
   generalize is.getD iU 0=u at *
   generalize is.getD iV 0=v at *
   go_enter func175,ntmps175;go_wp2_with (first|(go_at_call 188;refine HI.mono ?_;rintro e J ⟨rfl,rfl⟩))
   generalize w.alloc (.cells #[.func (.func 34) #[] #[.pointer (some ⟨B,0,none⟩)],.func (.func 36) #[] #[.pointer (some ⟨B,0,none⟩)]] 60)=W at *
   have hxW:w.heap.size<W.heap.size:=Yn x0;have HA:=fun q=>Zc3 B b off cap l u v n (W.drewN q) hu hv hnl (by omega) HAW.out.hb HAW.out.hB HAW.out.cell HAW.out.pts HNR.out
   rw[show sg (Zk (px l u) (py l u) (px l v) (py l v) (px l n) (py l n))=Zo l u v n from rfl] at HA;generalize hSS:Zo l u v n=S at *
   clear hSS;by_cases hS:S=0
   ·subst hS;rw[if_pos rfl] at I;clear HI;go_quiet (fail);go_wp2_with (first|(go_at_call 34;refine (HA _).mono ?_;rintro e J ⟨rfl,D⟩)|(go_at_call 189;refine (Zkx _ _ _).mono ?_;rintro e w2 ⟨rfl,hown,hb2⟩))
    have HR:Hid (Zy w2 (some ⟨J.heap.size,0,none⟩) [min (u:Int) v,max (u:Int) v]/\Below w.heap.size w w2):=⟨Zk1 hown,Y.out.trans (Below.mono (Below.trans (⟨D.os,D.tape,D.output,D.size,D.block⟩:Below W.heap.size W J) (hb2.mono D.size)) Y.out.size)⟩;clear hown D hb2;go_ret;rw[I.out];exact⟨_,_,rfl,HR.out⟩
   ·rw[if_neg hS] at I;have qS:(S != 0)=true:=by simpa using hS
    clear HI;go_quiet (fail);go_wp2_with (first|(go_at_call 34;refine (HA _).mono ?_;rintro e J ⟨rfl,D⟩))
    go_ret;rw[I.out];exact⟨none,0,rfl,(fun j Z=>by cases Z),Y.out.trans ((⟨D.os,D.tape,D.output,D.size,D.block⟩:Below W.heap.size W J).mono Y.out.size)⟩
theorem Zk3 {W:World}{R:Nat}{Y a1 a2 a3:Value}{T:TypeId}(h:W.heap[R]? =some (.cells #[Y,a1,a2,a3] T (0,0)))(J I D O:Value) :
  ∃ X,((((W.setCell ⟨R,0,none⟩ J).setCell ⟨R,1,none⟩ I).setCell ⟨R,2,none⟩ D).setCell ⟨R,3,none⟩ O)=X/\X.cell? ⟨R,0,none⟩=some J/\X.cell? ⟨R,1,none⟩=some I/\X.cell? ⟨R,2,none⟩=some D/\X.cell? ⟨R,3,none⟩=some O/\∀ N,N<=R->Below N W X:=by
 have Z:=heap_setCell_same W R 0 _ _ J h;have k1:=heap_setCell_same _ R 1 _ _ I Z;have k2:=heap_setCell_same _ R 2 _ _ D k1;have k3:=heap_setCell_same _ R 3 _ _ O k2;refine⟨_,rfl,?_,?_,?_,?_,fun N e=>((((Below.refl N W).setCell (p:=⟨R,0,none⟩) e J).setCell (p:=⟨R,1,none⟩) e I).setCell (p:=⟨R,2,none⟩) e D).setCell (p:=⟨R,3,none⟩) e O⟩ <;> (simp only[World.cell?,k3];rfl)
def ofK (nums e:List Int)(k j:Nat):Int:=if j<k then Yc nums (e.getD j (-1)) else -1
theorem Z64 (m:Nat)(pts:List Pt)(nums:List Int)(ever:Nat)(vA vN:Value)(a:Option Addr)(c:Nat)(D:List Int)(w:World)(H:PRow w m pts nums ever vA vN)(hn60:nums.length<=60)(hlen:D.length<=3)(hr:∀ x∈D,0<=x/\x<nums.length)(hN:Zy w a D) :
  Calls prog 152 #[.pointer (some ⟨m,0,none⟩),.slice a D.length c] w fun e w'=>
   e= .returned (.agg #[int i64 (Zct D.length),int i64 (Yc nums (D.getD 0 (-1))),int i64 (Yc nums (D.getD 1 (-1))),int i64 (Yc nums (D.getD 2 (-1)))])/\Below w.heap.size w w':=by
 obtain⟨na,nc,rfl⟩:=Zn H.ownN;have HH:Hid (PRow w m pts nums ever vA (.slice na nums.length nc)):=H;have HR:Hid (∀ x∈D,0<=x/\x<nums.length):=hr;have HN:Hid (Zy w a D):=hN;clear H hr hN;have y0:(0:Int)<=(D.length:Int):=by omega
 have y1:(D.length:Int)<4:=by omega
 go_enter func152,ntmps152;go_upto_region 2 with fail;have hb0:=Yq w (.cells #[int i64 0,int i64 0,int i64 0,int i64 0] 155) (.cells #[int i64 0,int i64 3,int i64 2,int i64 1] 229);have x0:((w.alloc (.cells #[int i64 0,int i64 0,int i64 0,int i64 0] 155)).alloc (.cells #[int i64 0,int i64 3,int i64 2,int i64 1] 229)).cell? ⟨w.heap.size+1,D.length,none⟩=some (int i64 (Zct D.length)):=by
  rw[World.cell?_alloc_at _ _ _ _ (by simp)];have hcs:D.length=0\/D.length=1\/D.length=2\/D.length=3:=by omega
  rcases hcs with h|h|h|h <;> rw[h] <;> rfl
 have x1:((w.alloc (.cells #[int i64 0,int i64 0,int i64 0,int i64 0] 155)).alloc (.cells #[int i64 0,int i64 3,int i64 2,int i64 1] 229)).heap[w.heap.size]? =some (.cells #[int i64 0,int i64 0,int i64 0,int i64 0] 155 (0,0)):=by
  rw[Below.heap_alloc _ _ _ (by simp)];exact Zda _ _
 have hs0:((w.alloc (.cells #[int i64 0,int i64 0,int i64 0,int i64 0] 155)).alloc (.cells #[int i64 0,int i64 3,int i64 2,int i64 1] 229)).heap.size=w.heap.size+2:=by simp
 generalize (w.alloc (.cells #[int i64 0,int i64 0,int i64 0,int i64 0] 155)).alloc (.cells #[int i64 0,int i64 3,int i64 2,int i64 1] 229)=W at *
 have HB0:Hid (Below w.heap.size w W):=hb0;have HHW:Hid (PRow W m pts nums ever vA (.slice na nums.length nc)):=HH.out.below hb0;have HNW:Hid (Zy W a D):=HN.out.below hb0;clear hb0 HH HN;go_wp2_with fail
 have hb1:=Zb W (.cells #[int i64 (Zct D.length),int i64 (-1),int i64 (-1),int i64 (-1)] 155);have z0:(W.alloc (.cells #[int i64 (Zct D.length),int i64 (-1),int i64 (-1),int i64 (-1)] 155)).heap[w.heap.size+2]? =some (.cells #[int i64 (Zct D.length),int i64 (ofK nums D 0 0),int i64 (ofK nums D 0 1),int i64 (ofK nums D 0 2)] 155 (0,0)):=by
  rw[<-hs0];exact Zda _ _
 have hs1:(W.alloc (.cells #[int i64 (Zct D.length),int i64 (-1),int i64 (-1),int i64 (-1)] 155)).heap.size=w.heap.size+3:=by simp;omega
 have HB1:Hid (Below (w.heap.size+2) W (W.alloc (.cells #[int i64 (Zct D.length),int i64 (-1),int i64 (-1),int i64 (-1)] 155))):=by rw[<-hs0];exact hb1
 generalize W.alloc (.cells #[int i64 (Zct D.length),int i64 (-1),int i64 (-1),int i64 (-1)] 155)=U at *
 clear hb1 x0;obtain⟨kd,hkd⟩:∃ kd,Zct D.length=kd:=⟨_,rfl⟩;have HKD:Hid (Zct D.length=kd):=hkd;rw[hkd] at z0 ⊢;clear hkd;generalize hPB:w.heap.size+2=I at *
 go_loopw [18] (fun s18 wr=>∃ k:Nat,k<=D.length/\s18=int i64 k/\wr.heap[I]? =some (.cells #[int i64 kd,int i64 (ofK nums D k 0),int i64 (ofK nums D k 1),int i64 (ofK nums D k 2)] 155 (0,0))/\Below I U wr) (fun i _=>D.length-(intOf i).toNat)
 case atStart=>exact⟨0,Nat.zero_le _,rfl,z0,Below.refl _ _⟩
 case round=>
  obtain⟨k,hk,rfl,O,hbr⟩:=hrel;have hBW:Below I W wr:=HB1.out.trans hbr;have HBW:Hid (Below I W wr):=hBW;have HHr:=HHW.out.below (hBW.mono (by omega));by_cases hkl:k<D.length
  ·obtain⟨G,rfl,cH⟩:=HNW.out.below (hBW.mono (by omega)) k hkl;have hmem:D.getD k 0∈D:=Zie hkl;obtain⟨r1,r2⟩:=HR.out _ hmem;obtain⟨q,eq⟩:∃ q:Nat,D.getD k 0=(q:Int):=⟨_,(Int.toNat_of_nonneg r1).symm⟩;rw[eq] at cH r2;obtain⟨G2,rfl,cN⟩:=Zy.of_own HHr.ownN q (by omega);have c1:=HHr.cells.2.1;have HV:Hid (Yc nums (D.getD k (-1))=nums.getD q 0):=by
    have e:D.getD k (-1)=D.getD k 0:=by simp[hkl]
    unfold Hid Yc;rw[e,eq,if_pos (by omega),Int.toNat_natCast]
   have J:Hid (∀ j,j<3->ofK nums D (k+1) j=if j=k then nums.getD q 0 else ofK nums D k j):=fun j _=>by
    unfold ofK;by_cases e:j=k
    ·subst e;rw[if_pos (by omega),if_pos rfl,HV.out]
    ·rw[if_neg e];by_cases h:j<k
     ·rw[if_pos (by omega),if_pos h]
     ·rw[if_neg (by omega),if_neg h]
   have y0:(0:Int)<=(k:Int):=by omega
   have y1:(k:Int)<(D.length:Int):=by omega
   have y2:(0:Int)<=(q:Int):=by omega
   have y3:(q:Int)<(nums.length:Int):=by omega
   have y5:(k:Int)<3:=by omega
   have y4:IntKind.i64.wrap ((k:Int)+1)=(k:Int)+1:=Zd (by omega) (by omega);have pc:∀ j,wr.frozen? ⟨I,j,none⟩=false:=fun j=>by simp[World.frozen?,O]
   have HP:Hid (wr.heap[I]? =some (.cells #[int i64 kd,int i64 (ofK nums D k 0),int i64 (ofK nums D k 1),int i64 (ofK nums D k 2)] 155 (0,0))):=O;have HBR:Hid (Below I U wr):=hbr;clear hmem r1 r2 eq HV hbr hBW HHr;generalize nums.getD q 0=Y at *
   have hcs:k=0\/k=1\/k=2:=by omega
   rcases hcs with rfl|rfl|rfl
   ·have p0:wr.cell? ⟨I,1,none⟩=some (int i64 (ofK nums D 0 0)):=by simp[World.cell?,O]
    have pf:=pc 1;have st:=heap_setCell_same wr I 1 _ _ (int i64 Y) HP.out;have Z:Hid ((wr.setCell ⟨I,1,none⟩ (int i64 Y)).heap[I]? =some (.cells #[int i64 kd,int i64 (ofK nums D (0+1) 0),int i64 (ofK nums D (0+1) 1),int i64 (ofK nums D (0+1) 2)] 155 (0,0))/\Below I U (wr.setCell ⟨I,1,none⟩ (int i64 Y))):=by
     refine⟨?_,HBR.out.setCell (Nat.le_refl _) _⟩;rw[J.out 0 (by omega),J.out 1 (by omega),J.out 2 (by omega),st];rfl
    clear st HP J O pc HBR;generalize ofK nums D 0 0=ov at *
    go_wp2
    go_roundw;case rel=>exact⟨0+1,by omega,by go_num,Z.out.1,Z.out.2⟩
    case measure=>simp[intOf];omega
   ·have p0:wr.cell? ⟨I,2,none⟩=some (int i64 (ofK nums D 1 1)):=by simp[World.cell?,O]
    have pf:=pc 2;have st:=heap_setCell_same wr I 2 _ _ (int i64 Y) HP.out;have Z:Hid ((wr.setCell ⟨I,2,none⟩ (int i64 Y)).heap[I]? =some (.cells #[int i64 kd,int i64 (ofK nums D (1+1) 0),int i64 (ofK nums D (1+1) 1),int i64 (ofK nums D (1+1) 2)] 155 (0,0))/\Below I U (wr.setCell ⟨I,2,none⟩ (int i64 Y))):=by
     refine⟨?_,HBR.out.setCell (Nat.le_refl _) _⟩;rw[J.out 0 (by omega),J.out 1 (by omega),J.out 2 (by omega),st];rfl
    clear st HP J O pc HBR;generalize ofK nums D 1 1=ov at *
    go_wp2
    go_roundw;case rel=>exact⟨1+1,by omega,by go_num,Z.out.1,Z.out.2⟩
    case measure=>simp[intOf];omega
   ·have p0:wr.cell? ⟨I,3,none⟩=some (int i64 (ofK nums D 2 2)):=by simp[World.cell?,O]
    have pf:=pc 3;have st:=heap_setCell_same wr I 3 _ _ (int i64 Y) HP.out;have Z:Hid ((wr.setCell ⟨I,3,none⟩ (int i64 Y)).heap[I]? =some (.cells #[int i64 kd,int i64 (ofK nums D (2+1) 0),int i64 (ofK nums D (2+1) 1),int i64 (ofK nums D (2+1) 2)] 155 (0,0))/\Below I U (wr.setCell ⟨I,3,none⟩ (int i64 Y))):=by
     refine⟨?_,HBR.out.setCell (Nat.le_refl _) _⟩;rw[J.out 0 (by omega),J.out 1 (by omega),J.out 2 (by omega),st];rfl
    clear st HP J O pc HBR;generalize ofK nums D 2 2=ov at *
    go_wp2
    go_roundw;case rel=>exact⟨2+1,by omega,by go_num,Z.out.1,Z.out.2⟩
    case measure=>simp[intOf];omega
  ·have ek:k=D.length:=by omega
   subst ek;have HOF:Hid (∀ j,ofK nums D D.length j=Yc nums (D.getD j (-1))):=fun j=>by
    unfold ofK;by_cases h:j<D.length
    ·rw[if_pos h]
    ·rw[if_neg h];have:D.getD j (-1)= -1:=by simp[Nat.le_of_not_lt h]
     rw[this];rfl
   have hq:wr.heap[w.heap.size]? =some (.cells #[int i64 0,int i64 0,int i64 0,int i64 0] 155 (0,0)):=by rw[hBW.block _ (by omega)];exact x1
   obtain⟨a0,a1,a2,a3⟩:wr.cell? ⟨I,0,none⟩=some (int i64 kd)/\wr.cell? ⟨I,1,none⟩=some (int i64 (ofK nums D D.length 0))/\wr.cell? ⟨I,2,none⟩=some (int i64 (ofK nums D D.length 1))/\wr.cell? ⟨I,3,none⟩=some (int i64 (ofK nums D D.length 2)):=by simp[World.cell?,O]
   obtain⟨b0,b1,b2,b3⟩:wr.cell? ⟨w.heap.size,0,none⟩=some (int i64 0)/\wr.cell? ⟨w.heap.size,1,none⟩=some (int i64 0)/\wr.cell? ⟨w.heap.size,2,none⟩=some (int i64 0)/\wr.cell? ⟨w.heap.size,3,none⟩=some (int i64 0):=by simp[World.cell?,hq]
   have f0:wr.frozen? ⟨w.heap.size,0,none⟩=false:=by simp[World.frozen?,hq]
   have f1:wr.frozen? ⟨w.heap.size,1,none⟩=false:=by simp[World.frozen?,hq]
   have f2:wr.frozen? ⟨w.heap.size,2,none⟩=false:=by simp[World.frozen?,hq]
   have f3:wr.frozen? ⟨w.heap.size,3,none⟩=false:=by simp[World.frozen?,hq]
   have HBF:Hid (Below w.heap.size w wr):=HB0.out.trans (HBW.out.mono (by omega));rw[HOF.out 0] at a1;rw[HOF.out 1] at a2;rw[HOF.out 2] at a3;generalize ho0:Yc nums (D.getD 0 (-1))=o0 at *
   generalize ho1:Yc nums (D.getD 1 (-1))=o1 at *
   generalize ho2:Yc nums (D.getD 2 (-1))=o2 at *
   have HO0:Hid (Yc nums (D.getD 0 (-1))=o0):=ho0;have HO1:Hid (Yc nums (D.getD 1 (-1))=o1):=ho1;have HO2:Hid (Yc nums (D.getD 2 (-1))=o2):=ho2;clear ho0 ho1 ho2;obtain⟨X,hX,z0,z1,z2,z3,hbX⟩:=Zk3 hq (int i64 kd) (int i64 o0) (int i64 o1) (int i64 o2);have HBX:Hid (Below w.heap.size w X):=HBF.out.trans (hbX w.heap.size (Nat.le_refl _));clear O hq HHr hbr hBW HOF hbX;go_wp2
   refine bodyPost_ret (v:=.agg #[int i64 kd,int i64 o0,int i64 o1,int i64 o2]) (by simp[results,results152,go_sem,z0,z1,z2,z3]) rfl ⟨?_,HBX.out⟩;rw[HKD.out,HO0.out,HO1.out,HO2.out]
theorem Z65 (a:Option Addr)(c:Nat)(pts:List Pt)(w:World)(hl:pts.length<=60)(h:w.ownsRow 0 37 2 (.slice a pts.length c) pts.length (Zg pts)) :
  Calls prog 174 #[.slice a pts.length c] w fun e w'=>∃ v,e= .returned v/\w'.ownsRow w.heap.size 37 2 v pts.length (Zg pts)/\Below w.heap.size w w':=by
 obtain⟨iP,hiP,hzP,hsP,hbP⟩:=info_parts Zdk;have hq0:∀ w,(binOp .eql 41 (.slice none 0 0) (.slice none 0 0)).run prog w= .ok (.bool true) w:=fun w=>Lib.run_eql_slice_nil w _ _ none 0 0 0 0 underlying41
 rcases h.2 with ⟨e,h0⟩|⟨g,cap,cur,e,_,hg,hnc,hcm,hcs,htk⟩
 ·have I:pts=[]:=List.length_eq_zero_iff.1 h0;subst I;rw[e];clear h e;go_enter func174,ntmps174;go_wp2
  go_ret;exact⟨_,rfl,⟨rfl,.inl ⟨rfl,rfl⟩⟩,Below.refl _ _⟩
 ·cases e;have hq:∀ w n,(binOp .eql 41 (.slice (some ⟨g,0,none⟩) n c) (.slice none 0 0)).run prog w= .ok (.bool false) w:=fun w n=>Lib.run_eql_slice_nil w _ _ (some ⟨g,0,none⟩) n c 0 0 underlying41
  have ac:∀ j u,(Zg pts)[j]? =some u->w.cell? ⟨g,j,none⟩=some u:=fun j u J=>by
   have O:=(List.getElem?_eq_some_iff.1 J).1;rw[h.cellAt j (by rw[Zbw] at O;exact O)];exact J
  have hgl:g<w.heap.size:=Zh hg;by_cases I:pts=[]
  ·subst I;clear h htk ac;go_enter func174,ntmps174;go_wp2
   go_ret;exact⟨_,rfl,⟨rfl,.inr ⟨_,0,_,rfl,Nat.le_refl _,Zda _ _,Nat.le_refl _,Nat.zero_le _,rfl,rfl⟩⟩,Zb _ _⟩
  ·have hl0:=List.length_pos_iff.2 I;clear h;go_enter func174,ntmps174;go_wp2_with (at_builtin;refine Xv _ (by rfl) (.tmp 5) (.tmp 6) 41 (by rfl) w.heap.size 37 iP (.agg #[int i64 0,int i64 0]) 2 16 underlying41 hiP hzP hsP hbP rfl (by decide) _ 0 [] (by rfl) (show _ from ⟨rfl,.inr ⟨w.heap.size,0,#[],rfl,Nat.le_refl _,Zda _ _,Nat.le_refl _,Nat.zero_le _,rfl,rfl⟩⟩) ⟨g,0,none⟩ pts.length c (Zg pts) (by rfl) ?c0 ?c1 ?c2 hl0 ?c3 ?c4 ?c5 (w.heap.size+1) ?c6 ?_)
   case c0=>exact Zbw pts
   case c1=>
    intro j u O;rw[Addr.add_lit,Nat.zero_add,World.cell?_alloc_past _ _ _ hgl];exact ac j u O
   case c2=>
    intro u J;unfold Zg at J;obtain⟨p,_,I⟩:=List.mem_flatMap.1 J;simp at I;rcases I with rfl|rfl <;> rfl
   case c3=>unfold maxLen;omega
   case c4=>omega
   case c5=>simp
   case c6=>simp
   ·intro g2 cap2 w3 ab aa hlt3;have HR:Hid (w3.ownsRow w.heap.size 37 2 (.slice (some ⟨g2,0,none⟩) pts.length cap2) pts.length (Zg pts)/\Below w.heap.size w w3):=by
     refine⟨ab,?_⟩;have Y:=Zb w (.cells #[] 37);rcases aa with ⟨e,D⟩|⟨e,D⟩
     ·cases e;exact Y.trans ⟨D.os,D.tape,D.output,D.size,fun k Z=>D.block k (by simp;omega) (fun e=>by cases e;exact Nat.lt_irrefl _ Z)⟩
     ·exact Y.trans ⟨D.os,D.tape,D.output,D.size,fun k Z=>D.block k (by simp;omega) (fun e=>by cases e)⟩
    clear ab aa;go_wp2
    go_ret;exact⟨_,rfl,HR.out⟩
theorem Zt0 (m:Nat)(pts:List Pt)(nums:List Int)(ever:Nat)(vA vN:Value)(w:World)(H:PRow w m pts nums ever vA vN)(J:MOk pts nums ever) :
  Calls prog 151 #[.pointer (some ⟨m,0,none⟩)] w fun e w'=>
   ∃ v ts,e= .returned v/\w'.ownsRow w.heap.size 53 3 v ts.length (Zj ts)/\Xr pts ts/\ts.length<=4000/\Below w.heap.size w w':=by
 obtain⟨pa,pc,rfl⟩:=Zn H.ownA;have HNEAR:Hid (Zv pts):=J.near;have HND:Hid (pts.Nodup):=J.nd;have hle:=J.le;have c0:=H.cells.1;have hm:=H.lt;by_cases Z:pts=[]
 ·subst Z;clear H J;go_enter func151,ntmps151;go_wp2_with fail
  go_region_held3 (fun w'=>Below w.heap.size w w'/\∀ b o,b<w.heap.size->w'.cell? ⟨b,o,none⟩=w.cell? ⟨b,o,none⟩) (first|exact Yw _|exact Yx (by assumption) D)
   (first
     | (go_at_call 28; refine (Zi5 _ _ _).mono ?_; rintro e w2 ⟨g, rfl, hg, aa, D⟩)
     | (go_at_call 17; refine (Zc2 _ _ _ _).mono ?_; rintro e w3 ⟨B, hB1, hB2, hcB, rfl, D⟩)
     | (go_at_call 27; refine (Zr1 _ _ _ _).mono ?_; rintro e w4 ⟨rfl, D⟩))
  rename_i O;have HB:Hid (Below w.heap.size w w4):=O.1;clear O;go_wp2
  go_ret;exact⟨_,[],rfl,⟨rfl,.inl ⟨rfl,rfl⟩⟩,⟨[],⟨List.Perm.refl _,(fun i j _ h=>by cases h)⟩,.inl ⟨(fun j _ h=>by cases h),rfl⟩⟩,by simp,HB.out⟩
 ·obtain⟨n,hn⟩:∃ n,pts.length=n+1:=⟨pts.length-1,by have:=List.length_pos_iff.2 Z;omega⟩;obtain⟨b,I,rfl,hb,hp⟩:∃ b I,pa=some ⟨b,I,none⟩/\b<w.heap.size/\Zp w b I pts:=(Z2.raw' H.ownA).resolve_left Z;have HP:Hid (Zp w b I pts):=hp;have HO:=Zhf b I pc pts n w.drew hn hle hb hp;have HC:∀ B g is W,InOrder pts is->AskAt W B b I pc pts->g<W.heap.size->Xc W g 0 is->Calls prog 27 #[.slice (some ⟨g,0,none⟩) pts.length pts.length,Zaw B] W _:=fun B g is W Y A hg his=>by
   have:=Zm5 B b I pc g pts.length pts is W hle Y HND.out A HNEAR.out hg his;rw[Y.len] at this;exact this
  clear H J hp hn Z;go_enter func151,ntmps151;go_wp2_with fail
  go_region_held3 (fun w'=>Below w.heap.size w w'/\∀ b o,b<w.heap.size->w'.cell? ⟨b,o,none⟩=w.cell? ⟨b,o,none⟩) (first|exact Yw _|exact Yx (by assumption) D)
   (first
     | (go_at_call 28; refine HO.mono ?_; rintro e w2 ⟨g, is, rfl, hg, aa, D, hns, hfz, Y⟩
        have hbO : Below w.heap.size w w2 := ⟨D.os, D.tape, D.output, D.size, D.block⟩)
     | (go_at_call 17; refine (Zc2 _ _ _ _).mono ?_; rintro e w3 ⟨B, hB1, hB2, hcB, rfl, D⟩
        have hbA := D
        have hW3 : Below w.heap.size w w3 := hbO.trans (D.mono hbO.size)
        have HA : Hid (AskAt w3 B b I pc pts) := ⟨hB2, L3 hb hW3.size, hcB, HP.out.below hW3 hb⟩
        have HNS : Hid (Xc w3 g 0 is) := hns.below hbA aa
        have hg3 : g < w3.heap.size := L3 aa hbA.size)
     | (go_at_call 27; refine (HC B g is _ Y HA.out hg3 HNS.out).mono ?_; rintro e w4 ⟨v, ts, rfl, hown, hspec, hlen, D⟩))
  rename_i O;have HR:Hid (w4.ownsRow w.heap.size 53 3 v ts.length (Zj ts)/\Xr pts ts/\ts.length<=4000/\Below w.heap.size w w4):=⟨Zm4 hown hW3.size,hspec,hlen,O.1⟩;clear O hown hspec hlen D hcB hns hfz Y HC HO;go_wp2
  go_ret;exact⟨v,ts,rfl,HR.out⟩
theorem Z66 (l:List Pt)(p:Pt)(e:Zv l)(D:Near p.1 p.2){k:Nat}(J:k<l.length)(O:0<k):Z1 l p (k+1)=if dst (Za l k) p<dst (pOf l (Z1 l p k)) p then (k:Int) else Z1 l p k:=by
 obtain⟨g0,Z⟩:=Zgx l p k O;have I:Near (Za l k).1 (Za l k).2:=e k J;have Y:Near (pOf l (Z1 l p k)).1 (pOf l (Z1 l p k)).2:=e (Z1 l p k).toNat (by omega);rw[Z1,Zsv I D,Zsv Y D];by_cases h:dst (Za l k) p<dst (pOf l (Z1 l p k)) p
 ·rw[if_pos h,if_pos (.inr h)]
 ·rw[if_neg h,if_neg (by omega)]
def Zn8 (pts:List Pt)(nums:List Int)(p:Pt)(n e:Int):Prop:=
 (Zc p.1 p.2=true/\n=0/\e=1)\/(Zc p.1 p.2=false/\pts=[]/\n=0/\e=4)\/(Zc p.1 p.2=false/\pts≠ []/\e=0/\n=Yc nums (Z1 pts p pts.length))
theorem Z67 (w:World)(o:Obj)(I D:Int)(T:TypeId):Zp ((w.alloc o).alloc (.cells #[int i64 I,int i64 D] T)) (w.heap.size+1) 0 [(I,D)]:=by
 intro j e;have e:j=0:=by simp at e;omega
 subst e;rw[World.cell?_alloc_at _ _ _ _ (by simp),World.cell?_alloc_at _ _ _ _ (by simp)];exact⟨rfl,rfl⟩
theorem Zk4 (D e:Int):Ya [(D,e)]=Zc D e:=by simp[Ya]
theorem Z68 (m:Nat)(pts:List Pt)(nums:List Int)(ever:Nat)(vA vN:Value)(px py:Int)(w:World)(H:PRow w m pts nums ever vA vN)(ab:MOk pts nums ever) :
  Calls prog 104 #[.pointer (some ⟨m,0,none⟩),.agg #[int i64 px,int i64 py]] w fun e w'=>∃ n r,e= .returned (.tuple #[int i64 n,int i64 r])/\Zn8 pts nums (px,py) n r/\Below w.heap.size w w':=by
 have hle:=ab.le;have hn60:nums.length<=60:=by have:=ab.len;omega
 have HLN:Hid (pts.length=nums.length):=ab.len;have HNEAR:Hid (Zv pts):=ab.near;have hb0:=Yq w (.cells #[int i64 px,int i64 py] 37) (.cells #[int i64 px,int i64 py] 37);have HP1:Hid (Zp ((w.alloc (.cells #[int i64 px,int i64 py] 37)).alloc (.cells #[int i64 px,int i64 py] 37)) (w.heap.size+1) 0 [(px,py)]):=Z67 _ _ _ _ _;obtain⟨pa,pc,rfl⟩:=Zn H.ownA;obtain⟨na,nc,rfl⟩:=Zn H.ownN;have HH:Hid (PRow w m pts nums ever (.slice pa pts.length pc) (.slice na nums.length nc)):=H;cases ac:Zc px py with
 | true=>
  have HI:Hid (Zc px py=true):=ac;clear H ab;go_enter func104,ntmps104;go_wp2_with (go_at_call 16;refine (Zc1 _ 0 1 [(px,py)] _ (by simp) (by simp) HP1.out).mono ?_;rintro e O ⟨rfl,I⟩;rw[Zk4,ac])
  go_ret2;exact⟨0,1,rfl,.inl ⟨HI.out,rfl,rfl⟩,hb0.trans (I.mono hb0.size)⟩
 | false=>
  have x0:((w.alloc (.cells #[int i64 px,int i64 py] 37)).alloc (.cells #[int i64 px,int i64 py] 37)).cell? ⟨w.heap.size,0,none⟩=some (int i64 px):=by
   rw[World.cell?_alloc_past _ _ _ (by simp),World.cell?_alloc_at _ _ _ _ (by simp)];rfl
  have x1:((w.alloc (.cells #[int i64 px,int i64 py] 37)).alloc (.cells #[int i64 px,int i64 py] 37)).cell? ⟨w.heap.size,1,none⟩=some (int i64 py):=by
   rw[World.cell?_alloc_past _ _ _ (by simp),World.cell?_alloc_at _ _ _ _ (by simp)];rfl
  have af:Hid (Near px py):=Xp ac;have HF:Hid (Zc px py=false):=ac;go_enter func104,ntmps104;go_upto_region 3 with (go_at_call 16;refine (Zc1 _ 0 1 [(px,py)] _ (by simp) (by simp) HP1.out).mono ?_;rintro e O ⟨rfl,I⟩;rw[Zk4,ac]);have hsz1:w.heap.size+2<=O.heap.size:=by have:=I.size;simp at this;omega
  have z0:=(I.cell (p:=⟨w.heap.size,0,none⟩) (by simp;omega)).trans x0;have z1:=(I.cell (p:=⟨w.heap.size,1,none⟩) (by simp;omega)).trans x1;have hbw:Below w.heap.size w O:=hb0.trans (I.mono hb0.size);have H1:=H.below hbw;have HBW:Hid (Below w.heap.size w O):=hbw;have HH1:Hid (PRow O m pts nums ever (.slice pa pts.length pc) (.slice na nums.length nc)):=H1;have c0:=H1.cells.1;have hm1:=H1.lt;have hx1:w.heap.size<O.heap.size:=by omega
  clear x0 x1 I hb0 HP1 H H1 hbw ab ac HH;generalize hBX:w.heap.size=BX at *
  by_cases ag:pts=[]
  ·subst ag;go_wp2
   go_ret2;rw[hBX];exact⟨0,4,rfl,.inr (.inl ⟨HF.out,rfl,rfl,rfl⟩),HBW.out⟩
  ·have hl0:=List.length_pos_iff.2 ag;have q0:((pts.length:Int) == 0)=false:=beq_eq_false_iff_ne.2 (by omega);obtain⟨b,ae,rfl,hb,hp⟩:∃ b ae,pa=some ⟨b,ae,none⟩/\b<O.heap.size/\Zp O b ae pts:=(Z2.raw' HH1.out.ownA).resolve_left ag;have HPT:Hid (Zp O b ae pts):=hp;have HP0:Hid (pts≠ []):=ag;clear hp ag;go_wp2_with fail
   go_loopw [6,25] (fun s6 s25 wr=>∃ k:Nat,k<=pts.length/\s25=int i64 k/\s6=int i64 (if k=0 then 0 else Z1 pts (px,py) k)/\Below O.heap.size O wr) (fun _ i _=>pts.length-(intOf i).toNat)
   case atStart=>exact⟨0,Nat.zero_le _,rfl,rfl,Below.refl _ _⟩
   case round=>
    obtain⟨k,hk,rfl,rfl,J⟩:=hrel;have d0:=(J.cell (p:=⟨m,0,none⟩) hm1).trans c0;have hmr:m<wr.heap.size:=L3 hm1 J.size;by_cases hkl:k<pts.length
    ·obtain⟨c1,c2⟩:=(HPT.out.below J hb) k hkl;have q1:=(J.cell (p:=⟨BX,0,none⟩) hx1).trans z0;have q2:=(J.cell (p:=⟨BX,1,none⟩) hx1).trans z1;have hbb:b<wr.heap.size:=L3 hb J.size;have hxr:BX<wr.heap.size:=L3 hx1 J.size;have y0:(0:Int)<=(k:Int):=by omega
     have y1:(k:Int)<(pts.length:Int):=by omega
     have y4:IntKind.i64.wrap ((k:Int)+1)=(k:Int)+1:=Zd (by omega) (by omega);obtain⟨D,em,hmm⟩:∃ D:Nat,(if k=0 then 0 else Z1 pts (px,py) k)=(D:Int)/\D<pts.length:=by
      by_cases h0:k=0
      ·exact⟨0,by rw[if_pos h0];rfl,by omega⟩
      ·obtain⟨g0,g1⟩:=Zgx pts (px,py) k (by omega);exact⟨(Z1 pts (px,py) k).toNat,by rw[if_neg h0];omega,by omega⟩
     have HS:Hid (Z1 pts (px,py) (k+1)=if dst (Za pts k) (px,py)<dst (Za pts D) (px,py) then (k:Int) else (D:Int)):=by
      unfold Hid;by_cases h0:k=0
      ·subst h0;have e0:D=0:=by simp at em;omega
       subst e0;have:Z1 pts (px,py) (0+1)=0:=by simp[Z1]
       rw[this,if_neg (by omega)];rfl
      ·rw[if_neg h0] at em;rw[Z66 pts (px,py) HNEAR.out af.out hkl (by omega),em,Zby]
     rw[em];obtain⟨c3,c4⟩:=(HPT.out.below J hb) D hmm;have HN1:Hid (Near (pts.getD k (0,0)).1 (pts.getD k (0,0)).2):=HNEAR.out k hkl;have HN2:Hid (Near (pts.getD D (0,0)).1 (pts.getD D (0,0)).2):=HNEAR.out D hmm;have e1:Za pts k=((pts.getD k (0,0)).1,(pts.getD k (0,0)).2):=rfl;have e2:Za pts D=((pts.getD D (0,0)).1,(pts.getD D (0,0)).2):=rfl;rw[e1,e2] at HS;clear e1 e2 em;generalize (pts.getD k (0,0)).1=Z at *
     generalize (pts.getD k (0,0)).2=Y at *
     generalize (pts.getD D (0,0)).1=mx at *
     generalize (pts.getD D (0,0)).2=my at *
     have v0:(0:Int)<=(D:Int):=by omega
     have v1:(D:Int)<(pts.length:Int):=by omega
     go_wp2_with fail
     have aa:=Zb wr (.cells #[int i64 Z,int i64 Y] 37);have t0:(wr.alloc (.cells #[int i64 Z,int i64 Y] 37)).cell? ⟨wr.heap.size,0,none⟩=some (int i64 Z):=by rw[World.cell?_alloc_at _ _ _ _ (by simp)];rfl
     have t1:(wr.alloc (.cells #[int i64 Z,int i64 Y] 37)).cell? ⟨wr.heap.size,1,none⟩=some (int i64 Y):=by rw[World.cell?_alloc_at _ _ _ _ (by simp)];rfl
     have hsU:(wr.alloc (.cells #[int i64 Z,int i64 Y] 37)).heap.size=wr.heap.size+1:=by simp
     generalize wr.alloc (.cells #[int i64 Z,int i64 Y] 37)=U at *
     replace d0:=(aa.cell (p:=⟨m,0,none⟩) hmr).trans d0;replace q1:=(aa.cell (p:=⟨BX,0,none⟩) hxr).trans q1;replace q2:=(aa.cell (p:=⟨BX,1,none⟩) hxr).trans q2;replace c3:=(aa.cell (p:=⟨b,ae+D*2,none⟩) hbb).trans c3;replace c4:=(aa.cell (p:=⟨b,ae+D*2+1,none⟩) hbb).trans c4;clear c1 c2;have u0:m<U.heap.size:=by omega
     have u1:BX<U.heap.size:=by omega
     have u2:b<U.heap.size:=by omega
     have u3:wr.heap.size<U.heap.size:=by omega
     generalize hQB:wr.heap.size=QB at *
     generalize hd1:dst (Z,Y) (px,py)=D1 at *
     generalize hd2:dst (mx,my) (px,py)=D2 at *
     have HD1:Hid (dst (Z,Y) (px,py)=D1):=hd1;have HD2:Hid (dst (mx,my) (px,py)=D2):=hd2;clear hd1 hd2;by_cases hdd:D1<D2
     ·have HB:Hid (Z1 pts (px,py) (k+1)=(k:Int)):=by
       have:=HS.out;rw[if_pos hdd] at this;exact this
      have hdt:decide (D1<D2)=true:=decide_eq_true hdd;clear HS;go_region_held3 (fun w'=>Below U.heap.size U w'/\∀ b o,b<U.heap.size->w'.cell? ⟨b,o,none⟩=U.cell? ⟨b,o,none⟩) (first|exact Yw _|exact Yx (by assumption) I)
       (first | (go_at_call 130; first
         | (refine (Zkw px py Z Y _ af.out HN1.out).mono ?_; rintro e w' ⟨rfl, I⟩; rw [HD1.out])
         | (refine (Zkw px py mx my _ af.out HN2.out).mono ?_; rintro e w' ⟨rfl, I⟩; rw [HD2.out])))
      rename_i hS;have hR:=J.trans ((aa.trans (hS.1.mono (by omega))).mono (by have:=J.size;omega));clear hS I;go_wp2
      go_roundw;case rel=>exact⟨k+1,by omega,by go_num,by rw[if_neg (Nat.succ_ne_zero k),HB.out],hR⟩
      case measure=>simp[intOf];omega
     ·have HB:Hid (Z1 pts (px,py) (k+1)=(D:Int)):=by
       have:=HS.out;rw[if_neg hdd] at this;exact this
      have hdt:decide (D1<D2)=false:=decide_eq_false hdd;clear HS;go_region_held3 (fun w'=>Below U.heap.size U w'/\∀ b o,b<U.heap.size->w'.cell? ⟨b,o,none⟩=U.cell? ⟨b,o,none⟩) (first|exact Yw _|exact Yx (by assumption) I)
       (first | (go_at_call 130; first
         | (refine (Zkw px py Z Y _ af.out HN1.out).mono ?_; rintro e w' ⟨rfl, I⟩; rw [HD1.out])
         | (refine (Zkw px py mx my _ af.out HN2.out).mono ?_; rintro e w' ⟨rfl, I⟩; rw [HD2.out])))
      rename_i hS;have hR:=J.trans ((aa.trans (hS.1.mono (by omega))).mono (by have:=J.size;omega));clear hS I;go_wp2
      go_roundw;case rel=>exact⟨k+1,by omega,by go_num,by rw[if_neg (Nat.succ_ne_zero k),HB.out],hR⟩
      case measure=>simp[intOf];omega
    ·have ek:k=pts.length:=by omega
     subst ek;rw[if_neg (by omega)];obtain⟨g0,g1⟩:=Zgx pts (px,py) pts.length hl0;obtain⟨B,eB⟩:∃ B:Nat,Z1 pts (px,py) pts.length=(B:Int):=⟨(Z1 pts (px,py) pts.length).toNat,by omega⟩;have hBn:B<nums.length:=by have:=HLN.out;omega
     have Hr:=HH1.out.below J;have d1:=Hr.cells.2.1;obtain⟨G,rfl,cN⟩:=Zy.of_own Hr.ownN B hBn;have HR:Hid (Zn8 pts nums (px,py) (nums.getD B 0) 0):=.inr (.inr ⟨HF.out,HP0.out,rfl,by rw[eB];unfold Yc;rw[if_pos (by omega),Int.toNat_natCast]⟩);have HB2:Hid (Below BX w wr):=HBW.out.trans (J.mono (by omega));rw[eB];have v0:(0:Int)<=(B:Int):=by omega
     have v1:(B:Int)<(nums.length:Int):=by omega
     generalize nums.getD B 0=vn at *
     clear Hr HH1 J eB g0 g1;go_wp2
     go_ret2;rw[hBX];exact⟨vn,0,rfl,HR.out,HB2.out⟩
theorem Zt1 {P:Program}{o:Oper}{ρ:Operand->Value}{w:World}{R:Value->World->Prop}{x:Operand}{v:Value}(D:o.op= .assign x)(I:ρ x=v)(e:R v w):Gives P o ρ w R:=by
 refine Gives.value v w ?_ e;simp only[execOp,D,I];rfl
def Zk5 (m:Nat)(vA:Value)(px py:Int)(n:Nat):Nat->Option Value
 | 0=>some (.pointer (some ⟨m,0,none⟩))
 | 1=>some (.pointer (some ⟨m,0,none⟩))
 | 2=>some (.pointer (some ⟨m,0,none⟩))
 | 3=>some vA
 | 5=>some (pv px py)
 | 8=>some (.pointer (some ⟨m,0,none⟩))
 | 9=>some (.pointer (some ⟨m,0,none⟩))
 | 10=>some (.pointer (some ⟨m,0,none⟩))
 | 11=>some vA
 | 12=>some (int i64 (n:Int))
 | 14=>some (int i64 (n:Int))
 | _=>none
structure CloI (V:World)(m:Nat)(vA:Value)(pts:List Pt)(px py:Int)(L:Nat->Bool)(σ:Nat->Value)(w:World):Prop where
 val:∀ i v,Zk5 m vA px py pts.length i=some v->L i=true->σ i=v
 c4:L 4=true->L 7=false->w.ownsRow V.heap.size 37 2 (σ 4) pts.length (Zg pts)
 b6:L 6=true->L 7=false->∃ g,σ 6= .slice (some ⟨g,0,none⟩) 1 1/\w.heap[g]? =some (.cells #[int i64 px,int i64 py] 37 (0,0))
 a7:L 7=true->∃ g cap,σ 7= .slice (some ⟨g,0,none⟩) (pts.length+1) cap/\w.ownsRow V.heap.size 37 2 (σ 7) (pts.length+1) (Zg pts ++ [int i64 px,int i64 py])
 a13:L 13=true->σ 13=σ 7
 bel:Below V.heap.size V w
section
variable {V w w':World} {m:Nat} {vA:Value} {pts:List Pt} {px py:Int} {L:Nat->Bool} {σ:Nat->Value} {i:Nat} {v:Value}
theorem CloI.stepV (h:CloI V m vA pts px py L σ w)(J:Zk5 m vA px py pts.length i=some v):CloI V m vA pts px py (fun j=>if j=i then true else L j) (fun j=>if j=i then v else σ j) w:=by
 have ne:∀ j,Zk5 m vA px py pts.length j=none->j≠i:=fun j D e=>by rw[e,J] at D;cases D
 have Y:=ne 4 rfl;have Z:=ne 6 rfl;have I:=ne 7 rfl;have aa:=ne 13 rfl;refine⟨fun j u D O=>?_,?_,?_,?_,?_,h.bel⟩
 ·by_cases e:j=i
  ·subst e;rw[J] at D;cases D;simp
  ·simp only[if_neg e] at O ⊢;exact h.val j u D O
 ·simp only[if_neg Y,if_neg I];exact h.c4
 ·simp only[if_neg Z,if_neg I];exact h.b6
 ·simp only[if_neg I];exact h.a7
 ·simp only[if_neg aa,if_neg I];exact h.a13
theorem CloI.stepW (h:CloI V m vA pts px py L σ w) (J:Zk5 m vA px py pts.length i=none)
  (c4:(if 4=i then true else L 4)=true->(if 7=i then true else L 7)=false->w'.ownsRow V.heap.size 37 2 (if 4=i then v else σ 4) pts.length (Zg pts))
  (b6:(if 6=i then true else L 6)=true->(if 7=i then true else L 7)=false->∃ g,(if 6=i then v else σ 6)= .slice (some ⟨g,0,none⟩) 1 1/\w'.heap[g]? =some (.cells #[int i64 px,int i64 py] 37 (0,0)))
  (a7:(if 7=i then true else L 7)=true->∃ g cap,(if 7=i then v else σ 7)= .slice (some ⟨g,0,none⟩) (pts.length+1) cap/\w'.ownsRow V.heap.size 37 2 (if 7=i then v else σ 7) (pts.length+1) (Zg pts ++ [int i64 px,int i64 py]))
  (a13:(if 13=i then true else L 13)=true->(if 13=i then v else σ 13)=(if 7=i then v else σ 7)) (hb:Below V.heap.size V w') :
  CloI V m vA pts px py (fun j=>if j=i then true else L j) (fun j=>if j=i then v else σ j) w':=by
 refine⟨fun j u D I=>?_,c4,b6,a7,a13,hb⟩;have e:j≠i:=fun e=>by rw[e,J] at D;cases D
 simp only[if_neg e] at I ⊢;exact h.val j u D I
end
section
variable {pts:List Pt} {p:Pt}
theorem Zk6 {a b:Nat}(D:a<pts.length)(e:b<pts.length):Zo (pts ++ [p]) a b pts.length=sg (sd (Za pts a) (Za pts b) p):=by
 rw[Zj6,Zcf D,Zcf e,Zii]
theorem Zt2 {t:T3}(h:0<=t.1/\t.1<pts.length/\0<=t.2.1/\t.2.1<pts.length/\0<=t.2.2/\t.2.2<pts.length):Zee (pts ++ [p]) pts.length t=Zg3 pts p t:=by
 unfold Zee;rw[Zk6 (by omega) (by omega),Zk6 (by omega) (by omega),Zk6 (by omega) (by omega),Z60];rfl
theorem Z7b {ts:List T3}{J:List Int}(D:Zau pts ts)(Y:ts≠ [])(O:∀ i,i<pts.length->Za pts i≠p)(h:Zk2 (pts ++ [p]) pts.length ts J):Zed pts ts p J:=by
 rcases h with ⟨t,e,rfl,I⟩|⟨rfl,I⟩
 ·rw[Zt2 (D.nums t e)] at I ⊢;exact Z6g D O e I
 ·exact Z6h D Y O fun t e=>by rw[<-Zt2 (D.nums t e)];exact I t e
theorem Z7c {is:List Nat}{i:Nat}(J:(pts ++ [p]).Nodup)(O:InOrder (pts ++ [p]) is)(hi:i<is.length)(Y:is.getD i 0=pts.length)(hf:Zdc pts):Zed pts [] p (Zef (pts ++ [p]) is i pts.length):=by
 unfold Zef;by_cases I:i=0\/i+1=is.length
 ·rw[if_pos I];exact⟨by simp,by simp,Z6a J O hi Y I⟩
 ·rw[if_neg I];obtain⟨ha,hb,hne,h1,Z⟩:=Z6b J O (show i+1<is.length by omega) (by omega) Y hf;rw[Zk6 ha hb];by_cases D:sd (Za pts (is.getD (i-1) 0)) (Za pts (is.getD (i+1) 0)) p=0
  ·rw[if_pos ((Zdr _).2 D)];have:=Z D;refine⟨by simp,by simp only[List.mem_cons,List.not_mem_nil,or_false];rintro x (rfl|rfl) <;> omega,?_⟩;have e1:((min (is.getD (i-1) 0) (is.getD (i+1) 0):Nat):Int)=min ((is.getD (i-1) 0:Nat):Int) ((is.getD (i+1) 0:Nat):Int):=by omega
   have e2:((max (is.getD (i-1) 0) (is.getD (i+1) 0):Nat):Int)=max ((is.getD (i-1) 0:Nat):Int) ((is.getD (i+1) 0:Nat):Int):=by omega
   rw[e1,e2] at this;exact this
  ·rw[if_neg (fun e=>D ((Zdr _).1 e))];exact⟨by simp,by simp,h1 D⟩
theorem Zt3 (I:pts.Nodup)(J:Zv pts)(Y:Near p.1 p.2)(O:∀ i,i<pts.length->Za pts i≠p):(pts ++ [p]).Nodup/\Zv (pts ++ [p]):=by
 refine⟨?_,fun i hi=>?_⟩
 ·rw[List.nodup_append];refine⟨I,by simp,fun a Z b D e=>?_⟩;simp at D;subst D e;obtain⟨i,hi,e⟩:=List.getElem_of_mem Z;exact O i hi (by unfold Za px py;simp[hi,e])
 ·simp at hi;by_cases h:i<pts.length
  ·have:=J i h;have e:=Zcf (p:=p) h;unfold Za at e;rw[(Prod.mk.inj e).1,(Prod.mk.inj e).2];exact this
  ·have:i=pts.length:=by omega
   subst this;have e:=Zii pts p;unfold Za at e;rw[show px (pts ++ [p]) pts.length=p.1 from (congrArg Prod.fst e),show py (pts ++ [p]) pts.length=p.2 from (congrArg Prod.snd e)];exact Y
end
theorem Z7d (m:Nat)(pts:List Pt)(nums:List Int)(ever:Nat)(vA vN:Value)(px py:Int)(w:World)(H:PRow w m pts nums ever vA vN)(hOk:MOk pts nums ever)(J:Near px py) :
  Calls prog 153 #[.pointer (some ⟨m,0,none⟩),.agg #[int i64 px,int i64 py]] w fun e w'=>
   ∃ a c hs ts,e= .returned (.slice a hs.length c)/\Zy w' a hs/\Xr pts ts/\ts.length<=4000/\Zed pts ts (px,py) hs/\Below w.heap.size w w':=by
 have hle:=hOk.le;have HOK:Hid (MOk pts nums ever):=hOk;have HPN:Hid (Near px py):=J;obtain⟨iP,hiP,hzP,hsP,hbP⟩:=info_parts Zdk;obtain⟨pa,pc,rfl⟩:=Zn H.ownA;have hb0:=Zb w (.cells #[int i64 px,int i64 py] 37);have x0:(w.alloc (.cells #[int i64 px,int i64 py] 37)).cell? ⟨w.heap.size,0,none⟩=some (int i64 px):=by rw[World.cell?_alloc_at _ _ _ _ (by simp)];rfl
 have x1:(w.alloc (.cells #[int i64 px,int i64 py] 37)).cell? ⟨w.heap.size,1,none⟩=some (int i64 py):=by rw[World.cell?_alloc_at _ _ _ _ (by simp)];rfl
 have hs0:(w.alloc (.cells #[int i64 px,int i64 py] 37)).heap.size=w.heap.size+1:=by simp
 obtain⟨ts0,hS0,hl0⟩:=Zn6 w pts hOk.le hOk.near hOk.nd;have HTS:Hid (Xr pts ts0/\ts0.length<=4000):=⟨hS0,hl0⟩;clear J hOk hS0 hl0;go_enter func153,ntmps153;go_upto_region 1 with fail;generalize w.alloc (.cells #[int i64 px,int i64 py] 37)=W at *
 have HB0:Hid (Below w.heap.size w W):=hb0;have H1:=H.below hb0;have HH1:Hid (PRow W m pts nums ever (.slice pa pts.length pc) vN):=H1;have HRA:Hid (Z0 W pa pts):=Z2.raw' H1.ownA;have c0:=H1.cells.1;have hm1:=H1.lt;have hx1:w.heap.size<W.heap.size:=by omega
 clear hb0 H H1 hs0;generalize hBX:w.heap.size=BX at *
 go_region_held3 (fun w'=>Below W.heap.size W w'/\∀ b o,b<W.heap.size->w'.cell? ⟨b,o,none⟩=W.cell? ⟨b,o,none⟩) (first|exact Yw _|exact Yx (by assumption) hb2)
  (first|(go_at_call 171;refine (Ztv _ _ pts _ _ W.drew hle (show Z0 W.drew pa pts from HRA.out)).mono ?_;rintro e I ⟨nn,rfl,hidx,hb2⟩))
 rename_i D;have HW2:Hid (Below W.heap.size W I):=D.1;clear D hb2 HRA;rcases hidx with ⟨i,hi,he,rfl⟩|⟨hno,rfl⟩
 ·have HL:Hid (Zed pts ts0 (px,py) [(i:Int)]):=⟨by simp,by simp;omega,.inl ⟨i,hi,he,rfl,rfl,rfl,rfl⟩⟩;have hb3:=Zb I (.cells #[int i64 (i:Int)] 3);have HR:Hid (Zy (I.alloc (.cells #[int i64 (i:Int)] 3)) (some ⟨I.heap.size,0,none⟩) [(i:Int)]/\Below BX w (I.alloc (.cells #[int i64 (i:Int)] 3))):=by
   refine⟨fun j hj=>⟨I.heap.size,rfl,?_⟩,(HB0.out.trans (HW2.out.mono (by omega))).trans (hb3.mono (by have:=HW2.out.size;omega))⟩;have:j=0:=by simp at hj;omega
   subst this;rw[World.cell?_alloc_at _ _ _ _ (by simp)];rfl
  have q0:(0:Int)<=(i:Int):=by omega
  clear he hb3;go_wp2
  go_ret;rw[hBX];exact⟨_,_,[(i:Int)],ts0,rfl,HR.out.1,HTS.out.1,HTS.out.2,HL.out,HR.out.2⟩
 ·have HNO:Hid (∀ i,i<pts.length->Za pts i≠(px,py)):=hno;have y0:=(HW2.out.cell (p:=⟨BX,0,none⟩) hx1).trans x0;have y1:=(HW2.out.cell (p:=⟨BX,1,none⟩) hx1).trans x1;have H2:=HH1.out.below HW2.out;have HH2:Hid (PRow I m pts nums ever (.slice pa pts.length pc) vN):=H2;have d0:=H2.cells.1;have hm2:=H2.lt;have hx2:BX<I.heap.size:=L3 hx1 HW2.out.size;clear hno x0 x1 c0 H2;go_wp2_with fail
  have HV:Hid (CloI I m (.slice pa pts.length pc) pts px py (fun _=>false) (fun _=>undef) I.drew):=
   ⟨(fun _ _ _ h=>by cases h),(fun h=>by cases h),(fun h=>by cases h),(fun h=>by cases h),(fun h=>by cases h),(Below.refl _ _).drew⟩
  go_cut [6,7] (fun s6 s7 wx=>∃ g cap,s6= .slice (some ⟨g,0,none⟩) (pts.length+1) cap/\s7=int i64 (pts.length:Int)/\wx.ownsRow I.heap.size 37 2 (.slice (some ⟨g,0,none⟩) (pts.length+1) cap) (pts.length+1) (Zg pts ++ [int i64 px,int i64 py])/\Below I.heap.size I wx)
  case first=>
   as_aux_lemma=>
   refine Zd9 (m:=15) (by kernel_rfl) (by kernel_rfl) (dsts:=[some 19,some 20,some 21,some 22,some 23,some 24,some 25,some 26,some 27,some 28,some 29,some 30,some 31,some 6,some 7]) rfl (by kernel_rfl) (l:=[]) rfl (CloI I m (.slice pa pts.length pc) pts px py) HV.out ?_ ?_
   ·refine flS (flS (flS (flS (flS (flS (flS (flS (flS (flS (flS (flS (flS (flS (flS fl0 ?_) ?_) ?_) ?_) ?_) ?_) ?_) ?_) ?_) ?_) ?_) ?_) ?_) ?_) ?_;all_goals intro O σ wx D J hdn hun
    ·exact (Z8 (x:=.tmp 0) rfl rfl (D.stepV (i:=0) rfl)).toS
    ·exact (Za1 (x:=.tmp 19) rfl (show σ 0=_ from D.val 0 _ rfl (J 0 rfl)) (D.stepV (i:=1) rfl)).toS
    ·exact (Za2 (T:=99) (x:=.tmp 20) (f:=0) rfl (show σ 1=_ from D.val 1 _ rfl (J 1 rfl)) (Zg4 _ _) (D.stepV (i:=2) rfl)).toS
    ·exact (Yr (T:=41) (x:=.tmp 21) rfl (show σ 2=_ from D.val 2 _ rfl (J 2 rfl)) (Zgs _ _ _ _ ((D.bel.cell (p:=⟨m,0,none⟩) hm2).trans d0)) (D.stepV (i:=3) rfl)).toS
    ·have n7:O 7=false:=by
      cases Z:O 7 with
      | false=>rfl
      | true=>have:=(hdn 7 4 Z rfl);rw[hun] at this;cases this
     have n13:O 13=false:=by
      cases Z:O 13 with
      | false=>rfl
      | true=>have:=(hdn 7 4 (hdn 13 7 Z rfl) rfl);rw[hun] at this;cases this
     have h3':σ 3=_:=D.val 3 _ rfl (J 3 rfl);refine (Zei (f:=174) (args:=[.slice pa pts.length pc]) rfl rfl (by show [σ 3]=_;rw[h3']) (by go_simp) ((Z65 pa pc pts wx hle (Yt HH2.out.ownA D.bel)).mono ?_)).toS;rintro e w' ⟨v,rfl,ho,hb⟩;refine⟨_,rfl,D.stepW (i:=4) rfl ?_ ?_ ?_ ?_ (D.bel.trans (hb.mono D.bel.size))⟩
     ·intro _ _;exact Zb5 ho D.bel.size
     ·intro h6 h7;obtain⟨g,e,hg⟩:=D.b6 h6 h7;exact⟨g,e,by rw[hb.block g (Zh hg)];exact hg⟩
     ·intro h;simp[n7] at h
     ·intro h;simp[n13] at h
    ·have n7:O 7=false:=by
      cases Z:O 7 with
      | false=>rfl
      | true=>have:=(hdn 6 5 (hdn 7 6 Z rfl) rfl);rw[hun] at this;cases this
     exact (Yr (T:=37) (x:=.tmp 3) rfl rfl (Zb2 _ _ _ px py ((D.bel.cell (p:=⟨BX,0,none⟩) hx2).trans y0) ((D.bel.cell (p:=⟨BX,1,none⟩) hx2).trans y1)) (D.stepV (i:=5) rfl)).toS
    ·have n7:O 7=false:=by
      cases Z:O 7 with
      | false=>rfl
      | true=>have:=(hdn 7 6 Z rfl);rw[hun] at this;cases this
     have n13:O 13=false:=by
      cases Z:O 13 with
      | false=>rfl
      | true=>have:=(hdn 7 6 (hdn 13 7 Z rfl) rfl);rw[hun] at this;cases this
     refine (Zfr (T:=41) (n:=1) (x:=.tmp 24) rfl (show σ 5=_ from D.val 5 _ rfl (J 5 rfl)) (Zna _ _ _) (D.stepW (i:=6) rfl ?_ ?_ ?_ ?_ (D.bel.alloc D.bel.size _))).toS
     ·intro h4 h7;exact Yt (D.c4 h4 h7) (Zb _ _)
     ·intro _ _;exact⟨_,rfl,Zda _ _⟩
     ·intro h;simp[n7] at h
     ·intro h;simp[n13] at h
    ·have n13:O 13=false:=by
      cases Z:O 13 with
      | false=>rfl
      | true=>have:=(hdn 13 7 Z rfl);rw[hun] at this;cases this
     have h4:O 4=true:=J 4 rfl;have h6:O 6=true:=J 6 rfl;have ho:=D.c4 h4 hun;obtain⟨g0,e6,hg0⟩:=D.b6 h6 hun;obtain⟨g,cap,w',hr,h2,h3,h5⟩:=Zhk (P:=prog) wx 41 (Zcg _ 7).type I.heap.size 37 iP (.agg #[int i64 0,int i64 0]) 2 16 underlying41 hiP hzP hsP hbP rfl (by decide) (σ 4) pts.length (Zg pts) ho ⟨g0,0,none⟩ 1 1 [int i64 px,int i64 py] rfl (fun j u hu=>by rw[Addr.add_lit,Nat.zero_add];simp[World.cell?,hg0];simpa using hu) (by intro u hu;simp at hu;rcases hu with rfl|rfl <;> rfl) (by decide) (by simp only[maxLen];omega) (by omega) D.bel.size wx.heap.size rfl;have hb':Below I.heap.size I w':=by
      rcases h3 with ⟨e,aa⟩|⟨e,aa⟩
      ·have hge:I.heap.size<=g:=by
        rcases ho.2 with ⟨e',_⟩|⟨g',c',cur',e',hbg,_⟩
        ·rw[e'] at e;cases e
        ·rw[e'] at e;cases e;exact hbg
       exact D.bel.trans ⟨aa.os,aa.tape,aa.output,aa.size,fun k hk=>aa.block k (L3 hk D.bel.size) (fun e=>by cases e;omega)⟩
      ·exact D.bel.trans ⟨aa.os,aa.tape,aa.output,aa.size,fun k hk=>aa.block k (L3 hk D.bel.size) (fun e=>by cases e)⟩
     refine (Zh4 (t:=41) (s:=.tmp 23) (x:=.tmp 25) rfl (show σ 4=σ 4 from rfl) (show σ 6=_ from e6) hr (D.stepW (i:=7) rfl ?_ ?_ ?_ ?_ hb')).toS
     ·intro _ h;simp at h
     ·intro _ h;simp at h
     ·intro _;exact⟨g,cap,rfl,h2⟩
     ·intro h;simp[n13] at h
    ·exact (Z8 (x:=.tmp 0) rfl rfl (D.stepV (i:=8) rfl)).toS
    ·exact (Za1 (x:=.tmp 27) rfl (show σ 8=_ from D.val 8 _ rfl (J 8 rfl)) (D.stepV (i:=9) rfl)).toS
    ·exact (Za2 (T:=99) (x:=.tmp 28) (f:=0) rfl (show σ 9=_ from D.val 9 _ rfl (J 9 rfl)) (Zg4 _ _) (D.stepV (i:=10) rfl)).toS
    ·exact (Yr (T:=41) (x:=.tmp 29) rfl (show σ 10=_ from D.val 10 _ rfl (J 10 rfl)) (Zgs _ _ _ _ ((D.bel.cell (p:=⟨m,0,none⟩) hm2).trans d0)) (D.stepV (i:=11) rfl)).toS
    ·exact (Zwa (T:=41) (.inr rfl) (x:=.tmp 30) rfl (show σ 11=_ from D.val 11 _ rfl (J 11 rfl)) (D.stepV (i:=12) rfl)).toS
    ·have h7:O 7=true:=J 7 rfl;refine (Zt1 (x:=.tmp 26) rfl (show σ 7=σ 7 from rfl) (D.stepW (i:=13) rfl ?_ ?_ ?_ ?_ D.bel)).toS
     ·exact D.c4
     ·exact D.b6
     ·exact D.a7
     ·intro _;rfl
    ·exact (Zt1 (x:=.tmp 31) rfl (show σ 12=_ from D.val 12 _ rfl (J 12 rfl)) (D.stepV (i:=14) rfl)).toS
   ·intro O σ wx D hall;obtain⟨g,cap,e7,ho⟩:=D.a7 (hall 7 (by omega));have e13:=D.a13 (hall 13 (by omega));have e14:σ 14=_:=D.val 14 _ rfl (hall 14 (by omega));have HB:=D.bel;rw[e7] at ho e13;clear D;refine⟨?_⟩;simp only[lay,Act.put,List.drop_succ_cons,List.drop_zero,List.setIfInBounds_toArray,List.set_cons_succ,List.set_cons_zero,e13,e14];go_wp2_with fail
    go_meet;exact⟨g,cap,rfl,rfl,ho,HB⟩
  case rest=>
   as_aux_lemma=>
   obtain⟨g,cap,rfl,rfl,hown,hb3⟩:=hcut;have HWC:Hid (Below BX w wc):=(HB0.out.trans (HW2.out.mono (by omega))).trans (hb3.mono (by have:=HW2.out.size;omega));obtain⟨hndl,hnrl⟩:=Zt3 (p:=(px,py)) HOK.out.nd HOK.out.near HPN.out HNO.out;have HNDL:Hid ((pts ++ [(px,py)]).Nodup):=hndl;have HNRL:Hid (Zv (pts ++ [(px,py)])):=hnrl;have hll:(pts ++ [(px,py)]).length=pts.length+1:=by simp
   have hpt:Zp wc g 0 (pts ++ [(px,py)]):=by
    have ho:wc.ownsRow I.heap.size 37 2 (.slice (some ⟨g,0,none⟩) (pts ++ [(px,py)]).length cap) (pts ++ [(px,py)]).length (Zg (pts ++ [(px,py)])):=by
     rw[hll,Zel];exact hown
    rcases Z2.raw' ho with h|⟨b,off,e,_,h⟩
    ·simp at h
    ·cases e;exact h
   have hgc:g<wc.heap.size:=Zx hown rfl;have HPT:Hid (Zp wc g 0 (pts ++ [(px,py)])):=hpt;have HT:=Zt0 m pts nums ever _ _ wc (HH2.out.below hb3) HOK.out;have Y:Hid ((pts ++ [(px,py)]).length=pts.length+1):=hll;clear hndl hnrl hpt hown hb3 hll d0 y0 y1 HV;generalize wc=X at *
   go_upto_region 6 with (first|(go_at_call 151;refine HT.mono ?_;rintro e w4 ⟨v,ts,rfl,hownT,hspec,hlen,hb4⟩));obtain⟨ta,tc,rfl⟩:=Zn hownT;have HG:Hid (Zau pts ts):=Zno (Zlv HOK.out.le HOK.out.near HOK.out.nd) hspec hlen;have HSP:Hid (Xr pts ts/\ts.length<=4000):=⟨hspec,hlen⟩;have HTR:Hid (Zdz w4 ta ts):=Zdz.of_own hownT;have HB4:Hid (Below X.heap.size X w4):=hb4;have hg4:g<w4.heap.size:=L3 hgc hb4.size;have HPT4:Hid (Zp w4 g 0 (pts ++ [(px,py)])):=HPT.out.below hb4 hgc;have HW4:Hid (Below BX w w4):=HWC.out.trans (hb4.mono (by have:=HWC.out.size;omega));clear hownT hspec hb4 HT HTS;by_cases ht0:ts=[]
   ·subst ht0;have HF:Hid (Zdc pts):=by
     rcases HG.out.2 with ⟨h,_⟩|⟨_,_,_,h⟩
     ·exact h
     ·exact absurd rfl h
    have HO:=Z7a g 0 cap (pts ++ [(px,py)]) pts.length w4 Y.out (by rw[Y.out];omega) hg4 HPT4.out;rw[Y.out] at HO;have HC:∀ B go is W i,InOrder (pts ++ [(px,py)]) is->i<is.length->is.getD i 0=pts.length->AskAt W B g 0 cap (pts ++ [(px,py)])->go<W.heap.size->Xc W go 0 is->
      Calls prog 175 #[.slice (some ⟨go,0,none⟩) (pts.length+1) (pts.length+1),int i64 (pts.length:Int),Zaw B] W fun e w'=>∃ a c,e= .returned (.slice a (Zef (pts ++ [(px,py)]) is i pts.length).length c)/\Zy w' a (Zef (pts ++ [(px,py)]) is i pts.length)/\Below W.heap.size W w':=fun B go is W i hio hi hin A hg his=>by
     have := Z63 B g 0 cap go (pts.length + 1) (pts ++ [(px, py)]) is pts.length i W (by rw [Y.out]; omega) (by rw [hio.len, Y.out]; omega) hio.lt hi hin (fun j hj e => by
       have := Zdu hio.nodup (by omega) hi (e.trans hin.symm)
       omega) A HNRL.out hg his
     rw[hio.len,Y.out] at this;exact this
    go_wp2_with (first
      | (go_at_call 28; refine HO.mono ?_; rintro e w5 ⟨go, is, rfl, hgo, hgos, hb5, hns, hfz, hio⟩
         obtain ⟨i, hi, hin⟩ := Zkv hio (c := pts.length) (by rw [Y.out]; omega))
      | (go_at_call 17; refine (Zc2 _ _ _ _).mono ?_; rintro e w6 ⟨B, hB1, hB2, hcB, rfl, hb6⟩
         have ab : Below w4.heap.size w4 w6 := hb5.trans (hb6.mono hb5.size)
         have HA : Hid (AskAt w6 B g 0 cap (pts ++ [(px, py)])) := ⟨hB2, L3 hg4 ab.size, by rw [Y.out]; exact hcB, HPT4.out.below ab hg4⟩
         have HNS : Hid (Xc w6 go 0 is) := hns.below hb6 hgos)
      | (go_at_call 175; refine (HC B go is _ i hio hi hin HA.out (L3 hgos hb6.size) HNS.out).mono ?_; rintro e w7 ⟨a, c, rfl, hN, hb7⟩))
    have HR:Hid (Zy w7 a (Zef (pts ++ [(px,py)]) is i pts.length)/\Zed pts [] (px,py) (Zef (pts ++ [(px,py)]) is i pts.length)/\Below BX w w7):=
     ⟨hN,Z7c HNDL.out hio hi hin HF.out,HW4.out.trans ((ab.trans (hb7.mono ab.size)).mono (by have:=HW4.out.size;omega))⟩
    clear hN hb7 hns hfz hcB;go_ret;rw[hBX];exact⟨a,c,_,[],rfl,HR.out.1,HSP.out.1,HSP.out.2,HR.out.2.1,HR.out.2.2⟩
   ·have HT0:Hid (ts≠ []):=ht0;have hl0:=List.length_pos_iff.2 ht0;have q0:((ts.length:Int) == 0)=false:=beq_eq_false_iff_ne.2 (by omega);have HC:∀ B W,Below w4.heap.size w4 W->AskAt W B g 0 cap (pts ++ [(px,py)])->Calls prog 176 #[.slice ta ts.length tc,int i64 (pts.length:Int),Zaw B] W _:=fun B W hb A=>
     Z62 B g 0 cap (pts ++ [(px,py)]) ta tc ts pts.length W (by rw[Y.out];omega) HSP.out.2 (fun t ht=>by have:=HG.out.nums t ht;rw[Y.out];omega) (by rw[Y.out];omega) A HNRL.out (HTR.out.below hb)
    clear ht0
    go_wp2_with (first
      | (go_at_call 17; refine (Zc2 _ _ _ _).mono ?_; rintro e w6 ⟨B, hB1, hB2, hcB, rfl, ab⟩
         have HA : Hid (AskAt w6 B g 0 cap (pts ++ [(px, py)])) := ⟨hB2, L3 hg4 ab.size, by rw [Y.out]; exact hcB, HPT4.out.below ab hg4⟩)
      | (go_at_call 176; refine (HC B _ ab HA.out).mono ?_; rintro e w7 ⟨a, c, hs, rfl, hN, hTH, hb7⟩))
    have HR:Hid (Zy w7 a hs/\Zed pts ts (px,py) hs/\Below BX w w7):=
     ⟨hN,Z7b HG.out HT0.out HNO.out hTH,HW4.out.trans ((ab.trans (hb7.mono ab.size)).mono (by have:=HW4.out.size;omega))⟩
    clear hN hb7 hcB hTH;go_ret;rw[hBX];exact⟨a,c,hs,ts,rfl,HR.out.1,HSP.out.1,HSP.out.2,HR.out.2.1,HR.out.2.2⟩
def Zk7 (pts:List Pt)(nums:List Int)(p:Pt)(k a b c r:Int):Prop:=
 (Zc p.1 p.2=true/\k=0/\a=0/\b=0/\c=0/\r=1)\/
 (Zc p.1 p.2=false/\r=0/\∃ ts D I e,Xr pts ts/\ts.length<=4000/\Xl pts ts (Zm pts ts (flB pts) pts.length) p k D I e/\a=Yc nums D/\b=Yc nums I/\c=Yc nums e)
theorem Z7e (w:World)(o J:Obj)(I D:Int)(T:TypeId):Zp (((w.alloc o).alloc J).alloc (.cells #[int i64 I,int i64 D] T)) (w.heap.size+1+1) 0 [(I,D)]:=by
 intro j e;have e:j=0:=by simp at e;omega
 subst e;rw[World.cell?_alloc_at _ _ _ _ (by simp),World.cell?_alloc_at _ _ _ _ (by simp)];exact⟨rfl,rfl⟩
theorem Z7f (m:Nat)(pts:List Pt)(nums:List Int)(ever:Nat)(vA vN:Value)(px py:Int)(w:World)(H:PRow w m pts nums ever vA vN)(hOk:MOk pts nums ever) :
  Calls prog 128 #[.pointer (some ⟨m,0,none⟩),.agg #[int i64 px,int i64 py]] w fun e w'=>
   ∃ k a b c r,e= .returned (.tuple #[.agg #[int i64 k,int i64 a,int i64 b,int i64 c],int i64 r])/\Zk7 pts nums (px,py) k a b c r/\Below w.heap.size w w':=by
 have HP1:Hid (Zp (((w.alloc (.cells #[int i64 px,int i64 py] 37)).alloc (.cells #[int i64 0,int i64 0,int i64 0,int i64 0] 155)).alloc (.cells #[int i64 px,int i64 py] 37)) (w.heap.size+1+1) 0 [(px,py)]):=Z7e _ _ _ _ _ _;have aa:=Zd0 w (.cells #[int i64 px,int i64 py] 37) (.cells #[int i64 0,int i64 0,int i64 0,int i64 0] 155) (.cells #[int i64 px,int i64 py] 37);have x0:(((w.alloc (.cells #[int i64 px,int i64 py] 37)).alloc (.cells #[int i64 0,int i64 0,int i64 0,int i64 0] 155)).alloc (.cells #[int i64 px,int i64 py] 37)).cell? ⟨w.heap.size,0,none⟩=some (int i64 px):=by
  rw[World.cell?_alloc_past _ _ _ (by simp;omega),World.cell?_alloc_past _ _ _ (by simp),World.cell?_alloc_at _ _ _ _ (by simp)];rfl
 have x1:(((w.alloc (.cells #[int i64 px,int i64 py] 37)).alloc (.cells #[int i64 0,int i64 0,int i64 0,int i64 0] 155)).alloc (.cells #[int i64 px,int i64 py] 37)).cell? ⟨w.heap.size,1,none⟩=some (int i64 py):=by
  rw[World.cell?_alloc_past _ _ _ (by simp;omega),World.cell?_alloc_past _ _ _ (by simp),World.cell?_alloc_at _ _ _ _ (by simp)];rfl
 have x2:(((w.alloc (.cells #[int i64 px,int i64 py] 37)).alloc (.cells #[int i64 0,int i64 0,int i64 0,int i64 0] 155)).alloc (.cells #[int i64 px,int i64 py] 37)).heap[w.heap.size+1]? =some (.cells #[int i64 0,int i64 0,int i64 0,int i64 0] 155 (0,0)):=by
  rw[Below.heap_alloc _ _ _ (by simp)];have:=Zda (w.alloc (.cells #[int i64 px,int i64 py] 37)) (.cells #[int i64 0,int i64 0,int i64 0,int i64 0] 155);simpa using this
 have hs0:(((w.alloc (.cells #[int i64 px,int i64 py] 37)).alloc (.cells #[int i64 0,int i64 0,int i64 0,int i64 0] 155)).alloc (.cells #[int i64 px,int i64 py] 37)).heap.size=w.heap.size+3:=by simp
 have HH:Hid (PRow w m pts nums ever vA vN):=H;have HOK:Hid (MOk pts nums ever):=hOk;have hle:=hOk.le;have hn60:nums.length<=60:=by have:=hOk.len;omega
 clear H hOk;cases hfr:Zc px py with
 | true=>
  have HFR:Hid (Zc px py=true):=hfr;go_enter func128,ntmps128;go_upto_region 2 with (first|(go_at_call 16;refine (Zc1 _ 0 1 [(px,py)] _ (by simp) (by simp) HP1.out).mono ?_;rintro e D ⟨rfl,O⟩;rw[Zk4,hfr]));have Y:D.heap[w.heap.size+1]? =some (.cells #[int i64 0,int i64 0,int i64 0,int i64 0] 155 (0,0)):=by rw[O.block _ (by omega)];exact x2
  have Z:Below w.heap.size w D:=aa.trans (O.mono aa.size);obtain⟨b0,b1,b2,b3⟩:D.cell? ⟨w.heap.size+1,0,none⟩=some (int i64 0)/\D.cell? ⟨w.heap.size+1,1,none⟩=some (int i64 0)/\D.cell? ⟨w.heap.size+1,2,none⟩=some (int i64 0)/\D.cell? ⟨w.heap.size+1,3,none⟩=some (int i64 0):=by simp[World.cell?,Y]
  have J:∀ j,D.frozen? ⟨w.heap.size+1,j,none⟩=false:=fun j=>by simp[World.frozen?,Y]
  have f0:=J 0;have f1:=J 1;have f2:=J 2;have f3:=J 3;obtain⟨X,hX,z0,z1,z2,z3,hbX⟩:=Zk3 Y (int i64 0) (int i64 0) (int i64 0) (int i64 0);have HBX:Hid (Below w.heap.size w X):=Z.trans (hbX w.heap.size (by omega));clear Y Z J hbX HP1 aa x0 x1 x2 hs0 O;generalize hBX:w.heap.size=BX at *
  go_wp2
  refine bodyPost_ret (v:=.tuple #[.agg #[int i64 0,int i64 0,int i64 0,int i64 0],int i64 1]) (by simp[results,results128,go_sem,z0,z1,z2,z3]) rfl ⟨0,0,0,0,1,rfl,.inl ⟨HFR.out,rfl,rfl,rfl,rfl,rfl⟩,?_⟩;rw[hBX];exact HBX.out
 | false=>
  have HFR:Hid (Zc px py=false):=hfr;have HPN:Hid (Near px py):=Xp hfr;go_enter func128,ntmps128;go_upto_region 3 with (first|(go_at_call 16;refine (Zc1 _ 0 1 [(px,py)] _ (by simp) (by simp) HP1.out).mono ?_;rintro e D ⟨rfl,O⟩;rw[Zk4,hfr]));have Y:D.heap[w.heap.size+1]? =some (.cells #[int i64 0,int i64 0,int i64 0,int i64 0] 155 (0,0)):=by rw[O.block _ (by omega)];exact x2
  have HQ:Hid (D.heap[w.heap.size+1]? =some (.cells #[int i64 0,int i64 0,int i64 0,int i64 0] 155 (0,0))):=Y;have Z:Below w.heap.size w D:=aa.trans (O.mono aa.size);have HBW:Hid (Below w.heap.size w D):=Z;have HH1:Hid (PRow D m pts nums ever vA vN):=HH.out.below Z;have y0:=(O.cell (p:=⟨w.heap.size,0,none⟩) (by simp;omega)).trans x0;have y1:=(O.cell (p:=⟨w.heap.size,1,none⟩) (by simp;omega)).trans x1;have hs1:w.heap.size+3<=D.heap.size:=by have:=O.size;omega
  clear Z HP1 aa x0 x1 x2 hs0 O Y
  go_wp2_with (first
    | (go_at_call 153; refine (Z7d m pts nums ever vA vN px py _ HH1.out HOK.out HPN.out).mono ?_; rintro e w2 ⟨a, c, I, ts, rfl, hN, hSp, hLe, hL, hb2⟩
       have HHL : Hid (Zed pts ts (px, py) I) := hL
       have HSL : Hid (Xr pts ts ∧ ts.length ≤ 4000) := ⟨hSp, hLe⟩
       have HNU : Hid (Zy w2 a I) := hN
       have HB2 : Hid (Below D.heap.size D w2) := hb2
       have hq2 : w2.heap[w.heap.size + 1]? = some (.cells #[int i64 0, int i64 0, int i64 0, int i64 0] 155 (0, 0)) := by rw [hb2.block _ (by omega)]; exact HQ.out
       have HQ2 : Hid (w2.heap[w.heap.size + 1]? = some (.cells #[int i64 0, int i64 0, int i64 0, int i64 0] 155 (0, 0))) := hq2
       clear hN hSp hLe hL hb2 hq2)
    | (go_at_call 152; refine (Z64 m pts nums ever vA vN a c I _ (HH1.out.below HB2.out) hn60 HHL.out.1 (fun x hx => by have := HHL.out.2.1 x hx; have := HOK.out.len; omega) HNU.out).mono ?_; rintro e w3 ⟨rfl, hb3⟩
       have hs2 : D.heap.size ≤ w2.heap.size := HB2.out.size
       have hq3 : w3.heap[w.heap.size + 1]? = some (.cells #[int i64 0, int i64 0, int i64 0, int i64 0] 155 (0, 0)) := by rw [hb3.block _ (by omega)]; exact HQ2.out
       obtain ⟨b0, b1, b2, b3⟩ : w3.cell? ⟨w.heap.size + 1, 0, none⟩ = some (int i64 0) ∧ w3.cell? ⟨w.heap.size + 1, 1, none⟩ = some (int i64 0) ∧ w3.cell? ⟨w.heap.size + 1, 2, none⟩ = some (int i64 0) ∧ w3.cell? ⟨w.heap.size + 1, 3, none⟩ = some (int i64 0) := by simp [World.cell?, hq3]
       have J : ∀ j, w3.frozen? ⟨w.heap.size + 1, j, none⟩ = false := fun j => by simp [World.frozen?, hq3]
       have f0 := J 0
       have f1 := J 1
       have f2 := J 2
       have f3 := J 3
       have HLA : Hid (Zk7 pts nums (px, py) (Zct I.length) (Yc nums (I.getD 0 (-1))) (Yc nums (I.getD 1 (-1))) (Yc nums (I.getD 2 (-1))) 0) := .inr ⟨HFR.out, rfl, ts, _, _, _, HSL.out.1, HSL.out.2, HHL.out.2.2, rfl, rfl, rfl⟩
       generalize Zct I.length = kd at *
       generalize Yc nums (I.getD 0 (-1)) = o0 at *
       generalize Yc nums (I.getD 1 (-1)) = o1 at *
       generalize Yc nums (I.getD 2 (-1)) = o2 at *
       obtain ⟨X, hX, z0, z1, z2, z3, hbX⟩ := Zk3 hq3 (int i64 kd) (int i64 o0) (int i64 o1) (int i64 o2)
       have HBX : Hid (Below w.heap.size w X) := (HBW.out.trans ((HB2.out.trans (hb3.mono HB2.out.size)).mono (by omega))).trans (hbX w.heap.size (by omega))
       clear hq3 hb3 J hbX))
  refine bodyPost_ret (v:=.tuple #[.agg #[int i64 kd,int i64 o0,int i64 o1,int i64 o2],int i64 0]) (by simp[results,results128,go_sem,z0,z1,z2,z3]) rfl ⟨kd,o0,o1,o2,0,rfl,HLA.out,HBX.out⟩
def Zcu (ts:List T3)(nums:List Int)(i k j c:Nat):Int:=if j<i\/(j=i/\c<k) then nums.getD (Zl (ts.getD j (0,0,0)) c).toNat 0 else Zl (ts.getD j (0,0,0)) c
structure RowT (w:World)(g cap:Nat)(ts:List T3)(nums:List Int)(i k:Nat):Prop where
 out:∃ cur,w.heap[g]? =some (.cells cur 53 (0,0))/\cur.size=cap*3/\∀ j c,j<ts.length->c<3->cur[j*3+c]? =some (int i64 (Zcu ts nums i k j c))
section
variable {w:World} {g cap:Nat} {ts:List T3} {nums:List Int} {i k:Nat}
theorem Zt4 (t:T3){c:Nat}(e:c<3):(Xe t)[c]? =some (int i64 (Zl t c)):=by
 have:c=0\/c=1\/c=2:=by omega
 rcases this with rfl|rfl|rfl <;> rfl
theorem RowT.start {J:Nat}(h:w.ownsRow J 53 3 (.slice (some ⟨g,0,none⟩) ts.length cap) ts.length (Zj ts)):RowT w g cap ts nums 0 0:=by
 rcases h.2 with ⟨e,_⟩|⟨g',ae,ab,e,_,Z,ac,_,O,aa⟩
 ·cases e
 ·cases e;refine⟨ab,Z,O,fun j c I D=>?_⟩;have f:=Zbs ts j c D I;rw[<-aa,List.getElem?_take_of_lt (by omega),Array.getElem?_toList,Zt4 _ D] at f;have Y:ts.getD j (0,0,0)=ts[j]:=by simp[I]
  unfold Zcu;rw[if_neg (by omega),Y];exact f
theorem RowT.next (h:RowT w g cap ts nums i 3):RowT w g cap ts nums (i+1) 0:=by
 obtain⟨Z,O,Y,D⟩:=h.out;refine⟨Z,O,Y,fun j c I J=>?_⟩;rw[D j c I J];unfold Zcu;by_cases e:j<i\/(j=i/\c<3)
 ·rw[if_pos e,if_pos (by omega)]
 ·rw[if_neg e,if_neg (by omega)]
theorem RowT.put (h:RowT w g cap ts nums i k)(hi:i<ts.length)(hk:k<3)(hcap:ts.length<=cap)(q:Nat):RowT ((w.drewN q).setCell ⟨g,i*3+k,none⟩ (int i64 (nums.getD (Zl (ts.getD i (0,0,0)) k).toNat 0))) g cap ts nums i (k+1):=by
 obtain⟨cur,hg,hcs,I⟩:=h.out;have J:=heap_setCell_same (w.drewN q) g (i*3+k) _ _ (int i64 (nums.getD (Zl (ts.getD i (0,0,0)) k).toNat 0)) hg;refine⟨_,J,by simpa using hcs,fun j c Z aa=>?_⟩;rw[Array.getElem?_setIfInBounds];by_cases e:i*3+k=j*3+c
 ·have O:j=i:=by omega
  have Y:c=k:=by omega
  subst O Y;rw[if_pos rfl,if_pos (by omega)];unfold Zcu;rw[if_pos (by omega)]
 ·rw[if_neg e,I j c Z aa];unfold Zcu;by_cases D:j<i\/(j=i/\c<k)
  ·rw[if_pos D,if_pos (by omega)]
  ·rw[if_neg D,if_neg (by omega)]
theorem RowT.cell (h:RowT w g cap ts nums i k){j c:Nat}(D:j<ts.length)(e:c<3):w.cell? ⟨g,j*3+c,none⟩=some (int i64 (Zcu ts nums i k j c))/\w.frozen? ⟨g,j*3+c,none⟩=false:=by
 obtain⟨Y,I,O,J⟩:=h.out;have:=J j c D e;simp[World.cell?,World.frozen?,I,this]
theorem RowT.fin {J:Nat}(h:RowT w g cap ts nums ts.length 0)(hb:J<=g)(Y:ts.length<=cap)(Z:cap<=maxLen):w.ownsRow J 53 3 (.slice (some ⟨g,0,none⟩) ts.length cap) ts.length (Zj (ts.map (Xm nums))):=by
 obtain⟨cur,hg,hcs,O⟩:=h.out;refine⟨by rw[Zc9,List.length_map],.inr ⟨g,cap,cur,rfl,hb,hg,Y,Z,hcs,?_⟩⟩;apply List.ext_getElem?;intro q;by_cases hq:q<ts.length*3
 ·rw[List.getElem?_take_of_lt hq,Array.getElem?_toList];have e:q=q / 3*3+q % 3:=by omega
  have D:q / 3<ts.length:=by omega
  have I:q % 3<3:=by omega
  rw[e,O _ _ D I,Zbs _ _ _ I (by rw[List.length_map];exact D),Zt4 _ I];unfold Zcu;have eg:ts.getD (q / 3) (0,0,0)=ts[q / 3]:=by simp[D]
  rw[if_pos (by omega),eg,List.getElem_map];unfold Xm Zl;have:q % 3=0\/q % 3=1\/q % 3=2:=by omega
  rcases this with h|h|h <;> simp[h]
 ·rw[List.getElem?_eq_none (by simp;omega),List.getElem?_eq_none (by rw[Zc9,List.length_map];omega)]
end
theorem Z7g (x y z:Int)(w:World):(Instr.index 53 (.agg #[int i64 x,int i64 y,int i64 z]) (int i64 0)).run prog w= .ok (int i64 x) w:=by kernel_rfl
theorem Z7h (x y z:Int)(w:World):(Instr.index 53 (.agg #[int i64 x,int i64 y,int i64 z]) (int i64 1)).run prog w= .ok (int i64 y) w:=by kernel_rfl
theorem Z7i (x y z:Int)(w:World):(Instr.index 53 (.agg #[int i64 x,int i64 y,int i64 z]) (int i64 2)).run prog w= .ok (int i64 z) w:=by kernel_rfl
theorem PRow.keepT {w w':World}{m:Nat}{pts:List Pt}{nums:List Int}{ever:Nat}{vA vN:Value}(h:PRow w m pts nums ever vA vN)(D:Zcp 101 w w')(e:Zcp 37 w w')(I:Zcp 3 w w'):PRow w' m pts nums ever vA vN:=
 ⟨D _ _ h.blk,e.own h.ownA,I.own h.ownN⟩
theorem Z7j (m:Nat)(pts:List Pt)(nums:List Int)(ever:Nat)(vA vN:Value)(w:World)(H:PRow w m pts nums ever vA vN)(hOk:MOk pts nums ever) :
  Calls prog 127 #[.pointer (some ⟨m,0,none⟩)] w fun e w'=>
   ∃ v ts,e= .returned v/\w'.ownsRow w.heap.size 53 3 v ts.length (Zj (ts.map (Xm nums)))/\Xr pts ts/\ts.length<=4000/\Below w.heap.size w w':=by
 have HT:=Zt0 m pts nums ever vA vN w H hOk;obtain⟨na,Z,rfl⟩:=Zn H.ownN;have HH:Hid (PRow w m pts nums ever vA (.slice na nums.length Z)):=H;have HOK:Hid (MOk pts nums ever):=hOk;have hm0:=H.lt;have hn60:nums.length<=60:=by have:=hOk.le;have:=hOk.len;omega
 clear H hOk;go_enter func127,ntmps127;go_upto_region 2 with (first|(go_at_call 151;refine HT.mono ?_;rintro e w1 ⟨v,ts,rfl,hown,hsp,hlen,hb1⟩));have HSP:Hid (Xr pts ts/\ts.length<=4000):=⟨hsp,hlen⟩;have HG:Hid (Zau pts ts):=Zno (Zlv HOK.out.le HOK.out.near HOK.out.nd) hsp hlen;have HB1:Hid (Below w.heap.size w w1):=hb1;have HH1:Hid (PRow w1 m pts nums ever vA (.slice na nums.length Z)):=HH.out.below hb1;by_cases ht0:ts=[]
 ·subst ht0;obtain⟨ta,tc,rfl⟩:=Zn hown;have HOW:Hid (w1.ownsRow w.heap.size 53 3 (.slice ta 0 tc) 0 []):=hown;clear hown hsp HT;go_wp2_with fail
  go_loopw [11] (fun s11 wr=>s11=int i64 0/\wr=w1) (fun _ _=>0)
  case atStart=>exact⟨rfl,rfl⟩
  case round=>
   obtain⟨rfl,rfl⟩:=hrel;go_wp2
   go_ret;exact⟨_,[],rfl,HOW.out,HSP.out.1,HSP.out.2,HB1.out⟩
 ·have hl0:=List.length_pos_iff.2 ht0;obtain⟨g,tc,rfl,hgb,hnc,hcm⟩:∃ g tc,v= .slice (some ⟨g,0,none⟩) ts.length tc/\w.heap.size<=g/\ts.length<=tc/\tc<=maxLen:=by
   rcases hown.2 with ⟨_,h⟩|⟨g,cap,cur,e,h1,_,h2,h3,_⟩
   ·omega
   ·exact⟨g,cap,e,h1,h2,h3⟩
  have HRT:Hid (RowT w1 g tc ts nums 0 0):=RowT.start hown;clear hown hsp HT ht0 hb1;go_wp2_with fail
  go_loopw [11] (fun s11 wr=>∃ i:Nat,i<=ts.length/\s11=int i64 i/\RowT wr g tc ts nums i 0/\Below w.heap.size w wr/\PRow wr m pts nums ever vA (.slice na nums.length Z)) (fun i _=>ts.length-(intOf i).toNat)
  case atStart=>exact⟨0,Nat.zero_le _,rfl,HRT.out,HB1.out,HH1.out⟩
  case round=>
   obtain⟨i,hi,rfl,hR,hb,hP⟩:=hrel;have HR:Hid (RowT wr g tc ts nums i 0):=hR;have HB:Hid (Below w.heap.size w wr):=hb;have HP:Hid (PRow wr m pts nums ever vA (.slice na nums.length Z)):=hP;clear hR hb hP;by_cases Y:i<ts.length
   ·have y0:(0:Int)<=(i:Int):=by omega
    have y1:(i:Int)<(ts.length:Int):=by omega
    have y4:IntKind.i64.wrap ((i:Int)+1)=(i:Int)+1:=Zd (by omega) (by omega);have hmem:ts.getD i (0,0,0)∈ts:=by
     have:ts.getD i (0,0,0)=ts[i]:=by simp[Y]
     rw[this];exact List.getElem_mem Y
    obtain⟨r1,r2,r3,r4,r5,r6⟩:=HG.out.nums _ hmem;have hln:=HOK.out.len;obtain⟨x,ex⟩:∃ x:Nat,(ts.getD i (0,0,0)).1=(x:Int):=⟨_,(Int.toNat_of_nonneg r1).symm⟩;obtain⟨y,ey⟩:∃ y:Nat,(ts.getD i (0,0,0)).2.1=(y:Int):=⟨_,(Int.toNat_of_nonneg r3).symm⟩;obtain⟨z,ez⟩:∃ z:Nat,(ts.getD i (0,0,0)).2.2=(z:Int):=⟨_,(Int.toNat_of_nonneg r5).symm⟩;have hx:x<nums.length:=by omega
    have hy:y<nums.length:=by omega
    have hz:z<nums.length:=by omega
    have EX:Hid (Zl (ts.getD i (0,0,0)) 0=(x:Int)):=ex;have EY:Hid (Zl (ts.getD i (0,0,0)) 1=(y:Int)):=ey;have EZ:Hid (Zl (ts.getD i (0,0,0)) 2=(z:Int)):=ez;have c0:wr.cell? ⟨g,i*3,none⟩=some (int i64 (x:Int)):=by have:=(HR.out.cell Y (show 0<3 by omega)).1;unfold Zcu at this;rw[if_neg (by omega),EX.out] at this;exact this
    have c1:wr.cell? ⟨g,i*3+1,none⟩=some (int i64 (y:Int)):=by have:=(HR.out.cell Y (show 1<3 by omega)).1;unfold Zcu at this;rw[if_neg (by omega),EY.out] at this;exact this
    have c2:wr.cell? ⟨g,i*3+2,none⟩=some (int i64 (z:Int)):=by have:=(HR.out.cell Y (show 2<3 by omega)).1;unfold Zcu at this;rw[if_neg (by omega),EZ.out] at this;exact this
    clear hmem r1 r2 r3 r4 r5 r6 ex ey ez hln;go_wp2_with fail
    clear c0 c1 c2;go_loopw [18] (fun s18 wk=>∃ k:Nat,k<=3/\s18=int i64 k/\RowT wk g tc ts nums i k/\Below w.heap.size w wk/\PRow wk m pts nums ever vA (.slice na nums.length Z)) (fun j _=>3-(intOf j).toNat)
    case atStart=>exact⟨0,by omega,rfl,HR.out,HB.out,HP.out⟩
    case round=>
     obtain⟨k,hk,rfl,hR2,hb2,hP2⟩:=hrel;clear HR HB HP;have D:Hid (RowT wr g tc ts nums i k):=hR2;have HB2:Hid (Below w.heap.size w wr):=hb2;have I:Hid (PRow wr m pts nums ever vA (.slice na nums.length Z)):=hP2;have hcs:k=3\/k=0\/k=1\/k=2:=by omega
     clear hR2 hb2 hP2;rcases hcs with rfl|rfl|rfl|rfl
     ·have HN:Hid (RowT wr g tc ts nums (i+1) 0):=D.out.next;clear D;go_wp2
      go_roundw;case rel=>exact⟨i+1,by omega,by go_num,HN.out,HB2.out,I.out⟩
      case measure=>simp[intOf];omega
     ·obtain⟨c0,f0⟩:=D.out.cell Y (show 0<3 by omega);rw[Nat.add_zero] at c0 f0;have d1:=I.out.cells.2.1;obtain⟨G,rfl,cN⟩:=Zy.of_own I.out.ownN x hx;have p1:(0:Int)<=(x:Int):=by omega
      have p2:(x:Int)<(nums.length:Int):=by omega
      have J:Hid (∀ q,RowT ((wr.drewN q).setCell ⟨g,i*3,none⟩ (int i64 (nums.getD x 0))) g tc ts nums i (0+1)/\Below w.heap.size w ((wr.drewN q).setCell ⟨g,i*3,none⟩ (int i64 (nums.getD x 0)))/\PRow ((wr.drewN q).setCell ⟨g,i*3,none⟩ (int i64 (nums.getD x 0))) m pts nums ever vA (.slice (some ⟨G,0,none⟩) nums.length Z)):=fun q=>by
       have aa:=D.out.put Y (show 0<3 by omega) hnc q;rw[EX.out,Int.toNat_natCast] at aa;obtain⟨cur,O,_⟩:=D.out.out;refine⟨aa,Below.setCell (Zt HB2.out) hgb _,I.out.keepT ?_ ?_ ?_⟩
       ·exact fun k c h=>Zat (w:=wr.drewN q) O (by decide) k c h
       ·exact fun k c h=>Zat (w:=wr.drewN q) O (by decide) k c h
       ·exact fun k c h=>Zat (w:=wr.drewN q) O (by decide) k c h
      generalize Zcu ts nums i 0 i 0=ov at *
      generalize nums.getD x 0=nv at *
      have hix:=Z7g (x:Int) (y:Int) (z:Int);clear D HB2 I;go_wp2_with fail
      go_region;go_wp2
      go_roundw;case rel=>exact⟨0+1,by omega,by go_num,(J.out 1).1,(J.out 1).2.1,(J.out 1).2.2⟩
      case measure=>simp[intOf]
     ·obtain⟨c0,f0⟩:=D.out.cell Y (show 1<3 by omega);have d1:=I.out.cells.2.1;obtain⟨G,rfl,cN⟩:=Zy.of_own I.out.ownN y hy;have p1:(0:Int)<=(y:Int):=by omega
      have p2:(y:Int)<(nums.length:Int):=by omega
      have J:Hid (∀ q,RowT ((wr.drewN q).setCell ⟨g,i*3+1,none⟩ (int i64 (nums.getD y 0))) g tc ts nums i (1+1)/\Below w.heap.size w ((wr.drewN q).setCell ⟨g,i*3+1,none⟩ (int i64 (nums.getD y 0)))/\PRow ((wr.drewN q).setCell ⟨g,i*3+1,none⟩ (int i64 (nums.getD y 0))) m pts nums ever vA (.slice (some ⟨G,0,none⟩) nums.length Z)):=fun q=>by
       have aa:=D.out.put Y (show 1<3 by omega) hnc q;rw[EY.out,Int.toNat_natCast] at aa;obtain⟨cur,O,_⟩:=D.out.out;refine⟨aa,Below.setCell (Zt HB2.out) hgb _,I.out.keepT ?_ ?_ ?_⟩
       ·exact fun k c h=>Zat (w:=wr.drewN q) O (by decide) k c h
       ·exact fun k c h=>Zat (w:=wr.drewN q) O (by decide) k c h
       ·exact fun k c h=>Zat (w:=wr.drewN q) O (by decide) k c h
      generalize Zcu ts nums i 1 i 1=ov at *
      generalize nums.getD y 0=nv at *
      have hix:=Z7h (x:Int) (y:Int) (z:Int);clear D HB2 I;go_wp2_with fail
      go_region;go_wp2
      go_roundw;case rel=>exact⟨1+1,by omega,by go_num,(J.out 1).1,(J.out 1).2.1,(J.out 1).2.2⟩
      case measure=>simp[intOf]
     ·obtain⟨c0,f0⟩:=D.out.cell Y (show 2<3 by omega);have d1:=I.out.cells.2.1;obtain⟨G,rfl,cN⟩:=Zy.of_own I.out.ownN z hz;have p1:(0:Int)<=(z:Int):=by omega
      have p2:(z:Int)<(nums.length:Int):=by omega
      have J:Hid (∀ q,RowT ((wr.drewN q).setCell ⟨g,i*3+2,none⟩ (int i64 (nums.getD z 0))) g tc ts nums i (2+1)/\Below w.heap.size w ((wr.drewN q).setCell ⟨g,i*3+2,none⟩ (int i64 (nums.getD z 0)))/\PRow ((wr.drewN q).setCell ⟨g,i*3+2,none⟩ (int i64 (nums.getD z 0))) m pts nums ever vA (.slice (some ⟨G,0,none⟩) nums.length Z)):=fun q=>by
       have aa:=D.out.put Y (show 2<3 by omega) hnc q;rw[EZ.out,Int.toNat_natCast] at aa;obtain⟨cur,O,_⟩:=D.out.out;refine⟨aa,Below.setCell (Zt HB2.out) hgb _,I.out.keepT ?_ ?_ ?_⟩
       ·exact fun k c h=>Zat (w:=wr.drewN q) O (by decide) k c h
       ·exact fun k c h=>Zat (w:=wr.drewN q) O (by decide) k c h
       ·exact fun k c h=>Zat (w:=wr.drewN q) O (by decide) k c h
      generalize Zcu ts nums i 2 i 2=ov at *
      generalize nums.getD z 0=nv at *
      have hix:=Z7i (x:Int) (y:Int) (z:Int);clear D HB2 I;go_wp2_with fail
      go_region;go_wp2
      go_roundw;case rel=>exact⟨2+1,by omega,by go_num,(J.out 1).1,(J.out 1).2.1,(J.out 1).2.2⟩
      case measure=>simp[intOf]
   ·have ei:i=ts.length:=by omega
    subst ei;have HF:Hid (wr.ownsRow w.heap.size 53 3 (.slice (some ⟨g,0,none⟩) ts.length tc) ts.length (Zj (ts.map (Xm nums)))):=HR.out.fin hgb hnc hcm;clear HR;go_wp2
    go_ret;exact⟨_,ts,rfl,HF.out,HSP.out.1,HSP.out.2,HB.out⟩
theorem Z7k (w:World):Calls prog 21 #[] w fun e w'=>e= .returned (.pointer (some ⟨w.heap.size,0,none⟩))/\PRow w' w.heap.size [] [] 0 (.slice none 0 0) (.slice none 0 0)/\Below w.heap.size w w':=by
 have D:Hid (PRow (w.alloc (.cells #[.slice none 0 0,.slice none 0 0,int i64 0] 101)) w.heap.size [] [] 0 (.slice none 0 0) (.slice none 0 0)/\Below w.heap.size w (w.alloc (.cells #[.slice none 0 0,.slice none 0 0,int i64 0] 101))):=
  ⟨⟨Zda _ _,⟨rfl,.inl ⟨rfl,rfl⟩⟩,⟨rfl,.inl ⟨rfl,rfl⟩⟩⟩,Zb _ _⟩
 go_enter func21,ntmps21;go_wp2
 go_ret;exact⟨rfl,D.out⟩
theorem Zg5.pre {w W w':World}{m:Nat}{pts:List Pt}{nums:List Int}{ever:Nat}{vA vN:Value}{p:Pt}{n:Int}{q:Nat}(I:Below w.heap.size w W)(h:Zg5 (W.drewN q) w' m pts nums ever vA vN p n):Zg5 w w' m pts nums ever vA vN p n:=by
 rcases h with ⟨Y,J,e⟩|⟨Y,J,vA',vN',e,D,h5,h6⟩
 ·exact .inl ⟨Y,J,I.trans ((⟨e.os,e.tape,e.output,e.size,e.block⟩:Below W.heap.size W w').mono I.size)⟩
 ·have Z:w.heap.size<=(W.drewN q).heap.size:=I.size;refine .inr ⟨Y,J,vA',vN',e,(Chg.of_below I).trans (⟨D.os,D.tape,D.output,D.size,D.far⟩:Chg (Zfu m vA vN) W w') fun _ _ g=>g,fun g O=>?_,fun g O=>?_⟩
  ·rcases h5 g O with h|h
   ·exact .inl h
   ·exact .inr (Nat.le_trans Z h)
  ·rcases h6 g O with h|h
   ·exact .inl h
   ·exact .inr (Nat.le_trans Z h)
section
variable (m:Nat) (pts:List Pt) (nums:List Int) (ever:Nat) (vA vN:Value)
theorem Z7l (px py:Int)(w:World)(H:PRow w m pts nums ever vA vN)(J:MOk pts nums ever)(Z:ever<=2000000000000) :
  Calls prog 97 #[.pointer (some ⟨m,0,none⟩),.agg #[int i64 px,int i64 py]] w fun e w'=>∃ n,e= .returned (.tuple #[int i64 n,int i64 (Za4 pts (px,py))])/\Zg5 w w' m pts nums ever vA vN (px,py) n:=by
 have I:=Zb w (.cells #[int i64 px,int i64 py] 37);have x0:(w.alloc (.cells #[int i64 px,int i64 py] 37)).cell? ⟨w.heap.size,0,none⟩=some (int i64 px):=by rw[World.cell?_alloc_at _ _ _ _ (by simp)];rfl
 have x1:(w.alloc (.cells #[int i64 px,int i64 py] 37)).cell? ⟨w.heap.size,1,none⟩=some (int i64 py):=by rw[World.cell?_alloc_at _ _ _ _ (by simp)];rfl
 have D:=H.below I;have Y:∀ q,Calls prog 125 #[.pointer (some ⟨m,0,none⟩),.agg #[int i64 px,int i64 py]] ((w.alloc (.cells #[int i64 px,int i64 py] 37)).drewN q) _:=fun q=>Z6t m pts nums ever vA vN px py _ ⟨D.blk,D.ownA,D.ownN⟩ J Z
 have HB0:Hid (Below w.heap.size w (w.alloc (.cells #[int i64 px,int i64 py] 37))):=I;have hm:=H.lt;clear H D J;generalize Za4 pts (px,py)=ie at *
 go_enter func97,ntmps97;go_upto_region 1 with fail;generalize w.alloc (.cells #[int i64 px,int i64 py] 37)=W at *
 go_region_with (go_at_call 125;refine (Y 1).mono ?_;rintro e w1 ⟨n,rfl,O⟩)
 all_goals go_wp2
 all_goals go_ret2
 all_goals exact⟨n,rfl,O.pre I⟩
theorem Z7m (n:Int)(w:World)(H:PRow w m pts nums ever vA vN)(D:MOk pts nums ever) :
  Calls prog 98 #[.pointer (some ⟨m,0,none⟩),int i64 n] w fun e w'=>∃ r,e= .returned (int i64 r)/\Zn7 w w' m pts nums ever vA vN n r:=by
 have I:=Z6y m pts nums ever vA vN n w H D;clear H D;go_enter func98,ntmps98;go_wp2_with (first|(go_at_call 126;refine I.mono ?_;rintro e O ⟨r,rfl,J⟩))
 go_ret;exact⟨r,rfl,J⟩
theorem Z7n (w:World)(H:PRow w m pts nums ever vA vN)(D:MOk pts nums ever) :
  Calls prog 100 #[.pointer (some ⟨m,0,none⟩)] w fun e w'=>
   ∃ v ts,e= .returned v/\w'.ownsRow w.heap.size 53 3 v ts.length (Zj (ts.map (Xm nums)))/\Xr pts ts/\ts.length<=4000/\Below w.heap.size w w':=by
 have I:=Z7j m pts nums ever vA vN w H D;clear H D;go_enter func100,ntmps100;go_wp2_with (first|(go_at_call 127;refine I.mono ?_;rintro e O ⟨v,ts,rfl,J⟩))
 go_ret;exact⟨v,ts,rfl,J⟩
theorem Z7o (px py:Int)(w:World)(H:PRow w m pts nums ever vA vN)(O:MOk pts nums ever) :
  Calls prog 62 #[.pointer (some ⟨m,0,none⟩),.agg #[int i64 px,int i64 py]] w fun e w'=>∃ n r,e= .returned (.tuple #[int i64 n,int i64 r])/\Zn8 pts nums (px,py) n r/\Below w.heap.size w w':=by
 have J:=Zb w (.cells #[int i64 px,int i64 py] 37);have x0:(w.alloc (.cells #[int i64 px,int i64 py] 37)).cell? ⟨w.heap.size,0,none⟩=some (int i64 px):=by rw[World.cell?_alloc_at _ _ _ _ (by simp)];rfl
 have x1:(w.alloc (.cells #[int i64 px,int i64 py] 37)).cell? ⟨w.heap.size,1,none⟩=some (int i64 py):=by rw[World.cell?_alloc_at _ _ _ _ (by simp)];rfl
 have I:=H.below J;have Z:∀ q,Calls prog 104 #[.pointer (some ⟨m,0,none⟩),.agg #[int i64 px,int i64 py]] ((w.alloc (.cells #[int i64 px,int i64 py] 37)).drewN q) _:=fun q=>Z68 m pts nums ever vA vN px py _ ⟨I.blk,I.ownA,I.ownN⟩ O
 have hm:=H.lt;clear H I O;go_enter func62,ntmps62;go_upto_region 1 with fail;generalize w.alloc (.cells #[int i64 px,int i64 py] 37)=W at *
 go_region_with (go_at_call 104;refine (Z 1).mono ?_;rintro e w1 ⟨n,r,rfl,Y,D⟩)
 all_goals go_wp2
 all_goals go_ret2
 all_goals exact⟨n,r,rfl,Y,J.trans ((⟨D.os,D.tape,D.output,D.size,D.block⟩:Below W.heap.size W w1).mono J.size)⟩
theorem Z7p (px py:Int)(w:World)(H:PRow w m pts nums ever vA vN)(hOk:MOk pts nums ever) :
  Calls prog 102 #[.pointer (some ⟨m,0,none⟩),.agg #[int i64 px,int i64 py]] w fun e w'=>
   ∃ k a b c r,e= .returned (.tuple #[.agg #[int i64 k,int i64 a,int i64 b,int i64 c],int i64 r])/\Zk7 pts nums (px,py) k a b c r/\Below w.heap.size w w':=by
 have hb0:=Yq w (.cells #[int i64 px,int i64 py] 37) (.cells #[int i64 0,int i64 0,int i64 0,int i64 0] 155);have x0:((w.alloc (.cells #[int i64 px,int i64 py] 37)).alloc (.cells #[int i64 0,int i64 0,int i64 0,int i64 0] 155)).cell? ⟨w.heap.size,0,none⟩=some (int i64 px):=by
  rw[World.cell?_alloc_past _ _ _ (by simp),World.cell?_alloc_at _ _ _ _ (by simp)];rfl
 have x1:((w.alloc (.cells #[int i64 px,int i64 py] 37)).alloc (.cells #[int i64 0,int i64 0,int i64 0,int i64 0] 155)).cell? ⟨w.heap.size,1,none⟩=some (int i64 py):=by
  rw[World.cell?_alloc_past _ _ _ (by simp),World.cell?_alloc_at _ _ _ _ (by simp)];rfl
 have x2:((w.alloc (.cells #[int i64 px,int i64 py] 37)).alloc (.cells #[int i64 0,int i64 0,int i64 0,int i64 0] 155)).heap[w.heap.size+1]? =some (.cells #[int i64 0,int i64 0,int i64 0,int i64 0] 155 (0,0)):=by
  have:=Zda (w.alloc (.cells #[int i64 px,int i64 py] 37)) (.cells #[int i64 0,int i64 0,int i64 0,int i64 0] 155);simpa using this
 have hs0:((w.alloc (.cells #[int i64 px,int i64 py] 37)).alloc (.cells #[int i64 0,int i64 0,int i64 0,int i64 0] 155)).heap.size=w.heap.size+2:=by simp
 have O:=H.below hb0;have HC:∀ q,Calls prog 128 #[.pointer (some ⟨m,0,none⟩),.agg #[int i64 px,int i64 py]] (((w.alloc (.cells #[int i64 px,int i64 py] 37)).alloc (.cells #[int i64 0,int i64 0,int i64 0,int i64 0] 155)).drewN q) _:=fun q=>Z7f m pts nums ever vA vN px py _ ⟨O.blk,O.ownA,O.ownN⟩ hOk
 have hm:=H.lt;clear H O hOk;go_enter func102,ntmps102;go_upto_region 1 with fail;generalize (w.alloc (.cells #[int i64 px,int i64 py] 37)).alloc (.cells #[int i64 0,int i64 0,int i64 0,int i64 0] 155)=W at *
 have X2:Hid (W.heap[w.heap.size+1]? =some (.cells #[int i64 0,int i64 0,int i64 0,int i64 0] 155 (0,0))):=x2;clear x2
 go_region_with (go_at_call 128; refine (HC 1).mono ?_; rintro e D ⟨kd, o0, Y, o2, r, rfl, hI, I⟩
                 have hb1' : Below W.heap.size W D := ⟨I.os, I.tape, I.output, I.size, I.block⟩
                 have Z : D.heap[w.heap.size + 1]? = some (.cells #[int i64 0, int i64 0, int i64 0, int i64 0] 155 (0, 0)) := by rw [hb1'.block _ (by omega)]; exact X2.out
                 obtain ⟨b0, b1, b2, b3⟩ : D.cell? ⟨w.heap.size + 1, 0, none⟩ = some (int i64 0) ∧ D.cell? ⟨w.heap.size + 1, 1, none⟩ = some (int i64 0) ∧ D.cell? ⟨w.heap.size + 1, 2, none⟩ = some (int i64 0) ∧ D.cell? ⟨w.heap.size + 1, 3, none⟩ = some (int i64 0) := by simp [World.cell?, Z]
                 have J : ∀ j, D.frozen? ⟨w.heap.size + 1, j, none⟩ = false := fun j => by simp [World.frozen?, Z]
                 have f0 := J 0
                 have f1 := J 1
                 have f2 := J 2
                 have f3 := J 3
                 obtain ⟨X, hX, z0, z1, z2, z3, hbX⟩ := Zk3 Z (int i64 kd) (int i64 o0) (int i64 Y) (int i64 o2)
                 have HBX : Hid (Below w.heap.size w X) := (hb0.trans (hb1'.mono hb0.size)).trans (hbX w.heap.size (by omega))
                 have HIL : Hid (Zk7 pts nums (px, py) kd o0 Y o2 r) := hI
                 clear Z J hbX hI I hb1')
 all_goals go_wp2
 all_goals refine bodyPost_ret (v:=.tuple #[.agg #[int i64 kd,int i64 o0,int i64 Y,int i64 o2],int i64 r]) (by simp[results,results102,go_sem,z0,z1,z2,z3]) rfl ⟨kd,o0,Y,o2,r,rfl,HIL.out,HBX.out⟩
end
end Go.Proofs.YtgpapegpdfonpaaGreatDoor
namespace Go.Proofs.YtgpapegpdfonpaaGreatDoor
open Go.RowKit
attribute [local go_sem ↓] Go.wp_at_zero Go.wp_at_succ
def MAt (w:World)(tag:Nat->Nat)(i m:Nat)(s:MS):Prop:=
 ∃ vA vN,PRow w m s.pts s.nums s.ever vA vN/\tag m=i/\(∀ g,vA.ownBlock=some g->tag g=i)/\(∀ g,vN.ownBlock=some g->tag g=i)/\MOk s.pts s.nums s.ever/\Xr s.pts s.ts/\s.ts.length<=4000
theorem MAt.frame {w w':World}{tag tag':Nat->Nat}{i m:Nat}{s:MS}(h:MAt w tag i m s)(hs:w.heap.size<=w'.heap.size)(I:∀ k,k<w.heap.size->tag k=i->w'.heap[k]? =w.heap[k]? /\tag' k=i):MAt w' tag' i m s:=by
 obtain⟨vA,vN,D,t1,t2,Z,r⟩:=h;have O:=I m D.lt t1;have J:=fun g e=>I g (Zx D.ownA e) (t2 g e)
 have Y:=fun g e=>I g (Zx D.ownN e) (Z g e)
 exact⟨vA,vN,D.keep O.1 (fun g e=>(J g e).1) (fun g e=>(Y g e).1),O.2,fun g e=>(J g e).2,fun g e=>(Y g e).2,r⟩
theorem Z7q:Xr [] []:=⟨[],⟨List.Perm.refl _,(fun i j _ h=>by cases h)⟩,.inl ⟨(fun j _ h=>by cases h),rfl⟩⟩
theorem Z7r:MOk [] [] 0:=⟨rfl,by simp,(fun i h=>by cases h),List.nodup_nil,List.Pairwise.nil,(fun n h=>by cases h)⟩
theorem MOk.more {pts:List Pt}{nums:List Int}{ever:Nat}{p:Pt}(h:MOk pts nums ever)(I:Za4 pts p=0):MOk (pts ++ [p]) (nums ++ [(ever:Int)]) (ever+1):=by
 unfold Za4 at I;split at I
 ·omega
 ·rename_i Z;split at I
  ·omega
  ·rename_i O;split at I
   ·omega
   ·rename_i h60;have aa:∀ i,i<pts.length->Za pts i≠p:=fun i hi e=>O (by rw[<-e];exact Zi8 hi)
    obtain⟨Y,n2⟩:=Zt3 h.nd h.near (Xp (by simpa using Z)) aa;refine⟨by simp[h.len],by simp;have:=h.le;omega,n2,Y,?_,?_⟩
    ·rw[List.pairwise_append];exact⟨h.inc,by simp,fun a ha b J=>by simp at J;subst J;exact (h.rng a ha).2⟩
    ·intro n D;rcases List.mem_append.1 D with D|D
     ·have:=h.rng n D;omega
     ·simp at D;omega
theorem MOk.less {pts:List Pt}{nums:List Int}{ever i:Nat}(h:MOk pts nums ever)(hi:i<nums.length):MOk (pts.eraseIdx i) (nums.eraseIdx i) ever:=by
 have sub:=List.eraseIdx_sublist pts i;refine⟨?_,Nat.le_trans sub.length_le h.le,?_,sub.nodup h.nd,h.inc.sublist (List.eraseIdx_sublist nums i),fun n J=>h.rng n ((List.eraseIdx_sublist nums i).subset J)⟩
 ·rw[List.length_eraseIdx,List.length_eraseIdx,h.len]
 ·intro j O;have Y:Za (pts.eraseIdx i) j∈pts:=sub.subset (Zi8 O);obtain⟨q,I,e⟩:=List.getElem_of_mem Y;have:=h.near q I;have D:Za pts q=Za (pts.eraseIdx i) j:=by rw[<-e];unfold Za px py;simp[I]
  unfold Za at D;rw[<-(Prod.mk.inj D).1,<-(Prod.mk.inj D).2];exact this
theorem Z7s {w:World}{tag:Nat->Nat}(h:Y6 w tag){g:Nat}(D:w.heap.size<=g):tag g=0:=by
 by_cases e:tag g=0
 ·exact e
 ·have:=h g e;omega
theorem Zbc.same {w w':World}{tag:Nat->Nat}{i m:Nat}{s:MS}{v:Value}(h:MAt w tag i m s)(I:Y6 w tag)(e:Below w.heap.size w w')(Y:∀ g,v.ownBlock=some g->w.heap.size<=g):Zbc MAt w w' tag i m s v:=
 ⟨tag,fun _ _=>rfl,fun k D=>L3 (I k D) e.size,h.frame e.size fun k D O=>⟨e.block k D,O⟩,Chg.of_below e,fun g J=>Z7s I (Y g J)⟩
theorem Zeg (g:Nat):(Value.slice none 0 0).ownBlock=some g->False:=fun h=>by cases h
theorem Z7t:MeshLaw MAt where
 frame:=fun w w' tag tag' i m s h hs O=>h.frame hs O
 ok:=fun w tag i m s h=>by
  obtain⟨vA,vN,J,t1,t2,t3,I,hS,hl⟩:=h;exact⟨I.len,I.le,I.near,I.nd,I.inc,I.rng,Zno (Zlv I.le I.near I.nd) hS hl⟩
 new:=fun w tag i hi Z=>by
  refine (Z7k w).mono ?_;rintro e w' ⟨rfl,J,Y⟩;refine⟨w.heap.size,rfl,⟨fun k=>if k=w.heap.size then i else tag k,fun k O=>if_neg (by omega),fun k O=>?_,⟨_,_,J,if_pos rfl,(fun g D=>(Zeg g D).elim),(fun g D=>(Zeg g D).elim),Z7r,Z7q,by simp⟩,Chg.of_below Y,fun g D=>(Zeg g D).elim⟩,Y⟩;by_cases e:k=w.heap.size
  ·rw[e];exact J.lt
  ·simp only[if_neg e] at O;exact L3 (Z k O) Y.size
 insert:=fun w tag i m s px py hi h Z hev=>by
  obtain⟨vA,vN,J,t1,t2,t3,I,hS,hl⟩:=h;refine (Z7l m s.pts s.nums s.ever vA vN px py w J I hev).mono ?_;rintro e w' ⟨n,rfl,hI⟩;rcases hI with ⟨h1,h2,Y⟩|⟨h1,h2,vA',vN',hP',hc,a1,a2⟩
  ·exact⟨n,s,rfl,.inl ⟨h1,h2,rfl⟩,Zbc.same ⟨vA,vN,J,t1,t2,t3,I,hS,hl⟩ Z Y fun g D=>(Zeg g D).elim⟩
  ·have hO':=I.more h1;obtain⟨ts',hS',hl'⟩:=Zn6 w (s.pts ++ [(px,py)]) hO'.le hO'.near hO'.nd;refine⟨n,⟨s.pts ++ [(px,py)],s.nums ++ [(s.ever:Int)],s.ever+1,ts'⟩,rfl,.inr ⟨h1,h2,rfl,rfl,rfl⟩,fun k=>if k<w.heap.size then tag k else if vA'.ownBlock=some k\/vN'.ownBlock=some k then i else 0,fun k O=>if_pos O,fun k O=>?_,⟨vA',vN',hP',?_,fun g D=>?_,fun g D=>?_,hO',hS',hl'⟩,hc.mono fun k O hF=>?_,fun g D=>(Zeg g D).elim⟩
   ·by_cases c:k<w.heap.size
    ·exact L3 c hc.size
    ·simp only[if_neg c] at O;by_cases c2:vA'.ownBlock=some k\/vN'.ownBlock=some k
     ·rcases c2 with c2|c2
      ·exact Zx hP'.ownA c2
      ·exact Zx hP'.ownN c2
     ·simp[if_neg c2] at O
   ·show (if m<w.heap.size then tag m else _)=i
    rw[if_pos J.lt];exact t1
   ·show (if g<w.heap.size then tag g else _)=i
    by_cases c:g<w.heap.size
    ·rw[if_pos c];rcases a1 g D with a|a
     ·exact t2 g a
     ·omega
    ·rw[if_neg c,if_pos (.inl D)]
   ·show (if g<w.heap.size then tag g else _)=i
    by_cases c:g<w.heap.size
    ·rw[if_pos c];rcases a2 g D with a|a
     ·exact t3 g a
     ·omega
    ·rw[if_neg c,if_pos (.inr D)]
   ·rcases hF with rfl|hF|hF
    ·exact t1
    ·exact t2 k hF
    ·exact t3 k hF
 remove:=fun w tag i m s n hi h Z=>by
  obtain⟨vA,vN,J,t1,t2,t3,I,hS,hl⟩:=h;refine (Z7m m s.pts s.nums s.ever vA vN n w J I).mono ?_;rintro e w' ⟨r,rfl,hI⟩;rcases hI with ⟨h1,h2,Y⟩|⟨h1,h2,j,hj,hjn,vA',vN',hP',hc,a1,a2⟩
  ·exact⟨r,s,rfl,.inl ⟨h1,h2,rfl⟩,Zbc.same ⟨vA,vN,J,t1,t2,t3,I,hS,hl⟩ Z Y fun g D=>(Zeg g D).elim⟩
  ·have hO':=I.less hj;obtain⟨ts',hS',hl'⟩:=Zn6 w (s.pts.eraseIdx j) hO'.le hO'.near hO'.nd;have hpl:(Yv s.nums n).toNat=j:=by rw[<-hjn,Zko I.inc hj];rfl
   refine⟨r,⟨s.pts.eraseIdx j,s.nums.eraseIdx j,s.ever,ts'⟩,rfl,.inr ⟨h1,h2,by rw[hpl],by rw[hpl],rfl⟩,tag,fun k _=>rfl,fun k O=>L3 (Z k O) hc.size,⟨vA',vN',hP',t1,fun g D=>t2 g (a1 g D),fun g D=>t3 g (a2 g D),hO',hS',hl'⟩,hc.mono fun k O hF=>?_,fun g D=>(Zeg g D).elim⟩;rcases hF with rfl|hF|hF
   ·exact t1
   ·exact t2 k hF
   ·exact t3 k hF
 triangles:=fun w tag i m s hi h Z=>by
  have h':=h;obtain⟨vA,vN,J,t1,t2,t3,I,hS,hl⟩:=h;refine (Z7n m s.pts s.nums s.ever vA vN w J I).mono ?_;rintro e w' ⟨v,ts,rfl,ho,hS2,hl2,Y⟩;have et:=hS2.unique I.nd hS;subst et;refine⟨v,rfl,ho,Zbc.same h' Z Y fun g D=>?_⟩;rcases ho.2 with ⟨e,_⟩|⟨g',c',cur',e,hbg,_⟩
  ·rw[e] at D;cases D
  ·rw[e] at D;cases D;exact hbg
 locate:=fun w tag i m s px py hi h Z=>by
  have h':=h;obtain⟨vA,vN,J,t1,t2,t3,I,hS,hl⟩:=h;refine (Z7p m s.pts s.nums s.ever vA vN px py w J I).mono ?_;rintro e w' ⟨k,a,b,c,r,rfl,hL,Y⟩;refine⟨k,a,b,c,r,rfl,?_,Zbc.same h' Z Y fun g D=>(Zeg g D).elim⟩;rcases hL with hL|⟨hf,hr,ts,a',b',c',hS2,hl2,hLP,e1,e2,e3⟩
  ·exact .inl hL
  ·have et:=hS2.unique I.nd hS;rw[et] at hLP;exact .inr ⟨hf,hr,a',b',c',hLP,e1,e2,e3⟩
 nearest:=fun w tag i m s px py hi h Z=>by
  have h':=h;obtain⟨vA,vN,J,t1,t2,t3,I,hS,hl⟩:=h;refine (Z7o m s.pts s.nums s.ever vA vN px py w J I).mono ?_;rintro e w' ⟨n,r,rfl,hN,Y⟩;exact⟨n,r,rfl,hN,Zbc.same h' Z Y fun g D=>(Zeg g D).elim⟩
end Go.Proofs.YtgpapegpdfonpaaGreatDoor
