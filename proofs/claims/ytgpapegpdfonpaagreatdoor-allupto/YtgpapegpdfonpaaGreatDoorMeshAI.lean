/- Part. -/
import Derived.Test.YtgpapegpdfonpaaGreatDoorJoinsL
import Derived.Deep.RegionWith
import Derived.Test.YtgpapegpdfonpaaGreatDoorPtsUV
set_option linter.unusedVariables false
set_option linter.unusedSimpArgs false
set_option maxHeartbeats 16000000
set_option maxRecDepth 100000
namespace Go.Proofs.YtgpapegpdfonpaaGreatDoor
open Go.RowKit Go.Proofs.Tryz
open Go.Value(int)
open Go.IntKind(i64)
attribute [local go_sem ↓] Go.wp_at_zero Go.wp_at_succ
theorem Zsw (J I O D:Int)(w:World) :
  Calls prog 91 #[.agg #[int i64 J,int i64 I],.agg #[int i64 O,int i64 D]] w fun e w'=>
   e= .returned (int i64 (dW (J,I) (O,D)))/\Below w.heap.size w w':=by
 unfold dW;simp only;go_enter func91,ntmps91;go_wp2
 go_ret;exact⟨rfl,Yq _ _ _⟩
theorem Z3s (b off cap:Nat)(l:List Pt)(px py:Int)(w:World)(hl:l.length<=60)(hb:b<w.heap.size)(hp:Zp w b off l) :
  Calls prog 64 #[.slice (some ⟨b,off,none⟩) l.length cap,.agg #[int i64 px,int i64 py]] w fun e w'=>e= .returned (int i64 (Z1 l (px,py) l.length))/\Below w.heap.size w w':=by
 go_enter func64,ntmps64;go_wp2
 have hb0:=Zb w (.cells #[int i64 px,int i64 py] 37);have x0:(w.alloc (.cells #[int i64 px,int i64 py] 37)).cell? ⟨w.heap.size,0,none⟩=some (int i64 px):=by rw[World.cell?_alloc_at _ _ _ _ (by simp)];rfl
 have x1:(w.alloc (.cells #[int i64 px,int i64 py] 37)).cell? ⟨w.heap.size,1,none⟩=some (int i64 py):=by rw[World.cell?_alloc_at _ _ _ _ (by simp)];rfl
 have hs0:(w.alloc (.cells #[int i64 px,int i64 py] 37)).heap.size=w.heap.size+1:=by simp
 generalize w.alloc (.cells #[int i64 px,int i64 py] 37)=W at *
 have hpW:=hp.below hb0 hb;have hbW:b<W.heap.size:=by omega
 have hxW:w.heap.size<W.heap.size:=by omega
 clear hp hs0;generalize hBX:w.heap.size=BX at *
 go_loopw [5,6] (fun s5 s6 wr=>∃ k:Nat,k<=l.length/\s6=int i64 k/\s5=int i64 (Z1 l (px,py) k)/\Below W.heap.size W wr) (fun _ i _=>l.length-(intOf i).toNat)
 case atStart=>exact⟨0,Nat.zero_le _,rfl,rfl,Below.refl _ _⟩
 case round=>
  obtain⟨k,hk,rfl,rfl,D⟩:=hrel;by_cases hkl:k<l.length
  ·obtain⟨c0,c1⟩:=(hpW.below D hbW) k hkl;have y0:(0:Int)<=(k:Int):=by omega
   have y1:(k:Int)<(l.length:Int):=by omega
   have y4:IntKind.i64.wrap ((k:Int)+1)=(k:Int)+1:=Zd (by omega) (by omega);by_cases hk0:k=0
   ·subst hk0;have e0:Z1 l (px,py) 0= -1:=rfl;have Y:Hid (Z1 l (px,py) (0+1)=((0:Nat):Int)):=by
     show Z1 l (px,py) (0+1)=_
     rw[Z1,e0,if_pos (.inl (by omega))]
    rw[e0];clear e0;go_wp2_with fail
    go_quiet (fail);go_wp2
    go_roundw;case rel=>exact⟨0+1,by omega,by go_num,by rw[Y.out],Zt D⟩
    case measure=>simp[intOf];omega
   ·obtain⟨g0,g1⟩:=Zgx l (px,py) k (by omega);have I:Hid (Z1 l (px,py) (k+1)=if Z1 l (px,py) k<0\/dW (Za l k) (px,py)<dW (pOf l (Z1 l (px,py) k)) (px,py) then (k:Int) else Z1 l (px,py) k):=by
     show Z1 l (px,py) (k+1)=_
     rw[Z1]
    obtain⟨m,em⟩:∃ m:Nat,Z1 l (px,py) k=(m:Int):=⟨(Z1 l (px,py) k).toNat,by omega⟩;rw[em] at I g0 g1 ⊢;have hm:m<l.length:=by omega
    obtain⟨c2,c3⟩:=(hpW.below D hbW) m hm;have pm:pOf l (m:Int)=Za l m:=by unfold pOf;rw[Int.toNat_natCast]
    rw[pm] at I;have e1:Za l k=((l.getD k (0,0)).1,(l.getD k (0,0)).2):=rfl;have e2:Za l m=((l.getD m (0,0)).1,(l.getD m (0,0)).2):=rfl;rw[e1,e2] at I;clear em pm e1 e2;generalize (l.getD k (0,0)).1=qx at *
    generalize (l.getD k (0,0)).2=qy at *
    generalize (l.getD m (0,0)).1=mx at *
    generalize (l.getD m (0,0)).2=my at *
    have z0:(0:Int)<=(m:Int):=by omega
    have z1:(m:Int)<(l.length:Int):=by omega
    have z2:decide ((m:Int)<0)=false:=decide_eq_false (by omega);have z3:¬ ((m:Int)<0):=by omega
    have q0:=(D.cell (p:=⟨BX,0,none⟩) hxW).trans x0;have q1:=(D.cell (p:=⟨BX,1,none⟩) hxW).trans x1;have zb:b<wr.heap.size:=L3 hbW D.size;have zx:BX<wr.heap.size:=L3 hxW D.size;generalize hd1:dW (qx,qy) (px,py)=d1 at *
    generalize hd2:dW (mx,my) (px,py)=Z at *
    have HD1:Hid (dW (qx,qy) (px,py)=d1):=hd1;have HD2:Hid (dW (mx,my) (px,py)=Z):=hd2;clear hd1 hd2 g0 g1;by_cases hdd:d1<Z
    ·have Y:Hid (Z1 l (px,py) (k+1)=(k:Int)):=by
      have:=I.out;rw[if_pos (.inr hdd)] at this;exact this
     have hdt:decide (d1<Z)=true:=decide_eq_true hdd;clear I;go_wp2_with fail
     go_region_held3 (fun w'=>Below wr.heap.size wr w'/\∀ b o,b<wr.heap.size->w'.cell? ⟨b,o,none⟩=wr.cell? ⟨b,o,none⟩) (first|exact Yw _|exact Yx (by assumption) O)
      (first|(go_at_call 91;refine (Zsw _ _ _ _ _).mono ?_;rintro e w' ⟨rfl,O⟩;first|rw[HD1.out] | rw[HD2.out]))
     rename_i J;have hR:=D.trans (J.1.mono D.size);clear J O;go_wp2
     go_roundw;case rel=>exact⟨k+1,by omega,by go_num,by rw[Y.out],hR⟩
     case measure=>simp[intOf];omega
    ·have Y:Hid (Z1 l (px,py) (k+1)=(m:Int)):=by
      have:=I.out;rw[if_neg (by omega)] at this;exact this
     have hdt:decide (d1<Z)=false:=decide_eq_false hdd;clear I;go_wp2_with fail
     go_region_held3 (fun w'=>Below wr.heap.size wr w'/\∀ b o,b<wr.heap.size->w'.cell? ⟨b,o,none⟩=wr.cell? ⟨b,o,none⟩) (first|exact Yw _|exact Yx (by assumption) O)
      (first|(go_at_call 91;refine (Zsw _ _ _ _ _).mono ?_;rintro e w' ⟨rfl,O⟩;first|rw[HD1.out] | rw[HD2.out]))
     rename_i J;have hR:=D.trans (J.1.mono D.size);clear J O;go_wp2
     go_roundw;case rel=>exact⟨k+1,by omega,by go_num,by rw[Y.out],hR⟩
     case measure=>simp[intOf];omega
  ·have ek:k=l.length:=by omega
   subst ek;have HR:Hid (Below BX w wr):=hb0.trans (D.mono (by omega));clear D hb0;go_wp2
   go_ret;rw[hBX];exact⟨rfl,HR.out⟩
theorem Z3t (a:Option Addr)(cap:Nat)(px py:Int)(w:World) :
  Calls prog 64 #[.slice a 0 cap,.agg #[int i64 px,int i64 py]] w fun e w'=>e= .returned (int i64 (-1))/\Below w.heap.size w w':=by
 go_enter func64,ntmps64;go_wp2
 have D:=Zb w (.cells #[int i64 px,int i64 py] 37);generalize w.alloc (.cells #[int i64 px,int i64 py] 37)=W at *
 go_loopw [5,6] (fun s5 s6 wr=>s6=int i64 0/\s5=int i64 (-1)/\wr=W) (fun _ _ _=>0)
 case atStart=>exact⟨rfl,rfl,rfl⟩
 case round=>
  obtain⟨rfl,rfl,rfl⟩:=hrel;go_wp2
  go_ret;exact⟨rfl,D⟩
theorem Z3u (a:Option Addr)(cap:Nat)(l:List Pt)(px py:Int)(w:World)(Y:l.length<=60)(I:Z0 w a l) :
  Calls prog 64 #[.slice a l.length cap,.agg #[int i64 px,int i64 py]] w fun e w'=>e= .returned (int i64 (Z1 l (px,py) l.length))/\Below w.heap.size w w':=by
 rcases I with rfl|⟨b,D,rfl,J,O⟩
 ·exact Z3t a cap px py w
 ·exact Z3s b D cap l px py w Y J O
theorem Zsx (K:Nat)(na:Option Addr)(nc:Nat)(D:List Int)(n:Int)(w:World)(hl:D.length<=1000)(hK:w.cell? ⟨K,2,none⟩=some (.slice na D.length nc))(O:Zy w na D) :
  Calls prog 99 #[.pointer (some ⟨K,0,none⟩),int i64 n] w fun e w'=>e= .returned (int i64 (Yv D n))/\w'=w:=by
 have hKl:=World.block_lt_of_cell? w _ hK;go_enter func99,ntmps99;go_wp2
 go_loopw [5] (fun s5 wr=>∃ k:Nat,k<=D.length/\s5=int i64 k/\(∀ j,j<k->D.getD j 0≠n)/\wr=w) (fun i _=>D.length-(intOf i).toNat)
 case atStart=>exact⟨0,Nat.zero_le _,rfl,fun j Z=>by omega,rfl⟩
 case round=>
  obtain⟨k,hk,rfl,I,rfl⟩:=hrel;by_cases aa:k<D.length
  ·obtain⟨g,rfl,c0⟩:=O k aa;have y0:(0:Int)<=(k:Int):=by omega
   have y1:(k:Int)<(D.length:Int):=by omega
   have y4:IntKind.i64.wrap ((k:Int)+1)=(k:Int)+1:=Zd (by omega) (by omega);by_cases J:D.getD k 0=n
   ·have Y:Hid (Yv D n=k):=Znn aa I J;rw[J] at c0;have hq:(n == n)=true:=by simp
    clear J I O;go_wp2
    go_ret;exact⟨by rw[Y.out];rfl,rfl⟩
   ·have HN:Hid (∀ j,j<k+1->D.getD j 0≠n):=fun j Z=>by
     by_cases e:j=k
     ·subst e;exact J
     ·exact I j (by omega)
    have hq:(D.getD k 0 == n)=false:=beq_eq_false_iff_ne.2 J;generalize D.getD k 0=v at *
    clear I O;go_wp2
    go_roundw;case rel=>exact⟨k+1,by omega,by go_num,HN.out,by first|rfl|trivial⟩
    case measure=>simp[intOf];omega
  ·have Y:Hid (Yv D n= -1):=Znm fun hm=>by
    obtain⟨j,Z,e⟩:=List.getElem_of_mem hm;exact I j (by omega) (by simp[Z,e])
   clear I O;go_wp2
   go_ret;exact⟨by rw[Y.out];rfl,rfl⟩
theorem Z3v (x y z n:Int)(w:World) :
  Calls prog 154 #[.agg #[int i64 x,int i64 y,int i64 z],int i64 n] w fun e w'=>e= .returned (.bool (Z5 (x,y,z) n))/\Below w.heap.size w w':=by
 have Z:Hid (Z5 (x,y,z) n=(x == n || y == n || z == n)):=rfl;by_cases D:x=n
 ·have O:(x == n)=true:=beq_iff_eq.2 D;have I:Hid (Z5 (x,y,z) n=true):=by unfold Hid;rw[Z.out,O];rfl
  clear D;go_enter func154,ntmps154;go_wp2
  go_ret;exact⟨by rw[I.out];rfl,Zb _ _⟩
 ·have O:(x == n)=false:=beq_eq_false_iff_ne.2 D;by_cases J:y=n
  ·have Y:(y == n)=true:=beq_iff_eq.2 J;have I:Hid (Z5 (x,y,z) n=true):=by unfold Hid;rw[Z.out,O,Y];rfl
   clear D J;go_enter func154,ntmps154;go_wp2
   go_ret;exact⟨by rw[I.out];rfl,Zb _ _⟩
  ·have Y:(y == n)=false:=beq_eq_false_iff_ne.2 J;have I:Hid (Z5 (x,y,z) n=(z == n)):=by unfold Hid;rw[Z.out,O,Y];rfl
   clear D J;go_enter func154,ntmps154;go_wp2
   go_ret;exact⟨by rw[I.out];rfl,Zb _ _⟩
theorem Z3w (l:List Pt)(ts:List T3)(e:Bool)(a:Nat):Yi l ts e a (a+1)=[]:=by
 unfold Yi;rw[List.filter_eq_nil_iff.2,List.map_nil];intro b D;have:=List.mem_range.1 D;simp only[Bool.and_eq_true,decide_eq_true_eq,not_and];omega
theorem Z3x (l:List Pt)(ts:List T3)(e:Bool){a b:Nat}(h:a<b):Yi l ts e a (b+1)=Yi l ts e a b ++ (if Zbz l ts e a b=true then [(a,b)] else []):=by
 unfold Yi;rw[List.range_succ,List.filter_append,List.map_append];congr 1;by_cases D:Zbz l ts e a b=true
 ·simp[h,D]
 ·simp[h,D]
theorem Zsy (l:List Pt)(ts:List T3)(e:Bool)(a:Nat):Zm l ts e (a+1)=Zm l ts e a ++ Yi l ts e a l.length:=by
 unfold Zm;rw[List.range_succ,List.flatMap_append];simp
theorem Zsz (l:List Pt)(ts:List T3)(e:Bool)(a b:Nat):(Yi l ts e a b).length<=b:=by
 unfold Yi;rw[List.length_map];exact Nat.le_trans (List.length_filter_le _ _) (by simp)
theorem Znq (l:List Pt)(ts:List T3)(e:Bool):∀ a,(Zm l ts e a).length<=a*l.length
 | 0=>by simp[Zm]
 | a+1=>by
  rw[Zsy,List.length_append,Nat.add_mul];have:=Znq l ts e a;have:=Zsz l ts e a l.length;omega
def Zam (q:List (Nat×Nat)):List Value:=q.flatMap fun x=>[int i64 (x.1:Int),int i64 (x.2:Int)]
theorem Z3y (q r:List (Nat×Nat)):Zam (q ++ r)=Zam q ++ Zam r:=by simp[Zam]
theorem Zs0:∀ (q:List (Nat×Nat)) (i:Nat) (h:i<q.length),(Zam q)[i*2]? =some (int i64 (q[i].1:Int))/\(Zam q)[i*2+1]? =some (int i64 (q[i].2:Int))
 | [],i,h=>by simp at h
 | x :: q,0,_=>⟨rfl,rfl⟩
 | x :: q,i+1,h=>by
  have:=Zs0 q i (by simpa using h);have e:Zam (x :: q)=int i64 (x.1:Int) :: int i64 (x.2:Int) :: Zam q:=rfl;rw[e,show (i+1)*2=i*2+1+1 by omega];simpa using this
theorem Z3z (l:List Pt)(a b k:Nat):Xa l a b (k+1)=(Xa l a b k && (k == a || k == b || decide (0<=dt (Za l a) (Za l b) (Za l k)))):=by
 unfold Xa;rw[List.range_succ,List.all_append];simp
theorem Z30:(prog.info? 164).map (fun i=>(i.zero,i.size,i.bytes))=some (some (.agg #[int i64 0,int i64 0]),2,16):=by kernel_rfl
theorem Znr (w:World)(v u:Value)(t:TypeId):∀ j x,[v,u][j]? =some x->(w.alloc (.cells #[v,u] t)).cell? ((⟨w.heap.size,0,none⟩:Addr).add j)=some x:=by
 intro j x I;have D:(⟨w.heap.size,0,none⟩:Addr).add j=⟨w.heap.size,j,none⟩:=by unfold Addr.add;split <;> simp_all
 rw[D];have e:=heap_alloc_new w (.cells #[v,u] t);simp only[World.cell?,e];simpa using I
theorem Z31 (b off cap:Nat) (ta:Option Addr) (tc:Nat) (l:List Pt) (ts:List T3) (fl:Bool) (w:World) (hl:l.length<=60) (htl:ts.length<=4000) (hn:Zv l) (hb:b<w.heap.size) (hp:Zp w b off l)
  (ht:ts=[]\/∃ g,ta=some ⟨g,0,none⟩/\g<w.heap.size/\Zcr w g ts) (hfl:fl=true↔∀ i,2<=i->i<l.length->sd (Za l 0) (Za l 1) (Za l i)=0) :
  Calls prog 129 #[.slice (some ⟨b,off,none⟩) l.length cap,.slice ta ts.length tc] w fun e w'=>∃ v,e= .returned v/\w'.ownsRow w.heap.size 164 2 v (Zm l ts fl l.length).length (Zam (Zm l ts fl l.length))/\Below w.heap.size w w':=by
 have HF:=Zkg b off cap l w hl hn hb hp;have HN:Hid (Zv l):=hn;have HFL:Hid (fl=true↔∀ i,2<=i->i<l.length->sd (Za l 0) (Za l 1) (Za l i)=0):=hfl;have HT:Hid (ts=[]\/∃ g,ta=some ⟨g,0,none⟩/\g<w.heap.size/\Zcr w g ts):=ht;have HAL:Hid (∀ a,(Zm l ts fl a).length<=a*l.length):=Znq l ts fl;obtain⟨iP,hiP,hzP,hsP,hbP⟩:=info_parts Z30;clear hn hfl ht;go_enter func129,ntmps129;go_upto_region 3 with (go_at_call 92;refine HF.mono ?_;rintro e w1 ⟨B,rfl,hB,hb1⟩);have hBf:B=fl:=by
  rw[Bool.eq_iff_iff,hB,HFL.out]
 subst hBf;clear HF hB;go_wp2_with fail
 go_loopw [5,7] (fun s5 s7 wr=>∃ a:Nat,a<=l.length/\s7=int i64 a/\wr.ownsRow w.heap.size 164 2 s5 (Zm l ts B a).length (Zam (Zm l ts B a))/\Below w.heap.size w wr) (fun _ i _=>l.length-(intOf i).toNat)
 case atStart=>exact⟨0,Nat.zero_le _,rfl,World.ownsRow_nil _ _ _ _,hb1⟩
 case round=>
  clear hb1;obtain⟨a,ha,rfl,hown,Z⟩:=hrel;by_cases hal:a<l.length
  ·have y0:(0:Int)<=(a:Int):=by omega
   have y1:(a:Int)<(l.length:Int):=by omega
   have y2:IntKind.i64.wrap ((a:Int)+1)=(a:Int)+1:=Zd (by omega) (by omega);go_wp2_with fail
   generalize wr=Wa at *
   go_loopw [5,8] (fun s5 s8 wr=>∃ c:Nat,a<c/\c<=l.length/\s8=int i64 c/\wr.ownsRow w.heap.size 164 2 s5 (Zm l ts B a ++ Yi l ts B a c).length (Zam (Zm l ts B a ++ Yi l ts B a c))/\Below w.heap.size w wr) (fun _ i _=>l.length-(intOf i).toNat)
   case atStart=>exact⟨a+1,by omega,by omega,by go_num,by rw[Z3w,List.append_nil];exact hown,Z⟩
   case round=>
    clear hown Z;obtain⟨c,hac,hc,rfl,hown,Z⟩:=hrel;by_cases hcl:c<l.length
    ·have z0:(0:Int)<=(c:Int):=by omega
     have z1:(c:Int)<(l.length:Int):=by omega
     have z4:IntKind.i64.wrap ((c:Int)+1)=(c:Int)+1:=Zd (by omega) (by omega);have HOW:Hid (wr.ownsRow w.heap.size 164 2 u5 (Zm l ts B a ++ Yi l ts B a c).length (Zam (Zm l ts B a ++ Yi l ts B a c))):=hown;have hpr:=hp.below Z hb;have hbw:b<wr.heap.size:=L3 hb Z.size;clear hown;generalize wr=Wx at *
     go_upto_block 4 with fail
     go_cut [9,10] (fun s9 _ wx=>s9= .bool (B && Xa l a c l.length)/\Below Wx.heap.size Wx wx)
     case first=>
      as_aux_lemma=>
      cases B with
      | false=>
       clear HOW HT HAL;go_wp2_with fail
       go_loopw [9,10] (fun s9 s10 wr=>s9= .bool false/\s10=int i64 0/\wr=Wx) (fun _ _ _=>0)
       case atStart=>exact⟨rfl,rfl,rfl⟩
       case round=>
        obtain⟨rfl,rfl,rfl⟩:=hrel;go_wp2
        go_meet;case rel=>exact⟨rfl,Below.refl _ _⟩
      | true=>
       clear HOW HT HAL;go_wp2_with fail
       go_loopw [9,10] (fun s9 s10 wr=>∃ k:Nat,k<=l.length/\s10=int i64 k/\s9= .bool (Xa l a c k)/\Below Wx.heap.size Wx wr) (fun _ i _=>l.length-(intOf i).toNat)
       case atStart=>exact⟨0,Nat.zero_le _,rfl,rfl,Below.refl _ _⟩
       case round=>
        obtain⟨k,hk,rfl,rfl,Y⟩:=hrel;by_cases hkl:k<l.length
        ·have q0:(0:Int)<=(k:Int):=by omega
         have q1:(k:Int)<(l.length:Int):=by omega
         have q4:IntKind.i64.wrap ((k:Int)+1)=(k:Int)+1:=Zd (by omega) (by omega);have J:Hid (Xa l a c (k+1)=(Xa l a c k && (k == a || k == c || decide (0<=dt (Za l a) (Za l c) (Za l k))))):=Z3z l a c k;by_cases hka:k=a
         ·subst hka;have I:Hid (Xa l k c (k+1)=Xa l k c k):=by unfold Hid;rw[J.out];simp
          have e1:((k:Int) != (k:Int))=false:=by simp
          clear J;generalize Xa l k c k=fr at *
          go_wp2_with fail
          go_quiet (fail);go_wp2
          go_roundw;case rel=>exact⟨k+1,by omega,by go_num,by rw[I.out],Zt Y⟩
          case measure=>simp[intOf];omega
         ·have e1:((k:Int) != (a:Int))=true:=by simp;omega
          by_cases hkc:k=c
          ·subst hkc;have I:Hid (Xa l a k (k+1)=Xa l a k k):=by unfold Hid;rw[J.out];simp
           have e2:((k:Int) != (k:Int))=false:=by simp
           clear J;generalize Xa l a k k=fr at *
           go_wp2_with fail
           go_quiet (fail);go_wp2
           go_roundw;case rel=>exact⟨k+1,by omega,by go_num,by rw[I.out],Zt Y⟩
           case measure=>simp[intOf];omega
          ·have e2:((k:Int) != (c:Int))=true:=by simp;omega
           obtain⟨d0,d1⟩:=(hpr.below Y hbw) a hal;obtain⟨d2,d3⟩:=(hpr.below Y hbw) c hcl;obtain⟨d4,d5⟩:=(hpr.below Y hbw) k hkl;have nA:Near (l.getD a (0,0)).1 (l.getD a (0,0)).2:=HN.out a hal;have nB:Near (l.getD c (0,0)).1 (l.getD c (0,0)).2:=HN.out c hcl;have nC:Near (l.getD k (0,0)).1 (l.getD k (0,0)).2:=HN.out k hkl;have TC:=fun W=>Zne _ _ _ _ _ _ W nA nB nC
           have HS2:Hid (Xa l a c (k+1)=(Xa l a c k && decide (0<=dt ((l.getD a (0,0)).1,(l.getD a (0,0)).2) ((l.getD c (0,0)).1,(l.getD c (0,0)).2) ((l.getD k (0,0)).1,(l.getD k (0,0)).2)))):=by
            have:=J.out;have f1:(k == a)=false:=beq_eq_false_iff_ne.2 hka;have f2:(k == c)=false:=beq_eq_false_iff_ne.2 hkc;rw[f1,f2,Bool.false_or,Bool.false_or] at this;exact this
           clear J nA nB nC;have gr:b<wr.heap.size:=L3 hbw Y.size;generalize dt ((l.getD a (0,0)).1,(l.getD a (0,0)).2) ((l.getD c (0,0)).1,(l.getD c (0,0)).2) ((l.getD k (0,0)).1,(l.getD k (0,0)).2)=D at *
           generalize (l.getD a (0,0)).1=ax at *
           generalize (l.getD a (0,0)).2=ay at *
           generalize (l.getD c (0,0)).1=bx at *
           generalize (l.getD c (0,0)).2=by2 at *
           generalize (l.getD k (0,0)).1=cx at *
           generalize (l.getD k (0,0)).2=cy at *
           by_cases hD:D<0
           ·have I:Hid (Xa l a c (k+1)=false):=by unfold Hid;rw[HS2.out,decide_eq_false (p:=0<=D) (by omega),Bool.and_false]
            rw[decide_eq_true hD] at TC;clear HS2 hD hka hkc;generalize Xa l a c k=fr at *
            go_wp2_with fail
            go_region_held3 (fun w'=>Below wr.heap.size wr w'/\∀ b o,b<wr.heap.size->w'.cell? ⟨b,o,none⟩=wr.cell? ⟨b,o,none⟩) (first|exact Yw _|exact Yx (by assumption) hb1)
             (first|(go_at_call 123;refine (TC _).mono ?_;rintro e w' ⟨rfl,hb1⟩))
            rename_i hSS;have hbk2:=Y.trans (hSS.1.mono Y.size);clear hSS hb1 TC d0 d1 d2 d3 d4 d5;go_wp2
            go_roundw;case rel=>exact⟨k+1,by omega,by go_num,by rw[I.out],hbk2⟩
            case measure=>simp[intOf];omega
           ·have I:Hid (Xa l a c (k+1)=Xa l a c k):=by unfold Hid;rw[HS2.out,decide_eq_true (p:=0<=D) (by omega),Bool.and_true]
            rw[decide_eq_false hD] at TC;clear HS2 hD hka hkc;generalize Xa l a c k=fr at *
            go_wp2_with fail
            go_region_held3 (fun w'=>Below wr.heap.size wr w'/\∀ b o,b<wr.heap.size->w'.cell? ⟨b,o,none⟩=wr.cell? ⟨b,o,none⟩) (first|exact Yw _|exact Yx (by assumption) hb1)
             (first|(go_at_call 123;refine (TC _).mono ?_;rintro e w' ⟨rfl,hb1⟩))
            rename_i hSS;have hbk2:=Y.trans (hSS.1.mono Y.size);clear hSS hb1 TC d0 d1 d2 d3 d4 d5;go_wp2
            go_roundw;case rel=>exact⟨k+1,by omega,by go_num,by rw[I.out],hbk2⟩
            case measure=>simp[intOf];omega
        ·have ek:k=l.length:=by omega
         subst ek;generalize Xa l a c l.length=fr at *
         go_wp2
         go_meet;case rel=>exact⟨by simp,Y⟩
     case rest=>
      as_aux_lemma=>
      obtain⟨rfl,hbc⟩:=hcut;have hbx:=Z.trans (hbc.mono Z.size);have hown2:=Yt HOW.out hbc;have HOW2:Hid (wc.ownsRow w.heap.size 164 2 u5 (Zm l ts B a ++ Yi l ts B a c).length (Zam (Zm l ts B a ++ Yi l ts B a c))):=hown2;have HJB:Hid (Zbz l ts B a c=(((B && Xa l a c l.length):Bool) || ts.any fun t=>Z5 t a && Z5 t c)):=rfl;clear hbc Z hown2 HOW hpr hbw;generalize (B && Xa l a c l.length)=j0 at *
      generalize wc=Wy at *
      go_upto_block 6 with fail
      go_cut [9,11] (fun s9 _ wx=>s9= .bool (Zbz l ts B a c)/\Below Wy.heap.size Wy wx)
      case first=>
       as_aux_lemma=>
       have HAC:Hid (∀ k,k<ts.length->∃ g,ta=some ⟨g,0,none⟩/\g<Wy.heap.size/\Wy.cell? ⟨g,k*3,none⟩=some (iv (ts.getD k (0,0,0)).1)/\Wy.cell? ⟨g,k*3+1,none⟩=some (iv (ts.getD k (0,0,0)).2.1)/\Wy.cell? ⟨g,k*3+2,none⟩=some (iv (ts.getD k (0,0,0)).2.2)):=fun k hk=>by
        rcases HT.out with h|⟨g,e,hg,h⟩
        ·rw[h] at hk;simp at hk
        ·obtain⟨h1,h2,h3⟩:=(h.below hbx hg) k hk;exact⟨g,e,L3 hg hbx.size,h1,h2,h3⟩
       clear HOW2 HT HAL hbx;go_wp2_with fail
       go_loopw [9,11] (fun s9 s11 wr=>∃ i:Nat,i<=ts.length/\s11=int i64 i/\s9= .bool (j0 || (ts.take i).any fun t=>Z5 t a && Z5 t c)/\Below Wy.heap.size Wy wr) (fun _ i _=>ts.length-(intOf i).toNat)
       case atStart=>exact⟨0,Nat.zero_le _,rfl,by simp,Below.refl _ _⟩
       case round=>
        obtain⟨i,hi,rfl,rfl,O⟩:=hrel;by_cases hil:i<ts.length
        ·obtain⟨g,rfl,hg,h1,h2,h3⟩:=HAC.out i hil;have r0:=(O.cell (p:=⟨g,i*3,none⟩) hg).trans h1;have r1:=(O.cell (p:=⟨g,i*3+1,none⟩) hg).trans h2;have r2:=(O.cell (p:=⟨g,i*3+2,none⟩) hg).trans h3;have q0:(0:Int)<=(i:Int):=by omega
         have q1:(i:Int)<(ts.length:Int):=by omega
         have q4:IntKind.i64.wrap ((i:Int)+1)=(i:Int)+1:=Zd (by omega) (by omega);have J:Hid ((j0 || (ts.take (i+1)).any fun t=>Z5 t a && Z5 t c)=((j0 || (ts.take i).any fun t=>Z5 t a && Z5 t c) || (Z5 (ts.getD i (0,0,0)) a && Z5 (ts.getD i (0,0,0)) c))):=by
          show (j0 || (ts.take (i+1)).any fun t=>Z5 t a && Z5 t c)=_
          have eg:ts.getD i (0,0,0)=ts[i]:=by simp[hil]
          rw[List.take_succ_eq_append_getElem hil,List.any_append,eg];simp[Bool.or_assoc]
         have gi:g<wr.heap.size:=L3 hg O.size;clear h1 h2 h3 HAC;generalize (j0 || (ts.take i).any fun t=>Z5 t a && Z5 t c)=jj at *
         have HH:=fun n W=>Z3v (ts.getD i (0,0,0)).1 (ts.getD i (0,0,0)).2.1 (ts.getD i (0,0,0)).2.2 n W
         have eta:((ts.getD i (0,0,0)).1,(ts.getD i (0,0,0)).2.1,(ts.getD i (0,0,0)).2.2)=ts.getD i (0,0,0):=rfl;rw[<-eta] at J;clear eta;generalize (ts.getD i (0,0,0)).1=tx at *
         generalize (ts.getD i (0,0,0)).2.1=ty at *
         generalize (ts.getD i (0,0,0)).2.2=tz at *
         generalize hh1:Z5 (tx,ty,tz) a=b1 at *
         generalize hh2:Z5 (tx,ty,tz) c=b2 at *
         have H1:Hid (Z5 (tx,ty,tz) a=b1):=hh1;have H2:Hid (Z5 (tx,ty,tz) c=b2):=hh2;clear hh1 hh2;cases jj with
         | true=>
          have I:Hid ((j0 || (ts.take (i+1)).any fun t=>Z5 t a && Z5 t c)=true):=by unfold Hid;rw[J.out];rfl
          clear J HH;go_wp2
          go_roundw;case rel=>exact⟨i+1,by omega,by go_num,by rw[I.out],O⟩
          case measure=>simp[intOf];omega
         | false=>
          cases b1 with
          | false=>
           have I:Hid ((j0 || (ts.take (i+1)).any fun t=>Z5 t a && Z5 t c)=false):=by unfold Hid;rw[J.out];rfl
           clear J;go_wp2_with (go_at_call 154;refine (HH _ _).mono ?_;rintro e w5 ⟨rfl,hb5⟩;rw[H1.out])
           have hbj:=O.trans (hb5.mono O.size);clear hb5;go_roundw;case rel=>exact⟨i+1,by omega,by go_num,by rw[I.out],hbj⟩
           case measure=>simp[intOf];omega
          | true=>
           have I:Hid ((j0 || (ts.take (i+1)).any fun t=>Z5 t a && Z5 t c)=b2):=by unfold Hid;rw[J.out];cases b2 <;> rfl
           clear J
           go_wp2_with (first
             | (go_at_call 154; refine (HH _ _).mono ?_; rintro e w5 ⟨rfl, hb5⟩; rw [H1.out]
                replace r0 := (hb5.cell (p := ⟨g, i * 3, none⟩) gi).trans r0
                replace r1 := (hb5.cell (p := ⟨g, i * 3 + 1, none⟩) gi).trans r1
                replace r2 := (hb5.cell (p := ⟨g, i * 3 + 2, none⟩) gi).trans r2)
             | (go_at_call 154; refine (HH _ _).mono ?_; rintro e w6 ⟨rfl, hb6⟩; rw [H2.out]))
           have hbj:=(O.trans (hb5.mono O.size)).trans (hb6.mono (O.trans (hb5.mono O.size)).size);clear hb5 hb6;go_roundw;case rel=>exact⟨i+1,by omega,by go_num,by rw[I.out],hbj⟩
           case measure=>simp[intOf];omega
        ·have ei:i=ts.length:=by omega
         subst ei;have I:Hid (Zbz l ts B a c=(j0 || (ts.take ts.length).any fun t=>Z5 t a && Z5 t c)):=by unfold Hid;rw[HJB.out,List.take_length]
         generalize (j0 || (ts.take ts.length).any fun t=>Z5 t a && Z5 t c)=jj at *
         go_wp2
         go_meet;case rel=>exact⟨by rw[I.out],O⟩
      case rest=>
       as_aux_lemma=>
       obtain⟨rfl,hbd⟩:=hcut;have hby:=hbx.trans (hbd.mono hbx.size);have hown3:=Yt HOW2.out hbd;have HJ:Hid (Yi l ts B a (c+1)=Yi l ts B a c ++ (if Zbz l ts B a c=true then [(a,c)] else [])):=Z3x l ts B hac;have hcnt:(Zm l ts B a ++ Yi l ts B a c).length<=3660:=by
        have h1:=HAL.out a;have h2:=Zsz l ts B a c;have h3:a*l.length<=60*60:=Nat.mul_le_mul (by omega) hl;rw[List.length_append];omega
       clear HJB HOW2 hbd hbx;generalize wc=Wz at *
       obtain⟨oa,oc,rfl⟩:=Zn hown3;have HOW3:Hid (Wz.ownsRow w.heap.size 164 2 (.slice oa (Zm l ts B a ++ Yi l ts B a c).length oc) (Zm l ts B a ++ Yi l ts B a c).length (Zam (Zm l ts B a ++ Yi l ts B a c))):=hown3;have hsz:=hby.size;clear hown3;cases hjj:Zbz l ts B a c with
       | false=>
        have I:Hid (Wz.ownsRow w.heap.size 164 2 (.slice oa (Zm l ts B a ++ Yi l ts B a c).length oc) (Zm l ts B a ++ Yi l ts B a (c+1)).length (Zam (Zm l ts B a ++ Yi l ts B a (c+1)))):=by
         have e:Yi l ts B a (c+1)=Yi l ts B a c:=by rw[HJ.out,hjj];simp
         rw[e];exact HOW3.out
        clear hjj HJ HOW3;go_wp2
        go_roundw;case rel=>exact⟨c+1,by omega,by omega,by go_num,I.out,hby⟩
        case measure=>simp[intOf];omega
       | true=>
        have HE:Hid (Zam (Zm l ts B a ++ Yi l ts B a (c+1))=Zam (Zm l ts B a ++ Yi l ts B a c) ++ [int i64 (a:Int),int i64 (c:Int)]/\(Zm l ts B a ++ Yi l ts B a (c+1)).length=(Zm l ts B a ++ Yi l ts B a c).length+1):=by
         have e:Yi l ts B a (c+1)=Yi l ts B a c ++ [(a,c)]:=by rw[HJ.out,hjj];simp
         rw[e,<-List.append_assoc];exact⟨Z3y _ _,by simp only[List.length_append,List.length_singleton]⟩
        clear hjj HJ;generalize Zm l ts B a ++ Yi l ts B a c=Q1 at *
        have hn1:=Znr Wz (int i64 (a:Int)) (int i64 (c:Int)) 164;have HN1:Hid (∀ j x,[Value.int .i64 (a:Int),int i64 (c:Int)][j]? =some x->(Wz.alloc (.cells #[int i64 (a:Int),int i64 (c:Int)] 164)).cell? ((⟨Wz.heap.size,0,none⟩:Addr).add j)=some x):=hn1;clear hn1;go_wp2_with (at_builtin;refine Xv _ (by rfl) (.tmp 85) (.tmp 89) 187 (by rfl) w.heap.size 164 iP (.agg #[int i64 0,int i64 0]) 2 16 underlying187 hiP hzP hsP hbP rfl (by decide) _ _ _ (by rfl) (Yt HOW3.out (Zb _ _)) ⟨Wz.heap.size,0,none⟩ 1 1 [int i64 (a:Int),int i64 (c:Int)] (by rfl) rfl HN1.out ?c2 (by decide) ?c3 ?c4 ?c5 (Wz.heap.size+1) ?c6 ?_)
        case c2=>intro u hu;simp at hu;rcases hu with rfl|rfl <;> rfl
        case c3=>unfold maxLen;omega
        case c4=>omega
        case c5=>simp;omega
        case c6=>simp
        ·intro g2 cap2 w3 hown5 hat5 hlt5;have I:Hid (w3.ownsRow w.heap.size 164 2 (.slice (some ⟨g2,0,none⟩) (Q1.length+1) cap2) (Zm l ts B a ++ Yi l ts B a (c+1)).length (Zam (Zm l ts B a ++ Yi l ts B a (c+1)))/\Below w.heap.size w w3):=by
          refine⟨by rw[HE.out.1,HE.out.2];exact hown5,?_⟩;have k1:=hby.trans ((Zb Wz (.cells #[int i64 (a:Int),int i64 (c:Int)] 164)).mono hby.size);rcases hat5 with ⟨hv,hgr⟩|⟨hv,hgr⟩
          ·exact k1.grown hgr (by simp;omega) fun k hk=>by cases hk;exact (hown5.lt _ rfl).1
          ·exact k1.grown hgr (by simp;omega) fun k hk=>by cases hk
         clear hown5 hat5 hlt5 HOW3 HE;go_wp2
         go_roundw;case rel=>exact⟨c+1,by omega,by omega,by go_num,I.out.1,I.out.2⟩
         case measure=>simp[intOf];omega
    ·have ec:c=l.length:=by omega
     subst ec;have HOW:Hid (wr.ownsRow w.heap.size 164 2 u5 (Zm l ts B (a+1)).length (Zam (Zm l ts B (a+1)))):=by rw[Zsy];exact hown
     clear hown;go_wp2
     go_roundw;case rel=>exact⟨a+1,by omega,by go_num,HOW.out,Z⟩
     case measure=>simp[intOf];omega
  ·have ea:a=l.length:=by omega
   subst ea;have HOW:Hid (wr.ownsRow w.heap.size 164 2 u5 (Zm l ts B l.length).length (Zam (Zm l ts B l.length))/\Below w.heap.size w wr):=⟨hown,Z⟩;clear hown Z;go_wp2
   go_ret;exact⟨_,rfl,HOW.out.1,HOW.out.2⟩
structure LocW (w W:World)(px py:Int):Prop where
 bel:Below w.heap.size w W
 size:W.heap.size=w.heap.size+2
 box:W.heap[w.heap.size]? =some (.cells #[int i64 px,int i64 py] 37 (0,0))
 ans:W.heap[w.heap.size+1]? =some (.cells #[int i64 0,int i64 0,int i64 0,int i64 0] 155 (0,0))
theorem Zs1 (w:World)(px py:Int):LocW w ((w.alloc (.cells #[int i64 px,int i64 py] 37)).alloc (.cells #[int i64 0,int i64 0,int i64 0,int i64 0] 155)) px py:=by
 refine⟨Yq _ _ _,by simp,?_,?_⟩
 ·rw[Below.heap_alloc _ _ _ (by simp)];exact heap_alloc_new _ _
 ·have:=heap_alloc_new (w.alloc (.cells #[int i64 px,int i64 py] 37)) (.cells #[int i64 0,int i64 0,int i64 0,int i64 0] 155);simpa using this
theorem Zif {W:World}{R:Nat}{Y a1 a2 a3:Value}{T:TypeId}(h:W.heap[R]? =some (.cells #[Y,a1,a2,a3] T (0,0)))(J I D O:Value) :
  ∃ X,(((W.setCell ⟨R,0,none⟩ J).setCell ⟨R,1,none⟩ I).setCell ⟨R,2,none⟩ D).setCell ⟨R,3,none⟩ O=X/\X.cell? ⟨R,0,none⟩=some J/\X.cell? ⟨R,1,none⟩=some I/\X.cell? ⟨R,2,none⟩=some D/\X.cell? ⟨R,3,none⟩=some O/\∀ N,N<=R->Below N W X:=by
 have Z:=heap_setCell_same W R 0 _ _ J h;have k1:=heap_setCell_same _ R 1 _ _ I Z;have k2:=heap_setCell_same _ R 2 _ _ D k1;have k3:=heap_setCell_same _ R 3 _ _ O k2;refine⟨_,rfl,?_,?_,?_,?_,fun N e=>((((Below.refl N W).setCell (p:=⟨R,0,none⟩) e J).setCell (p:=⟨R,1,none⟩) e I).setCell (p:=⟨R,2,none⟩) e D).setCell (p:=⟨R,3,none⟩) e O⟩ <;> (simp only[World.cell?,k3];rfl)
theorem Zb0 {W:World}{R:Nat}{I D J e:Value}{T:TypeId}(h:W.heap[R]? =some (.cells #[I,D,J,e] T (0,0))) :
  W.cell? ⟨R,0,none⟩=some I/\W.cell? ⟨R,1,none⟩=some D/\W.cell? ⟨R,2,none⟩=some J/\W.cell? ⟨R,3,none⟩=some e/\∀ j,W.frozen? ⟨R,j,none⟩=false:=by
 simp[World.cell?,World.frozen?,h]
theorem Zns (w:World)(g n cap i:Nat)(h:i<n):(Instr.indexAt 42 (.slice (some ⟨g,0,none⟩) n cap) (int i64 (i:Int))).run prog w= .ok (.pointer (some ⟨g,i*3,none⟩)) w:=by
 have D:(0:Int)<=(i:Int):=by omega
 have e:(i:Int)<(n:Int):=by omega
 go_simp
theorem Z32 (w:World)(g o:Nat):(Instr.indexAt 53 (.pointer (some ⟨g,o,none⟩)) (int i64 0)).run prog w= .ok (.pointer (some ⟨g,o,none⟩)) w:=by go_simp
theorem Z33 (w:World)(g o:Nat):(Instr.indexAt 53 (.pointer (some ⟨g,o,none⟩)) (int i64 1)).run prog w= .ok (.pointer (some ⟨g,o+1,none⟩)) w:=by go_simp
theorem Z34 (w:World)(g o:Nat):(Instr.indexAt 53 (.pointer (some ⟨g,o,none⟩)) (int i64 2)).run prog w= .ok (.pointer (some ⟨g,o+2,none⟩)) w:=by go_simp
theorem Znt (w:World)(g e n cap i:Nat)(h:i<n):(Instr.indexAt 41 (.slice (some ⟨g,e,none⟩) n cap) (int i64 (i:Int))).run prog w= .ok (.pointer (some ⟨g,e+i*2,none⟩)) w:=by
 have I:(0:Int)<=(i:Int):=by omega
 have D:(i:Int)<(n:Int):=by omega
 go_simp
def Znu (D I:Value)(b e g k x y z:Nat)(Y O bx Z J cy:Int):Nat->Knd
 | 0=>.val D
 | 1=>.val I
 | 2=>.val (int i64 (k:Int))
 | 3=>.val (.pointer (some ⟨g,k*3,none⟩))
 | 4=>.val (.pointer (some ⟨g,k*3,none⟩))
 | 5=>.val (int i64 (x:Int))
 | 6=>.val (.pointer (some ⟨b,e+x*2,none⟩))
 | 7=>.val (pv Y O)
 | 8=>.val D
 | 9=>.val I
 | 10=>.val (int i64 (k:Int))
 | 11=>.val (.pointer (some ⟨g,k*3,none⟩))
 | 12=>.val (.pointer (some ⟨g,k*3+1,none⟩))
 | 13=>.val (int i64 (y:Int))
 | 14=>.val (.pointer (some ⟨b,e+y*2,none⟩))
 | 15=>.val (pv bx Z)
 | 16=>.val D
 | 17=>.val I
 | 18=>.val (int i64 (k:Int))
 | 19=>.val (.pointer (some ⟨g,k*3,none⟩))
 | 20=>.val (.pointer (some ⟨g,k*3+2,none⟩))
 | 21=>.val (int i64 (z:Int))
 | 22=>.val (.pointer (some ⟨b,e+z*2,none⟩))
 | 23=>.val (pv J cy)
 | 24=>.fresh
 | 25=>.fresh
 | 26=>.fresh
 | 27=>.put 24 (int i64 Y) (int i64 O)
 | 28=>.put 25 (int i64 bx) (int i64 Z)
 | 29=>.put 26 (int i64 J) (int i64 cy)
 | _=>.val undef
theorem Z35 (I Z:Value)(b e g k x y z:Nat)(J ay Y O D cy:Int)(q a:Nat)(u v:Value)(h:Znu I Z b e g k x y z J ay Y O D cy q= .put a u v):q=a+3:=by
 unfold Znu at h;split at h <;> simp at h <;> omega
theorem Znv (w:World)(b:Nat)(c0 c1:Value)(x y:Int)(h:w.heap[b]? =some (.cells #[c0,c1] 37 (0,0))) :
  (Instr.storeAt 37 (.pointer (some ⟨b,0,none⟩)) (pv x y)).run prog w= .ok () ((w.setCell ⟨b,0,none⟩ (int i64 x)).setCell ⟨b,1,none⟩ (int i64 y)):=by
 have e:w.cell? ⟨b,0,none⟩=some c0:=Ys h 0;have I:w.cell? ⟨b,1,none⟩=some c1:=Ys h 1;have J:=Zch h 0;have D:=Zch h 1;go_simp
theorem Z36 (b off cap:Nat) (ta:Option Addr) (tc:Nat) (l:List Pt) (ts:List T3) (fl:Bool) (px py:Int) (w:World) (hl:l.length<=60) (htl:ts.length<=4000) (hn:Zv l) (hpn:Near px py) (hb:b<w.heap.size) (hp:Zp w b off l)
  (ht:ts=[]\/∃ g,ta=some ⟨g,0,none⟩/\g<w.heap.size/\Zcr w g ts) (hfl:fl=true↔∀ i,2<=i->i<l.length->sd (Za l 0) (Za l 1) (Za l i)=0)
  (htr:∀ t∈ts,0<=t.1/\t.1<l.length/\0<=t.2.1/\t.2.1<l.length/\0<=t.2.2/\t.2.2<l.length) :
  Calls prog 103 #[.slice (some ⟨b,off,none⟩) l.length cap,.slice ta ts.length tc,.agg #[int i64 px,int i64 py]] w fun e w'=>∃ k a b c,e= .returned (.agg #[int i64 k,int i64 a,int i64 b,int i64 c])/\Xl l ts (Zm l ts fl l.length) (px,py) k a b c/\Below w.heap.size w w':=by
 have HN:Hid (Zv l):=hn;have HT:Hid (ts=[]\/∃ g,ta=some ⟨g,0,none⟩/\g<w.heap.size/\Zcr w g ts):=ht;have HFL:Hid (fl=true↔∀ i,2<=i->i<l.length->sd (Za l 0) (Za l 1) (Za l i)=0):=hfl;have HTR:Hid (∀ t∈ts,0<=t.1/\t.1<l.length/\0<=t.2.1/\t.2.1<l.length/\0<=t.2.2/\t.2.2<l.length):=htr;have HPN:Hid (Near px py):=hpn;clear hn ht hfl htr hpn;go_enter func103,ntmps103;go_upto_region 1 with fail;have HLW:=Zs1 w px py;generalize (w.alloc (.cells #[int i64 px,int i64 py] 37)).alloc (.cells #[int i64 0,int i64 0,int i64 0,int i64 0] 155)=W at *
 have HW:Hid (LocW w W px py):=HLW;have hpW:=hp.below HLW.bel hb;have hbW:b<W.heap.size:=by have:=HLW.size;omega
 have x0:W.cell? ⟨w.heap.size,0,none⟩=some (int i64 px):=by simp[World.cell?,HLW.box]
 have x1:W.cell? ⟨w.heap.size,1,none⟩=some (int i64 py):=by simp[World.cell?,HLW.box]
 clear HLW;go_upto_block 0 with fail
 go_cut [7] (fun _ wx=>(∀ i,i<l.length->Za l i≠(px,py))/\Below W.heap.size W wx)
 case first=>
  as_aux_lemma=>
  go_wp2_with fail
  go_loopw [7] (fun s7 wr=>∃ k:Nat,k<=l.length/\s7=int i64 k/\(∀ i,i<k->Za l i≠(px,py))/\∃ n,wr=W.drewN n) (fun i _=>l.length-(intOf i).toNat)
  case atStart=>exact⟨0,Nat.zero_le _,rfl,fun i hi=>by omega,0,rfl⟩
  case round=>
   obtain⟨k,hk,rfl,hno,n,rfl⟩:=hrel;by_cases hkl:k<l.length
   ·obtain⟨c0,c1⟩:=hpW k hkl;have y0:(0:Int)<=(k:Int):=by omega
    have y1:(k:Int)<(l.length:Int):=by omega
    have y4:IntKind.i64.wrap ((k:Int)+1)=(k:Int)+1:=Zd (by omega) (by omega);have HNO:Hid (∀ i,i<k->Za l i≠(px,py)):=hno;have eP:Za l k=((l.getD k (0,0)).1,(l.getD k (0,0)).2):=rfl;have HEP:Hid (Za l k=((l.getD k (0,0)).1,(l.getD k (0,0)).2)):=eP;clear hno eP;generalize (l.getD k (0,0)).1=qx at *
    generalize (l.getD k (0,0)).2=qy at *
    have HNX:Hid (¬ (qx=px/\qy=py)->∀ i,i<k+1->Za l i≠(px,py)):=fun he i hi=>by
     by_cases e:i=k
     ·subst e;rw[HEP.out];intro e';exact he ⟨(Prod.mk.inj e').1,(Prod.mk.inj e').2⟩
     ·exact HNO.out i (by omega)
    by_cases e1:qx=px
    ·by_cases e2:qy=py
     ·subst e1 e2;have HR:Hid (Xl l ts (Zm l ts fl l.length) (qx,qy) 3 k (-1) (-1)):=.inl ⟨k,hkl,HEP.out,rfl,rfl,rfl,rfl⟩;clear HNX HNO;go_wp2_with fail
      go_quiet (fail);have HANS:Hid ((W.drewN (n+nq)).heap[w.heap.size+1]? =some (.cells #[int i64 0,int i64 0,int i64 0,int i64 0] 155 (0,0))):=HW.out.ans;have hbq:Below w.heap.size w (W.drewN (n+nq)):=Zt HW.out.bel;have HBQ:Hid (Below w.heap.size w (W.drewN (n+nq))):=hbq;rw[World.drewN_drewN];clear c0 c1 x0 x1 hbq;generalize W.drewN (n+nq)=Y at *
      obtain⟨a0,a1,a2,a3,af⟩:=Zb0 HANS.out;have f0:=af 0;have f1:=af 1;have f2:=af 2;have f3:=af 3;obtain⟨X,hX,z0,z1,z2,z3,hbX⟩:=Zif HANS.out (int i64 3) (int i64 (k:Int)) (int i64 (-1)) (int i64 (-1));have HBX:Hid (Below w.heap.size w X):=HBQ.out.trans (hbX w.heap.size (by omega));clear af hbX HBQ HANS;go_wp2
      refine bodyPost_ret (v:=.agg #[int i64 3,int i64 (k:Int),int i64 (-1),int i64 (-1)]) (by simp[results,results103,go_sem,z0,z1,z2,z3]) rfl ⟨3,k,-1,-1,rfl,HR.out,HBX.out⟩
     ·have HNO2:Hid (∀ i,i<k+1->Za l i≠(px,py)):=HNX.out fun h=>e2 h.2
      clear HNX;clear HNO HEP;go_wp2_with fail
      go_quiet (fail);go_wp2
      go_roundw;case rel=>exact⟨k+1,by omega,by go_num,HNO2.out,_,by first|rfl|simp[World.drewN_drewN]⟩
      case measure=>simp[intOf];omega
    ·have HNO2:Hid (∀ i,i<k+1->Za l i≠(px,py)):=HNX.out fun h=>e1 h.1
     clear HNX;clear HNO HEP;go_wp2_with fail
     go_quiet (fail);go_wp2
     go_roundw;case rel=>exact⟨k+1,by omega,by go_num,HNO2.out,_,by first|rfl|simp[World.drewN_drewN]⟩
     case measure=>simp[intOf];omega
   ·have HNO:Hid ((∀ i,i<l.length->Za l i≠(px,py))/\Below W.heap.size W (W.drewN n)):=⟨fun i hi=>hno i (by omega),Zt (Below.refl _ _)⟩;clear hno;go_wp2
    go_meet;case rel=>exact HNO.out
 case rest=>
  as_aux_lemma=>
  obtain⟨hno,hbx⟩:=hcut;have HNO:Hid (∀ i,i<l.length->Za l i≠(px,py)):=hno;have hwV:Below w.heap.size w wc:=HW.out.bel.trans (hbx.mono HW.out.bel.size);have hpV:=hp.below hwV hb;have hbV:b<wc.heap.size:=L3 hb hwV.size
  have JC := Z31 b off cap ta tc l ts fl wc hl htl HN.out hbV hpV (by
    rcases HT.out with h | ⟨g, e, hg, h⟩
    · exact .inl h
    · exact .inr ⟨g, e, L3 hg hwV.size, h.below hwV hg⟩) HFL.out
  have HJM:Hid (∀ q∈Zm l ts fl l.length,q.1<l.length/\q.2<l.length):=fun q hq=>by
   have:=Zea.1 (show (q.1,q.2)∈Zm l ts fl l.length from hq);exact⟨this.1,this.2.2.1⟩
  have HJL:Hid ((Zm l ts fl l.length).length<=3600):=by
   have h1:=Znq l ts fl l.length;have h2:l.length*l.length<=60*60:=Nat.mul_le_mul hl hl;show (Zm l ts fl l.length).length<=3600
   omega
  clear hno hpV hbV;go_upto_region 7 with (go_at_call 129;refine JC.mono ?_;rintro e w2 ⟨jv,rfl,hown2,hb2⟩);generalize hJJ:Zm l ts fl l.length=J at *
  have HJE:Hid (Zm l ts fl l.length=J):=hJJ;clear hJJ;have hbW2:Below W.heap.size W w2:=hbx.trans (hb2.mono hbx.size);have hw2:Below w.heap.size w w2:=hwV.trans (hb2.mono hwV.size);obtain⟨ja,jc,rfl⟩:=Zn hown2;have HJA:Hid (∀ k (hk:k<J.length),∃ g,ja=some ⟨g,0,none⟩/\g<w2.heap.size/\w2.cell? ⟨g,k*2,none⟩=some (int i64 (J[k].1:Int))/\w2.cell? ⟨g,k*2+1,none⟩=some (int i64 (J[k].2:Int))):=fun k hk=>by
   obtain⟨g,e,hg,hc⟩:=Zcw hown2 (by omega);obtain⟨e1,e2⟩:=Zs0 J k hk;exact⟨g,e,hg,by rw[hc _ (by omega),e1],by rw[hc _ (by omega),e2]⟩
  have hsW:W.heap.size=w.heap.size+2:=HW.out.size;have q0:w2.cell? ⟨w.heap.size,0,none⟩=some (int i64 px):=(hbW2.cell (p:=⟨w.heap.size,0,none⟩) (by show w.heap.size<W.heap.size;omega)).trans x0;have q1:w2.cell? ⟨w.heap.size,1,none⟩=some (int i64 py):=(hbW2.cell (p:=⟨w.heap.size,1,none⟩) (by show w.heap.size<W.heap.size;omega)).trans x1;have HANS:Hid (w2.heap[w.heap.size+1]? =some (.cells #[int i64 0,int i64 0,int i64 0,int i64 0] 155 (0,0))):=(hbW2.block _ (by omega)).trans HW.out.ans;have hs2:w.heap.size+2<=w2.heap.size:=by have:=hbW2.size;omega
  have hp2:=hp.below hw2 hb;have hb2':b<w2.heap.size:=L3 hb hw2.size;clear JC hown2 hb2 hbx hwV hbW2 x0 x1 hpW hbW HFL HW hsW;generalize w2=V at *
  go_upto_block 2 with fail
  go_cut [9] (fun _ wx=>(∀ q∈J,¬ Z4 (px,py) (Za l q.1) (Za l q.2))/\Below V.heap.size V wx)
  case first=>
   as_aux_lemma=>
   go_wp2_with fail
   go_loopw [9] (fun s9 wr=>∃ k:Nat,k<=J.length/\s9=int i64 k/\(∀ i (hi:i<J.length),i<k->¬ Z4 (px,py) (Za l J[i].1) (Za l J[i].2))/\Below V.heap.size V wr) (fun i _=>J.length-(intOf i).toNat)
   case atStart=>exact⟨0,Nat.zero_le _,rfl,fun i _ hi=>by omega,Below.refl _ _⟩
   case round=>
    obtain⟨k,hk,rfl,hsg,hbr⟩:=hrel;have HSG:Hid (∀ i (hi:i<J.length),i<k->¬ Z4 (px,py) (Za l J[i].1) (Za l J[i].2)):=hsg;have hk36:k<=3600:=by have:=HJL.out;omega
    clear hsg;by_cases hkl:k<J.length
    ·obtain⟨g,rfl,hg,j0,j1⟩:=HJA.out k hkl;replace j0:=(hbr.cell (p:=⟨g,k*2,none⟩) hg).trans j0;replace j1:=(hbr.cell (p:=⟨g,k*2+1,none⟩) hg).trans j1;obtain⟨hx,hy⟩:=HJM.out J[k] (List.getElem_mem hkl);have HIN:Hid (J[k]∈J):=List.getElem_mem hkl;have HNX:Hid (¬ Z4 (px,py) (Za l J[k].1) (Za l J[k].2)->∀ i (hi:i<J.length),i<k+1->¬ Z4 (px,py) (Za l J[i].1) (Za l J[i].2)):=fun h i hi hik=>by
      by_cases e:i=k
      ·subst e;exact h
      ·exact HSG.out i hi (by omega)
     obtain⟨d0,d1⟩:=(hp2.below hbr hb2') J[k].1 hx;obtain⟨d2,d3⟩:=(hp2.below hbr hb2') J[k].2 hy;have NA:Hid (Near (l.getD J[k].1 (0,0)).1 (l.getD J[k].1 (0,0)).2):=HN.out _ hx;have NB:Hid (Near (l.getD J[k].2 (0,0)).1 (l.getD J[k].2 (0,0)).2):=HN.out _ hy;have eA:Hid (Za l J[k].1=((l.getD J[k].1 (0,0)).1,(l.getD J[k].1 (0,0)).2)):=rfl;have eB:Hid (Za l J[k].2=((l.getD J[k].2 (0,0)).1,(l.getD J[k].2 (0,0)).2)):=rfl;have hgr:g<wr.heap.size:=L3 hg hbr.size;have hbr':b<wr.heap.size:=L3 hb2' hbr.size;clear HSG;obtain⟨x,hxe⟩:∃ x,x=J[k].1:=⟨_,rfl⟩;obtain⟨y,hye⟩:∃ y,y=J[k].2:=⟨_,rfl⟩;have HXY:Hid (x=J[k].1/\y=J[k].2):=⟨hxe,hye⟩;rw[<-hxe] at j0 hx HNX d0 d1 NA eA;rw[<-hye] at j1 hy HNX d2 d3 NB eB;clear hxe hye;generalize (l.getD x (0,0)).1=ax at *
     generalize (l.getD x (0,0)).2=ay at *
     generalize (l.getD y (0,0)).1=bx at *
     generalize (l.getD y (0,0)).2=by2 at *
     have y0:(0:Int)<=(k:Int):=by omega
     have y1:(k:Int)<(J.length:Int):=by omega
     have y2:(0:Int)<=(x:Int):=by omega
     have y3:(x:Int)<(l.length:Int):=by omega
     have y4:(0:Int)<=(y:Int):=by omega
     have y5:(y:Int)<(l.length:Int):=by omega
     have y6:IntKind.i64.wrap ((k:Int)+1)=(k:Int)+1:=Zd (by omega) (by omega);go_wp2_with fail
     go_cut [10, 11] (fun s10 s11 wx => ∃ p q, s10 = .pointer (some ⟨p, 0, none⟩) ∧ s11 = .pointer (some ⟨q, 0, none⟩) ∧ p < wx.heap.size ∧ q < wx.heap.size ∧
       wx.cell? ⟨p, 0, none⟩ = some (int i64 ax) ∧ wx.cell? ⟨p, 1, none⟩ = some (int i64 ay) ∧ wx.cell? ⟨q, 0, none⟩ = some (int i64 bx) ∧ wx.cell? ⟨q, 1, none⟩ = some (int i64 by2) ∧ Below wr.heap.size wr wx)
     case first=>
      as_aux_lemma=>
      clear HN HT HTR HPN HNO HJM HJL HJA HANS HIN HNX NA NB eA eB HXY hp hp2 q0 q1;go_region;all_goals go_wp2_with fail
      all_goals go_meet
      all_goals
       refine⟨_,_,rfl,rfl,by simp <;> omega,by simp <;> omega,?_,?_,?_,?_,(Yq _ _ _).drew⟩;all_goals first
        | (simp[go_sem];done)
        | (rw[World.cell?_drew,World.cell?_alloc_at _ _ _ _ (by simp)];rfl)
     case rest=>
      as_aux_lemma=>
      obtain⟨p,q,rfl,rfl,ab,ac,p0,p1,r0,r1,hbc⟩:=hcut;have hbY:=hbr.trans (hbc.mono hbr.size);replace j0:=(hbc.cell (p:=⟨g,k*2,none⟩) hgr).trans j0;replace j1:=(hbc.cell (p:=⟨g,k*2+1,none⟩) hgr).trans j1;replace q0:=(hbY.cell (p:=⟨w.heap.size,0,none⟩) (by show w.heap.size<V.heap.size;omega)).trans q0;replace q1:=(hbY.cell (p:=⟨w.heap.size,1,none⟩) (by show w.heap.size<V.heap.size;omega)).trans q1;have hgY:g<wc.heap.size:=L3 hgr hbc.size;clear d0 d1 d2 d3 hbr hbc hgr hbr' y2 y3 y4 y5;generalize wc=Y at *
      have SC:=fun W=>Zbl ax ay bx by2 px py W NA.out NB.out HPN.out
      have TC:=fun W=>Zne ax ay bx by2 px py W NA.out NB.out HPN.out
      have HSD:Hid (Zk ax ay bx by2 px py=sd (Za l x) (Za l y) (px,py)):=by unfold Hid;rw[eA.out,eB.out];rfl
      have HDT:Hid (dt (ax,ay) (bx,by2) (px,py)=dt (Za l x) (Za l y) (px,py)):=by unfold Hid;rw[eA.out,eB.out]
      clear NA NB eA eB;generalize Zk ax ay bx by2 px py=S at *
      generalize dt (ax,ay) (bx,by2) (px,py)=D at *
      by_cases O:S=0
      ·rw[(Zdr S).2 O] at SC;by_cases hD:D<0
       ·rw[decide_eq_true hD] at TC;have HR:Hid (Xl l ts J (px,py) 2 x y (-1)):=by
         refine .inr (.inl ⟨HNO.out,J[k],HIN.out,?_,rfl,by rw[HXY.out.1],by rw[HXY.out.2],rfl⟩);rw[<-HXY.out.1,<-HXY.out.2];exact⟨by rw[<-HSD.out];exact O,by rw[<-HDT.out];exact hD⟩
        clear HNX HSD HDT O hD HIN HXY
        go_upto_region 12 with (first
          | (go_at_call 87; refine (SC _).mono ?_; rintro e w5 ⟨rfl, I⟩
             replace p0 := (I.cell (p := ⟨p, 0, none⟩) ab).trans p0
             replace p1 := (I.cell (p := ⟨p, 1, none⟩) ab).trans p1
             replace r0 := (I.cell (p := ⟨q, 0, none⟩) ac).trans r0
             replace r1 := (I.cell (p := ⟨q, 1, none⟩) ac).trans r1
             replace q0 := (I.cell (p := ⟨w.heap.size, 0, none⟩) (by have := hbY.size; show w.heap.size < Y.heap.size; omega)).trans q0
             replace q1 := (I.cell (p := ⟨w.heap.size, 1, none⟩) (by have := hbY.size; show w.heap.size < Y.heap.size; omega)).trans q1)
          | (go_at_call 123; refine (TC _).mono ?_; rintro e w6 ⟨rfl, aa⟩))
        have hbZ:=(hbY.trans (I.mono hbY.size)).trans (aa.mono (hbY.trans (I.mono hbY.size)).size);have hbYZ:=I.trans (aa.mono I.size);replace j0:=(hbYZ.cell (p:=⟨g,k*2,none⟩) hgY).trans j0;replace j1:=(hbYZ.cell (p:=⟨g,k*2+1,none⟩) hgY).trans j1;have hgZ:g<w6.heap.size:=L3 hgY hbYZ.size;have HANZ:Hid (w6.heap[w.heap.size+1]? =some (.cells #[int i64 0,int i64 0,int i64 0,int i64 0] 155 (0,0))):=(hbZ.block _ (by omega)).trans HANS.out;have HBZ:Hid (Below w.heap.size w w6):=hw2.trans (hbZ.mono hw2.size);have hsZ:w.heap.size+2<=w6.heap.size:=by have:=hbZ.size;omega
        clear p0 p1 r0 r1 q0 q1 I aa hbYZ hbZ SC TC hbY HANS hgY;generalize w6=Z at *
        obtain⟨a0,a1,a2,a3,af⟩:=Zb0 HANZ.out;have f0:=af 0;have f1:=af 1;have f2:=af 2;have f3:=af 3;obtain⟨X,hX,z0,z1,z2,z3,hbX⟩:=Zif HANZ.out (int i64 2) (int i64 (x:Int)) (int i64 (y:Int)) (int i64 (-1));have HX:Hid ((((Z.setCell ⟨w.heap.size+1,0,none⟩ (int i64 2)).setCell ⟨w.heap.size+1,1,none⟩ (int i64 (x:Int))).setCell ⟨w.heap.size+1,2,none⟩ (int i64 (y:Int))).setCell ⟨w.heap.size+1,3,none⟩ (int i64 (-1))=X):=hX;have HBX:Hid (Below w.heap.size w X):=HBZ.out.trans (hbX w.heap.size (by omega));clear af hX hbX HBZ HANZ;go_region;all_goals go_wp2_with fail
        rw[HX.out];refine bodyPost_ret (v:=.agg #[int i64 2,int i64 (x:Int),int i64 (y:Int),int i64 (-1)]) (by simp[results,results103,go_sem,z0,z1,z2,z3]) rfl ⟨2,x,y,-1,rfl,by rw[HJE.out];exact HR.out,HBX.out.drew⟩
       ·rw[decide_eq_false hD] at TC;have HN2:Hid (∀ i (hi:i<J.length),i<k+1->¬ Z4 (px,py) (Za l J[i].1) (Za l J[i].2)):=HNX.out fun h=>hD (by rw[HDT.out];exact h.2)
        clear HNX HSD HDT O hD HIN HXY
        go_wp2_with (first
          | (go_at_call 87; refine (SC _).mono ?_; rintro e w5 ⟨rfl, I⟩
             replace p0 := (I.cell (p := ⟨p, 0, none⟩) ab).trans p0
             replace p1 := (I.cell (p := ⟨p, 1, none⟩) ab).trans p1
             replace r0 := (I.cell (p := ⟨q, 0, none⟩) ac).trans r0
             replace r1 := (I.cell (p := ⟨q, 1, none⟩) ac).trans r1
             replace q0 := (I.cell (p := ⟨w.heap.size, 0, none⟩) (by have := hbY.size; show w.heap.size < Y.heap.size; omega)).trans q0
             replace q1 := (I.cell (p := ⟨w.heap.size, 1, none⟩) (by have := hbY.size; show w.heap.size < Y.heap.size; omega)).trans q1)
          | (go_at_call 123; refine (TC _).mono ?_; rintro e w6 ⟨rfl, aa⟩))
        have hbZ:=(hbY.trans (I.mono hbY.size)).trans (aa.mono (hbY.trans (I.mono hbY.size)).size);clear p0 p1 r0 r1 q0 q1 I aa;go_roundw;case rel=>exact⟨k+1,by omega,by go_num,HN2.out,hbZ⟩
        case measure=>simp[intOf];omega
      ·have hsz:(sg S == 0)=false:=beq_eq_false_iff_ne.2 fun h=>O ((Zdr S).1 h)
       have HN2:Hid (∀ i (hi:i<J.length),i<k+1->¬ Z4 (px,py) (Za l J[i].1) (Za l J[i].2)):=HNX.out fun h=>O (by rw[HSD.out];exact h.1)
       clear HNX HSD HDT O HIN HXY TC;generalize sg S=rS at *
       go_wp2_with (go_at_call 87;refine (SC _).mono ?_;rintro e w5 ⟨rfl,I⟩)
       have hbZ:=hbY.trans (I.mono hbY.size);clear p0 p1 r0 r1 q0 q1 I;go_roundw;case rel=>exact⟨k+1,by omega,by go_num,HN2.out,hbZ⟩
       case measure=>simp[intOf];omega
    ·have HR:Hid (∀ q∈J,¬ Z4 (px,py) (Za l q.1) (Za l q.2)):=fun q hq=>by
      obtain⟨i,hi,rfl⟩:=List.getElem_of_mem hq;exact HSG.out i hi (by omega)
     clear HSG;go_wp2
     go_meet;case rel=>exact⟨HR.out,hbr⟩
  case rest=>
   as_aux_lemma=>
   obtain⟨hnj,hbx⟩:=hcut;have HNJ:Hid (∀ q∈J,¬ Z4 (px,py) (Za l q.1) (Za l q.2)):=hnj;have hw3:Below w.heap.size w wc:=hw2.trans (hbx.mono hw2.size);replace q0:=(hbx.cell (p:=⟨w.heap.size,0,none⟩) (by show w.heap.size<V.heap.size;omega)).trans q0;replace q1:=(hbx.cell (p:=⟨w.heap.size,1,none⟩) (by show w.heap.size<V.heap.size;omega)).trans q1;have HAN3:Hid (wc.heap[w.heap.size+1]? =some (.cells #[int i64 0,int i64 0,int i64 0,int i64 0] 155 (0,0))):=(hbx.block _ (by omega)).trans HANS.out;have hs3:w.heap.size+2<=wc.heap.size:=by have:=hbx.size;omega
   have hp3:=hp.below hw3 hb;have hb3:b<wc.heap.size:=L3 hb hw3.size;have HTA:Hid (∀ k,k<ts.length->∃ g,ta=some ⟨g,0,none⟩/\g<wc.heap.size/\wc.cell? ⟨g,k*3,none⟩=some (iv (ts.getD k (0,0,0)).1)/\wc.cell? ⟨g,k*3+1,none⟩=some (iv (ts.getD k (0,0,0)).2.1)/\wc.cell? ⟨g,k*3+2,none⟩=some (iv (ts.getD k (0,0,0)).2.2)):=fun k hk=>by
    rcases HT.out with h|⟨g,e,hg,h⟩
    ·rw[h] at hk;simp at hk
    ·obtain⟨h1,h2,h3⟩:=(h.below hw3 hg) k hk;exact⟨g,e,L3 hg hw3.size,h1,h2,h3⟩
   clear hnj hbx hw2 HANS hs2 hp2 hb2' HJA HJM HJL HT;generalize wc=V3 at *
   go_wp2_with fail
   go_loopw [12] (fun s12 wr=>∃ k:Nat,k<=ts.length/\s12=int i64 k/\(∀ i,i<k->¬ Zdb l (px,py) (ts.getD i (0,0,0)))/\Below V3.heap.size V3 wr) (fun i _=>ts.length-(intOf i).toNat)
   case atStart=>exact⟨0,Nat.zero_le _,rfl,fun i hi=>by omega,Below.refl _ _⟩
   case round=>
    obtain⟨k,hk,rfl,hsg,hbr⟩:=hrel;have HSG:Hid (∀ i,i<k->¬ Zdb l (px,py) (ts.getD i (0,0,0))):=hsg;clear hsg;by_cases hkl:k<ts.length
    ·obtain⟨g,rfl,hg,t0,t1,t2⟩:=HTA.out k hkl;replace t0:=(hbr.cell (p:=⟨g,k*3,none⟩) hg).trans t0;replace t1:=(hbr.cell (p:=⟨g,k*3+1,none⟩) hg).trans t1;replace t2:=(hbr.cell (p:=⟨g,k*3+2,none⟩) hg).trans t2;have hmem:ts.getD k (0,0,0)∈ts:=by
      have:ts.getD k (0,0,0)=ts[k]:=by simp[hkl]
      rw[this];exact List.getElem_mem hkl
     have HIN:Hid (ts.getD k (0,0,0)∈ts):=hmem;have HNX:Hid (¬ Zdb l (px,py) (ts.getD k (0,0,0))->∀ i,i<k+1->¬ Zdb l (px,py) (ts.getD i (0,0,0))):=fun h i hik=>by
      by_cases e:i=k
      ·subst e;exact h
      ·exact HSG.out i (by omega)
     obtain⟨h1,h2,h3,h4,h5,h6⟩:=HTR.out _ hmem;have HT3:Hid (Zdb l (px,py) (ts.getD k (0,0,0))↔Zbt (px,py) (pOf l (ts.getD k (0,0,0)).1) (pOf l (ts.getD k (0,0,0)).2.1) (pOf l (ts.getD k (0,0,0)).2.2)):=Iff.rfl;have HLOC:Hid (Zdb l (px,py) (ts.getD k (0,0,0))->Xl l ts J (px,py) 1 (ts.getD k (0,0,0)).1 (ts.getD k (0,0,0)).2.1 (ts.getD k (0,0,0)).2.2):=fun h=>.inr (.inr (.inl ⟨HNO.out,HNJ.out,_,hmem,h,rfl,rfl,rfl,rfl⟩))
     obtain⟨x,ex⟩:∃ x:Nat,(ts.getD k (0,0,0)).1=(x:Int):=⟨(ts.getD k (0,0,0)).1.toNat,by omega⟩;obtain⟨y,ey⟩:∃ y:Nat,(ts.getD k (0,0,0)).2.1=(y:Int):=⟨(ts.getD k (0,0,0)).2.1.toNat,by omega⟩;obtain⟨z,ez⟩:∃ z:Nat,(ts.getD k (0,0,0)).2.2=(z:Int):=⟨(ts.getD k (0,0,0)).2.2.toNat,by omega⟩;rw[ex,ey,ez] at HT3 HLOC;rw[ex] at t0 h1 h2;rw[ey] at t1 h3 h4;rw[ez] at t2 h5 h6;have pe:∀ k:Nat,pOf l (k:Int)=Za l k:=fun k=>by unfold pOf;rw[Int.toNat_natCast]
     rw[pe,pe,pe] at HT3;clear ex ey ez pe hmem HSG;have hx:x<l.length:=by omega
     have hy:y<l.length:=by omega
     have hz:z<l.length:=by omega
     obtain⟨d0,d1⟩:=(hp3.below hbr hb3) x hx;obtain⟨d2,d3⟩:=(hp3.below hbr hb3) y hy;obtain⟨d4,d5⟩:=(hp3.below hbr hb3) z hz;have NA:Hid (Near (l.getD x (0,0)).1 (l.getD x (0,0)).2):=HN.out _ hx;have NB:Hid (Near (l.getD y (0,0)).1 (l.getD y (0,0)).2):=HN.out _ hy;have NC:Hid (Near (l.getD z (0,0)).1 (l.getD z (0,0)).2):=HN.out _ hz;have eA:Hid (Za l x=((l.getD x (0,0)).1,(l.getD x (0,0)).2)):=rfl;have eB:Hid (Za l y=((l.getD y (0,0)).1,(l.getD y (0,0)).2)):=rfl;have eC:Hid (Za l z=((l.getD z (0,0)).1,(l.getD z (0,0)).2)):=rfl;have hgr:g<wr.heap.size:=L3 hg hbr.size;have hbr':b<wr.heap.size:=L3 hb3 hbr.size;generalize (l.getD x (0,0)).1=ax at *
     generalize (l.getD x (0,0)).2=ay at *
     generalize (l.getD y (0,0)).1=bx at *
     generalize (l.getD y (0,0)).2=by2 at *
     generalize (l.getD z (0,0)).1=cx at *
     generalize (l.getD z (0,0)).2=cy at *
     have y0:(0:Int)<=(k:Int):=by omega
     have y1:(k:Int)<(ts.length:Int):=by omega
     have y2:(0:Int)<=(x:Int):=by omega
     have y3:(x:Int)<(l.length:Int):=by omega
     have y4:(0:Int)<=(y:Int):=by omega
     have y5:(y:Int)<(l.length:Int):=by omega
     have y7:(0:Int)<=(z:Int):=by omega
     have y8:(z:Int)<(l.length:Int):=by omega
     have y6:IntKind.i64.wrap ((k:Int)+1)=(k:Int)+1:=Zd (by omega) (by omega);clear h1 h2 h3 h4 h5 h6;go_wp2_with fail
     go_cut [13, 14, 15] (fun s13 s14 s15 wx => ∃ p q r, s13 = .pointer (some ⟨p, 0, none⟩) ∧ s14 = .pointer (some ⟨q, 0, none⟩) ∧ s15 = .pointer (some ⟨r, 0, none⟩) ∧ p < wx.heap.size ∧ q < wx.heap.size ∧ r < wx.heap.size ∧
       wx.cell? ⟨p, 0, none⟩ = some (int i64 ax) ∧ wx.cell? ⟨p, 1, none⟩ = some (int i64 ay) ∧ wx.cell? ⟨q, 0, none⟩ = some (int i64 bx) ∧ wx.cell? ⟨q, 1, none⟩ = some (int i64 by2) ∧ wx.cell? ⟨r, 0, none⟩ = some (int i64 cx) ∧ wx.cell? ⟨r, 1, none⟩ = some (int i64 cy) ∧ Below wr.heap.size wr wx)
     case first=>
      as_aux_lemma=>
      clear HN HTR HPN HNO HNJ HIN HNX HT3 HLOC NA NB NC eA eB eC hp hp3 q0 q1 HAN3 HTA HJE;have HKD:=Z35 (.slice (some ⟨b,off,none⟩) l.length cap) (.slice (some ⟨g,0,none⟩) ts.length tc) b off g k x y z ax ay bx by2 cx cy;refine Zd9 (m:=30) (by kernel_rfl) (by kernel_rfl) (dsts:=[some 85,some 86,some 87,some 88,some 89,some 90,some 91,some 92,some 93,some 94,some 95,some 96,some 97,some 98,some 99,some 100,some 101,some 102,some 103,some 104,some 105,some 106,some 107,some 108,some 13,some 14,some 15,none,none,none]) rfl (by kernel_rfl) (l:=[]) rfl (Sow wr 37 (Znu (.slice (some ⟨b,off,none⟩) l.length cap) (.slice (some ⟨g,0,none⟩) ts.length tc) b off g k x y z ax ay bx by2 cx cy)) (Sow.start _ _ _ _) ?_ ?_
      ·refine flS (flS (flS (flS (flS (flS (flS (flS (flS (flS (flS (flS (flS (flS (flS (flS (flS (flS (flS (flS (flS (flS (flS (flS (flS (flS (flS (flS (flS (flS fl0 ?_) ?_) ?_) ?_) ?_) ?_) ?_) ?_) ?_) ?_) ?_) ?_) ?_) ?_) ?_) ?_) ?_) ?_) ?_) ?_) ?_) ?_) ?_) ?_) ?_) ?_) ?_) ?_) ?_) ?_;all_goals intro L σ wx O hp hdn hun
       ·exact (Z8 (x:=.tmp 0) rfl rfl (O.stepV (i:=0) rfl)).toS
       ·exact (Z8 (x:=.tmp 1) rfl rfl (O.stepV (i:=1) rfl)).toS
       ·exact (Z8 (x:=.tmp 12) rfl rfl (O.stepV (i:=2) rfl)).toS
       ·exact (Zb4 (T:=42) (x:=.tmp 86) (y:=.tmp 87) rfl (show σ 1=_ from O.val 1 _ rfl (hp 1 rfl)) (show σ 2=_ from O.val 2 _ rfl (hp 2 rfl)) (Zns _ _ _ _ _ hkl) (O.stepV (i:=3) rfl)).toS
       ·exact (Zb4 (T:=53) (x:=.tmp 88) (y:=.const (int i64 0)) rfl (show σ 3=_ from O.val 3 _ rfl (hp 3 rfl)) rfl (Z32 _ _ _) (O.stepV (i:=4) rfl)).toS
       ·exact (Yr (T:=3) (x:=.tmp 89) rfl (show σ 4=_ from O.val 4 _ rfl (hp 4 rfl)) (Zd2 _ _ _ _ ((O.bel.cell (p:=⟨g,k*3,none⟩) hgr).trans t0)) (O.stepV (i:=5) rfl)).toS
       ·exact (Zb4 (T:=41) (x:=.tmp 85) (y:=.tmp 90) rfl (show σ 0=_ from O.val 0 _ rfl (hp 0 rfl)) (show σ 5=_ from O.val 5 _ rfl (hp 5 rfl)) (Znt _ _ _ _ _ _ hx) (O.stepV (i:=6) rfl)).toS
       ·exact (Yr (T:=37) (x:=.tmp 91) rfl (show σ 6=_ from O.val 6 _ rfl (hp 6 rfl)) (Zb2 _ _ _ ax ay ((O.bel.cell (p:=⟨b,off+x*2,none⟩) hbr').trans d0) ((O.bel.cell (p:=⟨b,off+x*2+1,none⟩) hbr').trans d1)) (O.stepV (i:=7) rfl)).toS
       ·exact (Z8 (x:=.tmp 0) rfl rfl (O.stepV (i:=8) rfl)).toS
       ·exact (Z8 (x:=.tmp 1) rfl rfl (O.stepV (i:=9) rfl)).toS
       ·exact (Z8 (x:=.tmp 12) rfl rfl (O.stepV (i:=10) rfl)).toS
       ·exact (Zb4 (T:=42) (x:=.tmp 94) (y:=.tmp 95) rfl (show σ 9=_ from O.val 9 _ rfl (hp 9 rfl)) (show σ 10=_ from O.val 10 _ rfl (hp 10 rfl)) (Zns _ _ _ _ _ hkl) (O.stepV (i:=11) rfl)).toS
       ·exact (Zb4 (T:=53) (x:=.tmp 96) (y:=.const (int i64 1)) rfl (show σ 11=_ from O.val 11 _ rfl (hp 11 rfl)) rfl (Z33 _ _ _) (O.stepV (i:=12) rfl)).toS
       ·exact (Yr (T:=3) (x:=.tmp 97) rfl (show σ 12=_ from O.val 12 _ rfl (hp 12 rfl)) (Zd2 _ _ _ _ ((O.bel.cell (p:=⟨g,k*3+1,none⟩) hgr).trans t1)) (O.stepV (i:=13) rfl)).toS
       ·exact (Zb4 (T:=41) (x:=.tmp 93) (y:=.tmp 98) rfl (show σ 8=_ from O.val 8 _ rfl (hp 8 rfl)) (show σ 13=_ from O.val 13 _ rfl (hp 13 rfl)) (Znt _ _ _ _ _ _ hy) (O.stepV (i:=14) rfl)).toS
       ·exact (Yr (T:=37) (x:=.tmp 99) rfl (show σ 14=_ from O.val 14 _ rfl (hp 14 rfl)) (Zb2 _ _ _ bx by2 ((O.bel.cell (p:=⟨b,off+y*2,none⟩) hbr').trans d2) ((O.bel.cell (p:=⟨b,off+y*2+1,none⟩) hbr').trans d3)) (O.stepV (i:=15) rfl)).toS
       ·exact (Z8 (x:=.tmp 0) rfl rfl (O.stepV (i:=16) rfl)).toS
       ·exact (Z8 (x:=.tmp 1) rfl rfl (O.stepV (i:=17) rfl)).toS
       ·exact (Z8 (x:=.tmp 12) rfl rfl (O.stepV (i:=18) rfl)).toS
       ·exact (Zb4 (T:=42) (x:=.tmp 102) (y:=.tmp 103) rfl (show σ 17=_ from O.val 17 _ rfl (hp 17 rfl)) (show σ 18=_ from O.val 18 _ rfl (hp 18 rfl)) (Zns _ _ _ _ _ hkl) (O.stepV (i:=19) rfl)).toS
       ·exact (Zb4 (T:=53) (x:=.tmp 104) (y:=.const (int i64 2)) rfl (show σ 19=_ from O.val 19 _ rfl (hp 19 rfl)) rfl (Z34 _ _ _) (O.stepV (i:=20) rfl)).toS
       ·exact (Yr (T:=3) (x:=.tmp 105) rfl (show σ 20=_ from O.val 20 _ rfl (hp 20 rfl)) (Zd2 _ _ _ _ ((O.bel.cell (p:=⟨g,k*3+2,none⟩) hgr).trans t2)) (O.stepV (i:=21) rfl)).toS
       ·exact (Zb4 (T:=41) (x:=.tmp 101) (y:=.tmp 106) rfl (show σ 16=_ from O.val 16 _ rfl (hp 16 rfl)) (show σ 21=_ from O.val 21 _ rfl (hp 21 rfl)) (Znt _ _ _ _ _ _ hz) (O.stepV (i:=22) rfl)).toS
       ·exact (Yr (T:=37) (x:=.tmp 107) rfl (show σ 22=_ from O.val 22 _ rfl (hp 22 rfl)) (Zb2 _ _ _ cx cy ((O.bel.cell (p:=⟨b,off+z*2,none⟩) hbr').trans d4) ((O.bel.cell (p:=⟨b,off+z*2+1,none⟩) hbr').trans d5)) (O.stepV (i:=23) rfl)).toS
       ·refine (Zeh (T:=37) rfl (Zlf _) (O.stepF (i:=24) rfl (fun q u v hq=>?_) _ _)).toS;have hq2:q=27:=by have:=HKD q 24 u v hq;omega
        subst hq2;cases hlq:L 27 with
        | false=>rfl
        | true=>have:=hdn 27 24 hlq rfl;rw[hun] at this;cases this
       ·refine (Zeh (T:=37) rfl (Zlf _) (O.stepF (i:=25) rfl (fun q u v hq=>?_) _ _)).toS;have hq2:q=28:=by have:=HKD q 25 u v hq;omega
        subst hq2;cases hlq:L 28 with
        | false=>rfl
        | true=>have:=hdn 28 25 hlq rfl;rw[hun] at this;cases this
       ·refine (Zeh (T:=37) rfl (Zlf _) (O.stepF (i:=26) rfl (fun q u v hq=>?_) _ _)).toS;have hq2:q=29:=by have:=HKD q 26 u v hq;omega
        subst hq2;cases hlq:L 29 with
        | false=>rfl
        | true=>have:=hdn 29 26 hlq rfl;rw[hun] at this;cases this
       ·obtain⟨bb,c0,c1,e1,e2,e3,e4⟩:=O.fre 24 rfl (hp 24 rfl);exact Zc0 (T:=37) (x:=.tmp 13) (y:=.tmp 92) rfl (show σ 24=_ from e1) (show σ 7=_ from O.val 7 _ rfl (hp 7 rfl)) (Znv _ _ c0 c1 _ _ e3) (O.stepP (i:=27) rfl rfl (hp 24 rfl) e1 (fun q u v hq=>by have:=HKD q 24 u v hq;omega))
       ·obtain⟨bb,c0,c1,e1,e2,e3,e4⟩:=O.fre 25 rfl (hp 25 rfl);exact Zc0 (T:=37) (x:=.tmp 14) (y:=.tmp 100) rfl (show σ 25=_ from e1) (show σ 15=_ from O.val 15 _ rfl (hp 15 rfl)) (Znv _ _ c0 c1 _ _ e3) (O.stepP (i:=28) rfl rfl (hp 25 rfl) e1 (fun q u v hq=>by have:=HKD q 25 u v hq;omega))
       ·obtain⟨bb,c0,c1,e1,e2,e3,e4⟩:=O.fre 26 rfl (hp 26 rfl);exact Zc0 (T:=37) (x:=.tmp 15) (y:=.tmp 108) rfl (show σ 26=_ from e1) (show σ 23=_ from O.val 23 _ rfl (hp 23 rfl)) (Znv _ _ c0 c1 _ _ e3) (O.stepP (i:=29) rfl rfl (hp 26 rfl) e1 (fun q u v hq=>by have:=HKD q 26 u v hq;omega))
      ·intro L σ wx O hall;obtain⟨b24,c24a,c24b,e24,g24,hh24,hu24⟩:=O.fre 24 rfl (hall 24 (by omega));obtain⟨rfl,rfl⟩:=hu24 27 (int i64 ax) (int i64 ay) rfl (hall 27 (by omega));obtain⟨b25,c25a,c25b,e25,g25,hh25,hu25⟩:=O.fre 25 rfl (hall 25 (by omega));obtain⟨rfl,rfl⟩:=hu25 28 (int i64 bx) (int i64 by2) rfl (hall 28 (by omega));obtain⟨b26,c26a,c26b,e26,g26,hh26,hu26⟩:=O.fre 26 rfl (hall 26 (by omega));obtain⟨rfl,rfl⟩:=hu26 29 (int i64 cx) (int i64 cy) rfl (hall 29 (by omega));refine⟨?_⟩;simp only[lay,Act.put,List.drop_succ_cons,List.drop_zero,List.setIfInBounds_toArray,List.set_cons_succ,List.set_cons_zero,e24,e25,e26];go_wp2_with fail
       go_meet;exact⟨b24,b25,b26,rfl,rfl,rfl,Zh hh24,Zh hh25,Zh hh26,Ys hh24 0,Ys hh24 1,Ys hh25 0,Ys hh25 1,Ys hh26 0,Ys hh26 1,O.bel⟩
     case rest=>
      as_aux_lemma=>
      obtain⟨p,q,r,rfl,rfl,rfl,ab,ac,hrz,p0,p1,u0,u1,v0,v1,hbc⟩:=hcut;have hbY:=hbr.trans (hbc.mono hbr.size);replace t0:=(hbc.cell (p:=⟨g,k*3,none⟩) hgr).trans t0;replace t1:=(hbc.cell (p:=⟨g,k*3+1,none⟩) hgr).trans t1;replace t2:=(hbc.cell (p:=⟨g,k*3+2,none⟩) hgr).trans t2;replace q0:=(hbY.cell (p:=⟨w.heap.size,0,none⟩) (by show w.heap.size<V3.heap.size;omega)).trans q0;replace q1:=(hbY.cell (p:=⟨w.heap.size,1,none⟩) (by show w.heap.size<V3.heap.size;omega)).trans q1;have hgY:g<wc.heap.size:=L3 hgr hbc.size;have hwz:w.heap.size<wc.heap.size:=by have:=hbY.size;omega
      clear d0 d1 d2 d3 d4 d5 hbr hbc hgr hbr' y2 y3 y4 y5 y7 y8;generalize wc=Y at *
      have nA:=NA.out;have nB:=NB.out;have nC:=NC.out;have nP:=HPN.out;have HS1:Hid (Zk ax ay bx by2 px py=sd (Za l x) (Za l y) (px,py)):=by unfold Hid;rw[eA.out,eB.out];rfl
      have HS2:Hid (Zk bx by2 cx cy px py=sd (Za l y) (Za l z) (px,py)):=by unfold Hid;rw[eB.out,eC.out];rfl
      have HS3:Hid (Zk cx cy ax ay px py=sd (Za l z) (Za l x) (px,py)):=by unfold Hid;rw[eC.out,eA.out];rfl
      clear NA NB NC eA eB eC;have H1:Hid (sg (Zk ax ay bx by2 px py)=sg (Zk ax ay bx by2 px py)):=rfl;have H2:Hid (sg (Zk bx by2 cx cy px py)=sg (Zk bx by2 cx cy px py)):=rfl;have H3:Hid (sg (Zk cx cy ax ay px py)=sg (Zk cx cy ax ay px py)):=rfl;obtain⟨r1,hr1⟩:∃ r1,sg (Zk ax ay bx by2 px py)=r1:=⟨_,rfl⟩;obtain⟨r2,hr2⟩:∃ r2,sg (Zk bx by2 cx cy px py)=r2:=⟨_,rfl⟩;obtain⟨r3,hr3⟩:∃ r3,sg (Zk cx cy ax ay px py)=r3:=⟨_,rfl⟩;have k1:=Zfq (Zk ax ay bx by2 px py);have k2:=Zfq (Zk bx by2 cx cy px py);have k3:=Zfq (Zk cx cy ax ay px py);rw[hr1] at k1;rw[hr2] at k2;rw[hr3] at k3;clear H1 H2 H3;have H1:Hid (sg (Zk ax ay bx by2 px py)=r1):=hr1;have H2:Hid (sg (Zk bx by2 cx cy px py)=r2):=hr2;have H3:Hid (sg (Zk cx cy ax ay px py)=r3):=hr3;have K1:Hid (0<r1↔0<Zk ax ay bx by2 px py):=k1;have K2:Hid (0<r2↔0<Zk bx by2 cx cy px py):=k2;have K3:Hid (0<r3↔0<Zk cx cy ax ay px py):=k3;clear hr1 hr2 hr3 k1 k2 k3;by_cases j1:0<r1
      ·have e1:decide (0<r1)=true:=decide_eq_true j1;by_cases j2:0<r2
       ·have e2:decide (0<r2)=true:=decide_eq_true j2;by_cases j3:0<r3
        ·have e3:decide (0<r3)=true:=decide_eq_true j3;have HR:Hid (Xl l ts J (px,py) 1 x y z):=HLOC.out (HT3.out.2 ⟨by rw[<-HS1.out];exact K1.out.1 j1,by rw[<-HS2.out];exact K2.out.1 j2,by rw[<-HS3.out];exact K3.out.1 j3⟩);clear HNX HT3 HLOC HIN HS1 HS2 HS3 K1 K2 K3 j1 j2 j3
         go_upto_region 18 with (first
         | (go_at_call 87; refine (Zbl _ _ _ _ _ _ _ (by assumption) (by assumption) (by assumption)).mono ?_; rintro e w5 ⟨rfl, I⟩; rw [H1.out]
            replace p0 := (I.cell (p := ⟨p, 0, none⟩) ab).trans p0
            replace p1 := (I.cell (p := ⟨p, 1, none⟩) ab).trans p1
            replace u0 := (I.cell (p := ⟨q, 0, none⟩) ac).trans u0
            replace u1 := (I.cell (p := ⟨q, 1, none⟩) ac).trans u1
            replace v0 := (I.cell (p := ⟨r, 0, none⟩) hrz).trans v0
            replace v1 := (I.cell (p := ⟨r, 1, none⟩) hrz).trans v1
            replace q0 := (I.cell (p := ⟨w.heap.size, 0, none⟩) hwz).trans q0
            replace q1 := (I.cell (p := ⟨w.heap.size, 1, none⟩) hwz).trans q1
            replace ab := L3 ab I.size
            replace ac := L3 ac I.size
            replace hrz := L3 hrz I.size
            replace hwz := L3 hwz I.size)
         | (go_at_call 87; refine (Zbl _ _ _ _ _ _ _ (by assumption) (by assumption) (by assumption)).mono ?_; rintro e w6 ⟨rfl, aa⟩; rw [H2.out]
            replace p0 := (aa.cell (p := ⟨p, 0, none⟩) ab).trans p0
            replace p1 := (aa.cell (p := ⟨p, 1, none⟩) ab).trans p1
            replace u0 := (aa.cell (p := ⟨q, 0, none⟩) ac).trans u0
            replace u1 := (aa.cell (p := ⟨q, 1, none⟩) ac).trans u1
            replace v0 := (aa.cell (p := ⟨r, 0, none⟩) hrz).trans v0
            replace v1 := (aa.cell (p := ⟨r, 1, none⟩) hrz).trans v1
            replace q0 := (aa.cell (p := ⟨w.heap.size, 0, none⟩) hwz).trans q0
            replace q1 := (aa.cell (p := ⟨w.heap.size, 1, none⟩) hwz).trans q1
            replace ab := L3 ab aa.size
            replace ac := L3 ac aa.size
            replace hrz := L3 hrz aa.size
            replace hwz := L3 hwz aa.size)
         | (go_at_call 87; refine (Zbl _ _ _ _ _ _ _ (by assumption) (by assumption) (by assumption)).mono ?_; rintro e w7 ⟨rfl, hb7⟩; rw [H3.out]
            replace p0 := (hb7.cell (p := ⟨p, 0, none⟩) ab).trans p0
            replace p1 := (hb7.cell (p := ⟨p, 1, none⟩) ab).trans p1
            replace u0 := (hb7.cell (p := ⟨q, 0, none⟩) ac).trans u0
            replace u1 := (hb7.cell (p := ⟨q, 1, none⟩) ac).trans u1
            replace v0 := (hb7.cell (p := ⟨r, 0, none⟩) hrz).trans v0
            replace v1 := (hb7.cell (p := ⟨r, 1, none⟩) hrz).trans v1
            replace q0 := (hb7.cell (p := ⟨w.heap.size, 0, none⟩) hwz).trans q0
            replace q1 := (hb7.cell (p := ⟨w.heap.size, 1, none⟩) hwz).trans q1
            replace ab := L3 ab hb7.size
            replace ac := L3 ac hb7.size
            replace hrz := L3 hrz hb7.size
            replace hwz := L3 hwz hb7.size))
         have hbZ0:=(hbY.trans (I.mono hbY.size)).trans (aa.mono (hbY.trans (I.mono hbY.size)).size);have hbZ:=hbZ0.trans (hb7.mono hbZ0.size);have hbYZ0:=I.trans (aa.mono I.size);have hbYZ:=hbYZ0.trans (hb7.mono hbYZ0.size);replace t0:=(hbYZ.cell (p:=⟨g,k*3,none⟩) hgY).trans t0;replace t1:=(hbYZ.cell (p:=⟨g,k*3+1,none⟩) hgY).trans t1;replace t2:=(hbYZ.cell (p:=⟨g,k*3+2,none⟩) hgY).trans t2;have hgZ:g<w7.heap.size:=L3 hgY hbYZ.size;have HANZ:Hid (w7.heap[w.heap.size+1]? =some (.cells #[int i64 0,int i64 0,int i64 0,int i64 0] 155 (0,0))):=(hbZ.block _ (by omega)).trans HAN3.out;have HBZ:Hid (Below w.heap.size w w7):=hw3.trans (hbZ.mono hw3.size);have hsZ:w.heap.size+2<=w7.heap.size:=by have:=hbZ.size;omega
         clear p0 p1 u0 u1 v0 v1 q0 q1 I aa hb7 hbYZ0 hbYZ hbZ0 hbZ hbY HAN3 hgY nA nB nC nP H1 H2 H3 e1 e2 e3 ab ac hrz hwz;generalize w7=Z at *
         obtain⟨a0,a1,a2,a3,af⟩:=Zb0 HANZ.out;have f0:=af 0;have f1:=af 1;have f2:=af 2;have f3:=af 3;obtain⟨X,hX,z0,z1,z2,z3,hbX⟩:=Zif HANZ.out (int i64 1) (int i64 (x:Int)) (int i64 (y:Int)) (int i64 (z:Int));have HX:Hid ((((Z.setCell ⟨w.heap.size+1,0,none⟩ (int i64 1)).setCell ⟨w.heap.size+1,1,none⟩ (int i64 (x:Int))).setCell ⟨w.heap.size+1,2,none⟩ (int i64 (y:Int))).setCell ⟨w.heap.size+1,3,none⟩ (int i64 (z:Int))=X):=hX;have HBX:Hid (Below w.heap.size w X):=HBZ.out.trans (hbX w.heap.size (by omega));clear af hX hbX HBZ HANZ;go_region;all_goals go_wp2_with fail
         rw[HX.out];refine bodyPost_ret (v:=.agg #[int i64 1,int i64 (x:Int),int i64 (y:Int),int i64 (z:Int)]) (by simp[results,results103,go_sem,z0,z1,z2,z3]) rfl ⟨1,x,y,z,rfl,by rw[HJE.out];exact HR.out,HBX.out.drew⟩
        ·have e3:decide (0<r3)=false:=decide_eq_false j3;replace j3:¬ 0<Zk cx cy ax ay px py:=fun h=>j3 (K3.out.2 h)
         have HN2:Hid (∀ i,i<k+1->¬ Zdb l (px,py) (ts.getD i (0,0,0))):=HNX.out fun h=>j3 (by have:=(HT3.out.1 h).2.2;rw[HS3.out];exact this)
         clear HNX HT3 HLOC HIN HS1 HS2 HS3
         go_wp2_with (first
         | (go_at_call 87; refine (Zbl _ _ _ _ _ _ _ (by assumption) (by assumption) (by assumption)).mono ?_; rintro e w5 ⟨rfl, I⟩; rw [H1.out]
            replace p0 := (I.cell (p := ⟨p, 0, none⟩) ab).trans p0
            replace p1 := (I.cell (p := ⟨p, 1, none⟩) ab).trans p1
            replace u0 := (I.cell (p := ⟨q, 0, none⟩) ac).trans u0
            replace u1 := (I.cell (p := ⟨q, 1, none⟩) ac).trans u1
            replace v0 := (I.cell (p := ⟨r, 0, none⟩) hrz).trans v0
            replace v1 := (I.cell (p := ⟨r, 1, none⟩) hrz).trans v1
            replace q0 := (I.cell (p := ⟨w.heap.size, 0, none⟩) hwz).trans q0
            replace q1 := (I.cell (p := ⟨w.heap.size, 1, none⟩) hwz).trans q1
            replace ab := L3 ab I.size
            replace ac := L3 ac I.size
            replace hrz := L3 hrz I.size
            replace hwz := L3 hwz I.size)
         | (go_at_call 87; refine (Zbl _ _ _ _ _ _ _ (by assumption) (by assumption) (by assumption)).mono ?_; rintro e w6 ⟨rfl, aa⟩; rw [H2.out]
            replace p0 := (aa.cell (p := ⟨p, 0, none⟩) ab).trans p0
            replace p1 := (aa.cell (p := ⟨p, 1, none⟩) ab).trans p1
            replace u0 := (aa.cell (p := ⟨q, 0, none⟩) ac).trans u0
            replace u1 := (aa.cell (p := ⟨q, 1, none⟩) ac).trans u1
            replace v0 := (aa.cell (p := ⟨r, 0, none⟩) hrz).trans v0
            replace v1 := (aa.cell (p := ⟨r, 1, none⟩) hrz).trans v1
            replace q0 := (aa.cell (p := ⟨w.heap.size, 0, none⟩) hwz).trans q0
            replace q1 := (aa.cell (p := ⟨w.heap.size, 1, none⟩) hwz).trans q1
            replace ab := L3 ab aa.size
            replace ac := L3 ac aa.size
            replace hrz := L3 hrz aa.size
            replace hwz := L3 hwz aa.size)
         | (go_at_call 87; refine (Zbl _ _ _ _ _ _ _ (by assumption) (by assumption) (by assumption)).mono ?_; rintro e w7 ⟨rfl, hb7⟩; rw [H3.out]
            replace p0 := (hb7.cell (p := ⟨p, 0, none⟩) ab).trans p0
            replace p1 := (hb7.cell (p := ⟨p, 1, none⟩) ab).trans p1
            replace u0 := (hb7.cell (p := ⟨q, 0, none⟩) ac).trans u0
            replace u1 := (hb7.cell (p := ⟨q, 1, none⟩) ac).trans u1
            replace v0 := (hb7.cell (p := ⟨r, 0, none⟩) hrz).trans v0
            replace v1 := (hb7.cell (p := ⟨r, 1, none⟩) hrz).trans v1
            replace q0 := (hb7.cell (p := ⟨w.heap.size, 0, none⟩) hwz).trans q0
            replace q1 := (hb7.cell (p := ⟨w.heap.size, 1, none⟩) hwz).trans q1
            replace ab := L3 ab hb7.size
            replace ac := L3 ac hb7.size
            replace hrz := L3 hrz hb7.size
            replace hwz := L3 hwz hb7.size))
         have hbZ0:=(hbY.trans (I.mono hbY.size)).trans (aa.mono (hbY.trans (I.mono hbY.size)).size);have hbZ:=hbZ0.trans (hb7.mono hbZ0.size);clear p0 p1 u0 u1 v0 v1 q0 q1 I aa hb7;go_roundw;case rel=>exact⟨k+1,by omega,by go_num,HN2.out,hbZ⟩
         case measure=>simp[intOf];omega
       ·have e2:decide (0<r2)=false:=decide_eq_false j2;replace j2:¬ 0<Zk bx by2 cx cy px py:=fun h=>j2 (K2.out.2 h)
        have HN2:Hid (∀ i,i<k+1->¬ Zdb l (px,py) (ts.getD i (0,0,0))):=HNX.out fun h=>j2 (by have:=(HT3.out.1 h).2.1;rw[HS2.out];exact this)
        clear HNX HT3 HLOC HIN HS1 HS2 HS3
        go_wp2_with (first
          | (go_at_call 87; refine (Zbl _ _ _ _ _ _ _ (by assumption) (by assumption) (by assumption)).mono ?_; rintro e w5 ⟨rfl, I⟩; rw [H1.out]
             replace p0 := (I.cell (p := ⟨p, 0, none⟩) ab).trans p0
             replace p1 := (I.cell (p := ⟨p, 1, none⟩) ab).trans p1
             replace u0 := (I.cell (p := ⟨q, 0, none⟩) ac).trans u0
             replace u1 := (I.cell (p := ⟨q, 1, none⟩) ac).trans u1
             replace v0 := (I.cell (p := ⟨r, 0, none⟩) hrz).trans v0
             replace v1 := (I.cell (p := ⟨r, 1, none⟩) hrz).trans v1
             replace q0 := (I.cell (p := ⟨w.heap.size, 0, none⟩) hwz).trans q0
             replace q1 := (I.cell (p := ⟨w.heap.size, 1, none⟩) hwz).trans q1
             replace ab := L3 ab I.size
             replace ac := L3 ac I.size
             replace hrz := L3 hrz I.size
             replace hwz := L3 hwz I.size)
          | (go_at_call 87; refine (Zbl _ _ _ _ _ _ _ (by assumption) (by assumption) (by assumption)).mono ?_; rintro e w6 ⟨rfl, aa⟩; rw [H2.out]
             replace p0 := (aa.cell (p := ⟨p, 0, none⟩) ab).trans p0
             replace p1 := (aa.cell (p := ⟨p, 1, none⟩) ab).trans p1
             replace u0 := (aa.cell (p := ⟨q, 0, none⟩) ac).trans u0
             replace u1 := (aa.cell (p := ⟨q, 1, none⟩) ac).trans u1
             replace v0 := (aa.cell (p := ⟨r, 0, none⟩) hrz).trans v0
             replace v1 := (aa.cell (p := ⟨r, 1, none⟩) hrz).trans v1
             replace q0 := (aa.cell (p := ⟨w.heap.size, 0, none⟩) hwz).trans q0
             replace q1 := (aa.cell (p := ⟨w.heap.size, 1, none⟩) hwz).trans q1
             replace ab := L3 ab aa.size
             replace ac := L3 ac aa.size
             replace hrz := L3 hrz aa.size
             replace hwz := L3 hwz aa.size))
        have hbZ:=(hbY.trans (I.mono hbY.size)).trans (aa.mono (hbY.trans (I.mono hbY.size)).size);clear p0 p1 u0 u1 v0 v1 q0 q1 I aa;go_roundw;case rel=>exact⟨k+1,by omega,by go_num,HN2.out,hbZ⟩
        case measure=>simp[intOf];omega
      ·have e1:decide (0<r1)=false:=decide_eq_false j1;replace j1:¬ 0<Zk ax ay bx by2 px py:=fun h=>j1 (K1.out.2 h)
       have HN2:Hid (∀ i,i<k+1->¬ Zdb l (px,py) (ts.getD i (0,0,0))):=HNX.out fun h=>j1 (by have:=(HT3.out.1 h).1;rw[HS1.out];exact this)
       clear HNX HT3 HLOC HIN HS1 HS2 HS3
       go_wp2_with (first
           | (go_at_call 87; refine (Zbl _ _ _ _ _ _ _ (by assumption) (by assumption) (by assumption)).mono ?_; rintro e w5 ⟨rfl, I⟩; rw [H1.out]
              replace p0 := (I.cell (p := ⟨p, 0, none⟩) ab).trans p0
              replace p1 := (I.cell (p := ⟨p, 1, none⟩) ab).trans p1
              replace u0 := (I.cell (p := ⟨q, 0, none⟩) ac).trans u0
              replace u1 := (I.cell (p := ⟨q, 1, none⟩) ac).trans u1
              replace v0 := (I.cell (p := ⟨r, 0, none⟩) hrz).trans v0
              replace v1 := (I.cell (p := ⟨r, 1, none⟩) hrz).trans v1
              replace q0 := (I.cell (p := ⟨w.heap.size, 0, none⟩) hwz).trans q0
              replace q1 := (I.cell (p := ⟨w.heap.size, 1, none⟩) hwz).trans q1
              replace ab := L3 ab I.size
              replace ac := L3 ac I.size
              replace hrz := L3 hrz I.size
              replace hwz := L3 hwz I.size))
       have hbZ:=hbY.trans (I.mono hbY.size);clear p0 p1 u0 u1 v0 v1 q0 q1 I;go_roundw;case rel=>exact⟨k+1,by omega,by go_num,HN2.out,hbZ⟩
       case measure=>simp[intOf];omega
    ·have HR : Hid (Xl l ts J (px, py) 0 (-1) (-1) (-1)) := .inr (.inr (.inr ⟨HNO.out, HNJ.out, fun t ht => by
        obtain ⟨i, hi, e⟩ := List.getElem_of_mem ht
        have := HSG.out i (by omega)
        have eg : ts.getD i (0, 0, 0) = t := by simp [hi, e]
        rwa [eg] at this, rfl, rfl, rfl, rfl⟩))
     have HANZ:Hid (wr.heap[w.heap.size+1]? =some (.cells #[int i64 0,int i64 0,int i64 0,int i64 0] 155 (0,0))):=(hbr.block _ (by omega)).trans HAN3.out;have HBZ:Hid (Below w.heap.size w wr):=hw3.trans (hbr.mono hw3.size);clear HSG hbr;obtain⟨a0,a1,a2,a3,af⟩:=Zb0 HANZ.out;have f0:=af 0;have f1:=af 1;have f2:=af 2;have f3:=af 3;obtain⟨X,hX,z0,z1,z2,z3,hbX⟩:=Zif HANZ.out (int i64 0) (int i64 (-1)) (int i64 (-1)) (int i64 (-1));have HBX:Hid (Below w.heap.size w X):=HBZ.out.trans (hbX w.heap.size (by omega));clear af hbX HBZ HANZ;go_wp2
     refine bodyPost_ret (v:=.agg #[int i64 0,int i64 (-1),int i64 (-1),int i64 (-1)]) (by simp[results,results103,go_sem,z0,z1,z2,z3]) rfl ⟨0,-1,-1,-1,rfl,by rw[HJE.out];exact HR.out,HBX.out⟩
def X4 (w:World)(a:Option Addr)(ts:List T3):Prop:=ts=[]\/∃ g,a=some ⟨g,0,none⟩/\g<w.heap.size/\Zcr w g ts
theorem X4.below {w w':World}{a:Option Addr}{ts:List T3}(h:X4 w a ts)(I:Below w.heap.size w w'):X4 w' a ts:=by
 rcases h with h|⟨g,e,D,h⟩
 ·exact .inl h
 ·exact .inr ⟨g,e,L3 D I.size,h.below I D⟩
theorem X4.of_own {w:World}{J c:Nat}{a:Option Addr}{ts:List T3}(ho:w.ownsRow J 53 3 (.slice a ts.length c) ts.length (Zj ts)):X4 w a ts:=by
 by_cases I:ts=[]
 ·exact .inl I
 ·obtain⟨g,rfl,Z,D⟩:=Zcw ho (List.length_pos_iff.2 I);refine .inr ⟨g,rfl,Z,fun j e=>?_⟩;have f0:=Zbs ts j 0 (by omega) e;have O:=Zbs ts j 1 (by omega) e;have f2:=Zbs ts j 2 (by omega) e;have Y:ts.getD j (0,0,0)=ts[j]:=by simp[e]
  rw[Y];exact⟨by rw[D _ (by omega)];exact f0,by rw[D _ (by omega)];exact O,by rw[D _ (by omega)];exact f2⟩
theorem X4.at {w:World}{a:Option Addr}{ts:List T3}(h:X4 w a ts){k:Nat}(D:k<ts.length):∃ g,a=some ⟨g,0,none⟩/\g<w.heap.size/\∀ j,j<3->w.cell? ⟨g,k*3+j,none⟩=some (iv (Zl (ts.getD k (0,0,0)) j)):=by
 rcases h with h|⟨g,e,J,h⟩
 ·rw[h] at D;simp at D
 ·exact⟨g,e,J,fun j I=>h.nth D I⟩
theorem Zs2 (a b:Option Addr)(ac bc:Nat)(ts:List T3)(w:World)(Z:X4 w a ts)(O:X4 w b ts)(hl:ts.length<=1000000000) :
  Calls prog 56 #[.slice a ts.length ac,.slice b ts.length bc] w fun e w'=>e= .returned (.bool true)/\Below w.heap.size w w':=by
 have heq:=Zmd;have HA:Hid (X4 w a ts):=Z;have HB:Hid (X4 w b ts):=O;clear Z O;go_enter func56,ntmps56;go_wp2
 go_loopw [5] (fun i wr=>∃ k:Nat,k<=ts.length/\i=int i64 k/\Below w.heap.size w wr) (fun i _=>ts.length-(intOf i).toNat)
 case atStart=>exact⟨0,by omega,rfl,Below.refl _ _⟩
 case round=>
  obtain⟨k,hk,rfl,I⟩:=hrel;by_cases Y:k<ts.length
  ·obtain⟨g,rfl,hg,D⟩:=(HA.out.below I).at Y;obtain⟨g',rfl,hg',J⟩:=(HB.out.below I).at Y;have c0:=D 0 (by omega);have c1:=D 1 (by omega);have c2:=D 2 (by omega);have d0:=J 0 (by omega);have d1:=J 1 (by omega);have d2:=J 2 (by omega);simp only[Nat.add_zero] at c0 d0;generalize Zl (ts.getD k (0,0,0)) 0=x at *
   generalize Zl (ts.getD k (0,0,0)) 1=y at *
   generalize Zl (ts.getD k (0,0,0)) 2=z at *
   have y0:(0:Int)<=(k:Int):=by omega
   have y1:(k:Int)<(ts.length:Int):=by omega
   have y2:IntKind.i64.wrap ((k:Int)+1)=(k:Int)+1:=Zd (by omega) (by omega);have e1:(x == x && y == y && z == z)=true:=by simp
   clear D J;go_wp2_with fail
   go_quiet (fail);go_wp2
   go_roundw;case rel=>exact⟨k+1,by omega,by go_num,Zt I⟩
   case measure=>simp[intOf];omega
  ·go_wp2
   go_ret;exact⟨rfl,I⟩
theorem Z37 (w:World)(u v x:Value)(t:TypeId):∀ j y,[u,v,x][j]? =some y->(w.alloc (.cells #[u,v,x] t)).cell? ((⟨w.heap.size,0,none⟩:Addr).add j)=some y:=by
 intro j y I;have D:(⟨w.heap.size,0,none⟩:Addr).add j=⟨w.heap.size,j,none⟩:=by unfold Addr.add;split <;> simp_all
 rw[D];have e:=heap_alloc_new w (.cells #[u,v,x] t);simp only[World.cell?,e];simpa using I
def plT (e:List Int)(t:T3):T3:=(Yv e t.1,Yv e t.2.1,Yv e t.2.2)
theorem Z38 (e:List Int)(t:T3){j:Nat}(D:j<3):Zl (plT e t) j=Yv e (Zl t j):=by
 have:j=0\/j=1\/j=2:=by omega
 rcases this with rfl|rfl|rfl <;> rfl
theorem Zkp {n:Int}{l:List Int}(h:n∈l):0<=Yv l n/\Yv l n<l.length:=by
 induction l with
 | nil=>cases h
 | cons m r ih=>
  rw[Yv];by_cases e:m=n
  ·rw[if_pos e];simp
  ·rw[if_neg e];have:=ih ((List.mem_cons.1 h).resolve_left fun D=>e D.symm);rw[if_neg (by omega)];simp only[List.length_cons];omega
def Zeb (t:T3)(j:Nat):Array Value:=#[iv (if 0<j then t.1 else 0),iv (if 1<j then t.2.1 else 0),iv (if 2<j then t.2.2 else 0)]
theorem Zs3 (t:T3){j:Nat}(e:j<3):(Zeb t j).setIfInBounds j (iv (Zl t j))=Zeb t (j+1):=by
 have:j=0\/j=1\/j=2:=by omega
 rcases this with rfl|rfl|rfl <;> rfl
theorem Z39 (ts:List T3)(t:T3):Zj (ts ++ [t])=Zj ts ++ [iv t.1,iv t.2.1,iv t.2.2]:=by rw[Zj9];rfl
theorem Z4a (K:Nat) (na:Option Addr) (nc:Nat) (D:List Int) (ta:Option Addr) (tc:Nat) (ts:List T3) (w:World) (hl:D.length<=1000) (hK:w.cell? ⟨K,2,none⟩=some (.slice na D.length nc)) (hn:Zy w na D)
  (ht:X4 w ta ts) (htl:ts.length<=4000) (hm:∀ t∈ts,t.1∈D/\t.2.1∈D/\t.2.2∈D) :
  Calls prog 101 #[.pointer (some ⟨K,0,none⟩),.slice ta ts.length tc] w fun e w'=>∃ v,e= .returned (.tuple #[v,.bool true])/\w'.ownsRow w.heap.size 53 3 v ts.length (Zj (ts.map (plT D)))/\Below w.heap.size w w':=by
 have HT:Hid (X4 w ta ts):=ht;have HM:Hid (∀ t∈ts,t.1∈D/\t.2.1∈D/\t.2.2∈D):=hm;have PC:Hid (∀ n W,Below w.heap.size w W->Calls prog 99 #[.pointer (some ⟨K,0,none⟩),int i64 n] W fun e w'=>e= .returned (int i64 (Yv D n))/\w'=W):=fun n W hb=>
  Zsx K na nc D n W hl ((hb.cell (p:=⟨K,2,none⟩) (World.block_lt_of_cell? w _ hK)).trans hK) (hn.below hb)
 obtain⟨iE,hiE,hzE,hsE,hbE⟩:=info_parts Zhq;clear ht hm hn hK;go_enter func101,ntmps101;go_wp2
 go_loopw [6,7] (fun s6 s7 wr=>∃ i:Nat,i<=ts.length/\s7=int i64 i/\wr.ownsRow w.heap.size 53 3 s6 i (Zj ((ts.take i).map (plT D)))/\Below w.heap.size w wr) (fun _ i _=>ts.length-(intOf i).toNat)
 case atStart=>exact⟨0,Nat.zero_le _,rfl,World.ownsRow_nil _ _ _ _,Below.refl _ _⟩
 case round=>
  obtain⟨i,hi,rfl,Z,hbr⟩:=hrel;by_cases hil:i<ts.length
  ·obtain⟨g,rfl,hg,hc⟩:=HT.out.at hil;have HC:Hid (∀ j,j<3->w.cell? ⟨g,i*3+j,none⟩=some (iv (Zl (ts.getD i (0,0,0)) j))):=hc;have hmem:ts.getD i (0,0,0)∈ts:=by
    have:ts.getD i (0,0,0)=ts[i]:=by simp[hil]
    rw[this];exact List.getElem_mem hil
   have HME:Hid (∀ j,j<3->0<=Yv D (Zl (ts.getD i (0,0,0)) j)):=fun j hj=>by
    obtain⟨h1,h2,h3⟩:=HM.out _ hmem;have:j=0\/j=1\/j=2:=by omega
    rcases this with rfl|rfl|rfl
    ·exact (Zkp h1).1
    ·exact (Zkp h2).1
    ·exact (Zkp h3).1
   have HTK:Hid ((ts.take (i+1)).map (plT D)=(ts.take i).map (plT D) ++ [plT D (ts.getD i (0,0,0))]):=by
    have eg:ts.getD i (0,0,0)=ts[i]:=by simp[hil]
    unfold Hid;rw[List.take_succ_eq_append_getElem hil,List.map_append,eg];rfl
   have HNT:Hid (∀ j,j<3->Zl (plT D (ts.getD i (0,0,0))) j=Yv D (Zl (ts.getD i (0,0,0)) j)):=fun j hj=>Z38 D _ hj
   have y0:(0:Int)<=(i:Int):=by omega
   have y1:(i:Int)<(ts.length:Int):=by omega
   have y2:IntKind.i64.wrap ((i:Int)+1)=(i:Int)+1:=Zd (by omega) (by omega);obtain⟨oa,oc,rfl⟩:=Zn Z;have Y:Hid (wr.ownsRow w.heap.size 53 3 (.slice oa i oc) i (Zj ((ts.take i).map (plT D)))):=Z;clear hc hmem Z;generalize plT D (ts.getD i (0,0,0))=u at *
   generalize wr=I at *
   go_upto_block 2 with fail
   obtain⟨W1,hW1⟩:∃ W1,I.alloc (.cells #[int i64 0,int i64 0,int i64 0] 53)=W1:=⟨_,rfl⟩;have J:W1.heap[I.heap.size]? =some (.cells (Zeb u 0) 53 (0,0)):=by rw[<-hW1];exact heap_alloc_new _ _
   have hb1:Below I.heap.size I W1:=by rw[<-hW1];exact Zb _ _
   have hws:w.heap.size<=I.heap.size:=hbr.size;rw[hW1];clear hW1;have HXW:Hid (I.heap.size=I.heap.size):=rfl;generalize hXX:I.heap.size=X at *
   have HXX:Hid (I.heap.size=X):=hXX;clear hXX HXW;go_cut [9] (fun _ wx=>wx.heap[X]? =some (.cells (Zeb u 3) 53 (0,0))/\Below X I wx)
   case first=>
    as_aux_lemma=>
    clear Y HTK HT HM hiE hzE hsE hbE;go_wp2_with fail
    go_loopw [9] (fun s9 wq=>∃ j:Nat,j<=3/\s9=int i64 j/\wq.heap[X]? =some (.cells (Zeb u j) 53 (0,0))/\Below X I wq) (fun i _=>3-(intOf i).toNat)
    case atStart=>exact⟨0,by omega,rfl,J,hb1⟩
    case round=>
     clear J hb1;obtain⟨j,hj,rfl,J,hbq⟩:=hrel;by_cases hj3:j<3
     ·have hwq:Below w.heap.size w wr:=hbr.trans (hbq.mono hws);have c0:=(hwq.cell (p:=⟨g,i*3+j,none⟩) hg).trans (HC.out j hj3);have PCj:=PC.out (Zl (ts.getD i (0,0,0)) j) wr hwq;have hpos:=HME.out j hj3;have hnt:=HNT.out j hj3;have O:=heap_setCell_same wr X j _ _ (iv (Zl u j)) J;rw[Zs3 u hj3,hnt] at O;have HK:Hid ((wr.setCell ⟨X,j,none⟩ (iv (Yv D (Zl (ts.getD i (0,0,0)) j)))).heap[X]? =some (.cells (Zeb u (j+1)) 53 (0,0))):=O;have HBK:Hid (Below X I (wr.setCell ⟨X,j,none⟩ (iv (Yv D (Zl (ts.getD i (0,0,0)) j))))):=hbq.setCell (p:=⟨X,j,none⟩) (Nat.le_refl _) _;have hcell:(wr.setCell ⟨X,j,none⟩ (iv (Yv D (Zl (ts.getD i (0,0,0)) j)))).cell? ⟨X,j,none⟩=some (iv (Yv D (Zl (ts.getD i (0,0,0)) j))):=by
       have h:=Ys O j;rw[h,<-Zs3 u hj3,hnt];simp[Zeb,hj3]
      have hold:∃ v,wr.cell? ⟨X,j,none⟩=some v:=by
       have h:=Ys J j;rw[h];have:j<(Zeb u j).size:=by simp[Zeb];omega
       exact⟨_,Array.getElem?_eq_getElem this⟩
      obtain⟨v0,hold⟩:=hold;have hfr:=Zch J j;generalize Yv D (Zl (ts.getD i (0,0,0)) j)=pn at *
      generalize Zl (ts.getD i (0,0,0)) j=tn at *
      have z0:(0:Int)<=(j:Int):=by omega
      have z1:(j:Int)<3:=by omega
      have z2:IntKind.i64.wrap ((j:Int)+1)=(j:Int)+1:=Zd (by omega) (by omega);have z3:decide (pn<0)=false:=decide_eq_false (by omega);have z4:¬ pn<0:=by omega
      clear J hbq hwq O hnt;go_wp2_with (go_at_call 99;refine PCj.mono ?_;rintro e w5 ⟨rfl,rfl⟩)
      go_roundw;case rel=>exact⟨j+1,by omega,by go_num,HK.out,HBK.out⟩
      case measure=>simp[intOf];omega
     ·have ej:j=3:=by omega
      subst ej;go_wp2
      go_meet;case rel=>exact⟨J,hbq⟩
   case rest=>
    as_aux_lemma=>
    obtain⟨hX3,hb3⟩:=hcut;have hw3:Below w.heap.size w wc:=hbr.trans (hb3.mono hws);have hown3:wc.ownsRow w.heap.size 53 3 (.slice oa i oc) i (Zj ((ts.take i).map (plT D))):=Z9 Y.out fun g hg=>hb3.block g (by have:=Zx Y.out hg;have:=HXX.out;omega)
    have HOW3:Hid (wc.ownsRow w.heap.size 53 3 (.slice oa i oc) i (Zj ((ts.take i).map (plT D)))):=hown3;have x0:wc.cell? ⟨X,0,none⟩=some (iv u.1):=Ys hX3 0;have x1:wc.cell? ⟨X,1,none⟩=some (iv u.2.1):=Ys hX3 1;have x2:wc.cell? ⟨X,2,none⟩=some (iv u.2.2):=Ys hX3 2;have hsz:=hw3.size;have hXl:X<wc.heap.size:=Zh hX3;have HE:Hid (Zj ((ts.take (i+1)).map (plT D))=Zj ((ts.take i).map (plT D)) ++ [iv u.1,iv u.2.1,iv u.2.2]):=by unfold Hid;rw[HTK.out,Z39]
    clear J hb1 hX3 hb3 hbr hown3 Y HTK HNT HME HC HXX;generalize wc=Wz at *
    have hn1:=Z37 Wz (iv u.1) (iv u.2.1) (iv u.2.2) 53;have HN1:Hid (∀ j x,[iv u.1,iv u.2.1,iv u.2.2][j]? =some x->(Wz.alloc (.cells #[iv u.1,iv u.2.1,iv u.2.2] 53)).cell? ((⟨Wz.heap.size,0,none⟩:Addr).add j)=some x):=hn1;clear hn1;go_wp2_with (at_builtin;refine Xv _ (by rfl) (.tmp 34) (.tmp 36) 42 (by rfl) w.heap.size 53 iE (.agg #[int i64 0,int i64 0,int i64 0]) 3 24 underlying42 hiE hzE hsE hbE rfl (by decide) _ _ _ (by rfl) (Yt HOW3.out (Zb _ _)) ⟨Wz.heap.size,0,none⟩ 1 1 [iv u.1,iv u.2.1,iv u.2.2] (by rfl) rfl HN1.out ?c2 (by decide) ?c3 ?c4 ?c5 (Wz.heap.size+1) ?c6 ?_)
    case c2=>intro x hx;simp at hx;rcases hx with rfl|rfl|rfl <;> rfl
    case c3=>unfold maxLen;omega
    case c4=>omega
    case c5=>simp;omega
    case c6=>simp
    ·intro g2 cap2 w3 hown5 hat5 hlt5;have HR:Hid (w3.ownsRow w.heap.size 53 3 (.slice (some ⟨g2,0,none⟩) (i+1) cap2) (i+1) (Zj ((ts.take (i+1)).map (plT D)))/\Below w.heap.size w w3):=by
      refine⟨by rw[HE.out];first|exact hown5|(rw[List.map_take];exact hown5),?_⟩;have k1:=hw3.trans ((Zb Wz (.cells #[iv u.1,iv u.2.1,iv u.2.2] 53)).mono hw3.size);rcases hat5 with ⟨hv,hgr⟩|⟨hv,hgr⟩
      ·exact k1.grown hgr (by simp;omega) fun k O=>by cases O;exact (hown5.lt _ rfl).1
      ·exact k1.grown hgr (by simp;omega) fun k O=>by cases O
     clear hown5 hat5 hlt5 HOW3 HE x0 x1 x2;go_wp2
     go_roundw;case rel=>exact⟨i+1,by omega,by go_num,HR.out.1,HR.out.2⟩
     case measure=>simp[intOf];omega
  ·have ei:i=ts.length:=by omega
   subst ei;have Y:Hid (wr.ownsRow w.heap.size 53 3 u6 ts.length (Zj (ts.map (plT D)))/\Below w.heap.size w wr):=⟨by rw[List.take_length] at Z;exact Z,hbr⟩;clear Z hbr;go_wp2
   go_ret2;exact⟨_,rfl,Y.out.1,Y.out.2⟩
end Go.Proofs.YtgpapegpdfonpaaGreatDoor
namespace Go.Proofs.YtgpapegpdfonpaaGreatDoor
open Go.RowKit
theorem Z46 {e:List Int}(h:e.Pairwise (· < ·)){t:T3}(I:0<=t.1/\t.1<e.length)(D:0<=t.2.1/\t.2.1<e.length)(J:0<=t.2.2/\t.2.2<e.length):plT e (Xm e t)=t:=by
 obtain⟨x,y,z⟩:=t;simp only at I D J;unfold plT Xm;simp only;rw[Zko h (by omega),Zko h (by omega),Zko h (by omega)];simp only[Prod.mk.injEq];omega
theorem MS.Ok.back {s:MS}(h:s.Ok):(s.ts.map (Xm s.nums)).map (plT s.nums)=s.ts:=by
 rw[List.map_map];have:∀ t∈s.ts,(plT s.nums ∘ Xm s.nums) t=t:=fun t I=>by
  obtain⟨D,O,J,Y,e,Z⟩:=h.good.nums t I;have:=h.len;exact Z46 h.inc ⟨D,by omega⟩ ⟨J,by omega⟩ ⟨e,by omega⟩
 rw[List.map_congr_left this,List.map_id']
theorem MS.Ok.mem {s:MS}(h:s.Ok):∀ t∈s.ts.map (Xm s.nums),t.1∈s.nums/\t.2.1∈s.nums/\t.2.2∈s.nums:=by
 intro t D;obtain⟨u,e,rfl⟩:=List.mem_map.1 D;obtain⟨Z,I,h3,O,J,Y⟩:=h.good.nums u e;have:=h.len;exact⟨Zie (by omega),Zie (by omega),Zie (by omega)⟩
end Go.Proofs.YtgpapegpdfonpaaGreatDoor
namespace Go.Proofs.YtgpapegpdfonpaaGreatDoor
open Go.RowKit Go.Proofs.Tryz
open Go.Value(int)
open Go.IntKind(i64)
attribute [local go_sem ↓] Go.wp_at_zero Go.wp_at_succ
def Y6 (w:World)(tag:Nat->Nat):Prop:=∀ k,tag k≠0->k<w.heap.size
abbrev Yd:=World->(Nat->Nat)->Nat->Nat->MS->Prop
def Zbc (MAt:Yd)(w w':World)(tag:Nat->Nat)(i m:Nat)(e:MS)(v:Value):Prop:=
 ∃ tag',Ye w tag tag'/\Y6 w' tag'/\MAt w' tag' i m e/\Chg (fun k=>tag k=i) w w'/\∀ g,v.ownBlock=some g->tag' g=0
def Zdd (s:MS)(p:Pt):Int:=if Zc p.1 p.2=true then 1 else if p∈s.pts then 3 else if s.pts.length=60 then 2 else 0
def Zny (s:MS)(p:Pt)(n:Int)(e:MS):Prop:=
 (Zdd s p≠0/\n=0/\e=s)\/(Zdd s p=0/\n=s.ever/\e.pts=s.pts ++ [p]/\e.nums=s.nums ++ [(s.ever:Int)]/\e.ever=s.ever+1)
def Zs8 (s:MS)(n e:Int)(D:MS):Prop:=
 (n ∉ s.nums/\e=4/\D=s)\/(n∈s.nums/\e=0/\D.pts=s.pts.eraseIdx (Yv s.nums n).toNat/\D.nums=s.nums.eraseIdx (Yv s.nums n).toNat/\D.ever=s.ever)
def Zg0 (s:MS)(p:Pt)(k a b c e:Int):Prop:=
 (Zc p.1 p.2=true/\k=0/\a=0/\b=0/\c=0/\e=1)\/(Zc p.1 p.2=false/\e=0/\∃ I J D,Xl s.pts s.ts (Zm s.pts s.ts (flB s.pts) s.pts.length) p k I J D/\a=Yc s.nums I/\b=Yc s.nums J/\c=Yc s.nums D)
def Znz (s:MS)(p:Pt)(n e:Int):Prop:=
 (Zc p.1 p.2=true/\n=0/\e=1)\/(Zc p.1 p.2=false/\s.pts=[]/\n=0/\e=4)\/(Zc p.1 p.2=false/\s.pts≠ []/\e=0/\n=Yc s.nums (Z1 s.pts p s.pts.length))
structure MeshLaw (MAt:Yd):Prop where
 frame:∀ (w w':World) (tag tag':Nat->Nat) (i m:Nat) (s:MS),MAt w tag i m s->w.heap.size<=w'.heap.size->(∀ k,k<w.heap.size->tag k=i->w'.heap[k]? =w.heap[k]? /\tag' k=i)->MAt w' tag' i m s
 ok:∀ (w:World) (tag:Nat->Nat) (i m:Nat) (s:MS),MAt w tag i m s->s.Ok
 new:∀ (w:World) (tag:Nat->Nat) (i:Nat),i≠0->Y6 w tag->Calls prog 21 #[] w fun e w'=>∃ m,e= .returned (.pointer (some ⟨m,0,none⟩))/\Zbc MAt w w' tag i m ⟨[],[],0,[]⟩ (.slice none 0 0)/\Below w.heap.size w w'
 insert:∀ (w:World) (tag:Nat->Nat) (i m:Nat) (s:MS) (px py:Int),i≠0->MAt w tag i m s->Y6 w tag->s.ever<=2000000000000->
  Calls prog 97 #[.pointer (some ⟨m,0,none⟩),pv px py] w fun e w'=>∃ n s',e= .returned (.tuple #[int i64 n,int i64 (Zdd s (px,py))])/\Zny s (px,py) n s'/\Zbc MAt w w' tag i m s' (.slice none 0 0)
 remove:∀ (w:World) (tag:Nat->Nat) (i m:Nat) (s:MS) (n:Int),i≠0->MAt w tag i m s->Y6 w tag->
  Calls prog 98 #[.pointer (some ⟨m,0,none⟩),int i64 n] w fun e w'=>∃ r s',e= .returned (int i64 r)/\Zs8 s n r s'/\Zbc MAt w w' tag i m s' (.slice none 0 0)
 triangles:∀ (w:World) (tag:Nat->Nat) (i m:Nat) (s:MS),i≠0->MAt w tag i m s->Y6 w tag->
  Calls prog 100 #[.pointer (some ⟨m,0,none⟩)] w fun e w'=>∃ v,e= .returned v/\w'.ownsRow w.heap.size 53 3 v s.ts.length (Zj (s.ts.map (Xm s.nums)))/\Zbc MAt w w' tag i m s v
 locate:∀ (w:World) (tag:Nat->Nat) (i m:Nat) (s:MS) (px py:Int),i≠0->MAt w tag i m s->Y6 w tag->
  Calls prog 102 #[.pointer (some ⟨m,0,none⟩),pv px py] w fun e w'=>∃ k a b c r,e= .returned (.tuple #[.agg #[int i64 k,int i64 a,int i64 b,int i64 c],int i64 r])/\Zg0 s (px,py) k a b c r/\Zbc MAt w w' tag i m s (.slice none 0 0)
 nearest:∀ (w:World) (tag:Nat->Nat) (i m:Nat) (s:MS) (px py:Int),i≠0->MAt w tag i m s->Y6 w tag->
  Calls prog 62 #[.pointer (some ⟨m,0,none⟩),pv px py] w fun e w'=>∃ n r,e= .returned (.tuple #[int i64 n,int i64 r])/\Znz s (px,py) n r/\Zbc MAt w w' tag i m s (.slice none 0 0)
structure KD where
 K:Nat
 mp:Nat
 s:MS
 told:Bool
 tl:List T3
def Zft (d:KD)(vP vN vT:Value):Array Value:=#[.pointer (some ⟨d.mp,0,none⟩),vP,vN,int i64 (d.s.ever:Int),.bool d.told,vT]
structure KAt (w:World)(tag:Nat->Nat)(i:Nat)(d:KD)(vP vN vT:Value):Prop where
 blk:w.heap[d.K]? =some (.cells (Zft d vP vN vT) 67 (0,0))
 tK:tag d.K=i
 ownP:w.ownsRow 0 37 2 vP d.s.pts.length (Zg d.s.pts)
 ownN:w.ownsRow 0 3 1 vN d.s.nums.length (d.s.nums.map (int i64))
 ownT:w.ownsRow 0 53 3 vT d.tl.length (Zj d.tl)
 tP:∀ g,vP.ownBlock=some g->tag g=i
 tN:∀ g,vN.ownBlock=some g->tag g=i
 tT:∀ g,vT.ownBlock=some g->tag g=i
 tol:d.told=true->d.tl=d.s.ts.map (Xm d.s.nums)
def Z47 (w:World)(tag:Nat->Nat)(i:Nat)(d:KD):Prop:=∃ vP vN vT,KAt w tag i d vP vN vT
section
variable {w w':World} {tag tag':Nat->Nat} {i:Nat} {d:KD} {vP vN vT:Value}
theorem KAt.keep (h:KAt w tag i d vP vN vT)(D:∀ k,k<w.heap.size->tag k=i->w'.heap[k]? =w.heap[k]? /\tag' k=i):KAt w' tag' i d vP vN vT:=by
 obtain⟨Y,Z⟩:=D d.K (Zh h.blk) h.tK;have O:=fun g e=>D g (Zx h.ownP e) (h.tP g e)
 have J:=fun g e=>D g (Zx h.ownN e) (h.tN g e)
 have I:=fun g e=>D g (Zx h.ownT e) (h.tT g e)
 exact⟨by rw[Y];exact h.blk,Z,Z9 h.ownP fun g e=>(O g e).1,Z9 h.ownN fun g e=>(J g e).1,Z9 h.ownT fun g e=>(I g e).1,fun g e=>(O g e).2,fun g e=>(J g e).2,fun g e=>(I g e).2,h.tol⟩
theorem KAt.below (h:KAt w tag i d vP vN vT)(e:Below w.heap.size w w'):KAt w' tag i d vP vN vT:=h.keep fun k I D=>⟨e.block k I,D⟩
theorem KAt.cells (h:KAt w tag i d vP vN vT):w.cell? ⟨d.K,0,none⟩=some (.pointer (some ⟨d.mp,0,none⟩))/\w.cell? ⟨d.K,1,none⟩=some vP/\w.cell? ⟨d.K,2,none⟩=some vN/\w.cell? ⟨d.K,3,none⟩=some (int i64 (d.s.ever:Int))/\w.cell? ⟨d.K,4,none⟩=some (.bool d.told)/\w.cell? ⟨d.K,5,none⟩=some vT/\∀ j,w.frozen? ⟨d.K,j,none⟩=false:=by
 have e:=h.blk;simp[World.cell?,World.frozen?,e,Zft]
theorem KAt.lt (h:KAt w tag i d vP vN vT):d.K<w.heap.size:=Zh h.blk
end
def KM (MAt:Yd)(w:World)(tag:Nat->Nat)(e iM:Nat)(d:KD):Prop:=Z47 w tag e d/\MAt w tag iM d.mp d.s
def Za3 (MAt:Yd)(w w':World)(tag:Nat->Nat)(e iM:Nat)(d:KD):Prop:=
 ∃ tag' d',KM MAt w' tag' e iM d'/\d'.K=d.K/\d'.s.ever<=d.s.ever+1/\Ye w tag tag'/\Y6 w' tag'/\Chg (fun k=>tag k=e\/tag k=iM) w w'
end Go.Proofs.YtgpapegpdfonpaaGreatDoor
namespace Go.Proofs.YtgpapegpdfonpaaGreatDoor
open Go.RowKit Go.Proofs.Tryz
attribute [local go_sem ↓] Go.wp_at_zero Go.wp_at_succ
theorem Bks.move {w w':World}{WB N:Nat}{v0:Value}{tag tag':Nat->Nat}(h:Bks w WB v0 tag N)(e:∀ k,tag k≠0->tag k<=4->w'.heap[k]? =w.heap[k]? /\tag' k=tag k)(J:Y6 w' tag')(O:Ye w tag tag'):Bks w' WB v0 tag' N:=by
 obtain⟨sh,nk,D,I⟩:=h;exact⟨sh,nk,D.move e J fun k e=>by rw[O k (Nat.lt_trans e D.ltW)];exact D.low k e,I⟩
theorem Bks.mpost {w w':World}{WB N i:Nat}{v0:Value}{tag tag':Nat->Nat}(h:Bks w WB v0 tag N)(hi:4<i)(J:Y6 w' tag')(D:Ye w tag tag')(I:Chg (fun k=>tag k=i) w w'):Bks w' WB v0 tag' N:=
 h.move (fun k e O=>⟨I.far k (h.tlt k e) (by omega),D k (h.tlt k e)⟩) J D
section
variable {P:Program} (w:World)
theorem Z48 {ops:Array Oper} {rest:List Oper} {o:Oper} {a:Act} {Q:Exit->Act->World->Prop} (Z:o.guard=none) (s x:Operand) (t:TypeId)
  (ho:o.op= .call { callee:=.builtin .append,args:=#[s,x],argTypes:=#[t,t] })
  (e:TypeId) (i:TypeInfo) (z:Value) (size bytes:Nat) (ht:P.underlying t=some (.slice e)) (hi:P.info? e=some i) (hz:i.zero=some z)
  (hsize:i.size=size) (hby:i.bytes=bytes) (hzs:z.cells.size=size) (hsz:0<size)
  (hs:a.eval s= .slice none 0 0) (ad:Option Addr) (m c base:Nat) (news:List Value) (hx:a.eval x= .slice ad m c) (hown:w.ownsRow base e size (.slice ad m c) m news) (h1:∀ u∈news,u.oneCell'=true)
  (h63:m<=maxLen) (hbytes:m*bytes<=140737488355328)
  (h:∀ v w',w'.ownsRow w.heap.size e size v m news->Below w.heap.size w w'->wpList P ops Q rest (a.put o.dst v) w'):wpList P ops Q (o :: rest) a w:=by
 by_cases J:0<m
 ·obtain⟨g,rfl,hg,hc⟩:=Zcw hown J;have I:=hown.1;refine Xv w Z s x t ho w.heap.size e i z size bytes ht hi hz hsize hby hzs hsz (.slice none 0 0) 0 [] hs (World.ownsRow_nil _ _ _ _) ⟨g,0,none⟩ m c news hx I (fun j u Y=>?_) h1 J (by omega) (by rw[Nat.zero_add];exact hbytes) (Nat.le_refl _) w.heap.size rfl ?_
  ·have aa:(⟨g,0,none⟩:Addr).add j=⟨g,j,none⟩:=by unfold Addr.add;split <;> simp_all
   rw[aa,hc j (by rw[<-I];exact (List.getElem?_eq_some_iff.1 Y).1)];exact Y
  ·intro g2 cap w' O hat hlt;rw[Nat.zero_add,List.nil_append] at O;rw[Nat.zero_add];refine h _ w' O ?_;rcases hat with ⟨hv,_⟩|⟨_,D⟩
   ·cases hv
   ·exact⟨D.os,D.tape,D.output,D.size,fun k hk=>D.block k hk (by simp)⟩
 ·have hm0:m=0:=by omega
  subst hm0;have hn:news=[]:=List.eq_nil_of_length_eq_zero (by have:=hown.1;omega);subst hn;refine wpList_plain Z fun K hK=>?_
  have hrun:(Builtin.append_ #[t,t] o.type #[.slice none 0 0,.slice ad 0 c]).run P w= .ok (.slice none 0 0) w:=by
   have I:∀ (x:Addr),(loadCells x 0).run P w= .ok #[] w:=fun x=>by simpa using run_loadCells_list (P:=P) w x [] (by simp)
   cases ad <;> simp[Builtin.append_,run_underlying ht,Builtin.lenOf,Builtin.firstCells,sizeOf,typeInfo,hi,storeCells,I]
  unfold Oper.wp execOp;simp only[ho,resolve,invoke,builtin,Sem.run_bind,Sem.run_pure,Result.andThen_ok,List.map_toArray,List.map_cons,List.map_nil,hs,hx,hrun];exact hK _ _ (h _ w (World.ownsRow_nil _ _ _ _) (Below.refl _ _))
end
theorem Z49 (a:Option Addr)(cap base:Nat)(l:List Pt)(ts:List T3)(v:Value)(w:World)(hr:Z0 w a l)(hl:l.length<=60)(hn:Zv l)(O:Zau l ts)(J:w.ownsRow base 53 3 v ts.length (Zj ts)) :
  Calls prog 49 #[.slice a l.length cap,v] w fun e w'=>e= .returned (.bool true)/\Below w.heap.size w w':=by
 obtain⟨htl,O⟩:=O;rcases O with ⟨Z,rfl⟩|⟨Z,F,_,hne⟩
 ·obtain⟨ta,tc,rfl⟩:=Zn J;refine Znj a _ cap ta tc w ?_;rcases hr with rfl|⟨b,D,rfl,I,Y⟩
  ·refine (Zni a cap w).mono ?_;rintro e w' ⟨rfl,rfl⟩;exact⟨rfl,Below.refl _ _⟩
  ·refine (Zkg b D cap l w hl hn I Y).mono ?_;rintro e w' ⟨B,rfl,hB,hb'⟩;have:B=true:=hB.2 Z;subst this;exact⟨rfl,hb'⟩
 ·rcases hr with rfl|⟨b,D,rfl,I,Y⟩
  ·exact absurd (fun i h2 hi=>by simp at hi) Z
  ·obtain⟨ta,tc,rfl⟩:=Zn J;rcases X4.of_own J with h|⟨g,rfl,hg,hT⟩
   ·exact absurd h hne
   ·exact Zsm b D cap g tc l ts w hl hn I Y hg hT htl F
theorem X8.bks {w w':World}{WB N j nk:Nat}{v0 v:Value}{tag:Nat->Nat}{sh:Nat->Sh}(J:X8 j WB v0 tag sh nk v w w')(D:∀ j,j<3->(sh j).ls.length=(sh j).ms.length/\(sh j).ls.length<=4*N)(ae:nk<=2*N) :
  ∃ tag',Bks w' WB v0 tag' (N+1)/\(∀ k,k<w.heap.size->some k≠v.ownBlock->tag' k=tag k)/\Chg (fun k=>k=WB\/tag k=j+1\/some k=v.ownBlock) w w':=by
 obtain⟨tag',ab,Y,aa,I,ac,Z,O⟩:=J;refine⟨tag',⟨ab,nk+1,Y,fun i hi=>?_,by omega⟩,Z,O⟩;by_cases e:i=j
 ·subst e;have:=D i hi;exact⟨I,by omega⟩
 ·rw[aa i e];have:=D i hi;exact⟨this.1,by omega⟩
theorem Z5a {ts:List T3}:∀ u∈Zj ts,u.oneCell'=true:=by
 intro u e;obtain⟨t,_,h⟩:=List.mem_flatMap.1 e;simp only[Xe,List.mem_cons,List.not_mem_nil,or_false] at h;rcases h with rfl|rfl|rfl <;> rfl
theorem KAt.told {w w5:World} {tag aa:Nat->Nat} {i:Nat} {d:KD} {vP vN vT I:Value} {O:List T3} (h:KAt w tag i d vP vN vT) (Y:Below w.heap.size w w5) (Z:w5.ownsRow w.heap.size 53 3 I O.length (Zj O)) (hnt:O=d.s.ts.map (Xm d.s.nums))
  (h7:∀ k,aa k=if some k=I.ownBlock then i else tag k) :
  KAt ((w5.setCell ⟨d.K,5,none⟩ I).setCell ⟨d.K,4,none⟩ (.bool true)) aa i ⟨d.K,d.mp,d.s,true,O⟩ vP vN I:=by
 have hK:=h.lt;have ab:∀ k,k≠d.K->((w5.setCell ⟨d.K,5,none⟩ I).setCell ⟨d.K,4,none⟩ (.bool true)).heap[k]? =w5.heap[k]? :=fun k hk=>by rw[Below.heap_setCell _ _ _ _ hk,Below.heap_setCell _ _ _ _ hk]
 have old:∀ k,k<w.heap.size->aa k=tag k:=fun k hk=>by rw[h7,if_neg fun e=>by have:=(Z.lt k e.symm).1;omega]
 have b5:w5.heap[d.K]? =some (.cells (Zft d vP vN vT) 67 (0,0)):=by rw[Y.block _ hK];exact h.blk
 have s1:=heap_setCell_same w5 d.K 5 _ _ I b5;have s2:=heap_setCell_same _ d.K 4 _ _ (.bool true) s1;have ne:∀ {g cs t},w.heap[g]? =some (.cells cs t (0,0))->t≠67->g≠d.K:=fun D ht=>X7 D h.blk ht
 refine⟨?_,by rw[old _ hK];exact h.tK,Z9 h.ownP fun g D=>?_,Z9 h.ownN fun g D=>?_,?_,fun g D=>by rw[old g (Zx h.ownP D)];exact h.tP g D,fun g D=>by rw[old g (Zx h.ownN D)];exact h.tN g D,fun g D=>by rw[h7,if_pos D.symm],fun _=>hnt⟩
 ·rw[s2];rfl
 ·obtain⟨cur,J⟩:=Yy h.ownP D;rw[ab g (ne J (by decide)),Y.block g (Zh J)]
 ·obtain⟨cur,J⟩:=Yy h.ownN D;rw[ab g (ne J (by decide)),Y.block g (Zh J)]
 ·refine Zb5 (Z9 Z fun g D=>ab g fun e=>?_) (Nat.zero_le _);have:=(Z.lt g D).1;omega
def Zg1 (MAt:Yd)(WB N:Nat)(v0:Value)(w w':World)(tag:Nat->Nat)(e iM:Nat)(d:KD):Prop:=
 ∃ tag' d',Bks w' WB v0 tag' (N+1)/\KM MAt w' tag' e iM d'/\d'.K=d.K/\d'.s=d.s/\Ye w tag tag'/\Chg (fun k=>BkF WB tag k\/tag k=e\/tag k=iM) w w'
theorem Zs9 {MAt:Yd}(L:MeshLaw MAt)(WB N iK iM:Nat)(v0:Value)(tag:Nat->Nat)(d:KD)(w:World)(hB:Bks w WB v0 tag N)(hN:N<=925904528800)(hK:KM MAt w tag iK iM d)(h1:4<iK)(h2:4<iM)(h3:iK≠iM) :
  Calls prog 60 #[.pointer (some ⟨WB,0,none⟩),.pointer (some ⟨d.K,0,none⟩)] w fun e w'=>∃ v,e= .returned (.tuple #[v,.bool true])/\w'.ownsRow w.heap.size 53 3 v d.s.ts.length (Zj d.s.ts)/\Zg1 MAt WB N v0 w w' tag iK iM d:=by
 obtain⟨⟨vP,vN,vT,hA⟩,hM⟩:=hK;have ok:=L.ok _ _ _ _ _ hM;have OK:Hid d.s.Ok:=ok;have HT:=L.triangles w tag iM d.mp d.s (by omega) hM hB.tlt;have HB:Hid (Bks w WB v0 tag N):=hB;have HA:Hid (KAt w tag iK d vP vN vT):=hA;have hWB:=hB.lt;have hKl:=hA.lt;have c0:=hA.cells.1;obtain⟨iE,hiE,hzE,hsE,hbE⟩:=info_parts Zhq;clear hB hA hM ok;go_enter func60,ntmps60;go_upto_region 2 with (go_at_call 100;refine HT.mono ?_;rintro e I ⟨v,rfl,hown1,tag1,hag1,hlt1,hM1,hch1,hv1⟩);have hA1:=HA.out.keep (w':=I) (tag':=tag1) fun k D Y=>⟨hch1.far k D (by omega),(hag1 k D).trans Y⟩
 have hB1:=HB.out.mpost h2 hlt1 hag1 hch1;have hv1n:=Zgv hown1;obtain⟨va,vc,rfl⟩:=Zn hown1;obtain⟨pa,pc,rfl⟩:=Zn hA1.ownP;obtain⟨na,nc,rfl⟩:=Zn hA1.ownN;obtain⟨tta,ttc,rfl⟩:=Zn hA1.ownT;obtain⟨_,e1,e2,_,e4,e5,ef⟩:=hA1.cells;have hlm:(d.s.ts.map (Xm d.s.nums)).length=d.s.ts.length:=List.length_map _;have hta:X4 I va (d.s.ts.map (Xm d.s.nums)):=X4.of_own (c:=vc) (by rw[hlm];exact hown1);have PL:=Z4a d.K na nc d.s.nums va vc (d.s.ts.map (Xm d.s.nums)) I (by have:=OK.out.len;have:=OK.out.le;omega) e2 (Zy.of_own hA1.ownN) hta (by rw[hlm];exact OK.out.good.1) OK.out.mem;rw[hlm,OK.out.back] at PL;have H1:Hid (KAt I tag1 iK d (.slice pa d.s.pts.length pc) (.slice na d.s.nums.length nc) (.slice tta d.tl.length ttc)/\Bks I WB v0 tag1 N/\MAt I tag1 iM d.mp d.s/\Ye w tag tag1/\Chg (fun k=>tag k=iM) w I/\Y6 I tag1/\w.heap.size<=I.heap.size):=⟨hA1,hB1,hM1,hag1,hch1,hlt1,hch1.size⟩;have Z:Hid (I.ownsRow w.heap.size 53 3 (.slice va d.s.ts.length vc) d.s.ts.length (Zj (d.s.ts.map (Xm d.s.nums)))/\(∀ g,(Value.slice va d.s.ts.length vc).ownBlock=some g->tag1 g=0/\w.heap.size<=g)/\X4 I va (d.s.ts.map (Xm d.s.nums))/\(d.s.ts.map (Xm d.s.nums)).length=d.s.ts.length):=⟨hown1,fun g hg=>⟨hv1 g hg,hv1n g hg⟩,hta,hlm⟩;have hK1:d.K<I.heap.size:=hA1.lt;clear HT hown1 hag1 hlt1 hM1 hch1 hv1 hA1 hB1 hv1n hta hlm c0 HA HB;go_upto_region 3 with (go_at_call 101;refine PL.mono ?_;rintro e w2 ⟨lv,rfl,hown2,hb2⟩);obtain⟨la,lc,rfl⟩:=Zn hown2;have f1:=(hb2.cell (p:=⟨d.K,1,none⟩) hK1).trans e1;have IS:=Z49 pa pc I.heap.size d.s.pts d.s.ts (.slice la d.s.ts.length lc) w2 ((Z2.raw' H1.out.1.ownP).below hb2) OK.out.le OK.out.near OK.out.good hown2;clear PL;go_upto_region 6 with (go_at_call 49;refine IS.mono ?_;rintro e w3 ⟨rfl,hb3⟩);have hb13:=hb2.trans (hb3.mono hb2.size);have hown3:=Yt hown2 hb3;have f4:=(hb13.cell (p:=⟨d.K,4,none⟩) hK1).trans e4;have f5:=(hb13.cell (p:=⟨d.K,5,none⟩) hK1).trans e5;clear IS f1 hown2 hb2 hb3;go_cut [10] (fun s10 wx=>s10= .bool true/\Below w3.heap.size w3 wx)
 case first=>
  as_aux_lemma=>
  cases Y:d.told with
  | false=>
   rw[Y] at f4;clear Y;go_wp2
   go_meet;case rel=>exact⟨rfl,Below.refl _ _⟩
  | true=>
   rw[Y] at f4;have htl:=H1.out.1.tol Y;have ST:=Zs2 tta va ttc vc (d.s.ts.map (Xm d.s.nums)) w3 ((X4.of_own (by have:=H1.out.1.ownT;rw[htl] at this;exact this)).below hb13) (Z.out.2.2.1.below hb13) (by rw[Z.out.2.2.2];have:=OK.out.good.1;omega);rw[Z.out.2.2.2] at ST;have hl2:d.tl.length=d.s.ts.length:=by rw[htl,Z.out.2.2.2]
   rw[hl2] at f5;clear Y htl hl2;go_wp2_with (go_at_call 56;refine ST.mono ?_;rintro e w4 ⟨rfl,hb4⟩)
   go_meet;case rel=>exact⟨rfl,hb4⟩
 case rest=>
  as_aux_lemma=>
  obtain⟨rfl,hb4⟩:=hcut;have hb14:=hb13.trans (hb4.mono hb13.size);have hown4:=Yt hown3 hb4;have HV4:Hid (wc.ownsRow w.heap.size 53 3 (.slice va d.s.ts.length vc) d.s.ts.length (Zj (d.s.ts.map (Xm d.s.nums)))):=Yt Z.out.1 hb14;have HOL:Hid (wc.ownsRow I.heap.size 53 3 (.slice la d.s.ts.length lc) d.s.ts.length (Zj d.s.ts)):=hown4;have hts:d.s.ts.length<=4000:=OK.out.good.1;have g4:=(hb14.cell (p:=⟨d.K,4,none⟩) hK1).trans e4;have g5:=(hb14.cell (p:=⟨d.K,5,none⟩) hK1).trans e5;have r4:wc.frozen? ⟨d.K,4,none⟩=false:=(hb14.frozen (p:=⟨d.K,4,none⟩) hK1).trans (ef 4);have r5:wc.frozen? ⟨d.K,5,none⟩=false:=(hb14.frozen (p:=⟨d.K,5,none⟩) hK1).trans (ef 5);have hK4:d.K<wc.heap.size:=L3 hK1 hb14.size;clear hown3 hown4 hb13 hb4 f4 f5 e1 e2 e4 e5 ef;generalize wc=W4 at *
  go_upto_region 9 with (at_builtin;refine Z48 _ (by rfl) (.tmp 44) (.tmp 45) 42 (by rfl) 53 iE (.agg #[.int .i64 0,.int .i64 0,.int .i64 0]) 3 24 underlying42 hiE hzE hsE hbE rfl (by decide) (by rfl) va d.s.ts.length vc w.heap.size (Zj (d.s.ts.map (Xm d.s.nums))) (by rfl) HV4.out Z5a (by unfold maxLen;omega) (by omega) ?_;intro v5 w5 hown5 hb5);obtain⟨J,O,rfl⟩:=Zn hown5;have hb15:=hb14.trans (hb5.mono hb14.size);have k4:=(hb5.cell (p:=⟨d.K,4,none⟩) hK4).trans g4;have k5:=(hb5.cell (p:=⟨d.K,5,none⟩) hK4).trans g5;have z4:w5.frozen? ⟨d.K,4,none⟩=false:=(hb5.frozen (p:=⟨d.K,4,none⟩) hK4).trans r4;have z5:w5.frozen? ⟨d.K,5,none⟩=false:=(hb5.frozen (p:=⟨d.K,5,none⟩) hK4).trans r5;have hK5:d.K<w5.heap.size:=L3 hK4 hb5.size;obtain⟨tag7,h7⟩:∃ tag7:Nat->Nat,∀ k,tag7 k=if some k=(Value.slice J d.s.ts.length O).ownBlock then iK else tag1 k:=⟨fun k=>if some k=(Value.slice J d.s.ts.length O).ownBlock then iK else tag1 k,fun _=>rfl⟩
  have ho5:w5.ownsRow I.heap.size 53 3 (.slice J d.s.ts.length O) (d.s.ts.map (Xm d.s.nums)).length (Zj (d.s.ts.map (Xm d.s.nums))):=by rw[Z.out.2.2.2];exact Zb5 hown5 hb14.size
  have hKA:=H1.out.1.told hb15 ho5 rfl h7;have old7:∀ k,k<I.heap.size->tag7 k=tag1 k:=fun k D=>by rw[h7,if_neg fun e=>by have:=(ho5.lt k e.symm).1;omega]
  have far7:∀ k,k<I.heap.size->k≠d.K->((w5.setCell ⟨d.K,5,none⟩ (.slice J d.s.ts.length O)).setCell ⟨d.K,4,none⟩ (.bool true)).heap[k]? =I.heap[k]? :=fun k D hne=>by
   rw[Below.heap_setCell _ _ _ _ hne,Below.heap_setCell _ _ _ _ hne,hb15.block k D]
  have hsz7:((w5.setCell ⟨d.K,5,none⟩ (.slice J d.s.ts.length O)).setCell ⟨d.K,4,none⟩ (.bool true)).heap.size=w5.heap.size:=by simp
  have htK:tag1 d.K=iK:=H1.out.1.tK;have htg7:Y6 ((w5.setCell ⟨d.K,5,none⟩ (.slice J d.s.ts.length O)).setCell ⟨d.K,4,none⟩ (.bool true)) tag7:=fun k D=>by
   rw[hsz7];by_cases e:some k=(Value.slice J d.s.ts.length O).ownBlock
   ·exact (ho5.lt k e.symm).2
   ·rw[h7,if_neg e] at D;exact L3 (H1.out.2.2.2.2.2.1 k D) hb15.size
  have hB7 : Bks ((w5.setCell ⟨d.K, 5, none⟩ (.slice J d.s.ts.length O)).setCell ⟨d.K, 4, none⟩ (.bool true)) WB v0 tag7 N := H1.out.2.1.move (fun k h0 h4 => by
    have D := H1.out.2.1.tlt k h0
    exact ⟨far7 k D fun e => by rw [e, htK] at h4; omega, old7 k D⟩) htg7 old7
  have hM7:MAt ((w5.setCell ⟨d.K,5,none⟩ (.slice J d.s.ts.length O)).setCell ⟨d.K,4,none⟩ (.bool true)) tag7 iM d.mp d.s:=L.frame _ _ _ _ _ _ _ H1.out.2.2.1 (by rw[hsz7];exact hb15.size) fun k D Y=>⟨far7 k D fun e=>by rw[e,htK] at Y;exact h3 Y,(old7 k D).trans Y⟩
  have hV7:((w5.setCell ⟨d.K,5,none⟩ (.slice J d.s.ts.length O)).setCell ⟨d.K,4,none⟩ (.bool true)).ownsRow 0 53 3 (.slice va d.s.ts.length vc) d.s.ts.length (Zj (d.s.ts.map (Xm d.s.nums))):=
   Zb5 (Z9 Z.out.1 fun g hg=>far7 g (Zx Z.out.1 hg) fun e=>by have:=(Z.out.2.1 g hg).1;rw[e,htK] at this;omega) (Nat.zero_le _)
  have hVf:∀ g,(Value.slice va d.s.ts.length vc).ownBlock=some g->tag7 g=0/\WB<g:=fun g hg=>⟨by rw[old7 g (Zx Z.out.1 hg)];exact (Z.out.2.1 g hg).1,by have:=(Z.out.2.1 g hg).2;omega⟩
  have hL7:((w5.setCell ⟨d.K,5,none⟩ (.slice J d.s.ts.length O)).setCell ⟨d.K,4,none⟩ (.bool true)).ownsRow I.heap.size 53 3 (.slice la d.s.ts.length lc) d.s.ts.length (Zj d.s.ts):=
   Z9 HOL.out fun g hg=>by
    have hge:=(HOL.out.lt g hg).1;have hlt:=(HOL.out.lt g hg).2;have hne:g≠d.K:=by omega
    rw[Below.heap_setCell _ _ _ _ hne,Below.heap_setCell _ _ _ _ hne,hb5.block g hlt]
  have hC7:∀ k,k<I.heap.size->k≠d.K->((w5.setCell ⟨d.K,5,none⟩ (.slice J d.s.ts.length O)).setCell ⟨d.K,4,none⟩ (.bool true)).heap[k]? =I.heap[k]? :=far7;have hos:((w5.setCell ⟨d.K,5,none⟩ (.slice J d.s.ts.length O)).setCell ⟨d.K,4,none⟩ (.bool true)).os=I.os/\((w5.setCell ⟨d.K,5,none⟩ (.slice J d.s.ts.length O)).setCell ⟨d.K,4,none⟩ (.bool true)).tape=I.tape/\((w5.setCell ⟨d.K,5,none⟩ (.slice J d.s.ts.length O)).setCell ⟨d.K,4,none⟩ (.bool true)).output=I.output:=⟨hb15.os,hb15.tape,hb15.output⟩;have hC17:Chg (fun k=>k=d.K) I ((w5.setCell ⟨d.K,5,none⟩ (.slice J d.s.ts.length O)).setCell ⟨d.K,4,none⟩ (.bool true)):=⟨hos.1,hos.2.1,hos.2.2,by rw[hsz7];exact hb15.size,fun k D hne=>far7 k D hne⟩;obtain⟨W7,hW7⟩:∃ W7,(w5.setCell ⟨d.K,5,none⟩ (.slice J d.s.ts.length O)).setCell ⟨d.K,4,none⟩ (.bool true)=W7:=⟨_,rfl⟩;rw[hW7] at hKA far7 hsz7 htg7 hB7 hM7 hV7 hL7 hC17;have HW7:Hid ((w5.setCell ⟨d.K,5,none⟩ (.slice J d.s.ts.length O)).setCell ⟨d.K,4,none⟩ (.bool true)=W7):=hW7;obtain⟨sh,nk,hBk,hlen,hnk⟩:=hB7;have HTR:=Zjr WB nk d.s.ts.length v0 (.slice va d.s.ts.length vc) tag7 sh _ W7 hBk (hlen 1 (by decide)).1 (by have:=(hlen 1 (by decide)).2;omega) (by omega) hV7 (by omega) hVf;have HFIN:Hid (∀ w8,X8 1 WB v0 tag7 sh nk (.slice va d.s.ts.length vc) W7 w8->w8.ownsRow w.heap.size 53 3 (.slice la d.s.ts.length lc) d.s.ts.length (Zj d.s.ts)/\Zg1 MAt WB N v0 w w8 tag iK iM d):=fun w8 hW8=>by
   obtain⟨tag8,hB8,ht8,hc8⟩:=hW8.bks hlen hnk;obtain⟨hA1,hB1,hM1,hag1,hch1,hlt1,hs1⟩:=H1.out;have hWBt:tag7 WB=4:=hBk.tW;have keep8:∀ k i,4<i->k<W7.heap.size->tag7 k=i->w8.heap[k]? =W7.heap[k]? /\tag8 k=i:=fun k i hi D Y=>by
    have hne:some k≠(Value.slice va d.s.ts.length vc).ownBlock:=fun e=>by have:=(hVf k e.symm).1;omega
    exact⟨hc8.far k D fun h=>by rcases h with h|h|h <;> first|(subst h;omega)|omega|exact hne h,by rw[ht8 k D hne];exact Y⟩
   refine⟨Zb5 (Z9 hL7 fun g hg=>?_) hs1,tag8,⟨d.K,d.mp,d.s,true,d.s.ts.map (Xm d.s.nums)⟩,hB8,⟨⟨_,_,_,hKA.keep fun k D Y=>keep8 k iK h1 D Y⟩,L.frame _ _ _ _ _ _ _ hM7 hc8.size fun k D Y=>keep8 k iM h2 D Y⟩,rfl,rfl,fun k D=>?_,?_⟩
   ·have hge:=(hL7.lt g hg).1;have hlt:=(hL7.lt g hg).2;refine hc8.far g hlt fun h=>?_
    rcases h with h|h|h
    ·have:=hB1.lt;omega
    ·have:tag1 g=0:=by
      by_cases e:tag1 g=0
      ·exact e
      ·have:=hlt1 g e;omega
     rw[h7] at h;split at h <;> omega
    ·have:=Zx Z.out.1 h.symm;omega
   ·have hk1:k<I.heap.size:=by omega
    have hne:some k≠(Value.slice va d.s.ts.length vc).ownBlock:=fun e=>by have:=(Z.out.2.1 k e.symm).2;omega
    rw[ht8 k (L3 hk1 (by rw[hsz7];exact hb15.size)) hne,old7 k hk1,hag1 k D]
   ·have c1:Chg (fun k=>BkF WB tag k\/tag k=iK\/tag k=iM) w W7:=Chg.trans (hch1.mono fun k _ h=>.inr (.inr h)) hC17 (fun k D e=>.inr (.inl (by rw[<-hag1 k D,e];exact htK)));refine Chg.trans c1 hc8 (fun k D h=>?_);have hk1:k<I.heap.size:=by omega
    rcases h with h|h|h
    ·exact .inl (.inl h)
    ·rw[old7 k hk1,hag1 k D] at h;exact .inl (.inr ⟨by omega,by omega⟩)
    ·have:=(Z.out.2.1 k h.symm).2;omega
  clear hKA far7 hsz7 htg7 hM7 hV7 hL7 hC17 hW7 hBk hlen hnk hVf ho5 old7 hC7 hos htK Z H1 HV4 HOL hown5 hb5 hb14 hb15 g4 g5 r4 r5;go_upto_region 11 with fail;rw[HW7.out];have hWW:WB<W7.heap.size\/True:=.inr trivial;clear k4 k5 z4 z5 hWW HW7;go_upto_region 12 with (go_at_call 50;refine HTR.mono ?_;rintro e w8 ⟨rfl,hW8⟩);have HR:=HFIN.out w8 hW8;have HRR:Hid (w8.ownsRow w.heap.size 53 3 (.slice la d.s.ts.length lc) d.s.ts.length (Zj d.s.ts)/\Zg1 MAt WB N v0 w w8 tag iK iM d):=HR;clear HR HFIN HTR hW8;go_wp2
  go_ret2;exact⟨_,rfl,HRR.out.1,HRR.out.2⟩
end Go.Proofs.YtgpapegpdfonpaaGreatDoor
namespace Go.Proofs.YtgpapegpdfonpaaGreatDoor
open Go.RowKit Go.Proofs.Tryz
open Go.Value(int)
open Go.IntKind(i64)
attribute [local go_sem ↓] Go.wp_at_zero Go.wp_at_succ
theorem Zta {MAt:Yd} (L:MeshLaw MAt) {w O w5 Z:World} {tag tag1:Nat->Nat} {J iM:Nat} {d d':KD} {vP vN vT vP' vN':Value} (h1:4<J) (h2:4<iM) (h3:J≠iM) (Y:KAt O tag1 J d vP vN vT) (hM1:MAt O tag1 iM d'.mp d'.s)
  (hag1:Ye w tag tag1) (hlt1:Y6 O tag1) (hch1:Chg (fun k=>tag k=iM) w O) (hc5:Chg (fun k=>tag1 k=J) O w5)
  (hoP:w5.ownsRow 0 37 2 vP' d'.s.pts.length (Zg d'.s.pts)) (hoN:w5.ownsRow 0 3 1 vN' d'.s.nums.length (d'.s.nums.map (int i64))) (hoT:w5.ownsRow 0 53 3 vT d.tl.length (Zj d.tl))
  (htP:∀ g,vP'.ownBlock=some g->tag1 g=J\/O.heap.size<=g) (htN:∀ g,vN'.ownBlock=some g->tag1 g=J\/O.heap.size<=g)
  (hKb:Z.heap[d.K]? =some (.cells (Zft d' vP' vN' vT) 67 (0,0))) (hb5:∃ cs,w5.heap[d.K]? =some (.cells cs 67 (0,0))) (hW:Chg (fun k=>k=d.K) w5 Z) (hsz:Z.heap.size=w5.heap.size)
  (hK:d'.K=d.K) (htold:d'.told=false) (htl:d'.tl=d.tl) (hev:d'.s.ever<=d.s.ever+1):Za3 MAt w Z tag J iM d:=by
 obtain⟨cs5,hb5⟩:=hb5;have ne:∀ {g cs t},w5.heap[g]? =some (.cells cs t (0,0))->t≠67->g≠d.K:=fun I ht=>X7 I hb5 ht
 have hlt5:=Zh hb5;obtain⟨tag',ht'⟩:∃ tag':Nat->Nat,∀ k,tag' k=if some k=vP'.ownBlock\/some k=vN'.ownBlock then J else tag1 k:=⟨fun k=>if some k=vP'.ownBlock\/some k=vN'.ownBlock then J else tag1 k,fun _=>rfl⟩
 have old:∀ k,k<O.heap.size->tag' k=tag1 k:=fun k D=>by
  rw[ht'];split
  ·rename_i h;rcases h with h|h
   ·rcases htP k h.symm with h|h
    ·exact h.symm
    ·omega
   ·rcases htN k h.symm with h|h
    ·exact h.symm
    ·omega
  ·rfl
 have keepW:∀ {base s n e v xs},w5.ownsRow base e s v n xs->e≠67->Z.ownsRow base e s v n xs:=fun h he=>Z9 h fun g I=>by
  obtain⟨cur,hc⟩:=Yy h I;exact hW.far g (Zh hc) (ne hc he)
 refine⟨tag',d',⟨⟨vP',vN',vT,⟨by rw[hK];exact hKb,by rw[hK,old _ Y.lt];exact Y.tK,keepW hoP (by decide),keepW hoN (by decide),by rw[htl];exact keepW hoT (by decide),fun g I=>by rw[ht',if_pos (.inl I.symm)],fun g I=>by rw[ht',if_pos (.inr I.symm)],fun g I=>?_,fun h=>by rw[htold] at h;cases h⟩⟩,?_⟩,hK,hev,fun k D=>?_,fun k D=>?_,?_⟩
 ·rw[old g (Zx Y.ownT I)];exact Y.tT g I
 ·refine L.frame _ _ _ _ _ _ _ hM1 (by rw[hsz];exact hc5.size) fun k D ht=>?_
  have hne:k≠d.K:=fun e=>by rw[e,Y.tK] at ht;exact h3 ht
  refine⟨?_,by rw[old k D];exact ht⟩;rw[hW.far k (L3 D hc5.size) hne,hc5.far k D (by omega)]
 ·rw[old k (L3 D hch1.size),hag1 k D]
 ·rw[ht'] at D;rw[hsz];split at D
  ·rename_i h;rcases h with h|h
   ·exact Zx hoP h.symm
   ·exact Zx hoN h.symm
  ·exact L3 (hlt1 k D) hc5.size
 ·have c1:Chg (fun k=>tag k=J\/tag k=iM) w w5:=Chg.trans (hch1.mono fun k _ h=>.inr h) hc5 fun k D h=>.inl (by rw[<-hag1 k D];exact h)
  exact Chg.trans c1 hW fun k D h=>.inl (by rw[<-hag1 k D,h];exact Y.tK)
def Zu {α:Type}(xs:List α)(i j:Nat):List α:=(xs.take j).eraseIdx i
theorem Ztb {α:Type}(xs:List α)(i j:Nat)(I:j<xs.length):Zu xs i (j+1)=if j=i then Zu xs i j else Zu xs i j ++ [xs[j]]:=by
 unfold Zu;rw[List.take_succ_eq_append_getElem I];have D:(xs.take j).length=j:=by rw[List.length_take];omega
 by_cases e:j=i
 ·subst e;rw[if_pos rfl,List.eraseIdx_append_of_length_le (by omega),D,Nat.sub_self,List.eraseIdx_of_length_le (l:=xs.take j) (by omega)];simp
 ·rw[if_neg e];by_cases h:j<i
  ·rw[List.eraseIdx_of_length_le (l:=xs.take j ++ [xs[j]]) (by rw[List.length_append,D,List.length_singleton];omega),List.eraseIdx_of_length_le (l:=xs.take j) (by omega)]
  ·rw[List.eraseIdx_append_of_lt_length (by omega)]
theorem Ztc {α:Type}(xs:List α)(i j:Nat):(Zu xs i j).length<=j:=by
 unfold Zu;exact Nat.le_trans (List.length_eraseIdx_le _ _) (by rw[List.length_take];omega)
theorem Ztd {α:Type}(xs:List α)(i:Nat):Zu xs i xs.length=xs.eraseIdx i:=by unfold Zu;rw[List.take_length]
theorem Zte (l:List Pt)(p:Pt):Zg (l ++ [p])=Zg l ++ [int i64 p.1,int i64 p.2]:=by rw[Zel];simp[Zg]
theorem Ztf {MAt:Yd}(L:MeshLaw MAt)(iK iM:Nat)(tag:Nat->Nat)(d:KD)(n:Int)(w:World)(hK:KM MAt w tag iK iM d)(hlt:Y6 w tag)(h1:4<iK)(h2:4<iM)(h3:iK≠iM) :
  Calls prog 59 #[.pointer (some ⟨d.K,0,none⟩),int i64 n] w fun e w'=>e= .returned (.bool true)/\Za3 MAt w w' tag iK iM d:=by
 obtain⟨⟨vP,vN,vT,hA⟩,hM⟩:=hK;have OK:Hid d.s.Ok:=L.ok _ _ _ _ _ hM;have HT:=L.remove w tag iM d.mp d.s n (by omega) hM hlt;have HA:Hid (KAt w tag iK d vP vN vT):=hA;have hKl:=hA.lt;have c0:=hA.cells.1;obtain⟨iP,hiP,hzP,hsP,hbP⟩:=info_parts Zdk;obtain⟨i0,hi0,hz0,hs0,hb0⟩:=info_parts Zbi;clear hA hM;go_enter func59,ntmps59;go_upto_region 2 with (go_at_call 98;refine HT.mono ?_;rintro e w1 ⟨r,s',rfl,hrem,tag1,hag1,hlt1,hM1,hch1,hv1⟩);have Y:=HA.out.keep (w':=w1) (tag':=tag1) fun k I ht=>⟨hch1.far k I (by omega),(hag1 k I).trans ht⟩
 obtain⟨pa,pc,rfl⟩:=Zn Y.ownP;obtain⟨na,nc,rfl⟩:=Zn Y.ownN;obtain⟨_,e1,e2,e3,e4,e5,ef⟩:=Y.cells;have hlen:=OK.out.len;have hle:=OK.out.le;have PL:=Zsx d.K na nc d.s.nums n w1 (by omega) e2 (Zy.of_own Y.ownN);have H1:Hid (KAt w1 tag1 iK d (.slice pa d.s.pts.length pc) (.slice na d.s.nums.length nc) vT/\MAt w1 tag1 iM d.mp s'/\Ye w tag tag1/\Chg (fun k=>tag k=iM) w w1/\Y6 w1 tag1):=⟨Y,hM1,hag1,hch1,hlt1⟩;have HREM:Hid (Zs8 d.s n r s'):=hrem;have J:d.K<w1.heap.size:=Y.lt;clear HT Y hM1 hag1 hch1 hlt1 hv1 HA hrem c0;go_upto_region 3 with (go_at_call 99;refine PL.mono ?_;rintro e D ⟨rfl,rfl⟩);clear PL;by_cases hmem:n∈d.s.nums
 ·obtain⟨p0,p1⟩:=Zkp hmem;have hrs:r=0/\s'.pts=d.s.pts.eraseIdx (Yv d.s.nums n).toNat/\s'.nums=d.s.nums.eraseIdx (Yv d.s.nums n).toNat/\s'.ever=d.s.ever:=by
   rcases HREM.out with ⟨h,_⟩|⟨_,h⟩
   ·exact absurd hmem h
   ·exact h
  obtain⟨rfl,hsp,hsn,hse⟩:=hrs;obtain⟨i,hi⟩:∃ i:Nat,Yv d.s.nums n=(i:Int):=⟨(Yv d.s.nums n).toNat,by omega⟩;rw[hi,Int.toNat_natCast] at hsp hsn;rw[hi] at p0 p1 ⊢;have HS:Hid (s'.pts=d.s.pts.eraseIdx i/\s'.nums=d.s.nums.eraseIdx i/\s'.ever=d.s.ever):=⟨hsp,hsn,hse⟩;have hil:i<d.s.nums.length:=by omega
  have d0:decide ((i:Int)<0)=false:=decide_eq_false (by omega);have d0':¬ ((i:Int)<0):=by omega
  clear HREM hsp hsn hse hmem hi p0 p1;go_upto_block 0 with fail
  go_cut [7,8,9] (fun s7 s8 _ wx=>∃ a7 c7 a8 c8,s7= .slice a7 (d.s.pts.eraseIdx i).length c7/\s8= .slice a8 (d.s.nums.eraseIdx i).length c8/\wx.ownsRow D.heap.size 37 2 s7 (d.s.pts.eraseIdx i).length (Zg (d.s.pts.eraseIdx i))/\wx.ownsRow D.heap.size 3 1 s8 (d.s.nums.eraseIdx i).length ((d.s.nums.eraseIdx i).map (int i64))/\Below D.heap.size D wx)
  case first=>
   as_aux_lemma=>
   have HRA:Hid (Z0 D pa d.s.pts):=Z2.raw' H1.out.1.ownP;have HNA:Hid (Zy D na d.s.nums):=Zy.of_own H1.out.1.ownN;clear H1 HS;go_wp2_with fail
   go_loopw [7,8,9] (fun s7 s8 s9 wr=>∃ j:Nat,j<=d.s.pts.length/\s9=int i64 j/\wr.ownsRow D.heap.size 37 2 s7 (Zu d.s.pts i j).length (Zg (Zu d.s.pts i j))/\wr.ownsRow D.heap.size 3 1 s8 (Zu d.s.nums i j).length ((Zu d.s.nums i j).map (int i64))/\Below D.heap.size D wr) (fun _ _ i _=>d.s.pts.length-(intOf i).toNat)
   case atStart=>exact⟨0,Nat.zero_le _,rfl,World.ownsRow_nil _ _ _ _,World.ownsRow_nil _ _ _ _,Below.refl _ _⟩
   case round=>
    obtain⟨j,hj,rfl,aa,Z,hbr⟩:=hrel;have f1:=(hbr.cell (p:=⟨d.K,1,none⟩) J).trans e1;have f2:=(hbr.cell (p:=⟨d.K,2,none⟩) J).trans e2;have hKr:d.K<wr.heap.size:=L3 J hbr.size;by_cases hjl:j<d.s.pts.length
    ·have y0:(0:Int)<=(j:Int):=by omega
     have y1:(j:Int)<(d.s.pts.length:Int):=by omega
     have y1':(j:Int)<(d.s.nums.length:Int):=by omega
     have y2:IntKind.i64.wrap ((j:Int)+1)=(j:Int)+1:=Zd (by omega) (by omega);have HLP:Hid (Zu d.s.pts i (j+1)=if j=i then Zu d.s.pts i j else Zu d.s.pts i j ++ [d.s.pts[j]]):=Ztb _ _ _ hjl;have HLN:Hid (Zu d.s.nums i (j+1)=if j=i then Zu d.s.nums i j else Zu d.s.nums i j ++ [d.s.nums[j]]):=Ztb _ _ _ (by omega);have hcp:=Ztc d.s.pts i j;have hcn:=Ztc d.s.nums i j;by_cases hji:j=i
     ·subst hji;have HR:Hid (wr.ownsRow D.heap.size 37 2 u7 (Zu d.s.pts j (j+1)).length (Zg (Zu d.s.pts j (j+1)))/\wr.ownsRow D.heap.size 3 1 u8 (Zu d.s.nums j (j+1)).length ((Zu d.s.nums j (j+1)).map (int i64))):=by
       rw[HLP.out,HLN.out,if_pos rfl,if_pos rfl];exact⟨aa,Z⟩
      have q:((j:Int) != (j:Int))=false:=by simp
      clear HLP HLN aa Z;go_wp2
      go_roundw;case rel=>exact⟨j+1,by omega,by go_num,HR.out.1,HR.out.2,hbr⟩
      case measure=>simp[intOf];omega
     ·have q:((j:Int) != (i:Int))=true:=by simp;omega
      have hra:=HRA.out.below hbr;rcases hra with h|⟨b,off,rfl,hb,hp⟩
      ·rw[h] at hjl;simp at hjl
      obtain⟨x0,x1⟩:=hp j hjl;obtain⟨gN,rfl,xn⟩:=(HNA.out.below hbr) j (by omega);have eP:d.s.pts[j]=((d.s.pts.getD j (0,0)).1,(d.s.pts.getD j (0,0)).2):=by simp[hjl]
      have eN:d.s.nums[j]'(by omega)=d.s.nums.getD j 0:=by simp[show j<d.s.nums.length by omega]
      have HEP:Hid (Zu d.s.pts i (j+1)=Zu d.s.pts i j ++ [((d.s.pts.getD j (0,0)).1,(d.s.pts.getD j (0,0)).2)]):=by unfold Hid;rw[HLP.out,if_neg hji,<-eP]
      have HEN:Hid (Zu d.s.nums i (j+1)=Zu d.s.nums i j ++ [d.s.nums.getD j 0]):=by unfold Hid;rw[HLN.out,if_neg hji,<-eN]
      clear HLP HLN eP eN;generalize (d.s.pts.getD j (0,0)).1=px at *
      generalize (d.s.pts.getD j (0,0)).2=py at *
      generalize d.s.nums.getD j 0=nn at *
      obtain⟨a7,c7,rfl⟩:=Zn aa;obtain⟨a8,c8,rfl⟩:=Zn Z;have HOP:Hid (wr.ownsRow D.heap.size 37 2 (.slice a7 (Zu d.s.pts i j).length c7) (Zu d.s.pts i j).length (Zg (Zu d.s.pts i j))):=aa;have HON:Hid (wr.ownsRow D.heap.size 3 1 (.slice a8 (Zu d.s.nums i j).length c8) (Zu d.s.nums i j).length ((Zu d.s.nums i j).map (int i64))):=Z;have hsz:=hbr.size;have hn1:=Znr wr (int i64 px) (int i64 py) 37;have HN1:Hid (∀ j x,[Value.int .i64 px,int i64 py][j]? =some x->(wr.alloc (.cells #[int i64 px,int i64 py] 37)).cell? ((⟨wr.heap.size,0,none⟩:Addr).add j)=some x):=hn1;clear aa Z hn1 hp;go_wp2_with (at_builtin;refine Xv _ (by rfl) (.tmp 36) (.tmp 44) 41 (by rfl) D.heap.size 37 iP (.agg #[int i64 0,int i64 0]) 2 16 underlying41 hiP hzP hsP hbP rfl (by decide) _ _ _ (by rfl) (Yt HOP.out (Zb _ _)) ⟨wr.heap.size,0,none⟩ 1 1 [int i64 px,int i64 py] (by rfl) rfl HN1.out ?c2 (by decide) ?c3 ?c4 ?c5 (wr.heap.size+1) ?c6 ?_)
      case c2=>intro u hu;simp at hu;rcases hu with rfl|rfl <;> rfl
      case c3=>unfold maxLen;omega
      case c4=>omega
      case c5=>simp;omega
      case c6=>simp
      ·intro g2 cap2 w3 hown3 hat3 hlt3;have hb3:Below D.heap.size D w3:=by
        have k1:=hbr.trans ((Zb wr (.cells #[int i64 px,int i64 py] 37)).mono hbr.size);rcases hat3 with ⟨hv,hgr⟩|⟨hv,hgr⟩
        ·exact k1.grown hgr (by simp;omega) fun k I=>by cases I;exact (hown3.lt _ rfl).1
        ·exact k1.grown hgr (by simp;omega) fun k I=>by cases I
       have hoN3:w3.ownsRow D.heap.size 3 1 (.slice a8 (Zu d.s.nums i j).length c8) (Zu d.s.nums i j).length ((Zu d.s.nums i j).map (int i64)):=Z9 HON.out fun g hg=>by
        obtain⟨cur,hc⟩:=Yy HON.out hg;refine (Zbm hat3).2.2.2.2 g (Zh hc) fun e=>?_
        obtain⟨cur',hc'⟩:=Yy HOP.out e.symm;exact X7 hc hc' (by decide) rfl
       have HOP3:Hid (w3.ownsRow D.heap.size 37 2 (.slice (some ⟨g2,0,none⟩) ((Zu d.s.pts i j).length+1) cap2) ((Zu d.s.pts i j).length+1) (Zg (Zu d.s.pts i (j+1)))):=by
        unfold Hid;rw[HEP.out,Zte];exact hown3
       have HON3:Hid (w3.ownsRow D.heap.size 3 1 (.slice a8 (Zu d.s.nums i j).length c8) (Zu d.s.nums i j).length ((Zu d.s.nums i j).map (int i64))):=hoN3;have k2:w3.cell? ⟨d.K,2,none⟩=some (.slice (some ⟨gN,0,none⟩) d.s.nums.length nc):=(hb3.cell (p:=⟨d.K,2,none⟩) J).trans e2;have hgN:gN<D.heap.size:=by
        obtain⟨g',e',c'⟩:=HNA.out j (by omega);cases e';exact World.block_lt_of_cell? D _ c'
       have kn:w3.cell? ⟨gN,j,none⟩=some (int i64 nn):=by
        rw[hb3.cell (p:=⟨gN,j,none⟩) hgN,<-hbr.cell (p:=⟨gN,j,none⟩) hgN];exact xn
       have hsz3:=hb3.size;have hn3:=cell_one_new w3 (int i64 nn) 3;have HN3:Hid (∀ j x,[Value.int .i64 nn][j]? =some x->(w3.alloc (.cells #[int i64 nn] 3)).cell? ((⟨w3.heap.size,0,none⟩:Addr).add j)=some x):=hn3;have hK3:d.K<w3.heap.size:=L3 J hsz3;clear hown3 hat3 hoN3 HOP HON HEP hn3 HN1 x0 x1 xn f1 f2;go_wp2_with (at_builtin;refine Xv _ (by rfl) (.tmp 46) (.tmp 54) 26 (by rfl) D.heap.size 3 i0 (int i64 0) 1 8 underlying26 hi0 hz0 hs0 hb0 rfl (by decide) _ _ _ (by rfl) (Yt HON3.out (Zb _ _)) ⟨w3.heap.size,0,none⟩ 1 1 [int i64 nn] (by rfl) rfl HN3.out ?c2 (by decide) ?c3 ?c4 ?c5 (w3.heap.size+1) ?c6 ?_)
       case c2=>intro u hu;simp at hu;subst hu;rfl
       case c3=>unfold maxLen;omega
       case c4=>omega
       case c5=>simp;omega
       case c6=>simp
       ·intro g4 cap4 w5 hown5 hat5 hlt5;have O:Below D.heap.size D w5:=by
         have k1:=hb3.trans ((Zb w3 (.cells #[int i64 nn] 3)).mono hb3.size);rcases hat5 with ⟨hv,hgr⟩|⟨hv,hgr⟩
         ·exact k1.grown hgr (by simp;omega) fun k I=>by cases I;exact (hown5.lt _ rfl).1
         ·exact k1.grown hgr (by simp;omega) fun k I=>by cases I
        have hoP5:w5.ownsRow D.heap.size 37 2 (.slice (some ⟨g2,0,none⟩) ((Zu d.s.pts i j).length+1) cap2) ((Zu d.s.pts i j).length+1) (Zg (Zu d.s.pts i (j+1))):=Z9 HOP3.out fun g hg=>by
         obtain⟨cur,hc⟩:=Yy HOP3.out hg;refine (Zbm hat5).2.2.2.2 g (Zh hc) fun e=>?_
         obtain⟨cur',hc'⟩:=Yy HON3.out e.symm;exact X7 hc hc' (by decide) rfl
        have hlp:(Zu d.s.pts i (j+1)).length=(Zu d.s.pts i j).length+1:=by
         have:=HOP3.out.1;rw[Zbw] at this;omega
        have HR:Hid (w5.ownsRow D.heap.size 37 2 (.slice (some ⟨g2,0,none⟩) ((Zu d.s.pts i j).length+1) cap2) (Zu d.s.pts i (j+1)).length (Zg (Zu d.s.pts i (j+1)))/\w5.ownsRow D.heap.size 3 1 (.slice (some ⟨g4,0,none⟩) ((Zu d.s.nums i j).length+1) cap4) (Zu d.s.nums i (j+1)).length ((Zu d.s.nums i (j+1)).map (int i64))/\Below D.heap.size D w5):=by
         refine⟨by rw[hlp];exact hoP5,?_,O⟩;rw[HEN.out,List.length_append,List.map_append];exact hown5
        clear hown5 hat5 hoP5 hlp HOP3 HON3 HEN HN3 k2 kn;go_wp2
        go_roundw;case rel=>exact⟨j+1,by omega,by go_num,HR.out.1,HR.out.2.1,HR.out.2.2⟩
        case measure=>simp[intOf];omega
    ·have ej:j=d.s.pts.length:=by omega
     subst ej;have HR:Hid (wr.ownsRow D.heap.size 37 2 u7 (d.s.pts.eraseIdx i).length (Zg (d.s.pts.eraseIdx i))/\wr.ownsRow D.heap.size 3 1 u8 (d.s.nums.eraseIdx i).length ((d.s.nums.eraseIdx i).map (int i64))):=by
      rw[Ztd] at aa;rw[hlen,Ztd] at Z;exact⟨aa,Z⟩
     clear aa Z;go_wp2
     go_meet
     case rel=>
      obtain⟨a7,c7,e7⟩:=Zn HR.out.1;obtain⟨a8,c8,e8⟩:=Zn HR.out.2;exact⟨a7,c7,a8,c8,e7,e8,HR.out.1,HR.out.2,hbr⟩
  case rest=>
   as_aux_lemma=>
   obtain⟨a7,c7,a8,c8,rfl,rfl,aa,Z,O⟩:=hcut;have hBel:Chg (fun k=>tag1 k=iK) D wc:=Chg.of_below O;have q1:=(O.cell (p:=⟨d.K,1,none⟩) J).trans e1;have q2:=(O.cell (p:=⟨d.K,2,none⟩) J).trans e2;have q4:=(O.cell (p:=⟨d.K,4,none⟩) J).trans e4;have r1:wc.frozen? ⟨d.K,1,none⟩=false:=(O.frozen (p:=⟨d.K,1,none⟩) J).trans (ef 1);have r2:wc.frozen? ⟨d.K,2,none⟩=false:=(O.frozen (p:=⟨d.K,2,none⟩) J).trans (ef 2);have r4:wc.frozen? ⟨d.K,4,none⟩=false:=(O.frozen (p:=⟨d.K,4,none⟩) J).trans (ef 4);have hK5:d.K<wc.heap.size:=L3 J O.size;have hblk:wc.heap[d.K]? =some (.cells (Zft d (.slice pa d.s.pts.length pc) (.slice na d.s.nums.length nc) vT) 67 (0,0)):=by rw[O.block _ J];exact H1.out.1.blk
   have s1:=heap_setCell_same wc d.K 1 _ _ (.slice a7 (d.s.pts.eraseIdx i).length c7) hblk;have s2:=heap_setCell_same _ d.K 2 _ _ (.slice a8 (d.s.nums.eraseIdx i).length c8) s1;have s4:=heap_setCell_same _ d.K 4 _ _ (.bool false) s2;have HFIN:Hid (Za3 MAt w (((wc.setCell ⟨d.K,1,none⟩ (.slice a7 (d.s.pts.eraseIdx i).length c7)).setCell ⟨d.K,2,none⟩ (.slice a8 (d.s.nums.eraseIdx i).length c8)).setCell ⟨d.K,4,none⟩ (.bool false)) tag iK iM d):=by
    obtain⟨Y,hM1,hag1,hch1,hlt1⟩:=H1.out;obtain⟨t1,t2,t3⟩:=HS.out;refine Zta L (d':=⟨d.K,d.mp,s',false,d.tl⟩) (vP':=.slice a7 (d.s.pts.eraseIdx i).length c7) (vN':=.slice a8 (d.s.nums.eraseIdx i).length c8) (w5:=wc) h1 h2 h3 Y hM1 hag1 hlt1 hch1 hBel ?_ ?_ (Yt Y.ownT O) (fun g hg=>.inr (aa.lt g hg).1) (fun g hg=>.inr (Z.lt g hg).1) ?_ ⟨_,hblk⟩ ?_ (by simp) rfl rfl rfl (by rw[t3];omega)
    ·rw[t1];exact Zb5 aa (Nat.zero_le _)
    ·rw[t2];exact Zb5 Z (Nat.zero_le _)
    ·rw[s4];unfold Zft;rw[t3];rfl
    ·exact⟨rfl,rfl,rfl,by simp,fun k _ I=>by rw[Below.heap_setCell _ _ _ _ I,Below.heap_setCell _ _ _ _ I,Below.heap_setCell _ _ _ _ I]⟩
   clear hBel hblk s1 s2 s4 aa Z O H1 HS;go_wp2
   go_ret;exact⟨rfl,HFIN.out⟩
 ·have hp:=Znm hmem;rw[hp];have hrs:r=4/\s'=d.s:=by
   rcases HREM.out with ⟨_,h⟩|⟨h,_⟩
   ·exact h
   ·exact absurd h hmem
  obtain⟨rfl,rfl⟩:=hrs;have HFIN:Hid (Za3 MAt w D tag iK iM d):=by
   obtain⟨Y,hM1,hag1,hch1,hlt1⟩:=H1.out;exact⟨tag1,d,⟨⟨_,_,_,Y⟩,hM1⟩,rfl,by omega,hag1,hlt1,hch1.mono fun k _ h=>.inr h⟩
  clear hp hmem HREM H1;go_wp2_with (go_at_call 39;refine (Zcc _ _).mono ?_;rintro e w7 ⟨rfl,rfl⟩)
  go_ret;exact⟨rfl,HFIN.out⟩
structure KRow (w:World)(K mp:Nat)(pts:List Pt)(nums:List Int)(ever:Int)(told:Bool)(tl:List T3)(vP vN vT:Value):Prop where
 blk:w.heap[K]? =some (.cells #[.pointer (some ⟨mp,0,none⟩),vP,vN,int i64 ever,.bool told,vT] 67 (0,0))
 ownP:w.ownsRow 0 37 2 vP pts.length (Zg pts)
 ownN:w.ownsRow 0 3 1 vN nums.length (nums.map (int i64))
 ownT:w.ownsRow 0 53 3 vT tl.length (Zj tl)
section
variable {w w' w3:World} {K mp g2 cap2:Nat} {pts:List Pt} {nums:List Int} {ever:Int} {told:Bool} {tl:List T3} {vP vN vT:Value} {o:Obj}
theorem KRow.cells (h:KRow w K mp pts nums ever told tl vP vN vT):w.cell? ⟨K,0,none⟩=some (.pointer (some ⟨mp,0,none⟩))/\w.cell? ⟨K,1,none⟩=some vP/\w.cell? ⟨K,2,none⟩=some vN/\w.cell? ⟨K,3,none⟩=some (int i64 ever)/\w.cell? ⟨K,4,none⟩=some (.bool told)/\∀ j,w.frozen? ⟨K,j,none⟩=false:=by
 have e:=h.blk;simp[World.cell?,World.frozen?,e]
theorem KRow.putP (h:KRow w K mp pts nums ever told tl vP vN vT) {p:Pt} (hown:w3.ownsRow 0 37 2 (.slice (some ⟨g2,0,none⟩) (pts.length+1) cap2) (pts.length+1) (Zg pts ++ [int i64 p.1,int i64 p.2]))
  (hat:(vP.ownBlock=some g2/\(w.alloc o).grownBy w3 (some g2))\/(g2=w.heap.size+1/\(w.alloc o).grownBy w3 none)) :
  KRow (w3.setCell ⟨K,1,none⟩ (.slice (some ⟨g2,0,none⟩) (pts.length+1) cap2)) K mp (pts ++ [p]) nums ever told tl (.slice (some ⟨g2,0,none⟩) (pts.length+1) cap2) vN vT/\
  ∀ k,k<w.heap.size->k≠K->some k≠vP.ownBlock->(w3.setCell ⟨K,1,none⟩ (.slice (some ⟨g2,0,none⟩) (pts.length+1) cap2)).heap[k]? =w.heap[k]? :=by
 obtain⟨_,_,_,e4,e5⟩:=Zbm hat;have Z:∀ {k cs t},w.heap[k]? =some (.cells cs t (0,0))->t≠37->some k≠vP.ownBlock:=fun J ht e=>by
  obtain⟨Y,D⟩:=Yy h.ownP e.symm;exact X7 J D ht rfl
 have hb3:w3.heap[K]? =some (.cells #[.pointer (some ⟨mp,0,none⟩),vP,vN,int i64 ever,.bool told,vT] 67 (0,0)):=by rw[e5 K (Zh h.blk) (Z h.blk (by decide))];exact h.blk
 have s1:=heap_setCell_same w3 K 1 _ _ (.slice (some ⟨g2,0,none⟩) (pts.length+1) cap2) hb3;have O:∀ k,k<w.heap.size->k≠K->some k≠vP.ownBlock->(w3.setCell ⟨K,1,none⟩ (.slice (some ⟨g2,0,none⟩) (pts.length+1) cap2)).heap[k]? =w.heap[k]? :=fun k J h1 h2=>by rw[Below.heap_setCell _ _ _ _ h1];exact e5 k J h2
 have ne:∀ {k cs t},w.heap[k]? =some (.cells cs t (0,0))->t≠67->k≠K:=fun J ht=>X7 J h.blk ht
 refine⟨⟨by rw[s1];rfl,?_,Z9 h.ownN fun g I=>?_,Z9 h.ownT fun g I=>?_⟩,O⟩
 ·obtain⟨Y,D⟩:=Yy hown (g:=g2) rfl;have:=Z9 (w':=w3.setCell ⟨K,1,none⟩ (.slice (some ⟨g2,0,none⟩) (pts.length+1) cap2)) hown fun g I=>by
   cases I;exact Below.heap_setCell _ _ _ _ (X7 D hb3 (by decide))
  rw[List.length_append,Zte];exact this
 ·obtain⟨Y,D⟩:=Yy h.ownN I;exact O g (Zh D) (ne D (by decide)) (Z D (by decide))
 ·obtain⟨Y,D⟩:=Yy h.ownT I;exact O g (Zh D) (ne D (by decide)) (Z D (by decide))
theorem KRow.putN (h:KRow w K mp pts nums ever told tl vP vN vT) {m:Int} (hown:w3.ownsRow 0 3 1 (.slice (some ⟨g2,0,none⟩) (nums.length+1) cap2) (nums.length+1) (nums.map (int i64) ++ [int i64 m]))
  (hat:(vN.ownBlock=some g2/\(w.alloc o).grownBy w3 (some g2))\/(g2=w.heap.size+1/\(w.alloc o).grownBy w3 none)) :
  KRow (w3.setCell ⟨K,2,none⟩ (.slice (some ⟨g2,0,none⟩) (nums.length+1) cap2)) K mp pts (nums ++ [m]) ever told tl vP (.slice (some ⟨g2,0,none⟩) (nums.length+1) cap2) vT/\
  ∀ k,k<w.heap.size->k≠K->some k≠vN.ownBlock->(w3.setCell ⟨K,2,none⟩ (.slice (some ⟨g2,0,none⟩) (nums.length+1) cap2)).heap[k]? =w.heap[k]? :=by
 obtain⟨_,_,_,e4,e5⟩:=Zbm hat;have Z:∀ {k cs t},w.heap[k]? =some (.cells cs t (0,0))->t≠3->some k≠vN.ownBlock:=fun J ht e=>by
  obtain⟨Y,D⟩:=Yy h.ownN e.symm;exact X7 J D ht rfl
 have hb3:w3.heap[K]? =some (.cells #[.pointer (some ⟨mp,0,none⟩),vP,vN,int i64 ever,.bool told,vT] 67 (0,0)):=by rw[e5 K (Zh h.blk) (Z h.blk (by decide))];exact h.blk
 have s1:=heap_setCell_same w3 K 2 _ _ (.slice (some ⟨g2,0,none⟩) (nums.length+1) cap2) hb3;have O:∀ k,k<w.heap.size->k≠K->some k≠vN.ownBlock->(w3.setCell ⟨K,2,none⟩ (.slice (some ⟨g2,0,none⟩) (nums.length+1) cap2)).heap[k]? =w.heap[k]? :=fun k J h1 h2=>by rw[Below.heap_setCell _ _ _ _ h1];exact e5 k J h2
 have ne:∀ {k cs t},w.heap[k]? =some (.cells cs t (0,0))->t≠67->k≠K:=fun J ht=>X7 J h.blk ht
 refine⟨⟨by rw[s1];rfl,Z9 h.ownP fun g I=>?_,?_,Z9 h.ownT fun g I=>?_⟩,O⟩
 ·obtain⟨Y,D⟩:=Yy h.ownP I;exact O g (Zh D) (ne D (by decide)) (Z D (by decide))
 ·obtain⟨Y,D⟩:=Yy hown (g:=g2) rfl;have:=Z9 (w':=w3.setCell ⟨K,2,none⟩ (.slice (some ⟨g2,0,none⟩) (nums.length+1) cap2)) hown fun g I=>by
   cases I;exact Below.heap_setCell _ _ _ _ (X7 D hb3 (by decide))
  rw[List.length_append,List.map_append];exact this
 ·obtain⟨Y,D⟩:=Yy h.ownT I;exact O g (Zh D) (ne D (by decide)) (Z D (by decide))
theorem KRow.putE (h:KRow w K mp pts nums ever told tl vP vN vT)(I:Int):KRow ((w.setCell ⟨K,3,none⟩ (int i64 I)).setCell ⟨K,4,none⟩ (.bool false)) K mp pts nums I false tl vP vN vT/\
  ∀ k,k≠K->((w.setCell ⟨K,3,none⟩ (int i64 I)).setCell ⟨K,4,none⟩ (.bool false)).heap[k]? =w.heap[k]? :=by
 have J:∀ k,k≠K->((w.setCell ⟨K,3,none⟩ (int i64 I)).setCell ⟨K,4,none⟩ (.bool false)).heap[k]? =w.heap[k]? :=fun k O=>by rw[Below.heap_setCell _ _ _ _ O,Below.heap_setCell _ _ _ _ O]
 have s1:=heap_setCell_same w K 3 _ _ (int i64 I) h.blk;have s2:=heap_setCell_same _ K 4 _ _ (.bool false) s1;have ne:∀ {k cs t},w.heap[k]? =some (.cells cs t (0,0))->t≠67->k≠K:=fun O Z=>X7 O h.blk Z
 refine⟨⟨by rw[s2];rfl,Z9 h.ownP fun g D=>?_,Z9 h.ownN fun g D=>?_,Z9 h.ownT fun g D=>?_⟩,J⟩
 ·obtain⟨Y,e⟩:=Yy h.ownP D;exact J g (ne e (by decide))
 ·obtain⟨Y,e⟩:=Yy h.ownN D;exact J g (ne e (by decide))
 ·obtain⟨Y,e⟩:=Yy h.ownT D;exact J g (ne e (by decide))
end
theorem KAt.row {w:World}{tag:Nat->Nat}{i:Nat}{d:KD}{vP vN vT:Value}(h:KAt w tag i d vP vN vT):KRow w d.K d.mp d.s.pts d.s.nums d.s.ever d.told d.tl vP vN vT:=⟨h.blk,h.ownP,h.ownN,h.ownT⟩
def Zb1 (l:List Pt)(p:Pt)(k:Nat):Bool:=(l.take k).any fun q=>q.1 == p.1 && q.2 == p.2
theorem Z5b (l:List Pt)(p:Pt){k:Nat}(D:k<l.length):Zb1 l p (k+1)=(Zb1 l p k || ((l.getD k (0,0)).1 == p.1 && (l.getD k (0,0)).2 == p.2)):=by
 unfold Zb1;have e:l.getD k (0,0)=l[k]:=by simp[D]
 rw[List.take_succ_eq_append_getElem D,List.any_append,e];simp
theorem Z5c (l:List Pt)(p:Pt):Zb1 l p l.length=true↔p∈l:=by
 unfold Zb1;rw[List.take_length,List.any_eq_true];constructor
 ·rintro⟨q,e,h⟩;simp only[Bool.and_eq_true,beq_iff_eq] at h;have:q=p:=Prod.ext h.1 h.2;rw[<-this];exact e
 ·intro h;exact⟨p,h,by simp⟩
theorem Zn0 (w:World)(K:Nat):(Instr.fieldAt 67 (.pointer (some ⟨K,0,none⟩)) 1).run prog w= .ok (.pointer (some ⟨K,1,none⟩)) w:=by go_simp
theorem Ztg (w:World)(K:Nat):(Instr.fieldAt 67 (.pointer (some ⟨K,0,none⟩)) 2).run prog w= .ok (.pointer (some ⟨K,2,none⟩)) w:=by go_simp
theorem Z5d (w:World)(K:Nat):(Instr.fieldAt 67 (.pointer (some ⟨K,0,none⟩)) 3).run prog w= .ok (.pointer (some ⟨K,3,none⟩)) w:=by go_simp
end Go.Proofs.YtgpapegpdfonpaaGreatDoor
