/- Part. -/
import Derived.Test.YtgpapegpdfonpaaGreatDoorTextEL
import Derived.Test.YtgpapegpdfonpaaGreatDoorRefDH
import Derived.Test.YtgpapegpdfonpaaGreatDoorPtsUV
set_option linter.unusedVariables false
set_option linter.unusedSimpArgs false
set_option maxHeartbeats 16000000
set_option maxRecDepth 100000
namespace Go.Proofs.YtgpapegpdfonpaaGreatDoor
open Go.RowKit Go.Proofs.Tryz
open Go.Value(int)
open Go.IntKind(i64)
attribute [local go_sem ↓] Go.wp_at_zero Go.wp_at_succ
theorem Zyw (n:Int):(n.tdiv 10).natAbs=n.natAbs / 10/\(n.tmod 10).natAbs=n.natAbs % 10/\(0<=n->0<=n.tmod 10)/\(n<=0->n.tmod 10<=0):=by
 refine⟨by rw[Int.natAbs_tdiv];rfl,by rw[Int.natAbs_tmod];rfl,fun h=>Int.tmod_nonneg 10 h,fun h=>?_⟩;have:=Int.tmod_nonneg 10 (show 0<= -n by omega);rw[Int.neg_tmod] at this;omega
theorem Zl8:∀ d:Nat,d<10->(⟨#[48,49,50,51,52,53,54,55,56,57]⟩:ByteArray).extract d (d+1)=⟨#[UInt8.ofNat (48+d)]⟩:=by
 intro d e;match d,e with
 | 0,_=>rfl
 | 1,_=>rfl
 | 2,_=>rfl
 | 3,_=>rfl
 | 4,_=>rfl
 | 5,_=>rfl
 | 6,_=>rfl
 | 7,_=>rfl
 | 8,_=>rfl
 | 9,_=>rfl
theorem Zqz (a b:List UInt8):(⟨a.toArray⟩:ByteArray) ++ ⟨b.toArray⟩=⟨(a ++ b).toArray⟩:=by
 apply ByteArray.ext;simp
theorem Zyx {a b:ByteArray}(h:a=b):Ending.returned (.string a)= .returned (.string b):=by rw[h]
theorem Zq0 {P:Program}(W:World)(a b:List UInt8)(h:a.length+b.length<=9223372036854775807):(Op.stringOp .add ⟨a.toArray⟩ ⟨b.toArray⟩).run P W= .ok (.string ⟨(a ++ b).toArray⟩) W:=by
 rw[run_string_add_sum W _ _ (by rw[Zem,Zem];exact h),Zqz]
theorem Zgf (n:Int)(hn:J64 n)(w:World):Calls prog 95 #[int i64 n] w fun e w'=>e= .returned (bs (Lib.itoa n))/\∃ m,w'=w.drewN m:=by
 obtain⟨a,ea⟩:∃ a,n.natAbs=a:=⟨_,rfl⟩;induction a using Nat.strongRecOn generalizing n w with
 | ind a ih=>
 by_cases J: -10<n/\n<0
 ·obtain⟨k,rfl⟩:∃ k:Nat,n= -(k:Int):=⟨n.natAbs,by omega⟩;have O:k<10:=by omega
  have D:=Lib.hid (Zyo J.2 J.1);rw[show (-(k:Int)).natAbs=k by omega] at D;have x0: -10 < -(k:Int):=by omega
  have x1: -(k:Int)<0:=by omega
  have x2:IntKind.i64.wrap (- -(k:Int))=(k:Int):=by rw[Int.neg_neg];exact Zd (by omega) (by omega)
  have x3:IntKind.i64.wrap ((k:Int)+1)=(k:Int)+1:=Zd (by omega) (by omega);have c1:(0:Int)<=(k:Int):=by omega
  have c3:(0:Int)<=(k:Int)+1:=by omega
  have c2:(k:Int)<=(k:Int)+1:=by omega
  have c4:(k:Int)+1<=10:=by omega
  have e1:=Zl8 k O;generalize UInt8.ofNat (48+k)=c at *
  clear J hn ih ea O;go_enter func95,ntmps95;go_wp2
  go_ret;exact⟨by rw[D.out];exact Zyx (Zqz [45] [c]),0,rfl⟩
 ·by_cases Y:0<=n/\n<10
  ·obtain⟨k,rfl⟩:∃ k:Nat,n=(k:Int):=⟨n.natAbs,by omega⟩;have O:k<10:=by omega
   have D:=Lib.hid (Zyn Y.1 Y.2);rw[show (k:Int).toNat=k by omega] at D;have x0: -10<(k:Int):=by omega
   have x1:¬ (k:Int)<0:=by omega
   have x3:IntKind.i64.wrap ((k:Int)+1)=(k:Int)+1:=Zd (by omega) (by omega);have c1:(0:Int)<=(k:Int):=by omega
   have c0:(k:Int)<10:=by omega
   have c3:(0:Int)<=(k:Int)+1:=by omega
   have c2:(k:Int)<=(k:Int)+1:=by omega
   have c4:(k:Int)+1<=10:=by omega
   have e1:=Zl8 k O;generalize UInt8.ofNat (48+k)=c at *
   clear J hn ih ea O;go_enter func95,ntmps95;go_wp2
   go_ret;exact⟨by rw[D.out];rfl,0,rfl⟩
  ·have D:=Lib.hid (Zyp (n:=n) (by omega));obtain⟨td,tm,tp,tn⟩:=Zyw n;have I:J64 (n.tdiv 10):=by unfold J64 at *;omega
   have IH:Hid (∀ W,Calls prog 95 #[int i64 (n.tdiv 10)] W fun e w'=>e= .returned (.string ⟨(Lib.itoa (n.tdiv 10)).toArray⟩)/\∃ m,w'=W.drewN m):=fun W=>ih (n.tdiv 10).natAbs (by omega) (n.tdiv 10) I W rfl
   have Z:(n.tmod 10).natAbs<10:=by omega
   obtain⟨k,ek⟩:∃ k,(n.tmod 10).natAbs=k:=⟨_,rfl⟩;rw[ek] at D Z;have e1:=Zl8 k Z;generalize UInt8.ofNat (48+k)=c at *
   have x3:IntKind.i64.wrap ((k:Int)+1)=(k:Int)+1:=Zd (by omega) (by omega);have x2:IntKind.i64.wrap (- -(k:Int))=(k:Int):=by rw[Int.neg_neg];exact Zd (by omega) (by omega)
   have c1:(0:Int)<=(k:Int):=by omega
   have c3:(0:Int)<=(k:Int)+1:=by omega
   have c2:(k:Int)<=(k:Int)+1:=by omega
   have c4:(k:Int)+1<=10:=by omega
   have w10:IntKind.i64.wrap (n.tdiv 10)=n.tdiv 10:=Zd I.1 I.2;have key:(n.tmod 10= -(k:Int)/\ -(k:Int)<0)\/(n.tmod 10=(k:Int)/\¬ (k:Int)<0):=by omega
   have wm:IntKind.i64.wrap (n.tmod 10)=n.tmod 10:=Zd (by omega) (by omega);obtain⟨nd,hq⟩:∃ nd,n.tdiv 10=nd:=⟨_,rfl⟩;have hl:=Zd3 I;have hadd:∀ W,(Op.stringOp .add ⟨(Lib.itoa (n.tdiv 10)).toArray⟩ ⟨#[c]⟩).run prog W= .ok (.string ⟨(Lib.itoa (n.tdiv 10) ++ [c]).toArray⟩) W:=fun W=>Zq0 W _ [c] (by simp;omega)
   generalize Lib.itoa (n.tdiv 10)=s at *
   rw[hq] at IH w10;by_cases h0:n<0
   ·have y1:¬ -10<n:=by omega
    have y2:¬ 0<=n:=by omega
    clear J Y hn ih ea I td tm tp tn ek Z hl;rcases key with ⟨z0,z1⟩|⟨z0,z1⟩ <;> rw[z0] at wm
    ·go_enter func95,ntmps95;go_wp2_with fail
     go_quiet ((go_at_call 95;refine Calls.quiet_of (IH.out _)));go_wp2
     go_ret;exact⟨by rw[D.out];rfl,_,rfl⟩
    ·go_enter func95,ntmps95;go_wp2_with fail
     go_quiet ((go_at_call 95;refine Calls.quiet_of (IH.out _)));go_wp2
     go_ret;exact⟨by rw[D.out];rfl,_,rfl⟩
   ·have y1: -10<n:=by omega
    have y2:0<=n:=by omega
    have y3:¬ n<10:=by omega
    have z0:n.tmod 10=(k:Int):=by omega
    have z1:¬ (k:Int)<0:=by omega
    rw[z0] at wm;clear J Y hn ih ea I td tm tp tn ek Z hl key;go_enter func95,ntmps95;go_wp2_with fail
    go_quiet ((go_at_call 95;refine Calls.quiet_of (IH.out _)));go_wp2
    go_ret;exact⟨by rw[D.out];rfl,_,rfl⟩
def Zb8 (s:List UInt8)(i:Nat):Int:=if Xz s then Zcx true 0 ((s.take i).drop 1) else Zcx false 0 (s.take i)
theorem Zq1 (s:List UInt8):Zb8 s 0=0:=by unfold Zb8;split <;> simp[Zcx]
theorem Zyy (s:List UInt8):Zb8 s s.length=Zbn s:=by
 unfold Zb8 Zbn;simp
theorem Zyz {s:List UInt8}(h:Xz s=true):Zb8 s 1=0:=by
 unfold Zb8;rw[h];cases s <;> simp[Zcx]
theorem Zq2 {s:List UInt8}{i:Nat}{c:UInt8}(h:s[i]? =some c):s.take (i+1)=s.take i ++ [c]:=by
 rw[List.take_add_one,h];rfl
theorem Zy0 {s:List UInt8}{i:Nat}{c:UInt8}(h:s[i]? =some c)(I:¬ (i=0/\Xz s=true)):Zb8 s (i+1)=stepV (Xz s) (Zb8 s i) c:=by
 have hi:i<s.length:=(List.getElem?_eq_some_iff.1 h).1;unfold Zb8;cases D:Xz s with
 | false=>
  simp only[Bool.false_eq_true,if_false];rw[Zq2 h];unfold Zcx;rw[List.foldl_append];rfl
 | true=>
  simp only[if_true];have J:1<=(s.take i).length:=by
   rw[List.length_take];have:¬ i=0:=fun e=>I ⟨e,D⟩
   omega
  rw[Zq2 h,List.drop_append_of_le_length J];unfold Zcx;rw[List.foldl_append];rfl
theorem Zl9 (c:UInt8)(r:List UInt8):Xz (c :: r)=(c == 45):=by
 unfold Xz;split
 ·rename_i h;cases h;rfl
 ·rename_i h;symm;rw[beq_eq_false_iff_ne];intro e;subst e;exact h r rfl
theorem Zy1 (m:Bool)(n:Int)(c:UInt8):stepV m n c=wrap64 (wrap64 (n*10)+(if m then -(((c.toNat:Int)-48) % 256) else ((c.toNat:Int)-48) % 256)):=by
 have e:Zge c=((c.toNat:Int)-48) % 256:=by
  unfold Zge;rw[UInt8.toNat_sub];have:=c.toNat_lt;simp;omega
 unfold stepV;rw[e];have:=(Zyr n (if m then -(((c.toNat:Int)-48) % 256) else ((c.toNat:Int)-48) % 256)).symm;unfold Zdn at this ⊢;unfold wrap64;exact this
theorem Zma {s:List UInt8}{i:Nat}{c:UInt8}(h:s[i]? =some c):∀ hi:i<(⟨s.toArray⟩:ByteArray).size,(⟨s.toArray⟩:ByteArray)[i]'hi=c:=by
 intro hi;have e:=(List.getElem?_eq_some_iff.1 h).2;show s.toArray[i]'_=c
 simpa using e
theorem Zy2 (s:List UInt8)(hs:s.length<=1000000)(w:World):Calls prog 146 #[bs s] w fun e w'=>e= .returned (.tuple #[int i64 (Zbn s),.bool (Lib.itoa (Zbn s) == s)])/\∃ m,w'=w.drewN m:=by
 by_cases I:s=[]
 ·subst I;have O:=Lib.hid (fun W=>Zgf 0 ⟨by omega,by omega⟩ W);go_enter func146,ntmps146;go_wp2
  go_loopw [4,6,7] (fun s4 s6 _ wr=>s6=int i64 0/\s4=int i64 0/\wr=w) (fun _ s6 _ _=>0)
  case atStart=>exact⟨rfl,rfl,rfl⟩
  case round=>
   obtain⟨rfl,rfl,rfl⟩:=hrel;go_wp2_with (go_at_call 95;refine (O.out _).mono ?_;rintro e w1 ⟨rfl,m,rfl⟩)
   go_ret2;exact⟨by rw[show Zbn []=0 from rfl,show (Lib.itoa 0 == [])=(Lib.itoa 0).isEmpty from by cases Lib.itoa 0 <;> rfl];rfl,m,rfl⟩
 have O:=Lib.hid (fun W=>Zgf (Zbn s) (Zqu s) W);obtain⟨c0,hc0⟩:∃ c,s[0]? =some c:=by
  cases s with
  | nil=>exact absurd rfl I
  | cons c r=>exact⟨c,rfl⟩
 obtain⟨m,em⟩:∃ m,Xz s=m:=⟨_,rfl⟩;have hcm:((c0.toNat:Int) == 45)=m:=by
  cases s with
  | nil=>exact absurd rfl I
  | cons c r=>
   cases hc0;rw[<-em,Zl9,Bool.eq_iff_iff];simp only[beq_iff_eq];constructor
   ·intro h;apply UInt8.toNat_inj.1;show c0.toNat=45;omega
   ·rintro rfl;rfl
 have HE:=Lib.hid (Zyy s);have HM:=Lib.hid em;have hsz:(⟨s.toArray⟩:ByteArray).size=s.length:=Zem s;have hg0:=Zma hc0;have hnb:¬ (⟨s.toArray⟩:ByteArray).toList=[]:=by simpa using I
 have hnE:(⟨s.toArray⟩:ByteArray).toList.isEmpty=false:=by cases s with|nil=>exact absurd rfl I|cons c r=>simp
 have HSQ:Hid ((⟨s.toArray⟩:ByteArray).toList=s):=by unfold Hid;simp
 have HG:Hid (∀ {i c},s[i]? =some c->∀ hi:i<(⟨s.toArray⟩:ByteArray).size,(⟨s.toArray⟩:ByteArray)[i]'hi=c):=Zma;have hpos:(0:Int)<(s.length:Int):=by
  cases s with
  | nil=>exact absurd rfl I
  | cons c r=>simp
 clear em hc0 I;show Calls _ _ #[.string ⟨s.toArray⟩] _ _
 generalize (⟨s.toArray⟩:ByteArray)=S at *
 go_enter func146,ntmps146;go_upto_region 3 with fail;go_wp2_with fail
 go_loopw [4,6,7] (fun s4 s6 _ wr=>∃ i:Nat,i<=s.length/\s6=int i64 i/\s4=int i64 (Zb8 s i)/\wr=w) (fun _ s6 _ _=>s.length-(intOf s6).toNat)
 case atStart=>exact⟨0,Nat.zero_le _,rfl,by rw[Zq1],rfl⟩
 case round=>
  obtain⟨i,hi,rfl,rfl,rfl⟩:=hrel;clear hg0;by_cases hlt:i<s.length
  ·have y0:(0:Int)<=(i:Int):=by omega
   have y1:(i:Int)<(s.length:Int):=by omega
   have y2:IntKind.i64.wrap ((i:Int)+1)=(i:Int)+1:=Zd (by omega) (by omega);obtain⟨c,Z⟩:∃ c,s[i]? =some c:=⟨s[i],by simp[hlt]⟩;have hg:=HG.out Z;have Y:=Lib.hid (fun J=>(Zy0 (s:=s) Z J).trans (Zy1 _ _ c));have HO:=Lib.hid (fun h=>(Zyz (s:=s) h).trans (Zq1 s).symm);rw[HM.out] at Y HO;have hi1:i+1<=s.length:=hlt;cases m with
   | true=>
    by_cases J:i=0
    ·subst J;have D:Hid (Zb8 s 1=Zb8 s 0):=HO.out rfl;clear hcm Z O Y HO hg;go_wp2
     go_roundw;case rel=>exact⟨1,hi1,by go_num,by rw[D.out],trivial⟩
     case measure=>simp[intOf];omega
    ·have y3:¬ (i:Int)=0:=by omega
     have D:Hid (Zb8 s (i+1)=_):=Y.out fun h=>J h.1
     simp only[if_true] at D;clear hcm Z O Y HO;go_wp2
     go_roundw;case rel=>exact⟨i+1,hi1,by go_num,by rw[D.out],trivial⟩
     case measure=>simp[intOf];omega
   | false=>
    have D:Hid (Zb8 s (i+1)=_):=Y.out fun h=>by cases h.2
    simp only[Bool.false_eq_true,if_false] at D;clear hcm Z O Y HO;by_cases J:i=0
    ·subst J;go_wp2
     go_roundw;case rel=>exact⟨1,hi1,by go_num,by rw[D.out],trivial⟩
     case measure=>simp[intOf];omega
    ·have y3:¬ (i:Int)=0:=by omega
     go_wp2
     go_roundw;case rel=>exact⟨i+1,hi1,by go_num,by rw[D.out],trivial⟩
     case measure=>simp[intOf];omega
  ·have y1:¬ (i:Int)<(s.length:Int):=by omega
   have e:i=s.length:=by omega
   subst e;rw[HE.out];go_wp2_with (go_at_call 95;refine (O.out _).mono ?_;rintro e w1 ⟨rfl,m,rfl⟩)
   go_ret2;refine⟨?_,m,rfl⟩;rw[HSQ.out];rfl
def TAt (w:World)(R:Nat)(s:List UInt8)(n:Int):Prop:=w.heap[R]? =some (.cells #[bs s,int i64 n] 148 (0,0))
theorem TAt.cells {w:World}{R:Nat}{s:List UInt8}{n:Int}(h:TAt w R s n):w.cell? ⟨R,0,none⟩=some (bs s)/\w.cell? ⟨R,1,none⟩=some (int i64 n)/\w.frozen? ⟨R,0,none⟩=false/\w.frozen? ⟨R,1,none⟩=false:=by
 unfold TAt at h;refine⟨?_,?_,?_,?_⟩ <;> simp[World.cell?,World.frozen?,h]
def Zjp (s:List UInt8)(i:Nat):Prop:=i<s.length/\(∃ c,s[i]? =some c/\Zb7 c)/\i<20
theorem Zy3 {s:List UInt8}{i:Nat}(h:ScanAt s i)(I:Zjp s i):ScanAt s (i+1):=by
 obtain⟨Z,⟨c,J,Y⟩,_⟩:=I;refine⟨by have:=h.lo;omega,by omega,fun j d O aa D=>?_⟩;by_cases e:j=i
 ·subst e;rw[J] at D;cases D;exact Y
 ·exact h.digs j d O (by omega) D
theorem Zy4 (s:List UInt8):ScanAt s (if Xz s then 1 else 0):=by
 refine⟨Nat.le_refl _,?_,fun j d e I D=>by omega⟩;split
 ·rename_i h;cases s with
  | nil=>cases h
  | cons c r=>simp
 ·omega
theorem Zy5 {s:List UInt8}{i:Nat}(e:¬ Zjp s i)(h:ScanAt s i):i=s.length\/(∀ c,s[i]? =some c->¬ Zb7 c)\/20<=i:=by
 by_cases J:i<s.length
 ·by_cases D:i<20
  ·right;left;intro c O I;exact e ⟨J,⟨c,O,I⟩,D⟩
  ·right;right;omega
 ·left;have:=h.hi;omega
def Zy6 (w w':World)(R:Nat)(r:Option (Int×List UInt8))(e:Ending):Prop:=match r with
 | none=>e= .returned (.tuple #[int i64 0,.bool false])/\∃ m,w'=w.drewN m
 | some q=>e= .returned (.tuple #[int i64 q.1,.bool true])/\∃ m,w'=(w.drewN m).setCell ⟨R,0,none⟩ (bs q.2)
theorem Zy7 {s:List UInt8}(i j:Nat):(⟨s.toArray⟩:ByteArray).extract i j=⟨((s.take j).drop i).toArray⟩:=by
 apply ByteArray.ext;simp[List.drop_take]
theorem Zy8 (R:Nat)(s:List UInt8)(ln lo hi:Int)(e:UInt8)(he:e=10\/e=32)(w:World)(hT:TAt w R s ln)(hs:s.length<=1000000000) :
  Calls prog 124 #[.pointer (some ⟨R,0,none⟩),int i64 lo,int i64 hi,.int .u8 (e.toNat:Int)] w fun x w'=>Zy6 w w' R (Zaq lo hi e s) x:=by
 obtain⟨q0,_,qf,_⟩:=hT.cells;have hsz:(⟨s.toArray⟩:ByteArray).size=s.length:=Zem s;have HG:Hid (∀ {i c},s[i]? =some c->∀ hi:i<(⟨s.toArray⟩:ByteArray).size,(⟨s.toArray⟩:ByteArray)[i]'hi=c):=Zma;have HX:Hid (∀ i j,(⟨s.toArray⟩:ByteArray).extract i j=⟨((s.take j).drop i).toArray⟩):=Zy7;have HE:=Lib.hid he;have HSC:=Lib.hid (Zy4 s);have HV:=Lib.hid (fun i (hi:i<=20) W=>Zy2 (s.take i) (by simp;omega) W);clear hT he;have key:(∃ c,s[0]? =some c/\c=45/\Xz s=true)\/(Xz s=false/\(s.length=0\/∃ c,s[0]? =some c/\c≠45)):=by
  cases s with
  | nil=>right;exact⟨rfl,.inl rfl⟩
  | cons c r=>
   by_cases h:c=45
   ·left;exact⟨c,rfl,h,by rw[Zl9,h];rfl⟩
   ·right;exact⟨by rw[Zl9];simpa using h,.inr ⟨c,rfl,h⟩⟩
 change w.cell? ⟨R,0,none⟩=some (.string ⟨s.toArray⟩) at q0;generalize (⟨s.toArray⟩:ByteArray)=S at *
 go_enter func124,ntmps124;go_upto_region 2 with fail;go_cut [28] (fun c wx=>c= .bool (Xz s)/\wx=w)
 case first=>
  rcases key with ⟨c,D,rfl,Y⟩|⟨Y,h0|⟨c,D,hne⟩⟩
  ·have hl:0<s.length:=(List.getElem?_eq_some_iff.1 D).1;have hl':(0:Int)<(s.length:Int):=by omega
   have hg:=HG.out D;go_wp2
   go_meet;case rel=>exact⟨by rw[Y],rfl⟩
  ·have h0':(s.length:Int)=0:=by omega
   go_wp2
   go_meet;case rel=>exact⟨by rw[Y],rfl⟩
  ·have hl:0<s.length:=(List.getElem?_eq_some_iff.1 D).1;have hl':(0:Int)<(s.length:Int):=by omega
   have hg:=HG.out D;have hne':((c.toNat:Int) == 45)=false:=by simpa using fun h=>hne (UInt8.toNat_inj.1 (by show c.toNat=45;omega))
   go_wp2
   go_meet;case rel=>exact⟨by rw[Y],rfl⟩
 case rest=>
  obtain⟨rfl,rfl⟩:=hcut;clear key;obtain⟨i0,ei0⟩:∃ i0,(if Xz s then 1 else 0:Nat)=i0:=⟨_,rfl⟩;have HI0:=Lib.hid ei0;rw[ei0] at HSC;go_upto_if 28 with fail;go_cut [10] (fun s10 wx=>s10=int i64 (i0:Int)/\wx=wc)
  case first=>
   cases Y:Xz s
   ·go_wp2
    go_meet;case rel=>rw[<-HI0.out,Y];exact⟨rfl,rfl⟩
   ·go_wp2
    go_meet;case rel=>rw[<-HI0.out,Y];exact⟨rfl,rfl⟩
  case rest=>
   obtain⟨rfl,rfl⟩:=hcut;clear ei0;go_wp2_with fail
   go_loopw [10] (fun s10 wr=>∃ i:Nat,i<=20/\ScanAt s i/\s10=int i64 i/\wr=wc) (fun s10 _=>s.length-(intOf s10).toNat)
   case atStart=>exact⟨i0,by rw[<-HI0.out];split <;> omega,HSC.out,rfl,rfl⟩
   case round=>
    obtain⟨i,h20,hS,rfl,rfl⟩:=hrel;have O:=Lib.hid hS;have hil:=hS.hi;clear hS HSC;obtain⟨b,I⟩:∃ b:Bool,b=true↔Zjp s i:=by
     by_cases h:Zjp s i
     ·exact⟨true,by simp[h]⟩
     ·exact⟨false,by simp[h]⟩
    go_upto_region 4 with fail;go_cut [59] from 31 to 61 (fun c wx=>c= .bool b/\wx=wr)
    case first=>
     by_cases hlt:i<s.length
     ·have y0:(0:Int)<=(i:Int):=by omega
      have y1:(i:Int)<(s.length:Int):=by omega
      obtain⟨c,D⟩:∃ c,s[i]? =some c:=⟨s[i],by simp[hlt]⟩;have hg:=HG.out D;by_cases h1:48<=(c.toNat:Int)
      ·by_cases h2:(c.toNat:Int)<=57
       ·by_cases h3:(i:Int)<20
        ·have J:b=true:=I.2 ⟨hlt,⟨c,D,by unfold Zb7;omega⟩,by omega⟩;subst J;clear I D;go_wp2
         go_meet;case rel=>exact⟨rfl,rfl⟩
        ·have J:b=false:=Bool.eq_false_iff.2 fun h=>by have:=(I.1 h).2.2;omega
         subst J;clear I D;go_wp2
         go_meet;case rel=>exact⟨rfl,rfl⟩
       ·have J:b=false:=Bool.eq_false_iff.2 fun h=>by obtain⟨_,⟨d,h4,h5⟩,_⟩:=I.1 h;rw[D] at h4;cases h4;unfold Zb7 at h5;omega
        subst J;clear I D;go_wp2
        go_meet;case rel=>exact⟨rfl,rfl⟩
      ·have J:b=false:=Bool.eq_false_iff.2 fun h=>by obtain⟨_,⟨d,h4,h5⟩,_⟩:=I.1 h;rw[D] at h4;cases h4;unfold Zb7 at h5;omega
       subst J;clear I D;go_wp2
       go_meet;case rel=>exact⟨rfl,rfl⟩
     ·have y1:¬ (i:Int)<(s.length:Int):=by omega
      have J:b=false:=Bool.eq_false_iff.2 fun h=>hlt (I.1 h).1
      subst J;clear I;go_wp2
      go_meet;case rel=>exact⟨rfl,rfl⟩
    case rest=>
     obtain⟨rfl,rfl⟩:=hcut;cases b with
     | true=>
      have hC:=I.1 rfl;have HS1:=Lib.hid (Zy3 O.out hC);have h20':=hC.2.2;have y2:IntKind.i64.wrap ((i:Int)+1)=(i:Int)+1:=Zd (by omega) (by omega);have hil':=hC.1;clear hC I HV;go_wp2
      go_roundw;case rel=>exact⟨i+1,h20',HS1.out,by go_num,trivial⟩
      case measure=>simp[intOf];omega
     | false=>
      have Z:=Lib.hid (Zy5 (fun h=>by cases I.2 h) O.out);clear I;by_cases hlt:i<s.length
      ·have y0:(0:Int)<=(i:Int):=by omega
       have y1:(i:Int)<(s.length:Int):=by omega
       have yb:((i:Int) == (s.length:Int))=false:=by simp;omega
       obtain⟨c,D⟩:∃ c,s[i]? =some c:=⟨s[i],by simp[hlt]⟩;have hg:=HG.out D;by_cases hce:c=e
       ·subst hce;have HN:=Lib.hid (Zyv (lo:=lo) (hi:=hi) HE.out O.out Z.out D);have HVI:=Lib.hid (HV.out i h20);have hx1:S.extract 0 i=⟨(s.take i).toArray⟩:=by rw[HX.out];rfl
        have hx2:S.extract (i+1) s.length=⟨(s.drop (i+1)).toArray⟩:=by rw[HX.out,List.take_length]
        have HX1:=Lib.hid hx1;have HX2:=Lib.hid hx2;have y2:IntKind.i64.wrap ((i:Int)+1)=(i:Int)+1:=Zd (by omega) (by omega);have y3:(i:Int)<=(s.length:Int):=by omega
        have y4:(i:Int)+1<=(s.length:Int):=by omega
        have y5:(0:Int)<=(i:Int)+1:=by omega
        have y6:((i:Int)+1).toNat=i+1:=by omega
        clear D HV O Z HE hx1 hx2 HX;generalize s.take i=t at *
        generalize s.drop (i+1)=r at *
        generalize Zbn t=v at *
        obtain⟨f,ef⟩:∃ f,(Lib.itoa v == t)=f:=⟨_,rfl⟩;rw[ef] at HVI;have HF:Hid (Zaq lo hi c s=if f=true/\lo<=v/\v<=hi then some (v,r) else none):=by
         unfold Hid;rw[HN.out,<-ef];simp only[beq_iff_eq]
        clear HN ef;go_upto_region 9 with (go_at_call 146;simp only[Int.toNat_natCast,HX1.out];refine (HVI.out _).mono ?_;rintro x w1 ⟨rfl,m,rfl⟩);clear HVI HX1;cases f with
        | false=>
         go_wp2
         go_ret2;rw[HF.out,if_neg (by simp)];exact⟨rfl,m,rfl⟩
        | true=>
         by_cases h1:v<lo
         ·go_wp2
          go_ret2;rw[HF.out,if_neg (by omega)];exact⟨rfl,m,rfl⟩
         ·by_cases h2:hi<v
          ·go_wp2
           go_ret2;rw[HF.out,if_neg (by omega)];exact⟨rfl,m,rfl⟩
          ·go_wp2
           go_ret2;rw[HF.out,if_pos (by first|exact⟨rfl,by omega,by omega⟩|exact⟨trivial,by omega,by omega⟩)];refine⟨rfl,m,?_⟩;rw[HX2.out]
       ·have HN:Hid (Zaq lo hi e s=none):=Zqy HE.out O.out Z.out (by rw[D];intro h;cases h;exact hce rfl);have hcb:((c.toNat:Int) == (e.toNat:Int))=false:=by simpa using fun h=>hce (UInt8.toNat_inj.1 (by omega))
        clear D HV O Z HE;go_wp2
        go_ret2;rw[HN.out];exact⟨rfl,0,rfl⟩
      ·have e1:i=s.length:=by omega
       subst e1;have HN:Hid (Zaq lo hi e s=none):=Zqy HE.out O.out Z.out (by simp);clear HV O Z HE;go_wp2
       go_ret2;rw[HN.out];exact⟨rfl,0,rfl⟩
def Zc5 (lo hi:Int)(k:Nat)(s:List UInt8)(i:Nat)(e:List UInt8)(D:List Int):Prop:=
 D.length=i/\e.length<=s.length/\X0 lo hi k s=(X0 lo hi (k-i) e).map fun q=>(D ++ q.1,q.2)
theorem Zc5.start {lo hi:Int}{k:Nat}{s:List UInt8}:Zc5 lo hi k s 0 s []:=⟨rfl,Nat.le_refl _,by cases h:X0 lo hi k s <;> simp[h]⟩
def Zbx (k i:Nat):UInt8:=if i+1=k then 10 else 32
theorem Zq3 {lo hi:Int}{j:Nat}{e:List UInt8}:X0 lo hi (j+1) e=(Zaq lo hi (Zbx (j+1) 0) e).bind fun q=>(X0 lo hi j q.2).map fun r=>(q.1 :: r.1,r.2):=by
 cases j with
 | zero=>
  simp only[X0,Zbx,Nat.zero_add,if_true];cases Zaq lo hi 10 e <;> rfl
 | succ j=>
  simp only[X0,Zbx];rw[if_neg (by omega)];cases Zaq lo hi 32 e with
  | none=>rfl
  | some q=>simp only[Option.bind];cases X0 lo hi (j+1) q.2 <;> rfl
theorem Zq4 {k i:Nat}(h:i<k):Zbx (k-i-1+1) 0=Zbx k i:=by
 unfold Zbx;by_cases e:i+1=k
 ·rw[if_pos e,if_pos (by omega)]
 ·rw[if_neg e,if_neg (by omega)]
theorem Zy9 {lo hi n:Int}{e:UInt8}{s b:List UInt8}(D:e=10\/e=32)(h:Zaq lo hi e s=some (n,b)):b.length<=s.length:=by
 obtain⟨rfl,_⟩:=(Zet D).1 h;simp;omega
theorem Zq5 (k i:Nat):Zbx k i=10\/Zbx k i=32:=by unfold Zbx;split <;> simp
theorem Zc5.step {lo hi:Int}{k i:Nat}{s D b:List UInt8}{I:List Int}{n:Int}(h:Zc5 lo hi k s i D I)(O:i<k)(e:Zaq lo hi (Zbx k i) D=some (n,b)):Zc5 lo hi k s (i+1) b (I ++ [n]):=by
 obtain⟨Y,J,Z⟩:=h;refine⟨by simp[Y],Nat.le_trans (Zy9 (Zq5 k i) e) J,?_⟩;rw[Z,show k-i=(k-i-1)+1 by omega,Zq3,Zq4 O,e,show k-(i+1)=k-i-1 by omega];simp only[Option.bind];cases X0 lo hi (k-i-1) b <;> simp
theorem Zc5.bad {lo hi:Int}{k i:Nat}{s e:List UInt8}{J:List Int}(h:Zc5 lo hi k s i e J)(I:i<k)(D:Zaq lo hi (Zbx k i) e=none):X0 lo hi k s=none:=by
 obtain⟨Z,Y,O⟩:=h;rw[O,show k-i=(k-i-1)+1 by omega,Zq3,Zq4 I,D];rfl
theorem Zc5.all {lo hi:Int}{k:Nat}{s e:List UInt8}{D:List Int}(h:Zc5 lo hi k s k e D):X0 lo hi k s=some (D,e):=by
 obtain⟨O,J,I⟩:=h;rw[I,Nat.sub_self,X0];simp
def Zza (w w':World)(R:Nat)(D:Int)(r:Option (List Int×List UInt8))(e:Ending):Prop:=Chg (fun k=>k=R) w w'/\match r with
 | none=>e= .returned (.tuple #[.slice none 0 0,.bool false])/\∃ I,TAt w' R I (D+1)
 | some q=>∃ a cap,e= .returned (.tuple #[.slice a q.1.length cap,.bool true])/\w'.ownsRow w.heap.size 3 1 (.slice a q.1.length cap) q.1.length (q.1.map (int i64))/\TAt w' R q.2 (D+1)
theorem TAt.drewN {w:World}{R:Nat}{s:List UInt8}{n:Int}(h:TAt w R s n)(m:Nat):TAt (w.drewN m) R s n:=h
theorem TAt.put {w:World}{R:Nat}{s b:List UInt8}{n:Int}(h:TAt w R s n):TAt (w.setCell ⟨R,0,none⟩ (bs b)) R b n:=by
 unfold TAt at *
 rw[heap_setCell_same w R 0 _ _ (bs b) h];rfl
theorem TAt.line {w:World}{R:Nat}{s:List UInt8}{n m:Int}(h:TAt w R s n):TAt (w.setCell ⟨R,1,none⟩ (int i64 m)) R s m:=by
 unfold TAt at *
 rw[heap_setCell_same w R 1 _ _ (int i64 m) h];rfl
theorem Zmb {w W w3:World} {R g cap n J:Nat} {o:Obj} {t:TypeId} {v:Value} {xs:List Value} (I:Chg (fun k=>k=R) w W) (O:R<W.heap.size) (aa:R<w.heap.size)
  (hown:w3.ownsRow w.heap.size t J (.slice (some ⟨g,0,none⟩) n cap) n xs)
  (hat:(v.ownBlock=some g/\(W.alloc o).grownBy w3 (some g))\/(g=W.heap.size+1/\(W.alloc o).grownBy w3 none)):Chg (fun k=>k=R) w w3/\w3.heap[R]? =W.heap[R]? :=by
 have Z:w.heap.size<=g:=(hown.lt g rfl).1;have D:Chg (fun k=>k=g) (W.alloc o) w3:=by
  rcases hat with ⟨_,h⟩|⟨_,h⟩
  ·exact Chg.of_grown h fun k e=>by cases e;rfl
  ·exact Chg.of_grown h fun k e=>by cases e
 refine⟨(I.trans (Chg.of_below (F:=fun k=>k=R) (Zb _ _)) fun _ _ h=>h).trans D fun k e Y=>by omega,?_⟩;rw[D.far R (by simp;omega) (by omega)];exact Below.heap_alloc W o R O
theorem Zjq (R k:Nat)(s:List UInt8)(D lo hi:Int)(w:World)(hT:TAt w R s D)(hk:k<=3)(hs:s.length<=1000000000)(l1:0<=D)(l2:D<=4000000000) :
  Calls prog 96 #[.pointer (some ⟨R,0,none⟩),int i64 (k:Int),int i64 lo,int i64 hi] w fun x w'=>Zza w w' R D (X0 lo hi k s) x:=by
 obtain⟨iI,hiI,hzI,hsI,hbI⟩:=info_parts Zbi;obtain⟨q0,q1,f0,f1⟩:=hT.cells;have hRl:=Zh hT;have yl:IntKind.i64.wrap (D+1)=D+1:=Zd (by omega) (by omega);have yk:IntKind.i64.wrap ((k:Int)-1)=(k:Int)-1:=Zd (by omega) (by omega);have HT1:Hid (TAt (w.setCell ⟨R,1,none⟩ (int i64 (D+1))) R s (D+1)):=hT.line;have HC1:Hid (Chg (fun k=>k=R) w (w.setCell ⟨R,1,none⟩ (int i64 (D+1)))):=(Chg.refl (fun k=>k=R) w).setAt (.inl rfl) _;have HN:=Lib.hid (fun J i (hi':J.length<=1000000000) W hW=>Zy8 R J (D+1) lo hi (Zbx k i) (Zq5 k i) W hW hi');clear hT;go_enter func96,ntmps96;go_upto_region 2 with fail;generalize w.setCell ⟨R,1,none⟩ (int i64 (D+1))=W1 at *
 clear q0 q1 f0 f1;go_wp2_with fail
 go_loopw [10,11,12,13,14] (fun s10 s11 _ _ _ wr=>∃ (i:Nat) (J:List UInt8) (I:List Int),i<=k/\s11=int i64 i/\Zc5 lo hi k s i J I/\wr.ownsRow w.heap.size 3 1 s10 I.length (I.map (int i64))/\TAt wr R J (D+1)/\Chg (fun k=>k=R) w wr) (fun _ s11 _ _ _ _=>k-(intOf s11).toNat)
 case atStart=>exact⟨0,s,[],Nat.zero_le _,rfl,Zc5.start,World.ownsRow_nil _ _ _ _,HT1.out,HC1.out⟩
 case round=>
  obtain⟨i,J,I,hik,rfl,hI,hO,hTA,hCh⟩:=hrel;have Y:=Lib.hid hI;have O:=Lib.hid hTA;have HCH:=Lib.hid hCh;have aa:=Lib.hid hO;obtain⟨va,vc,rfl⟩:=Zn hO;clear hI hTA hCh hO;by_cases hlt:i<k
  ·have y1:(i:Int)<(k:Int):=by omega
   have yi:IntKind.i64.wrap ((i:Int)+1)=(i:Int)+1:=Zd (by omega) (by omega);have Z:=Lib.hid (HN.out J i (by have:=Y.out.2.1;omega) wr O.out);obtain⟨c,hc⟩:∃ c:Int,((Zbx k i).toNat:Int)=c:=⟨_,rfl⟩;rw[hc] at Z;have HC:=Lib.hid hc;have hcs:(i+1=k/\c=10)\/(¬ i+1=k/\c=32):=by
    rw[<-hc];unfold Zbx;by_cases e:i+1=k
    ·left;rw[if_pos e];exact⟨e,rfl⟩
    ·right;rw[if_neg e];exact⟨e,rfl⟩
   obtain⟨r,er⟩:∃ r,Zaq lo hi (Zbx k i) J=r:=⟨_,rfl⟩;rw[er] at Z;have HER:=Lib.hid er;clear hc er;go_upto_if 30 with fail;go_cut [12] from 22 to 44 (fun s12 wx=>s12= .int .u8 c/\wx=wr)
   case first=>
    rcases hcs with ⟨e,rfl⟩|⟨e,rfl⟩
    ·have e1:(i:Int)=(k:Int)-1:=by omega
     go_wp2
     go_meet;case rel=>exact⟨rfl,rfl⟩
    ·have e1:¬ (i:Int)=(k:Int)-1:=by omega
     go_wp2
     go_meet;case rel=>exact⟨rfl,rfl⟩
   case rest=>
    obtain⟨rfl,rfl⟩:=hcut;clear hcs;cases r with
    | none=>
     have HB:=Lib.hid (Y.out.bad hlt HER.out);go_wp2_with (go_at_call 124;refine Z.out.mono ?_;rintro x w2 ⟨rfl,m,rfl⟩)
     go_ret2;refine⟨HCH.out.drewN,?_⟩;rw[HB.out];exact⟨rfl,J,O.out.drewN m⟩
    | some q=>
     obtain⟨n,b⟩:=q;have HI2:=Lib.hid (Y.out.step hlt HER.out);go_upto_region 10 with (go_at_call 124;refine Z.out.mono ?_;rintro x w2 ⟨rfl,m,rfl⟩);have hT2:TAt ((wc.drewN m).setCell ⟨R,0,none⟩ (bs b)) R b (D+1):=(O.out.drewN m).put;have hC2:Chg (fun k=>k=R) w ((wc.drewN m).setCell ⟨R,0,none⟩ (bs b)):=HCH.out.drewN.setAt (.inl rfl) _;have hO2:((wc.drewN m).setCell ⟨R,0,none⟩ (bs b)).ownsRow w.heap.size 3 1 (.slice va I.length vc) I.length (I.map (int i64)):=Z9 aa.out fun g hg=>by
      have h2:=(aa.out.lt g hg).1;exact Below.heap_setCell _ _ _ _ (show g≠R by omega)
     have hWs:w.heap.size<=((wc.drewN m).setCell ⟨R,0,none⟩ (bs b)).heap.size:=hC2.size;have HT2:=Lib.hid hT2;have HC2:=Lib.hid hC2;have HO2:=Lib.hid hO2;have hn3:I.length<=3:=by have:=Y.out.1;omega
     clear hT2 hC2 hO2 Z O HCH aa;generalize (wc.drewN m).setCell ⟨R,0,none⟩ (bs b)=W2 at *
     have HN3:Hid (∀ j u,[Value.int .i64 n][j]? =some u->(W2.alloc (.cells #[int i64 n] 3)).cell? ((⟨W2.heap.size,0,none⟩:Addr).add j)=some u):=Zl4 _ _ _;go_wp2_with (at_builtin;refine Xv _ (by rfl) (.tmp 41) (.tmp 43) 26 (by rfl) w.heap.size 3 iI (int i64 0) 1 8 underlying26 hiI hzI hsI hbI rfl (by decide) _ _ _ (by rfl) (Yt HO2.out (Zb _ _)) ⟨W2.heap.size,0,none⟩ 1 1 [int i64 n] (by rfl) rfl HN3.out ?c2 (by decide) ?c3 ?c4 ?c5 (W2.heap.size+1) ?c6 ?_)
     case c2=>intro u hu;simp at hu;subst hu;rfl
     case c3=>unfold maxLen;omega
     case c4=>omega
     case c5=>simp;omega
     case c6=>simp
     ·intro g2 cap2 w3 hown3 hat3 hlt3;have HF:Hid (w3.ownsRow w.heap.size 3 1 (.slice (some ⟨g2,0,none⟩) (I.length+1) cap2) (I ++ [n]).length ((I ++ [n]).map (int i64))/\TAt w3 R b (D+1)/\Chg (fun k=>k=R) w w3):=by
       obtain⟨h1,h2⟩:=Zmb (R:=R) HC2.out (Zh HT2.out) hRl hown3 hat3;refine⟨?_,?_,h1⟩
       ·rw[List.map_append,List.length_append];exact hown3
       ·have:=HT2.out;unfold TAt at *
        rw[h2];exact this
      clear hown3 hat3 HN3;go_wp2
      go_roundw;case rel=>exact⟨i+1,b,I ++ [n],by omega,by go_num,HI2.out,by simpa using HF.out.1,HF.out.2.1,HF.out.2.2⟩
      case measure=>simp[intOf];omega
  ·have e:i=k:=by omega
   subst e;have HL:=Lib.hid Y.out.all;go_wp2
   go_ret2;refine⟨HCH.out,?_⟩;rw[HL.out];exact⟨va,vc,rfl,aa.out,O.out⟩
theorem Z1e {P:Program} (w:World) (dT sT ty Z:TypeId) (Y g O dCap:Nat) (a:Addr) (I sCap:Nat) (D:Array Value) (t:TypeId) (e:List Value)
  (hu:P.underlying dT=some (.slice Z)) (hs:(P.info? Z).map (·.size)=some Y)
  (hg:w.heap[g]? =some (.cells D t (0,0))) (hn:e.length=Nat.min I O*Y)
  (hsrc:∀ j v,e[j]? =some v->w.cell? (a.add j)=some v) (hfit:e.length<=D.size) (h1:∀ v∈e,v.oneCell'=true) :
  (Builtin.copy_ #[dT,sT] ty #[.slice (some ⟨g,0,none⟩) O dCap,.slice (some a) I sCap]).run P w =
   .ok (goInt (Nat.min I O)) (w.setRow g (e ++ D.toList.drop e.length).toArray):=by
 have hl:=run_loadCells_list (P:=P) w a e hsrc;have hst:=run_storeCells_at P g 0 t e 0 D w hg (by simpa using hfit) h1;cases J:P.info? Z with
 | none=>simp[J] at hs
 | some i=>
  have hi:i.size=Y:=by simpa [J] using hs
  rw[hn] at hl;simp[Builtin.copy_,run_underlying hu,Builtin.lenOf,Builtin.firstCells,sizeOf,typeInfo,J,hi,hl,hst]
theorem Z1f {P:Program} {w:World} {ops:Array Oper} {rest:List Oper} {o:Oper} {a:Act} {Q:Exit->Act->World->Prop} (I:o.guard=none) (d s:Operand) (e D:TypeId)
  (ho:o.op= .call { callee:=.builtin .copy,args:=#[d,s],argTypes:=#[e,D] }) (elem:TypeId) (sz:Nat) (hu:P.underlying e=some (.slice elem)) (hsz:(P.info? elem).map (·.size)=some sz)
  (g dLen dCap:Nat) (ad:Addr) (sLen sCap:Nat) (hd:a.eval d= .slice (some ⟨g,0,none⟩) dLen dCap) (hs:a.eval s= .slice (some ad) sLen sCap)
  (cur:Array Value) (t:TypeId) (hg:w.heap[g]? =some (.cells cur t (0,0))) (cs:List Value) (hn:cs.length=Nat.min sLen dLen*sz)
  (hsrc:∀ j v,cs[j]? =some v->w.cell? (ad.add j)=some v) (hfit:cs.length<=cur.size) (h1:∀ v∈cs,v.oneCell'=true)
  (h:wpList P ops Q rest (a.put o.dst (goInt (Nat.min sLen dLen))) (w.setRow g (cs ++ cur.toList.drop cs.length).toArray)):wpList P ops Q (o :: rest) a w:=by
 refine wpList_plain I fun K hK=>?_
 have J:=Z1e (P:=P) w e D o.type elem sz g dLen dCap ad sLen sCap cur t cs hu hsz hg hn hsrc hfit h1;unfold Oper.wp;simp[execOp,ho,resolve,invoke,builtin,hd,hs,J,Result.andThen];exact hK _ _ h
theorem Z1g {P:Program} {w:World} {ops:Array Oper} {rest:List Oper} {o:Oper} {a:Act} {Q:Exit->Act->World->Prop} (J:o.guard=none) (d s:Operand) (e D:TypeId)
  (ho:o.op= .call { callee:=.builtin .copy,args:=#[d,s],argTypes:=#[e,D] }) (elem:TypeId) (sz:Nat) (hu:P.underlying e=some (.slice elem)) (hsz:(P.info? elem).map (·.size)=some sz)
  (dp sp:Option Addr) (dLen dCap sCap:Nat) (hd:a.eval d= .slice dp dLen dCap) (hs:a.eval s= .slice sp 0 sCap)
  (h:wpList P ops Q rest (a.put o.dst (goInt 0)) w):wpList P ops Q (o :: rest) a w:=by
 refine wpList_plain J fun K hK=>?_
 have Y:(Builtin.copy_ #[e,D] o.type #[.slice dp dLen dCap,.slice sp 0 sCap]).run P w= .ok (goInt 0) w:=by
  cases I:P.info? elem with
  | none=>simp[I] at hsz
  | some i=>
   have O:∀ (x:Addr),(loadCells x 0).run P w= .ok #[] w:=fun x=>by simpa using run_loadCells_list (P:=P) w x [] (by simp)
   cases dp <;> cases sp <;> simp[Builtin.copy_,run_underlying hu,Builtin.lenOf,Builtin.firstCells,sizeOf,typeInfo,I,storeCells,O]
 unfold Oper.wp;simp[execOp,ho,resolve,invoke,builtin,hd,hs,Y,Result.andThen];exact hK _ _ h
theorem Zr2:(prog.info? 53).map (·.size)=some 3:=by kernel_rfl
def Y5 (w:World)(g:Nat)(l:List T3):Prop:=w.heap[g]? =some (.cells (Zj l).toArray 53 (0,0))
theorem Zr3 (l:List T3)(j:Nat)(D:j<l.length):(Zj l)[j*3]? =some (int i64 (l.getD j (0,0,0)).1)/\(Zj l)[j*3+1]? =some (int i64 (l.getD j (0,0,0)).2.1)/\(Zj l)[j*3+2]? =some (int i64 (l.getD j (0,0,0)).2.2):=by
 have e:l.getD j (0,0,0)=l[j]:=by simp[D]
 rw[e];exact⟨Zbs l j 0 (by omega) D,Zbs l j 1 (by omega) D,Zbs l j 2 (by omega) D⟩
theorem Y5.lt {w:World}{g:Nat}{l:List T3}(h:Y5 w g l):g<w.heap.size:=Zh h
theorem Y5.tris {w:World}{g:Nat}{l:List T3}(h:Y5 w g l):Zhp w g 0 l:=by
 intro j e;obtain⟨a,b,c⟩:=Zr3 l j e;unfold Y5 at h;rw[Nat.zero_add];exact⟨by simp only[World.cell?,h];simpa using a,by simp only[World.cell?,h];simpa using b,by simp only[World.cell?,h];simpa using c⟩
theorem Y5.raw {w:World}{g:Nat}{l m:List T3}(h:Y5 w g (l ++ m)):Zak w (some ⟨g,0,none⟩) l:=by
 refine .inr ⟨g,0,rfl,h.lt,fun j D=>?_⟩;have:=h.tris j (by simp;omega);have e:(l ++ m).getD j (0,0,0)=l.getD j (0,0,0):=by simp[List.getElem?_append_left D]
 rw[e] at this;exact this
theorem Y5.frozen {w:World}{g:Nat}{l:List T3}(h:Y5 w g l)(i:Nat):w.frozen? ⟨g,i,none⟩=false:=by
 unfold Y5 at h;simp[World.frozen?,h]
theorem Y5.keep {w w':World}{g:Nat}{l:List T3}(h:Y5 w g l)(e:w'.heap[g]? =w.heap[g]?):Y5 w' g l:=by
 unfold Y5 at *
 rw[e];exact h
theorem Z1h (l:List T3)(x y z:Int):∀ i,i<l.length->(((Zj l).set (i*3) (int i64 x)).set (i*3+1) (int i64 y)).set (i*3+2) (int i64 z)=Zj (l.set i (x,y,z)):=by
 induction l with
 | nil=>intro i h;simp at h
 | cons p l ih=>
  intro i h;have e:∀ q:T3,∀ r,Zj (q :: r)=int i64 q.1 :: int i64 q.2.1 :: int i64 q.2.2 :: Zj r:=fun q r=>by simp[Zj,Xe,iv]
  rw[e];match i with
  | 0=>simp[e]
  | i+1=>
   have:=ih i (by simpa using h);rw[show (i+1)*3=i*3+1+1+1 by omega];simp only[List.set_cons_succ];rw[this,e]
theorem Y5.put {w:World}{g:Nat}{l:List T3}(h:Y5 w g l){i:Nat}(hi:i<l.length)(x y z:Int):Y5 (((w.setCell ⟨g,i*3,none⟩ (int i64 x)).setCell ⟨g,i*3+1,none⟩ (int i64 y)).setCell ⟨g,i*3+2,none⟩ (int i64 z)) g (l.set i (x,y,z)):=by
 unfold Y5 at *
 rw[<-Z1h l x y z i hi];simp[World.setCell,Array.getElem?_modify,h]
theorem Z1i (w:World){g k:Nat}(e:k≠g)(i j n:Nat)(x y z:Value):(((w.setCell ⟨g,i,none⟩ x).setCell ⟨g,j,none⟩ y).setCell ⟨g,n,none⟩ z).heap[k]? =w.heap[k]? :=by
 rw[Below.heap_setCell _ _ _ _ e,Below.heap_setCell _ _ _ _ e,Below.heap_setCell _ _ _ _ e]
theorem Z1j {w D:World}{g:Nat}(h:w.grownBy D (some g))(i j n:Nat)(x y z:Value):w.grownBy (((D.setCell ⟨g,i,none⟩ x).setCell ⟨g,j,none⟩ y).setCell ⟨g,n,none⟩ z) (some g):=
 ⟨h.os, h.tape, h.output, by have := h.size; simpa [World.setCell] using this, fun k J I => by
   rw [Z1i _ (fun e => I (by rw [e]))]; exact h.block k J I⟩
def Y9 (k:Nat):List T3:=(List.range 8).map fun i=>if i<k then (77,77,(i:Int)) else (0,0,0)
theorem Zm8 (k:Nat):(Y9 k).length=8:=by simp[Y9]
theorem Zr4:Y9 0=List.replicate 8 (0,0,0):=by simp[Y9];rfl
theorem Z1k (l:List T3)(k:Nat)(h:k<8):(l ++ Y9 k).set (l.length+k) (77,77,(k:Int))=l ++ Y9 (k+1):=by
 rw[List.set_append_right _ _ (by omega)];congr 1;rw[show l.length+k-l.length=k by omega];apply List.ext_getElem?;intro i;by_cases hi:i<8
 ·by_cases e:k=i
  ·subst e;simp[Y9,hi]
  ·rw[List.getElem?_set_ne e];simp[Y9,hi];have:(i<k)=(i<k+1):=by simp;omega
   simp[this]
 ·rw[List.getElem?_eq_none (by simp[Y9];omega),List.getElem?_eq_none (by simp[Y9];omega)]
theorem Z1l (n:Nat):Zj (List.replicate n (0,0,0))=List.replicate (n*3) (int i64 0):=by
 induction n with
 | zero=>rfl
 | succ n ih=>
  rw[List.replicate_succ,show (n+1)*3=n*3+1+1+1 by omega,List.replicate_succ,List.replicate_succ,List.replicate_succ,<-ih];simp[Zj,Xe,iv]
theorem Z1m (n:Nat):(madeCells #[Value.int .i64 0,int i64 0,int i64 0] (n*3)).toList=Zj (List.replicate n (0,0,0)):=by
 rw[Z1l];apply List.ext_getElem?;intro i;by_cases D:i<n*3
 ·have e:i % 3=0\/i % 3=1\/i % 3=2:=by omega
  rcases e with e|e|e <;> simp[madeCells,D,e]
 ·rw[List.getElem?_eq_none (by simp[madeCells];omega),List.getElem?_eq_none (by simp;omega)]
theorem Z1n (w:World) {ops:Array Oper} {rest:List Oper} {o:Oper} {a:Act} {Q:Exit->Act->World->Prop}
  (hg:o.guard=none) (l c:Operand) (hop:o.op=Op.makeSlice 42 l c) (kl kc:IntKind) (n:Nat) (z:Int) (hl:a.eval l= .int kl z) (hc:a.eval c= .int kc z) (hz:z=(n:Int)) (hn:n<=5000000000000)
  (hK:wpList prog ops Q rest (a.put o.dst (.slice (some ⟨w.heap.size,0,none⟩) n n)) (w.alloc (.cells (Zj (List.replicate n (0,0,0))).toArray 53))) :
  wpList prog ops Q (o :: rest) a w:=by
 refine wpList_plain hg fun K Y=>?_
 subst hz;have aa:(Instr.makeSlice 42 (.int kl (n:Int)) (.int kc (n:Int))).run prog w= .ok (.slice (some ⟨w.heap.size,0,none⟩) n n) (w.alloc (.cells (Zj (List.replicate n (0,0,0))).toArray 53)):=by
  obtain⟨J,ab,I,O,Z⟩:=info_parts Zhq;have D:=run_make (P:=prog) w 42 53 J (.agg #[int i64 0,int i64 0,int i64 0]) underlying42 ab I kl kc n n (by omega) (Int.le_refl _) (by rw[Z];omega) (by omega);simp only[Int.toNat_natCast,O] at D;rw[D];have e:madeCells (Value.agg #[int i64 0,int i64 0,int i64 0]).cells (n*3)=(Zj (List.replicate n (0,0,0))).toArray:=by
   rw[<-Z1m];rfl
  rw[e]
 unfold Oper.wp;simp[execOp,hop,hl,hc,aa,Result.andThen];exact Y _ _ hK
theorem Z1o (l:List T3):∀ u∈Zj l,u.oneCell'=true:=by
 intro u e;simp only[Zj,List.mem_flatMap] at e;obtain⟨p,_,e⟩:=e;simp[Xe,iv] at e;rcases e with rfl|rfl|rfl <;> rfl
theorem Z1p {w:World}{g D:Nat}{l:List T3}(h:Zhp w g D l):∀ j u,(Zj l)[j]? =some u->w.cell? ((⟨g,D,none⟩:Addr).add j)=some u:=by
 intro j u e;have O:(⟨g,D,none⟩:Addr).add j=⟨g,D+j,none⟩:=by unfold Addr.add;split <;> simp_all
 rw[O];have aa:j<l.length*3:=by
  rw[<-Zc9];exact (List.getElem?_eq_some_iff.1 e).1
 obtain⟨i,hi⟩:∃ i,j=i*3\/j=i*3+1\/j=i*3+2:=⟨j / 3,by omega⟩;have I:i<l.length:=by omega
 obtain⟨J,Z,Y⟩:=Zr3 l i I;obtain⟨c0,c1,c2⟩:=h i I;rcases hi with rfl|rfl|rfl
 ·rw[J] at e;rw[c0];exact e
 ·rw[Z] at e;rw[<-Nat.add_assoc,c1];exact e
 ·rw[Y] at e;rw[<-Nat.add_assoc,c2];exact e
theorem Z1q {w:World} {ops:Array Oper} {rest:List Oper} {o:Oper} {a:Act} {Q:Exit->Act->World->Prop} (I:o.guard=none) (d s:Operand)
  (ho:o.op= .call { callee:=.builtin .copy,args:=#[d,s],argTypes:=#[42,42] }) (g dCap:Nat) (sa:Option Addr) (l:List T3) (sCap:Nat)
  (hd:a.eval d= .slice (some ⟨g,0,none⟩) (l.length+8) dCap) (hs:a.eval s= .slice sa l.length sCap) (hr:Zak w sa l)
  (hg:w.heap[g]? =some (.cells (Zj (List.replicate (l.length+8) (0,0,0))).toArray 53 (0,0)))
  (h:∀ w',Y5 w' g (l ++ Y9 0)->w.grownBy w' (some g)->wpList prog ops Q rest (a.put o.dst (goInt l.length)) w'):wpList prog ops Q (o :: rest) a w:=by
 rcases hr with rfl|⟨b,O,rfl,Z,Y⟩
 ·refine Z1g I d s _ _ ho 53 3 underlying42 Zr2 _ _ _ _ _ hd hs (h w ?_ (Zjc _ _));rw[Zr4];unfold Y5;rw[hg];rfl
 ·have D:Nat.min l.length (l.length+8)=l.length:=Nat.min_eq_left (by omega);have J:=Z1f (P:=prog) (w:=w) (rest:=rest) (ops:=ops) (a:=a) (Q:=Q) I d s _ _ ho 53 3 underlying42 Zr2 g _ _ ⟨b,O,none⟩ _ _ hd hs _ _ hg (Zj l) (by rw[D,Zc9])
   (Z1p Y) (by simp[Zc9];omega) (Z1o l)
  rw[D] at J;refine J (h _ ?_ (Zqh _ _ _));unfold Y5;have e:(Zj l ++ (Zj (List.replicate (l.length+8) (0,0,0))).toArray.toList.drop (Zj l).length).toArray=(Zj (l ++ Y9 0)).toArray:=by
   rw[Zr4,Zj9,Zc9];simp only;have:List.replicate (l.length+8) ((0,0,0):T3)=List.replicate l.length (0,0,0) ++ List.replicate 8 (0,0,0):=by rw[List.replicate_append_replicate]
   rw[this,Zj9,List.drop_left' (by rw[Zc9,List.length_replicate])]
  rw[e];simp[World.setRow,Array.getElem?_modify,hg]
theorem Z1r (a:Option Addr)(cap:Nat)(l:List T3)(w:World)(hr:Zak w a l)(hl:l.length<=4000000000000) :
  Calls prog 51 #[.slice a l.length cap] w fun e w'=>∃ g,e= .returned (.slice (some ⟨g,0,none⟩) (l.length+8) (l.length+8))/\w.heap.size<=g/\Y5 w' g (l ++ Y9 8)/\Below w.heap.size w w':=by
 have w8:IntKind.i64.wrap ((l.length:Int)+8)=(l.length:Int)+8:=Zd (by omega) (by omega);go_enter func51,ntmps51
 go_wp2_with (first
   | (refine Z1n _ (by rfl) (.tmp 7) (.tmp 7) (by rfl) .i64 .i64 (l.length + 8) ((l.length : Int) + 8) (by rfl) (by rfl) (by omega) (by omega) ?_)
   | (refine Z1q (by rfl) (.tmp 9) (.tmp 10) (by rfl) w.heap.size (l.length + 8) a l cap (by rfl) (by rfl) (Zak.below hr (Zb _ _)) (heap_alloc_new _ _) ?_; intro w1 D O))
 have J:Below w.heap.size w w1:=(Zb w _).grown O (by simp) (fun k Y=>by cases Y;exact Nat.le_refl _);clear O w8;go_loopw [4] (fun i wr=>∃ k:Nat,k<=8/\i=int i64 k/\Y5 wr w.heap.size (l ++ Y9 k)/\Below w.heap.size w wr) (fun i _=>8-(intOf i).toNat)
 case atStart=>exact⟨0,by omega,rfl,D,J⟩
 case round=>
  clear D J;obtain⟨k,Y,rfl,D,I⟩:=hrel;by_cases hk8:k<8
  ·have HP:Hid (Y5 (((wr.setCell ⟨w.heap.size,(l.length+k)*3,none⟩ (int i64 77)).setCell ⟨w.heap.size,(l.length+k)*3+1,none⟩ (int i64 77)).setCell ⟨w.heap.size,(l.length+k)*3+2,none⟩ (int i64 (k:Int))) w.heap.size (l ++ Y9 (k+1))):=by
    have:=D.put (i:=l.length+k) (by simp[Zm8];omega) 77 77 (k:Int);rwa [Z1k l k hk8] at this
   have HB:Hid (Below w.heap.size w (((wr.setCell ⟨w.heap.size,(l.length+k)*3,none⟩ (int i64 77)).setCell ⟨w.heap.size,(l.length+k)*3+1,none⟩ (int i64 77)).setCell ⟨w.heap.size,(l.length+k)*3+2,none⟩ (int i64 (k:Int)))):=((I.setCell (p:=⟨w.heap.size,(l.length+k)*3,none⟩) (Nat.le_refl _) _).setCell (p:=⟨w.heap.size,(l.length+k)*3+1,none⟩) (Nat.le_refl _) _).setCell (p:=⟨w.heap.size,(l.length+k)*3+2,none⟩) (Nat.le_refl _) _;obtain⟨Z,d1,d2⟩:=D.tris (l.length+k) (by simp[Zm8];omega);rw[Nat.zero_add] at Z d1 d2;have f0:=D.frozen ((l.length+k)*3);have f1:=D.frozen ((l.length+k)*3+1);have f2:=D.frozen ((l.length+k)*3+2);have x0:(0:Int)<=(l.length:Int)+(k:Int):=by omega
   have x1:(l.length:Int)+(k:Int)<((l.length+8:Nat):Int):=by omega
   have x2:IntKind.i64.wrap ((l.length:Int)+(k:Int))=(l.length:Int)+(k:Int):=Zd (by omega) (by omega);have x3:((l.length:Int)+(k:Int)).toNat=l.length+k:=by omega
   have x4:IntKind.i64.wrap ((k:Int)+1)=(k:Int)+1:=Zd (by omega) (by omega);have x5:(k:Int)<8:=by omega
   clear D I;go_wp2
   go_roundw;case rel=>exact⟨k+1,by omega,by go_num,HP.out,HB.out⟩
   case measure=>simp[intOf];omega
  ·have e:k=8:=by omega
   subst e;go_wp2
   go_ret;exact⟨_,rfl,Nat.le_refl _,D,I⟩
def Zdv (k:Nat)(m:List T3):List T3:=List.replicate k (-7,-7,-7) ++ m.drop k
theorem Zr5 {k:Nat}{m:List T3}(h:k<=m.length):(Zdv k m).length=m.length:=by simp[Zdv];omega
theorem Z1s {k:Nat}{m:List T3}(h:k<m.length):(Zdv k m).set k (-7,-7,-7)=Zdv (k+1) m:=by
 unfold Zdv;rw[List.set_append_right _ _ (by simp),List.length_replicate,Nat.sub_self,List.replicate_succ',List.append_assoc];congr 1;rw[List.drop_eq_getElem_cons h];rfl
theorem Z1t {k:Nat}{m:List T3}(h:k<m.length):(Zdv k m).getD k (0,0,0)=m.getD k (0,0,0):=by
 unfold Zdv;simp only[List.getD_eq_getElem?_getD];rw[List.getElem?_append_right (by simp)];simp
theorem Z1u {l:List T3}{k:Nat}(h:k<l.length):(l ++ Y9 8).getD k (0,0,0)=l.getD k (0,0,0):=by
 simp[List.getElem?_append_left h]
theorem Z1v {l:List T3}{k:Nat}(h:¬ k<l.length)(I:k<l.length+8):(l ++ Y9 8).getD k (0,0,0)=(77,77,(k:Int)-(l.length:Int)):=by
 have e:(l ++ Y9 8).getD k (0,0,0)=(Y9 8).getD (k-l.length) (0,0,0):=by
  simp[List.getElem?_append_right (Nat.le_of_not_lt h)]
 have D:(Y9 8).getD (k-l.length) (0,0,0)=(77,77,((k-l.length:Nat):Int)):=by
  simp[Y9,show k-l.length<8 by omega]
 rw[e,D];congr 2;omega
theorem Z1w (g cap:Nat)(a:Option Addr)(lc:Nat)(l:List T3)(w:World)(hr:Zak w a l)(hg:Y5 w g (l ++ Y9 8))(hne:∀ b D,a=some ⟨b,D,none⟩->l≠ []->b≠g)(hl:l.length<=4000000000000) :
  Calls prog 53 #[.slice (some ⟨g,0,none⟩) (l.length+8) cap,.slice a l.length lc] w fun e w'=>e= .returned (.bool true)/\w.grownBy w' (some g):=by
 have KEY:Hid (∀ k wr,w.grownBy wr (some g)->k<l.length->∃ b D,a=some ⟨b,D,none⟩/\b<wr.heap.size/\wr.cell? ⟨b,D+k*3,none⟩=some (int i64 (l.getD k (0,0,0)).1)/\wr.cell? ⟨b,D+k*3+1,none⟩=some (int i64 (l.getD k (0,0,0)).2.1)/\wr.cell? ⟨b,D+k*3+2,none⟩=some (int i64 (l.getD k (0,0,0)).2.2)):=by
  intro k wr I O;rcases hr with rfl|⟨b,D,rfl,Z,hp⟩
  ·simp at O
  ·have hn:some b≠some g:=fun e=>hne b D rfl (fun e=>by rw[e] at O;simp at O) (by cases e;rfl)
   exact⟨b,D,rfl,L3 Z I.size,(I.cell_far ⟨b,D+k*3,none⟩ Z hn).trans (hp k O).1,(I.cell_far ⟨b,D+k*3+1,none⟩ Z hn).trans (hp k O).2.1,(I.cell_far ⟨b,D+k*3+2,none⟩ Z hn).trans (hp k O).2.2⟩
 have hml:(l ++ Y9 8).length=l.length+8:=by simp[Zm8]
 have heq:=Zmd;clear hr hne;go_enter func53,ntmps53;go_wp2
 go_loopw [5,6] (fun o i wr=>∃ k:Nat,k<=l.length+8/\i=int i64 k/\o= .bool true/\Y5 wr g (Zdv k (l ++ Y9 8))/\w.grownBy wr (some g)) (fun _ i _=>l.length+8-(intOf i).toNat)
 case atStart=>exact⟨0,by omega,rfl,rfl,hg,Zjc _ _⟩
 case round=>
  clear hg;obtain⟨k,O,rfl,rfl,J,I⟩:=hrel;by_cases hlt:k<l.length+8
  ·have hkm:k<(l ++ Y9 8).length:=by omega
   obtain⟨d0,d1,d2⟩:=J.tris k (by rw[Zr5 (by omega)];exact hkm);rw[Z1t hkm,Nat.zero_add] at d0 d1 d2;have HP:Hid (∀ W,wr.grownBy W none->Y5 (((W.setCell ⟨g,k*3,none⟩ (int i64 (-7))).setCell ⟨g,k*3+1,none⟩ (int i64 (-7))).setCell ⟨g,k*3+2,none⟩ (int i64 (-7))) g (Zdv (k+1) (l ++ Y9 8))/\w.grownBy (((W.setCell ⟨g,k*3,none⟩ (int i64 (-7))).setCell ⟨g,k*3+1,none⟩ (int i64 (-7))).setCell ⟨g,k*3+2,none⟩ (int i64 (-7))) (some g)):=by
    intro W Y;have h1:Y5 W g (Zdv k (l ++ Y9 8)):=J.keep (Y.block g J.lt (by simp));have h2:=h1.put (i:=k) (by rw[Zr5 (by omega)];exact hkm) (-7) (-7) (-7);rw[Z1s hkm] at h2;exact⟨h2,Z1j (I.trans ⟨Y.os,Y.tape,Y.output,Y.size,fun j hj _=>Y.block j hj (by simp)⟩) _ _ _ _ _ _⟩
   have hgl:=J.lt;have f0:=J.frozen (k*3);have f1:=J.frozen (k*3+1);have f2:=J.frozen (k*3+2);have x0:(0:Int)<=(k:Int):=by omega
   have x1:(k:Int)<((l.length+8:Nat):Int):=by omega
   have x2:IntKind.i64.wrap ((k:Int)-(l.length:Int))=(k:Int)-(l.length:Int):=Zd (by omega) (by omega);have x4:IntKind.i64.wrap ((k:Int)+1)=(k:Int)+1:=Zd (by omega) (by omega);by_cases hkl:k<l.length
   ·obtain⟨b,D,rfl,Z,c0,c1,c2⟩:=KEY.out k wr I hkl;rw[Z1u hkl] at d0 d1 d2;have x5:(k:Int)<(l.length:Int):=by omega
    generalize (l.getD k (0,0,0)).1=lx at *
    generalize (l.getD k (0,0,0)).2.1=ly at *
    generalize (l.getD k (0,0,0)).2.2=lz at *
    clear J I KEY;go_wp2_with fail
    go_quiet (fail);go_wp2
    go_roundw;case rel=>exact⟨k+1,by omega,by go_num,by simp,(HP.out _ (Zeo wr _ nq)).1,(HP.out _ (Zeo wr _ nq)).2⟩
    case measure=>simp[intOf];omega
   ·rw[Z1v hkl hlt] at d0 d1 d2;have x5:¬ ((k:Int)<(l.length:Int)):=by omega
    simp only at d0 d1 d2;clear J I KEY;go_wp2_with fail
    go_quiet (fail);go_wp2
    go_roundw;case rel=>exact⟨k+1,by omega,by go_num,by simp,(HP.out _ (Zeo wr _ nq)).1,(HP.out _ (Zeo wr _ nq)).2⟩
    case measure=>simp[intOf];omega
  ·have e:k=l.length+8:=by omega
   subst e;go_wp2
   go_ret;exact⟨rfl,I⟩
theorem Z1x (a b:Option Addr)(ac bc:Nat)(l:List Pt)(w:World)(ha:Z0 w a l)(J:Z0 w b l)(hl:l.length<=1000000000) :
  Calls prog 55 #[.slice a l.length ac,.slice b l.length bc] w fun e w'=>e= .returned (.bool true)/\Below w.heap.size w w':=by
 have Z:=Lib.hid ha;have HB:=Lib.hid J;clear ha J;go_enter func55,ntmps55;go_wp2
 go_loopw [5] (fun i wr=>∃ k:Nat,k<=l.length/\i=int i64 k/\Below w.heap.size w wr) (fun i _=>l.length-(intOf i).toNat)
 case atStart=>exact⟨0,by omega,rfl,Below.refl _ _⟩
 case round=>
  obtain⟨k,hk,rfl,I⟩:=hrel;by_cases D:k<l.length
  ·rcases Z.out.below I with h|⟨g,off,rfl,hg,Y⟩
   ·rw[h] at D;simp at D
   rcases HB.out.below I with h|⟨g',off',rfl,hg',O⟩
   ·rw[h] at D;simp at D
   obtain⟨c0,c1⟩:=Y k D;obtain⟨d0,d1⟩:=O k D;generalize (l.getD k (0,0)).1=x at *
   generalize (l.getD k (0,0)).2=y at *
   have y0:(0:Int)<=(k:Int):=by omega
   have y1:(k:Int)<(l.length:Int):=by omega
   have y2:IntKind.i64.wrap ((k:Int)+1)=(k:Int)+1:=Zd (by omega) (by omega);clear Y O Z HB;go_wp2_with fail
   go_quiet (fail);go_wp2
   go_roundw;case rel=>exact⟨k+1,by omega,by go_num,Zt I⟩
   case measure=>simp[intOf];omega
  ·go_wp2
   go_ret;exact⟨rfl,I⟩
theorem Gives.mono {P:Program}{o:Oper}{ρ:Operand->Value}{w:World}{R D:Value->World->Prop}(h:Gives P o ρ w R)(k:∀ v w',R v w'->D v w'):Gives P o ρ w D:=by
 refine⟨?_⟩;have h:=h.out;unfold Zfz at *
 split at h
 ·exact k _ _ h
 ·exact h.mono fun e I ⟨v,e1,e2⟩=>⟨v,e1,k _ _ e2⟩
 ·exact h.elim
theorem Z11 {P:Program} {o:Oper} {ρ:Operand->Value} {w:World} {R:Value->World->Prop} {T:TypeId} {x y:Operand} {D I v:Value} (O:o.op= .build T #[(0,x),(1,y)]) (Y:ρ x=D) (J:ρ y=I)
  (hrun:(Instr.build T #[(0,D),(1,I)]).run P w= .ok v w) (hR:R v w):Gives P o ρ w R:=by
 refine Gives.value v w ?_ hR;have e:(#[(0,x),(1,y)]:Array (Nat×Operand)).map (fun (i,x)=>(i,ρ x))= #[(0,D),(1,I)]:=by simp[Y,J]
 simp only[execOp,O,e,Sem.run_bind,hrun,Result.andThen_ok,Sem.run_pure]
theorem Z12 {P:Program} {o:Oper} {ρ:Operand->Value} {w:World} {R:Value->World->Prop} {T:TypeId} {x y z:Operand} {D I J v:Value} (Y:o.op= .build T #[(0,x),(1,y),(2,z)]) (hx:ρ x=D) (O:ρ y=I) (Z:ρ z=J)
  (hrun:(Instr.build T #[(0,D),(1,I),(2,J)]).run P w= .ok v w) (hR:R v w):Gives P o ρ w R:=by
 refine Gives.value v w ?_ hR;have e:(#[(0,x),(1,y),(2,z)]:Array (Nat×Operand)).map (fun (i,x)=>(i,ρ x))= #[(0,D),(1,I),(2,J)]:=by simp[hx,O,Z]
 simp only[execOp,Y,e,Sem.run_bind,hrun,Result.andThen_ok,Sem.run_pure]
theorem Z13 (w:World)(x y:Int):(Instr.build 37 #[(0,int i64 x),(1,int i64 y)]).run prog w= .ok (.agg #[int i64 x,int i64 y]) w:=by go_simp
theorem Z14 (w:World)(x y z:Int):(Instr.build 53 #[(0,int i64 x),(1,int i64 y),(2,int i64 z)]).run prog w= .ok (.agg #[int i64 x,int i64 y,int i64 z]) w:=by go_simp
theorem Z15 (w:World)(x y:Int):(Instr.buildSlice 41 1 #[(0,.agg #[int i64 x,int i64 y])]).run prog w= .ok (.slice (some ⟨w.heap.size,0,none⟩) 1 1) (w.alloc (.cells #[int i64 x,int i64 y] 37)):=by go_simp
theorem Z16 (w:World)(x y z:Int):(Instr.buildSlice 42 1 #[(0,.agg #[int i64 x,int i64 y,int i64 z])]).run prog w= .ok (.slice (some ⟨w.heap.size,0,none⟩) 1 1) (w.alloc (.cells #[int i64 x,int i64 y,int i64 z] 53)):=by go_simp
theorem Zkd {w:World}{I cap:Nat}{a:Option Addr}{D:List Int}(h:w.ownsRow I 3 1 (.slice a D.length cap) D.length (D.map (int i64)))(O:0<D.length):∃ g,a=some ⟨g,0,none⟩/\g<w.heap.size/\I<=g/\∀ j,j<D.length->w.cell? ⟨g,j,none⟩=some (int i64 (D.getD j 0)):=by
 obtain⟨g,e,Z,J⟩:=Zcw h O;refine⟨g,e,Z,?_,fun j Y=>?_⟩
 ·subst e;exact (h.lt g rfl).1
 ·rw[J j (by omega)];simp[Y]
theorem Zr7 (σ e:Nat->Value):∀ (ds:List (Option Tmp)) (k:Nat) (a:Act),(∀ j,k<=j->j<k+ds.length->σ j=e j)->lay ds σ k a=lay ds e k a
 | [],_,_,_=>rfl
 | d :: ds,k,a,h=>by
  simp only[lay];rw[h k (Nat.le_refl _) (by simp)];exact Zr7 σ e ds (k+1) _ fun j I D=>h j (by omega) (by simp;omega)
theorem Zr8 {P:Program} {ops:Array Oper} {Q:Exit->Act->World->Prop} {id m:Nat} {J:Act} {W:World} (hm:P.follows .mixedOrders=true) (g:Zf0 ops (m+1)=true) {dsts:List (Option Tmp)} (hd:(ops.toList.take (m+1)).map (·.dst)=dsts)
  (Z:Ze5 dsts J.tmps.size=true) {l:List Oper} (hl:ops.toList.drop (m+1)=l) (hlen:dsts.length=m+1) (vals:Nat->Value) (o:Obj) (u:Value)
  (hop:∀ i,i<m->∀ (σ:Nat->Value) (w:World),(∀ b j,b<W.heap.size->w.cell? ⟨b,j,none⟩=W.cell? ⟨b,j,none⟩)->(∀ j,X5 ops i j=true->j<m->σ j=vals j)->Gives P (Zcg ops i) (env dsts σ i J) w fun v w'=>v=vals i/\w'=w)
  (hbd:∀ (σ:Nat->Value),(∀ j,X5 ops m j=true->j<m->σ j=vals j)->Gives P (Zcg ops m) (env dsts σ m J) W.drew fun v w'=>v=u/\w'=W.drew.alloc o)
  (hend:Rest P ops Q l (lay dsts (fun j=>if j=m then u else vals j) 0 J) (W.drew.alloc o)):(Code.region id ops true).wp P Q J W:=by
 refine Zd9 (m:=m+1) hm g hd Z hl (fun L σ w=>(∀ j,j<m->L j=true->σ j=vals j)/\(L m=true->σ m=u/\w=W.drew.alloc o)/\(L m=false->w=W.drew)) ⟨(fun _ _ h=>by cases h),(fun h=>by cases h),fun _=>rfl⟩ ?_ ?_
 ·rintro i hi L σ w ⟨O,Y,h3⟩ hw _ hun;by_cases e:i=m
  ·subst e;have hw0:w=W.drew:=h3 hun;subst hw0;refine (hbd σ fun j I aa=>O j aa (hw j I)).mono ?_ |>.toS
   rintro v w' ⟨rfl,rfl⟩;refine⟨fun j I D=>?_,fun _=>?_,fun h=>?_⟩
   ·simp only[if_neg (show ¬ j=i by omega)] at D ⊢;exact O j I D
   ·simp
   ·simp at h
  ·have hc:∀ b j,b<W.heap.size->w.cell? ⟨b,j,none⟩=W.cell? ⟨b,j,none⟩:=fun b j Z=>by
    cases D:L m with
    | false=>rw[h3 D];rfl
    | true=>rw[(Y D).2];exact (Zb W.drew o).cell (p:=⟨b,j,none⟩) Z
   refine (hop i (by omega) σ w hc fun j I aa=>O j aa (hw j I)).mono ?_ |>.toS
   rintro v w' ⟨rfl,rfl⟩;refine⟨fun j I D=>?_,fun h=>?_,fun h=>?_⟩
   ·by_cases ej:j=i
    ·subst ej;simp
    ·simp only[if_neg ej] at D ⊢;exact O j I D
   ·simp only[if_neg (show ¬ m=i by omega)] at h ⊢;exact Y h
   ·simp only[if_neg (show ¬ m=i by omega)] at h;exact h3 h
 ·rintro L σ w ⟨O,Y,_⟩ hall;obtain⟨e1,e2⟩:=Y (hall m (by omega));subst e2;have:lay dsts σ 0 J=lay dsts (fun j=>if j=m then u else vals j) 0 J:=Zr7 _ _ _ _ _ fun j _ I=>by
   by_cases e:j=m
   ·subst e;rw[if_pos rfl];exact e1
   ·rw[if_neg e];exact O j (by omega) (hall j (by omega))
  rw[this];exact hend
theorem Chg.drew {F:Nat->Prop}{w w':World}(h:Chg F w w'):Chg F w w'.drew:=⟨h.os,h.tape,h.output,h.size,h.far⟩
theorem TAt.chg {w w':World}{R:Nat}{s:List UInt8}{n:Int}(h:TAt w R s n)(e:w'.heap[R]? =w.heap[R]?):TAt w' R s n:=by
 unfold TAt at *
 rw[e];exact h
theorem Z17 (s:List UInt8)(w:World)(hs:s.length<=1000000000) :
  Calls prog 54 #[bs s] w fun e w'=>∃ v u x n,e= .returned (.tuple #[v,u,int i64 x,int i64 n])/\Zcm w w' s v u x n/\Below w.heap.size w w':=by
 obtain⟨iP,hiP,hzP,hsP,hbP⟩:=info_parts Zdk;obtain⟨iT,hiT,hzT,hsT,hbT⟩:=info_parts Zhq;have hT0:TAt (w.alloc (.cells #[bs s,int i64 0] 148)) w.heap.size s 0:=heap_alloc_new _ _;have HL1:=Lib.hid (Zjq w.heap.size 1 s 0 0 60 _ hT0 (by omega) hs (by omega) (by omega));have HB0:=Lib.hid (Zb w (.cells #[bs s,int i64 0] 148));have HSZ:Hid ((w.alloc (.cells #[bs s,int i64 0] 148)).heap.size=w.heap.size+1):=by unfold Hid;simp
 have HS:=Lib.hid hs;obtain⟨r1,e1⟩:∃ r1,X0 0 60 1 s=r1:=⟨_,rfl⟩;rw[e1] at HL1;have HE1:Hid (Z3 0 60 1 s=r1):=by unfold Hid;rw[<-e1];exact (Zjo 0 60 0 s).symm
 clear hT0 e1 hs;go_enter func54,ntmps54;go_upto_region 2 with fail;generalize w.alloc (.cells #[bs s,int i64 0] 148)=W0 at *
 generalize hR:w.heap.size=R at *
 have HR:=Lib.hid hR;clear hR;cases r1 with
 | none=>
  have hRS:Hid (Xb s= .inr 1):=by
   have hd:hd1 s=([],s,false,1):=by unfold hd1 Ym;rw[HE1.out]
   have:=Zl1 (s:=s) (by rw[hd]);rw[hd] at this;exact this
  go_upto_region 3 with (go_at_call 96;refine HL1.out.mono ?_;rintro x Y ⟨hc1,rfl,s1,hT1⟩);obtain⟨_,q1,_,_⟩:=hT1.cells;have q1':Y.cell? ⟨R,1,none⟩=some (int i64 1):=q1;have HB1:Hid (Below R w Y):=HB0.out.trans (hc1.below (by have:=HSZ.out;omega) fun k hk hF=>by omega);clear q1 hT1 hc1;go_upto_region 4 with fail;go_quiet (fail);go_wp2
  refine bodyPost_ret (v:=.tuple #[.slice none 0 0,.slice none 0 0,int i64 5,int i64 1]) (by simp[results,results54,go_sem]) rfl ⟨.slice none 0 0,.slice none 0 0,5,1,rfl,?_,Zt (by rw[HR.out];exact HB1.out)⟩;unfold Zcm;rw[hRS.out];exact⟨rfl,rfl,rfl,rfl⟩
 | some q=>
  obtain⟨ns0,b⟩:=q;obtain⟨c,rfl,hc60⟩:∃ c:Nat,ns0=[(c:Int)]/\c<=60:=by
   obtain⟨f1,f2,f3⟩:=Zbg.1 HE1.out;match ns0,f1 with
   | [m],_=>
    have hm:=f2 m (by simp);exact⟨m.toNat,by rw[show ((m.toNat:Nat):Int)=m by omega],by omega⟩
  have HBL:Hid (b.length<=s.length):=by have:=Zgc HE1.out;unfold Hid;omega
  have hH:Hid (hd1 s=((Zr (-8000) 8000 2 c b).1,(Zr (-8000) 8000 2 c b).2.1,(Zr (-8000) 8000 2 c b).2.2,if (Zr (-8000) 8000 2 c b).2.2 then (Zr (-8000) 8000 2 c b).1.length+1 else (Zr (-8000) 8000 2 c b).1.length+2)):=by
   unfold Hid hd1 Ym;rw[HE1.out];rfl
  go_upto_region 3 with (go_at_call 96;refine HL1.out.mono ?_;rintro x Y ⟨hc1,na,nc,rfl,hn1,hT1⟩);obtain⟨gn,rfl,hgn,hgb,hcn⟩:=Zkd hn1 (by simp);have cn0:Y.cell? ⟨gn,0,none⟩=some (int i64 (c:Int)):=by have:=hcn 0 (by simp);simpa using this
  have HB1:Hid (Below R w Y):=HB0.out.trans (hc1.below (by have:=HSZ.out;omega) fun k hk hF=>by omega);have HT1:=Lib.hid hT1;have hR1:R<Y.heap.size:=Zh hT1;have hgR:gn≠R:=by have:=HSZ.out;omega
  have HCN:=Lib.hid cn0;clear hT1 hc1 hn1 hcn cn0 HL1 HE1;go_wp2_with fail
  go_loopw [9,10,11,12] (fun s9 s10 _ _ wr=>∃ (i:Nat) (Z:List UInt8) (D:List (List Int)),i<=c/\s10=int i64 i/\Za5 (-8000) 8000 2 c b i Z D/\wr.ownsRow Y.heap.size 37 2 s9 D.length (Zg (Xy D))/\TAt wr R Z (1+i)/\Chg (fun k=>k=R) Y wr) (fun _ s10 _ _ _=>c-(intOf s10).toNat)
  case atStart=>exact⟨0,b,[],Nat.zero_le _,rfl,Za5.start,World.ownsRow_nil _ _ _ _,by simpa using HT1.out,Chg.refl _ _⟩
  case round=>
   obtain⟨i,Z,D,hic,rfl,hI,hO,hTA,hCh⟩:=hrel;have HI:=Lib.hid hI;have HTA:=Lib.hid hTA;have HCH:=Lib.hid hCh;have HOW:=Lib.hid hO;have cn:wr.cell? ⟨gn,0,none⟩=some (int i64 (c:Int)):=(hCh.cell hgn hgR).trans HCN.out;have hgn2:gn<wr.heap.size:=L3 hgn hCh.size;obtain⟨va,vc,rfl⟩:=Zn hO;clear hI hTA hCh hO;by_cases hlt:i<c
   ·have y1:(i:Int)<(c:Int):=by omega
    have yi:IntKind.i64.wrap ((i:Int)+1)=(i:Int)+1:=Zd (by omega) (by omega);have HL2:=Lib.hid (Zjq R 2 Z (1+i) (-8000) 8000 wr HTA.out (by omega) (by have:=HI.out.2.1;have:=HBL.out;have:=HS.out;omega) (by omega) (by omega));obtain⟨r2,e2⟩:∃ r2,X0 (-8000) 8000 2 Z=r2:=⟨_,rfl⟩;rw[e2] at HL2;have HE2:Hid (Z3 (-8000) 8000 2 Z=r2):=by unfold Hid;rw[<-e2];exact (Zjo _ _ 1 Z).symm
    clear e2;cases r2 with
    | none=>
     have hRS:Hid (Xb s= .inr (i+2)):=by
      have hB:=HI.out.bad hlt HE2.out;have hd:hd1 s=(D,Z,false,D.length+2):=by rw[hH.out,hB];rfl
      have:=Zl1 (s:=s) (by rw[hd]);rw[hd] at this;unfold Hid;rw[this,HI.out.1]
     go_upto_region 10 with (go_at_call 96;refine HL2.out.mono ?_;rintro x w2 ⟨hc2,rfl,s2,hT2⟩);obtain⟨_,q1,_,_⟩:=hT2.cells;have q1':w2.cell? ⟨R,1,none⟩=some (int i64 ((i+2:Nat):Int)):=by rw[q1];congr 2;omega
     have HB2:Hid (Below R w w2):=HB1.out.trans ((HCH.out.trans hc2 fun _ _ h=>h).below (by omega) fun k hk hF=>by omega);clear q1 hT2 hc2 cn;obtain⟨k,ek⟩:∃ k,i+2=k:=⟨_,rfl⟩;rw[ek] at q1' hRS;clear ek;go_upto_region 11 with fail;go_quiet (fail);go_wp2
     refine bodyPost_ret (v:=.tuple #[.slice none 0 0,.slice none 0 0,int i64 5,int i64 (k:Int)]) (by simp[results,results54,go_sem]) rfl ⟨.slice none 0 0,.slice none 0 0,5,k,rfl,?_,Zt (by rw[HR.out];exact HB2.out)⟩;unfold Zcm;rw[hRS.out];exact⟨rfl,rfl,rfl,rfl⟩
    | some q2=>
     obtain⟨J,sj⟩:=q2;have hns:J.length=2:=(Zbg.1 HE2.out).1;have HI2:=Lib.hid (HI.out.step hlt HE2.out (Zgc HE2.out));go_upto_region 10 with (go_at_call 96;refine HL2.out.mono ?_;rintro x w2 ⟨hc2,pa,pc,rfl,hp2,hT2⟩);obtain⟨I,rfl,hgp,hgpb,hcp⟩:=Zkd hp2 (by omega);have p0:=hcp 0 (by omega);have p1:=hcp 1 (by omega);have HSN:Hid (Zg (Xy (D ++ [J]))=Zg (Xy D) ++ [int i64 (J.getD 0 0),int i64 (J.getD 1 0)]):=by unfold Hid;rw[Zqk,Zql]
     generalize J.getD 0 0=x at *
     generalize J.getD 1 0=y at *
     have HO2:Hid (w2.ownsRow Y.heap.size 37 2 (.slice va D.length vc) D.length (Zg (Xy D))):=Chg.own HOW.out hc2 hR1;have HC2:Hid (Chg (fun k=>k=R) Y w2):=HCH.out.trans hc2 fun _ _ h=>h
     have HT2:=Lib.hid hT2;have hWs:Y.heap.size<=w2.heap.size:=HC2.out.size;have hr60:D.length<=60:=by have:=HI.out.1;omega
     have HP:=Lib.hid (And.intro p0 p1);clear hp2 hT2 hc2 hcp cn p0 p1 HL2 HE2;go_upto_region 12 with fail;refine Zr8 (m:=8) (by kernel_rfl) (by kernel_rfl) (dsts:=[some 51,some 52,some 53,some 54,some 55,some 56,some 57,some 58,some 59]) rfl (by kernel_rfl) (l:=_) rfl rfl
      (fun j=>match j with|0=>.slice va D.length vc|1=>.slice (some ⟨I,0,none⟩) 2 pc|2=>.pointer (some ⟨I,0,none⟩)|3=>int i64 x|4=>.slice (some ⟨I,0,none⟩) 2 pc|5=>.pointer (some ⟨I,1,none⟩)|6=>int i64 y|_=>.agg #[int i64 x,int i64 y])
      (.cells #[int i64 x,int i64 y] 37) (.slice (some ⟨w2.heap.size,0,none⟩) 1 1) ?_ ?_ ?_
     ·refine flS (flS (flS (flS (flS (flS (flS (flS fl0 ?_) ?_) ?_) ?_) ?_) ?_) ?_) ?_;all_goals intro σ W hW O
      ·exact Z8 (x:=.tmp 9) rfl rfl ⟨rfl,rfl⟩
      ·exact Z8 (x:=.tmp 11) rfl rfl ⟨rfl,rfl⟩
      ·exact Zb4 (T:=26) (x:=.tmp 52) (y:=.const (int i64 0)) rfl (show σ 1=_ from O 1 rfl (by omega)) rfl (Zhj W I 2 pc 0 (by omega)) ⟨rfl,rfl⟩
      ·exact Yr (T:=3) (x:=.tmp 53) rfl (show σ 2=_ from O 2 rfl (by omega)) (Zd2 W I 0 _ ((hW I 0 hgp).trans HP.out.1)) ⟨rfl,rfl⟩
      ·exact Z8 (x:=.tmp 11) rfl rfl ⟨rfl,rfl⟩
      ·exact Zb4 (T:=26) (x:=.tmp 55) (y:=.const (int i64 1)) rfl (show σ 4=_ from O 4 rfl (by omega)) rfl (Zhj W I 2 pc 1 (by omega)) ⟨rfl,rfl⟩
      ·exact Yr (T:=3) (x:=.tmp 56) rfl (show σ 5=_ from O 5 rfl (by omega)) (Zd2 W I 1 _ ((hW I 1 hgp).trans HP.out.2)) ⟨rfl,rfl⟩
      ·exact Z11 (T:=37) (x:=.tmp 54) (y:=.tmp 57) rfl (show σ 3=_ from O 3 rfl (by omega)) (show σ 6=_ from O 6 rfl (by omega)) (Z13 W x y) ⟨rfl,rfl⟩
     ·intro σ O;exact Zfr (T:=41) (x:=.tmp 58) rfl (show σ 7=_ from O 7 rfl (by omega)) (Z15 w2.drew x y) ⟨rfl,rfl⟩
     ·refine⟨?_⟩;simp only[lay,Act.put,List.drop_succ_cons,List.drop_zero,List.setIfInBounds_toArray,List.set_cons_succ,List.set_cons_zero];have HN3:Hid (∀ j u,[Value.int .i64 x,int i64 y][j]? =some u->(w2.drew.alloc (.cells #[int i64 x,int i64 y] 37)).cell? ((⟨w2.heap.size,0,none⟩:Addr).add j)=some u):=Zqm w2.drew _ _ _;have hO2d:w2.drew.ownsRow Y.heap.size 37 2 (.slice va D.length vc) D.length (Zg (Xy D)):=Z9 HO2.out fun g hg=>rfl
      have HO2d:=Lib.hid hO2d;clear hO2d;go_wp2_with (at_builtin;refine Xv _ (by rfl) (.tmp 51) (.tmp 59) 41 (by rfl) Y.heap.size 37 iP (.agg #[int i64 0,int i64 0]) 2 16 underlying41 hiP hzP hsP hbP rfl (by decide) _ _ _ (by rfl) (Yt HO2d.out (Zb _ _)) ⟨w2.heap.size,0,none⟩ 1 1 [int i64 x,int i64 y] (by rfl) rfl HN3.out ?c2 (by decide) ?c3 ?c4 ?c5 (w2.heap.size+1) ?c6 ?_)
      case c2=>intro u hu;simp at hu;rcases hu with rfl|rfl <;> rfl
      case c3=>unfold maxLen;omega
      case c4=>omega
      case c5=>simp;omega
      case c6=>simp
      ·intro g2 cap2 w3 hown3 hat3 hlt3;have HF:Hid (w3.ownsRow Y.heap.size 37 2 (.slice (some ⟨g2,0,none⟩) (D.length+1) cap2) (D ++ [J]).length (Zg (Xy (D ++ [J])))/\TAt w3 R sj (1+((i+1:Nat):Int))/\Chg (fun k=>k=R) Y w3):=by
        obtain⟨h1,h2⟩:=Zmb (W:=w2.drew) (R:=R) HC2.out.drew (Zh HT2.out) hR1 hown3 hat3;refine⟨?_,?_,h1⟩
        ·rw[HSN.out,List.length_append];exact hown3
        ·have:=HT2.out.chg (w':=w3) h2;rw[show (1:Int)+((i+1:Nat):Int)=1+(i:Int)+1 by omega];exact this
       clear hown3 hat3 HN3;go_wp2
       go_roundw;case rel=>exact⟨i+1,sj,D ++ [J],by omega,by go_num,HI2.out,by simpa using HF.out.1,HF.out.2.1,HF.out.2.2⟩
       case measure=>simp[intOf];omega
   ·have e:i=c:=by omega
    subst e;have y1:¬ (i:Int)<(i:Int):=by omega
    have hRl:D.length=i:=HI.out.1;have HD1:Hid (hd1 s=(D,Z,true,D.length+1)):=by unfold Hid;rw[hH.out,HI.out.all];rfl
    have HSL:Hid (Z.length<=s.length):=by have:=HI.out.2.1;have:=HBL.out;unfold Hid;omega
    have HB2:Hid (Below R w wr):=HB1.out.trans (HCH.out.below (by omega) fun k hk hF=>by omega);have hRr:R<wr.heap.size:=Zh HTA.out;have hmt:(D.length=0/\Y7 D.length=0)\/(¬ D.length=0/\Y7 D.length=9223372036854775807):=by
     unfold Y7;by_cases h:D.length=0
     ·left;exact⟨h,if_pos h⟩
     ·right;exact⟨h,if_neg h⟩
    have HTA2:Hid (TAt wr R Z ((D.length+1:Nat):Int)):=by
     have:=HTA.out;unfold Hid;rw[show ((D.length+1:Nat):Int)=1+(i:Int) by omega];exact this
    have hpn:D.length<=60:=by omega
    clear hH HI HTA HCN hRl;go_upto_if 63 with fail;clear cn hgn hgn2 hgR hgb HT1;go_cut [13] (fun s13 wx=>s13=int i64 (Y7 D.length)/\wx=wr)
    case first=>
     rcases hmt with ⟨h0,h1⟩|⟨h0,h1⟩
     ·have h0':((D.length:Int) == 0)=true:=by simp;exact List.length_eq_zero_iff.1 h0
      have H1:=Lib.hid h1;clear h0 h1;go_wp2
      go_meet;case rel=>exact⟨by rw[H1.out],rfl⟩
     ·have h0':¬ (D.length:Int)=0:=by omega
      go_wp2
      go_meet;case rel=>exact⟨by rw[h1],rfl⟩
    case rest=>
     obtain⟨rfl,rfl⟩:=hcut;clear hmt;have HL3:=Lib.hid (Zjq R 1 Z ((D.length+1:Nat):Int) 0 (Y7 D.length) wc HTA2.out (by omega) (by have:=HSL.out;have:=HS.out;omega) (by omega) (by omega));obtain⟨r3,e3⟩:∃ r3,X0 0 (Y7 D.length) 1 Z=r3:=⟨_,rfl⟩;rw[e3] at HL3;have HE3:Hid (Z3 0 (Y7 D.length) 1 Z=r3):=by unfold Hid;rw[<-e3];exact (Zjo _ _ 0 Z).symm
     have H11:Hid ((hd1 s).2.2.1=true):=by unfold Hid;rw[HD1.out]
     clear e3;cases r3 with
     | none=>
      have hRS:Hid (Xb s= .inr (D.length+2)):=by
       have h2:hd2 s=([],Z,false,1):=by unfold hd2 Ym;rw[HD1.out];simp only;rw[HE3.out]
       have:=Zl3 (s:=s) H11.out (by rw[h2]);rw[h2,HD1.out] at this;exact this
      go_upto_region 17 with (go_at_call 96;refine HL3.out.mono ?_;rintro x w5 ⟨hc5,rfl,s5,hT5⟩);obtain⟨_,q1,_,_⟩:=hT5.cells;have q1':w5.cell? ⟨R,1,none⟩=some (int i64 ((D.length+2:Nat):Int)):=by rw[q1];congr 2
      have HB5:Hid (Below R w w5):=HB2.out.trans (hc5.below (by omega) fun k hk hF=>by omega);clear q1 hT5 hc5;obtain⟨k,ek⟩:∃ k,D.length+2=k:=⟨_,rfl⟩;rw[ek] at q1' hRS;clear ek;go_upto_region 18 with fail;go_quiet (fail);go_wp2
      refine bodyPost_ret (v:=.tuple #[.slice none 0 0,.slice none 0 0,int i64 5,int i64 (k:Int)]) (by simp[results,results54,go_sem]) rfl ⟨.slice none 0 0,.slice none 0 0,5,k,rfl,?_,Zt (by rw[HR.out];exact HB5.out)⟩;unfold Zcm;rw[hRS.out];exact⟨rfl,rfl,rfl,rfl⟩
     | some q3=>
      obtain⟨ns3,b2⟩:=q3;obtain⟨m,rfl⟩:∃ m:Nat,ns3=[(m:Int)]:=by
       obtain⟨f1,f2,f3⟩:=Zbg.1 HE3.out;match ns3,f1 with
       | [z],_=>
        have hm:=f2 z (by simp);exact⟨z.toNat,by rw[show ((z.toNat:Nat):Int)=z by omega]⟩
      have HB2L:Hid (b2.length<=s.length):=by have:=Zgc HE3.out;have:=HSL.out;unfold Hid;omega
      have hH2:Hid (hd2 s=((Zr 0 ((D.length:Int)-1) 3 m b2).1,(Zr 0 ((D.length:Int)-1) 3 m b2).2.1,(Zr 0 ((D.length:Int)-1) 3 m b2).2.2,if (Zr 0 ((D.length:Int)-1) 3 m b2).2.2 then (Zr 0 ((D.length:Int)-1) 3 m b2).1.length+1 else (Zr 0 ((D.length:Int)-1) 3 m b2).1.length+2)):=by
       unfold Hid hd2 Ym;rw[HD1.out];simp only;rw[HE3.out];rfl
      go_upto_region 17 with (go_at_call 96;refine HL3.out.mono ?_;rintro x w5 ⟨hc5,ma,mc,rfl,hm5,hT5⟩);obtain⟨gm,rfl,hgm,hgmb,hcm⟩:=Zkd hm5 (by simp);have cm0:w5.cell? ⟨gm,0,none⟩=some (int i64 (m:Int)):=by have:=hcm 0 (by simp);simpa using this
      have HB5:Hid (Below R w w5):=HB2.out.trans (hc5.below (by omega) fun k hk hF=>by omega);have HT5:=Lib.hid hT5;have HO5:Hid (w5.ownsRow Y.heap.size 37 2 (.slice va D.length vc) D.length (Zg (Xy D))):=Chg.own HOW.out hc5 hR1;have hR5:R<w5.heap.size:=Zh hT5;have hw15:Y.heap.size<=w5.heap.size:=Nat.le_trans HCH.out.size hc5.size;have hgmR:gm≠R:=by omega
      have HCM:=Lib.hid cm0;have ypn:IntKind.i64.wrap ((D.length:Int)-1)=(D.length:Int)-1:=Zd (by omega) (by omega);clear hT5 hc5 hm5 hcm cm0 HL3 HE3 HOW HCH HB2 HTA2;go_wp2_with fail
      go_loopw [15,16,17,18] (fun s15 s16 _ _ wr=>∃ (j:Nat) (sj:List UInt8) (ts:List (List Int)),j<=m/\s16=int i64 j/\Za5 0 ((D.length:Int)-1) 3 m b2 j sj ts/\wr.ownsRow w5.heap.size 53 3 s15 ts.length (Zac ts)/\TAt wr R sj (((D.length+2:Nat):Int)+j)/\Chg (fun k=>k=R) w5 wr) (fun _ s16 _ _ _=>m-(intOf s16).toNat)
      case atStart => exact ⟨0, b2, [], Nat.zero_le _, rfl, Za5.start, World.ownsRow_nil _ _ _ _, by
        have := HT5.out
        rw [show ((D.length + 2 : Nat) : Int) + ((0 : Nat) : Int) = ((D.length + 1 : Nat) : Int) + 1 by omega]; exact this, Chg.refl _ _⟩
      case round=>
       obtain⟨j,sj,ts,hjm,rfl,hI,hO,hTA,hCh⟩:=hrel;have HI:=Lib.hid hI;have HTA:=Lib.hid hTA;have HCH:=Lib.hid hCh;have HOW:=Lib.hid hO;have cm:wr.cell? ⟨gm,0,none⟩=some (int i64 (m:Int)):=(hCh.cell hgm hgmR).trans HCM.out;have hgm2:gm<wr.heap.size:=L3 hgm hCh.size;obtain⟨ta,tc,rfl⟩:=Zn hO;have hjb:j<=1000000000:=by have:=hI.2.1;have:=HB2L.out;have:=HS.out;omega
       have HJL:=Lib.hid hI.1;clear hI hTA hCh hO;by_cases hlt:j<m
       ·have y1:(j:Int)<(m:Int):=by omega
        have yi:IntKind.i64.wrap ((j:Int)+1)=(j:Int)+1:=Zd (by omega) (by omega);have HL4:=Lib.hid (Zjq R 3 sj (((D.length+2:Nat):Int)+j) 0 ((D.length:Int)-1) wr HTA.out (by omega) (by have:=HI.out.2.1;have:=HB2L.out;have:=HS.out;omega) (by omega) (by omega));obtain⟨r4,e4⟩:∃ r4,X0 0 ((D.length:Int)-1) 3 sj=r4:=⟨_,rfl⟩;rw[e4] at HL4;have HE4:Hid (Z3 0 ((D.length:Int)-1) 3 sj=r4):=by unfold Hid;rw[<-e4];exact (Zjo _ _ 2 sj).symm
        clear e4;cases r4 with
        | none=>
         have hRS:Hid (Xb s= .inr (D.length+3+j)):=by
          have hB:=HI.out.bad hlt HE4.out;have h2:hd2 s=(ts,sj,false,ts.length+2):=by rw[hH2.out,hB];rfl
          have:=Zl3 (s:=s) H11.out (by rw[h2]);rw[h2,HD1.out] at this;unfold Hid;rw[this];congr 1;have:=HJL.out;simp only;omega
         go_upto_region 24 with (go_at_call 96;refine HL4.out.mono ?_;rintro x w6 ⟨hc6,rfl,s6,hT6⟩);obtain⟨_,q1,_,_⟩:=hT6.cells;have q1':w6.cell? ⟨R,1,none⟩=some (int i64 ((D.length+3+j:Nat):Int)):=by rw[q1];congr 2;omega
         have HB6:Hid (Below R w w6):=HB5.out.trans ((HCH.out.trans hc6 fun _ _ h=>h).below (by omega) fun k hk hF=>by omega);clear q1 hT6 hc6 cm;obtain⟨k,ek⟩:∃ k,D.length+3+j=k:=⟨_,rfl⟩;rw[ek] at q1' hRS;clear ek;go_upto_region 25 with fail;go_quiet (fail);go_wp2
         refine bodyPost_ret (v:=.tuple #[.slice none 0 0,.slice none 0 0,int i64 5,int i64 (k:Int)]) (by simp[results,results54,go_sem]) rfl ⟨.slice none 0 0,.slice none 0 0,5,k,rfl,?_,Zt (by rw[HR.out];exact HB6.out)⟩;unfold Zcm;rw[hRS.out];exact⟨rfl,rfl,rfl,rfl⟩
        | some q4=>
         obtain⟨J,sk⟩:=q4;have hns:J.length=3:=(Zbg.1 HE4.out).1;have HI2:=Lib.hid (HI.out.step hlt HE4.out (Zgc HE4.out));go_upto_region 24 with (go_at_call 96;refine HL4.out.mono ?_;rintro x w6 ⟨hc6,pa,pc,rfl,hp6,hT6⟩);obtain⟨I,rfl,hgp,hgpb,hcp⟩:=Zkd hp6 (by omega);have p0:=hcp 0 (by omega);have p1:=hcp 1 (by omega);have p2:=hcp 2 (by omega);have HSN:Hid (Zac (ts ++ [J])=Zac ts ++ [int i64 (J.getD 0 0),int i64 (J.getD 1 0),int i64 (J.getD 2 0)]):=Zqn _ _;generalize J.getD 0 0=x at *
         generalize J.getD 1 0=y at *
         generalize J.getD 2 0=z at *
         have HO6:Hid (w6.ownsRow w5.heap.size 53 3 (.slice ta ts.length tc) ts.length (Zac ts)):=Chg.own HOW.out hc6 hR5;have HC6:Hid (Chg (fun k=>k=R) w5 w6):=HCH.out.trans hc6 fun _ _ h=>h
         have HT6:=Lib.hid hT6;have hWs:w5.heap.size<=w6.heap.size:=HC6.out.size;have HP:=Lib.hid (And.intro p0 (And.intro p1 p2));clear hp6 hT6 hc6 hcp cm p0 p1 p2 HL4 HE4;go_upto_region 26 with fail;refine Zr8 (m:=11) (by kernel_rfl) (by kernel_rfl) (dsts:=[some 97,some 98,some 99,some 100,some 101,some 102,some 103,some 104,some 105,some 106,some 107,some 108]) rfl (by kernel_rfl) (l:=_) rfl rfl
          (fun j=>match j with|0=>.slice ta ts.length tc|1=>.slice (some ⟨I,0,none⟩) 3 pc|2=>.pointer (some ⟨I,0,none⟩)|3=>int i64 x|4=>.slice (some ⟨I,0,none⟩) 3 pc|5=>.pointer (some ⟨I,1,none⟩)|6=>int i64 y|7=>.slice (some ⟨I,0,none⟩) 3 pc|8=>.pointer (some ⟨I,2,none⟩)|9=>int i64 z|_=>.agg #[int i64 x,int i64 y,int i64 z])
          (.cells #[int i64 x,int i64 y,int i64 z] 53) (.slice (some ⟨w6.heap.size,0,none⟩) 1 1) ?_ ?_ ?_
         ·refine flS (flS (flS (flS (flS (flS (flS (flS (flS (flS (flS fl0 ?_) ?_) ?_) ?_) ?_) ?_) ?_) ?_) ?_) ?_) ?_;all_goals intro σ W hW O
          ·exact Z8 (x:=.tmp 15) rfl rfl ⟨rfl,rfl⟩
          ·exact Z8 (x:=.tmp 17) rfl rfl ⟨rfl,rfl⟩
          ·exact Zb4 (T:=26) (x:=.tmp 98) (y:=.const (int i64 0)) rfl (show σ 1=_ from O 1 rfl (by omega)) rfl (Zhj W I 3 pc 0 (by omega)) ⟨rfl,rfl⟩
          ·exact Yr (T:=3) (x:=.tmp 99) rfl (show σ 2=_ from O 2 rfl (by omega)) (Zd2 W I 0 _ ((hW I 0 hgp).trans HP.out.1)) ⟨rfl,rfl⟩
          ·exact Z8 (x:=.tmp 17) rfl rfl ⟨rfl,rfl⟩
          ·exact Zb4 (T:=26) (x:=.tmp 101) (y:=.const (int i64 1)) rfl (show σ 4=_ from O 4 rfl (by omega)) rfl (Zhj W I 3 pc 1 (by omega)) ⟨rfl,rfl⟩
          ·exact Yr (T:=3) (x:=.tmp 102) rfl (show σ 5=_ from O 5 rfl (by omega)) (Zd2 W I 1 _ ((hW I 1 hgp).trans HP.out.2.1)) ⟨rfl,rfl⟩
          ·exact Z8 (x:=.tmp 17) rfl rfl ⟨rfl,rfl⟩
          ·exact Zb4 (T:=26) (x:=.tmp 104) (y:=.const (int i64 2)) rfl (show σ 7=_ from O 7 rfl (by omega)) rfl (Zhj W I 3 pc 2 (by omega)) ⟨rfl,rfl⟩
          ·exact Yr (T:=3) (x:=.tmp 105) rfl (show σ 8=_ from O 8 rfl (by omega)) (Zd2 W I 2 _ ((hW I 2 hgp).trans HP.out.2.2)) ⟨rfl,rfl⟩
          ·exact Z12 (T:=53) (x:=.tmp 100) (y:=.tmp 103) (z:=.tmp 106) rfl (show σ 3=_ from O 3 rfl (by omega)) (show σ 6=_ from O 6 rfl (by omega)) (show σ 9=_ from O 9 rfl (by omega)) (Z14 W x y z) ⟨rfl,rfl⟩
         ·intro σ O;exact Zfr (T:=42) (x:=.tmp 107) rfl (show σ 10=_ from O 10 rfl (by omega)) (Z16 w6.drew x y z) ⟨rfl,rfl⟩
         ·refine⟨?_⟩;simp only[lay,Act.put,List.drop_succ_cons,List.drop_zero,List.setIfInBounds_toArray,List.set_cons_succ,List.set_cons_zero];have HN3:Hid (∀ j u,[Value.int .i64 x,int i64 y,int i64 z][j]? =some u->(w6.drew.alloc (.cells #[int i64 x,int i64 y,int i64 z] 53)).cell? ((⟨w6.heap.size,0,none⟩:Addr).add j)=some u):=Zqo w6.drew _ _ _ _;have hO6d:w6.drew.ownsRow w5.heap.size 53 3 (.slice ta ts.length tc) ts.length (Zac ts):=Z9 HO6.out fun g hg=>rfl
          have HO6d:=Lib.hid hO6d;clear hO6d;go_wp2_with (at_builtin;refine Xv _ (by rfl) (.tmp 97) (.tmp 108) 42 (by rfl) w5.heap.size 53 iT (.agg #[int i64 0,int i64 0,int i64 0]) 3 24 underlying42 hiT hzT hsT hbT rfl (by decide) _ _ _ (by rfl) (Yt HO6d.out (Zb _ _)) ⟨w6.heap.size,0,none⟩ 1 1 [int i64 x,int i64 y,int i64 z] (by rfl) rfl HN3.out ?c2 (by decide) ?c3 ?c4 ?c5 (w6.heap.size+1) ?c6 ?_)
          case c2=>intro u hu;simp at hu;rcases hu with rfl|rfl|rfl <;> rfl
          case c3=>have:=HJL.out;unfold maxLen;omega
          case c4=>have:=HJL.out;omega
          case c5=>simp;omega
          case c6=>simp
          ·intro g2 cap2 w7 hown7 hat7 hlt7;have HF:Hid (w7.ownsRow w5.heap.size 53 3 (.slice (some ⟨g2,0,none⟩) (ts.length+1) cap2) (ts ++ [J]).length (Zac (ts ++ [J]))/\TAt w7 R sk (((D.length+2:Nat):Int)+((j+1:Nat):Int))/\Chg (fun k=>k=R) w5 w7):=by
            obtain⟨h1,h2⟩:=Zmb (W:=w6.drew) (R:=R) HC6.out.drew (Zh HT6.out) hR5 hown7 hat7;refine⟨?_,?_,h1⟩
            ·rw[HSN.out,List.length_append];exact hown7
            ·have:=HT6.out.chg (w':=w7) h2;rw[show ((D.length+2:Nat):Int)+((j+1:Nat):Int)=((D.length+2:Nat):Int)+(j:Int)+1 by omega];exact this
           clear hown7 hat7 HN3;go_wp2
           go_roundw;case rel=>exact⟨j+1,sk,ts ++ [J],by omega,by go_num,HI2.out,by simpa using HF.out.1,HF.out.2.1,HF.out.2.2⟩
           case measure=>simp[intOf];omega
       ·have e:j=m:=by omega
        subst e;have y1:¬ (j:Int)<(j:Int):=by omega
        have h2:hd2 s=(ts,sj,true,ts.length+1):=by rw[hH2.out,HI.out.all];rfl
        have HG:Hid (Zde s= .good D ts sj):=by
         have:=(Zqp (s:=s) H11.out (by rw[h2])).1;rw[h2,HD1.out] at this;exact this
        have HOP:Hid (wr.ownsRow R 37 2 (.slice va D.length vc) D.length (Zg (Xy D))/\wr.ownsRow R 53 3 (.slice ta ts.length tc) ts.length (Zac ts)):=
         ⟨Zjh (Z9 HO5.out fun g hg=>HCH.out.far g (Zx HO5.out hg) (by have:=(HO5.out.lt g hg).1;omega)) (by omega),Zjh HOW.out (by omega)⟩
        have HB7:Hid (Below R w wr):=HB5.out.trans (HCH.out.below (by omega) fun k hk hF=>by omega);obtain⟨q0,q1,_,_⟩:=HTA.out.cells;obtain⟨k,ek⟩:∃ k,D.length+2+j=k:=⟨_,rfl⟩;have q1':wr.cell? ⟨R,1,none⟩=some (int i64 (k:Int)):=by rw[q1];congr 2;omega
        have HEK:Hid (D.length+ts.length+2=k):=by have:=HJL.out;unfold Hid;omega
        have yk:IntKind.i64.wrap ((k:Int)+1)=(k:Int)+1:=Zd (by omega) (by omega);clear q1 ek h2 HTA HI hH2 HO5 HOW HCH;cases sj with
        | nil=>
         have hRS:Hid (Xb s= .inl (D,ts)):=by unfold Hid Xb;rw[HG.out]
         go_wp2
         refine bodyPost_ret (v:=.tuple #[.slice va D.length vc,.slice ta ts.length tc,int i64 0,int i64 0]) (by simp[results,results54,go_sem]) rfl ⟨.slice va D.length vc,.slice ta ts.length tc,0,0,rfl,?_,by rw[HR.out];exact HB7.out⟩;unfold Zcm;rw[hRS.out,HR.out];exact⟨rfl,rfl,HOP.out.1,HOP.out.2⟩
        | cons c0 r0=>
         have hRS:Hid (Xb s= .inr (k+1)):=by unfold Hid Xb;rw[HG.out,<-HEK.out]
         go_upto_region 28 with fail;go_quiet (fail);go_wp2
         refine bodyPost_ret (v:=.tuple #[.slice none 0 0,.slice none 0 0,int i64 5,int i64 ((k:Int)+1)]) (by simp[results,results54,go_sem]) rfl ⟨.slice none 0 0,.slice none 0 0,5,(k:Int)+1,rfl,?_,Zt (by rw[HR.out];exact HB7.out)⟩;unfold Zcm;rw[hRS.out];exact⟨rfl,by simp,rfl,rfl⟩
theorem Zr9 {n:Nat}{t:T3}:Zay n t=true↔∀ k,k<3->0<=Zl t k/\Zl t k<n:=by
 unfold Zay;simp only[Bool.and_eq_true,decide_eq_true_eq];constructor
 ·rintro⟨⟨a,b,c⟩,d,e,f⟩ k O;match k,O with
  | 0,_=>exact⟨a,d⟩
  | 1,_=>exact⟨b,e⟩
  | 2,_=>exact⟨c,f⟩
 ·intro h;have I:=h 0 (by omega);have J:=h 1 (by omega);have D:=h 2 (by omega);exact⟨⟨I.1,J.1,D.1⟩,I.2,J.2,D.2⟩
theorem Z18 {l:List Pt}{ts:List T3}(h:60<l.length):Zap l ts= .tuple #[bs [],int i64 2]:=by
 have:Zad l ts=2:=by unfold Zad Zb6;simp[h]
 unfold Zap;rw[if_neg (by omega),this]
theorem Z19 {l:List Pt}{ts:List T3}(h:¬ 60<l.length){p:Pt}(D:p∈l)(e:Zc p.1 p.2=true):Zap l ts= .tuple #[bs [],int i64 1]:=by
 have I:Ya l=true:=List.any_eq_true.2 ⟨p,D,e⟩;have:Zad l ts=1:=by unfold Zad Zb6;simp[h,I]
 unfold Zap;rw[if_neg (by omega),this]
theorem Zsa {l:List Pt}(h:∀ p∈l,Zc p.1 p.2=false):Ya l=false:=List.any_eq_false.2 fun p e=>by rw[h p e];simp
theorem Z2a {l:List Pt}{ts:List T3}(h:¬ 60<l.length)(I:∀ p∈l,Zc p.1 p.2=false){t:T3}(J:t∈ts)(e:Zay l.length t=false):Zap l ts= .tuple #[bs [],int i64 4]:=by
 have D:Za6 l.length ts=true:=List.any_eq_true.2 ⟨t,J,by rw[e];rfl⟩;have:Zad l ts=4:=by unfold Zad Zb6;simp[h,Zsa I,D]
 unfold Zap;rw[if_neg (by omega),this]
theorem Z2b {l:List Pt}{ts:List T3}(h:¬ 60<l.length)(D:∀ p∈l,Zc p.1 p.2=false)(I:∀ t∈ts,Zay l.length t=true):Zap l ts= .tuple #[bs (Zav (Yb l) (Yf ts)),int i64 0]:=by
 have e:Za6 l.length ts=false:=List.any_eq_false.2 fun t h=>by rw[I t h];simp
 have:Zad l ts=0:=by unfold Zad Zb6;simp[h,Zsa D,e]
 unfold Zap;rw[if_pos this]
theorem Zke {α:Type}{l:List α}{i:Nat}(d:α)(h:i<l.length):l.take (i+1)=l.take i ++ [l.getD i d]:=by
 rw[List.take_add_one,List.getElem?_eq_getElem h];simp[h]
theorem Z2c {l:List Pt}{i:Nat}(h:i<l.length):Zs (Yb (l.take (i+1)))=Zs (Yb (l.take i)) ++ (Lib.itoa (l.getD i (0,0)).1 ++ 32 :: (Lib.itoa (l.getD i (0,0)).2 ++ [10])):=by
 rw[Zke (0,0) h,show Yb (l.take i ++ [l.getD i (0,0)])=Yb (l.take i) ++ [[(l.getD i (0,0)).1,(l.getD i (0,0)).2]] by simp[Yb],Zjk];simp[Zq]
theorem Z2d {l:List T3}{i:Nat}(h:i<l.length):Zs (Yf (l.take (i+1)))=Zs (Yf (l.take i)) ++ (Lib.itoa (l.getD i (0,0,0)).1 ++ 32 :: (Lib.itoa (l.getD i (0,0,0)).2.1 ++ 32 :: (Lib.itoa (l.getD i (0,0,0)).2.2 ++ [10]))):=by
 rw[Zke (0,0,0) h,show Yf (l.take i ++ [l.getD i (0,0,0)])=Yf (l.take i) ++ [[(l.getD i (0,0,0)).1,(l.getD i (0,0,0)).2.1,(l.getD i (0,0,0)).2.2]] by simp[Yf],Zjk];simp[Zq]
abbrev Z2e (a b c:List UInt8):Prop:=∀ W,(Op.stringOp .add ⟨a.toArray⟩ ⟨b.toArray⟩).run prog W= .ok (.string ⟨c.toArray⟩) W
theorem Zcq (a b:List UInt8)(h:a.length<=1000000000000)(e:b.length<=1000000000000):Z2e a b (a ++ b):=fun W=>Zq0 W a b (by omega)
theorem Zsb {l:List Pt}{i:Nat}(h:i<l.length):l.getD i (0,0)∈l:=by
 have:l.getD i (0,0)=l[i]:=by simp[h]
 rw[this];exact List.getElem_mem h
theorem Z2f {l:List T3}{i:Nat}(h:i<l.length):l.getD i (0,0,0)∈l:=by
 have:l.getD i (0,0,0)=l[i]:=by simp[h]
 rw[this];exact List.getElem_mem h
theorem Zsc {x y:Int}(h:Zc x y=false):J64 x/\J64 y:=by
 unfold Zc at h;simp at h;unfold J64;omega
theorem Z2g (pa:Option Addr)(pc:Nat)(l:List Pt)(ta:Option Addr)(tc:Nat)(ts:List T3)(w:World)(hr:Z0 w pa l)(ht:Zak w ta ts)(hts:ts.length<=1000000000) :
  Calls prog 52 #[.slice pa l.length pc,.slice ta ts.length tc] w fun e w'=>e= .returned (Zap l ts)/\Below w.heap.size w w':=by
 by_cases h60:60<l.length
 ·have HV:=Lib.hid (Z18 (ts:=ts) h60);have x0:(60:Int)<(l.length:Int):=by omega
  clear hr ht;go_enter func52,ntmps52;go_wp2
  go_ret2;exact⟨by rw[HV.out];rfl,Below.refl _ _⟩
 have x0:¬ (60:Int)<(l.length:Int):=by omega
 have HTL:=Lib.hid (fun W=>Zgf (l.length:Int) ⟨by omega,by omega⟩ W);have HTT:=Lib.hid (fun W=>Zgf (ts.length:Int) ⟨by omega,by omega⟩ W);have hlL:=Zd3 (n:=(l.length:Int)) ⟨by omega,by omega⟩;have hlT:=Zd3 (n:=(ts.length:Int)) ⟨by omega,by omega⟩;have had0:=Zcq (Lib.itoa (l.length:Int)) [10] (by omega) (by simp);have HR:=Lib.hid (And.intro hr ht);have HHD:Hid (Zq [(l.length:Int)]=Lib.itoa (l.length:Int)/\Zq [(ts.length:Int)]=Lib.itoa (ts.length:Int)):=⟨rfl,rfl⟩;have H60:=Lib.hid h60;have HTS:=Lib.hid hts;clear hr ht h60;generalize Lib.itoa (l.length:Int)=LL at *
 generalize Lib.itoa (ts.length:Int)=LT at *
 go_enter func52,ntmps52;go_wp2_with (go_at_call 95;refine (HTL.out _).mono ?_;rintro e w1 ⟨rfl,m1,rfl⟩)
 go_loopw [6,7,8] (fun s6 s7 _ wr=>∃ i:Nat,i<=l.length/\s7=int i64 i/\s6=bs ((LL ++ [10]) ++ Zs (Yb (l.take i)))/\(∀ p∈l.take i,Zc p.1 p.2=false)/\Below w.heap.size w wr) (fun _ s7 _ _=>l.length-(intOf s7).toNat)
 case atStart=>exact⟨0,Nat.zero_le _,rfl,by simp[Yb,Zs],by simp,Zt (Below.refl _ _)⟩
 case round=>
  obtain⟨i,hi,rfl,rfl,hfar,hb⟩:=hrel;have HFAR:=Lib.hid hfar;have O:=Lib.hid hb;have HLE:Hid (((LL ++ [10]) ++ Zs (Yb (l.take i))).length<=100000):=by
   have h2 := Zjl (Yb (l.take i)) 2 (by omega) (fun r hr => by
     obtain ⟨p, Y, rfl⟩ := List.mem_map.1 hr
     have := Zsc (hfar p Y)
     exact ⟨by simp, by simp; exact this⟩)
   have h3:(Yb (l.take i)).length<=60:=by have:=H60.out;simp[Yb];omega
   unfold Hid;simp only[List.length_append,List.length_cons,List.length_nil];have:(Yb (l.take i)).length*(2*22+1)<=60*45:=Nat.mul_le_mul h3 (by omega);omega
  obtain⟨D,eal⟩:∃ D,(LL ++ [10]) ++ Zs (Yb (l.take i))=D:=⟨_,rfl⟩;have HEA:=Lib.hid eal;rw[eal] at HLE ⊢;clear hfar hb eal had0;by_cases J:i<l.length
  ·have y0:(0:Int)<=(i:Int):=by omega
   have y1:(i:Int)<(l.length:Int):=by omega
   have yi:IntKind.i64.wrap ((i:Int)+1)=(i:Int)+1:=Zd (by omega) (by have:=H60.out;omega);rcases Zji HR.out.1 O.out with h|⟨b,off,rfl,hbl,hpp⟩
   ·rw[h] at J;simp at J
   obtain⟨c0,c1⟩:=hpp i J;have HM:=Lib.hid (Zsb J);have HNX:=Lib.hid (Z2c J);have HC:=Lib.hid (And.intro c0 c1);have HWF:Hid (Zc (l.getD i (0,0)).1 (l.getD i (0,0)).2=true->Zap l ts= .tuple #[bs [],int i64 1]):=fun h=>Z19 H60.out (Zsb J) h
   have HFN:Hid (Zc (l.getD i (0,0)).1 (l.getD i (0,0)).2=false->∀ p∈l.take (i+1),Zc p.1 p.2=false):=fun h p Y=>by
    rw[Zke (0,0) J] at Y;rcases List.mem_append.1 Y with Y|Y
    ·exact HFAR.out p Y
    ·simp only[List.mem_singleton] at Y;subst Y;exact h
   generalize (l.getD i (0,0)).1=x at *
   generalize (l.getD i (0,0)).2=y at *
   have HF:=Lib.hid (fun W=>Zck x y W);obtain⟨f,ef⟩:∃ f,Zc x y=f:=⟨_,rfl⟩;rw[ef] at HF HWF HFN;clear hpp;go_upto_region 8 with (go_at_call 63;refine (HF.out _).mono ?_;rintro e w2 ⟨rfl,hb2⟩);have hb2':Below w.heap.size w w2:=O.out.trans (hb2.mono O.out.size);cases f with
   | true=>
    go_wp2
    go_ret2;exact⟨by rw[HWF.out (by simp)];rfl,hb2'⟩
   | false=>
    obtain⟨jx,jy⟩:=Zsc ef;have d0:=(hb2.cell (p:=⟨b,off+i*2,none⟩) hbl).trans HC.out.1;have d1:=(hb2.cell (p:=⟨b,off+i*2+1,none⟩) hbl).trans HC.out.2;have lx:=Zd3 jx;have ly:=Zd3 jy;have hal:=HLE.out;have a1:=Zcq D (Lib.itoa x) (by omega) (by omega);have a2:=Zcq (D ++ Lib.itoa x) [32] (by simp;omega) (by simp);have a3:=Zcq (D ++ Lib.itoa x ++ [32]) (Lib.itoa y) (by simp;omega) (by omega);have a4:=Zcq (D ++ Lib.itoa x ++ [32] ++ Lib.itoa y) [10] (by simp;omega) (by simp);have HFIN:Hid (D ++ Lib.itoa x ++ [32] ++ Lib.itoa y ++ [10]=(LL ++ [10]) ++ Zs (Yb (l.take (i+1)))):=by
     unfold Hid;rw[HNX.out,<-HEA.out];simp
    generalize D ++ Lib.itoa x ++ [32] ++ Lib.itoa y ++ [10]=A4 at *
    generalize D ++ Lib.itoa x ++ [32] ++ Lib.itoa y=A3 at *
    generalize D ++ Lib.itoa x ++ [32]=A2 at *
    generalize D ++ Lib.itoa x=A1 at *
    clear c0 c1 hb2 ef lx ly hal;go_wp2_with fail
    go_quiet ((go_at_call 95;refine Calls.quiet_of (Zgf _ (by assumption) _)));go_wp2
    go_roundw;case rel=>exact⟨i+1,by omega,by go_num,by rw[<-HFIN.out],HFN.out (by simp),Zt hb2'⟩
    case measure=>simp[intOf];omega
  ·have e:i=l.length:=by omega
   subst e;have y1:¬ (l.length:Int)<(l.length:Int):=by omega
   have HNF:Hid (∀ p∈l,Zc p.1 p.2=false):=by have:=HFAR.out;rw[List.take_length] at this;exact this
   have HEL:Hid (D=(LL ++ [10]) ++ Zs (Yb l)):=by have:=HEA.out;rw[List.take_length] at this;exact this.symm
   have hal:=HLE.out;have a1:=Zcq D LT (by omega) (by omega);have a2:=Zcq (D ++ LT) [10] (by simp;omega) (by simp);have HBL:Hid ((D ++ LT ++ [10]).length<=200000):=by unfold Hid;simp;omega
   have HBD:Hid (Zav (Yb l) (Yf ts)=D ++ LT ++ [10] ++ Zs (Yf ts)):=by
    unfold Hid Zav;rw[HEL.out,show (Yb l).length=l.length by simp[Yb],show (Yf ts).length=ts.length by simp[Yf],HHD.out.1,HHD.out.2];simp
   generalize D ++ LT ++ [10]=A2 at *
   generalize D ++ LT=A1 at *
   clear hal HFAR HEA HLE HEL;go_wp2_with (go_at_call 95;refine (HTT.out _).mono ?_;rintro e w2 ⟨rfl,m2,rfl⟩)
   have HB2:Hid (Below w.heap.size w (wr.drewN m2)):=Zt O.out;clear a1 a2 O;generalize wr.drewN m2=W2 at *
   go_loopw [6,9,10] (fun s6 s9 _ wx=>∃ j:Nat,j<=ts.length/\s9=int i64 j/\s6=bs (A2 ++ Zs (Yf (ts.take j)))/\(∀ t∈ts.take j,Zay l.length t=true)/\Below w.heap.size w wx) (fun _ s9 _ _=>ts.length-(intOf s9).toNat)
   case atStart=>exact⟨0,Nat.zero_le _,rfl,by simp[Yf,Zs],by simp,HB2.out⟩
   case round=>
    obtain⟨j,hj,rfl,rfl,hpl,hb⟩:=hrel;have HPL:=Lib.hid hpl;have O:=Lib.hid hb;have HLE:Hid ((A2 ++ Zs (Yf (ts.take j))).length<=100000000000):=by
     have h2 := Zjl (Yf (ts.take j)) 3 (by omega) (fun r hr => by
       obtain ⟨t, ht, rfl⟩ := List.mem_map.1 hr
       have := hpl t ht
       unfold Zay at this
       simp at this
       exact ⟨by simp, by simp; unfold J64; have := H60.out; omega⟩)
     have h3:(Yf (ts.take j)).length<=1000000000:=by simp[Yf];omega
     have h4:=HBL.out;unfold Hid;simp only[List.length_append];have:(Yf (ts.take j)).length*(3*22+1)<=1000000000*67:=Nat.mul_le_mul h3 (by omega);omega
    obtain⟨I,ebl⟩:∃ I,A2 ++ Zs (Yf (ts.take j))=I:=⟨_,rfl⟩;have HEB:=Lib.hid ebl;rw[ebl] at HLE ⊢;clear hpl hb ebl HB2;by_cases J:j<ts.length
    ·have y0:(0:Int)<=(j:Int):=by omega
     have y2:(j:Int)<(ts.length:Int):=by omega
     have yi:IntKind.i64.wrap ((j:Int)+1)=(j:Int)+1:=Zd (by omega) (by omega);rcases HR.out.2.below O.out with h|⟨b,off,rfl,hbl,hpp⟩
     ·rw[h] at J;simp at J
     obtain⟨c0,c1,c2⟩:=hpp j J;have HNX:=Lib.hid (Z2d J);have HMM:=Lib.hid (Z2f J);have HTN:=Lib.hid (Zke (0,0,0) J);obtain⟨t,et⟩:∃ t,ts.getD j (0,0,0)=t:=⟨_,rfl⟩;rw[et] at c0 c1 c2 HNX HMM HTN;have hck:∀ k,k<3->wr.cell? ⟨b,off+j*3+k,none⟩=some (int i64 (Zl t k)):=fun k hk=>by
      match k,hk with
      | 0,_=>exact c0
      | 1,_=>exact c1
      | 2,_=>exact c2
     have HCK:=Lib.hid hck;have HC:=Lib.hid (And.intro c0 (And.intro c1 c2));clear hpp et hck c0 c1 c2;go_wp2_with fail
     go_loopw [10] (fun s10 wy=>∃ k:Nat,k<=3/\s10=int i64 k/\(∀ q,q<k->0<=Zl t q/\Zl t q<l.length)/\wy=wr) (fun s10 _=>3-(intOf s10).toNat)
     case atStart=>exact⟨0,by omega,rfl,(fun q hq=>by omega),rfl⟩
     case round=>
      obtain⟨k,hk,rfl,hq,rfl⟩:=hrel;have HQ:=Lib.hid hq;clear hq;by_cases hk3:k<3
      ·have z0:(0:Int)<=(k:Int):=by omega
       have z1:(k:Int)<3:=by omega
       have zi:IntKind.i64.wrap ((k:Int)+1)=(k:Int)+1:=Zd (by omega) (by omega);have ck:=HCK.out k hk3;have HBAD:Hid (¬ (0<=Zl t k/\Zl t k<l.length)->Zap l ts= .tuple #[bs [],int i64 4]):=fun h=>
        Z2a H60.out HNF.out HMM.out (Bool.eq_false_iff.2 fun h'=>h (Zr9.1 h' k hk3))
       have HGD:Hid (0<=Zl t k/\Zl t k<l.length->∀ q,q<k+1->0<=Zl t q/\Zl t q<l.length):=fun h q hq=>by
        by_cases e:q=k
        ·subst e;exact h
        ·exact HQ.out q (by omega)
       generalize Zl t k=v at *
       by_cases hv0:v<0
       ·go_wp2
        go_ret2;exact⟨by rw[HBAD.out (by omega)];rfl,O.out⟩
       ·by_cases hv1:(l.length:Int)<=v
        ·go_wp2
         go_ret2;exact⟨by rw[HBAD.out (by omega)];rfl,O.out⟩
        ·go_wp2
         go_roundw;case rel=>exact⟨k+1,by omega,by go_num,HGD.out ⟨by omega,by omega⟩,trivial⟩
         case measure=>simp[intOf];omega
      ·have e:k=3:=by omega
       subst e;have hgood:Zay l.length t=true:=Zr9.2 HQ.out;have HPN:Hid (∀ t∈ts.take (j+1),Zay l.length t=true):=fun u Z=>by
        rw[HTN.out] at Z;rcases List.mem_append.1 Z with Z|Z
        ·exact HPL.out u Z
        ·simp only[List.mem_singleton] at Z;subst Z;exact hgood
       obtain⟨c0,c1,c2⟩:=HC.out;obtain⟨g0,g1,g2⟩:J64 t.1/\J64 t.2.1/\J64 t.2.2:=by
        have q0:=HQ.out 0 (by omega);have q1:=HQ.out 1 (by omega);have q2:=HQ.out 2 (by omega);have:=H60.out;simp[Zl] at q0 q1 q2;unfold J64;omega
       generalize t.1=x at *
       generalize t.2.1=y at *
       generalize t.2.2=z at *
       have lx:=Zd3 g0;have ly:=Zd3 g1;have lz:=Zd3 g2;have hal:=HLE.out;have a1:=Zcq I (Lib.itoa x) (by omega) (by omega);have a2:=Zcq (I ++ Lib.itoa x) [32] (by simp;omega) (by simp);have a3:=Zcq (I ++ Lib.itoa x ++ [32]) (Lib.itoa y) (by simp;omega) (by omega);have a4:=Zcq (I ++ Lib.itoa x ++ [32] ++ Lib.itoa y) [32] (by simp;omega) (by simp);have a5:=Zcq (I ++ Lib.itoa x ++ [32] ++ Lib.itoa y ++ [32]) (Lib.itoa z) (by simp;omega) (by omega);have a6:=Zcq (I ++ Lib.itoa x ++ [32] ++ Lib.itoa y ++ [32] ++ Lib.itoa z) [10] (by simp;omega) (by simp);have HFIN:Hid (I ++ Lib.itoa x ++ [32] ++ Lib.itoa y ++ [32] ++ Lib.itoa z ++ [10]=A2 ++ Zs (Yf (ts.take (j+1)))):=by
        unfold Hid;rw[HNX.out,<-HEB.out];simp
       generalize I ++ Lib.itoa x ++ [32] ++ Lib.itoa y ++ [32] ++ Lib.itoa z ++ [10]=C6 at *
       generalize I ++ Lib.itoa x ++ [32] ++ Lib.itoa y ++ [32] ++ Lib.itoa z=C5 at *
       generalize I ++ Lib.itoa x ++ [32] ++ Lib.itoa y ++ [32]=C4 at *
       generalize I ++ Lib.itoa x ++ [32] ++ Lib.itoa y=C3 at *
       generalize I ++ Lib.itoa x ++ [32]=C2 at *
       generalize I ++ Lib.itoa x=C1 at *
       clear hgood lx ly lz hal HCK HC HQ HNX;go_wp2_with fail
       go_quiet ((go_at_call 95;refine Calls.quiet_of (Zgf _ (by assumption) _)));go_wp2
       go_roundw;case rel=>exact⟨j+1,by omega,by go_num,by rw[<-HFIN.out],HPN.out,Zt O.out⟩
       case measure=>simp[intOf];omega
    ·have e:j=ts.length:=by omega
     subst e;have y2:¬ (ts.length:Int)<(ts.length:Int):=by omega
     have HV:Hid (Zap l ts= .tuple #[bs I,int i64 0]):=by
      unfold Hid;rw[Z2b H60.out HNF.out (by have:=HPL.out;rw[List.take_length] at this;exact this),HBD.out,<-HEB.out,List.take_length]
     go_wp2
     go_ret2;exact⟨by rw[HV.out];rfl,O.out⟩
end Go.Proofs.YtgpapegpdfonpaaGreatDoor
