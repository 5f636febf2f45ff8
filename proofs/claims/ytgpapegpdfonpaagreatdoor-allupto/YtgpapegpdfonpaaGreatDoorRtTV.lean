/- Part. -/
import Derived.Test.YtgpapegpdfonpaaGreatDoorRtAG
import Derived.Test.YtgpapegpdfonpaaGreatDoorMeshJV
import Derived.Laws.IdiomArrays
set_option linter.unusedVariables false
set_option linter.unusedSimpArgs false
set_option maxHeartbeats 16000000
set_option maxRecDepth 100000
namespace Go.Proofs.YtgpapegpdfonpaaGreatDoor
open Go.RowKit Go.Proofs.Tryz
open Go.Value(int)
open Go.IntKind(i64)
attribute [local go_sem ↓] Go.wp_at_zero Go.wp_at_succ
theorem Z4f (l:List Pt)(ts:List T3):∃ (e:List UInt8) (k:Int),Zap l ts= .tuple #[.string ⟨e.toArray⟩,int i64 k]:=by
 unfold Zap;split
 ·exact⟨_,_,rfl⟩
 ·exact⟨[],_,rfl⟩
theorem Z4g {w:World}{a:Option Addr}{l:List Pt}(h:Z0 w a l){g:Nat}(O:w.heap.size<=g):∀ b D,a=some ⟨b,D,none⟩->l≠ []->b≠g:=fun b D e J=>by
 rcases h with h|⟨b',Z,I,Y,_⟩
 ·exact absurd h J
 ·rw[e] at I;cases I;omega
theorem Z4h {w:World}{a:Option Addr}{l:List T3}(h:Zak w a l){g:Nat}(O:w.heap.size<=g):∀ b D,a=some ⟨b,D,none⟩->l≠ []->b≠g:=fun b D e J=>by
 rcases h with h|⟨b',Z,I,Y,_⟩
 ·exact absurd h J
 ·rw[e] at I;cases I;omega
theorem Z4i (WB:Nat)(n wh ax ay bx by' cx cy dx dy:Int)(J:Option Addr)(l:List Pt)(O:Nat)(ta:Option Addr)(ts:List T3)(tc:Nat)(s:ByteArray)(w:World)(V:Vars w)(hr:Z0 w J l)(hl:l.length<=8796093021952)(ht:Zak w ta ts)(hts:ts.length<=1000000000) :
  Calls prog 22 #[.pointer (some ⟨WB,0,none⟩),Xj 12 n wh ax ay bx by' cx cy dx dy J l.length O ta ts.length tc s] w fun e w'=>e= .returned (.bool true)/\Below w.heap.size w w':=by
 have HV:=Lib.hid V;have HR:=Lib.hid hr;have HT:=Lib.hid ht;have HL:=Lib.hid (And.intro hl hts);have l20:(l.length:Int)<=8796093021952:=by omega
 have t20:(ts.length:Int)<=1000000000:=by omega
 clear V hr ht hl hts;go_enter func22,ntmps22;go_upto_region 2 with fail;have hb0:Below w.heap.size w (w.alloc (.cells #[int i64 12,int i64 n,int i64 wh,int i64 ax,int i64 ay,int i64 bx,int i64 by',int i64 cx,int i64 cy,int i64 dx,int i64 dy,.slice J l.length O,.slice ta ts.length tc,.string s] 44)):=Zb _ _;have ab:∃ cs,(w.alloc (.cells #[int i64 12,int i64 n,int i64 wh,int i64 ax,int i64 ay,int i64 bx,int i64 by',int i64 cx,int i64 cy,int i64 dx,int i64 dy,.slice J l.length O,.slice ta ts.length tc,.string s] 44)).heap[w.heap.size]? =some (.cells cs 44 (0,0))/\cs[11]? =some (.slice J l.length O)/\cs[12]? =some (.slice ta ts.length tc):=⟨_,heap_alloc_new _ _,rfl,rfl⟩;generalize hW0:w.alloc (.cells #[int i64 12,int i64 n,int i64 wh,int i64 ax,int i64 ay,int i64 bx,int i64 by',int i64 cx,int i64 cy,int i64 dx,int i64 dy,.slice J l.length O,.slice ta ts.length tc,.string s] 44)=W0 at *
 clear hW0;obtain⟨cs,ab,hcs,hct⟩:=ab;have aa:Hid (∀ {W:World},W.heap[w.heap.size]? =some (.cells cs 44 (0,0))->W.cell? ⟨w.heap.size,11,none⟩=some (.slice J l.length O)/\W.cell? ⟨w.heap.size,12,none⟩=some (.slice ta ts.length tc)):=fun {W} Y=>
  ⟨by simp only[World.cell?,Y];simpa using hcs,by simp only[World.cell?,Y];simpa using hct⟩
 clear hcs hct;have hs0:w.heap.size<W0.heap.size:=Zh ab;obtain⟨q0,q0'⟩:=aa.out ab;have HB0:=Lib.hid hb0;have HBX:=Lib.hid ab;clear hb0 ab;go_upto_region 3 with (go_at_call 42;refine (Zjd J O l W0 (HR.out.below HB0.out) HL.out.1).mono ?_;rintro e w1 ⟨g,rfl,hg,hrow1,hb1⟩);have hbx1:=(hb1.block _ hs0).trans HBX.out;have HB1:Hid (Below w.heap.size w w1):=HB0.out.trans (hb1.mono HB0.out.size);have HBX1:=Lib.hid hbx1;have HR1:=Lib.hid hrow1;have hs1:w.heap.size<w1.heap.size:=Zh hbx1;have hg1:w.heap.size<g:=by omega
 obtain⟨q1,q1'⟩:=aa.out hbx1;clear q0 q0' hbx1 hb1 hrow1 HB0 HBX hg;go_upto_region 4 with (go_at_call 51;refine (Z1r ta tc ts w1 (HT.out.below HB1.out) (by omega)).mono ?_;rintro e I ⟨D,rfl,hg',hrow2,hb2⟩);have hbx2:=(hb2.block _ hs1).trans HBX1.out;have HB2:Hid (Below w.heap.size w I):=HB1.out.trans (hb2.mono HB1.out.size);have HBX2:=Lib.hid hbx2;have HRP2:Hid (Z2 I g (l ++ Yl 8)):=HR1.out.keep (hb2.block g HR1.out.lt);have HRT2:=Lib.hid hrow2;have hs2:w.heap.size<I.heap.size:=Zh hbx2;have hgg:g≠D:=by have:=HR1.out.lt;omega
 obtain⟨q2,q2'⟩:=aa.out hbx2;obtain⟨tx,k,hwv⟩:=Z4f l ts;have HW:Hid (∀ W,Below I.heap.size I W->Calls prog 13 #[.slice (some ⟨g,0,none⟩) l.length (l.length+8),.slice (some ⟨D,0,none⟩) ts.length (ts.length+8)] W fun e w'=>e= .returned (.tuple #[.string ⟨tx.toArray⟩,int i64 k])/\Below W.heap.size W w'):=fun W Y=>by
  have hb:=HB2.out.trans (Y.mono HB2.out.size);have:=Zym (some ⟨g,0,none⟩) (l.length+8) l (some ⟨D,0,none⟩) (ts.length+8) ts W (HV.out.below hb) (HRP2.out.keep (Y.block g HRP2.out.lt)).raw (HRT2.out.keep (Y.block D HRT2.out.lt)).raw HL.out.2;rw[hwv] at this;exact this
 have HWR:Hid (∀ W,Below w.heap.size w W->Calls prog 52 #[.slice J l.length O,.slice ta ts.length tc] W fun e w'=>e= .returned (.tuple #[.string ⟨tx.toArray⟩,int i64 k])/\Below W.heap.size W w'):=fun W Y=>by
  have:=Z2g J O l ta tc ts W (HR.out.below Y) (HT.out.below Y) HL.out.2;rw[hwv] at this;exact this
 have x1:(0:Int)<=(l.length:Int):=by omega
 have x2:(l.length:Int)<=((l.length+8:Nat):Int):=by omega
 have x3:(0:Int)<=(ts.length:Int):=by omega
 have x4:(ts.length:Int)<=((ts.length+8:Nat):Int):=by omega
 clear hwv q1 q1' hbx2 hb2 hrow2 HB1 HBX1 HR1;go_cut [7,8] (fun s7 s8 wx=>s7= .string ⟨tx.toArray⟩/\s8=int i64 k/\Below I.heap.size I wx)
 case first=>
  go_region_with (go_at_call 13;refine (HW.out _ (by first|exact (Below.refl _ _).drew|exact Zt (Below.refl _ _))).mono ?_;rintro e w3 ⟨rfl,Z⟩)
  all_goals go_wp2_with fail
  all_goals go_meet
  all_goals exact⟨rfl,rfl,by first|exact (Below.refl I.heap.size I).drew.trans Z|exact (Zt (Below.refl I.heap.size I)).trans Z⟩
 case rest=>
  obtain⟨rfl,rfl,Z⟩:=hcut;have HB3:Hid (Below w.heap.size w wc):=HB2.out.trans (Z.mono HB2.out.size);have HBX3:=Lib.hid ((Z.block _ hs2).trans HBX2.out);have HRP3:Hid (Z2 wc g (l ++ Yl 8)):=HRP2.out.keep (Z.block g HRP2.out.lt);have HRT3:Hid (Y5 wc D (ts ++ Y9 8)):=HRT2.out.keep (Z.block D HRT2.out.lt);have hs3:w.heap.size<wc.heap.size:=Zh HBX3.out;obtain⟨q3,q3'⟩:=aa.out HBX3.out;clear q2 q2' Z HW HBX2 HRP2 HRT2;go_upto_region 6 with (go_at_call 52;refine (HWR.out _ HB3.out).mono ?_;rintro e w4 ⟨rfl,ac⟩);have HB4:Hid (Below w.heap.size w w4):=HB3.out.trans (ac.mono HB3.out.size);have HBX4:=Lib.hid ((ac.block _ hs3).trans HBX3.out);have HRP4:Hid (Z2 w4 g (l ++ Yl 8)):=HRP3.out.keep (ac.block g HRP3.out.lt);have HRT4:Hid (Y5 w4 D (ts ++ Y9 8)):=HRT3.out.keep (ac.block D HRT3.out.lt);have hs4:w.heap.size<w4.heap.size:=Zh HBX4.out;obtain⟨q4,q4'⟩:=aa.out HBX4.out;clear q3 q3' ac HWR HBX3 HRP3 HRT3;go_upto_region 7 with (go_at_call 47;refine (Zje g (l.length+8) J O l w4 (HR.out.below HB4.out) HRP4.out (Z4g HR.out (by omega)) HL.out.1).mono ?_;rintro e w5 ⟨rfl,hg5⟩);have HB5:Hid (Below w.heap.size w w5):=HB4.out.grown hg5 (by omega) fun k hk=>by cases hk;omega
  have HBX5:=Lib.hid ((hg5.block _ hs4 (by simp;omega)).trans HBX4.out);have HRT5:Hid (Y5 w5 D (ts ++ Y9 8)):=HRT4.out.keep (hg5.block D HRT4.out.lt (by simp;omega));have hs5:w.heap.size<w5.heap.size:=Zh HBX5.out;have hg1':w.heap.size<D:=by omega
  obtain⟨q5,q5'⟩:=aa.out HBX5.out;clear q4 q4' hg5 HBX4 HRP4 HRT4;go_upto_region 8 with (go_at_call 53;refine (Z1w D (ts.length+8) ta tc ts w5 (HT.out.below HB5.out) HRT5.out (Z4h HT.out (by omega)) (by omega)).mono ?_;rintro e w6 ⟨rfl,hg6⟩);have HB6:Hid (Below w.heap.size w w6):=HB5.out.grown hg6 (by omega) fun k hk=>by cases hk;omega
  clear q5 q5' hg6 HRT5;go_wp2_with (go_at_call 39;refine (Zcc _ _).mono ?_;rintro e w7 ⟨rfl,rfl⟩)
  go_ret;exact⟨rfl,HB6.out⟩
def Zig (e:List (List Int)):List T3:=e.map fun r=>(r.getD 0 0,r.getD 1 0,r.getD 2 0)
theorem Z4j (e:List (List Int)):Zac e=Zj (Zig e):=by
 simp[Zac,Zj,Zig,Xe,iv,List.flatMap_map]
def RdP (s:List UInt8):List Pt:=match Xb s with
 | .inl q=>Xy q.1
 | .inr _=>[]
def RdT (s:List UInt8):List T3:=match Xb s with
 | .inl q=>Zig q.2
 | .inr _=>[]
def RdX (s:List UInt8):Int:=match Xb s with
 | .inl _=>0
 | .inr _=>5
def RdN (s:List UInt8):Int:=match Xb s with
 | .inl _=>0
 | .inr k=>k
theorem Zcm.form {w w':World}{s:List UInt8}{v u:Value}{x n:Int}(h:Zcm w w' s v u x n):x=RdX s/\n=RdN s/\w'.ownsRow w.heap.size 37 2 v (RdP s).length (Zg (RdP s))/\w'.ownsRow w.heap.size 53 3 u (RdT s).length (Zj (RdT s)):=by
 unfold Zcm at h;unfold RdX RdN RdP RdT;cases D:Xb s with
 | inl q=>
  rw[D] at h;obtain⟨rfl,rfl,I,e⟩:=h;refine⟨rfl,rfl,?_,?_⟩
  ·simpa [Xy] using I
  ·rw[Z4j] at e;simpa [Zig] using e
 | inr k=>
  rw[D] at h;obtain⟨rfl,rfl,rfl,rfl⟩:=h;exact⟨rfl,rfl,World.ownsRow_nil _ _ _ _,World.ownsRow_nil _ _ _ _⟩
theorem Z4k {s:List UInt8}:(RdP s).length<=s.length/\(RdT s).length<=s.length:=by
 unfold RdP RdT;cases D:Xb s with
 | inl q=>
  obtain⟨ps,ts⟩:=q;obtain⟨_,e⟩:=Zt9.1 D;have O:=Zho ps;have J:=Zho ts;have I:=congrArg List.length e;simp only[Zav,List.length_append,List.length_cons] at I;simp only[Xy,Zig,List.length_map];omega
 | inr k=>simp
theorem X8.two {w w4 w5 O:World} {WB N nk:Nat} {v0 v u:Value} {tag:Nat->Nat} {sh:Nat->Sh} (hB:Bk w WB v0 tag sh nk) (J:∀ j,j<3->(sh j).ls.length=(sh j).ms.length/\(sh j).ls.length<=4*N) (hnk:nk<=2*N) (I:Below w.heap.size w w4)
  (hv:∀ g,v.ownBlock=some g->w.heap.size<=g) (hu:∀ g,u.ownBlock=some g->w.heap.size<=g)
  {tag5:Nat->Nat} {sh5:Nat->Sh} (h5:∀ k,k≠2->sh5 k=sh k) (l5:(sh5 2).ls.length=(sh5 2).ms.length) (m5:(sh5 2).ls.length=(sh 2).ls.length+4)
  (t5:∀ k,k<w4.heap.size->some k≠v.ownBlock->tag5 k=tag k) (c5:Chg (fun k=>k=WB\/tag k=2+1\/some k=v.ownBlock) w4 w5)
  (hW:X8 1 WB v0 tag5 sh5 (nk+1) u w5 O):Yp WB v0 N tag w O:=by
 obtain⟨aa,sh6,hB6,Y,l6,m6,t6,c6⟩:=hW;have Z:∀ k,k<w.heap.size->tag5 k=tag k:=fun k D=>t5 k (L3 D I.size) fun e=>by have:=hv k e.symm;omega
 refine⟨aa,⟨sh6,nk+1+1,hB6,fun j hj=>?_,by omega⟩,fun k D=>?_,?_⟩
 ·have q0:=J 0 (by omega);have q1:=J 1 (by omega);have q2:=J 2 (by omega);match j,hj with
  | 0,_=>rw[Y 0 (by decide),h5 0 (by decide)];exact⟨q0.1,by omega⟩
  | 1,_=>rw[h5 1 (by decide)] at m6;exact⟨l6,by omega⟩
  | 2,_=>rw[Y 2 (by decide)];exact⟨l5,by omega⟩
 ·rw[t6 k (L3 D (Nat.le_trans I.size c5.size)) (fun e=>by have:=hu k e.symm;omega)];exact Z k D
 ·refine ((Chg.of_below (F:=BkF WB tag) I).trans c5 fun k D h=>?_).trans c6 fun k D h=>?_
  ·rcases h with h|h|h
   ·exact .inl h
   ·exact .inr ⟨by omega,by omega⟩
   ·have:=hv k h.symm;omega
  ·rcases h with h|h|h
   ·exact .inl h
   ·rw[Z k D] at h;exact .inr ⟨by omega,by omega⟩
   ·have:=hu k h.symm;omega
theorem Z4l (WB N:Nat)(v0:Value)(tag:Nat->Nat)(n wh ax ay bx by' cx cy dx dy:Int)(la:Option Addr)(ln lc:Nat)(ta:Option Addr)(tn tc:Nat)(D:List UInt8)(w:World)(V:Vars w)(h:Bks w WB v0 tag N)(hN:N<=925904528800)(hs:D.length<=1000000000) :
  Calls prog 22 #[.pointer (some ⟨WB,0,none⟩),Xj 13 n wh ax ay bx by' cx cy dx dy la ln lc ta tn tc ⟨D.toArray⟩] w fun e w'=>e= .returned (.bool true)/\Yp WB v0 N tag w w':=by
 obtain⟨sh,nk,hB,hlen,hnk⟩:=h;have hWB:=hB.ltW;have J:=Lib.hid (And.intro hB (And.intro hlen hnk));have HV:=Lib.hid V;have HS:=Lib.hid hs;have HLN:Hid ((RdP D).length<=1000000000/\(RdT D).length<=1000000000):=by have:=Z4k (s:=D);unfold Hid;omega
 clear V hB hlen hnk hs;go_enter func22,ntmps22;go_upto_region 9 with fail;have hb0:Below w.heap.size w (w.alloc (.cells #[int i64 13,int i64 n,int i64 wh,int i64 ax,int i64 ay,int i64 bx,int i64 by',int i64 cx,int i64 cy,int i64 dx,int i64 dy,.slice la ln lc,.slice ta tn tc,.string ⟨D.toArray⟩] 44)):=Zb _ _;have hbox:∃ cs,(w.alloc (.cells #[int i64 13,int i64 n,int i64 wh,int i64 ax,int i64 ay,int i64 bx,int i64 by',int i64 cx,int i64 cy,int i64 dx,int i64 dy,.slice la ln lc,.slice ta tn tc,.string ⟨D.toArray⟩] 44)).heap[w.heap.size]? =some (.cells cs 44 (0,0))/\cs[13]? =some (.string ⟨D.toArray⟩):=⟨_,heap_alloc_new _ _,rfl⟩;generalize hW0:w.alloc (.cells #[int i64 13,int i64 n,int i64 wh,int i64 ax,int i64 ay,int i64 bx,int i64 by',int i64 cx,int i64 cy,int i64 dx,int i64 dy,.slice la ln lc,.slice ta tn tc,.string ⟨D.toArray⟩] 44)=O at *
 clear hW0;obtain⟨cs,hbox,hcs⟩:=hbox;have KEY:Hid (∀ {W:World},W.heap[w.heap.size]? =some (.cells cs 44 (0,0))->W.cell? ⟨w.heap.size,13,none⟩=some (.string ⟨D.toArray⟩)):=fun {W} hW=>by
  simp only[World.cell?,hW];simpa using hcs
 have hs0:w.heap.size<O.heap.size:=Zh hbox;have q0:=KEY.out hbox;have HB0:=Lib.hid hb0;have HBX:=Lib.hid hbox;have HRD:=Lib.hid (Zx8 D O (HV.out.below hb0) HS.out);clear hb0 hbox hcs;go_upto_region 10 with (go_at_call 14;refine HRD.out.mono ?_;rintro e w1 ⟨v,u,x,m,rfl,hR1,hb1⟩);obtain⟨rfl,rfl,hv1,hu1⟩:=hR1.form;have HV1:=Lib.hid hv1;have HU1:=Lib.hid hu1;have HB1:Hid (Below w.heap.size w w1):=HB0.out.trans (hb1.mono HB0.out.size);have hbx1:=(hb1.block _ hs0).trans HBX.out;have q1:=KEY.out hbx1;have HRR:=Lib.hid (Z17 D w1 HS.out);have hW01:O.heap.size<=w1.heap.size:=hb1.size;clear hR1 hv1 hu1 hb1 hbx1 HRD q0;go_upto_region 11 with (go_at_call 54;refine HRR.out.mono ?_;rintro e w2 ⟨v',u',x',m',rfl,hR2,hb2⟩);obtain⟨rfl,rfl,hv2,hu2⟩:=hR2.form;have HB2:Hid (Below w.heap.size w w2):=HB1.out.trans (hb2.mono HB1.out.size);have HV2:Hid (w2.ownsRow O.heap.size 37 2 v (RdP D).length (Zg (RdP D))):=Yt HV1.out hb2;have HU2:Hid (w2.ownsRow O.heap.size 53 3 u (RdT D).length (Zj (RdT D))):=Yt HU1.out hb2;obtain⟨va,vc,rfl⟩:=Zn HV1.out;obtain⟨Z,Y,rfl⟩:=Zn HU1.out;obtain⟨va',vc',rfl⟩:=Zn hv2;obtain⟨ua',uc',rfl⟩:=Zn hu2;have HSP:=Lib.hid (Z1x va va' vc vc' (RdP D) w2 (Z2.raw' HV2.out) (Z2.raw' hv2) HLN.out.1);have HST:Hid (∀ W,Below w2.heap.size w2 W->Calls prog 56 #[.slice Z (RdT D).length Y,.slice ua' (RdT D).length uc'] W fun e w'=>e= .returned (.bool true)/\Below W.heap.size W w'):=by
  have h1:=X4.of_own HU2.out;have h2:=X4.of_own hu2;exact fun W hW=>Zs2 Z ua' Y uc' (RdT D) W (h1.below hW) (h2.below hW) HLN.out.2
 clear hR2 hv2 hu2 hb2 HV1 HU1 HRR q1
 go_upto_region 12 with (first
   | (go_at_call 55; refine HSP.out.mono ?_; rintro e w3 ⟨rfl, hb3⟩)
   | (go_at_call 56; refine (HST.out _ hb3).mono ?_; rintro e w4 ⟨rfl, hb4⟩))
 have hb24:Below w2.heap.size w2 w4:=hb3.trans (hb4.mono hb3.size);have HB4:Hid (Below w.heap.size w w4):=HB2.out.trans (hb24.mono HB2.out.size);have HV4:Hid (w4.ownsRow O.heap.size 37 2 (.slice va (RdP D).length vc) (RdP D).length (Zg (RdP D))):=Yt HV2.out hb24;have HU4:Hid (w4.ownsRow O.heap.size 53 3 (.slice Z (RdT D).length Y) (RdT D).length (Zj (RdT D))):=Yt HU2.out hb24;have HNV:Hid (∀ g,(Value.slice va (RdP D).length vc).ownBlock=some g->O.heap.size<=g):=Zgv HV4.out;have HNU:Hid (∀ g,(Value.slice Z (RdT D).length Y).ownBlock=some g->O.heap.size<=g):=Zgv HU4.out;have HZ:Hid (∀ k,w.heap.size<=k->tag k=0):=fun k hk=>by
  by_cases h:tag k=0
  ·exact h
  ·have:=J.out.1.lt k h;omega
 have HIN:=Lib.hid (Z4e WB nk (RdP D).length v0 (.slice va (RdP D).length vc) tag sh _ w4 (J.out.1.below HB4.out) (J.out.2.1 2 (by decide)).1 (by have:=(J.out.2.1 2 (by decide)).2;omega) (by have:=J.out.2.2;omega) (Zb5 HV4.out (Nat.zero_le _)) (by have:=HLN.out.1;omega) fun g I=>⟨HZ.out g (by have:=HNV.out g I;omega),by have:=HNV.out g I;omega⟩);clear hb3 hb4 hb24 HSP HST HV2 HU2;go_upto_region 13 with (go_at_call 57;refine HIN.out.mono ?_;rintro e w5 ⟨rfl,hW5⟩);obtain⟨tag5,sh5,hB5,h5,l5,m5,t5,c5⟩:=hW5;have HU5:Hid (w5.ownsRow O.heap.size 53 3 (.slice Z (RdT D).length Y) (RdT D).length (Zj (RdT D))/\∀ g,(Value.slice Z (RdT D).length Y).ownBlock=some g->tag5 g=0/\WB<g):=by
  have hne:∀ g,(Value.slice Z (RdT D).length Y).ownBlock=some g->some g≠(Value.slice va (RdP D).length vc).ownBlock:=fun g I=>by
   obtain⟨cur,hc⟩:=Yy HU4.out I;exact Zfs HV4.out hc (by decide)
  refine⟨Z9 HU4.out fun g I=>c5.far g (Zx HU4.out I) fun hF=>?_,fun g I=>⟨?_,by have:=HNU.out g I;omega⟩⟩
  ·have h1:=HNU.out g I;have h2:=HZ.out g (by omega);rcases hF with hF|hF|hF
   ·omega
   ·omega
   ·exact hne g I hF
  ·rw[t5 g (Zx HU4.out I) (hne g I)];exact HZ.out g (by have:=HNU.out g I;omega)
 have HIT:=Lib.hid (Zjr WB (nk+1) (RdT D).length v0 (.slice Z (RdT D).length Y) tag5 sh5 _ w5 hB5 (by rw[h5 1 (by decide)];exact (J.out.2.1 1 (by decide)).1) (by rw[h5 1 (by decide)];have:=(J.out.2.1 1 (by decide)).2;omega) (by have:=J.out.2.2;omega) (Zb5 HU5.out.1 (Nat.zero_le _)) (by have:=HLN.out.2;omega) HU5.out.2);have HFIN:Hid (∀ w6,X8 1 WB v0 tag5 sh5 (nk+1) (.slice Z (RdT D).length Y) w5 w6->Yp WB v0 N tag w w6):=fun w6 hW6=>
  X8.two J.out.1 J.out.2.1 J.out.2.2 HB4.out (fun g I=>by have:=HNV.out g I;omega) (fun g I=>by have:=HNU.out g I;omega) h5 l5 m5 t5 c5 hW6
 have hWB5:WB<w5.heap.size:=hB5.ltW;clear hB5 h5 l5 m5 t5 c5 HIN HU5 HU4 HV4 HNV HNU HZ;go_upto_region 14 with (go_at_call 50;refine HIT.out.mono ?_;rintro e w6 ⟨rfl,hW6⟩);have HOK:=Lib.hid (HFIN.out w6 hW6);clear hW6 HFIN HIT;go_wp2_with (go_at_call 39;refine (Zcc _ _).mono ?_;rintro e w7 ⟨rfl,rfl⟩)
 go_ret;exact⟨rfl,HOK.out⟩
end Go.Proofs.YtgpapegpdfonpaaGreatDoor
namespace Go.Proofs.YtgpapegpdfonpaaGreatDoor
open Go.ChangeShapes Go.WideShapes Go.ChangeAt Go.RowKit Go.Joins Go.Proofs.Tryz
theorem Z41:prog.cellsOf 53=3:=by kernel_rfl
theorem Z42 {H:Type}(d:DataW H):1<=Rows.uptoBulk d:=by
 cases d with
 | lit l=>cases l <;> simp[Rows.uptoBulk]
 | _=>simp[Rows.uptoBulk]
theorem Zkt {H:Type}{d:DataW H}:∀ {l:List (DataW H)},d∈l->Rows.uptoBulk d<=Rows.uptoBulkAll l
 | x :: r,h=>by
  simp only[Rows.uptoBulkAll];rcases List.mem_cons.1 h with rfl|h
  ·omega
  ·have:=Zkt h;omega
theorem Zs7 {H:Type}:∀ l:List (DataW H),l.length<=Rows.uptoBulkAll l
 | []=>Nat.zero_le _
 | x :: r=>by
  have:=Zs7 r;have:=Z42 x;simp only[Rows.uptoBulkAll,List.length_cons];omega
section
variable {H:Type} {enc:TypeId×Value->H} {W:World} {sp:Nat->Bool} {held:Bool} {fuel:Nat}
theorem Z43 {cs:List Value}{x:DataW H×List MemPlace}(h:DataW.trod enc prog W 0 sp held fuel 42 cs=some x) :
  ∃ (a:Option Addr) (ts:List T3) (cap:Nat),cs=[.slice a ts.length cap]/\Zak W a ts/\ts.length<=Rows.uptoBulk x.1:=by
 rcases Deep.open_slice underlying42 h with ⟨rfl,rfl⟩|⟨ad,len,cap,m,n,D,Pl,rfl,_,hl,hm,hmm,rfl,hx⟩
 ·exact⟨none,[],0,rfl,.inl rfl,by simp⟩
 ·have hle:len<=m:=by rw[hmm];split <;> omega
  have key:∀ i,∃ t:T3,i<len->W.cell? ((ad.add (i*3)).add 0)=some (.int .i64 t.1)/\W.cell? ((ad.add (i*3)).add 1)=some (.int .i64 t.2.1)/\W.cell? ((ad.add (i*3)).add 2)=some (.int .i64 t.2.2):=by
   intro i;by_cases hi:i<len
   ·obtain⟨cs',h1,h2⟩:=hx i (by omega);rw[Z41] at h1;obtain⟨_,hlen,J⟩:=World.cells?_some h1;match cs',hlen with
    | [c0,c1,c2],_=>
     obtain⟨y0,y1,y2,n',_,e0,e1,e2⟩:=trod_array3 underlying53 Zkq h2;obtain⟨z0,Y,_⟩:=Ze2 e0;obtain⟨z1,Z,_⟩:=Ze2 e1;obtain⟨z2,hz2,_⟩:=Ze2 e2;simp only[List.cons.injEq,and_true] at Y Z hz2;subst Y Z hz2;exact⟨(z0,z1,z2),fun _=>⟨J 0 (by omega),J 1 (by omega),J 2 (by omega)⟩⟩
   ·exact⟨(0,0,0),fun h=>absurd h hi⟩
  obtain⟨f,hf⟩:=Classical.axiomOfChoice key;refine⟨some ad,(List.range len).map f,cap,by simp,?_,?_⟩
  ·by_cases h0:len=0
   ·subst h0;exact .inl rfl
   ·right;obtain⟨b,off,spot⟩:=ad;obtain⟨I,_⟩:=hf 0 (by omega);have hspot:spot=none:=by simpa [Addr.add] using World.cell?_spot I
    subst hspot;rw[Zce,Zce] at I;refine⟨b,off,rfl,World.block_lt_of_cell? W _ I,?_⟩;intro j hj;have O:j<len:=by simpa using hj
    obtain⟨I,q1,q2⟩:=hf j O;rw[Zce,Zce] at I q1 q2;have e:((List.range len).map f).getD j (0,0,0)=f j:=by simp[O]
    rw[e];exact⟨I,q1,q2⟩
  ·have:=Zs7 ((List.range len).map D);simp only[List.length_map,List.length_range,Rows.uptoBulk] at this ⊢;omega
theorem Z44 {c:List Value}{x:DataW H×List MemPlace}(h:DataW.trod enc prog W 0 sp held fuel 44 c=some x) :
  ∃ ta ts tc s,c[12]? =some (.slice ta (ts:List T3).length tc)/\c[13]? =some (.string s)/\Zak W ta ts/\ts.length<=Rows.uptoBulk x.1/\s.size<=Rows.uptoBulk x.1:=by
 obtain⟨xs,n,_,rfl,D,hlen,O⟩:=DataW.trod_struct underlying44 h;rw[Zkr] at D;match c,D with
 | [v0,v1,v2,v3,v4,v5,v6,v7,v8,v9,v10,v11,v12,v13],_=>
  match xs,hlen with
  | [y0,y1,y2,y3,y4,y5,y6,y7,y8,y9],_=>
   have Z:DataW.trod enc prog W 0 sp held n 42 (List.take (prog.cellsOf 42) (List.drop 12 [v0,v1,v2,v3,v4,v5,v6,v7,v8,v9,v10,v11,v12,v13]))=some y8:=O 8 _ rfl;have I:DataW.trod enc prog W 0 sp held n 9 (List.take (prog.cellsOf 9) (List.drop 13 [v0,v1,v2,v3,v4,v5,v6,v7,v8,v9,v10,v11,v12,v13]))=some y9:=O 9 _ rfl;simp only[Zs5,Zs4,List.drop_zero,List.drop_succ_cons,List.take_succ_cons,List.take_zero] at Z I;obtain⟨ta,ts,tc,Y,hr,hb⟩:=Z43 Z;obtain⟨s,J,ey,_⟩:=DataW.trod_string underlying9 I;simp only[List.cons.injEq,and_true] at Y J;have m8:Rows.uptoBulk y8.1<=Rows.uptoBulkAll ([y0,y1,y2,y3,y4,y5,y6,y7,y8,y9].map (·.1)):=Zkt (by simp);have m9:Rows.uptoBulk y9.1<=Rows.uptoBulkAll ([y0,y1,y2,y3,y4,y5,y6,y7,y8,y9].map (·.1)):=Zkt (by simp);have s9:s.size<=Rows.uptoBulk y9.1:=by
    rw[ey];simp only[Rows.uptoBulk];have e:s.data.toList.length=s.size:=by rw[Array.length_toList];rfl
    omega
   refine⟨ta,ts,tc,s,by rw[<-Y];rfl,by rw[<-J];rfl,hr,?_,?_⟩
   ·simp only[Rows.uptoBulk];omega
   ·simp only[Rows.uptoBulk];omega
def Zgz (WB:Nat)(w:World)(a:Option Addr)(ts:List T3):Prop:=ts=[]\/∃ b e,a=some ⟨b,e,none⟩/\b<WB/\Zhp w b e ts
theorem Zgz.below {WB:Nat}{w w':World}{a:Option Addr}{ts:List T3}(h:Zgz WB w a ts)(J:Below WB w w'):Zgz WB w' a ts:=by
 rcases h with h|⟨b,Y,e,D,O⟩
 ·exact .inl h
 ·exact .inr ⟨b,Y,e,D,fun j I=>⟨(J.cell (p:=⟨b,_,none⟩) D).trans (O j I).1,(J.cell (p:=⟨b,_,none⟩) D).trans (O j I).2.1,(J.cell (p:=⟨b,_,none⟩) D).trans (O j I).2.2⟩⟩
theorem Zgz.raw {WB:Nat}{w:World}{a:Option Addr}{ts:List T3}(h:Zgz WB w a ts)(O:WB<=w.heap.size):Zak w a ts:=by
 rcases h with h|⟨b,D,e,I,J⟩
 ·exact .inl h
 ·exact .inr ⟨b,D,e,L3 I O,J⟩
def XAt (WB:Nat)(w:World)(e:List OpD):Prop:=∀ k,(h:k<e.length)->∃ (ts:List T3) (D:List UInt8),e[k].tn=ts.length/\Zgz WB w e[k].ta ts/\ts.length<=1000000000/\e[k].s=⟨D.toArray⟩/\D.length<=1000000000
theorem XAt.below {WB:Nat}{w w':World}{e:List OpD}(h:XAt WB w e)(J:Below WB w w'):XAt WB w' e:=fun k Z=>by
 obtain⟨ts,I,Y,D,O⟩:=h k Z;exact⟨ts,I,Y,D.below J,O⟩
theorem Z45 {a:Option Addr}{I:List OpD}{cap:Nat}{x:DataW H×List MemPlace}(h:DataW.trod enc prog W 0 sp held fuel 22 [.slice a I.length cap]=some x)(hs:Zdy W.heap.size W a I)(hb:Rows.uptoBulk x.1<=1048576):XAt W.heap.size W I:=by
 intro k hk;obtain⟨b,off,Z,hlt,hc,_⟩:=hs k hk;rcases Deep.open_slice underlying22 h with ⟨e,_⟩|⟨ad,len,cap',m,n,D,Pl,e,_,hl,hm,hmm,rfl,hx⟩
 ·simp only[List.cons.injEq,and_true] at e;rw[Z] at e;cases e
 ·simp only[List.cons.injEq,and_true] at e;rw[Z] at e;simp only[Value.slice.injEq,Option.some.injEq] at e;obtain⟨rfl,e2,rfl⟩:=e;have hle:len<=m:=by rw[hmm];split <;> omega
  obtain⟨aa,h1,h2⟩:=hx k (by omega);rw[Zkr] at h1;obtain⟨_,hlen,hcc⟩:=World.cells?_some h1;obtain⟨ta,ts,tc,s,e12,e13,hr,hbt,hbs⟩:=Z44 h2;simp only at hbt hbs;have hD:Rows.uptoBulk (D k)<=1048576:=by
   have h3:Rows.uptoBulk (D k)<=Rows.uptoBulkAll ((List.range len).map D):=Zkt (List.mem_map.2 ⟨k,by simp;omega,rfl⟩);simp only[Rows.uptoBulk] at hb;omega
  have c12:=hcc 12 (by omega);have ab:=hcc 13 (by omega);rw[Zce,Zce] at c12 ab;have Y:=hc 12 (by omega);have d13:=hc 13 (by omega);rw[c12] at Y;rw[ab] at d13;have J:aa[12]? =some (.slice I[k].ta I[k].tn I[k].tc):=Y;have O:aa[13]? =some (.string I[k].s):=d13;rw[e12] at J;rw[e13] at O;simp only[Option.some.injEq,Value.slice.injEq,Value.string.injEq] at J O;obtain⟨g1,g2,_⟩:=J;refine⟨ts,s.data.toList,g2.symm,?_,by omega,?_,?_⟩
  ·rw[<-g1];rcases hr with h|⟨b',off',e',hb',hp⟩
   ·exact .inl h
   ·exact .inr ⟨b',off',e',hb',hp⟩
  ·rw[<-O]
  ·have e:s.data.toList.length=s.size:=by rw[Array.length_toList];rfl
   omega
end
end Go.Proofs.YtgpapegpdfonpaaGreatDoor
namespace Go.Proofs.YtgpapegpdfonpaaGreatDoor
open Go.RowKit Go.Proofs.Tryz
attribute [local go_sem ↓] Go.wp_at_zero Go.wp_at_succ
theorem Z52 (WB N:Nat)(v0:Value)(tag:Nat->Nat)(n wh J ay bx by' I cy Z Y:Int)(D:Option Addr)(l:List Pt)(lc:Nat)(ta:Option Addr)(ts:List T3)(tc:Nat)(s:ByteArray)(w:World)(h:Bks w WB v0 tag N)(V:Vars w)(hr:Z0 w D l)(O:l.length<=8796093021952)(ht:Zak w ta ts)(hts:ts.length<=1000000000) :
  Calls prog 10 #[.pointer (some ⟨WB,0,none⟩),Xj 12 n wh J ay bx by' I cy Z Y D l.length lc ta ts.length tc s] w fun e w'=>e= .returned (.bool true)/\Yp WB v0 N tag w w':=by
 have FP:=fun o=>Z4i WB n wh J ay bx by' I cy Z Y D l lc ta ts tc s (w.alloc o) (V.below (Zb w o)) (hr.below (Zb w o)) O (ht.below (Zb w o)) hts
 have HB:Hid (∀ o w',Below (w.alloc o).heap.size (w.alloc o) w'->Yp WB v0 N tag w w'):=fun o w' hb=>Yp.of_below h ((Zb w o).trans (hb.mono (Zb w o).size))
 clear h V hr O ht hts;go_enter func10,ntmps10;go_wp2_with (go_at_call 22;refine (FP _).mono ?_;rintro e w1 ⟨rfl,hb1⟩)
 go_ret;exact⟨rfl,HB.out _ _ hb1⟩
theorem Z53 (WB N:Nat)(v0:Value)(tag:Nat->Nat)(n wh Z ay bx by' J cy dx dy:Int)(la:Option Addr)(ln lc:Nat)(ta:Option Addr)(I tc:Nat)(D:List UInt8)(w:World)(h:Bks w WB v0 tag N)(Y:N<=925904528800)(V:Vars w)(O:D.length<=1000000000) :
  Calls prog 10 #[.pointer (some ⟨WB,0,none⟩),Xj 13 n wh Z ay bx by' J cy dx dy la ln lc ta I tc ⟨D.toArray⟩] w fun e w'=>e= .returned (.bool true)/\Yp WB v0 N tag w w':=by
 have FP:=fun o=>Z4l WB N v0 tag n wh Z ay bx by' J cy dx dy la ln lc ta I tc D (w.alloc o) (V.below (Zb w o)) (h.below (Zb w o)) Y O
 clear h V O Y;generalize (⟨D.toArray⟩:ByteArray)=S at *
 go_enter func10,ntmps10;go_wp2_with (go_at_call 22;refine (FP _).mono ?_;rintro e w1 ⟨rfl,hb1⟩)
 go_ret;exact⟨rfl,hb1.pre⟩
theorem Z54 {MAt:Yd}(L:MeshLaw MAt)(WB N:Nat)(v0:Value)(tag:Nat->Nat)(ds:List KD)(kd n D Y ay bx by' O cy dx Z:Int)(J:Option Addr)(l:List Pt)(lc:Nat)(ta:Option Addr)(ts:List T3)(tc:Nat)(I:List UInt8)(w:World)(n1: -9223372036854775808<=n)(n2:n<=9223372036854775807)(m1: -9223372036854775808<=D)(m2:D<=9223372036854775807)(h:MW MAt w WB N tag v0 ds)(hN:N<=925904528800)(V:Vars w)(hr:X9 tag w J l)(hl:l.length<=8796093021952)(ht:Zak w ta ts)(hts:ts.length<=1000000000)(hs:I.length<=1000000000)(h3:kd<=13) :
  Calls prog 10 #[.pointer (some ⟨WB,0,none⟩),Xj kd n D Y ay bx by' O cy dx Z J l.length lc ta ts.length tc ⟨I.toArray⟩] w fun e w'=>e= .returned (.bool true)/\Zg2 MAt WB N w w':=by
 by_cases h11:kd<=11
 ·exact Z50 L WB N v0 tag ds kd n D Y ay bx by' O cy dx Z J l lc ta ts.length tc ⟨I.toArray⟩ w n1 n2 m1 m2 h hN hr hl h11
 ·have key:Calls prog 10 #[.pointer (some ⟨WB,0,none⟩),Xj kd n D Y ay bx by' O cy dx Z J l.length lc ta ts.length tc ⟨I.toArray⟩] w fun e w'=>e= .returned (.bool true)/\Yp WB v0 N tag w w':=by
   by_cases h12:kd=12
   ·subst h12;exact Z52 WB N v0 tag n D Y ay bx by' O cy dx Z J l lc ta ts tc ⟨I.toArray⟩ w h.bk V hr.raw hl ht hts
   ·obtain rfl:kd=13:=by omega
    exact Z53 WB N v0 tag n D Y ay bx by' O cy dx Z J l.length lc ta ts.length tc I w h.bk hN V hs
  refine key.mono ?_;rintro e w' ⟨rfl,hs⟩;obtain⟨tag',q⟩:=h.step L hs;exact⟨rfl,hs.low h.bk,_,tag',ds,q⟩
theorem Z55 {MAt:Yd}(L:MeshLaw MAt)(WB:Nat)(v0:Value)(tag0:Nat->Nat)(ds0:List KD)(a:Option Addr)(cap:Nat)(D:List OpD)(w:World)(h:MW MAt w WB 2 tag0 v0 ds0)(V:Vars w)(hW6:6<=WB)(hs:Zdy WB w a D)(hx:XAt WB w D)(hg:Zgy D)(hl:D.length<=925904528626) :
  Calls prog 9 #[.pointer (some ⟨WB,0,none⟩),.slice a D.length cap,.int .i64 13] w fun e w'=>e= .returned (.bool true)/\Below WB w w':=by
 have HS:Hid (Zdy WB w a D):=hs;have HG:Hid (Zgy D):=hg;have HX:Hid (XAt WB w D):=hx;have HV:Hid (Vars w):=V;have HL:Hid (D.length<=925904528626):=hl;have l20:(D.length:Int)<=925904528626:=by omega
 clear hs hl hg hx V;go_enter func9,ntmps9;go_wp2
 go_loopw [7] (fun i wr=>∃ k:Nat,k<=D.length/\i= .int .i64 k/\(∃ v0 tag ds,MW MAt wr WB (k+2) tag v0 ds)/\Below WB w wr) (fun i _=>D.length-(intOf i).toNat)
 case atStart=>exact⟨0,by omega,rfl,⟨v0,tag0,ds0,h⟩,Below.refl _ _⟩
 case round=>
  clear h;obtain⟨k,hk,rfl,⟨v,tag,ds,J⟩,O⟩:=hrel;by_cases hlt:k<D.length
  ·obtain⟨b,off,rfl,hbW,I,hlow,hll⟩:=(HS.out.below O) k hlt;obtain⟨⟨n1,n2⟩,Z,m2⟩:=HG.out k hlt;obtain⟨ts,sl,et,hT,htl,es,hsl⟩:=(HX.out.below O) k hlt;generalize D[k]=o at *
   obtain⟨kd,n,wh,ax,ay,bx,by',cx,cy,dx,dy,la,l,lc,ta,tn,tc,s⟩:=o;have c0:=I 0 (by omega);have c1:=I 1 (by omega);have c2:=I 2 (by omega);have c3:=I 3 (by omega);have c4:=I 4 (by omega);have c5:=I 5 (by omega);have c6:=I 6 (by omega);have c7:=I 7 (by omega);have c8:=I 8 (by omega);have c9:=I 9 (by omega);have c10:=I 10 (by omega);have c11:=I 11 (by omega);have c12:=I 12 (by omega);have c13:=I 13 (by omega);simp only[OpD.cells,List.getElem?_cons_zero,List.getElem?_cons_succ,Nat.add_zero] at c0 c1 c2 c3 c4 c5 c6 c7 c8 c9 c10 c11 c12 c13;simp only at hlow hll n1 n2 Z m2 et hT es;subst et es;have x0:(0:Int)<=(k:Int):=by omega
   have x1:(k:Int)<(D.length:Int):=by omega
   have x4:IntKind.i64.wrap ((k:Int)+1)=(k:Int)+1:=Zd (by omega) (by omega);clear I;by_cases h3:kd<=13
   ·have hN:k+2<=925904528800:=by have:=HL.out;omega
    have hN1:k+2+1<=925904529000:=by have:=HL.out;omega
    have FS:=Z54 L WB (k+2) v tag ds kd n wh ax ay bx by' cx cy dx dy la l lc ta ts tc sl wr n1 n2 Z m2 J hN (HV.out.below6 (O.mono hW6)) (hlow.for J.bk) hll (hT.raw (Nat.le_of_lt J.bk.lt)) htl hsl h3
    have FK:=fun W v tg (hW:Bks W WB v tg (k+2+1))=>Z4r WB (k+2+1) v tg W hW hN1
    have y3:¬ (13<kd):=by omega
    have Y:Hid (Below WB w wr):=O;clear J hlow hll hN hN1 O n1 n2 Z m2 hT htl hsl
    go_wp2_with (first
      | (go_at_call 10; refine FS.mono ?_; rintro e w1 ⟨rfl, hb1, v1, tag1, ds1, hM1⟩)
      | (go_at_call 18; refine (FK _ v1 tag1 hM1.bk).mono ?_; rintro e w2 ⟨rfl, hb2⟩))
    have HR:Hid ((∃ v tag ds,MW MAt w2 WB (k+2+1) tag v ds)/\Below WB w w2):=⟨⟨v1,tag1,ds1,hM1.below L hb2⟩,(Y.out.trans hb1).trans (hb2.mono (Nat.le_of_lt hM1.bk.lt))⟩;clear hM1 hb1 hb2 FS FK;go_roundw;case rel=>exact⟨k+1,by omega,by go_num,by rw[show k+1+2=k+2+1 by omega];exact HR.out.1,HR.out.2⟩
    case measure=>simp[intOf];omega
   ·have y3:13<kd:=by omega
    have Y:Hid (MW MAt wr WB (k+2+1) tag v ds/\Below WB w wr):=⟨⟨J.bk.more (by omega),J.row,J.tr,J.km,fun j hj=>by have:=J.ev j hj;omega,by have:=J.len;omega⟩,O⟩;clear J hlow hll O n1 n2 Z m2 hT htl hsl;go_wp2
    go_roundw;case rel=>exact⟨k+1,by omega,by go_num,by rw[show k+1+2=k+2+1 by omega];exact⟨v,tag,ds,Y.out.1⟩,Y.out.2⟩
    case measure=>simp[intOf];omega
  ·have Y:Hid (Below WB w wr):=O;clear J O;go_wp2
   go_ret;exact⟨rfl,Y.out⟩
theorem Z56 {MAt:Yd}(L:MeshLaw MAt)(a:Option Addr)(cap:Nat)(D:List OpD)(w:World)(V:Vars w)(J:Zdy w.heap.size w a D)(hx:XAt w.heap.size w D)(O:Zgy D)(hl:D.length<=925904528626) :
  Calls prog 7 #[.slice a D.length cap] w fun e w'=>e= .returned (.bool true)/\Below w.heap.size w w':=by
 have h6:6<=w.heap.size:=by
  obtain⟨ev,h,_⟩:=V.ran;have:=World.block_lt_of_cell? w _ h;exact this
 have HS:Hid (Zdy w.heap.size w a D):=J;have HX:Hid (XAt w.heap.size w D):=hx;have HV:Hid (Vars w):=V;have HG:Hid (Zgy D):=O;have HL:Hid (D.length<=925904528626):=hl;have H6:=Lib.hid h6;have FS:=Lib.hid (Zn2 L w.heap.size 0 (.slice none 0 0) (fun k=>if k=w.heap.size then 4 else 0) [] 0 0 0 0 0 0 0 0 0 0 none 0 0 none 0 0 .empty _ (Z51 (MAt:=MAt) w) (by omega));clear J hl O hx V h6;go_enter func7,ntmps7;go_upto_region 3 with (go_at_call 10;refine FS.out.mono ?_;rintro e w1 ⟨rfl,Y,v1,tag1,ds1,hM1⟩);have hb01:Below w.heap.size w w1:=(Zb _ _).trans Y;have FS2:=Lib.hid (Zn2 L w.heap.size 1 v1 tag1 ds1 0 0 0 0 0 0 0 0 0 0 none 0 0 none 0 0 .empty w1 hM1 (by omega));have HB1:=Lib.hid hb01;clear hM1 Y FS hb01;go_upto_region 4 with (go_at_call 10;refine FS2.out.mono ?_;rintro e w2 ⟨rfl,hb2,v2,tag2,ds2,Z⟩);have I:Below w.heap.size w w2:=HB1.out.trans hb2;have FP:=Lib.hid (Z55 L w.heap.size v2 tag2 ds2 a cap D w2 Z (HV.out.below I) H6.out (HS.out.below I) (HX.out.below I) HG.out HL.out);have HB2:=Lib.hid I;clear Z hb2 FS2 I;go_wp2_with (go_at_call 9;refine FP.out.mono ?_;rintro e w3 ⟨rfl,hb3⟩)
 go_ret;exact⟨rfl,HB2.out.trans hb3⟩
end Go.Proofs.YtgpapegpdfonpaaGreatDoor
