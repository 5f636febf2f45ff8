/- Part. -/
import Derived.Test.YtgpapegpdfonpaaGreatDoorTextAD
import Derived.Test.YtgpapegpdfonpaaGreatDoorLawBk
import Derived.Lib.OthersKept
import Derived.Lib.BufferKept
import Derived.Laws.IdiomStrings
set_option linter.unusedVariables false
set_option linter.unusedSimpArgs false
set_option maxHeartbeats 16000000
set_option maxRecDepth 100000
namespace Go.Proofs.YtgpapegpdfonpaaGreatDoor
open Go.RowKit Go.Proofs.Tryz
open Go.Value(int)
open Go.IntKind(i64)
attribute [local go_sem ↓] Go.wp_at_zero Go.wp_at_succ
def Xy (e:List (List Int)):List Pt:=e.map fun r=>(r.getD 0 0,r.getD 1 0)
def Ym (e D lo hi:Int)(k:Nat)(s:List UInt8):List (List Int)×List UInt8×Bool×Nat:=match Z3 e D 1 s with
 | none=>([],s,false,1)
 | some q=>((Zr lo hi k (q.1.getD 0 0).toNat q.2).1,(Zr lo hi k (q.1.getD 0 0).toNat q.2).2.1,(Zr lo hi k (q.1.getD 0 0).toNat q.2).2.2,if (Zr lo hi k (q.1.getD 0 0).toNat q.2).2.2 then (Zr lo hi k (q.1.getD 0 0).toNat q.2).1.length+1 else (Zr lo hi k (q.1.getD 0 0).toNat q.2).1.length+2)
def Za5 (lo hi:Int)(k c:Nat)(b:List UInt8)(i:Nat)(e:List UInt8)(D:List (List Int)):Prop:=
 D.length=i/\e.length+i<=b.length/\Zr lo hi k c b=(D ++ (Zr lo hi k (c-i) e).1,(Zr lo hi k (c-i) e).2)
theorem Za5.start {lo hi:Int}{k c:Nat}{b:List UInt8}:Za5 lo hi k c b 0 b []:=⟨rfl,Nat.le_refl _,by simp⟩
theorem Za5.step {lo hi:Int}{k c i:Nat}{b D e:List UInt8}{I:List (List Int)}{J:List Int}(h:Za5 lo hi k c b i D I)(hi':i<c)(Y:Z3 lo hi k D=some (J,e))(hj:e.length+1<=D.length):Za5 lo hi k c b (i+1) e (I ++ [J]):=by
 obtain⟨O,h2,Z⟩:=h;refine⟨by simp[O],by omega,?_⟩;rw[Z,show c-i=(c-(i+1))+1 by omega,Zr,Y];simp
theorem Za5.bad {lo hi:Int}{k c i:Nat}{b e:List UInt8}{D:List (List Int)}(h:Za5 lo hi k c b i e D)(Y:i<c)(I:Z3 lo hi k e=none):Zr lo hi k c b=(D,e,false):=by
 obtain⟨Z,O,J⟩:=h;rw[J,show c-i=(c-(i+1))+1 by omega,Zr,I];simp
theorem Za5.all {lo hi:Int}{k c:Nat}{b D:List UInt8}{e:List (List Int)}(h:Za5 lo hi k c b c D e):Zr lo hi k c b=(e,D,true):=by
 obtain⟨O,J,I⟩:=h;rw[I,Nat.sub_self,Zr];simp
theorem Zgc {lo hi:Int}{k:Nat}{s b:List UInt8}{e:List Int}(h:Z3 lo hi (k+1) s=some (e,b)):b.length+1<=s.length:=by
 obtain⟨_,_,rfl⟩:=Zbg.1 h;simp;try omega
theorem Zqk (D:List (List Int))(e:List Int):Xy (D ++ [e])=Xy D ++ [(e.getD 0 0,e.getD 1 0)]:=by simp[Xy]
theorem Zql (l:List Pt)(p:Pt):Zg (l ++ [p])=Zg l ++ [int i64 p.1,int i64 p.2]:=by
 induction l with
 | nil=>rfl
 | cons q l ih=>simp[Zg,ih]
theorem Zqm (w:World)(v u:Value)(t:TypeId):∀ j x,[v,u][j]? =some x->(w.alloc (.cells #[v,u] t)).cell? ((⟨w.heap.size,0,none⟩:Addr).add j)=some x:=by
 intro j x h;match j,h with
 | 0,h=>simp at h;subst h;simp[Addr.add,go_sem]
 | 1,h=>simp at h;subst h;simp[Addr.add,go_sem]
structure HeadPost (w w':World)(R:Nat)(nn:Int)(s:List UInt8)(H:List (List Int)×List UInt8×Bool×Nat)(own:Value->Prop)(v:Value):Prop where
 chg:Chg (fun k=>k=R) w w'
 lat:∃ s',LAt w' R s' (nn+H.2.2.2)/\s'.length<=s.length/\(H.2.2.1=true->s'=H.2.1)
 good:H.2.2.1=true->own v
 bad:H.2.2.1=false->v= .slice none 0 0
theorem Zx3 (R:Nat)(s:List UInt8)(w:World)(V:Vars w)(hR:LAt w R s 0)(hR6:6<=R)(hs:s.length<=1000000000000) :
  Calls prog 79 #[.pointer (some ⟨R,0,none⟩)] w fun e w'=>∃ v,e= .returned (.tuple #[v,.bool (Ym 0 60 (-8000) 8000 2 s).2.2.1])/\
   HeadPost w w' R 0 s (Ym 0 60 (-8000) 8000 2 s) (fun v=>w'.ownsRow w.heap.size 37 2 v (Ym 0 60 (-8000) 8000 2 s).1.length (Zg (Xy (Ym 0 60 (-8000) 8000 2 s).1))) v:=by
 obtain⟨iP,hiP,hzP,hsP,hbP⟩:=info_parts Zdk;have HN1:=Lib.hid (Zi7 R s 0 1 0 60 w V hR hR6 (by omega) (by omega) (by omega) (by omega) (by omega));have hRl:=Zh hR;have HR0:=Lib.hid hR;have HV:=Lib.hid V;have HS:=Lib.hid hs;obtain⟨ok1,eo⟩:∃ ok1,(Z3 0 60 1 s).isSome=ok1:=⟨_,rfl⟩;rw[eo] at HN1;have HO:=Lib.hid eo;clear V hR hs eo;go_enter func79,ntmps79;go_upto_region 2 with (first|(go_at_call 116;refine HN1.out.mono ?_;rintro e w1 ⟨x,y,z,s1,rfl,hp1⟩));have HP1:=Lib.hid hp1;have hC1:Chg (fun k=>k=R) w (w1.alloc (.cells #[int i64 x,int i64 y,int i64 z] 178)):=hp1.chg.trans (Chg.of_below (F:=fun k=>k=R) (Zb _ _)) fun _ _ h=>h
 have hL1:LAt (w1.alloc (.cells #[int i64 x,int i64 y,int i64 z] 178)) R s1 (0+1):=hp1.at'.below (Zb _ _);have hN1:(w1.alloc (.cells #[int i64 x,int i64 y,int i64 z] 178)).cell? ⟨w1.heap.size,0,none⟩=some (int i64 x):=by rw[World.cell?_alloc_at _ _ _ _ (by simp)];rfl
 clear hp1 HN1;generalize w1.alloc (.cells #[int i64 x,int i64 y,int i64 z] 178)=W1 at *
 generalize w1.heap.size=N1 at *
 have HC1:=Lib.hid hC1;have HL1:=Lib.hid hL1;clear hC1 hL1;cases ok1 with
 | false=>
  have hH:Hid (Ym 0 60 (-8000) 8000 2 s=([],s,false,1)):=by
   have:Z3 0 60 1 s=none:=by have:=HO.out;cases h:Z3 0 60 1 s <;> simp_all
   unfold Hid Ym;rw[this]
  go_wp2
  go_ret2;refine⟨.slice none 0 0,?_,?_⟩
  ·rw[hH.out];rfl
  ·rw[hH.out];exact⟨HC1.out,⟨s1,HL1.out,HP1.out.len,(fun h=>by cases h)⟩,(fun h=>by cases h),fun _=>rfl⟩
 | true=>
  obtain⟨c,b,hl,hc0,hc60,rfl,rfl⟩:∃ (c:Nat) (b:List UInt8),Z3 0 60 1 s=some ([(c:Int)],b)/\0<=c/\c<=60/\x=(c:Int)/\s1=b:=by
   obtain⟨q,hq⟩:=Option.isSome_iff_exists.1 HO.out;obtain⟨ns,b⟩:=q;obtain⟨f1,f2,f3⟩:=Zbg.1 hq;match ns,f1 with
   | [m],_=>
    have hm:=f2 m (by simp);obtain⟨a1,_,_,a4⟩:=HP1.out.val _ _ hq;refine⟨m.toNat,b,by rw[hq,show ((m.toNat:Nat):Int)=m by omega],by omega,by omega,?_,a4⟩;rw[a1];simp only[List.getD_cons_zero];omega
  have hH:Hid (Ym 0 60 (-8000) 8000 2 s=((Zr (-8000) 8000 2 c s1).1,(Zr (-8000) 8000 2 c s1).2.1,(Zr (-8000) 8000 2 c s1).2.2,if (Zr (-8000) 8000 2 c s1).2.2 then (Zr (-8000) 8000 2 c s1).1.length+1 else (Zr (-8000) 8000 2 c s1).1.length+2)):=by
   unfold Hid Ym;rw[hl];rfl
  have hlen1:Hid (s1.length<=s.length):=HP1.out.len;clear hl HO HP1;go_wp2_with fail
  have hb1s:=HC1.out.size;go_loopw [6,7,8,18] (fun s6 _ _ s18 wr=>∃ (i:Nat) (O:List UInt8) (D:List (List Int)),i<=c/\s18=int i64 i/\Za5 (-8000) 8000 2 c s1 i O D/\wr.ownsRow w.heap.size 37 2 s6 D.length (Zg (Xy D))/\LAt wr R O (0+1+i)/\Chg (fun k=>k=R) w wr) (fun _ _ _ s18 _=>c-(intOf s18).toNat)
  case atStart=>exact⟨0,s1,[],Nat.zero_le _,rfl,Za5.start,⟨rfl,.inl ⟨rfl,rfl⟩⟩,by simpa using HL1.out,HC1.out⟩
  case round=>
   obtain⟨i,O,D,hic,rfl,hI,hO,hLA,hCh⟩:=hrel;have HI:=Lib.hid hI;have HLA:=Lib.hid hLA;have HCH:=Lib.hid hCh;have HOW:=Lib.hid hO;obtain⟨va,vc,rfl⟩:=Zn hO;have HRL:=Lib.hid hI.1;clear hI hLA hCh hO;by_cases hlt:i<c
   ·have y1:(i:Int)<(c:Int):=by omega
    have yi:IntKind.i64.wrap ((i:Int)+1)=(i:Int)+1:=Zd (by omega) (by omega);have hVr:Vars wr:=HV.out.below6 (HCH.out.below (by omega) fun k Z hF=>by omega);have HN2:=Lib.hid (Zi7 R O (0+1+i) 2 (-8000) 8000 wr hVr HLA.out hR6 (by have:=HI.out.2.1;have:=hlen1.out;have:=HS.out;omega) (by omega) (by omega) (by omega) (by omega));obtain⟨ok2,eo⟩:∃ ok2,(Z3 (-8000) 8000 2 O).isSome=ok2:=⟨_,rfl⟩;rw[eo] at HN2;have HO2:=Lib.hid eo;clear eo hVr;go_upto_region 8 with (first|(go_at_call 116;refine HN2.out.mono ?_;rintro e Y ⟨J,I,z2,s2,rfl,hp2⟩));have hb2a:=Zb Y (.cells #[int i64 J,int i64 I,int i64 z2] 178);have hC2:Chg (fun k=>k=R) w (Y.alloc (.cells #[int i64 J,int i64 I,int i64 z2] 178)):=(HCH.out.trans hp2.chg fun _ _ h=>h).trans (Chg.of_below (F:=fun k=>k=R) hb2a) fun _ _ h=>h
    have hL2:LAt (Y.alloc (.cells #[int i64 J,int i64 I,int i64 z2] 178)) R s2 (0+1+i+1):=hp2.at'.below hb2a;have hO2:(Y.alloc (.cells #[int i64 J,int i64 I,int i64 z2] 178)).ownsRow w.heap.size 37 2 (.slice va D.length vc) D.length (Zg (Xy D)):=Z9 HOW.out fun g hg=>by
     have h1:=Zx HOW.out hg;have h2:=(HOW.out.lt g hg).1;rw[hb2a.block g (L3 h1 hp2.chg.size)];exact hp2.chg.far g h1 (by omega)
    have n0:(Y.alloc (.cells #[int i64 J,int i64 I,int i64 z2] 178)).cell? ⟨Y.heap.size,0,none⟩=some (int i64 J):=by rw[World.cell?_alloc_at _ _ _ _ (by simp)];rfl
    have n1:(Y.alloc (.cells #[int i64 J,int i64 I,int i64 z2] 178)).cell? ⟨Y.heap.size,1,none⟩=some (int i64 I):=by rw[World.cell?_alloc_at _ _ _ _ (by simp)];rfl
    have hNl:Y.heap.size<(Y.alloc (.cells #[int i64 J,int i64 I,int i64 z2] 178)).heap.size:=by simp
    have HP2:=Lib.hid hp2;clear hp2 hb2a HN2;generalize Y.alloc (.cells #[int i64 J,int i64 I,int i64 z2] 178)=W2 at *
    generalize Y.heap.size=N2 at *
    have HC2:=Lib.hid hC2;have HL2:=Lib.hid hL2;have HOW2:=Lib.hid hO2;have hWs:w.heap.size<=W2.heap.size:=hC2.size;clear hC2 hL2 hO2;cases ok2 with
    | false=>
     have hB:Hid (Zr (-8000) 8000 2 c s1=(D,O,false)):=by
      have:Z3 (-8000) 8000 2 O=none:=by have:=HO2.out;cases h:Z3 (-8000) 8000 2 O <;> simp_all
      exact HI.out.bad hlt this
     have hH2:Hid (Ym 0 60 (-8000) 8000 2 s=(D,O,false,D.length+2)):=by unfold Hid;rw[hH.out,hB.out];rfl
     clear hH hB;go_wp2
     go_ret2;refine⟨.slice none 0 0,?_,?_⟩
     ·rw[hH2.out];rfl
     ·rw[hH2.out];refine⟨HC2.out,⟨s2,?_,?_,(fun h=>by cases h)⟩,(fun h=>by cases h),fun _=>rfl⟩
      ·have:=HL2.out;rw[show (0:Int)+1+(i:Int)+1=0+((D.length+2:Nat):Int) by have:=HRL.out;omega] at this;exact this
      ·have:=HP2.out.len;have:=HI.out.2.1;have:=hlen1.out;omega
    | true=>
     obtain⟨ns,hl2,e1,e2⟩:∃ ns,Z3 (-8000) 8000 2 O=some (ns,s2)/\J=ns.getD 0 0/\I=ns.getD 1 0:=by
      obtain⟨q,hq⟩:=Option.isSome_iff_exists.1 HO2.out;obtain⟨ns,b⟩:=q;obtain⟨a1,a2,_,a4⟩:=HP2.out.val _ _ hq;exact⟨ns,by rw[hq,a4],a1,a2⟩
     have HI2:=Lib.hid (HI.out.step hlt hl2 (Zgc hl2));have HSN:Hid (Zg (Xy (D ++ [ns]))=Zg (Xy D) ++ [int i64 J,int i64 I]):=by unfold Hid;rw[Zqk,Zql,e1,e2]
     have HN3:Hid (∀ j u,[Value.int .i64 J,int i64 I][j]? =some u->(W2.alloc (.cells #[int i64 J,int i64 I] 37)).cell? ((⟨W2.heap.size,0,none⟩:Addr).add j)=some u):=Zqm _ _ _ _;have hr60:D.length<=60:=by have:=HRL.out;omega
     clear hl2 e1 e2 HO2;go_wp2_with (at_builtin;refine Xv _ (by rfl) (.tmp 27) (.tmp 33) 41 (by rfl) w.heap.size 37 iP (.agg #[int i64 0,int i64 0]) 2 16 underlying41 hiP hzP hsP hbP rfl (by decide) _ _ _ (by rfl) (Yt HOW2.out (Zb _ _)) ⟨W2.heap.size,0,none⟩ 1 1 [int i64 J,int i64 I] (by rfl) rfl HN3.out ?c2 (by decide) ?c3 ?c4 ?c5 (W2.heap.size+1) ?c6 ?_)
     case c2=>intro u hu;simp at hu;rcases hu with rfl|rfl <;> rfl
     case c3=>unfold maxLen;omega
     case c4=>omega
     case c5=>simp;omega
     case c6=>simp
     ·intro g2 cap2 w3 hown3 hat3 hlt3;have hk0:Chg (fun k=>k=R) w (W2.alloc (.cells #[int i64 J,int i64 I] 37)):=HC2.out.trans (Chg.of_below (F:=fun k=>k=R) (Zb _ _)) fun _ _ h=>h
      have HF:Hid (w3.ownsRow w.heap.size 37 2 (.slice (some ⟨g2,0,none⟩) (D.length+1) cap2) (D ++ [ns]).length (Zg (Xy (D ++ [ns])))/\LAt w3 R s2 (0+1+((i+1:Nat):Int))/\Chg (fun k=>k=R) w w3):=by
       have hg2:w.heap.size<=g2:=(hown3.lt g2 rfl).1;have hgr:∀ k,k<W2.heap.size+1->k≠g2->w3.heap[k]? =(W2.alloc (.cells #[int i64 J,int i64 I] 37)).heap[k]? :=fun k Z hne=>by
        rcases hat3 with ⟨_,h⟩|⟨_,h⟩
        ·exact (Chg.of_grown (F:=fun k=>k=g2) h fun k Z=>by cases Z;rfl).far k (by simpa using Z) hne
        ·exact (Chg.of_grown (F:=fun k=>k=g2) h fun k Z=>by cases Z).far k (by simpa using Z) hne
       have hcg:Chg (fun k=>k=g2) (W2.alloc (.cells #[int i64 J,int i64 I] 37)) w3:=by
        rcases hat3 with ⟨_,h⟩|⟨_,h⟩
        ·exact Chg.of_grown h fun k Z=>by cases Z;rfl
        ·exact Chg.of_grown h fun k Z=>by cases Z
       refine⟨?_,?_,hk0.trans hcg fun k Z hF=>by omega⟩
       ·rw[HSN.out,List.length_append];exact hown3
       ·have h1:=HL2.out.below (Zb W2 (.cells #[int i64 J,int i64 I] 37));have:w3.heap[R]? =_:=(hgr R (by have:=Zh HL2.out;omega) (by omega)).trans h1;rw[show (0:Int)+1+((i+1:Nat):Int)=0+1+(i:Int)+1 by omega];exact this
      clear hown3 hat3 HOW2 HL2 HC2 HN3 HSN hk0;go_wp2
      go_roundw;case rel=>exact⟨i+1,s2,D ++ [ns],by omega,by go_num,HI2.out,HF.out.1,HF.out.2.1,HF.out.2.2⟩
      case measure=>simp[intOf];omega
   ·have y1:¬ (i:Int)<(c:Int):=by omega
    have eic:i=c:=by omega
    have hB:Hid (Zr (-8000) 8000 2 c s1=(D,O,true)):=by have:=HI.out;rw[eic] at this;exact this.all
    have hH2:Hid (Ym 0 60 (-8000) 8000 2 s=(D,O,true,D.length+1)):=by unfold Hid;rw[hH.out,hB.out];rfl
    clear hH hB eic;go_wp2
    go_ret2;refine⟨.slice va D.length vc,?_,?_⟩
    ·rw[hH2.out];rfl
    ·rw[hH2.out];refine⟨HCH.out,⟨O,?_,(by have:=HI.out.2.1;have:=hlen1.out;omega),fun _=>rfl⟩,fun _=>HOW.out,(fun h=>by cases h)⟩;have:=HLA.out;rw[show (0:Int)+1+(i:Int)=0+((D.length+1:Nat):Int) by have:=HRL.out;omega] at this;exact this
def Zac (e:List (List Int)):List Value:=e.flatMap fun r=>[int i64 (r.getD 0 0),int i64 (r.getD 1 0),int i64 (r.getD 2 0)]
theorem Zqn (D:List (List Int))(e:List Int):Zac (D ++ [e])=Zac D ++ [int i64 (e.getD 0 0),int i64 (e.getD 1 0),int i64 (e.getD 2 0)]:=by simp[Zac]
theorem Zx4:(prog.info? 53).map (fun i=>(i.zero,i.size,i.bytes))=some (some (.agg #[int i64 0,int i64 0,int i64 0]),3,24):=by kernel_rfl
theorem Zqo (w:World)(a b c:Value)(t:TypeId):∀ j x,[a,b,c][j]? =some x->(w.alloc (.cells #[a,b,c] t)).cell? ((⟨w.heap.size,0,none⟩:Addr).add j)=some x:=by
 intro j x h;match j,h with
 | 0,h=>simp at h;subst h;simp[Addr.add,go_sem]
 | 1,h=>simp at h;subst h;simp[Addr.add,go_sem]
 | 2,h=>simp at h;subst h;simp[Addr.add,go_sem]
theorem Zx5 (n:Nat)(w:World):Calls prog 117 #[int i64 (n:Int)] w fun e w'=>e= .returned (int i64 (Y7 n))/\w'=w:=by
 unfold Y7;by_cases h:n=0
 ·subst h;go_enter func117,ntmps117;go_wp2
  go_ret;exact⟨rfl,rfl⟩
 ·rw[if_neg h];have D:((n:Int) == 0)=false:=beq_eq_false_iff_ne.2 (by omega);go_enter func117,ntmps117;go_wp2
  go_ret;exact⟨rfl,rfl⟩
theorem Zx6 (R:Nat)(s:List UInt8)(Z:Int)(D:Nat)(hp60:D<=60)(hn0:0<=Z)(hn1:Z<=1000)(w:World)(V:Vars w)(hR:LAt w R s Z)(hR6:6<=R)(hs:s.length<=1000000000) :
  Calls prog 80 #[.pointer (some ⟨R,0,none⟩),int i64 (D:Int)] w fun e w'=>∃ v,e= .returned (.tuple #[v,.bool (Ym 0 (Y7 D) 0 ((D:Int)-1) 3 s).2.2.1])/\
   HeadPost w w' R Z s (Ym 0 (Y7 D) 0 ((D:Int)-1) 3 s) (fun v=>w'.ownsRow w.heap.size 53 3 v (Ym 0 (Y7 D) 0 ((D:Int)-1) 3 s).1.length (Zac ((Ym 0 (Y7 D) 0 ((D:Int)-1) 3 s).1))) v:=by
 obtain⟨iP,hiP,hzP,hsP,hbP⟩:=info_parts Zx4;have HN1:=Lib.hid (Zi7 R s Z 1 0 (Y7 D) w V hR hR6 (by omega) (by omega) (by omega) (by omega) (by omega));have hRl:=Zh hR;have HR0:=Lib.hid hR;have HV:=Lib.hid V;have HS:=Lib.hid hs;obtain⟨ok1,eo⟩:∃ ok1,(Z3 0 (Y7 D) 1 s).isSome=ok1:=⟨_,rfl⟩;rw[eo] at HN1;have HO:=Lib.hid eo;have HM:=Lib.hid (fun W=>Zx5 D W);clear V hR hs eo;have yp:IntKind.i64.wrap ((D:Int)-1)=(D:Int)-1:=Zd (by omega) (by omega);go_enter func80,ntmps80;go_upto_region 2 with (first|(go_at_call 117;refine (HM.out _).mono ?_;rintro e w0 ⟨rfl,hw0⟩;rw[hw0];clear hw0)|(go_at_call 116;refine HN1.out.mono ?_;rintro e w1 ⟨x,y,z,s1,rfl,hp1⟩));have HP1:=Lib.hid hp1;have hC1:Chg (fun k=>k=R) w (w1.alloc (.cells #[int i64 x,int i64 y,int i64 z] 178)):=hp1.chg.trans (Chg.of_below (F:=fun k=>k=R) (Zb _ _)) fun _ _ h=>h
 have hL1:LAt (w1.alloc (.cells #[int i64 x,int i64 y,int i64 z] 178)) R s1 (Z+1):=hp1.at'.below (Zb _ _);have hN1:(w1.alloc (.cells #[int i64 x,int i64 y,int i64 z] 178)).cell? ⟨w1.heap.size,0,none⟩=some (int i64 x):=by rw[World.cell?_alloc_at _ _ _ _ (by simp)];rfl
 clear hp1 HN1;generalize w1.alloc (.cells #[int i64 x,int i64 y,int i64 z] 178)=W1 at *
 generalize w1.heap.size=N1 at *
 have HC1:=Lib.hid hC1;have HL1:=Lib.hid hL1;clear hC1 hL1;cases ok1 with
 | false=>
  have hH:Hid (Ym 0 (Y7 D) 0 ((D:Int)-1) 3 s=([],s,false,1)):=by
   have:Z3 0 (Y7 D) 1 s=none:=by have:=HO.out;cases h:Z3 0 (Y7 D) 1 s <;> simp_all
   unfold Hid Ym;rw[this]
  go_wp2
  go_ret2;refine⟨.slice none 0 0,?_,?_⟩
  ·rw[hH.out];rfl
  ·rw[hH.out];exact⟨HC1.out,⟨s1,HL1.out,HP1.out.len,(fun h=>by cases h)⟩,(fun h=>by cases h),fun _=>rfl⟩
 | true=>
  obtain⟨c,b,hl,hc0,hc60,rfl,rfl⟩:∃ (c:Nat) (b:List UInt8),Z3 0 (Y7 D) 1 s=some ([(c:Int)],b)/\0<=c/\(c:Int)<=9223372036854775807/\x=(c:Int)/\s1=b:=by
   obtain⟨q,hq⟩:=Option.isSome_iff_exists.1 HO.out;obtain⟨ns,b⟩:=q;obtain⟨f1,f2,f3⟩:=Zbg.1 hq;match ns,f1 with
   | [m],_=>
    have hm:=f2 m (by simp);obtain⟨a1,_,_,a4⟩:=HP1.out.val _ _ hq;refine⟨m.toNat,b,by rw[hq,show ((m.toNat:Nat):Int)=m by omega],by omega,by have:=hm.1.2;omega,?_,a4⟩;rw[a1];simp only[List.getD_cons_zero];omega
  have hH:Hid (Ym 0 (Y7 D) 0 ((D:Int)-1) 3 s=((Zr 0 ((D:Int)-1) 3 c s1).1,(Zr 0 ((D:Int)-1) 3 c s1).2.1,(Zr 0 ((D:Int)-1) 3 c s1).2.2,if (Zr 0 ((D:Int)-1) 3 c s1).2.2 then (Zr 0 ((D:Int)-1) 3 c s1).1.length+1 else (Zr 0 ((D:Int)-1) 3 c s1).1.length+2)):=by
   unfold Hid Ym;rw[hl];rfl
  have hlen1:Hid (s1.length<=s.length):=HP1.out.len;clear hl HO HP1;go_wp2_with fail
  have hb1s:=HC1.out.size;go_loopw [8,9,10,22] (fun s6 _ _ s18 wr=>∃ (i:Nat) (si:List UInt8) (I:List (List Int)),i<=c/\s18=int i64 i/\Za5 0 ((D:Int)-1) 3 c s1 i si I/\wr.ownsRow w.heap.size 53 3 s6 I.length (Zac I)/\LAt wr R si (Z+1+i)/\Chg (fun k=>k=R) w wr) (fun _ _ _ s18 _=>c-(intOf s18).toNat)
  case atStart=>exact⟨0,s1,[],Nat.zero_le _,rfl,Za5.start,⟨rfl,.inl ⟨rfl,rfl⟩⟩,by simpa using HL1.out,HC1.out⟩
  case round=>
   obtain⟨i,si,I,hic,rfl,hI,hO,hLA,hCh⟩:=hrel;have HI:=Lib.hid hI;have HLA:=Lib.hid hLA;have HCH:=Lib.hid hCh;have HOW:=Lib.hid hO;obtain⟨va,vc,rfl⟩:=Zn hO;have HRL:=Lib.hid hI.1;clear hI hLA hCh hO;by_cases hlt:i<c
   ·have y1:(i:Int)<(c:Int):=by omega
    have yi:IntKind.i64.wrap ((i:Int)+1)=(i:Int)+1:=Zd (by omega) (by omega);have hVr:Vars wr:=HV.out.below6 (HCH.out.below (by omega) fun k hk hF=>by omega);have HN2:=Lib.hid (Zi7 R si (Z+1+i) 3 0 ((D:Int)-1) wr hVr HLA.out hR6 (by have:=HI.out.2.1;have:=hlen1.out;have:=HS.out;omega) (by omega) (by have:=HI.out.2.1;have:=hlen1.out;have:=HS.out;omega) (by omega) (by omega));obtain⟨ok2,eo⟩:∃ ok2,(Z3 0 ((D:Int)-1) 3 si).isSome=ok2:=⟨_,rfl⟩;rw[eo] at HN2;have HO2:=Lib.hid eo;clear eo hVr;go_upto_region 8 with (first|(go_at_call 116;refine HN2.out.mono ?_;rintro e w2 ⟨O,J,Y,s2,rfl,hp2⟩));have hb2a:=Zb w2 (.cells #[int i64 O,int i64 J,int i64 Y] 178);have hC2:Chg (fun k=>k=R) w (w2.alloc (.cells #[int i64 O,int i64 J,int i64 Y] 178)):=(HCH.out.trans hp2.chg fun _ _ h=>h).trans (Chg.of_below (F:=fun k=>k=R) hb2a) fun _ _ h=>h
    have hL2:LAt (w2.alloc (.cells #[int i64 O,int i64 J,int i64 Y] 178)) R s2 (Z+1+i+1):=hp2.at'.below hb2a;have hO2:(w2.alloc (.cells #[int i64 O,int i64 J,int i64 Y] 178)).ownsRow w.heap.size 53 3 (.slice va I.length vc) I.length (Zac I):=Z9 HOW.out fun g hg=>by
     have h1:=Zx HOW.out hg;have h2:=(HOW.out.lt g hg).1;rw[hb2a.block g (L3 h1 hp2.chg.size)];exact hp2.chg.far g h1 (by omega)
    have n0:(w2.alloc (.cells #[int i64 O,int i64 J,int i64 Y] 178)).cell? ⟨w2.heap.size,0,none⟩=some (int i64 O):=by rw[World.cell?_alloc_at _ _ _ _ (by simp)];rfl
    have n2:(w2.alloc (.cells #[int i64 O,int i64 J,int i64 Y] 178)).cell? ⟨w2.heap.size,2,none⟩=some (int i64 Y):=by rw[World.cell?_alloc_at _ _ _ _ (by simp)];rfl
    have n1:(w2.alloc (.cells #[int i64 O,int i64 J,int i64 Y] 178)).cell? ⟨w2.heap.size,1,none⟩=some (int i64 J):=by rw[World.cell?_alloc_at _ _ _ _ (by simp)];rfl
    have hNl:w2.heap.size<(w2.alloc (.cells #[int i64 O,int i64 J,int i64 Y] 178)).heap.size:=by simp
    have HP2:=Lib.hid hp2;clear hp2 hb2a HN2;generalize w2.alloc (.cells #[int i64 O,int i64 J,int i64 Y] 178)=W2 at *
    generalize w2.heap.size=N2 at *
    have HC2:=Lib.hid hC2;have HL2:=Lib.hid hL2;have HOW2:=Lib.hid hO2;have hWs:w.heap.size<=W2.heap.size:=hC2.size;clear hC2 hL2 hO2;cases ok2 with
    | false=>
     have hB:Hid (Zr 0 ((D:Int)-1) 3 c s1=(I,si,false)):=by
      have:Z3 0 ((D:Int)-1) 3 si=none:=by have:=HO2.out;cases h:Z3 0 ((D:Int)-1) 3 si <;> simp_all
      exact HI.out.bad hlt this
     have hH2:Hid (Ym 0 (Y7 D) 0 ((D:Int)-1) 3 s=(I,si,false,I.length+2)):=by unfold Hid;rw[hH.out,hB.out];rfl
     clear hH hB;go_wp2
     go_ret2;refine⟨.slice none 0 0,?_,?_⟩
     ·rw[hH2.out];rfl
     ·rw[hH2.out];refine⟨HC2.out,⟨s2,?_,?_,(fun h=>by cases h)⟩,(fun h=>by cases h),fun _=>rfl⟩
      ·have:=HL2.out;rw[show Z+1+(i:Int)+1=Z+((I.length+2:Nat):Int) by have:=HRL.out;omega] at this;exact this
      ·have:=HP2.out.len;have:=HI.out.2.1;have:=hlen1.out;omega
    | true=>
     obtain⟨ns,hl2,e1,e2,e3⟩:∃ ns,Z3 0 ((D:Int)-1) 3 si=some (ns,s2)/\O=ns.getD 0 0/\J=ns.getD 1 0/\Y=ns.getD 2 0:=by
      obtain⟨q,hq⟩:=Option.isSome_iff_exists.1 HO2.out;obtain⟨ns,b⟩:=q;obtain⟨a1,a2,a3,a4⟩:=HP2.out.val _ _ hq;exact⟨ns,by rw[hq,a4],a1,a2,a3⟩
     have HI2:=Lib.hid (HI.out.step hlt hl2 (Zgc hl2));have HSN:Hid (Zac (I ++ [ns])=Zac I ++ [int i64 O,int i64 J,int i64 Y]):=by unfold Hid;rw[Zqn,e1,e2,e3]
     have HN3:Hid (∀ j u,[Value.int .i64 O,int i64 J,int i64 Y][j]? =some u->(W2.alloc (.cells #[int i64 O,int i64 J,int i64 Y] 53)).cell? ((⟨W2.heap.size,0,none⟩:Addr).add j)=some u):=Zqo _ _ _ _ _;have hr60:I.length<=1000000000:=by have:=HRL.out;have:=HI.out.2.1;have:=hlen1.out;have:=HS.out;omega
     clear hl2 e1 e2 e3 HO2;go_wp2_with (at_builtin;refine Xv _ (by rfl) (.tmp 33) (.tmp 41) 42 (by rfl) w.heap.size 53 iP (.agg #[int i64 0,int i64 0,int i64 0]) 3 24 underlying42 hiP hzP hsP hbP rfl (by decide) _ _ _ (by rfl) (Yt HOW2.out (Zb _ _)) ⟨W2.heap.size,0,none⟩ 1 1 [int i64 O,int i64 J,int i64 Y] (by rfl) rfl HN3.out ?c2 (by decide) ?c3 ?c4 ?c5 (W2.heap.size+1) ?c6 ?_)
     case c2=>intro u hu;simp at hu;rcases hu with rfl|rfl|rfl <;> rfl
     case c3=>unfold maxLen;omega
     case c4=>omega
     case c5=>simp;omega
     case c6=>simp
     ·intro g2 cap2 w3 hown3 hat3 hlt3;have hk0:Chg (fun k=>k=R) w (W2.alloc (.cells #[int i64 O,int i64 J,int i64 Y] 53)):=HC2.out.trans (Chg.of_below (F:=fun k=>k=R) (Zb _ _)) fun _ _ h=>h
      have HF:Hid (w3.ownsRow w.heap.size 53 3 (.slice (some ⟨g2,0,none⟩) (I.length+1) cap2) (I ++ [ns]).length (Zac (I ++ [ns]))/\LAt w3 R s2 (Z+1+((i+1:Nat):Int))/\Chg (fun k=>k=R) w w3):=by
       have hg2:w.heap.size<=g2:=(hown3.lt g2 rfl).1;have hgr:∀ k,k<W2.heap.size+1->k≠g2->w3.heap[k]? =(W2.alloc (.cells #[int i64 O,int i64 J,int i64 Y] 53)).heap[k]? :=fun k hk hne=>by
        rcases hat3 with ⟨_,h⟩|⟨_,h⟩
        ·exact (Chg.of_grown (F:=fun k=>k=g2) h fun k hk=>by cases hk;rfl).far k (by simpa using hk) hne
        ·exact (Chg.of_grown (F:=fun k=>k=g2) h fun k hk=>by cases hk).far k (by simpa using hk) hne
       have hcg:Chg (fun k=>k=g2) (W2.alloc (.cells #[int i64 O,int i64 J,int i64 Y] 53)) w3:=by
        rcases hat3 with ⟨_,h⟩|⟨_,h⟩
        ·exact Chg.of_grown h fun k hk=>by cases hk;rfl
        ·exact Chg.of_grown h fun k hk=>by cases hk
       refine⟨?_,?_,hk0.trans hcg fun k hk hF=>by omega⟩
       ·rw[HSN.out,List.length_append];exact hown3
       ·have h1:=HL2.out.below (Zb W2 (.cells #[int i64 O,int i64 J,int i64 Y] 53));have:w3.heap[R]? =_:=(hgr R (by have:=Zh HL2.out;omega) (by omega)).trans h1;rw[show Z+1+((i+1:Nat):Int)=Z+1+(i:Int)+1 by omega];exact this
      clear hown3 hat3 HOW2 HL2 HC2 HN3 HSN hk0;go_wp2
      go_roundw;case rel=>exact⟨i+1,s2,I ++ [ns],by omega,by go_num,HI2.out,HF.out.1,HF.out.2.1,HF.out.2.2⟩
      case measure=>simp[intOf];omega
   ·have y1:¬ (i:Int)<(c:Int):=by omega
    have eic:i=c:=by omega
    have hB:Hid (Zr 0 ((D:Int)-1) 3 c s1=(I,si,true)):=by have:=HI.out;rw[eic] at this;exact this.all
    have hH2:Hid (Ym 0 (Y7 D) 0 ((D:Int)-1) 3 s=(I,si,true,I.length+1)):=by unfold Hid;rw[hH.out,hB.out];rfl
    clear hH hB eic;go_wp2
    go_ret2;refine⟨.slice va I.length vc,?_,?_⟩
    ·rw[hH2.out];rfl
    ·rw[hH2.out];refine⟨HCH.out,⟨si,?_,(by have:=HI.out.2.1;have:=hlen1.out;omega),fun _=>rfl⟩,fun _=>HOW.out,(fun h=>by cases h)⟩;have:=HLA.out;rw[show Z+1+(i:Int)=Z+((I.length+1:Nat):Int) by have:=HRL.out;omega] at this;exact this
abbrev hd1 (s:List UInt8):=Ym 0 60 (-8000) 8000 2 s
abbrev hd2 (s:List UInt8):=Ym 0 (Y7 (hd1 s).1.length) 0 (((hd1 s).1.length:Int)-1) 3 (hd1 s).2.1
theorem Zl1 {s:List UInt8}(h:(hd1 s).2.2.1=false):Xb s= .inr (hd1 s).2.2.2:=by
 unfold Xb Zde;unfold hd1 Ym at *
 cases e:Z3 0 60 1 s with
 | none=>rfl
 | some q=>
  rw[e] at h;simp only at h ⊢;rcases hr:Zr (-8000) 8000 2 (q.1.getD 0 0).toNat q.2 with ⟨ps,b,ok⟩
  rw[hr] at h;simp only at h ⊢;subst h;simp
theorem Zl2 {s:List UInt8}(h:(hd1 s).2.2.1=true):Zde s=Zfx (hd1 s).1 (hd1 s).2.1/\(hd1 s).2.2.2=(hd1 s).1.length+1/\(hd1 s).1.length<=60:=by
 unfold Zde;unfold hd1 Ym at *
 cases e:Z3 0 60 1 s with
 | none=>rw[e] at h;cases h
 | some q=>
  rw[e] at h;simp only at h ⊢;rcases hr:Zr (-8000) 8000 2 (q.1.getD 0 0).toNat q.2 with ⟨ps,b,ok⟩
  rw[hr] at h;simp only at h ⊢;subst h;refine⟨rfl,by simp,?_⟩;obtain⟨O,Y⟩:=q;obtain⟨D,J,Z⟩:=Zbg.1 e;obtain⟨I,_,_⟩:=(Ze4 _ _ _ _).1 hr;match O,D with
  | [m],_=>
   have:=J m (by simp);simp at I;omega
theorem Zl3 {s:List UInt8}(I:(hd1 s).2.2.1=true)(h:(hd2 s).2.2.1=false):Xb s= .inr ((hd1 s).2.2.2+(hd2 s).2.2.2):=by
 obtain⟨e,D,_⟩:=Zl2 I;unfold Xb;rw[e,D];unfold Zfx;unfold hd2 at *
 generalize (hd1 s).1=ps at *
 generalize (hd1 s).2.1=b at *
 unfold Ym at *
 cases J:Z3 0 (Y7 ps.length) 1 b with
 | none=>simp
 | some q=>
  rw[J] at h;simp only at h ⊢;rcases hr:Zr 0 ((ps.length:Int)-1) 3 (q.1.getD 0 0).toNat q.2 with ⟨ts,O,ok⟩
  rw[hr] at h;simp only at h ⊢;subst h;simp;omega
theorem Zqp {s:List UInt8}(I:(hd1 s).2.2.1=true)(h:(hd2 s).2.2.1=true):Zde s= .good (hd1 s).1 (hd2 s).1 (hd2 s).2.1/\(hd2 s).2.2.2=(hd2 s).1.length+1:=by
 obtain⟨e,J,_⟩:=Zl2 I;rw[e];unfold Zfx;unfold hd2 at *
 generalize (hd1 s).1=ps at *
 generalize (hd1 s).2.1=b at *
 unfold Ym at *
 cases D:Z3 0 (Y7 ps.length) 1 b with
 | none=>rw[D] at h;cases h
 | some q=>
  rw[D] at h;simp only at h ⊢;rcases hr:Zr 0 ((ps.length:Int)-1) 3 (q.1.getD 0 0).toNat q.2 with ⟨ts,O,ok⟩
  rw[hr] at h;simp only at h ⊢;subst h;simp
theorem Zjh {w:World}{a b n D:Nat}{e:TypeId}{xs:List Value}{v:Value}(h:w.ownsRow a e D v n xs)(J:b<=a):w.ownsRow b e D v n xs:=by
 obtain⟨Y,h⟩:=h;refine⟨Y,?_⟩;rcases h with h|⟨g,cap,Z,O,I,r⟩
 ·exact .inl h
 ·exact .inr ⟨g,cap,Z,O,Nat.le_trans J I,r⟩
theorem Zho:∀ e:List (List Int),e.length<=(Zs e).length
 | []=>by simp
 | r :: e=>by
  have:=Zho e;simp only[Zs,List.flatMap_cons,List.length_append,List.length_cons] at *
  omega
def Zfb (w w':World)(s:List UInt8)(v u:Value)(n:Int):Prop:=match Xb s with
 | .inl q=>n=0/\w'.ownsRow w.heap.size 37 2 v q.1.length (Zg (Xy q.1))/\w'.ownsRow w.heap.size 53 3 u q.2.length (Zac q.2)
 | .inr k=>n=k/\0<k/\v= .slice none 0 0/\u= .slice none 0 0
theorem Chg.own {w w':World}{R D J n:Nat}{e:TypeId}{v:Value}{xs:List Value}(h:w.ownsRow D e J v n xs)(O:Chg (fun k=>k=R) w w')(Y:R<D):w'.ownsRow D e J v n xs:=
 Z9 h fun g I=>O.far g (Zx h I) (by have:=(h.lt g I).1;omega)
theorem Zx7 (s:List UInt8)(w:World)(V:Vars w)(hs:s.length<=1000000000) :
  Calls prog 31 #[bs s] w fun e w'=>∃ v u n,e= .returned (.tuple #[v,u,int i64 n])/\Zfb w w' s v u n/\Below w.heap.size w w':=by
 have h6:6<=w.heap.size:=by
  obtain⟨ev,h,_⟩:=V.ran;have:=World.block_lt_of_cell? w _ h;exact this
 have hb0:=Zb w (.cells #[bs s,int i64 0] 129);have hL0:LAt (w.alloc (.cells #[bs s,int i64 0] 129)) w.heap.size s 0:=heap_alloc_new _ _;have HP:=Lib.hid (Zx3 w.heap.size s _ (V.below hb0) hL0 h6 (by omega));have HV:=Lib.hid (V.below hb0);have HB0:=Lib.hid hb0;have HS:=Lib.hid hs;have HH6:=Lib.hid h6;have Z:Hid ((w.alloc (.cells #[bs s,int i64 0] 129)).heap.size=w.heap.size+1):=by unfold Hid;simp
 clear V hs h6 hL0 hb0;obtain⟨ok1,e1⟩:∃ ok1,(hd1 s).2.2.1=ok1:=⟨_,rfl⟩;have e1':(Ym 0 60 (-8000) 8000 2 s).2.2.1=ok1:=e1;rw[e1'] at HP;have O:=Lib.hid e1;clear e1 e1';go_enter func31,ntmps31;go_upto_region 2 with fail;generalize w.alloc (.cells #[bs s,int i64 0] 129)=W at *
 generalize hR:w.heap.size=R at *
 have Y:=Lib.hid hR;clear hR;go_upto_region 3 with (first|(go_at_call 79;refine HP.out.mono ?_;rintro e w1 ⟨v,rfl,hp1⟩));have HP1:=Lib.hid hp1;obtain⟨s1,hl1,hs1,hr1⟩:=hp1.lat;obtain⟨q0,D,qf⟩:=hl1.cells;have HL1:=Lib.hid hl1;have HS1:=Lib.hid (And.intro hs1 hr1);clear HP hp1 hl1 hs1 hr1 qf;cases ok1 with
 | false=>
  have I:Hid (Xb s= .inr (hd1 s).2.2.2):=Zl1 O.out;have hpos:Hid (0<(hd1 s).2.2.2):=by
   unfold Hid hd1 Ym;cases Z3 0 60 1 s with
   | none=>simp
   | some q=>simp only;split <;> omega
  have q1':w1.cell? ⟨R,1,none⟩=some (int i64 ((hd1 s).2.2.2:Nat)):=by rw[D];simp
  generalize (hd1 s).2.2.2=k at *
  clear q0 D;go_upto_region 4 with fail;go_quiet (fail);go_wp2
  go_ret3;refine⟨_,_,_,rfl,?_,?_⟩
  ·unfold Zfb;rw[I.out];exact⟨rfl,hpos.out,rfl,rfl⟩
  ·exact Zt (by rw[Y.out];exact HB0.out.trans (HP1.out.chg.below (by have:=Z.out;omega) fun k hk hF=>by omega))
 | true=>
  obtain⟨_,hln,hp60⟩:=Zl2 O.out;have hown:=HP1.out.good O.out;obtain⟨va,vc,rfl⟩:=Zn hown;have hR6:=HH6.out;have es1:s1=(hd1 s).2.1:=HS1.out.2 O.out;have hV1:Vars w1:=HV.out.below6 (HP1.out.chg.below (by have:=Z.out;omega) fun k hk hF=>by omega);have hL1':LAt w1 R s1 (((hd1 s).2.2.2:Nat):Int):=by have:=HL1.out;simpa using this
  have HT:=Lib.hid (Zx6 R s1 (((hd1 s).2.2.2:Nat):Int) (hd1 s).1.length hp60 (by omega) (by omega) w1 hV1 hL1' hR6 (by have:=HS1.out.1;have:=HS.out;omega));obtain⟨ok2,e2⟩:∃ ok2,(hd2 s).2.2.1=ok2:=⟨_,rfl⟩;have e2':(Ym 0 (Y7 (hd1 s).1.length) 0 (((hd1 s).1.length:Int)-1) 3 s1).2.2.1=ok2:=by rw[es1];exact e2
  rw[e2'] at HT;have HE2:=Lib.hid e2;have HES:=Lib.hid es1;have HOWN:=Lib.hid hown;have HLN:=Lib.hid (And.intro hln hp60);have HD2:Hid (Ym 0 (Y7 (hd1 s).1.length) 0 (((hd1 s).1.length:Int)-1) 3 s1=hd2 s):=by unfold Hid;rw[es1]
  have HPL:=Lib.hid hL1';clear e2 e2' es1 hown hln hp60 hV1 hL1' q0 D HL1;rw[HD2.out] at HT;clear HD2;go_upto_region 6 with (first|(go_at_call 80;refine HT.out.mono ?_;rintro e w2 ⟨u,rfl,hp2⟩));obtain⟨s2,hl2,hs2,hr2⟩:=hp2.lat;have HP2:=Lib.hid hp2;have hb1:Below R w w1:=HB0.out.trans (HP1.out.chg.below (by have:=Z.out;omega) fun k hk hF=>by omega);have hb2:Below R w w2:=hb1.trans (hp2.chg.below (by have:=hb1.size;have:=Y.out;omega) fun k hk hF=>by omega);have HBB:=Lib.hid hb2;obtain⟨q0,D,qf⟩:=hl2.cells;have HS2:=Lib.hid hr2;clear HT hp2 hl2 hs2 hr2 qf hb1 hb2;cases ok2 with
  | false=>
   have I:Hid (Xb s= .inr ((hd1 s).2.2.2+(hd2 s).2.2.2)):=Zl3 O.out HE2.out;have hpos:Hid (0<(hd1 s).2.2.2+(hd2 s).2.2.2):=by unfold Hid;have:=HLN.out.1;omega
   have q1':w2.cell? ⟨R,1,none⟩=some (int i64 (((hd1 s).2.2.2+(hd2 s).2.2.2:Nat):Int)):=by rw[D];simp
   obtain⟨k,J⟩:∃ k,(hd1 s).2.2.2+(hd2 s).2.2.2=k:=⟨_,rfl⟩;rw[J] at q1' I hpos;clear q0 D J;go_upto_region 7 with fail;go_quiet (fail);go_wp2
   go_ret3;refine⟨_,_,_,rfl,?_,?_⟩
   ·unfold Zfb;rw[I.out];exact⟨rfl,hpos.out,rfl,rfl⟩
   ·exact Zt (by rw[Y.out];exact HBB.out)
  | true=>
   obtain⟨hg,hl2⟩:=Zqp O.out HE2.out;have es2:=HS2.out HE2.out;have hownT:=HP2.out.good HE2.out;have hownP:=Chg.own (R:=R) HOWN.out HP2.out.chg (by have:=Z.out;omega);have q1':w2.cell? ⟨R,1,none⟩=some (int i64 (((hd1 s).1.length+(hd2 s).1.length+2:Nat):Int)):=by
    rw[D,hl2,HLN.out.1];congr 2;omega
   have HG:Hid (Zde s= .good (hd1 s).1 (hd2 s).1 s2):=by unfold Hid;rw[hg,es2]
   have HOP:Hid (w2.ownsRow R 37 2 (.slice va (hd1 s).1.length vc) (hd1 s).1.length (Zg (Xy (hd1 s).1))/\w2.ownsRow R 53 3 u (hd2 s).1.length (Zac (hd2 s).1)):=
    ⟨Zjh hownP (by have:=Z.out;omega),Zjh hownT (by have:=HP1.out.chg.size;have:=Z.out;omega)⟩
   have hlen:Hid ((hd1 s).1.length+(hd2 s).1.length+2<=4000000000):=by
    obtain⟨_,e⟩:=Zog.1 HG.out;have h1:=Zho (hd1 s).1;have h2:=Zho (hd2 s).1;have h3:=congrArg List.length e;have h4:=HS.out;unfold Hid;simp only[Zav,List.length_append,List.length_cons] at h3;omega
   clear hg hl2 es2 hownT hownP D;obtain⟨k,J⟩:∃ k,(hd1 s).1.length+(hd2 s).1.length+2=k:=⟨_,rfl⟩;rw[J] at q1';have HEK:=Lib.hid J;have yk:IntKind.i64.wrap ((k:Int)+1)=(k:Int)+1:=Zd (by omega) (by have:=hlen.out;omega);clear J;cases s2 with
   | nil=>
    have I:Hid (Xb s= .inl ((hd1 s).1,(hd2 s).1)):=by unfold Hid Xb;rw[HG.out]
    go_wp2
    go_ret3;refine⟨_,_,_,rfl,?_,?_⟩
    ·unfold Zfb;rw[I.out,Y.out];exact⟨rfl,HOP.out.1,HOP.out.2⟩
    ·rw[Y.out];exact HBB.out
   | cons c0 r0=>
    have I:Hid (Xb s= .inr (k+1)):=by unfold Hid Xb;rw[HG.out,<-HEK.out]
    go_upto_region 9 with fail;go_quiet (fail);go_wp2
    go_ret3;refine⟨.slice none 0 0,.slice none 0 0,((k+1:Nat):Int),?_,?_,?_⟩
    ·rfl
    ·unfold Zfb;rw[I.out];exact⟨rfl,by omega,rfl,rfl⟩
    ·exact Zt (by rw[Y.out];exact HBB.out)
end Go.Proofs.YtgpapegpdfonpaaGreatDoor
namespace Go.Proofs.YtgpapegpdfonpaaGreatDoor
open Go.RowKit Go.Proofs.Tryz
open Go.Value(int)
open Go.IntKind(i64)
def Zcm (w w':World)(s:List UInt8)(v u:Value)(x n:Int):Prop:=match Xb s with
 | .inl q=>x=0/\n=0/\w'.ownsRow w.heap.size 37 2 v q.1.length (Zg (Xy q.1))/\w'.ownsRow w.heap.size 53 3 u q.2.length (Zac q.2)
 | .inr k=>x=5/\n=k/\v= .slice none 0 0/\u= .slice none 0 0
theorem Zx8 (s:List UInt8)(w:World)(V:Vars w)(Y:s.length<=1000000000) :
  Calls prog 14 #[bs s] w fun e w'=>∃ v u x n,e= .returned (.tuple #[v,u,int i64 x,int i64 n])/\Zcm w w' s v u x n/\Below w.heap.size w w':=by
 have Z:=Lib.hid (Zx7 s w V Y);clear V Y;cases J:Xb s with
 | inl q=>
  have I:=Lib.hid J;clear J;go_enter func14,ntmps14;go_upto_region 2 with (first|(go_at_call 31;refine Z.out.mono ?_;rintro e w1 ⟨v,u,n,rfl,D,O⟩));unfold Zfb at D;rw[I.out] at D;obtain⟨rfl,h1,h2⟩:=D;go_wp2
  refine bodyPost_ret (v:=.tuple #[v,u,int i64 0,int i64 0]) (by simp[results,results14,go_sem]) rfl ⟨v,u,0,0,rfl,?_,O⟩;unfold Zcm;rw[I.out];exact⟨rfl,rfl,h1,h2⟩
 | inr k=>
  have I:=Lib.hid J;clear J;go_enter func14,ntmps14;go_upto_region 2 with (first|(go_at_call 31;refine Z.out.mono ?_;rintro e w1 ⟨v,u,n,rfl,D,O⟩));unfold Zfb at D;rw[I.out] at D;obtain⟨rfl,hk,rfl,rfl⟩:=D;have hn:((k:Int) != 0)=true:=by simp;omega
  go_wp2
  refine bodyPost_ret (v:=.tuple #[.slice none 0 0,.slice none 0 0,int i64 5,int i64 (k:Int)]) (by simp[results,results14,go_sem]) rfl ⟨.slice none 0 0,.slice none 0 0,5,k,rfl,?_,O⟩;unfold Zcm;rw[I.out];exact⟨rfl,rfl,rfl,rfl⟩
def Zay (n:Nat)(t:Int×Int×Int):Bool:=decide (0<=t.1/\0<=t.2.1/\0<=t.2.2) && decide (t.1<n/\t.2.1<n/\t.2.2<n)
theorem Zx9 (a b c:Int)(n:Nat)(w:World) :
  Calls prog 77 #[.agg #[int i64 a,int i64 b,int i64 c],int i64 (n:Int)] w fun e w'=>e= .returned (.bool (Zay n (a,b,c)))/\Below w.heap.size w w':=by
 go_enter func77,ntmps77;go_wp2
 all_goals go_ret
 all_goals
  refine⟨congrArg (fun b=>Ending.returned (.bool b)) ?_,Zb _ _⟩;unfold Zay;rw[Bool.eq_iff_iff];simp;omega
theorem Zya (a b c:Int)(B:Nat)(pa:Option Addr)(n pc:Nat)(w:World)(I:w.cell? ⟨B,0,none⟩=some (.slice pa n pc)) :
  Calls prog 76 #[.agg #[int i64 a,int i64 b,int i64 c],.pointer (some ⟨B,0,none⟩)] w fun e w'=>e= .returned (.bool (!Zay n (a,b,c)))/\Below w.heap.size w w':=by
 have Y:=World.block_lt_of_cell? w _ I;have D:=Zb w (.cells #[int i64 a,int i64 b,int i64 c] 53);have Z:=(D.cell (p:=⟨B,0,none⟩) Y).trans I;have J:=Lib.hid (fun W=>Zx9 a b c n W);go_enter func76,ntmps76;go_wp2_with (go_at_call 77;refine (J.out _).mono ?_;rintro e w' ⟨rfl,O⟩)
 go_ret;exact⟨rfl,D.trans (O.mono D.size)⟩
def Zhp (w:World)(b e:Nat)(l:List (Int×Int×Int)):Prop:=∀ j,j<l.length->w.cell? ⟨b,e+j*3,none⟩=some (int i64 (l.getD j (0,0,0)).1)/\w.cell? ⟨b,e+j*3+1,none⟩=some (int i64 (l.getD j (0,0,0)).2.1)/\w.cell? ⟨b,e+j*3+2,none⟩=some (int i64 (l.getD j (0,0,0)).2.2)
def Za6 (n:Nat)(l:List (Int×Int×Int)):Bool:=l.any fun t=> !Zay n t
theorem Zyb (n:Nat)(l:List (Int×Int×Int))(k:Nat)(h:k<l.length):Za6 n (l.take (k+1))=(Za6 n (l.take k) || !Zay n (l.getD k (0,0,0))):=by
 have e:l.getD k (0,0,0)=l[k]:=by simp[h]
 unfold Za6;rw[List.take_succ_eq_append_getElem h,List.any_append,e];simp only[List.any_cons,List.any_nil,Bool.or_false]
theorem Zyc (n:Nat)(l:List (Int×Int×Int))(k:Nat)(h:k<l.length)(D:Zay n (l.getD k (0,0,0))=false):Za6 n l=true:=by
 have e:l.getD k (0,0,0)=l[k]:=by simp[h]
 unfold Za6;rw[List.any_eq_true];exact⟨l[k],List.getElem_mem h,by rw[<-e,D];rfl⟩
theorem Zyd (b I cap:Nat)(l:List (Int×Int×Int))(B:Nat)(pa:Option Addr)(n pc:Nat)(w:World)(hl:l.length<=1000000000)(Y:b<w.heap.size)(hp:Zhp w b I l)(hB:w.cell? ⟨B,0,none⟩=some (.slice pa n pc)) :
  Calls prog 114 #[.slice (some ⟨b,I,none⟩) l.length cap,.func (.func 76) #[] #[.pointer (some ⟨B,0,none⟩)]] w fun e w'=>
   (∃ r:Int,e= .returned (int i64 r)/\decide (0<=r)=Za6 n l)/\Below w.heap.size w w':=by
 have hBl:=World.block_lt_of_cell? w _ hB;have HF:=Lib.hid (fun a b c W (h:Below w.heap.size w W)=>Zya a b c B pa n pc W ((h.cell (p:=⟨B,0,none⟩) hBl).trans hB));clear hB;go_enter func114,ntmps114;go_wp2
 go_loopw [8] (fun i wr=>∃ k:Nat,k<=l.length/\i=int i64 k/\Za6 n (l.take k)=false/\Below w.heap.size w wr)
  (fun i _=>l.length-(intOf i).toNat)
 case atStart=>exact⟨0,Nat.zero_le _,rfl,rfl,Below.refl _ _⟩
 case round=>
  obtain⟨k,hk,rfl,O,D⟩:=hrel;by_cases hlt:k<l.length
  ·obtain⟨c0,c1,c2⟩:=hp k hlt;have hc0:=(D.cell (p:=⟨b,I+k*3,none⟩) Y).trans c0;have hc1:=(D.cell (p:=⟨b,I+k*3+1,none⟩) Y).trans c1;have hc2:=(D.cell (p:=⟨b,I+k*3+2,none⟩) Y).trans c2;have HC:=Lib.hid (HF.out (l.getD k (0,0,0)).1 (l.getD k (0,0,0)).2.1 (l.getD k (0,0,0)).2.2 wr D);have HT:Hid (((l.getD k (0,0,0)).1,(l.getD k (0,0,0)).2.1,(l.getD k (0,0,0)).2.2)=l.getD k (0,0,0)):=rfl;have HNO:=Lib.hid O;have y4:IntKind.i64.wrap ((k:Int)+1)=(k:Int)+1:=Zd (by omega) (by omega);clear c0 c1 c2 O;generalize (l.getD k (0,0,0)).1=x at *
   generalize (l.getD k (0,0,0)).2.1=y at *
   generalize (l.getD k (0,0,0)).2.2=z at *
   obtain⟨J,epb⟩:∃ J,Zay n (x,y,z)=J:=⟨_,rfl⟩;rw[epb] at HC;have HPB:Hid (Zay n (l.getD k (0,0,0))=J):=by unfold Hid;rw[<-HT.out];exact epb
   clear epb;cases J with
   | false=>
    go_wp2_with (go_at_call 76;refine HC.out.mono ?_;rintro e w' ⟨rfl,Z⟩)
    go_ret;exact⟨⟨k,rfl,by rw[Zyc n l k hlt HPB.out];simp⟩,D.trans (Z.mono D.size)⟩
   | true=>
    go_wp2_with (go_at_call 76;refine HC.out.mono ?_;rintro e w' ⟨rfl,Z⟩)
    go_roundw;case rel=>exact⟨k+1,by omega,by go_num,by rw[Zyb n l k hlt,HNO.out,HPB.out];rfl,D.trans (Z.mono D.size)⟩
    case measure=>simp[intOf];omega
  ·go_wp2
   go_ret;rw[List.take_of_length_le (by omega)] at O;exact⟨⟨-1,rfl,by rw[O];rfl⟩,D⟩
theorem Zye (a:Option Addr)(cap:Nat)(f:Value)(w:World):Calls prog 114 #[.slice a 0 cap,f] w fun e w'=>e= .returned (int i64 (-1))/\w'=w:=by
 go_enter func114,ntmps114;go_wp2
 go_loopw [8] (fun i wr=>i=int i64 0/\wr=w) (fun _ _=>0)
 case atStart=>exact⟨rfl,rfl⟩
 case round=>
  obtain⟨rfl,rfl⟩:=hrel;go_wp2
  go_ret;exact⟨rfl,rfl⟩
def Zak (w:World)(a:Option Addr)(l:List (Int×Int×Int)):Prop:=l=[]\/∃ b e,a=some ⟨b,e,none⟩/\b<w.heap.size/\Zhp w b e l
theorem Zak.below {w w':World}{a:Option Addr}{l:List (Int×Int×Int)}(h:Zak w a l)(I:Below w.heap.size w w'):Zak w' a l:=by
 rcases h with h|⟨b,Y,e,D,O⟩
 ·exact .inl h
 ·exact .inr ⟨b,Y,e,L3 D I.size,fun j J=>⟨(I.cell (p:=⟨b,_,none⟩) D).trans (O j J).1,(I.cell (p:=⟨b,_,none⟩) D).trans (O j J).2.1,(I.cell (p:=⟨b,_,none⟩) D).trans (O j J).2.2⟩⟩
theorem Zyf (ta:Option Addr)(tc:Nat)(l:List (Int×Int×Int))(B:Nat)(pa:Option Addr)(n pc:Nat)(w:World)(I:l.length<=1000000000)(D:Zak w ta l)(J:w.cell? ⟨B,0,none⟩=some (.slice pa n pc)) :
  Calls prog 75 #[.slice ta l.length tc,.func (.func 76) #[] #[.pointer (some ⟨B,0,none⟩)]] w fun e w'=>e= .returned (.bool (Za6 n l))/\Below w.heap.size w w':=by
 have HI:Hid (Calls prog 114 #[.slice ta l.length tc,.func (.func 76) #[] #[.pointer (some ⟨B,0,none⟩)]] w fun e w'=>(∃ r:Int,e= .returned (int i64 r)/\decide (0<=r)=Za6 n l)/\Below w.heap.size w w'):=by
  rcases D with rfl|⟨b,O,rfl,Y,D⟩
  ·exact (Zye ta tc _ w).mono fun e w' ⟨he,hw⟩=>⟨⟨-1,he,rfl⟩,by rw[hw];exact Below.refl _ _⟩
  ·exact Zyd b O tc l B pa n pc w I Y D J
 clear D J I;go_enter func75,ntmps75;go_wp2_with (go_at_call 114;refine HI.out.mono ?_;rintro e w' ⟨⟨r,rfl,hr⟩,Z⟩)
 go_ret;exact⟨by rw[<-hr];rfl,Z⟩
end Go.Proofs.YtgpapegpdfonpaaGreatDoor
namespace Go.Proofs.YtgpapegpdfonpaaGreatDoor
open Go.RowKit Go.Proofs.Tryz
theorem Zji {w w':World}{a:Option Addr}{l:List Pt}(h:Z0 w a l)(I:Below w.heap.size w w'):Z0 w' a l:=by
 rcases h with h|⟨b,J,e,D,O⟩
 ·exact .inl h
 ·exact .inr ⟨b,J,e,L3 D I.size,O.below I D⟩
def Zb6 (l:List Pt):Int:=if 60<l.length then 2 else if Ya l=true then 1 else 0
theorem Zyg (pa:Option Addr)(pc:Nat)(l:List Pt)(w:World)(J:Z0 w pa l) :
  Calls prog 65 #[.slice pa l.length pc] w fun e w'=>e= .returned (.int .i64 (Zb6 l))/\Below w.heap.size w w':=by
 unfold Zb6;by_cases h:60<l.length
 ·rw[if_pos h];exact (Zpr pa l.length pc w h).mono fun e w' ⟨D,hw⟩=>⟨D,by rw[hw];exact Below.refl _ _⟩
 ·rw[if_neg h];rcases J with rfl|⟨b,I,rfl,O,Y⟩
  ·exact (Zpu pa pc w).mono fun e w' ⟨D,hw⟩=>⟨D,by rw[hw];exact Below.refl _ _⟩
  ·exact Zps b I pc l w (by omega) O Y
def Zad (l:List Pt)(ts:List (Int×Int×Int)):Int:=if Zb6 l≠0 then Zb6 l else if Za6 l.length ts=true then 4 else 0
theorem Zyh (pa:Option Addr)(pc:Nat)(l:List Pt)(ta:Option Addr)(tc:Nat)(ts:List (Int×Int×Int))(w:World)(hr:Z0 w pa l)(ht:Zak w ta ts)(hl:ts.length<=1000000000) :
  Calls prog 29 #[.slice pa l.length pc,.slice ta ts.length tc] w fun e w'=>e= .returned (.int .i64 (Zad l ts))/\Below w.heap.size w w':=by
 have hb0:=Zb w (.cells #[.slice pa l.length pc] 41);have Y:=Lib.hid (Zyg pa pc l _ (Zji hr hb0));have x0:(w.alloc (.cells #[.slice pa l.length pc] 41)).cell? ⟨w.heap.size,0,none⟩=some (.slice pa l.length pc):=by rw[World.cell?_alloc_at _ _ _ _ (by simp)];rfl
 have hlt:w.heap.size<(w.alloc (.cells #[.slice pa l.length pc] 41)).heap.size:=by simp
 have HC:Hid (∀ W,Below (w.alloc (.cells #[.slice pa l.length pc] 41)).heap.size (w.alloc (.cells #[.slice pa l.length pc] 41)) W->Calls prog 75 #[.slice ta ts.length tc,.func (.func 76) #[] #[.pointer (some ⟨w.heap.size,0,none⟩)]] W fun e w'=>e= .returned (.bool (Za6 l.length ts))/\Below W.heap.size W w'):=fun W hb=>
  Zyf ta tc ts w.heap.size pa l.length pc W hl ((ht.below hb0).below hb) ((hb.cell (p:=⟨w.heap.size,0,none⟩) hlt).trans x0)
 have O:=Lib.hid hb0;clear hr ht hl hb0;by_cases J:Zb6 l≠0
 ·have I:Hid (Zad l ts=Zb6 l):=by unfold Hid Zad;rw[if_pos J]
  have hne:(Zb6 l != 0)=true:=by simpa using J
  obtain⟨k,ek⟩:∃ k,Zb6 l=k:=⟨_,rfl⟩;rw[ek] at Y I hne;clear J ek HC;go_enter func29,ntmps29;go_wp2_with (go_at_call 65;refine Y.out.mono ?_;rintro e w1 ⟨rfl,D⟩)
  go_ret;exact⟨by rw[I.out];rfl,O.out.trans (D.mono O.out.size)⟩
 ·have h0:Zb6 l=0:=by simpa using J
  rw[h0] at Y;have I:Hid (Zad l ts=if Za6 l.length ts=true then 4 else 0):=by unfold Hid Zad;rw[if_neg J]
  clear J h0;obtain⟨nb,enb⟩:∃ nb,Za6 l.length ts=nb:=⟨_,rfl⟩;rw[enb] at HC I;clear enb;cases nb with
  | false=>
   go_enter func29,ntmps29
   go_wp2_with (first
     | (go_at_call 65; refine Y.out.mono ?_; rintro e w1 ⟨rfl, D⟩)
     | (go_at_call 75; refine (HC.out _ D).mono ?_; rintro e w2 ⟨rfl, hb2⟩))
   go_ret;have Z:=O.out.trans (D.mono O.out.size);exact⟨by rw[I.out];rfl,Z.trans (hb2.mono Z.size)⟩
  | true=>
   go_enter func29,ntmps29
   go_wp2_with (first
     | (go_at_call 65; refine Y.out.mono ?_; rintro e w1 ⟨rfl, D⟩)
     | (go_at_call 75; refine (HC.out _ D).mono ?_; rintro e w2 ⟨rfl, hb2⟩))
   go_ret;have Z:=O.out.trans (D.mono O.out.size);exact⟨by rw[I.out];rfl,Z.trans (hb2.mono Z.size)⟩
end Go.Proofs.YtgpapegpdfonpaaGreatDoor
namespace Go.Proofs.YtgpapegpdfonpaaGreatDoor
open Go.RowKit Go.Proofs.Tryz
open Go.Value(int)
open Go.IntKind(i64)
attribute [local go_sem ↓] Go.wp_at_zero Go.wp_at_succ
abbrev Tab (B:Nat) (w:World):Prop:=Lib.TabBelow prog B w "internal/strconv.uint64pow10" .u64 Lib.pow10Tab
abbrev Zgd (w:World)(B:Nat)(v:Value)(l:List UInt8):Prop:=w.ownsRow B 5 1 v l.length (Lib.byteCells l)
theorem Zqq (B:Nat)(J:Value)(D:List UInt8)(i:Int)(hi:J64 i)(w:World)(Y:Zgd w B J D)(O:B<=w.heap.size)(Z:D.length+21<=140737488355328)(T:Tab B w) :
  Calls prog 115 #[J,int i64 i,int i64 10] w fun e w'=>∃ I,e= .returned I/\Zgd w' B I (D ++ Lib.itoa i)/\Below B w w'/\Lib.OthersKept 5 none w w':=
 (Any.strconv_AppendInt_10 layAppendI B D.length i hi.1 hi.2 J (Lib.byteCells D) w Y O Z T).mono fun e w' ⟨I, he, h1, h2, h3⟩ => ⟨I, he, by
   unfold Zgd
   rw [Lib.byteCells_append, List.length_append]
   exact h1, h2, h3⟩
theorem Zyi:(prog.info? 5).map (fun i=>(i.zero,i.size,i.bytes))=some (some (.int .u8 0),1,1):=by kernel_rfl
theorem Zqr:∀ (l:List Int) (n:Int),l≠ []->Zq (l ++ [n])=Zq l ++ 32 :: Lib.itoa n
 | [],n,h=>absurd rfl h
 | [a],n,_=>rfl
 | a :: b :: r,n,_=>by
  have:=Zqr (b :: r) n (by simp);simp only[List.cons_append,Zq] at *
  rw[this];simp
theorem Zfc {n:Int}(h:J64 n):(Lib.itoa n).length<=21:=Lib.itoa_length_le n h.1 h.2
def Zfd (w:World)(e:Option Addr)(more:List Int):Prop:=more=[]\/∃ M,e=some ⟨M,0,none⟩/\w.heap[M]? =some (.cells (more.map (int i64)).toArray 3 (0,0))
theorem Zfd.kept {w w':World}{D:Option Addr}{more:List Int}(h:Zfd w D more)(J:Lib.OthersKept 5 none w w'):Zfd w' D more:=by
 rcases h with h|⟨M,e,O⟩
 ·exact .inl h
 ·exact .inr ⟨M,e,J M _ O (by simp) (fun c Y I=>by cases I)⟩
structure LineP (w w':World)(B:Nat)(v:Value)(acc:List UInt8):Prop where
 own:Zgd w' B v acc
 bel:Below B w w'
 kept:Lib.OthersKept 5 none w w'
theorem Zl4 (w:World)(v:Value)(t:TypeId):∀ j x,[v][j]? =some x->(w.alloc (.cells #[v] t)).cell? ((⟨w.heap.size,0,none⟩:Addr).add j)=some x:=by
 intro j x h;match j,h with
 | 0,h=>simp at h;subst h;simp[Addr.add,go_sem]
theorem LineP.byte {w I w3:World} {B g cap:Nat} {v:Value} {J:List UInt8} {c:UInt8} (h:LineP w I B v J) (hB:B<=w.heap.size)
  (hown:w3.ownsRow B 5 1 (.slice (some ⟨g,0,none⟩) (J.length+1) cap) (J.length+1) (Lib.byteCells J ++ [.int .u8 (c.toNat:Int)]))
  (hat:(v.ownBlock=some g/\(I.alloc (.cells #[.int .u8 (c.toNat:Int)] 5)).grownBy w3 (some g))\/(g=I.heap.size+1/\(I.alloc (.cells #[.int .u8 (c.toNat:Int)] 5)).grownBy w3 none)) :
  LineP w w3 B (.slice (some ⟨g,0,none⟩) (J.length+1) cap) (J ++ [c]):=by
 have hs:=h.bel.size;have Z:=h.bel.trans ((Zb I (.cells #[.int .u8 (c.toNat:Int)] 5)).mono (show B<=I.heap.size by omega));have Y:=h.kept.alloc (.cells #[.int .u8 (c.toNat:Int)] 5);refine⟨?_,?_,?_⟩
 ·unfold Zgd;rw[Lib.byteCells_append,List.length_append];exact hown
 ·rcases hat with ⟨O,e⟩|⟨O,e⟩
  ·exact Z.grown e (by simp;omega) fun k D=>by cases D;exact (hown.lt _ rfl).1
  ·exact Z.grown e (by simp;omega) fun k D=>by cases D
 ·rcases hat with ⟨O,e⟩|⟨O,e⟩
  ·refine Y.grown e fun k D=>?_
   cases D;obtain⟨cur,hc⟩:=Yy h.own O;exact⟨cur,_,by rw[Below.heap_alloc _ _ _ (Zh hc)];exact hc⟩
  ·exact Y.grown e fun k D=>by cases D
theorem Zjj (B:Nat)(sv:Value)(D:List UInt8)(first:Int)(ma:Option Addr)(mc:Nat)(more:List Int)(w:World)(T:Tab B w)(hB:B<=w.heap.size)(ho:Zgd w B sv D)(hlim:D.length+1000<=140737488355328)(hm:more.length<=3)(hM:Zfd w ma more)(hf:J64 first)(hms:∀ n∈more,J64 n) :
  Calls prog 78 #[sv,int i64 first,.slice ma more.length mc] w fun e w'=>∃ v',e= .returned v'/\LineP w w' B v' (D ++ (Zq (first :: more) ++ [10])):=by
 obtain⟨iB,hiB,hzB,hsB,hbB⟩:=info_parts Zyi;have HA:=Lib.hid (Zqq B sv D first hf w ho hB (by omega) T);have HT:=Lib.hid T;have HF:=Lib.hid (And.intro hf hms);have HM:=Lib.hid hM;have HL:=Lib.hid (And.intro hlim hm);have hlf:=Zfc hf;have HLF:=Lib.hid hlf;clear T ho hlim hm hM hf hms hlf;go_enter func78,ntmps78;go_wp2_with (first|(go_at_call 115;refine HA.out.mono ?_;rintro e w1 ⟨v1,rfl,ho1,hb1,hk1⟩))
 have HP1:Hid (LineP w w1 B v1 (D ++ Zq [first])):=⟨ho1,hb1,hk1⟩;clear ho1 hb1 hk1 HA;go_loopw [0,8,14] (fun s0 _ s14 wr=>∃ i:Nat,i<=more.length/\s14=int i64 i/\LineP w wr B s0 (D ++ Zq (first :: more.take i))) (fun _ _ s14 _=>more.length-(intOf s14).toNat)
 case atStart=>exact⟨0,Nat.zero_le _,rfl,HP1.out⟩
 case round=>
  obtain⟨i,hi,rfl,J⟩:=hrel;obtain⟨al,eal⟩:∃ al,(D ++ Zq (first :: more.take i))=al:=⟨_,rfl⟩;rw[eal] at J;have Z:=Lib.hid J;obtain⟨va,vc,rfl⟩:=Zn J.own;have hlen:Hid (al.length<=D.length+100):=by
   rw[<-eal];unfold Hid;have h3:=HL.out.2;have hm:∀ l:List Int,l.length<=4->(∀ n∈l,J64 n)->(Zq l).length<=l.length*22:=by
    intro l hl Y;induction l with
    | nil=>simp[Zq]
    | cons a r ih=>
     cases r with
     | nil=>have:=Zfc (Y a (by simp));simp[Zq];omega
     | cons b r=>
      have h1:=Zfc (Y a (by simp));have h2:=ih (by simp at hl ⊢;omega) (fun n hn=>Y n (List.mem_cons_of_mem _ hn));simp only[Zq,List.length_append,List.length_cons] at *
      omega
   have := hm (first :: more.take i) (by simp; omega) (fun n hn => by
     rcases List.mem_cons.1 hn with rfl | hn
     · exact HF.out.1
     · exact HF.out.2 n (List.mem_of_mem_take hn))
   simp only[List.length_append,List.length_cons,List.length_take] at *
   omega
  have HEA:=Lib.hid eal;have hsz:B<=wr.heap.size:=by have:=J.bel.size;omega
  have HTR:Hid (Tab B wr):=HT.out.on J.bel;have HMR:Hid (Zfd wr ma more):=HM.out.kept J.kept;clear J eal;by_cases O:i<more.length
  ·have y0:(0:Int)<=(i:Int):=by omega
   have y1:(i:Int)<(more.length:Int):=by omega
   have yi:IntKind.i64.wrap ((i:Int)+1)=(i:Int)+1:=Zd (by omega) (by have:=HL.out.2;omega);obtain⟨M,rfl,hMb⟩:∃ M,ma=some ⟨M,0,none⟩/\wr.heap[M]? =some (.cells (more.map (int i64)).toArray 3 (0,0)):=by
    rcases HMR.out with h|h
    ·rw[h] at O;simp at O
    ·exact h
   have cm:wr.cell? ⟨M,i,none⟩=some (int i64 (more.getD i 0)):=by
    rw[Ys hMb i];simp[O]
   have Y : J64 (more.getD i 0) := HF.out.2 _ (by
     have : more.getD i 0 = more[i] := by simp [O]
     rw [this]; exact List.getElem_mem O)
   have HJ:Hid (Zq (first :: more.take (i+1))=Zq (first :: more.take i) ++ 32 :: Lib.itoa (more.getD i 0)):=by
    unfold Hid;have:more.take (i+1)=more.take i ++ [more.getD i 0]:=by
     rw[List.take_add_one,List.getElem?_eq_getElem O];simp[O]
    rw[this,<-List.cons_append,Zqr _ _ (by simp)]
   have HI:=Lib.hid Y;clear Y hMb;generalize more.getD i 0=m at *
   have aa:Hid (∀ j u,[Value.int .u8 32][j]? =some u->(wr.alloc (.cells #[.int .u8 32] 5)).cell? ((⟨wr.heap.size,0,none⟩:Addr).add j)=some u):=Zl4 _ _ _;have hlA:=hlen.out;have hlB:=HL.out.1;go_wp2_with (at_builtin;refine Xv _ (by rfl) (.tmp 18) (.tmp 19) 126 (by rfl) B 5 iB (.int .u8 0) 1 1 underlying126 hiB hzB hsB hbB rfl (by decide) _ _ _ (by rfl) (Yt Z.out.own (Zb _ _)) ⟨wr.heap.size,0,none⟩ 1 1 [.int .u8 32] (by rfl) rfl aa.out ?c2 (by decide) ?c3 ?c4 ?c5 (wr.heap.size+1) ?c6 ?_)
   case c2=>intro u hu;simp at hu;subst hu;rfl
   case c3=>unfold maxLen;omega
   case c4=>omega
   case c5=>simp;omega
   case c6=>simp
   ·intro g2 cap2 w3 hown3 hat3 hlt3;have I:=Lib.hid (Z.out.byte (c:=32) hB hown3 hat3);have hs3:B<=w3.heap.size:=by have:=I.out.bel.size;omega
    have HA3:=Lib.hid (Zqq B _ _ m HI.out w3 I.out.own hs3 (by simp;omega) (HT.out.on I.out.bel));clear hown3 hat3 aa Z hlA hlB;go_wp2_with (first|(go_at_call 115;refine HA3.out.mono ?_;rintro e w4 ⟨v4,rfl,ho4,hb4,hk4⟩))
    have HP4:Hid (LineP w w4 B v4 (D ++ Zq (first :: more.take (i+1)))):=by
     refine⟨?_,I.out.bel.trans hb4,I.out.kept.trans hk4⟩;rw[HJ.out,<-List.append_assoc,HEA.out];simpa using ho4
    clear ho4 hb4 hk4 I HA3;go_roundw;case rel=>exact⟨i+1,by omega,by go_num,HP4.out⟩
    case measure=>simp[intOf];omega
  ·have y1:¬ (i:Int)<(more.length:Int):=by omega
   have ei:more.take i=more:=List.take_of_length_le (by omega);have HEB:Hid (D ++ Zq (first :: more)=al):=by rw[<-HEA.out,ei];rfl
   have aa:Hid (∀ j u,[Value.int .u8 10][j]? =some u->(wr.alloc (.cells #[.int .u8 10] 5)).cell? ((⟨wr.heap.size,0,none⟩:Addr).add j)=some u):=Zl4 _ _ _;have hlA:=hlen.out;have hlB:=HL.out.1;clear ei;go_wp2_with (at_builtin;refine Xv _ (by rfl) (.tmp 25) (.tmp 26) 126 (by rfl) B 5 iB (.int .u8 0) 1 1 underlying126 hiB hzB hsB hbB rfl (by decide) _ _ _ (by rfl) (Yt Z.out.own (Zb _ _)) ⟨wr.heap.size,0,none⟩ 1 1 [.int .u8 10] (by rfl) rfl aa.out (by intro u hu;simp at hu;subst hu;rfl) (by decide) (by unfold maxLen;omega) (by omega) (by simp;omega) (wr.heap.size+1) (by simp) ?_)
   ·intro g2 cap2 w3 hown3 hat3 hlt3;have I:=Lib.hid (Z.out.byte (c:=10) hB hown3 hat3);clear hown3 hat3 aa Z hlA hlB;go_wp2
    go_ret;refine⟨_,rfl,?_⟩;rw[<-List.append_assoc,HEB.out];exact I.out
def Yb (l:List Pt):List (List Int):=l.map fun p=>[p.1,p.2]
def Yf (l:List (Int×Int×Int)):List (List Int):=l.map fun t=>[t.1,t.2.1,t.2.2]
theorem Zjk (e:List (List Int))(r:List Int):Zs (e ++ [r])=Zs e ++ (Zq r ++ [10]):=by simp[Zs]
theorem Zjl (D:List (List Int))(k:Nat)(hk:1<=k)(h:∀ r∈D,r.length<=k/\∀ n∈r,J64 n):(Zs D).length<=D.length*(k*22+1):=by
 have O:∀ l:List Int,(∀ n∈l,J64 n)->(Zq l).length<=l.length*22:=by
  intro l I;induction l with
  | nil=>simp[Zq]
  | cons a r ih=>
   cases r with
   | nil=>have:=Zfc (I a (by simp));simp[Zq];omega
   | cons b r=>
    have h1:=Zfc (I a (by simp));have J:=ih (fun n hn=>I n (List.mem_cons_of_mem _ hn));simp only[Zq,List.length_append,List.length_cons] at *
    omega
 induction D with
 | nil=>simp[Zs]
 | cons r D ih=>
  have h1:=ih fun q Z=>h q (List.mem_cons_of_mem _ Z)
  obtain⟨J,h3⟩:=h r (by simp);have h4:=O r h3;have h5:r.length*22<=k*22:=Nat.mul_le_mul_right _ J;have e:Zs (r :: D)=(Zq r ++ [10]) ++ Zs D:=by simp[Zs]
  have Y:(r :: D).length*(k*22+1)=D.length*(k*22+1)+(k*22+1):=by rw[List.length_cons,Nat.add_mul,Nat.one_mul]
  rw[e,Y,List.length_append,List.length_append];simp only[List.length_cons,List.length_nil];omega
theorem Zyj (pa:Option Addr)(pc:Nat)(l:List Pt)(ta:Option Addr)(tc:Nat)(ts:List (Int×Int×Int))(w:World)(V:Vars w)(hr:Z0 w pa l)(ht:Zak w ta ts)(hl:l.length<=60)(hts:ts.length<=1000000000)(hI:∀ p∈l,J64 p.1/\J64 p.2)(hJ:∀ t∈ts,J64 t.1/\J64 t.2.1/\J64 t.2.2) :
  Calls prog 30 #[.slice pa l.length pc,.slice ta ts.length tc] w fun e w'=>e= .returned (bs (Zav (Yb l) (Yf ts)))/\Below w.heap.size w w':=by
 have T0:Tab w.heap.size w:=Lib.tabBelow_of_tabIs V.tab;have HT:=Lib.hid T0;have HL1:=Lib.hid (Zjj w.heap.size (.slice none 0 0) [] (l.length:Int) none 0 [] w T0 (Nat.le_refl _) (World.ownsRow_nil _ _ _ _) (by simp) (by simp) (.inl rfl) ⟨by omega,by omega⟩ (by simp));have HR:=Lib.hid (And.intro hr ht);have HI:=Lib.hid (And.intro hI hJ);have HB:=Lib.hid (And.intro hl hts);have HHD:Hid ((Zq [(l.length:Int)]).length<=21):=by
  have:=Zfc (n:=(l.length:Int)) ⟨by omega,by omega⟩;exact this
 clear T0 V hr ht hl hts hI hJ;go_enter func30,ntmps30;go_wp2_with (first|(go_at_call 78;refine HL1.out.mono ?_;rintro e w1 ⟨v1,rfl,hp1⟩))
 have HP1:Hid (LineP w w1 w.heap.size v1 (Zq [(l.length:Int)] ++ [10])):=hp1;clear hp1 HL1;go_loopw [5,7,15] (fun s5 _ s15 wr=>∃ i:Nat,i<=l.length/\s15=int i64 i/\LineP w wr w.heap.size s5 ((Zq [(l.length:Int)] ++ [10]) ++ Zs (Yb (l.take i)))) (fun _ _ s15 _=>l.length-(intOf s15).toNat)
 case atStart=>exact⟨0,Nat.zero_le _,rfl,by simpa [Yb,Zs] using HP1.out⟩
 case round=>
  obtain⟨i,hi,rfl,D⟩:=hrel;obtain⟨J,aa⟩:∃ J,(Zq [(l.length:Int)] ++ [10]) ++ Zs (Yb (l.take i))=J:=⟨_,rfl⟩;rw[aa] at D;have HP:=Lib.hid D;obtain⟨va,vc,rfl⟩:=Zn D.own;have HEA:=Lib.hid aa;have HLE:Hid (((Zq [(l.length:Int)] ++ [10]) ++ Zs (Yb (l.take i))).length<=10000):=by
   have h1:=HHD.out
   have h2 := Zjl (Yb (l.take i)) 2 (by omega) (fun r hr => by
     obtain ⟨p, hp, rfl⟩ := List.mem_map.1 hr
     have := HI.out.1 p (List.mem_of_mem_take hp)
     exact ⟨by simp, by simp; exact this⟩)
   have h3:(Yb (l.take i)).length<=60:=by have:=HB.out.1;simp[Yb];omega
   unfold Hid;simp only[List.length_append,List.length_cons,List.length_nil];have:(Yb (l.take i)).length*(2*22+1)<=60*45:=Nat.mul_le_mul h3 (by omega);omega
  by_cases I:i<l.length
  ·have y0:(0:Int)<=(i:Int):=by omega
   have y1:(i:Int)<(l.length:Int):=by omega
   have yi:IntKind.i64.wrap ((i:Int)+1)=(i:Int)+1:=Zd (by omega) (by have:=HB.out.1;omega);rcases Zji HR.out.1 D.bel with h|⟨b,off,rfl,hb,hpp⟩
   ·rw[h] at I;simp at I
   obtain⟨c0,c1⟩:=hpp i I;have hmem:l.getD i (0,0)∈l:=by
    have:l.getD i (0,0)=l[i]:=by simp[I]
    rw[this];exact List.getElem_mem I
   have hIx:=HI.out.1 _ hmem;have HRW:Hid (Zs (Yb (l.take (i+1)))=Zs (Yb (l.take i)) ++ (Zq [(l.getD i (0,0)).1,(l.getD i (0,0)).2] ++ [10])):=by
    unfold Hid;have:l.take (i+1)=l.take i ++ [l.getD i (0,0)]:=by rw[List.take_add_one,List.getElem?_eq_getElem I];simp[I]
    rw[this,show Yb (l.take i ++ [l.getD i (0,0)])=Yb (l.take i) ++ [[(l.getD i (0,0)).1,(l.getD i (0,0)).2]] by simp[Yb],Zjk]
   generalize (l.getD i (0,0)).1=x at *
   generalize (l.getD i (0,0)).2=y at *
   have hb1:=Zb wr (.cells #[int i64 x,int i64 y] 37);have Y:=Yq wr (.cells #[int i64 x,int i64 y] 37) (.cells #[int i64 y] 3);have hsz:w.heap.size<=wr.heap.size:=D.bel.size;have hle:J.length<=10000:=by rw[<-aa];exact HLE.out
   have hsW:w.heap.size<=((wr.alloc (.cells #[int i64 x,int i64 y] 37)).alloc (.cells #[int i64 y] 3)).heap.size:=Nat.le_trans hsz Y.size
   have hM2 : Zfd ((wr.alloc (.cells #[int i64 x, int i64 y] 37)).alloc (.cells #[int i64 y] 3)) (some ⟨wr.heap.size + 1, 0, none⟩) [y] := .inr ⟨wr.heap.size + 1, rfl, by
     have := heap_alloc_new (wr.alloc (.cells #[int i64 x, int i64 y] 37)) (.cells #[int i64 y] 3)
     simpa using this⟩
   have ab:=D.bel.trans (Y.mono hsz);have Z:=Lib.hid (Zjj w.heap.size (.slice va J.length vc) J x (some ⟨wr.heap.size+1,0,none⟩) 1 [y] _ (HT.out.on ab) hsW (Yt D.own Y) (by omega) (by simp) hM2 hIx.1 (by simp;exact hIx.2));have HB2:=Lib.hid ab;have HKP:Hid (Lib.OthersKept 5 none w ((wr.alloc (.cells #[int i64 x,int i64 y] 37)).alloc (.cells #[int i64 y] 3))):=(D.kept.alloc _).alloc _;clear hpp hmem hb1 Y ab hM2 hsW hle aa D;go_wp2_with (first|(go_at_call 78;refine Z.out.mono ?_;rintro e w5 ⟨v5,rfl,hp5⟩))
   have HP5:Hid (LineP w w5 w.heap.size v5 ((Zq [(l.length:Int)] ++ [10]) ++ Zs (Yb (l.take (i+1))))):=by
    refine⟨?_,HB2.out.trans hp5.bel,HKP.out.trans hp5.kept⟩;rw[HRW.out,<-List.append_assoc,HEA.out];exact hp5.own
   clear hp5 Z;go_roundw;case rel=>exact⟨i+1,by omega,by go_num,HP5.out⟩
   case measure=>simp[intOf];omega
  ·have y1:¬ (i:Int)<(l.length:Int):=by omega
   have ei:l.take i=l:=List.take_of_length_le (by omega);have hle:J.length<=10000:=by rw[<-aa];exact HLE.out
   have hI2:J64 (ts.length:Int):=⟨by omega,by have:=HB.out.2;omega⟩;have Z:=Lib.hid (Zjj w.heap.size (.slice va J.length vc) J (ts.length:Int) none 0 [] wr (HT.out.on D.bel) D.bel.size D.own (by omega) (by simp) (.inl rfl) hI2 (by simp));have HAL:Hid (J=(Zq [(l.length:Int)] ++ [10]) ++ Zs (Yb l)):=by rw[ei] at aa;exact aa.symm
   have HAL2:=Lib.hid hle;have hlt2:=Zfc hI2;have HLT2:=Lib.hid hlt2;clear aa ei hle hI2 HLE HEA D hlt2;go_wp2_with (first|(go_at_call 78;refine Z.out.mono ?_;rintro e w6 ⟨v6,rfl,hp6⟩))
   have HP6:Hid (LineP w w6 w.heap.size v6 (J ++ (Zq [(ts.length:Int)] ++ [10]))):=⟨hp6.own,HP.out.bel.trans hp6.bel,HP.out.kept.trans hp6.kept⟩;clear hp6 Z HP;go_loopw [5,9,33] (fun s5 _ s33 wx=>∃ j:Nat,j<=ts.length/\s33=int i64 j/\LineP w wx w.heap.size s5 ((J ++ (Zq [(ts.length:Int)] ++ [10])) ++ Zs (Yf (ts.take j)))) (fun _ _ s33 _=>ts.length-(intOf s33).toNat)
   case atStart=>exact⟨0,Nat.zero_le _,rfl,by simpa [Yf,Zs] using HP6.out⟩
   case round=>
    obtain⟨j,hj,rfl,D⟩:=hrel;obtain⟨O,ebl⟩:∃ O,(J ++ (Zq [(ts.length:Int)] ++ [10])) ++ Zs (Yf (ts.take j))=O:=⟨_,rfl⟩;rw[ebl] at D;have HP:=Lib.hid D;obtain⟨ua,uc,rfl⟩:=Zn D.own;have HEB:=Lib.hid ebl;have HLE:Hid (O.length<=100000000000):=by
     have h1:=HLT2.out;have h1':(Zq [(ts.length:Int)]).length<=21:=h1
     have h2 := Zjl (Yf (ts.take j)) 3 (by omega) (fun r hr => by
       obtain ⟨t, ht, rfl⟩ := List.mem_map.1 hr
       have := HI.out.2 t (List.mem_of_mem_take ht)
       exact ⟨by simp, by simp; exact this⟩)
     have h3:(Yf (ts.take j)).length<=1000000000:=by have:=HB.out.2;simp[Yf];omega
     have h4:=HAL2.out;unfold Hid;rw[<-ebl];simp only[List.length_append,List.length_cons,List.length_nil];have:(Yf (ts.take j)).length*(3*22+1)<=1000000000*67:=Nat.mul_le_mul h3 (by omega);omega
    by_cases I:j<ts.length
    ·have y0:(0:Int)<=(j:Int):=by omega
     have y2:(j:Int)<(ts.length:Int):=by omega
     have yi:IntKind.i64.wrap ((j:Int)+1)=(j:Int)+1:=Zd (by omega) (by have:=HB.out.2;omega);rcases HR.out.2.below D.bel with h|⟨b,off,rfl,hb,hpp⟩
     ·rw[h] at I;simp at I
     obtain⟨c0,c1,c2⟩:=hpp j I;have hmem:ts.getD j (0,0,0)∈ts:=by
      have:ts.getD j (0,0,0)=ts[j]:=by simp[I]
      rw[this];exact List.getElem_mem I
     have hIx:=HI.out.2 _ hmem;have HRW:Hid (Zs (Yf (ts.take (j+1)))=Zs (Yf (ts.take j)) ++ (Zq [(ts.getD j (0,0,0)).1,(ts.getD j (0,0,0)).2.1,(ts.getD j (0,0,0)).2.2] ++ [10])):=by
      unfold Hid;have:ts.take (j+1)=ts.take j ++ [ts.getD j (0,0,0)]:=by rw[List.take_add_one,List.getElem?_eq_getElem I];simp[I]
      rw[this,show Yf (ts.take j ++ [ts.getD j (0,0,0)])=Yf (ts.take j) ++ [[(ts.getD j (0,0,0)).1,(ts.getD j (0,0,0)).2.1,(ts.getD j (0,0,0)).2.2]] by simp[Yf],Zjk]
     generalize (ts.getD j (0,0,0)).1=x at *
     generalize (ts.getD j (0,0,0)).2.1=y at *
     generalize (ts.getD j (0,0,0)).2.2=z at *
     have Y:=Yq wr (.cells #[int i64 x,int i64 y,int i64 z] 53) (.cells #[int i64 y,int i64 z] 3);have hsz:w.heap.size<=wr.heap.size:=D.bel.size;have hle:O.length<=100000000000:=HLE.out;have hsW:w.heap.size<=((wr.alloc (.cells #[int i64 x,int i64 y,int i64 z] 53)).alloc (.cells #[int i64 y,int i64 z] 3)).heap.size:=Nat.le_trans hsz Y.size
     have hM2 : Zfd ((wr.alloc (.cells #[int i64 x, int i64 y, int i64 z] 53)).alloc (.cells #[int i64 y, int i64 z] 3)) (some ⟨wr.heap.size + 1, 0, none⟩) [y, z] := .inr ⟨wr.heap.size + 1, rfl, by
       have := heap_alloc_new (wr.alloc (.cells #[int i64 x, int i64 y, int i64 z] 53)) (.cells #[int i64 y, int i64 z] 3)
       simpa using this⟩
     have ab:=D.bel.trans (Y.mono hsz);have Z:=Lib.hid (Zjj w.heap.size (.slice ua O.length uc) O x (some ⟨wr.heap.size+1,0,none⟩) 2 [y,z] _ (HT.out.on ab) hsW (Yt D.own Y) (by omega) (by simp) hM2 hIx.1 (by simp;exact hIx.2));have HB2:=Lib.hid ab;have HKP:Hid (Lib.OthersKept 5 none w ((wr.alloc (.cells #[int i64 x,int i64 y,int i64 z] 53)).alloc (.cells #[int i64 y,int i64 z] 3))):=(D.kept.alloc _).alloc _;clear hpp hmem Y ab hM2 hsW hle ebl D;go_wp2_with (first|(go_at_call 78;refine Z.out.mono ?_;rintro e w7 ⟨v7,rfl,hp7⟩))
     have HP7:Hid (LineP w w7 w.heap.size v7 ((J ++ (Zq [(ts.length:Int)] ++ [10])) ++ Zs (Yf (ts.take (j+1))))):=by
      refine⟨?_,HB2.out.trans hp7.bel,HKP.out.trans hp7.kept⟩;rw[HRW.out,<-List.append_assoc,HEB.out];exact hp7.own
     clear hp7 Z;go_roundw;case rel=>exact⟨j+1,by omega,by go_num,HP7.out⟩
     case measure=>simp[intOf];omega
    ·have y2:¬ (j:Int)<(ts.length:Int):=by omega
     have ej:ts.take j=ts:=List.take_of_length_le (by omega);have HTX:Hid (O=Zav (Yb l) (Yf ts)):=by
      unfold Hid;rw[<-ebl,ej,HAL.out];unfold Zav;simp[Yb,Yf]
     have hpos:0<O.length:=by rw[HTX.out];exact List.length_pos_iff.2 (Zua _ _)
     have hcv:(convert 126 9 (.slice ua O.length uc)).run prog wr= .ok (.string ⟨O.toArray⟩) wr:=by
      rcases D.own.2 with ⟨-,h0⟩|⟨g,cap,cur,e,-,-,-,-,-,-⟩
      ·omega
      ·cases e;exact run_convert_bytes_back (P:=prog) wr 126 9 5 ⟨g,0,none⟩ uc O underlying126 underlying5 underlying9 (fun k hk=>D.own.cells (g:=g) rfl k _ (by simp[Lib.byteCells,hk]))
     have HBL:=Lib.hid D.bel;clear ej ebl hpos D;go_wp2
     go_ret;exact⟨by rw[<-HTX.out];rfl,HBL.out⟩
def Zap (l:List Pt)(ts:List (Int×Int×Int)):Value:=if Zad l ts=0 then .tuple #[bs (Zav (Yb l) (Yf ts)),int i64 0] else .tuple #[bs [],int i64 (Zad l ts)]
theorem Zyk {l:List Pt}{ts:List (Int×Int×Int)}(h:Zad l ts=0):l.length<=60/\Ya l=false/\∀ t∈ts,Zay l.length t=true:=by
 unfold Zad Zb6 at h;by_cases I:60<l.length
 ·simp[I] at h
 ·by_cases D:Ya l=true
  ·simp[I,D] at h
  ·simp only[if_neg I,if_neg D] at h;by_cases e:Za6 l.length ts=true
   ·simp[e] at h
   ·refine⟨by omega,by simpa using D,fun t J=>?_⟩;unfold Za6 at e;simp only[List.any_eq_true,not_exists,not_and] at e;have:=e t J;simpa using this
theorem Zyl {x y:Int}(h:Zc x y=false):J64 x/\J64 y:=by
 obtain⟨a,b,c,d⟩:=Xp h;exact⟨⟨by omega,by omega⟩,⟨by omega,by omega⟩⟩
theorem Zym (pa:Option Addr)(pc:Nat)(l:List Pt)(ta:Option Addr)(tc:Nat)(ts:List (Int×Int×Int))(w:World)(V:Vars w)(Z:Z0 w pa l)(I:Zak w ta ts)(hts:ts.length<=1000000000) :
  Calls prog 13 #[.slice pa l.length pc,.slice ta ts.length tc] w fun e w'=>e= .returned (Zap l ts)/\Below w.heap.size w w':=by
 have Y:=Lib.hid (Zyh pa pc l ta tc ts w Z I hts);by_cases D:Zad l ts=0
 ·obtain⟨h1,O,h3⟩:=Zyk D;have HV:Hid (Zap l ts= .tuple #[bs (Zav (Yb l) (Yf ts)),int i64 0]):=by unfold Hid Zap;rw[if_pos D]
  rw[D] at Y
  have HW := Lib.hid (fun W (hb : Below w.heap.size w W) => Zyj pa pc l ta tc ts W (V.below hb) (Zji Z hb) (I.below hb) h1 hts (fun p hp => by
    unfold Ya at O
    rw [List.any_eq_false] at O
    exact Zyl (by simpa using O p hp)) (fun t I => by
    have := h3 t I
    unfold Zay at this
    simp at this
    unfold J64
    omega))
  generalize Zav (Yb l) (Yf ts)=tx at *
  clear D h1 O h3 Z I hts V;go_enter func13,ntmps13
  go_wp2_with (first
    | (go_at_call 29; refine Y.out.mono ?_; rintro e w1 ⟨rfl, J⟩)
    | (go_at_call 30; refine (HW.out _ J).mono ?_; rintro e w2 ⟨rfl, hb2⟩))
  go_ret2;exact⟨by rw[HV.out];rfl,J.trans (hb2.mono J.size)⟩
 ·have HV:Hid (Zap l ts= .tuple #[bs [],int i64 (Zad l ts)]):=by unfold Hid Zap;rw[if_neg D]
  have hn:(Zad l ts != 0)=true:=by simpa using D
  obtain⟨k,ek⟩:∃ k,Zad l ts=k:=⟨_,rfl⟩;rw[ek] at Y HV hn;clear D ek Z I hts V;go_enter func13,ntmps13
  go_wp2_with (first
    | (go_at_call 29; refine Y.out.mono ?_; rintro e w1 ⟨rfl, J⟩))
  go_ret2;exact⟨by rw[HV.out];rfl,J⟩
end Go.Proofs.YtgpapegpdfonpaaGreatDoor
