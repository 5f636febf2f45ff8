/- Part. -/
import Derived.Test.YtgpapegpdfonpaaGreatDoorLawBk
import Derived.BigRegion
import Derived.Deep.CutBlock
import Derived.Test.YtgpapegpdfonpaaGreatDoorMathN
set_option linter.unusedVariables false
set_option linter.unusedSimpArgs false
set_option maxHeartbeats 16000000
set_option maxRecDepth 100000
namespace Go.Proofs.YtgpapegpdfonpaaGreatDoor
open Go.RowKit Go.Proofs.Tryz
open Go.Value(int)
open Go.IntKind(i64)
attribute [local go_sem ↓] Go.wp_at_zero Go.wp_at_succ
theorem Zmd (a b c D I e:Int)(w:World):(Op.equalIn 10000 53 (.agg #[int i64 a,int i64 b,int i64 c]) (.agg #[int i64 D,int i64 I,int i64 e])).run prog w= .ok (a == D && b == I && c == e) w:=by
 have u3:=underlying3;have Z:=isAgg3;have z3:=sizeOf3;rw[show (10000:Nat)=9999+1 from rfl,Op.equalIn];simp only[Sem.run_bind,run_underlying underlying53,Result.andThen_ok];simp only[Std.Legacy.Range.forIn_eq_forIn_range',Std.Legacy.Range.size,Nat.sub_zero,Nat.add_sub_cancel,Nat.div_one,List.range'_succ,List.range'_zero,List.forIn_cons,List.forIn_nil];go_simp
 by_cases O:a=D <;> by_cases J:b=I <;> by_cases Y:c=e <;> simp[O,J,Y]
def Zfe (w:World)(J I:Option Addr)(len s:Nat):Prop:=
 ∀ k,k<len->∃ e D a n c m,J=some ⟨e,0,none⟩/\I=some ⟨D,0,none⟩/\w.cell? ⟨e,k,none⟩=some (.slice a n c)/\w.cell? ⟨D,k,none⟩=some (int i64 m)/\n<=maxLen/\∀ j,j<n*s->∃ g,a=some ⟨g,0,none⟩/\w.cell? ⟨g,j,none⟩=some (int i64 m)
theorem Zfe.below {w w':World}{O Y:Option Addr}{len s:Nat}(h:Zfe w O Y len s)(D:Below w.heap.size w w'):Zfe w' O Y len s:=fun k hk=>by
 obtain⟨I,J,a,n,c,m,e1,Z,c0,c1,hn,e⟩:=h k hk;refine⟨I,J,a,n,c,m,e1,Z,(D.cell (p:=⟨I,k,none⟩) (World.block_lt_of_cell? w _ c0)).trans c0,(D.cell (p:=⟨J,k,none⟩) (World.block_lt_of_cell? w _ c1)).trans c1,hn,fun j hj=>?_⟩;obtain⟨g,ha,e⟩:=e j hj;exact⟨g,ha,(D.cell (p:=⟨g,j,none⟩) (World.block_lt_of_cell? w _ e)).trans e⟩
theorem Shelf.reads {w:World}{tag:Nat->Nat}{i s ic mc:Nat}{tL tE:TypeId}{x:Sh}{Y ma:Option Addr}(h:Shelf w tag i tL tE s x)(eI:x.vL= .slice Y x.ls.length ic)(eM:x.vM= .slice ma x.ms.length mc)(hlen:x.ls.length=x.ms.length):Zfe w Y ma x.ls.length s:=fun k J=>by
 have O:=h.ownL;have I:=h.ownM;rw[eI] at O;rw[eM] at I;obtain⟨gI,rfl,_,cI⟩:=Zlz O k J;obtain⟨gM,rfl,_,cM⟩:=Zlz I k (by omega);have hkm:k<x.ms.length:=by omega
 have hz:k<(x.ls.zip x.ms).length:=by simp;omega
 have Z:=h.ent _ (List.getElem_mem hz);rw[List.getElem_zip] at Z;obtain⟨a,n,c,hv,hmx,D⟩:=Z;simp only at hv D;refine⟨gI,gM,a,n,c,x.ms[k],rfl,rfl,?_,?_,hmx,fun j e=>?_⟩
 ·rw[cI,<-hv];simp[J]
 ·rw[cM];simp[hkm]
 ·rcases D with h0|⟨g,cur,rfl,_,_,hh,hc⟩
  ·rw[h0] at e;simp at e
  ·exact⟨g,rfl,by simp[World.cell?,hh,hc j e]⟩
structure BkR (w:World)(WB:Nat)(i0 m0 i1 m1 i2 m2:Option Addr)(c0 d0 c1 d1 c2 d2 l0 l1 l2:Nat):Prop where
 cells:w.cell? ⟨WB,1,none⟩=some (.slice i0 l0 c0)/\w.cell? ⟨WB,2,none⟩=some (.slice m0 l0 d0)/\w.cell? ⟨WB,3,none⟩=some (.slice i1 l1 c1)/\w.cell? ⟨WB,4,none⟩=some (.slice m1 l1 d1)/\w.cell? ⟨WB,5,none⟩=some (.slice i2 l2 c2)/\w.cell? ⟨WB,6,none⟩=some (.slice m2 l2 d2)
 r0:Zfe w i0 m0 l0 1
 r1:Zfe w i1 m1 l1 3
 r2:Zfe w i2 m2 l2 2
theorem BkR.below {w w':World}{WB:Nat}{i0 m0 i1 m1 i2 m2:Option Addr}{c0 J c1 d1 c2 Y Z I O:Nat}(h:BkR w WB i0 m0 i1 m1 i2 m2 c0 J c1 d1 c2 Y Z I O)(e:Below w.heap.size w w'):BkR w' WB i0 m0 i1 m1 i2 m2 c0 J c1 d1 c2 Y Z I O:=by
 obtain⟨h1,h2,h3,h4,h5,h6⟩:=h.cells;have D:=World.block_lt_of_cell? w _ h1;exact⟨⟨(e.cell (p:=⟨WB,1,none⟩) D).trans h1,(e.cell (p:=⟨WB,2,none⟩) D).trans h2,(e.cell (p:=⟨WB,3,none⟩) D).trans h3,(e.cell (p:=⟨WB,4,none⟩) D).trans h4,(e.cell (p:=⟨WB,5,none⟩) D).trans h5,(e.cell (p:=⟨WB,6,none⟩) D).trans h6⟩,h.r0.below e,h.r1.below e,h.r2.below e⟩
theorem Bk.toR {w:World}{WB nk:Nat}{v0:Value}{tag:Nat->Nat}{sh:Nat->Sh}(h:Bk w WB v0 tag sh nk)(e:∀ j,j<3->(sh j).ls.length=(sh j).ms.length) :
  ∃ i0 Z i1 J O Y c0 D c1 d1 c2 I,BkR w WB i0 Z i1 J O Y c0 D c1 d1 c2 I (sh 0).ls.length (sh 1).ls.length (sh 2).ls.length:=by
 obtain⟨i0,c0,Z,D,e0,f0,_⟩:=h.forms 0 (by decide);obtain⟨i1,c1,J,d1,e1,f1,_⟩:=h.forms 1 (by decide);obtain⟨O,c2,Y,I,e2,f2,_⟩:=h.forms 2 (by decide);obtain⟨_,a1,a2,a3,a4,a5,a6,_⟩:=h.cells;refine⟨i0,Z,i1,J,O,Y,c0,D,c1,d1,c2,I,⟨?_,(h.she 0 (by decide)).reads e0 f0 (e 0 (by decide)),(h.she 1 (by decide)).reads e1 f1 (e 1 (by decide)),(h.she 2 (by decide)).reads e2 f2 (e 2 (by decide))⟩⟩;rw[a1,a2,a3,a4,a5,a6,e0,f0,e1,f1,e2,f2,e 0 (by decide),e 1 (by decide),e 2 (by decide)];exact⟨rfl,rfl,rfl,rfl,rfl,rfl⟩
theorem Zze (WB:Nat)(i0 m0 i1 m1 i2 m2:Option Addr)(c0 d0 c1 d1 c2 d2 l0 l1 l2:Nat)(w:World)(h:BkR w WB i0 m0 i1 m1 i2 m2 c0 d0 c1 d1 c2 d2 l0 l1 l2)(b0:l0<=3703618119000)(b1:l1<=3703618119000)(b2:l2<=3703618119000) :
  Calls prog 18 #[.pointer (some ⟨WB,1,none⟩)] w fun e w'=>e= .returned (.bool true)/\Below w.heap.size w w':=by
 have HB:Hid (BkR w WB i0 m0 i1 m1 i2 m2 c0 d0 c1 d1 c2 d2 l0 l1 l2):=h;have hWB:WB<w.heap.size:=World.block_lt_of_cell? w _ h.cells.1;have heq:=Zmd;clear h;go_enter func18,ntmps18;go_upto_block 0 with fail
 go_cut [3] (fun _ wx=>Below w.heap.size w wx)
 case first=>
  as_aux_lemma=>
  go_wp2_with fail
  go_loopw [3] (fun i wr=>∃ k:Nat,k<=l0/\i=int i64 k/\Below w.heap.size w wr) (fun i _=>l0-(intOf i).toNat)
  case atStart=>exact⟨0,by omega,rfl,Below.refl _ _⟩
  case round=>
   obtain⟨k,hk,rfl,D⟩:=hrel;obtain⟨a1,a2,_⟩:=(HB.out.below D).cells;by_cases hlt:k<l0
   ·obtain⟨gI,Z,a,n,c,m,rfl,rfl,O,J,hn,hcs⟩:=HB.out.r0 k hlt;have Y:Hid (∀ wr,Below w.heap.size w wr->wr.cell? ⟨WB,1,none⟩=some (.slice (some ⟨gI,0,none⟩) l0 c0)/\wr.cell? ⟨WB,2,none⟩=some (.slice (some ⟨Z,0,none⟩) l0 d0)/\wr.cell? ⟨gI,k,none⟩=some (.slice a n c)/\wr.cell? ⟨Z,k,none⟩=some (int i64 m)):=fun wr I=>by
     obtain⟨b1,b2,_⟩:=(HB.out.below I).cells;exact⟨b1,b2,(I.cell (p:=⟨gI,k,none⟩) (World.block_lt_of_cell? w _ O)).trans O,(I.cell (p:=⟨Z,k,none⟩) (World.block_lt_of_cell? w _ J)).trans J⟩
    have HN:Hid (∀ wr,Below w.heap.size w wr->∀ j,j<n->∃ g,a=some ⟨g,0,none⟩/\wr.cell? ⟨g,j,none⟩=some (int i64 m)):=fun wr I j hj=>by
     obtain⟨g,ha,hc⟩:=hcs j (by omega);exact⟨g,ha,(I.cell (p:=⟨g,j,none⟩) (World.block_lt_of_cell? w _ hc)).trans hc⟩
    have n63:(n:Int)<=9223372036854775807:=by unfold maxLen at hn;omega
    clear O J hcs hn a1 a2;have x0:(0:Int)<=(k:Int):=by omega
    have x1:(k:Int)<(l0:Int):=by omega
    have x4:IntKind.i64.wrap ((k:Int)+1)=(k:Int)+1:=Zd (by omega) (by omega);obtain⟨q1,q2,q3,q4⟩:=Y.out wr D;go_wp2
    go_loopw [4] (fun i wr=>∃ j:Nat,j<=n/\i=int i64 j/\Below w.heap.size w wr) (fun i _=>n-(intOf i).toNat)
    case atStart=>exact⟨0,by omega,rfl,D⟩
    case round=>
     clear D q1 q2 q3 q4;obtain⟨j,hj,rfl,D⟩:=hrel;obtain⟨q1,q2,q3,q4⟩:=Y.out wr D;by_cases hjn:j<n
     ·obtain⟨g,rfl,q5⟩:=HN.out wr D j hjn;have y0:(0:Int)<=(j:Int):=by omega
      have y1:(j:Int)<(n:Int):=by omega
      have y4:IntKind.i64.wrap ((j:Int)+1)=(j:Int)+1:=Zd (by omega) (by omega);clear Y HN;go_wp2_with fail
      go_quiet (fail);go_wp2
      go_roundw;case rel=>exact⟨j+1,by omega,by go_num,Zt D⟩
      case measure=>simp[intOf];omega
     ·go_wp2
      go_roundw;case rel=>exact⟨k+1,by omega,by go_num,D⟩
      case measure=>simp[intOf];omega
   ·go_wp2
    go_meet;case rel=>exact D
 case rest=>
  as_aux_lemma=>
  go_upto_block 4 with fail
  go_cut [5] (fun _ wx=>Below w.heap.size w wx)
  case first=>
   as_aux_lemma=>
   go_wp2_with fail
   go_loopw [5] (fun i wr=>∃ k:Nat,k<=l1/\i=int i64 k/\Below w.heap.size w wr) (fun i _=>l1-(intOf i).toNat)
   case atStart=>exact⟨0,by omega,rfl,hcut⟩
   case round=>
    clear hcut;obtain⟨k,hk,rfl,D⟩:=hrel;obtain⟨a1,a2,a3,a4,a5,a6⟩:=(HB.out.below D).cells;by_cases hlt:k<l1
    ·obtain⟨gI,Z,a,n,c,m,rfl,rfl,O,J,hn,hcs⟩:=HB.out.r1 k hlt;have Y:Hid (∀ wr,Below w.heap.size w wr->wr.cell? ⟨WB,3,none⟩=some (.slice (some ⟨gI,0,none⟩) l1 c1)/\wr.cell? ⟨WB,4,none⟩=some (.slice (some ⟨Z,0,none⟩) l1 d1)/\wr.cell? ⟨gI,k,none⟩=some (.slice a n c)/\wr.cell? ⟨Z,k,none⟩=some (int i64 m)):=fun wr I=>by
      obtain⟨b1,b2,b3,b4,b5,b6⟩:=(HB.out.below I).cells;exact⟨b3,b4,(I.cell (p:=⟨gI,k,none⟩) (World.block_lt_of_cell? w _ O)).trans O,(I.cell (p:=⟨Z,k,none⟩) (World.block_lt_of_cell? w _ J)).trans J⟩
     have HN:Hid (∀ wr,Below w.heap.size w wr->∀ j,j<n->∃ g,a=some ⟨g,0,none⟩/\∀ i,i<3->wr.cell? ⟨g,j*3+i,none⟩=some (int i64 m)):=fun wr I j hj=>by
      obtain⟨g,rfl,_⟩:=hcs (j*3) (by omega);refine⟨g,rfl,fun i hi=>?_⟩;obtain⟨g',ha,hc⟩:=hcs (j*3+i) (by omega);cases ha;exact (I.cell (p:=⟨g,j*3+i,none⟩) (World.block_lt_of_cell? w _ hc)).trans hc
     have n63:(n:Int)<=9223372036854775807:=by unfold maxLen at hn;omega
     clear O J hcs hn a1 a2 a3 a4 a5 a6;have x0:(0:Int)<=(k:Int):=by omega
     have x1:(k:Int)<(l1:Int):=by omega
     have x4:IntKind.i64.wrap ((k:Int)+1)=(k:Int)+1:=Zd (by omega) (by omega);obtain⟨q1,q2,q3,q4⟩:=Y.out wr D;go_wp2
     go_loopw [7] (fun i wr=>∃ j:Nat,j<=n/\i=int i64 j/\Below w.heap.size w wr) (fun i _=>n-(intOf i).toNat)
     case atStart=>exact⟨0,by omega,rfl,D⟩
     case round=>
      clear D q1 q2 q3 q4;obtain⟨j,hj,rfl,D⟩:=hrel;obtain⟨q1,q2,q3,q4⟩:=Y.out wr D;by_cases hjn:j<n
      ·obtain⟨g,rfl,q5⟩:=HN.out wr D j hjn;have q50:=q5 0 (by omega);have q51:=q5 1 (by omega);have q52:=q5 2 (by omega);simp only[Nat.add_zero] at q50;have y0:(0:Int)<=(j:Int):=by omega
       have y1:(j:Int)<(n:Int):=by omega
       have y4:IntKind.i64.wrap ((j:Int)+1)=(j:Int)+1:=Zd (by omega) (by omega);clear Y HN q5;go_wp2
       go_roundw;case rel=>exact⟨j+1,by omega,by go_num,D⟩
       case measure=>simp[intOf];omega
      ·go_wp2
       go_roundw;case rel=>exact⟨k+1,by omega,by go_num,D⟩
       case measure=>simp[intOf];omega
    ·go_wp2
     go_meet;case rel=>exact D
  case rest=>
   as_aux_lemma=>
   go_upto_block 8 with fail
   go_wp2_with fail
   go_loopw [8] (fun i wr=>∃ k:Nat,k<=l2/\i=int i64 k/\Below w.heap.size w wr) (fun i _=>l2-(intOf i).toNat)
   case atStart=>exact⟨0,by omega,rfl,hcut⟩
   case round=>
    clear hcut;obtain⟨k,hk,rfl,D⟩:=hrel;obtain⟨a1,a2,a3,a4,a5,a6⟩:=(HB.out.below D).cells;by_cases hlt:k<l2
    ·obtain⟨gI,Z,a,n,c,m,rfl,rfl,O,J,hn,hcs⟩:=HB.out.r2 k hlt;have Y:Hid (∀ wr,Below w.heap.size w wr->wr.cell? ⟨WB,5,none⟩=some (.slice (some ⟨gI,0,none⟩) l2 c2)/\wr.cell? ⟨WB,6,none⟩=some (.slice (some ⟨Z,0,none⟩) l2 d2)/\wr.cell? ⟨gI,k,none⟩=some (.slice a n c)/\wr.cell? ⟨Z,k,none⟩=some (int i64 m)):=fun wr I=>by
      obtain⟨b1,b2,b3,b4,b5,b6⟩:=(HB.out.below I).cells;exact⟨b5,b6,(I.cell (p:=⟨gI,k,none⟩) (World.block_lt_of_cell? w _ O)).trans O,(I.cell (p:=⟨Z,k,none⟩) (World.block_lt_of_cell? w _ J)).trans J⟩
     have HN:Hid (∀ wr,Below w.heap.size w wr->∀ j,j<n->∃ g,a=some ⟨g,0,none⟩/\∀ i,i<2->wr.cell? ⟨g,j*2+i,none⟩=some (int i64 m)):=fun wr I j hj=>by
      obtain⟨g,rfl,_⟩:=hcs (j*2) (by omega);refine⟨g,rfl,fun i hi=>?_⟩;obtain⟨g',ha,hc⟩:=hcs (j*2+i) (by omega);cases ha;exact (I.cell (p:=⟨g,j*2+i,none⟩) (World.block_lt_of_cell? w _ hc)).trans hc
     have n63:(n:Int)<=9223372036854775807:=by unfold maxLen at hn;omega
     clear O J hcs hn a1 a2 a3 a4 a5 a6;have x0:(0:Int)<=(k:Int):=by omega
     have x1:(k:Int)<(l2:Int):=by omega
     have x4:IntKind.i64.wrap ((k:Int)+1)=(k:Int)+1:=Zd (by omega) (by omega);obtain⟨q1,q2,q3,q4⟩:=Y.out wr D;go_wp2
     go_loopw [10] (fun i wr=>∃ j:Nat,j<=n/\i=int i64 j/\Below w.heap.size w wr) (fun i _=>n-(intOf i).toNat)
     case atStart=>exact⟨0,by omega,rfl,D⟩
     case round=>
      clear D q1 q2 q3 q4;obtain⟨j,hj,rfl,D⟩:=hrel;obtain⟨q1,q2,q3,q4⟩:=Y.out wr D;by_cases hjn:j<n
      ·obtain⟨g,rfl,q5⟩:=HN.out wr D j hjn;have q50:=q5 0 (by omega);have q51:=q5 1 (by omega);simp only[Nat.add_zero] at q50;have y0:(0:Int)<=(j:Int):=by omega
       have y1:(j:Int)<(n:Int):=by omega
       have y4:IntKind.i64.wrap ((j:Int)+1)=(j:Int)+1:=Zd (by omega) (by omega);clear Y HN q5;go_wp2
       go_roundw;case rel=>exact⟨j+1,by omega,by go_num,D⟩
       case measure=>simp[intOf];omega
      ·go_wp2
       go_roundw;case rel=>exact⟨k+1,by omega,by go_num,D⟩
       case measure=>simp[intOf];omega
    ·go_wp2
     go_ret;exact⟨rfl,D⟩
theorem Zzf (WB nk:Nat)(v0:Value)(tag:Nat->Nat)(sh:Nat->Sh)(w:World)(h:Bk w WB v0 tag sh nk)(aa:∀ j,j<3->(sh j).ls.length=(sh j).ms.length)(D:∀ j,j<3->(sh j).ls.length<=3703618119000) :
  Calls prog 18 #[.pointer (some ⟨WB,1,none⟩)] w fun e w'=>e= .returned (.bool true)/\Below w.heap.size w w':=by
 obtain⟨i0,m0,i1,O,Y,Z,c0,I,c1,d1,c2,J,hR⟩:=h.toR aa;exact Zze WB i0 m0 i1 O Y Z c0 I c1 d1 c2 J _ _ _ w hR (D 0 (by decide)) (D 1 (by decide)) (D 2 (by decide))
end Go.Proofs.YtgpapegpdfonpaaGreatDoor
namespace Go.Proofs.YtgpapegpdfonpaaGreatDoor
open Go.RowKit Go.Proofs.Tryz
open Go.Value(int)
open Go.IntKind(i64)
def Zcr (w:World)(g:Nat)(ts:List T3):Prop:=∀ j,j<ts.length->w.cell? ⟨g,j*3,none⟩=some (iv (ts.getD j (0,0,0)).1)/\w.cell? ⟨g,j*3+1,none⟩=some (iv (ts.getD j (0,0,0)).2.1)/\w.cell? ⟨g,j*3+2,none⟩=some (iv (ts.getD j (0,0,0)).2.2)
theorem Zcr.below {w w':World}{g:Nat}{ts:List T3}(h:Zcr w g ts)(I:Below w.heap.size w w')(D:g<w.heap.size):Zcr w' g ts:=fun j e=>
 ⟨(I.cell (p:=⟨g,_,none⟩) D).trans (h j e).1,(I.cell (p:=⟨g,_,none⟩) D).trans (h j e).2.1,(I.cell (p:=⟨g,_,none⟩) D).trans (h j e).2.2⟩
def Znd (w:World)(b:Nat)(t:T3):Prop:=∀ i,i<3->w.cell? ⟨b,i,none⟩=some (iv (Zl t i))
theorem Zsg {w:World}{b:Nat}{t:T3}(D:w.cell? ⟨b,0,none⟩=some (iv t.1))(I:w.cell? ⟨b,1,none⟩=some (iv t.2.1))(e:w.cell? ⟨b,2,none⟩=some (iv t.2.2)):Znd w b t:=by
 intro i hi;match i,hi with
 | 0,_=>exact D
 | 1,_=>exact I
 | 2,_=>exact e
theorem Z2n (l:List Pt)(a b c:Nat):sd (Za l a) (Za l b) (Za l c)=Zk (l.getD a (0,0)).1 (l.getD a (0,0)).2 (l.getD b (0,0)).1 (l.getD b (0,0)).2 (l.getD c (0,0)).1 (l.getD c (0,0)).2:=rfl
theorem Zne (J Y O Z D I:Int)(w:World)(a:Near J Y)(b:Near O Z)(c:Near D I) :
  Calls prog 123 #[.agg #[int i64 J,int i64 Y],.agg #[int i64 O,int i64 Z],.agg #[int i64 D,int i64 I]] w fun e w'=>
   e= .returned (.bool (decide (dt (J,Y) (O,Z) (D,I)<0)))/\Below w.heap.size w w':=by
 obtain⟨a1,a2,a3,a4⟩:=a;obtain⟨b1,b2,b3,b4⟩:=b;obtain⟨c1,c2,c3,c4⟩:=c;have m1:=@Zag (D-J) (D-O) 16000 16000 (by omega) (by omega) (by omega) (by omega);have m2:=@Zag (I-Y) (I-Z) 16000 16000 (by omega) (by omega) (by omega) (by omega);unfold dt;dsimp only
 go_enter func123,ntmps123;go_wp2
 go_ret;exact⟨rfl,Zd0 _ _ _ _⟩
theorem Zkg (b off cap:Nat)(l:List Pt)(w:World)(hl:l.length<=60)(hn:Zv l)(hb:b<w.heap.size)(hp:Zp w b off l) :
  Calls prog 92 #[.slice (some ⟨b,off,none⟩) l.length cap] w fun e w'=>
   ∃ B,e= .returned (.bool B)/\(B=true↔∀ i,2<=i->i<l.length->sd (Za l 0) (Za l 1) (Za l i)=0)/\Below w.heap.size w w':=by
 have HN:Hid (Zv l):=hn;clear hn;go_enter func92,ntmps92;go_wp2
 go_loopw [3] (fun i wr=>∃ k:Nat,2<=k/\k<=62/\i=int i64 k/\(∀ j,2<=j->j<k->j<l.length->sd (Za l 0) (Za l 1) (Za l j)=0)/\Below w.heap.size w wr) (fun i _=>62-(intOf i).toNat)
 case atStart=>exact⟨2,by omega,by omega,rfl,fun j h1 h2=>by omega,Below.refl _ _⟩
 case round=>
  obtain⟨k,hk2,hk62,rfl,hz,D⟩:=hrel;have HZ:Hid (∀ j,2<=j->j<k->j<l.length->sd (Za l 0) (Za l 1) (Za l j)=0):=hz;clear hz;by_cases hlt:k<l.length
  ·have Z:=hp.below D hb;obtain⟨d0,d1⟩:=Z 0 (by omega);obtain⟨d2,d3⟩:=Z 1 (by omega);obtain⟨d4,d5⟩:=Z k hlt;simp only[Nat.zero_mul,Nat.one_mul,Nat.add_zero] at d0 d1 d2 d3;have nA:Near (l.getD 0 (0,0)).1 (l.getD 0 (0,0)).2:=HN.out 0 (by omega);have nB:Near (l.getD 1 (0,0)).1 (l.getD 1 (0,0)).2:=HN.out 1 (by omega);have nC:Near (l.getD k (0,0)).1 (l.getD k (0,0)).2:=HN.out k hlt;have Y:=fun W=>Zbl _ _ _ _ _ _ W nA nB nC
   have hS:sd (Za l 0) (Za l 1) (Za l k)=Zk (l.getD 0 (0,0)).1 (l.getD 0 (0,0)).2 (l.getD 1 (0,0)).1 (l.getD 1 (0,0)).2 (l.getD k (0,0)).1 (l.getD k (0,0)).2:=rfl;have HS:Hid (sd (Za l 0) (Za l 1) (Za l k)=Zk (l.getD 0 (0,0)).1 (l.getD 0 (0,0)).2 (l.getD 1 (0,0)).1 (l.getD 1 (0,0)).2 (l.getD k (0,0)).1 (l.getD k (0,0)).2):=hS;clear hS nA nB nC Z hp;generalize Zk (l.getD 0 (0,0)).1 (l.getD 0 (0,0)).2 (l.getD 1 (0,0)).1 (l.getD 1 (0,0)).2 (l.getD k (0,0)).1 (l.getD k (0,0)).2=S at *
   generalize (l.getD 0 (0,0)).1=ax at *
   generalize (l.getD 0 (0,0)).2=ay at *
   generalize (l.getD 1 (0,0)).1=bx at *
   generalize (l.getD 1 (0,0)).2=by2 at *
   generalize (l.getD k (0,0)).1=cx at *
   generalize (l.getD k (0,0)).2=cy at *
   have gr:b<wr.heap.size:=L3 hb D.size;have y0:(0:Int)<(l.length:Int):=by omega
   have y00:0<l.length:=by omega
   have y1:(1:Int)<(l.length:Int):=by omega
   have y2:(0:Int)<=(k:Int):=by omega
   have y3:(k:Int)<(l.length:Int):=by omega
   have y4:IntKind.i64.wrap ((k:Int)+1)=(k:Int)+1:=Zd (by omega) (by omega);by_cases O:S=0
   ·have HS0:Hid (sd (Za l 0) (Za l 1) (Za l k)=0):=HS.out.trans O;subst O;have hsg:sg 0=0:=rfl;rw[hsg] at Y;go_wp2_with fail
    go_region_held3 (fun w'=>Below wr.heap.size wr w'/\∀ b o,b<wr.heap.size->w'.cell? ⟨b,o,none⟩=wr.cell? ⟨b,o,none⟩) (first|exact Yw _|exact Yx (by assumption) I)
     (first|(go_at_call 87;refine (Y _).mono ?_;rintro e w' ⟨rfl,I⟩))
    rename_i J;have hbr2:=D.trans (J.1.mono D.size);clear J I Y d0 d1 d2 d3 d4 d5;go_wp2
    go_roundw
    case rel=>
     refine⟨k+1,by omega,by omega,by go_num,fun j h1 h2 h3=>?_,hbr2⟩;by_cases e:j=k
     ·subst e;exact HS0.out
     ·exact HZ.out j h1 (by omega) h3
    case measure=>simp[intOf];omega
   ·have hsg:¬ sg S=0:=fun e=>O ((Zdr _).1 e)
    have HS0:Hid (¬ sd (Za l 0) (Za l 1) (Za l k)=0):=fun e=>O (HS.out.symm.trans e)
    generalize sg S=G at *
    have hG:(G != 0)=true:=by simpa using hsg
    clear O hsg;go_wp2_with fail
    go_region_held3 (fun w'=>Below wr.heap.size wr w'/\∀ b o,b<wr.heap.size->w'.cell? ⟨b,o,none⟩=wr.cell? ⟨b,o,none⟩) (first|exact Yw _|exact Yx (by assumption) I)
     (first|(go_at_call 87;refine (Y _).mono ?_;rintro e w' ⟨rfl,I⟩))
    rename_i J;have hbr2:=D.trans (J.1.mono D.size);clear J I Y d0 d1 d2 d3 d4 d5;go_wp2
    go_ret;exact⟨false,rfl,⟨fun h=>(by cases h),fun h=>absurd (h k hk2 hlt) HS0.out⟩,hbr2⟩
  ·go_wp2
   go_ret;exact⟨true,rfl,⟨fun _ j h1 h2=>HZ.out j h1 (by omega) h2,fun _=>rfl⟩,D⟩
theorem Z2o {s t:T3}(h:Y8 s t):∃ i,i<3/\Zl s i<Zl t i/\∀ j,j<i->Zl s j=Zl t j:=by
 unfold Y8 at h;rcases h with h|⟨h,e|⟨e,I⟩⟩
 ·exact⟨0,by omega,h,fun j D=>by omega⟩
 ·refine⟨1,by omega,e,fun j D=>?_⟩;have:j=0:=by omega
  subst this;exact h
 ·refine⟨2,by omega,I,fun j D=>?_⟩;have:j=0\/j=1:=by omega
  rcases this with rfl|rfl
  ·exact h
  ·exact e
theorem Z2p (s t:T3)(w:World)(h:Y8 s t) :
  Calls prog 122 #[.agg #[iv s.1,iv s.2.1,iv s.2.2],.agg #[iv t.1,iv t.2.1,iv t.2.2]] w fun e w'=>e= .returned (.bool true)/\Below w.heap.size w w':=by
 obtain⟨m,hm3,hml,aa⟩:=Z2o h;have Y:Hid (∀ j,j<m->Zl s j=Zl t j):=aa;clear h aa;go_enter func122,ntmps122;go_wp2_with fail
 generalize I:(w.alloc (.cells #[int i64 s.1,int i64 s.2.1,int i64 s.2.2] 53)).alloc (.cells #[int i64 t.1,int i64 t.2.1,int i64 t.2.2] 53)=W;have hb0:Below w.heap.size w W:=by rw[<-I];exact Yq _ _ _
 have C1:Znd W w.heap.size s:=by
  rw[<-I];apply Zsg <;> (rw[World.cell?_alloc_past _ _ _ (by simp),World.cell?_alloc_at _ _ _ _ (by simp)];rfl)
 have C2:Znd W (w.heap.size+1) t:=by
  rw[<-I];apply Zsg <;> (rw[World.cell?_alloc_at _ _ _ _ (by simp)];rfl)
 clear I;generalize w.heap.size+1=B2 at *
 have O:∀ N,Below w.heap.size w (W.drewN N):=fun N=>Zt hb0
 generalize hB1:w.heap.size=B1 at *
 go_loopw [5] (fun i wr=>∃ k:Nat,k<=m/\i=int i64 k/\∃ n,wr=W.drewN n) (fun i _=>3-(intOf i).toNat)
 case atStart=>exact⟨0,by omega,rfl,0,rfl⟩
 case round=>
  obtain⟨i,hi,rfl,n,rfl⟩:=hrel;have c0:=C1 i (by omega);have c1:=C2 i (by omega);have y0:(0:Int)<=(i:Int):=by omega
  have y1:(i:Int)<3:=by omega
  have y2:IntKind.i64.wrap ((i:Int)+1)=(i:Int)+1:=Zd (by omega) (by omega);by_cases him:i=m
  ·subst him;generalize Zl s i=Z at *
   generalize Zl t i=D at *
   have e1:(Z != D)=true:=by simp;omega
   have e2:decide (Z<D)=true:=decide_eq_true hml;clear Y;go_wp2_with fail
   go_quiet (fail);go_wp2_with fail
   go_quiet (fail);go_wp2
   go_ret;rw[hB1];exact⟨rfl,by first|exact O _|(simp only[World.drewN_drewN];exact O _)⟩
  ·have J:=Y.out i (by omega);rw[J] at c0;generalize Zl t i=D at *
   have e1:(D != D)=false:=by simp
   clear J;go_wp2_with fail
   go_quiet (fail);go_wp2
   go_roundw;case rel=>exact⟨i+1,by omega,by go_num,_,by first|rfl|simp[World.drewN_drewN]⟩
   case measure=>simp[intOf];omega
end Go.Proofs.YtgpapegpdfonpaaGreatDoor
namespace Go.Proofs.YtgpapegpdfonpaaGreatDoor
open Go.RowKit Go.Proofs.Tryz
theorem Znf {l:List Pt}{ts:List T3}(F:IsOk l ts){i:Nat}(hi:i<ts.length) :
  ∃ a b c:Nat,ts.getD i (0,0,0)=((a:Int),(b:Int),(c:Int))/\a<b/\a<c/\b<l.length/\c<l.length/\0<sd (Za l a) (Za l b) (Za l c)/\(∀ d,d<l.length->cc (Za l a) (Za l b) (Za l c) (Za l d)<=0):=by
 have e:ts.getD i (0,0,0)=ts[i]:=by simp[hi]
 rw[e];obtain⟨⟨D,Z,O,Y,h4⟩,I,J⟩:=F.tri _ (List.getElem_mem hi);generalize ts[i]=t at *
 obtain⟨x,y,z⟩:=t;dsimp only at *
 refine⟨x.toNat,y.toNat,z.toNat,?_,by omega,by omega,by omega,by omega,I,J⟩;rw[Int.toNat_of_nonneg D,Int.toNat_of_nonneg (by omega),Int.toNat_of_nonneg (by omega)]
theorem Zsh {R:T3->T3->Prop}{ts:List T3}(h:ts.Pairwise R){i j:Nat}(D:i<j)(e:j<ts.length):R (ts.getD i (0,0,0)) (ts.getD j (0,0,0)):=by
 have I:ts.getD i (0,0,0)=ts[i]:=by simp[show i<ts.length by omega]
 have J:ts.getD j (0,0,0)=ts[j]:=by simp[e]
 rw[I,J];exact List.pairwise_iff_getElem.1 h i j (by omega) e D
theorem Z2q (b off cap gt ct:Nat)(l:List Pt)(ts:List T3)(w:World)(hl:l.length<=60)(hn:Zv l)(hb:b<w.heap.size)(hp:Zp w b off l)(hg:gt<w.heap.size)(ht:Zcr w gt ts)(htl:ts.length<=4000)(F:IsOk l ts) :
  Calls prog 93 #[.slice (some ⟨b,off,none⟩) l.length cap,.slice (some ⟨gt,0,none⟩) ts.length ct] w fun e w'=>e= .returned (.bool true)/\Below w.heap.size w w':=by
 have HN:Hid (Zv l):=hn;have FO:Hid (IsOk l ts):=F;clear hn F;go_enter func93,ntmps93;go_wp2
 go_loopw [5] (fun i wr=>∃ k:Nat,k<=ts.length/\i= .int .i64 k/\Below w.heap.size w wr) (fun i _=>ts.length-(intOf i).toNat)
 case atStart=>exact⟨0,Nat.zero_le _,rfl,Below.refl _ _⟩
 case round=>
  obtain⟨k,hk,rfl,hbr⟩:=hrel;by_cases hlt:k<ts.length
  ·obtain⟨x,y,z,hxyz,hxy,hxz,hyl,hzl,hsd,_⟩:=Znf FO.out hlt;obtain⟨I,O,J⟩:=(ht.below hbr hg) k hlt;have HXYZ:Hid (ts.getD k (0,0,0)=((x:Int),(y:Int),(z:Int))):=hxyz;rw[hxyz] at I O J;dsimp only at I O J
   clear hxyz;have y0:(0:Int)<=(k:Int):=by omega
   have y1:(k:Int)<(ts.length:Int):=by omega
   go_wp2_with fail
   go_quiet (fail);go_wp2_with fail
   have ab:Below w.heap.size w (wr.drewN nq):=Zt hbr;clear I O J hbr;generalize wr.drewN nq=V at *
   have ac:=hp.below ab hb;obtain⟨d0,d1⟩:=ac x (by omega);obtain⟨d2,d3⟩:=ac y hyl;obtain⟨d4,d5⟩:=ac z hzl;have nA:Near (l.getD x (0,0)).1 (l.getD x (0,0)).2:=HN.out x (by omega);have nB:Near (l.getD y (0,0)).1 (l.getD y (0,0)).2:=HN.out y hyl;have nC:Near (l.getD z (0,0)).1 (l.getD z (0,0)).2:=HN.out z hzl;have SC:=fun W=>Zbl _ _ _ _ _ _ W nA nB nC
   rw[Z2n] at hsd;have hs1:0<sg (Zk (l.getD x (0,0)).1 (l.getD x (0,0)).2 (l.getD y (0,0)).1 (l.getD y (0,0)).2 (l.getD z (0,0)).1 (l.getD z (0,0)).2):=by unfold sg;rw[if_pos hsd];omega
   clear hsd nA nB nC ac;generalize sg (Zk (l.getD x (0,0)).1 (l.getD x (0,0)).2 (l.getD y (0,0)).1 (l.getD y (0,0)).2 (l.getD z (0,0)).1 (l.getD z (0,0)).2)=S at *
   generalize (l.getD x (0,0)).1=ax at *
   generalize (l.getD x (0,0)).2=ay at *
   generalize (l.getD y (0,0)).1=bx at *
   generalize (l.getD y (0,0)).2=by2 at *
   generalize (l.getD z (0,0)).1=cx at *
   generalize (l.getD z (0,0)).2=cy at *
   have gr:b<V.heap.size:=L3 hb ab.size;have y2:(0:Int)<=(x:Int):=by omega
   have y3:(x:Int)<(l.length:Int):=by omega
   have y4:(0:Int)<=(y:Int):=by omega
   have y5:(y:Int)<(l.length:Int):=by omega
   have y6:(0:Int)<=(z:Int):=by omega
   have y7:(z:Int)<(l.length:Int):=by omega
   have f1:decide ((x:Int)<0)=false:=decide_eq_false (by omega);have f2:decide ((y:Int)<=(x:Int))=false:=decide_eq_false (by omega);have f3:decide ((z:Int)<=(x:Int))=false:=decide_eq_false (by omega);have f4:decide ((l.length:Int)<=(y:Int))=false:=decide_eq_false (by omega);have f5:decide ((l.length:Int)<=(z:Int))=false:=decide_eq_false (by omega);have f2':¬ y<=x:=by omega
   have f3':¬ z<=x:=by omega
   have f4':¬ l.length<=y:=by omega
   have f5':¬ l.length<=z:=by omega
   have f6:decide (S<=0)=false:=decide_eq_false (by omega);go_region_held3 (fun w'=>Below V.heap.size V w'/\∀ b o,b<V.heap.size->w'.cell? ⟨b,o,none⟩=V.cell? ⟨b,o,none⟩) (first|exact Yw _|exact Yx (by assumption) Y)
    (first|(go_at_call 87;refine (SC _).mono ?_;rintro e w' ⟨rfl,Y⟩))
   rename_i aa;have D:=ab.trans (aa.1.mono ab.size);clear aa Y SC d0 d1 d2 d3 d4 d5 ab gr f1 f2 f3 f4 f5 f2' f3' f4' f5';generalize w'=Z at *
   have x3:IntKind.i64.wrap ((k:Int)+1)=(k:Int)+1:=Zd (by omega) (by omega);by_cases hk0:k=0
   ·have g0:decide ((0:Int)<(k:Int))=false:=decide_eq_false (by omega);go_wp2
    go_roundw;case rel=>exact⟨k+1,by omega,by go_num,D⟩
    case measure=>simp[intOf];omega
   ·obtain⟨j,rfl⟩:∃ j,k=j+1:=⟨k-1,by omega⟩;obtain⟨I,O,J⟩:=(ht.below D hg) j (by omega);obtain⟨s0,s1,s2⟩:=(ht.below D hg) (j+1) hlt;have RC:=fun W=>Z2p _ _ W (Zsh FO.out.srt (show j<j+1 by omega) hlt)
    have gr:gt<Z.heap.size:=L3 hg D.size;clear HXYZ;generalize ts.getD j (0,0,0)=p at *
    generalize ts.getD (j+1) (0,0,0)=q at *
    generalize p.1=p0 at *
    generalize p.2.1=p1 at *
    generalize p.2.2=p2 at *
    generalize q.1=q0 at *
    generalize q.2.1=q1 at *
    generalize q.2.2=q2 at *
    have x4:IntKind.i64.wrap (j:Int)=(j:Int):=Zd (by omega) (by omega);have x5:(0:Int)<(j:Int)+1:=by omega
    have x6:(0:Int)<=(j:Int):=by omega
    have x7:(j:Int)<(ts.length:Int):=by omega
    have x8:(0:Int)<=(j:Int)+1:=by omega
    have x9:(j:Int)+1<(ts.length:Int):=by omega
    go_wp2_with fail
    go_region_held3 (fun w'=>Below Z.heap.size Z w'/\∀ b o,b<Z.heap.size->w'.cell? ⟨b,o,none⟩=Z.cell? ⟨b,o,none⟩) (first|exact Yw _|exact Yx (by assumption) Y)
     (first|(go_at_call 122;refine (RC _).mono ?_;rintro e w' ⟨rfl,Y⟩))
    rename_i aa;have hb3:=D.trans (aa.1.mono D.size);clear aa Y RC I O J s0 s1 s2;go_wp2
    go_roundw;case rel=>exact⟨j+1+1,by omega,by go_num,hb3⟩
    case measure=>simp[intOf];omega
  ·go_wp2
   go_ret;exact⟨rfl,hbr⟩
end Go.Proofs.YtgpapegpdfonpaaGreatDoor
namespace Go.Proofs.YtgpapegpdfonpaaGreatDoor
open Go.RowKit Go.Proofs.Tryz
open Go.Value(int)
open Go.IntKind(i64)
def Zgu (l:List Pt)(i k:Nat)(v:Int):Prop:=(∃ j,j<k/\v=(j:Int)/\Zbb l i j)\/(v= -1/\∀ j,j<k->¬ Zbb l i j)
def Zcs (l:List Pt)(i k j:Nat):Prop:=0<=sd (Za l i) (Za l k) (Za l j)/\(sd (Za l i) (Za l k) (Za l j)=0->0<=dt (Za l i) (Za l k) (Za l j))
theorem Z2r {l:List Pt}{i k:Nat}(h:Zbb l i k):Zgu l i (k+1) (k:Int):=.inl ⟨k,by omega,rfl,h⟩
theorem Z2s {l:List Pt}{i k:Nat}{v:Int}(I:Zgu l i k v)(h:¬ Zbb l i k):Zgu l i (k+1) v:=by
 rcases I with ⟨j,J,e,D⟩|⟨e,D⟩
 ·exact .inl ⟨j,by omega,e,D⟩
 ·refine .inr ⟨e,fun j J=>?_⟩;by_cases O:j=k
  ·subst O;exact h
  ·exact D j (by omega)
theorem Zkh {p q:Prop}(h:(p/\True)↔q):p↔q:=⟨fun D=>h.1 ⟨D,trivial⟩,fun e=>(h.2 e).1⟩
theorem Zsi {p q:Prop}(h:(p/\False)↔q):(false=true↔q):=⟨fun e=>(by cases e),fun D=>(h.2 D).2.elim⟩
structure RimDone (w:World)(B:Nat)(l:List Pt)(i:Nat):Prop where
 at_:∃ cur:Array Value,w.heap[B]? =some (.cells cur 3)/\cur.size=l.length/\∀ j,j<i->∃ v,cur[j]? =some (iv v)/\Zgu l j l.length v
structure RimCur (w:World)(B:Nat)(l:List Pt)(i k:Nat):Prop where
 at_:∃ cur:Array Value,w.heap[B]? =some (.cells cur 3)/\cur.size=l.length/\(∀ j,j<i->∃ v,cur[j]? =some (iv v)/\Zgu l j l.length v)/\∃ v,cur[i]? =some (iv v)/\Zgu l i k v
theorem RimCur.below {w w':World}{B i k:Nat}{l:List Pt}(h:RimCur w B l i k)(I:Below w.heap.size w w'):RimCur w' B l i k:=by
 obtain⟨J,e,D,O⟩:=h.at_;exact⟨J,(I.block B (Array.getElem?_eq_some_iff.1 e).1).trans e,D,O⟩
theorem RimCur.skip {w:World}{B i k:Nat}{l:List Pt}(h:RimCur w B l i k)(I:¬ Zbb l i k):RimCur w B l i (k+1):=by
 obtain⟨Y,O,e,Z,v,J,D⟩:=h.at_;exact⟨Y,O,e,Z,v,J,Z2s D I⟩
theorem RimCur.done {w:World}{B i:Nat}{l:List Pt}(h:RimCur w B l i l.length):RimDone w B l (i+1):=by
 obtain⟨Y,O,D,Z,v,J,I⟩:=h.at_;refine⟨Y,O,D,fun j hj=>?_⟩;by_cases e:j=i
 ·subst e;exact⟨v,J,I⟩
 ·exact Z j (by omega)
theorem RimDone.start {w:World}{B i:Nat}{l:List Pt}(h:RimDone w B l i)(hi:i<l.length) :
  ∃ V,w.setCell ⟨B,i,none⟩ (iv (-1))=V/\(∃ v,w.cell? ⟨B,i,none⟩=some v)/\w.frozen? ⟨B,i,none⟩=false/\RimCur V B l i 0/\∀ N,N<=B->Below N w V:=by
 obtain⟨Z,D,J,Y⟩:=h.at_;have k1:=heap_setCell_same w B i Z 3 (iv (-1)) D;refine⟨_,rfl,⟨_,(Ys D i).trans (Array.getElem?_eq_getElem (by omega))⟩,Zch D i,⟨_,k1,by simp[J],?_,-1,?_,.inr ⟨rfl,fun j I=>by omega⟩⟩,fun N O=>(Below.refl _ _).setCell (p:=⟨B,i,none⟩) O _⟩
 ·intro j I;obtain⟨v,e,s⟩:=Y j I;refine⟨v,?_,s⟩;rw[Array.getElem?_setIfInBounds,if_neg (by omega)];exact e
 ·rw[Array.getElem?_setIfInBounds,if_pos rfl,if_pos (by omega)]
theorem RimCur.put {w:World}{B i k:Nat}{l:List Pt}(h:RimCur w B l i k)(hi:i<l.length)(hr:Zbb l i k) :
  ∃ V,w.setCell ⟨B,i,none⟩ (iv k)=V/\(∃ v,w.cell? ⟨B,i,none⟩=some v)/\w.frozen? ⟨B,i,none⟩=false/\RimCur V B l i (k+1)/\∀ N,N<=B->Below N w V:=by
 obtain⟨Y,D,I,O,v,h4,h5⟩:=h.at_;have k1:=heap_setCell_same w B i Y 3 (iv k) D;refine⟨_,rfl,⟨_,(Ys D i).trans h4⟩,Zch D i,⟨_,k1,by simp[I],?_,k,?_,Z2r hr⟩,fun N J=>(Below.refl _ _).setCell (p:=⟨B,i,none⟩) J _⟩
 ·intro j Z;obtain⟨v,e,s⟩:=O j Z;refine⟨v,?_,s⟩;rw[Array.getElem?_setIfInBounds,if_neg (by omega)];exact e
 ·rw[Array.getElem?_setIfInBounds,if_pos rfl,if_pos (by omega)]
theorem Z2t (W:World)(l:List Pt):RimDone (W.alloc (.cells (madeCells #[int i64 0] l.length) 3)) W.heap.size l 0:=by
 refine⟨madeCells #[int i64 0] l.length,by simp only[World.alloc,Array.getElem?_push_size],?_,fun j e=>by omega⟩;rw[Zll];simp[Zao]
theorem Z2u (b off cap:Nat)(l:List Pt)(w:World)(hl:l.length<=60)(hn:Zv l)(hb:b<w.heap.size)(hp:Zp w b off l) :
  Calls prog 94 #[.slice (some ⟨b,off,none⟩) l.length cap] w fun e w'=>
   ∃ B,e= .returned (.slice (some ⟨B,0,none⟩) l.length l.length)/\RimDone w' B l l.length/\w.heap.size<=B/\Below w.heap.size w w':=by
 have hmk:=run_make_row' (P:=prog) 26 3 (int i64 0) 8 underlying26 Zbi rfl .i64 .i64 l.length (by omega) (by omega);have HN:Hid (Zv l):=hn;clear hn;go_enter func94,ntmps94;go_wp2
 obtain⟨W0,hW0,hD0,hb0⟩:∃ W0,w.alloc (.cells (madeCells #[int i64 0] l.length) 3)=W0/\RimDone W0 w.heap.size l 0/\Below w.heap.size w W0:=⟨_,rfl,Z2t w l,Zb _ _⟩;rw[hW0];clear hW0 hmk;obtain⟨B,hB⟩:∃ B,w.heap.size=B:=⟨_,rfl⟩;rw[hB] at hD0;rw[hB];have hBw:w.heap.size<=B:=by omega
 have HBE:Hid (w.heap.size=B):=hB;clear hB;go_loopw [4] (fun s4 wr=>∃ i:Nat,i<=l.length/\s4=int i64 i/\RimDone wr B l i/\Below w.heap.size w wr) (fun i _=>l.length-(intOf i).toNat)
 case atStart=>exact⟨0,Nat.zero_le _,rfl,hD0,hb0⟩
 case round=>
  clear hD0 hb0;obtain⟨i,hi,rfl,hD,ac⟩:=hrel;by_cases hil:i<l.length
  ·obtain⟨V1,hV1,⟨v0,s0⟩,r0,hC1,hB1⟩:=hD.start hil;have hbV1:=ac.trans (hB1 w.heap.size hBw);have y0:(0:Int)<=(i:Int):=by omega
   have y1:(i:Int)<(l.length:Int):=by omega
   clear hD hB1 ac;go_wp2_with fail
   clear hV1 s0 r0;generalize wr=Wx at *
   go_loopw [5] (fun s5 wr=>∃ k:Nat,k<=l.length/\s5=int i64 k/\RimCur wr B l i k/\Below w.heap.size w wr) (fun i _=>l.length-(intOf i).toNat)
   case atStart=>exact⟨0,Nat.zero_le _,rfl,hC1,hbV1⟩
   case round=>
    clear hC1 hbV1;obtain⟨k,hk,rfl,hC,ac⟩:=hrel;by_cases hkl:k<l.length
    ·have y4:IntKind.i64.wrap ((k:Int)+1)=(k:Int)+1:=Zd (by omega) (by omega);by_cases hki:k=i
     ·have e0:((k:Int) == (i:Int))=true:=by rw[hki];simp
      have hnr:¬ Zbb l i k:=fun h=>h.1 hki.symm
      have hC2:=hC.skip hnr;clear hC hki hnr;go_wp2
      go_roundw;case rel=>exact⟨k+1,by omega,by go_num,hC2,ac⟩
      case measure=>simp[intOf];omega
     ·have e0:((k:Int) == (i:Int))=false:=beq_eq_false_iff_ne.2 (by omega);have y2:(0:Int)<=(k:Int):=by omega
      have y3:(k:Int)<(l.length:Int):=by omega
      go_wp2_with fail
      generalize wr=V at *
      go_loopw [6,7] (fun s6 s7 wx=>∃ (j:Nat) (O:Bool),j<=l.length/\s7=int i64 j/\s6= .bool O/\(O=true↔∀ I,I<j->I≠i->I≠k->Zcs l i k I)/\Below V.heap.size V wx) (fun _ i _=>l.length-(intOf i).toNat)
      case atStart=>exact⟨0,true,Nat.zero_le _,rfl,rfl,⟨fun _ I h=>by omega,fun _=>rfl⟩,Below.refl _ _⟩
      case round=>
       obtain⟨j,O,hj,rfl,rfl,hnb,ab⟩:=hrel;have HNB:Hid (O=true↔∀ I,I<j->I≠i->I≠k->Zcs l i k I):=hnb;clear hnb;by_cases hjl:j<l.length
       ·have y5:IntKind.i64.wrap ((j:Int)+1)=(j:Int)+1:=Zd (by omega) (by omega);have step:∀ {B:Prop},(B↔(j≠i->j≠k->Zcs l i k j))->((O=true/\B)↔∀ I,I<j+1->I≠i->I≠k->Zcs l i k I):=by
         intro B hB;rw[HNB.out,hB];constructor
         ·rintro⟨h1,h2⟩ I hj' n1 n2;by_cases e:I=j
          ·subst e;exact h2 n1 n2
          ·exact h1 I (by omega) n1 n2
         ·exact fun h=>⟨fun I hj' n1 n2=>h I (by omega) n1 n2,fun n1 n2=>h j (by omega) n1 n2⟩
        by_cases hji:j=i
        ·have e1:((j:Int) == (i:Int))=true:=by rw[hji];simp
         have Z:Hid (O=true↔∀ I,I<j+1->I≠i->I≠k->Zcs l i k I):=by
          exact Zkh (step (B:=True) ⟨fun _ h=>absurd hji h,fun _=>trivial⟩)
         clear step hji HNB;go_wp2
         go_roundw;case rel=>exact⟨j+1,O,by omega,by go_num,rfl,Z.out,ab⟩
         case measure=>simp[intOf];omega
        ·have e1:((j:Int) == (i:Int))=false:=beq_eq_false_iff_ne.2 (by omega);by_cases hjk:j=k
         ·have e2:((j:Int) == (k:Int))=true:=by rw[hjk];simp
          have Z:Hid (O=true↔∀ I,I<j+1->I≠i->I≠k->Zcs l i k I):=by
           exact Zkh (step (B:=True) ⟨fun _ _ h=>absurd hjk h,fun _=>trivial⟩)
          clear step hji hjk HNB;go_wp2
          go_roundw;case rel=>exact⟨j+1,O,by omega,by go_num,rfl,Z.out,ab⟩
          case measure=>simp[intOf];omega
         ·have e2:((j:Int) == (k:Int))=false:=beq_eq_false_iff_ne.2 (by omega);have hbw:=ac.trans (ab.mono ac.size);have hpr:=hp.below hbw hb;obtain⟨d0,d1⟩:=hpr i hil;obtain⟨d2,d3⟩:=hpr k hkl;obtain⟨d4,d5⟩:=hpr j hjl;have nA:Near (l.getD i (0,0)).1 (l.getD i (0,0)).2:=HN.out i hil;have nB:Near (l.getD k (0,0)).1 (l.getD k (0,0)).2:=HN.out k hkl;have nC:Near (l.getD j (0,0)).1 (l.getD j (0,0)).2:=HN.out j hjl;have SC:=fun W=>Zbl _ _ _ _ _ _ W nA nB nC
          have TC:=fun W=>Zne _ _ _ _ _ _ W nA nB nC
          have Z:∀ {B:Prop},(B↔Zcs l i k j)->Hid ((O=true/\B)↔∀ I,I<j+1->I≠i->I≠k->Zcs l i k I):=fun hB=>
           step ⟨fun h _ _=>hB.1 h,fun h=>hB.2 (h hji hjk)⟩
          have eG:Zcs l i k j↔(0<=Zk (l.getD i (0,0)).1 (l.getD i (0,0)).2 (l.getD k (0,0)).1 (l.getD k (0,0)).2 (l.getD j (0,0)).1 (l.getD j (0,0)).2/\(Zk (l.getD i (0,0)).1 (l.getD i (0,0)).2 (l.getD k (0,0)).1 (l.getD k (0,0)).2 (l.getD j (0,0)).1 (l.getD j (0,0)).2=0->0<=dt ((l.getD i (0,0)).1,(l.getD i (0,0)).2) ((l.getD k (0,0)).1,(l.getD k (0,0)).2) ((l.getD j (0,0)).1,(l.getD j (0,0)).2))):=Iff.rfl;have gr:b<wr.heap.size:=L3 hb hbw.size;clear nA nB nC hpr hji hjk step;generalize Zk (l.getD i (0,0)).1 (l.getD i (0,0)).2 (l.getD k (0,0)).1 (l.getD k (0,0)).2 (l.getD j (0,0)).1 (l.getD j (0,0)).2=S at *
          generalize dt ((l.getD i (0,0)).1,(l.getD i (0,0)).2) ((l.getD k (0,0)).1,(l.getD k (0,0)).2) ((l.getD j (0,0)).1,(l.getD j (0,0)).2)=D at *
          generalize (l.getD i (0,0)).1=ax at *
          generalize (l.getD i (0,0)).2=ay at *
          generalize (l.getD k (0,0)).1=bx at *
          generalize (l.getD k (0,0)).2=by2 at *
          generalize (l.getD j (0,0)).1=cx at *
          generalize (l.getD j (0,0)).2=cy at *
          have y6:(0:Int)<=(j:Int):=by omega
          have y7:(j:Int)<(l.length:Int):=by omega
          rcases Int.lt_trichotomy S 0 with hS|hS|hS
          ·have aa:=Z (B:=False) ⟨fun h=>h.elim,fun h=>by have:=(eG.1 h).1;omega⟩;have HS3:Hid (false=true↔∀ I,I<j+1->I≠i->I≠k->Zcs l i k I):=Zsi aa.out;have esg:sg S= -1:=by unfold sg;rw[if_neg (by omega),if_pos hS]
           rw[esg] at SC;clear Z aa eG TC esg HNB;go_wp2_with fail
           go_region_held3 (fun w'=>Below wr.heap.size wr w'/\∀ b o,b<wr.heap.size->w'.cell? ⟨b,o,none⟩=wr.cell? ⟨b,o,none⟩) (first|exact Yw _|exact Yx (by assumption) Y)
            (first|(go_at_call 87;refine (SC _).mono ?_;rintro e w' ⟨rfl,Y⟩))
           rename_i J;have hbj2:=ab.trans (J.1.mono ab.size);clear J Y SC d0 d1 d2 d3 d4 d5;go_wp2_with fail
           go_quiet (fail);go_wp2
           go_roundw;case rel=>exact⟨j+1,false,by omega,by go_num,rfl,HS3.out,Zt hbj2⟩
           case measure=>simp[intOf];omega
          ·subst hS;have esg:sg 0=0:=rfl;rw[esg] at SC;go_wp2_with fail
           go_region_held3 (fun w'=>Below wr.heap.size wr w'/\∀ b o,b<wr.heap.size->w'.cell? ⟨b,o,none⟩=wr.cell? ⟨b,o,none⟩) (first|exact Yw _|exact Yx (by assumption) Y)
            (first|(go_at_call 87;refine (SC _).mono ?_;rintro e w' ⟨rfl,Y⟩))
           rename_i J;have hbj2:=ab.trans (J.1.mono ab.size);replace d0:=(J.2 b _ gr).trans d0;replace d1:=(J.2 b _ gr).trans d1;replace d2:=(J.2 b _ gr).trans d2;replace d3:=(J.2 b _ gr).trans d3;replace d4:=(J.2 b _ gr).trans d4;replace d5:=(J.2 b _ gr).trans d5;replace gr:=L3 gr J.1.size;clear J Y SC;generalize w'=X at *
           by_cases hD:D<0
           ·have aa:=Z (B:=False) ⟨fun h=>h.elim,fun h=>by have q:=(eG.1 h).2 (by first|trivial|rfl);omega⟩;have HS3:Hid (false=true↔∀ I,I<j+1->I≠i->I≠k->Zcs l i k I):=Zsi aa.out;rw[decide_eq_true hD] at TC;clear Z aa eG esg HNB hD;go_wp2_with fail
            go_region_held3 (fun w'=>Below X.heap.size X w'/\∀ b o,b<X.heap.size->w'.cell? ⟨b,o,none⟩=X.cell? ⟨b,o,none⟩) (first|exact Yw _|exact Yx (by assumption) Y)
             (first|(go_at_call 123;refine (TC _).mono ?_;rintro e w' ⟨rfl,Y⟩))
            rename_i J;have hbj3:=hbj2.trans (J.1.mono hbj2.size);clear J Y TC d0 d1 d2 d3 d4 d5;go_wp2
            go_roundw;case rel=>exact⟨j+1,false,by omega,by go_num,rfl,HS3.out,hbj3⟩
            case measure=>simp[intOf];omega
           ·have aa:=Z (B:=True) ⟨fun _=>eG.2 ⟨Int.le_refl _,fun _=>by omega⟩,fun _=>trivial⟩;have HS3:Hid (O=true↔∀ I,I<j+1->I≠i->I≠k->Zcs l i k I):=Zkh aa.out;rw[decide_eq_false hD] at TC;clear Z aa eG esg HNB hD;go_wp2_with fail
            go_region_held3 (fun w'=>Below X.heap.size X w'/\∀ b o,b<X.heap.size->w'.cell? ⟨b,o,none⟩=X.cell? ⟨b,o,none⟩) (first|exact Yw _|exact Yx (by assumption) Y)
             (first|(go_at_call 123;refine (TC _).mono ?_;rintro e w' ⟨rfl,Y⟩))
            rename_i J;have hbj3:=hbj2.trans (J.1.mono hbj2.size);clear J Y TC d0 d1 d2 d3 d4 d5;go_wp2
            go_roundw;case rel=>exact⟨j+1,O,by omega,by go_num,rfl,HS3.out,hbj3⟩
            case measure=>simp[intOf];omega
          ·have aa:=Z (B:=True) ⟨fun _=>eG.2 ⟨by omega,fun h=>by omega⟩,fun _=>trivial⟩;have HS3:Hid (O=true↔∀ I,I<j+1->I≠i->I≠k->Zcs l i k I):=Zkh aa.out;have esg:sg S=1:=by unfold sg;rw[if_pos hS]
           rw[esg] at SC;clear Z aa eG TC esg HNB;go_wp2_with fail
           go_region_held3 (fun w'=>Below wr.heap.size wr w'/\∀ b o,b<wr.heap.size->w'.cell? ⟨b,o,none⟩=wr.cell? ⟨b,o,none⟩) (first|exact Yw _|exact Yx (by assumption) Y)
            (first|(go_at_call 87;refine (SC _).mono ?_;rintro e w' ⟨rfl,Y⟩))
           rename_i J;have hbj2:=ab.trans (J.1.mono ab.size);clear J Y SC d0 d1 d2 d3 d4 d5;go_wp2_with fail
           go_quiet (fail);go_wp2
           go_roundw;case rel=>exact⟨j+1,O,by omega,by go_num,rfl,HS3.out,Zt hbj2⟩
           case measure=>simp[intOf];omega
       ·have hje:j=l.length:=by omega
        have hrim:O=true↔Zbb l i k:=by
         rw[HNB.out,hje];exact⟨fun h=>⟨fun e=>hki e.symm,fun I h1 h2 h3=>h I h1 h2 h3⟩,fun h I h1 h2 h3=>h.2 I h1 h2 h3⟩
        have hC2:=hC.below ab;have hbw:=ac.trans (ab.mono ac.size);clear HNB hje hC ac;cases O with
        | true=>
         obtain⟨V2,hV2,⟨v0,s0⟩,r0,hC3,hB3⟩:=hC2.put hil (hrim.1 rfl);have hb3:=hbw.trans (hB3 w.heap.size hBw);clear hC2 hB3 hrim;go_wp2
         go_roundw;case rel=>exact⟨k+1,by omega,by go_num,hC3,hb3⟩
         case measure=>simp[intOf];omega
        | false=>
         have hC3:=hC2.skip (fun h=>by have:=hrim.2 h;cases this);clear hC2 hrim;go_wp2
         go_roundw;case rel=>exact⟨k+1,by omega,by go_num,hC3,hbw⟩
         case measure=>simp[intOf];omega
    ·have hke:k=l.length:=by omega
     have y5:IntKind.i64.wrap ((i:Int)+1)=(i:Int)+1:=Zd (by omega) (by omega);have hD2:RimDone wr B l (i+1):=by rw[hke] at hC;exact hC.done
     clear hC;go_wp2
     go_roundw;case rel=>exact⟨i+1,by omega,by go_num,hD2,ac⟩
     case measure=>simp[intOf];omega
  ·have hie:i=l.length:=by omega
   have hD2:RimDone wr B l l.length:=by rw[hie] at hD;exact hD
   clear hD hie;go_wp2
   go_ret;exact⟨B,rfl,hD2,hBw,ac⟩
end Go.Proofs.YtgpapegpdfonpaaGreatDoor
namespace Go.Proofs.YtgpapegpdfonpaaGreatDoor
open Go.RowKit Go.Proofs.Tryz
attribute [local go_sem ↓] Go.wp_at_zero Go.wp_at_succ
def Zki:Array Value:=Array.replicate 3600 (.bool false)
structure GoneAt (w:World)(U:Nat)(f:Nat->Nat->Bool):Prop where
 at_:∃ cur:Array Value,w.heap[U]? =some (.cells cur 144)/\cur.size=3600/\∀ a b,a<60->b<60->cur[a*60+b]? =some (.bool (f a b))
theorem GoneAt.below {w w':World}{U:Nat}{f:Nat->Nat->Bool}(h:GoneAt w U f)(I:Below w.heap.size w w'):GoneAt w' U f:=by
 obtain⟨J,e,D,O⟩:=h.at_;exact⟨J,(I.block U (Array.getElem?_eq_some_iff.1 e).1).trans e,D,O⟩
theorem GoneAt.cell {w:World}{U:Nat}{f:Nat->Nat->Bool}(h:GoneAt w U f){a b:Nat}(D:a<60)(I:b<60):w.cell? ⟨U,a*60+b,none⟩=some (.bool (f a b))/\w.frozen? ⟨U,a*60+b,none⟩=false:=by
 obtain⟨Y,e,O,J⟩:=h.at_;exact⟨(Ys e _).trans (J a b D I),Zch e _⟩
theorem Z2v:zeroCells144=Zki:=by kernel_rfl
theorem Z2w (W:World):GoneAt (W.alloc (.cells zeroCells144 144)) W.heap.size (fun _ _=>false):=by
 rw[Z2v];refine⟨Zki,by simp only[World.alloc,Array.getElem?_push_size],by simp[Zki],fun a b D e=>?_⟩;unfold Zki;rw[Array.getElem?_replicate,if_pos (by omega)]
theorem GoneAt.put {w:World}{U:Nat}{f:Nat->Nat->Bool}(h:GoneAt w U f){a b:Nat}(ha:a<60)(hb:b<60) :
  ∃ V,w.setCell ⟨U,a*60+b,none⟩ (.bool true)=V/\GoneAt V U (fun x y=>if x=a/\y=b then true else f x y)/\V.heap.size=w.heap.size/\(∀ N,N<=U->Below N w V)/\(∀ x o,x≠U->V.cell? ⟨x,o,none⟩=w.cell? ⟨x,o,none⟩):=by
 obtain⟨Y,Z,I,O⟩:=h.at_;have k1:=heap_setCell_same w U (a*60+b) Y 144 (.bool true) Z;refine⟨_,rfl,⟨_,k1,by simp[I],fun x y D hy=>?_⟩,by simp[World.setCell],fun N J=>(Below.refl _ _).setCell (p:=⟨U,a*60+b,none⟩) J _,fun x o D=>?_⟩
 ·rw[Array.getElem?_setIfInBounds];by_cases e:x=a/\y=b
  ·obtain⟨rfl,rfl⟩:=e;rw[if_pos rfl,if_pos (by omega),if_pos ⟨rfl,rfl⟩]
  ·rw[if_neg (by omega),if_neg e];exact O x y D hy
 ·have q:(w.setCell ⟨U,a*60+b,none⟩ (.bool true)).heap[x]? =w.heap[x]? :=heap_setCell_other _ _ _ _ D;unfold World.cell?;rw[q]
def Zdw (t:T3)(j a b:Nat):Bool:=Zl t j == (a:Int) && Zl t ((j+1) % 3) == (b:Int)
def Zh6 (t:T3)(a b:Nat):Bool:=Zdw t 0 a b || Zdw t 1 a b || Zdw t 2 a b
def Zdx (t:T3)(k a b:Nat):Bool:=(decide (0<k) && Zdw t 0 a b) || (decide (1<k) && Zdw t 1 a b) || (decide (2<k) && Zdw t 2 a b)
def Xk (ts:List T3)(i k:Nat):Nat->Nat->Bool:=fun a b=>(ts.take i).any (fun t=>Zh6 t a b) || Zdx (ts.getD i (0,0,0)) k a b
theorem Z2x (ts:List T3):Xk ts 0 0=fun _ _=>false:=by funext a b;simp[Xk,Zdx]
theorem Zsj (t:T3)(a b:Nat):Zdx t 0 a b=false:=by simp[Zdx]
theorem Z2y (t:T3)(a b:Nat):Zdx t 3 a b=Zh6 t a b:=by simp[Zdx,Zh6]
theorem Z2z (ts:List T3){i:Nat}(hi:i<ts.length):Xk ts i 3=Xk ts (i+1) 0:=by
 funext a b;unfold Xk;rw[Z2y,Zsj,List.take_succ_eq_append_getElem hi,List.any_append];have:ts.getD i (0,0,0)=ts[i]:=by simp[hi]
 rw[this];simp
theorem Z20 (t:T3){k:Nat}(e:k<3)(a b:Nat):Zdx t (k+1) a b=(Zdx t k a b || Zdw t k a b):=by
 have:k=0\/k=1\/k=2:=by omega
 rcases this with rfl|rfl|rfl <;> simp[Zdx]
theorem Z21 (ts:List T3){i k x y:Nat}(I:k<3)(e:Zl (ts.getD i (0,0,0)) k=(x:Int))(D:Zl (ts.getD i (0,0,0)) ((k+1) % 3)=(y:Int)) :
  (fun a b=>if a=x/\b=y then true else Xk ts i k a b)=Xk ts i (k+1):=by
 funext a b;unfold Xk;rw[Z20 _ I];unfold Zdw;rw[e,D];by_cases h:a=x/\b=y
 ·rw[if_pos h,h.1,h.2];simp
 ·rw[if_neg h];have:((x:Int) == (a:Int) && (y:Int) == (b:Int))=false:=by
   rw[Bool.and_eq_false_iff,beq_eq_false_iff_ne,beq_eq_false_iff_ne];omega
  rw[this];simp
theorem Zng (t:T3)(a b:Nat):Zh6 t a b=true↔∃ k,k<3/\Zl t k=(a:Int)/\Zl t ((k+1) % 3)=(b:Int):=by
 unfold Zh6 Zdw;simp only[Bool.or_eq_true,Bool.and_eq_true,beq_iff_eq];constructor
 ·rintro ((h|h)|h)
  ·exact⟨0,by omega,h⟩
  ·exact⟨1,by omega,h⟩
  ·exact⟨2,by omega,h⟩
 ·rintro⟨k,e,h⟩;have:k=0\/k=1\/k=2:=by omega
  rcases this with rfl|rfl|rfl
  ·exact .inl (.inl h)
  ·exact .inl (.inr h)
  ·exact .inr h
theorem Zsk (ts:List T3)(a b:Nat):Xk ts ts.length 0 a b=true↔X3 ts a b:=by
 unfold Xk X3;rw[Zsj,Bool.or_false,List.take_length,List.any_eq_true];exact⟨fun ⟨t,h1,h2⟩=>⟨t,h1,(Zng t a b).1 h2⟩,fun ⟨t,h1,h2⟩=>⟨t,h1,(Zng t a b).2 h2⟩⟩
theorem Z22 {l:List Pt}{ts:List T3}(F:IsOk l ts){i k x y:Nat}(hi:i<ts.length)(hk:k<3)(J:Zl (ts.getD i (0,0,0)) k=(x:Int))(I:Zl (ts.getD i (0,0,0)) ((k+1) % 3)=(y:Int)):Xk ts i k x y=false:=by
 unfold Xk;rw[Bool.or_eq_false_iff];have eg:ts.getD i (0,0,0)=ts[i]:=by simp[hi]
 refine⟨?_,?_⟩
 ·rw[List.any_eq_false];intro s Y hg;obtain⟨m,Z,e⟩:=List.getElem_of_mem Y;have hmi:m<i:=by simp at Z;omega
  have D:=Zsh F.alg hmi hi;have es:ts.getD m (0,0,0)=s:=by
   rw[<-e];simp[show m<ts.length by omega]
  rw[es] at D;obtain⟨j,hj,g1,g2⟩:=(Zng s x y).1 hg;have:Ze0 s (ts.getD i (0,0,0))=true:=by
   unfold Ze0;rw[List.any_eq_true];refine⟨j,List.mem_range.2 hj,?_⟩;rw[List.any_eq_true];refine⟨k,List.mem_range.2 hk,?_⟩;rw[Bool.and_eq_true,beq_iff_eq,beq_iff_eq];exact⟨g1.trans J.symm,g2.trans I.symm⟩
  rw[this] at D;cases D
 ·obtain⟨⟨h0,h1,O,_,_⟩,h5,_⟩:=F.tri _ (List.getElem_mem hi);rw[<-eg] at h0 h1 O h5;generalize ts.getD i (0,0,0)=t at *
  obtain⟨p,q,r⟩:=t;dsimp only at *
  have hqr:q≠r:=by
   intro e;subst e;have:sd (pOf l p) (pOf l q) (pOf l q)=0:=Y0 _ _;omega
  have hk3:k=0\/k=1\/k=2:=by omega
  rcases hk3 with rfl|rfl|rfl <;> simp only[Nat.zero_add,Nat.reduceAdd,Nat.reduceMod,Zh1,Zh2,Zh3] at J I <;> simp[Zdx,Zdw,Zh1,Zh2,Zh3] <;> omega
end Go.Proofs.YtgpapegpdfonpaaGreatDoor
namespace Go.Proofs.YtgpapegpdfonpaaGreatDoor
open Go.RowKit Go.Proofs.Tryz
open Go.Value(int)
open Go.IntKind(i64)
attribute [local go_sem ↓] Go.wp_at_zero Go.wp_at_succ
theorem Zcr.nth {w:World}{g:Nat}{ts:List T3}(h:Zcr w g ts){i k:Nat}(hi:i<ts.length)(J:k<3):w.cell? ⟨g,i*3+k,none⟩=some (iv (Zl (ts.getD i (0,0,0)) k)):=by
 obtain⟨D,I,e⟩:=h i hi;have:k=0\/k=1\/k=2:=by omega
 rcases this with rfl|rfl|rfl
 ·exact D
 ·exact I
 ·exact e
theorem Zsl {l:List Pt}{ts:List T3}(F:IsOk l ts){i k:Nat}(hi:i<ts.length)(Y:k<3):∃ x:Nat,Zl (ts.getD i (0,0,0)) k=(x:Int)/\x<l.length:=by
 obtain⟨a,b,c,e,O,J,I,D,_⟩:=Znf F hi;rw[e];have:k=0\/k=1\/k=2:=by omega
 rcases this with rfl|rfl|rfl
 ·exact⟨a,rfl,by omega⟩
 ·exact⟨b,rfl,I⟩
 ·exact⟨c,rfl,D⟩
theorem Z23 {a b c d:Pt}(h:0<sd a b c)(I:cc a b c d<=0):sg (Zk a.1 a.2 b.1 b.2 c.1 c.2)*sg (Zan a.1 a.2 b.1 b.2 c.1 c.2 d.1 d.2)<=0:=by
 have e:sg (Zk a.1 a.2 b.1 b.2 c.1 c.2)=1:=by unfold sg;exact if_pos h
 have D:Zan a.1 a.2 b.1 b.2 c.1 c.2 d.1 d.2=cc a b c d:=by unfold Zan cc;grind
 rw[e,D,Int.one_mul];unfold sg;rw[if_neg (by omega)];split <;> omega
theorem Zsm (b off cap gt ct:Nat)(l:List Pt)(ts:List T3)(w:World)(hl:l.length<=60)(hn:Zv l)(hb:b<w.heap.size)(hp:Zp w b off l)(hg:gt<w.heap.size)(ht:Zcr w gt ts)(htl:ts.length<=4000)(F:IsOk l ts) :
  Calls prog 49 #[.slice (some ⟨b,off,none⟩) l.length cap,.slice (some ⟨gt,0,none⟩) ts.length ct] w fun e w'=>e= .returned (.bool true)/\Below w.heap.size w w':=by
 have HF:=Zkg b off cap l w hl hn hb hp;have HP:=fun W h1 h2 h3 h4=>Z2q b off cap gt ct l ts W hl hn h1 h2 h3 h4 htl F
 have HN:Hid (Zv l):=hn;have FO:Hid (IsOk l ts):=F;have HNF:Hid (¬ ∀ i,2<=i->i<l.length->sd (Za l 0) (Za l 1) (Za l i)=0):=fun h=>by obtain⟨i,h1,h2,h3⟩:=F.off;exact h3 (h i h1 h2)
 clear hn F;go_enter func49,ntmps49;go_upto_region 2 with (go_at_call 92;refine HF.mono ?_;rintro e w1 ⟨B,rfl,hB,O⟩);have hBf:B=false:=by
  cases B with
  | false=>rfl
  | true=>exact absurd (hB.1 rfl) HNF.out
 subst hBf;have hp1:=hp.below O hb;have ht1:=ht.below O hg;have hbb1:=L3 hb O.size;have hgg1:=L3 hg O.size;have HP1:=HP w1 hbb1 hp1 hgg1 ht1;clear HF HP hB HNF hp1 ht1 hbb1 hgg1;go_upto_region 7 with (go_at_call 93;refine HP1.mono ?_;rintro e w2 ⟨rfl,hb2⟩);have hbw2:=O.trans (hb2.mono O.size);clear HP1 O hb2;go_upto_block 0 with fail
 obtain⟨W3,hW3,hG3,hb3⟩:∃ W3,w2.alloc (.cells zeroCells144 144)=W3/\GoneAt W3 w2.heap.size (Xk ts 0 0)/\Below w2.heap.size w2 W3:=⟨_,rfl,by rw[Z2x];exact Z2w w2,Zb _ _⟩;rw[hW3];have hbw3:=hbw2.trans (hb3.mono hbw2.size);have hwU:=hbw2.size;clear hW3 hb3 hbw2;generalize w2.heap.size=U at *
 go_cut [8] (fun _ wx=>GoneAt wx U (Xk ts ts.length 0)/\Below w.heap.size w wx)
 case first=>
  as_aux_lemma=>
  go_wp2_with fail
  go_loopw [8] (fun s8 wr=>∃ i:Nat,i<=ts.length/\s8=int i64 i/\GoneAt wr U (Xk ts i 0)/\Below w.heap.size w wr) (fun i _=>ts.length-(intOf i).toNat)
  case atStart=>exact⟨0,Nat.zero_le _,rfl,hG3,hbw3⟩
  case round=>
   clear hG3 hbw3;obtain⟨i,hi,rfl,D,I⟩:=hrel;by_cases hil:i<ts.length
   ·have y0:(0:Int)<=(i:Int):=by omega
    have y1:(i:Int)<(ts.length:Int):=by omega
    go_upto_block 2 with fail
    go_cut [9] (fun _ wx=>GoneAt wx U (Xk ts (i+1) 0)/\Below w.heap.size w wx)
    case first=>
     as_aux_lemma=>
     go_wp2_with fail
     generalize wr=Wx at *
     go_loopw [9] (fun s9 wr=>∃ k:Nat,k<=3/\s9=int i64 k/\GoneAt wr U (Xk ts i k)/\Below w.heap.size w wr) (fun i _=>3-(intOf i).toNat)
     case atStart=>exact⟨0,by omega,rfl,D,I⟩
     case round=>
      clear D I;obtain⟨k,hk,rfl,D,I⟩:=hrel;by_cases hk3:k<3
      ·have hm:(k+1) % 3<3:=Nat.mod_lt _ (by omega);obtain⟨x,ex,hx⟩:=Zsl FO.out hil hk3;obtain⟨y,ey,hy⟩:=Zsl FO.out hil hm;have c0:=(ht.below I hg).nth hil hk3;have c1:=(ht.below I hg).nth hil hm;rw[ex] at c0;rw[ey] at c1;have hfr:=Z22 FO.out hil hk3 ex ey;have hput:=Z21 ts hk3 ex ey;have g0:=D.cell (a:=x) (b:=y) (by omega) (by omega);rw[hfr] at g0;obtain⟨g1,g2⟩:=g0;have HPUT:Hid ((fun a b=>if a=x/\b=y then true else Xk ts i k a b)=Xk ts i (k+1)):=hput;clear hfr hput ex ey;have hrem:((k:Int)+1).tmod 3=(((k+1) % 3:Nat):Int):=by
        rw[Int.tmod_eq_emod_of_nonneg (by omega)];rfl
       generalize (k+1) % 3=m at *
       have z0:(0:Int)<=(k:Int):=by omega
       have z1:(k:Int)<3:=by omega
       have z2:(0:Int)<=(m:Int):=by omega
       have z3:(m:Int)<3:=by omega
       have z4:(0:Int)<=(x:Int):=by omega
       have z5:(x:Int)<60:=by omega
       have z6:(0:Int)<=(y:Int):=by omega
       have z7:(y:Int)<60:=by omega
       have z8:IntKind.i64.wrap ((k:Int)+1)=(k:Int)+1:=Zd (by omega) (by omega);have z9:x<60:=by omega
       have z10:y<60:=by omega
       have z11:k<3:=hk3;go_wp2_with fail
       go_quiet (fail);have hGq:GoneAt (wr.drewN nq) U (Xk ts i k):=⟨D.at_⟩;have hbq:Below w.heap.size w (wr.drewN nq):=Zt I;have g1q:(wr.drewN nq).cell? ⟨U,x*60+y,none⟩=some (.bool false):=g1;have g2q:(wr.drewN nq).frozen? ⟨U,x*60+y,none⟩=false:=g2;clear c0 c1 g1 g2 D I;generalize wr.drewN nq=X at *
       obtain⟨V,hV,J,_,hB2,_⟩:=hGq.put (a:=x) (b:=y) (by omega) (by omega);rw[HPUT.out] at J;have hb2:=hbq.trans (hB2 w.heap.size hwU);clear hGq hbq hB2 HPUT;go_wp2
       go_roundw;case rel=>exact⟨k+1,by omega,by go_num,J,hb2⟩
       case measure=>simp[intOf];omega
      ·have hke:k=3:=by omega
       have J:GoneAt wr U (Xk ts (i+1) 0):=by rw[<-Z2z ts hil,<-hke];exact D
       clear D;go_wp2
       go_meet;case rel=>exact⟨J,I⟩
    case rest=>
     as_aux_lemma=>
     obtain⟨J,hb2⟩:=hcut;clear D I;generalize wc=V at *
     have y4:IntKind.i64.wrap ((i:Int)+1)=(i:Int)+1:=Zd (by omega) (by omega);obtain⟨x,y,z,hxyz,hxy,hxz,hyl,hzl,hsd,hcc⟩:=Znf FO.out hil;have HCC:Hid (∀ d,d<l.length->cc (Za l x) (Za l y) (Za l z) (Za l d)<=0):=hcc;have HXYZ:Hid (ts.getD i (0,0,0)=((x:Int),(y:Int),(z:Int))):=hxyz;have HSD:Hid (0<sd (Za l x) (Za l y) (Za l z)):=hsd;clear hcc hxyz hsd;go_wp2_with fail
     generalize wr=Wx at *
     go_loopw [12] (fun s12 wr=>∃ j:Nat,j<=l.length/\s12=int i64 j/\GoneAt wr U (Xk ts (i+1) 0)/\Below w.heap.size w wr) (fun i _=>l.length-(intOf i).toNat)
     case atStart=>exact⟨0,Nat.zero_le _,rfl,J,hb2⟩
     case round=>
      clear J hb2;obtain⟨j,hj,rfl,D,I⟩:=hrel;by_cases hjl:j<l.length
      ·obtain⟨t0,t1,t2⟩:=(ht.below I hg) i hil;rw[HXYZ.out] at t0 t1 t2;dsimp only at t0 t1 t2
       have hpr:=hp.below I hb;obtain⟨d0,d1⟩:=hpr x (by omega);obtain⟨d2,d3⟩:=hpr y hyl;obtain⟨d4,d5⟩:=hpr z hzl;obtain⟨d6,d7⟩:=hpr j hjl;have nA:Near (l.getD x (0,0)).1 (l.getD x (0,0)).2:=HN.out x (by omega);have nB:Near (l.getD y (0,0)).1 (l.getD y (0,0)).2:=HN.out y hyl;have nC:Near (l.getD z (0,0)).1 (l.getD z (0,0)).2:=HN.out z hzl;have nD:Near (l.getD j (0,0)).1 (l.getD j (0,0)).2:=HN.out j hjl;have CC:=fun W=>Zqe _ _ _ _ _ _ _ _ W nA nB nC nD
       have hle:sg (Zk (l.getD x (0,0)).1 (l.getD x (0,0)).2 (l.getD y (0,0)).1 (l.getD y (0,0)).2 (l.getD z (0,0)).1 (l.getD z (0,0)).2)*sg (Zan (l.getD x (0,0)).1 (l.getD x (0,0)).2 (l.getD y (0,0)).1 (l.getD y (0,0)).2 (l.getD z (0,0)).1 (l.getD z (0,0)).2 (l.getD j (0,0)).1 (l.getD j (0,0)).2)<=0:=Z23 (a:=Za l x) (b:=Za l y) (c:=Za l z) (d:=Za l j) HSD.out (HCC.out j hjl);have gr:b<wr.heap.size:=L3 hb I.size;have gtr:gt<wr.heap.size:=L3 hg I.size;clear nA nB nC nD hpr;generalize sg (Zk (l.getD x (0,0)).1 (l.getD x (0,0)).2 (l.getD y (0,0)).1 (l.getD y (0,0)).2 (l.getD z (0,0)).1 (l.getD z (0,0)).2)*sg (Zan (l.getD x (0,0)).1 (l.getD x (0,0)).2 (l.getD y (0,0)).1 (l.getD y (0,0)).2 (l.getD z (0,0)).1 (l.getD z (0,0)).2 (l.getD j (0,0)).1 (l.getD j (0,0)).2)=Q at *
       generalize (l.getD x (0,0)).1=ax at *
       generalize (l.getD x (0,0)).2=ay at *
       generalize (l.getD y (0,0)).1=bx at *
       generalize (l.getD y (0,0)).2=by2 at *
       generalize (l.getD z (0,0)).1=cx at *
       generalize (l.getD z (0,0)).2=cy at *
       generalize (l.getD j (0,0)).1=dx at *
       generalize (l.getD j (0,0)).2=dy at *
       have z0:(0:Int)<=(x:Int):=by omega
       have z1:(x:Int)<(l.length:Int):=by omega
       have z2:(0:Int)<=(y:Int):=by omega
       have z3:(y:Int)<(l.length:Int):=by omega
       have z4:(0:Int)<=(z:Int):=by omega
       have z5:(z:Int)<(l.length:Int):=by omega
       have z6:(0:Int)<=(j:Int):=by omega
       have z7:(j:Int)<(l.length:Int):=by omega
       have z8:IntKind.i64.wrap ((j:Int)+1)=(j:Int)+1:=Zd (by omega) (by omega);have z9:decide (0<Q)=false:=decide_eq_false (by omega);go_wp2_with fail
       go_region_held3 (fun w'=>Below wr.heap.size wr w'/\∀ b o,b<wr.heap.size->w'.cell? ⟨b,o,none⟩=wr.cell? ⟨b,o,none⟩) (first|exact Yw _|exact Yx (by assumption) O)
        (first|(go_at_call 88;refine (CC _).mono ?_;rintro e w' ⟨rfl,O⟩))
       rename_i hSS;have hbr2:=I.trans (hSS.1.mono I.size);have J:=D.below hSS.1;clear hSS O CC d0 d1 d2 d3 d4 d5 d6 d7 t0 t1 t2 D;go_wp2
       go_roundw;case rel=>exact⟨j+1,by omega,by go_num,J,hbr2⟩
       case measure=>simp[intOf];omega
      ·go_wp2
       go_roundw;case rel=>exact⟨i+1,by omega,by go_num,D,I⟩
       case measure=>simp[intOf];omega
   ·have hie:i=ts.length:=by omega
    have J:GoneAt wr U (Xk ts ts.length 0):=by rw[<-hie];exact D
    clear D hie;go_wp2
    go_meet;case rel=>exact⟨J,I⟩
 case rest=>
  as_aux_lemma=>
  obtain⟨D,hbx⟩:=hcut;clear hG3 hbw3;generalize wc=V at *
  have RM:=Z2u b off cap l V hl HN.out (L3 hb hbx.size) (hp.below hbx hb);go_upto_block 6 with (go_at_call 94;refine RM.mono ?_;rintro e w4 ⟨B,rfl,hD,hBV,hb4⟩)
  have hG4:=D.below hb4;have hbw4:=hbx.trans (hb4.mono hbx.size);have hnx:∀ a,a<l.length->∃ v,w4.cell? ⟨B,a,none⟩=some (iv v)/\∀ c:Nat,c<l.length->(v=(c:Int)↔Zbb l a c):=by
   intro a ha;obtain⟨cur,h1,h2,h3⟩:=hD.at_;obtain⟨v,e,s⟩:=h3 a ha;refine⟨v,(Ys h1 a).trans e,fun c hc=>?_⟩;rcases s with ⟨j,hj,ev,hr⟩|⟨ev,hr⟩
   ·constructor
    ·intro e';have:j=c:=by omega
     subst this;exact hr
    ·intro hr';have:=FO.out.uniq a j c ha hj hc hr hr';omega
   ·exact⟨fun e'=>by omega,fun h=>absurd h (hr c hc)⟩
  have hgo:∀ a c:Nat,a<l.length->c<l.length->w4.cell? ⟨U,a*60+c,none⟩=some (.bool (Xk ts ts.length 0 a c)):=fun a c ha hc=>(hG4.cell (by omega) (by omega)).1
  have HNX:Hid (∀ a,a<l.length->∃ v,w4.cell? ⟨B,a,none⟩=some (iv v)/\∀ c:Nat,c<l.length->(v=(c:Int)↔Zbb l a c)):=hnx;have HGO:Hid (∀ a c:Nat,a<l.length->c<l.length->w4.cell? ⟨U,a*60+c,none⟩=some (.bool (Xk ts ts.length 0 a c))):=hgo;clear RM D hbx hD hBV hb4 hG4 hnx hgo;go_wp2_with fail
  go_loopw [14] (fun s14 wr=>∃ a:Nat,a<=l.length/\s14=int i64 a/\∃ n,wr=w4.drewN n) (fun i _=>l.length-(intOf i).toNat)
  case atStart=>exact⟨0,Nat.zero_le _,rfl,0,rfl⟩
  case round=>
   obtain⟨a,ha,rfl,n0,rfl⟩:=hrel;by_cases hal:a<l.length
   ·have y0:(0:Int)<=(a:Int):=by omega
    have y1:(a:Int)<(l.length:Int):=by omega
    have y2:(a:Int)<60:=by omega
    have y3:IntKind.i64.wrap ((a:Int)+1)=(a:Int)+1:=Zd (by omega) (by omega);go_wp2_with fail
    go_loopw [15] (fun s15 wr=>∃ c:Nat,c<=l.length/\s15=int i64 c/\∃ n,wr=w4.drewN n) (fun i _=>l.length-(intOf i).toNat)
    case atStart=>exact⟨0,Nat.zero_le _,rfl,_,rfl⟩
    case round=>
     obtain⟨c,hc,rfl,n1,rfl⟩:=hrel;by_cases hcl:c<l.length
     ·obtain⟨v,c0,Y⟩:=HNX.out a hal;obtain⟨u,c1,Z⟩:=HNX.out c hcl;have g0:=HGO.out a c hal hcl;have g1:=HGO.out c a hcl hal;have q0:=Zsk ts a c;have q1:=Zsk ts c a;have R1:=FO.out.rim a c hal hcl;have R2:=FO.out.rim c a hcl hal;have R3:=FO.out.mate a c hal hcl;have v1:=Y c hcl;have u1:=Z a hal;clear Y Z;generalize Xk ts ts.length 0 a c=ga at *
      generalize Xk ts ts.length 0 c a=gb at *
      have z0:(0:Int)<=(c:Int):=by omega
      have z1:(c:Int)<(l.length:Int):=by omega
      have z2:(c:Int)<60:=by omega
      have z3:IntKind.i64.wrap ((c:Int)+1)=(c:Int)+1:=Zd (by omega) (by omega);by_cases Y:v=(c:Int)
      ·have hr:=R1 (v1.1 Y);have ega:ga=true:=q0.2 hr.1;have egb:gb=false:=by
        cases gb with
        | false=>rfl
        | true=>exact absurd (q1.1 rfl) hr.2
       subst ega egb Y;clear q0 q1 R1 R2 R3 v1 u1 hr;go_wp2_with fail
       go_quiet (fail);go_wp2
       go_roundw;case rel=>exact⟨c+1,by omega,by go_num,_,by first|rfl|simp[World.drewN_drewN]⟩
       case measure=>simp[intOf];omega
      ·have ev:(v == (c:Int))=false:=beq_eq_false_iff_ne.2 Y;by_cases Z:u=(a:Int)
       ·have eu:(u != (a:Int))=false:=by rw[Z];simp
        clear q0 q1 R1 R2 R3 v1 u1 Y Z;go_wp2_with fail
        go_quiet (fail);go_wp2
        go_roundw;case rel=>exact⟨c+1,by omega,by go_num,_,by first|rfl|simp[World.drewN_drewN]⟩
        case measure=>simp[intOf];omega
       ·have eu:(u != (a:Int))=true:=by simpa using Z
        have hm:=R3 (fun h=>Y (v1.2 h)) (fun h=>Z (u1.2 h));have eg:ga=gb:=by
         cases ga <;> cases gb
         ·rfl
         ·exact absurd (q0.2 (hm.2 (q1.1 rfl))) (by simp)
         ·exact absurd (q1.2 (hm.1 (q0.1 rfl))) (by simp)
         ·rfl
        subst eg;have en:(ga != ga)=false:=by simp
        clear q0 q1 R1 R2 R3 v1 u1 Y Z hm;go_wp2_with fail
        go_quiet (fail);go_wp2
        go_roundw;case rel=>exact⟨c+1,by omega,by go_num,_,by first|rfl|simp[World.drewN_drewN]⟩
        case measure=>simp[intOf];omega
     ·go_wp2
      go_roundw;case rel=>exact⟨a+1,by omega,by go_num,_,rfl⟩
      case measure=>simp[intOf];omega
   ·go_wp2
    go_ret;exact⟨rfl,Zt hbw4⟩
end Go.Proofs.YtgpapegpdfonpaaGreatDoor
