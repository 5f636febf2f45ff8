/- Part. -/
import Derived.Test.YtgpapegpdfonpaaGreatDoorMathN
import Derived.Lib.SliceRun
import Derived.Deep.LoopGhost
import Derived.Deep.Draws
import Derived.Deep.RegionLaw
import Derived.BigRegion
import Derived.Deep.CutBlock
import Derived.Shelf.RegionOpenPlain
set_option linter.unusedVariables false
set_option linter.unusedSimpArgs false
set_option maxHeartbeats 16000000
set_option maxRecDepth 100000
namespace Go.Proofs.YtgpapegpdfonpaaGreatDoor
open Go.RowKit Go.Proofs.Tryz
attribute [local go_sem ↓] Go.wp_at_zero Go.wp_at_succ
theorem Zgs (w:World)(K j:Nat)(v:Value)(h:w.cell? ⟨K,j,none⟩=some v):(Instr.loadAt 41 (.pointer (some ⟨K,j,none⟩))).run prog w= .ok v w:=by go_simp
theorem Zm9 (w:World)(K j:Nat)(v:Value)(h:w.cell? ⟨K,j,none⟩=some v):(Instr.loadAt 26 (.pointer (some ⟨K,j,none⟩))).run prog w= .ok v w:=by go_simp
theorem Zna (w:World)(x y:Int):(Instr.buildSlice 41 1 #[(0,pv x y)]).run prog w= .ok (.slice (some ⟨w.heap.size,0,none⟩) 1 1) (w.alloc (.cells #[.int .i64 x,.int .i64 y] 37)):=by go_simp
theorem Zr6 (w:World)(x:Int):(Instr.buildSlice 26 1 #[(0,.int .i64 x)]).run prog w= .ok (.slice (some ⟨w.heap.size,0,none⟩) 1 1) (w.alloc (.cells #[.int .i64 x] 3)):=by go_simp
theorem Znb (w:World)(K j:Nat)(v:Value)(a:Option Addr)(n c:Nat)(h:w.cell? ⟨K,j,none⟩=some v)(e:w.frozen? ⟨K,j,none⟩=false):(Instr.storeAt 41 (.pointer (some ⟨K,j,none⟩)) (.slice a n c)).run prog w= .ok () (w.setCell ⟨K,j,none⟩ (.slice a n c)):=by go_simp
theorem Znc (w:World)(K j:Nat)(v:Value)(a:Option Addr)(n c:Nat)(h:w.cell? ⟨K,j,none⟩=some v)(e:w.frozen? ⟨K,j,none⟩=false):(Instr.storeAt 26 (.pointer (some ⟨K,j,none⟩)) (.slice a n c)).run prog w= .ok () (w.setCell ⟨K,j,none⟩ (.slice a n c)):=by go_simp
theorem Zda (w:World)(o:Obj):(w.alloc o).heap[w.heap.size]? =some o:=by
 show (w.heap.push o)[w.heap.size]? =some o
 simp
def Zcp (T:TypeId)(w w':World):Prop:=∀ (k:Nat) (e:Array Value),w.heap[k]? =some (.cells e T (0,0))->w'.heap[k]? =some (.cells e T (0,0))
theorem Zcp.own {T:TypeId}{w w':World}{e s n:Nat}{v:Value}{xs:List Value}(h:Zcp T w w')(D:w.ownsRow e T s v n xs):w'.ownsRow e T s v n xs:=by
 refine⟨D.1,?_⟩;rcases D.2 with J|⟨g,cap,I,rfl,Y,O,r⟩
 ·exact .inl J
 ·exact .inr ⟨g,cap,I,rfl,Y,h g I O,r⟩
theorem Zh5 (T:TypeId)(w:World)(o:Obj):Zcp T w (w.alloc o):=fun k e h=>by
 rw[Below.heap_alloc w o k (Zh h)];exact h
theorem Z1z {T T':TypeId}{w w':World}{g:Nat}{c:Array Value}(I:w.grownBy w' (some g))(D:w.heap[g]? =some (.cells c T' (0,0)))(J:T≠T'):Zcp T w w':=fun k O h=>by
 rw[I.block k (Zh h) (fun e=>by cases e;exact X7 h D J rfl)];exact h
theorem Z10 {T:TypeId}{w w':World}(D:w.grownBy w' none):Zcp T w w':=fun k I h=>by
 rw[D.block k (Zh h) (fun e=>by cases e)];exact h
theorem Zat {T T':TypeId}{w:World}{m i:Nat}{c:Array Value}{v:Value}(e:w.heap[m]? =some (.cells c T' (0,0)))(D:T≠T'):Zcp T w (w.setCell ⟨m,i,none⟩ v):=fun k I h=>by
 rw[Below.heap_setCell _ _ _ _ (X7 h e D)];exact h
theorem Zkc {T T':TypeId}{w w':World}{g:Nat}{c:Array Value}(h:Chg (fun k=>k=g) w w')(D:w.heap[g]? =some (.cells c T' (0,0)))(I:T≠T'):Zcp T w w':=fun k J e=>by
 rw[h.far k (Zh e) (X7 e D I)];exact e
def Fap (V:World)(T:TypeId)(s:Nat)(v:Value)(n:Nat)(xs news:List Value)(bB bA:Bool)(xB xA:Value)(w:World):Prop:=
 (bA=true->∃ g cap,xA= .slice (some ⟨g,0,none⟩) (n+1) cap/\w.ownsRow 0 T s xA (n+1) (xs ++ news)/\(v.ownBlock=some g\/V.heap.size<=g))/\
 (bA=false->w.ownsRow 0 T s v n xs/\(bB=true->∃ g,xB= .slice (some ⟨g,0,none⟩) 1 1/\V.heap.size<=g/\w.heap[g]? =some (.cells news.toArray T (0,0))))
section
variable {V w w':World} {T:TypeId} {s n:Nat} {v xB xA:Value} {xs news:List Value} {bB bA:Bool}
theorem Fap.keep (h:Fap V T s v n xs news bB bA xB xA w)(k:Zcp T w w'):Fap V T s v n xs news bB bA xB xA w':=by
 refine⟨fun e=>?_,fun e=>?_⟩
 ·obtain⟨g,cap,I,D,Z⟩:=h.1 e;exact⟨g,cap,I,k.own D,Z⟩
 ·obtain⟨I,D⟩:=h.2 e;refine⟨k.own I,fun Y=>?_⟩;obtain⟨g,O,g2,J⟩:=D Y;exact⟨g,O,g2,k g _ J⟩
theorem Fap.build (h:Fap V T s v n xs news false false xB xA w)(D:V.heap.size<=w.heap.size):Fap V T s v n xs news true false (.slice (some ⟨w.heap.size,0,none⟩) 1 1) xA (w.alloc (.cells news.toArray T)):=by
 refine⟨(fun e=>by cases e),fun _=>⟨(Zh5 T w _).own (h.2 rfl).1,fun _=>⟨w.heap.size,rfl,D,Zda _ _⟩⟩⟩
theorem Fap.append {P:Program} {t ty:TypeId} {i:TypeInfo} {z:Value} {I:Nat} (h:Fap V T s v n xs news true false xB xA w) (ht:P.underlying t=some (.slice T)) (hi:P.info? T=some i) (hz:i.zero=some z)
  (hsize:i.size=s) (hby:i.bytes=I) (hzs:z.cells.size=s) (hsz:0<s) (hl:news.length=s) (h1:∀ u∈news,u.oneCell'=true) (hn:n<=1000) (hbb:I<=100) (hV:V.heap.size<=w.heap.size) :
  ∃ g cap w',(Builtin.append_ #[t,t] ty #[v,xB]).run P w= .ok (.slice (some ⟨g,0,none⟩) (n+1) cap) w'/\Fap V T s v n xs news true true xB (.slice (some ⟨g,0,none⟩) (n+1) cap) w'/\
   (∀ T',T'≠T->Zcp T' w w')/\Chg (fun k=>v.ownBlock=some k) w w':=by
 obtain⟨Y,hB⟩:=h.2 rfl;obtain⟨Z,rfl,hg0,hb0⟩:=hB rfl;have hnews:∀ j u,news[j]? =some u->w.cell? ((⟨Z,0,none⟩:Addr).add j)=some u:=fun j u hu=>by
  rw[Addr.add_lit,Nat.zero_add];simp[World.cell?,hb0,hu]
 obtain⟨g,cap,w',hr,h2,J,h4⟩:=Zhk (P:=P) w t ty 0 T i z s I ht hi hz hsize hby hzs hsz v n xs Y ⟨Z,0,none⟩ 1 1 news (by omega) hnews h1 (by omega) (by simp only[maxLen];omega)
  (by
    have : (n + 1) * I ≤ 1001 * 100 := Nat.mul_le_mul (by omega) hbb
    omega) (Nat.zero_le _) w.heap.size rfl
 refine⟨g,cap,w',hr,⟨fun _=>⟨g,cap,rfl,h2,?_⟩,fun e=>by cases e⟩,?_,?_⟩
 ·rcases J with ⟨e,_⟩|⟨e,_⟩
  ·exact .inl e
  ·exact .inr (by omega)
 ·intro T' hT';rcases J with ⟨e,D⟩|⟨e,D⟩
  ·obtain⟨cur,hc⟩:=Yy Y e;exact Z1z D hc hT'
  ·exact Z10 D
 ·rcases J with ⟨e,D⟩|⟨e,D⟩
  ·exact Chg.of_grown D fun k O=>by cases O;exact e
  ·exact Chg.of_grown D fun k O=>by cases O
end
end Go.Proofs.YtgpapegpdfonpaaGreatDoor
namespace Go.Proofs.YtgpapegpdfonpaaGreatDoor
open Go.RowKit
attribute [local go_sem ↓] Go.wp_at_zero Go.wp_at_succ
theorem Zij {g:Nat}{e:TypeId}:∀ (vs:List Value) (o:Nat) (w:World) (D:Array Value),w.heap[g]? =some (.cells D e (0,0))->o+vs.length<=D.size->
  (w.setCells g o vs).heap[g]? =some (.cells (D.toList.take o ++ vs ++ D.toList.drop (o+vs.length)).toArray e (0,0))
 | [],o,w,D,h,_=>by
  rw[World.setCells,h];simp
 | v :: r,o,w,D,h,hl=>by
  simp only[List.length_cons] at hl;have s:=heap_setCell_same w g o _ _ v h;rw[World.setCells,Zij r (o+1) _ _ s (by simp;omega)];congr 2;have O:o<D.toList.length:=by simp;omega
  have I:((D.setIfInBounds o v).toList.take (o+1))=D.toList.take o ++ [v]:=by
   rw[Array.toList_setIfInBounds,List.take_add_one,List.take_set_of_le (Nat.le_refl _),List.getElem?_set_self O];rfl
  have J:((D.setIfInBounds o v).toList.drop (o+1+r.length))=D.toList.drop (o+(r.length+1)):=by
   rw[Array.toList_setIfInBounds,List.drop_set_of_lt (by omega),show o+1+r.length=o+(r.length+1) by omega]
  show (((D.setIfInBounds o v).toList.take (o+1)) ++ r ++ ((D.setIfInBounds o v).toList.drop (o+1+r.length))).toArray=_
  rw[I,J];simp
theorem Zts {g k:Nat}(e:k≠g):∀ (vs:List Value) (o:Nat) (w:World),(w.setCells g o vs).heap[k]? =w.heap[k]?
 | [],_,_=>rfl
 | v :: r,o,w=>by rw[World.setCells,Zts e r,Below.heap_setCell _ _ _ _ e]
theorem Ztt {g:Nat}:∀ (vs:List Value) (o:Nat) (w:World),(w.setCells g o vs).os=w.os/\(w.setCells g o vs).tape=w.tape/\(w.setCells g o vs).output=w.output/\(w.setCells g o vs).heap.size=w.heap.size
 | [],_,_=>⟨rfl,rfl,rfl,rfl⟩
 | v :: r,o,w=>by
  obtain⟨I,e,J,D⟩:=Ztt (g:=g) r (o+1) (w.setCell ⟨g,o,none⟩ v);rw[World.setCells];exact⟨I,e,J,by rw[D];simp[World.setCell]⟩
theorem Ztu {g:Nat}(vs:List Value)(o:Nat)(w:World):Chg (fun k=>k=g) w (w.setCells g o vs):=by
 obtain⟨I,e,O,D⟩:=Ztt (g:=g) vs o w;exact⟨I,e,O,Nat.le_of_eq D.symm,fun k _ J=>Zts J vs o w⟩
theorem Zn5 {w w':World}{a:Option Addr}{l:List Pt}(h:Z0 w a l)(I:Below w.heap.size w w'):Z0 w' a l:=by
 rcases h with h|⟨b,J,e,D,O⟩
 ·exact .inl h
 ·exact .inr ⟨b,J,e,L3 D I.size,O.below I D⟩
theorem Z6i (l:List Pt)(i:Nat):Zg (l.take i)=(Zg l).take (i*2):=by
 by_cases h:i<=l.length
 ·have e:Zg l=Zg (l.take i) ++ Zg (l.drop i):=by rw[<-Zel,List.take_append_drop]
  rw[e,List.take_left' (by rw[Zbw,List.length_take,Nat.min_eq_left h])]
 ·rw[List.take_of_length_le (by omega),List.take_of_length_le (by rw[Zbw];omega)]
theorem Z6j (l:List Pt)(i:Nat):Zg (l.drop i)=(Zg l).drop (i*2):=by
 by_cases h:i<=l.length
 ·have e:Zg l=Zg (l.take i) ++ Zg (l.drop i):=by rw[<-Zel,List.take_append_drop]
  rw[e,List.drop_left' (by rw[Zbw,List.length_take,Nat.min_eq_left h])]
 ·rw[List.drop_of_length_le (by omega),List.drop_of_length_le (by rw[Zbw];omega)];rfl
theorem Z6k (l:List Pt)(i:Nat):Zg (l.eraseIdx i)=(Zg l).take (i*2) ++ (Zg l).drop ((i+1)*2):=by
 rw[List.eraseIdx_eq_take_drop_succ,Zel,Z6i,Z6j]
theorem Z6l (w:World)(l:List Pt):Zp (w.alloc (.cells (Zg l).toArray 37)) w.heap.size 0 l:=by
 intro j D;obtain⟨J,I⟩:=Zhi l j D;have e:l.getD j (0,0)=l[j]:=by simp[D]
 have O:=Zbw l;rw[Nat.zero_add];rw[World.cell?_alloc_at _ _ _ _ (by simp),World.cell?_alloc_at _ _ _ _ (by simp)];rw[List.getElem?_toArray,List.getElem?_toArray,J,I];exact⟨rfl,rfl⟩
theorem Zn6 (w:World)(l:List Pt)(Y:l.length<=60)(hn:Zv l)(hnd:l.Nodup):∃ ts,Xr l ts/\ts.length<=4000:=by
 by_cases O:l=[]
 ·subst O;exact⟨[],⟨[],⟨List.Perm.refl _,(fun i j _ h=>by cases h)⟩,.inl ⟨(fun j _ h=>by cases h),rfl⟩⟩,by simp⟩
 ·obtain⟨n,hn'⟩:∃ n,l.length=n+1:=⟨l.length-1,by have:=List.length_pos_iff.2 O;omega⟩;generalize D:w.alloc (.cells (Zg l).toArray 37)=W;have e:w.heap.size<W.heap.size:=by rw[<-D];simp
  have hp:Zp W w.heap.size 0 l:=by rw[<-D];exact Z6l w l
  clear D;generalize w.heap.size=b at *
  obtain⟨_,w2,_,⟨g,is,_,_,J,Z,hns,_,hio⟩,_⟩:=Zhf b 0 l.length l n W hn' Y e hp [];obtain⟨_,w3,_,⟨B,_,hB2,hcB,_,I⟩,_⟩:=Zc2 (some ⟨b,0,none⟩) l.length l.length w2 [];have hW3:RowKit.Below W.heap.size W w3:=Z.trans (I.mono Z.size);have A:AskAt w3 B b 0 l.length l:=⟨hB2,L3 e hW3.size,hcB,hp.below hW3 e⟩;obtain⟨_,w4,_,⟨v,ts,_,_,hS,hlen,_⟩,_⟩:=Zm5 B b 0 l.length g l.length l is w3 Y hio hnd A hn (L3 J I.size) (hns.below I J) [];exact⟨ts,hS,hlen⟩
structure PRow (w:World)(m:Nat)(pts:List Pt)(nums:List Int)(ever:Nat)(vA vN:Value):Prop where
 blk:w.heap[m]? =some (.cells #[vA,vN,.int .i64 (ever:Int)] 101 (0,0))
 ownA:w.ownsRow 0 37 2 vA pts.length (Zg pts)
 ownN:w.ownsRow 0 3 1 vN nums.length (nums.map (.int .i64))
structure MOk (pts:List Pt)(nums:List Int)(ever:Nat):Prop where
 len:pts.length=nums.length
 le:pts.length<=60
 near:Zv pts
 nd:pts.Nodup
 inc:nums.Pairwise (· < ·)
 rng:∀ n∈nums,0<=n/\n<ever
section
variable {w w':World} {m:Nat} {pts:List Pt} {nums:List Int} {ever:Nat} {vA vN:Value}
theorem PRow.keep (h:PRow w m pts nums ever vA vN)(e:w'.heap[m]? =w.heap[m]?)(I:∀ g,vA.ownBlock=some g->w'.heap[g]? =w.heap[g]?)(D:∀ g,vN.ownBlock=some g->w'.heap[g]? =w.heap[g]?):PRow w' m pts nums ever vA vN:=
 ⟨by rw[e];exact h.blk,Z9 h.ownA I,Z9 h.ownN D⟩
theorem PRow.below (h:PRow w m pts nums ever vA vN)(e:Below w.heap.size w w'):PRow w' m pts nums ever vA vN:=
 h.keep (e.block _ (Zh h.blk)) (fun g D=>e.block g (Zx h.ownA D)) (fun g D=>e.block g (Zx h.ownN D))
theorem PRow.lt (h:PRow w m pts nums ever vA vN):m<w.heap.size:=Zh h.blk
theorem PRow.cells (h:PRow w m pts nums ever vA vN):w.cell? ⟨m,0,none⟩=some vA/\w.cell? ⟨m,1,none⟩=some vN/\w.cell? ⟨m,2,none⟩=some (.int .i64 (ever:Int))/\∀ j,w.frozen? ⟨m,j,none⟩=false:=by
 have e:=h.blk;simp[World.cell?,World.frozen?,e]
end
end Go.Proofs.YtgpapegpdfonpaaGreatDoor
namespace Go.Proofs.YtgpapegpdfonpaaGreatDoor
open Go.RowKit Go.Proofs.Tryz
open Go.Value(int)
open Go.IntKind(i64)
attribute [local go_sem ↓] Go.wp_at_zero Go.wp_at_succ
def Zik (l:List Pt)(p:Pt)(n:Int):Prop:=(∃ i:Nat,i<l.length/\Za l i=p/\n=i)\/((∀ i,i<l.length->Za l i≠p)/\n= -1)
theorem Ztv (a:Option Addr)(cap:Nat)(l:List Pt)(px py:Int)(w:World)(hl:l.length<=60)(hr:Z0 w a l) :
  Calls prog 171 #[.slice a l.length cap,.agg #[int i64 px,int i64 py]] w fun e w'=>∃ n,e= .returned (int i64 n)/\Zik l (px,py) n/\Below w.heap.size w w':=by
 go_enter func171,ntmps171;go_wp2
 have aa:=Zb w (.cells #[int i64 px,int i64 py] 37);have x0:(w.alloc (.cells #[int i64 px,int i64 py] 37)).cell? ⟨w.heap.size,0,none⟩=some (int i64 px):=by rw[World.cell?_alloc_at _ _ _ _ (by simp)];rfl
 have x1:(w.alloc (.cells #[int i64 px,int i64 py] 37)).cell? ⟨w.heap.size,1,none⟩=some (int i64 py):=by rw[World.cell?_alloc_at _ _ _ _ (by simp)];rfl
 have hs0:(w.alloc (.cells #[int i64 px,int i64 py] 37)).heap.size=w.heap.size+1:=by simp
 generalize w.alloc (.cells #[int i64 px,int i64 py] 37)=W at *
 have HRA:Hid (Z0 W a l):=Zn5 hr aa;have hxW:w.heap.size<W.heap.size:=by omega
 have HB0:Hid (Below w.heap.size w W):=aa;clear hr hs0 aa;generalize hBX:w.heap.size=BX at *
 go_loopw [8] (fun s8 wr=>∃ k:Nat,k<=l.length/\s8=int i64 k/\(∀ j,j<k->Za l j≠(px,py))/\Below W.heap.size W wr) (fun i _=>l.length-(intOf i).toNat)
 case atStart=>exact⟨0,Nat.zero_le _,rfl,fun j hj=>by omega,Below.refl _ _⟩
 case round=>
  obtain⟨k,hk,rfl,hno,I⟩:=hrel;have D:Hid (∀ j,j<k->Za l j≠(px,py)):=hno;clear hno;by_cases O:k<l.length
  ·rcases Zn5 HRA.out I with h|⟨b,off,rfl,hb,hp⟩
   ·rw[h] at O;simp at O
   obtain⟨c0,c1⟩:=hp k O;have q0:=(I.cell (p:=⟨BX,0,none⟩) hxW).trans x0;have q1:=(I.cell (p:=⟨BX,1,none⟩) hxW).trans x1;have y0:(0:Int)<=(k:Int):=by omega
   have y1:(k:Int)<(l.length:Int):=by omega
   have y4:IntKind.i64.wrap ((k:Int)+1)=(k:Int)+1:=Zd (by omega) (by omega);have J:Hid (Za l k=((l.getD k (0,0)).1,(l.getD k (0,0)).2)):=rfl;clear hp;generalize (l.getD k (0,0)).1=qx at *
   generalize (l.getD k (0,0)).2=qy at *
   by_cases e1:px=qx
   ·by_cases e2:py=qy
    ·subst e1 e2;have Z:Hid (Zik l (px,py) k):=.inl ⟨k,O,J.out,rfl⟩;clear D J;go_wp2_with fail
     go_quiet (fail);go_wp2
     go_ret;rw[hBX];exact⟨k,rfl,Z.out,Zt (HB0.out.trans (I.mono (by omega)))⟩
    ·have Y:Hid (∀ j,j<k+1->Za l j≠(px,py)):=fun j hj=>by
      by_cases e:j=k
      ·subst e;rw[J.out];intro h;exact e2 (Prod.mk.inj h).2.symm
      ·exact D.out j (by omega)
     clear D J;go_wp2_with fail
     go_quiet (fail);go_wp2
     go_roundw;case rel=>exact⟨k+1,by omega,by go_num,Y.out,Zt I⟩
     case measure=>simp[intOf];omega
   ·have Y:Hid (∀ j,j<k+1->Za l j≠(px,py)):=fun j hj=>by
     by_cases e:j=k
     ·subst e;rw[J.out];intro h;exact e1 (Prod.mk.inj h).1.symm
     ·exact D.out j (by omega)
    clear D J;go_wp2_with fail
    go_quiet (fail);go_wp2
    go_roundw;case rel=>exact⟨k+1,by omega,by go_num,Y.out,Zt I⟩
    case measure=>simp[intOf];omega
  ·have ek:k=l.length:=by omega
   subst ek;have Z:Hid (Zik l (px,py) (-1)):=.inr ⟨D.out,rfl⟩;clear D;go_wp2
   go_ret;rw[hBX];exact⟨-1,rfl,Z.out,HB0.out.trans (I.mono (by omega))⟩
theorem Zik.dec {l:List Pt}{p:Pt}{n:Int}(h:Zik l p n):decide (0<=n)=decide (p∈l):=by
 rcases h with ⟨i,hi,e,rfl⟩|⟨I,rfl⟩
 ·have:p∈l:=by rw[<-e];exact Zi8 hi
  rw[decide_eq_true this,decide_eq_true (by omega)]
 ·have:p ∉ l:=fun D=>by
   obtain⟨i,hi,e⟩:=List.getElem_of_mem D;exact I i hi (by unfold Za px py;simp[hi,e])
  rw[decide_eq_false this];rfl
theorem Z6m (a:Option Addr)(cap:Nat)(l:List Pt)(px py:Int)(w:World)(Z:l.length<=60)(J:Z0 w a l) :
  Calls prog 147 #[.slice a l.length cap,.agg #[int i64 px,int i64 py]] w fun e w'=>e= .returned (.bool (decide ((px,py)∈l)))/\Below w.heap.size w w':=by
 have D:=Zb w (.cells #[int i64 px,int i64 py] 37);have O:Z0 (w.alloc (.cells #[int i64 px,int i64 py] 37)) a l:=Zn5 J D;go_enter func147,ntmps147;go_wp2_with (go_at_call 171;refine (Ztv _ _ l _ _ _ Z O).mono ?_;rintro e w' ⟨n,rfl,I,Y⟩)
 go_ret;exact⟨by rw[<-I.dec];rfl,D.trans (Y.mono D.size)⟩
theorem Z6n (g cap:Nat)(is:List Nat)(n:Nat)(w:World)(hl:is.length<=1000)(Z:g<w.heap.size)(I:Xc w g 0 is)(i:Nat)(hi:i<is.length)(O:is.getD i 0=n)(D:∀ j,j<i->is.getD j 0≠n) :
  Calls prog 188 #[.slice (some ⟨g,0,none⟩) is.length cap,int i64 (n:Int)] w fun e w'=>e= .returned (int i64 (i:Int))/\w'=w:=by
 go_enter func188,ntmps188;go_wp2
 go_loopw [8] (fun s8 wr=>∃ k:Nat,k<=i/\s8=int i64 k/\wr=w) (fun s _=>is.length-(intOf s).toNat)
 case atStart=>exact⟨0,Nat.zero_le _,rfl,rfl⟩
 case round=>
  obtain⟨k,hk,rfl,rfl⟩:=hrel;have c0:=I k (by omega);rw[Nat.zero_add] at c0;have y0:(0:Int)<=(k:Int):=by omega
  have Y:(k:Int)<(is.length:Int):=by omega
  have y4:IntKind.i64.wrap ((k:Int)+1)=(k:Int)+1:=Zd (by omega) (by omega);by_cases e:k=i
  ·subst e;rw[O] at c0;have J:((n:Int) == (n:Int))=true:=by simp
   clear D I;go_wp2
   go_ret;exact⟨rfl,rfl⟩
  ·have hne:=D k (by omega);have J:((n:Int) == ((is.getD k 0:Nat):Int))=false:=beq_eq_false_iff_ne.2 (by omega);generalize is.getD k 0=v at *
   clear D I;go_wp2
   go_roundw;case rel=>exact⟨k+1,by omega,by go_num,by first|rfl|trivial⟩
   case measure=>simp[intOf];omega
theorem Z6o (x:Int)(w:World):Calls prog 113 #[int i64 x] w fun e w'=>e= .returned (.bool false)/\w'=w:=by
 go_enter func113,ntmps113;go_wp2
 go_ret;exact⟨by simp,rfl⟩
theorem Zil (x:Int)(w:World):Calls prog 173 #[int i64 x] w fun e w'=>e= .returned (.bool false)/\w'=w:=by
 go_enter func173,ntmps173;go_wp2
 go_ret;exact⟨by simp,rfl⟩
theorem Zim (x y:Int)(w:World):Calls prog 172 #[int i64 x,int i64 y] w fun e w'=>e= .returned (.bool (decide (x<y)))/\w'=w:=by
 go_enter func172,ntmps172;go_wp2_with (go_at_call 113;refine (Z6o _ _).mono ?_;rintro e w' ⟨rfl,rfl⟩)
 go_ret;exact⟨by simp,rfl⟩
theorem Ztw (a:Option Addr)(c:Nat)(D:List Int)(x:Int)(w:World)(hl:D.length<=60)(hn:Zy w a D)(hinc:D.Pairwise (· < ·)) :
  Calls prog 148 #[.slice a D.length c,int i64 x] w fun e w'=>∃ i:Nat,e= .returned (.tuple #[int i64 (i:Int),.bool (decide (x∈D))])/\(x∈D->i<D.length/\D.getD i 0=x)/\Below w.heap.size w w':=by
 have S:Hid (∀ a b,a<=b->b<D.length->D.getD a 0<=D.getD b 0):=fun i j hij hj=>by
  rcases Nat.lt_or_ge i j with h|h
  ·have:=List.pairwise_iff_getElem.1 hinc i j (by omega) hj h;have e1:D.getD i 0=D[i]:=by simp[show i<D.length by omega]
   have e2:D.getD j 0=D[j]:=by simp[hj]
   omega
  ·have:i=j:=by omega
   subst this;exact Int.le_refl _
 have HN:Hid (Zy w a D):=hn;clear hinc hn;go_enter func148,ntmps148;go_wp2
 go_loopg [7,8] D.length (fun g s7 s8 wr=>∃ lo hi q:Nat,s7=int i64 lo/\s8=int i64 hi/\lo<=hi/\hi<=D.length/\hi-lo<=g/\wr=w.drewN q/\(∀ t,t<lo->D.getD t 0<x)/\(∀ t,hi<=t->t<D.length->x<=D.getD t 0))
 case atStart=>exact⟨0,D.length,0,rfl,rfl,Nat.zero_le _,Nat.le_refl _,by omega,rfl,fun t ht=>absurd ht (Nat.not_lt_zero _),fun t h1 h2=>by omega⟩
 case round=>
  obtain⟨lo,hi,q,rfl,rfl,hlh,hin,hg,rfl,h1,h2⟩:=hrel;have I:Hid ((∀ t,t<lo->D.getD t 0<x)/\(∀ t,hi<=t->t<D.length->x<=D.getD t 0)):=⟨h1,h2⟩;clear h1 h2;by_cases hlt:lo<hi
  ·obtain⟨G,rfl,cm⟩:=HN.out ((lo+hi) / 2) (by omega);generalize hy:D.getD ((lo+hi) / 2) 0=y at cm;have Y:Hid (D.getD ((lo+hi) / 2) 0=y):=hy;clear hy;by_cases hyx:y<x
   ·go_wp2_with (first|(go_at_call 172;refine (Zim _ _ _).mono ?_;rintro e w' ⟨rfl,rfl⟩)|(go_at_call 173;refine (Zil _ _).mono ?_;rintro e w' ⟨rfl,rfl⟩))
    go_roundg (hi-((lo+hi) / 2+1))
    case measure=>omega
    case rel=>
     refine⟨(lo+hi) / 2+1,hi,_,by rw[show ((lo:Int)+(hi:Int)) / 2+1=(((lo+hi) / 2+1:Nat):Int) by omega],rfl,by omega,hin,Nat.le_refl _,rfl,fun t ht=>?_,I.out.2⟩;have:=S.out t ((lo+hi) / 2) (by omega) (by omega);rw[Y.out] at this;omega
   ·go_wp2_with (first|(go_at_call 172;refine (Zim _ _ _).mono ?_;rintro e w' ⟨rfl,rfl⟩)|(go_at_call 173;refine (Zil _ _).mono ?_;rintro e w' ⟨rfl,rfl⟩))
    go_roundg ((lo+hi) / 2-lo)
    case measure=>omega
    case rel=>
     refine⟨lo,(lo+hi) / 2,_,rfl,by rw[show ((lo:Int)+(hi:Int)) / 2=(((lo+hi) / 2:Nat):Int) by omega],by omega,by omega,Nat.le_refl _,rfl,I.out.1,fun t ht htn=>?_⟩;have:=S.out ((lo+hi) / 2) t ht htn;rw[Y.out] at this;omega
  ·have:hi=lo:=by omega
   subst this;have hmem:x∈D->hi<D.length/\D.getD hi 0=x:=fun O=>by
    obtain⟨j,hj,e⟩:=List.getElem_of_mem O;have ej:D.getD j 0=x:=by simp[hj,e]
    have j1:hi<=j:=by
     rcases Nat.lt_or_ge j hi with h|h
     ·have:=I.out.1 j h;omega
     ·exact h
    have j2:=I.out.2 hi (Nat.le_refl _) (by omega);have j3:=S.out hi j j1 hj;exact⟨by omega,by omega⟩
   have Z:Hid (x∈D->hi<D.length/\D.getD hi 0=x):=hmem;clear hmem;by_cases hn:hi<D.length
   ·obtain⟨G,rfl,cl⟩:=HN.out hi hn;generalize hy:D.getD hi 0=y at cl;have Y:Hid (D.getD hi 0=y):=hy;clear hy;by_cases hyx:y=x
    ·have J:Hid (x∈D):=by unfold Hid;rw[<-hyx,<-Y.out];exact Zie hn
     go_wp2_with (first|(go_at_call 172;refine (Zim _ _ _).mono ?_;rintro e w' ⟨rfl,rfl⟩)|(go_at_call 173;refine (Zil _ _).mono ?_;rintro e w' ⟨rfl,rfl⟩))
     go_ret2;refine⟨hi,?_,Z.out,Zt (Below.refl _ _)⟩;rw[decide_eq_true J.out];first|rfl|simp[*]
    ·have J:Hid (x ∉ D):=fun O=>by
      have:=Z.out O;rw[Y.out] at this;exact hyx this.2
     go_wp2_with (first|(go_at_call 172;refine (Zim _ _ _).mono ?_;rintro e w' ⟨rfl,rfl⟩)|(go_at_call 173;refine (Zil _ _).mono ?_;rintro e w' ⟨rfl,rfl⟩))
     go_ret2;refine⟨hi,?_,Z.out,Zt (Below.refl _ _)⟩;rw[decide_eq_false J.out];first|rfl|simp[*]
   ·have J:Hid (x ∉ D):=fun O=>by
     have:=Z.out O;omega
    go_wp2_with (first|(go_at_call 172;refine (Zim _ _ _).mono ?_;rintro e w' ⟨rfl,rfl⟩)|(go_at_call 173;refine (Zil _ _).mono ?_;rintro e w' ⟨rfl,rfl⟩))
    go_ret2;refine⟨hi,?_,Z.out,Zt (Below.refl _ _)⟩;rw[decide_eq_false J.out];first|rfl|simp[*]
theorem Zkw (D J I O:Int)(w:World)(Z:Near D J)(Y:Near I O) :
  Calls prog 130 #[.agg #[int i64 D,int i64 J],.agg #[int i64 I,int i64 O]] w fun e w'=>e= .returned (int i64 (dst (I,O) (D,J)))/\Below w.heap.size w w':=by
 have HN:Hid (Near D J/\Near I O):=⟨Z,Y⟩;have s1: -16000<=I-D/\I-D<=16000/\ -16000<=O-J/\O-J<=16000:=by
  obtain⟨a1,a2,a3,a4⟩:=Z;obtain⟨b1,b2,b3,b4⟩:=Y;omega
 have aa:=Yq w (.cells #[int i64 D,int i64 J] 37) (.cells #[int i64 I,int i64 O] 37);clear Z Y;go_enter func130,ntmps130
 go_wp2_with (first
   | (go_at_call 84; refine (Zg9 _ _ _ _ _ HN.out.1 HN.out.2).mono ?_; rintro e w1 ⟨rfl, hb1⟩)
   | (go_at_call 86; refine (Zok _ _ _ s1.1 s1.2.1 s1.2.2.1 s1.2.2.2).mono ?_; rintro e w2 ⟨rfl, hb2⟩))
 go_ret;have ab:=aa.trans (hb1.mono aa.size);exact⟨rfl,ab.trans (hb2.mono ab.size)⟩
theorem Zkx (a b:Int)(w:World) :
  Calls prog 189 #[int i64 a,int i64 b] w fun e w'=>e= .returned (.slice (some ⟨w.heap.size,0,none⟩) 2 2)/\w'.ownsRow w.heap.size 3 1 (.slice (some ⟨w.heap.size,0,none⟩) 2 2) 2 [int i64 (min a b),int i64 (max a b)]/\Below w.heap.size w w':=by
 go_enter func189,ntmps189;go_wp2
 go_ret;exact⟨rfl,⟨rfl,.inr ⟨w.heap.size,2,_,rfl,Nat.le_refl _,Zda _ _,by omega,by decide,rfl,rfl⟩⟩,Zb _ _⟩
theorem Zg4 (w:World)(K:Nat):(Instr.fieldAt 99 (.pointer (some ⟨K,0,none⟩)) 0).run prog w= .ok (.pointer (some ⟨K,0,none⟩)) w:=by go_simp
theorem Zky (w:World)(K:Nat):(Instr.fieldAt 99 (.pointer (some ⟨K,0,none⟩)) 1).run prog w= .ok (.pointer (some ⟨K,1,none⟩)) w:=by go_simp
theorem Z6p (w:World)(K:Nat):(Instr.fieldAt 99 (.pointer (some ⟨K,0,none⟩)) 2).run prog w= .ok (.pointer (some ⟨K,2,none⟩)) w:=by go_simp
theorem Z6q (w:World)(K j:Nat)(v:Value)(n:Int)(h:w.cell? ⟨K,j,none⟩=some v)(e:w.frozen? ⟨K,j,none⟩=false):(Instr.storeAt 3 (.pointer (some ⟨K,j,none⟩)) (int i64 n)).run prog w= .ok () (w.setCell ⟨K,j,none⟩ (int i64 n)):=by go_simp
theorem Z6r (w:World)(x y:Operand)(k:Nat)(h:k<=2000000000000):Sem.run prog (do eqGuard .add 3 x y (int i64 (k:Int)) (int i64 1);binOp .add 3 (int i64 (k:Int)) (int i64 1)) w= .ok (int i64 ((k:Int)+1)) w:=by
 have e:IntKind.i64.wrap ((k:Int)+1)=(k:Int)+1:=Zd (by omega) (by omega);go_simp
def Zkz (m:Nat)(vA vN:Value)(px py:Int)(ever:Nat):Nat->Option Value
 | 0=>some (.pointer (some ⟨m,0,none⟩))
 | 1=>some (.pointer (some ⟨m,0,none⟩))
 | 2=>some (.pointer (some ⟨m,0,none⟩))
 | 3=>some (.pointer (some ⟨m,0,none⟩))
 | 4=>some (.pointer (some ⟨m,0,none⟩))
 | 5=>some (.pointer (some ⟨m,0,none⟩))
 | 6=>some vA
 | 7=>some (pv px py)
 | 10=>some (.pointer (some ⟨m,0,none⟩))
 | 11=>some (.pointer (some ⟨m,0,none⟩))
 | 12=>some (.pointer (some ⟨m,1,none⟩))
 | 13=>some vN
 | 14=>some (int i64 (ever:Int))
 | 17=>some (int i64 (ever:Int))
 | 18=>some (int i64 ((ever:Int)+1))
 | 19=>some (.pointer (some ⟨m,0,none⟩))
 | 20=>some (.pointer (some ⟨m,0,none⟩))
 | 22=>some (.pointer (some ⟨m,0,none⟩))
 | 23=>some (.pointer (some ⟨m,1,none⟩))
 | 25=>some (.pointer (some ⟨m,0,none⟩))
 | 26=>some (.pointer (some ⟨m,2,none⟩))
 | _=>none
def Zfu (m:Nat)(vA vN:Value)(k:Nat):Prop:=k=m\/vA.ownBlock=some k\/vN.ownBlock=some k
structure InsI (V:World)(m:Nat)(vA vN:Value)(pts:List Pt)(nums:List Int)(ever:Nat)(px py:Int)(BX:Nat)(L:Nat->Bool)(σ:Nat->Value)(w:World):Prop where
 val:∀ i v,Zkz m vA vN px py ever i=some v->L i=true->σ i=v
 fA:Fap V 37 2 vA pts.length (Zg pts) [int i64 px,int i64 py] (L 8) (L 9) (σ 8) (σ 9) w
 fN:Fap V 3 1 vN nums.length (nums.map (int i64)) [int i64 (ever:Int)] (L 15) (L 16) (σ 15) (σ 16) w
 fM:w.heap[m]? =some (.cells #[if L 21 then σ 9 else vA,if L 24 then σ 16 else vN,int i64 (if L 27 then (ever:Int)+1 else ever)] 101 (0,0))
 chg:Chg (Zfu m vA vN) V w
 box:L 9=false->w.cell? ⟨BX,0,none⟩=V.cell? ⟨BX,0,none⟩/\w.cell? ⟨BX,1,none⟩=V.cell? ⟨BX,1,none⟩
section
variable {V w w':World} {m:Nat} {vA vN:Value} {pts:List Pt} {nums:List Int} {ever:Nat} {px py:Int} {BX:Nat} {L:Nat->Bool} {σ:Nat->Value} {i:Nat} {v:Value}
theorem InsI.stepV (h:InsI V m vA vN pts nums ever px py BX L σ w)(J:Zkz m vA vN px py ever i=some v):InsI V m vA vN pts nums ever px py BX (fun j=>if j=i then true else L j) (fun j=>if j=i then v else σ j) w:=by
 have ne:∀ j,Zkz m vA vN px py ever j=none->j≠i:=fun j D e=>by rw[e,J] at D;cases D
 have n8:=ne 8 rfl;have I:=ne 9 rfl;have n15:=ne 15 rfl;have O:=ne 16 rfl;have aa:=ne 21 rfl;have Z:=ne 24 rfl;have n27:=ne 27 rfl;refine⟨fun j u D Y=>?_,?_,?_,?_,h.chg,?_⟩
 ·by_cases e:j=i
  ·subst e;rw[J] at D;cases D;simp
  ·simp only[if_neg e] at Y ⊢;exact h.val j u D Y
 ·simp only[if_neg n8,if_neg I];exact h.fA
 ·simp only[if_neg n15,if_neg O];exact h.fN
 ·simp only[if_neg aa,if_neg Z,if_neg n27,if_neg I,if_neg O];exact h.fM
 ·simp only[if_neg I];exact h.box
theorem InsI.stepW (h:InsI V m vA vN pts nums ever px py BX L σ w) (Z:Zkz m vA vN px py ever i=none)
  (fA:Fap V 37 2 vA pts.length (Zg pts) [int i64 px,int i64 py] (if 8=i then true else L 8) (if 9=i then true else L 9) (if 8=i then v else σ 8) (if 9=i then v else σ 9) w')
  (fN:Fap V 3 1 vN nums.length (nums.map (int i64)) [int i64 (ever:Int)] (if 15=i then true else L 15) (if 16=i then true else L 16) (if 15=i then v else σ 15) (if 16=i then v else σ 16) w')
  (fM:w'.heap[m]? =some (.cells #[if (if 21=i then true else L 21)=true then (if 9=i then v else σ 9) else vA,if (if 24=i then true else L 24)=true then (if 16=i then v else σ 16) else vN,int i64 (if (if 27=i then true else L 27)=true then (ever:Int)+1 else ever)] 101 (0,0)))
  (hc:Chg (Zfu m vA vN) w w') (hb:(if 9=i then true else L 9)=false->w'.cell? ⟨BX,0,none⟩=w.cell? ⟨BX,0,none⟩/\w'.cell? ⟨BX,1,none⟩=w.cell? ⟨BX,1,none⟩) :
  InsI V m vA vN pts nums ever px py BX (fun j=>if j=i then true else L j) (fun j=>if j=i then v else σ j) w':=by
 refine⟨fun j u D I=>?_,fA,fN,fM,h.chg.trans hc fun _ _ g=>g,fun e=>?_⟩
 ·have e:j≠i:=fun e=>by rw[e,Z] at D;cases D
  simp only[if_neg e] at I ⊢;exact h.val j u D I
 ·have Y:L 9=false:=by
   by_cases c:9=i
   ·simp[c] at e
   ·simpa [if_neg c] using e
  obtain⟨J,O⟩:=h.box Y;obtain⟨c0,c1⟩:=hb e;exact⟨c0.trans J,c1.trans O⟩
theorem InsI.cells (h:InsI V m vA vN pts nums ever px py BX L σ w):w.cell? ⟨m,0,none⟩=some (if L 21 then σ 9 else vA)/\w.cell? ⟨m,1,none⟩=some (if L 24 then σ 16 else vN)/\w.cell? ⟨m,2,none⟩=some (int i64 (if L 27 then (ever:Int)+1 else ever))/\∀ j,w.frozen? ⟨m,j,none⟩=false:=by
 have e:=h.fM;simp[World.cell?,World.frozen?,e]
end
def Za4 (pts:List Pt)(p:Pt):Int:=if Zc p.1 p.2=true then 1 else if p∈pts then 3 else if pts.length=60 then 2 else 0
def Zg5 (w w':World)(m:Nat)(pts:List Pt)(nums:List Int)(ever:Nat)(vA vN:Value)(p:Pt)(n:Int):Prop:=
 (Za4 pts p≠0/\n=0/\Below w.heap.size w w')\/
 (Za4 pts p=0/\n=ever/\∃ vA' vN',PRow w' m (pts ++ [p]) (nums ++ [(ever:Int)]) (ever+1) vA' vN'/\Chg (Zfu m vA vN) w w'/\(∀ g,vA'.ownBlock=some g->vA.ownBlock=some g\/w.heap.size<=g)/\(∀ g,vN'.ownBlock=some g->vN.ownBlock=some g\/w.heap.size<=g))
theorem Z6s (w:World)(o:Obj)(I D:Int)(T:TypeId):Zp ((w.alloc o).alloc (.cells #[int i64 I,int i64 D] T)) (w.heap.size+1) 0 [(I,D)]:=by
 intro j e;have e:j=0:=by simp at e;omega
 subst e;rw[World.cell?_alloc_at _ _ _ _ (by simp),World.cell?_alloc_at _ _ _ _ (by simp)];exact⟨rfl,rfl⟩
theorem Ztx (D e:Int):Ya [(D,e)]=Zc D e:=by simp[Ya]
theorem Z6t (m:Nat)(pts:List Pt)(nums:List Int)(ever:Nat)(vA vN:Value)(px py:Int)(w:World)(H:PRow w m pts nums ever vA vN)(hOk:MOk pts nums ever)(hev:ever<=2000000000000) :
  Calls prog 125 #[.pointer (some ⟨m,0,none⟩),.agg #[int i64 px,int i64 py]] w fun e w'=>∃ n,e= .returned (.tuple #[int i64 n,int i64 (Za4 pts (px,py))])/\Zg5 w w' m pts nums ever vA vN (px,py) n:=by
 have hle:=hOk.le;have hn60:nums.length<=60:=by have:=hOk.len;omega
 have HLN:Hid (pts.length=nums.length):=hOk.len;obtain⟨iP,hiP,hzP,hsP,hbP⟩:=info_parts Zdk;obtain⟨i0,hi0,hz0,hs0,hb0'⟩:=info_parts Zbi;have hb0:=Yq w (.cells #[int i64 px,int i64 py] 37) (.cells #[int i64 px,int i64 py] 37);have HP1:Hid (Zp ((w.alloc (.cells #[int i64 px,int i64 py] 37)).alloc (.cells #[int i64 px,int i64 py] 37)) (w.heap.size+1) 0 [(px,py)]):=Z6s _ _ _ _ _;have HH:Hid (PRow w m pts nums ever vA vN):=H;have HIE:Hid (Za4 pts (px,py)=if Zc px py=true then 1 else if (px,py)∈pts then 3 else if pts.length=60 then 2 else 0):=rfl;cases hfar:Zc px py with
 | true=>
  have hie:Za4 pts (px,py)=1:=by rw[HIE.out,hfar];rfl
  have HI:Hid (Za4 pts (px,py)≠0):=by unfold Hid;rw[hie];decide
  rw[hie];clear H hOk hie;go_enter func125,ntmps125;go_wp2_with (go_at_call 16;refine (Zc1 _ 0 1 [(px,py)] _ (by simp) (by simp) HP1.out).mono ?_;rintro e w1 ⟨rfl,hb1⟩;rw[Ztx,hfar])
  go_ret2;exact⟨0,rfl,.inl ⟨HI.out,rfl,hb0.trans (hb1.mono hb0.size)⟩⟩
 | false=>
  obtain⟨pa,pc,rfl⟩:=Zn H.ownA;obtain⟨na,nc,rfl⟩:=Zn H.ownN;have x0:((w.alloc (.cells #[int i64 px,int i64 py] 37)).alloc (.cells #[int i64 px,int i64 py] 37)).cell? ⟨w.heap.size,0,none⟩=some (int i64 px):=by
   rw[World.cell?_alloc_past _ _ _ (by simp),World.cell?_alloc_at _ _ _ _ (by simp)];rfl
  have x1:((w.alloc (.cells #[int i64 px,int i64 py] 37)).alloc (.cells #[int i64 px,int i64 py] 37)).cell? ⟨w.heap.size,1,none⟩=some (int i64 py):=by
   rw[World.cell?_alloc_past _ _ _ (by simp),World.cell?_alloc_at _ _ _ _ (by simp)];rfl
  go_enter func125,ntmps125;go_wp2_with (go_at_call 16;refine (Zc1 _ 0 1 [(px,py)] _ (by simp) (by simp) HP1.out).mono ?_;rintro e w1 ⟨rfl,hb1⟩;rw[Ztx,hfar])
  have hsz1:w.heap.size+2<=w1.heap.size:=by have:=hb1.size;simp at this;omega
  have z0:=(hb1.cell (p:=⟨w.heap.size,0,none⟩) (by simp;omega)).trans x0;have z1:=(hb1.cell (p:=⟨w.heap.size,1,none⟩) (by simp;omega)).trans x1;have hbw:Below w.heap.size w w1:=hb0.trans (hb1.mono hb0.size);have H1:=H.below hbw;have HBW:Hid (Below w.heap.size w w1):=hbw;have HH1:Hid (PRow w1 m pts nums ever (.slice pa pts.length pc) (.slice na nums.length nc)):=H1;have HRA:Hid (Z0 w1 pa pts):=Z2.raw' H1.ownA;have c0:=H1.cells.1;have hm1:=H1.lt;have hx1:w.heap.size<w1.heap.size:=by omega
  clear x0 x1 hb1 hb0 HP1 H H1 hbw hOk;generalize hBX:w.heap.size=BX at *
  go_region_held3 (fun w'=>Below w1.heap.size w1 w'/\∀ b o,b<w1.heap.size->w'.cell? ⟨b,o,none⟩=w1.cell? ⟨b,o,none⟩) (first|exact Yw _|exact Yx (by assumption) hb2)
   (first|(go_at_call 147;refine (Z6m _ _ pts _ _ w1.drew hle (show Z0 w1.drew pa pts from HRA.out)).mono ?_;rintro e w2 ⟨rfl,hb2⟩))
  rename_i D;have hb12:Below w1.heap.size w1 w2:=D.1;have HB12:Hid (Below w1.heap.size w1 w2):=hb12;have hbw2:Hid (Below w.heap.size w w2):=by unfold Hid;rw[hBX];exact HBW.out.trans (hb12.mono (by omega))
  have y0:=(hb12.cell (p:=⟨BX,0,none⟩) hx1).trans z0;have y1:=(hb12.cell (p:=⟨BX,1,none⟩) hx1).trans z1;have H2:=HH1.out.below hb12;have HH2:Hid (PRow w2 m pts nums ever (.slice pa pts.length pc) (.slice na nums.length nc)):=H2;obtain⟨d0,d1,d2,df⟩:=H2.cells;have hm2:=H2.lt;have hx2:BX<w2.heap.size:=L3 hx1 hb12.size;clear D hb2 hb12 H2 z0 z1 c0 HRA HH1;by_cases hmem:(px,py)∈pts
  ·have hie:Za4 pts (px,py)=3:=by rw[HIE.out,hfar,if_neg (by simp),if_pos hmem]
   have HI:Hid (Za4 pts (px,py)≠0):=by unfold Hid;rw[hie];decide
   rw[decide_eq_true hmem];have HQ:Hid (Za4 pts (px,py)=3):=hie;clear hmem hie;go_wp2
   go_ret2;rw[HQ.out];exact⟨0,rfl,.inl ⟨HI.out,rfl,hbw2.out⟩⟩
  ·rw[decide_eq_false hmem];by_cases h60:pts.length=60
   ·have hie:Za4 pts (px,py)=2:=by rw[HIE.out,hfar,if_neg (by simp),if_neg hmem,if_pos h60]
    have HI:Hid (Za4 pts (px,py)≠0):=by unfold Hid;rw[hie];decide
    have HQ:Hid (Za4 pts (px,py)=2):=hie;have q60:decide ((60:Int)<=(pts.length:Int))=true:=decide_eq_true (by omega);have r60:(60:Int)<=(pts.length:Int):=by omega
    clear hmem h60 hie;go_wp2
    go_ret2;rw[HQ.out];exact⟨0,rfl,.inl ⟨HI.out,rfl,hbw2.out⟩⟩
   ·have hie:Za4 pts (px,py)=0:=by rw[HIE.out,hfar,if_neg (by simp),if_neg hmem,if_neg h60]
    have HQ:Hid (Za4 pts (px,py)=0):=hie;have r60:¬ (60:Int)<=(pts.length:Int):=by omega
    clear hmem h60 hie;go_wp2_with fail
    have HV:Hid (InsI w2 m (.slice pa pts.length pc) (.slice na nums.length nc) pts nums ever px py BX (fun _=>false) (fun _=>undef) w2.drew):=
     ⟨(fun _ _ _ h=>by cases h),⟨(fun h=>by cases h),fun _=>⟨HH2.out.ownA,fun h=>by cases h⟩⟩,⟨(fun h=>by cases h),fun _=>⟨HH2.out.ownN,fun h=>by cases h⟩⟩,HH2.out.blk,⟨rfl,rfl,rfl,Nat.le_refl _,fun _ _ _=>rfl⟩,fun _=>⟨rfl,rfl⟩⟩
    refine Zd9 (m:=28) (by kernel_rfl) (by kernel_rfl) (dsts:=[some 29,some 30,some 31,some 32,some 33,some 34,some 35,some 36,some 37,some 38,some 39,some 40,some 41,some 42,some 43,some 44,some 45,some 46,some 47,some 48,some 49,none,some 50,some 51,none,some 52,some 53,none]) rfl (by kernel_rfl) (l:=[]) rfl (InsI w2 m (.slice pa pts.length pc) (.slice na nums.length nc) pts nums ever px py BX) HV.out ?_ ?_
    ·refine flS (flS (flS (flS (flS (flS (flS (flS (flS (flS (flS (flS (flS (flS (flS (flS (flS (flS (flS (flS (flS (flS (flS (flS (flS (flS (flS (flS fl0 ?_) ?_) ?_) ?_) ?_) ?_) ?_) ?_) ?_) ?_) ?_) ?_) ?_) ?_) ?_) ?_) ?_) ?_) ?_) ?_) ?_) ?_) ?_) ?_) ?_) ?_) ?_) ?_;all_goals intro I σ wx D J Z aa
     ·exact (Z8 (x:=.tmp 0) rfl rfl (D.stepV (i:=0) rfl)).toS
     ·exact (Z8 (x:=.tmp 0) rfl rfl (D.stepV (i:=1) rfl)).toS
     ·exact (Z8 (x:=.tmp 0) rfl rfl (D.stepV (i:=2) rfl)).toS
     ·exact (Z8 (x:=.tmp 0) rfl rfl (D.stepV (i:=3) rfl)).toS
     ·exact (Za1 (x:=.tmp 32) rfl (show σ 3=_ from D.val 3 _ rfl (J 3 rfl)) (D.stepV (i:=4) rfl)).toS
     ·exact (Za2 (T:=99) (x:=.tmp 33) (f:=0) rfl (show σ 4=_ from D.val 4 _ rfl (J 4 rfl)) (Zg4 _ _) (D.stepV (i:=5) rfl)).toS
     ·have n21:I 21=false:=by
       cases O:I 21 with
       | false=>rfl
       | true=>have:=(Z 9 6 (Z 21 9 O rfl) rfl);rw[aa] at this;cases this
      have c:=D.cells.1;rw[n21] at c;exact (Yr (T:=41) (x:=.tmp 34) rfl (show σ 5=_ from D.val 5 _ rfl (J 5 rfl)) (Zgs _ _ _ _ c) (D.stepV (i:=6) rfl)).toS
     ·have n9:I 9=false:=by
       cases O:I 9 with
       | false=>rfl
       | true=>have:=(Z 8 7 (Z 9 8 O rfl) rfl);rw[aa] at this;cases this
      obtain⟨b0,b1⟩:=D.box n9;exact (Yr (T:=37) (x:=.tmp 3) rfl rfl (Zb2 _ _ _ px py (b0.trans y0) (b1.trans y1)) (D.stepV (i:=7) rfl)).toS
     ·have n9:I 9=false:=by
       cases O:I 9 with
       | false=>rfl
       | true=>have:=(Z 9 8 O rfl);rw[aa] at this;cases this
      have n21:I 21=false:=by
       cases O:I 21 with
       | false=>rfl
       | true=>have:=(Z 9 8 (Z 21 9 O rfl) rfl);rw[aa] at this;cases this
      have fA:=D.fA;rw[n9,aa] at fA;refine (Zfr (T:=41) (n:=1) (x:=.tmp 36) rfl (show σ 7=_ from D.val 7 _ rfl (J 7 rfl)) (Zna _ _ _) (D.stepW (i:=8) rfl ?_ ?_ ?_ ?_ ?_)).toS
      ·simp only[n9,reduceIte,if_neg (show ¬ (9=8) by decide)];exact fA.build D.chg.size
      ·exact D.fN.keep (Zh5 _ _ _)
      ·exact Zh5 _ _ _ _ _ D.fM
      ·exact Chg.of_below (Zb _ _)
      ·intro _;exact⟨World.cell?_alloc_past _ _ _ (L3 hx2 D.chg.size),World.cell?_alloc_past _ _ _ (L3 hx2 D.chg.size)⟩
     ·have n21:I 21=false:=by
       cases O:I 21 with
       | false=>rfl
       | true=>have:=(Z 21 9 O rfl);rw[aa] at this;cases this
      have n24:I 24=false:=by
       cases O:I 24 with
       | false=>rfl
       | true=>have:=(Z 21 9 (Z 24 21 O rfl) rfl);rw[aa] at this;cases this
      have fA:=D.fA;rw[J 8 rfl,aa] at fA;obtain⟨g,cap,w',hrun,fA',hk,hc⟩:=fA.append (P:=prog) (t:=41) (ty:=(Zcg _ 9).type) underlying41 hiP hzP hsP hbP rfl (by decide) rfl (by intro u hu;simp at hu;rcases hu with rfl|rfl <;> rfl) (by omega) (by decide) D.chg.size;refine (Zh4 (t:=41) (s:=.tmp 35) (x:=.tmp 37) rfl (show σ 6=_ from D.val 6 _ rfl (J 6 rfl)) (show σ 8=σ 8 from rfl) hrun (D.stepW (i:=9) rfl ?_ ?_ ?_ ?_ ?_)).toS
      ·simp only[J 8 rfl,reduceIte,if_neg (show ¬ (8=9) by decide)];exact fA'
      ·exact D.fN.keep (hk _ (by decide))
      ·have:=hk 101 (by decide) _ _ D.fM;rw[n21] at this;simpa [n21] using this
      ·exact hc.mono fun k _ h=>.inr (.inl h)
      ·intro h;simp at h
     ·exact (Z8 (x:=.tmp 0) rfl rfl (D.stepV (i:=10) rfl)).toS
     ·exact (Za1 (x:=.tmp 39) rfl (show σ 10=_ from D.val 10 _ rfl (J 10 rfl)) (D.stepV (i:=11) rfl)).toS
     ·exact (Za2 (T:=99) (x:=.tmp 40) (f:=1) rfl (show σ 11=_ from D.val 11 _ rfl (J 11 rfl)) (Zky _ _) (D.stepV (i:=12) rfl)).toS
     ·have n24:I 24=false:=by
       cases O:I 24 with
       | false=>rfl
       | true=>have:=(Z 16 13 (Z 24 16 O rfl) rfl);rw[aa] at this;cases this
      have c:=D.cells.2.1;rw[n24] at c;exact (Yr (T:=26) (x:=.tmp 41) rfl (show σ 12=_ from D.val 12 _ rfl (J 12 rfl)) (Zm9 _ _ _ _ c) (D.stepV (i:=13) rfl)).toS
     ·exact (Z8 (x:=.tmp 6) rfl rfl (D.stepV (i:=14) rfl)).toS
     ·have n16:I 16=false:=by
       cases O:I 16 with
       | false=>rfl
       | true=>have:=(Z 16 15 O rfl);rw[aa] at this;cases this
      have fN:=D.fN;rw[n16,aa] at fN;refine (Zfr (T:=26) (n:=1) (x:=.tmp 43) rfl (show σ 14=_ from D.val 14 _ rfl (J 14 rfl)) (Zr6 _ _) (D.stepW (i:=15) rfl ?_ ?_ ?_ ?_ ?_)).toS
      ·exact D.fA.keep (Zh5 _ _ _)
      ·simp only[n16,reduceIte,if_neg (show ¬ (16=15) by decide)];exact fN.build D.chg.size
      ·exact Zh5 _ _ _ _ _ D.fM
      ·exact Chg.of_below (Zb _ _)
      ·intro _;exact⟨World.cell?_alloc_past _ _ _ (L3 hx2 D.chg.size),World.cell?_alloc_past _ _ _ (L3 hx2 D.chg.size)⟩
     ·have n24:I 24=false:=by
       cases O:I 24 with
       | false=>rfl
       | true=>have:=(Z 24 16 O rfl);rw[aa] at this;cases this
      have fN:=D.fN;have h9:I 9=true:=J 9 rfl;rw[J 15 rfl,aa] at fN;obtain⟨g,cap,w',hrun,fN',hk,hc⟩:=fN.append (P:=prog) (t:=26) (ty:=(Zcg _ 16).type) underlying26 hi0 hz0 hs0 hb0' rfl (by decide) rfl (by intro u hu;simp at hu;rw[hu];rfl) (by omega) (by decide) D.chg.size;refine (Zh4 (t:=26) (s:=.tmp 42) (x:=.tmp 44) rfl (show σ 13=_ from D.val 13 _ rfl (J 13 rfl)) (show σ 15=σ 15 from rfl) hrun (D.stepW (i:=16) rfl ?_ ?_ ?_ ?_ ?_)).toS
      ·exact D.fA.keep (hk _ (by decide))
      ·simp only[J 15 rfl,reduceIte,if_neg (show ¬ (15=16) by decide)];exact fN'
      ·have:=hk 101 (by decide) _ _ D.fM;rw[n24] at this;simpa [n24] using this
      ·exact hc.mono fun k _ h=>.inr (.inr h)
      ·intro h;simp[h9] at h
     ·exact (Z8 (x:=.tmp 6) rfl rfl (D.stepV (i:=17) rfl)).toS
     ·exact (Zlu (b:=.add) (T:=3) (T':=3) (x:=.tmp 46) (y:=.const (int i64 1)) rfl (show σ 17=_ from D.val 17 _ rfl (J 17 rfl)) rfl (Z6r _ _ _ _ hev) (D.stepV (i:=18) rfl)).toS
     ·exact (Za1 (x:=.tmp 29) rfl (show σ 0=_ from D.val 0 _ rfl (J 0 rfl)) (D.stepV (i:=19) rfl)).toS
     ·exact (Za2 (T:=99) (x:=.tmp 48) (f:=0) rfl (show σ 19=_ from D.val 19 _ rfl (J 19 rfl)) (Zg4 _ _) (D.stepV (i:=20) rfl)).toS
     ·have h9:I 9=true:=J 9 rfl;have h16:I 16=true:=J 16 rfl;have n24:I 24=false:=by
       cases O:I 24 with
       | false=>rfl
       | true=>have:=(Z 24 21 O rfl);rw[aa] at this;cases this
      have n27:I 27=false:=by
       cases O:I 27 with
       | false=>rfl
       | true=>have:=(Z 24 21 (Z 27 24 O rfl) rfl);rw[aa] at this;cases this
      obtain⟨g,cap,e9,o9,_⟩:=D.fA.1 h9;have Y:=D.fM;rw[aa,n24,n27] at Y;simp only[Bool.false_eq_true,if_false] at Y;have st:=heap_setCell_same _ m 0 _ _ (σ 9) Y;have c:=D.cells;rw[aa] at c;refine Zc0 (T:=41) (x:=.tmp 49) (y:=.tmp 38) rfl (show σ 20=_ from D.val 20 _ rfl (J 20 rfl)) (show σ 9=_ from e9) (Znb _ _ _ _ _ _ _ c.1 (c.2.2.2 0)) (D.stepW (i:=21) rfl ?_ ?_ ?_ ?_ ?_)
      ·exact D.fA.keep (Zat Y (by decide))
      ·exact D.fN.keep (Zat Y (by decide))
      ·rw[<-e9,st];simp[n24,n27]
      ·exact⟨rfl,rfl,rfl,by simp[World.setCell],fun k _ hk=>Below.heap_setCell _ _ _ _ fun e=>hk (.inl e)⟩
      ·intro h;simp[h9] at h
     ·exact (Za1 (x:=.tmp 30) rfl (show σ 1=_ from D.val 1 _ rfl (J 1 rfl)) (D.stepV (i:=22) rfl)).toS
     ·exact (Za2 (T:=99) (x:=.tmp 50) (f:=1) rfl (show σ 22=_ from D.val 22 _ rfl (J 22 rfl)) (Zky _ _) (D.stepV (i:=23) rfl)).toS
     ·have h9:I 9=true:=Z 21 9 (J 21 rfl) rfl;have h16:I 16=true:=J 16 rfl;have h21:I 21=true:=J 21 rfl;have n27:I 27=false:=by
       cases O:I 27 with
       | false=>rfl
       | true=>have:=(Z 27 24 O rfl);rw[aa] at this;cases this
      obtain⟨g,cap,e16,o16,_⟩:=D.fN.1 h16;have Y:=D.fM;rw[aa,h21,n27] at Y;simp only[Bool.false_eq_true,if_false,if_true] at Y;have st:=heap_setCell_same _ m 1 _ _ (σ 16) Y;have c:=D.cells;rw[aa] at c;refine Zc0 (T:=26) (x:=.tmp 51) (y:=.tmp 45) rfl (show σ 23=_ from D.val 23 _ rfl (J 23 rfl)) (show σ 16=_ from e16) (Znc _ _ _ _ _ _ _ c.2.1 (c.2.2.2 1)) (D.stepW (i:=24) rfl ?_ ?_ ?_ ?_ ?_)
      ·exact D.fA.keep (Zat Y (by decide))
      ·exact D.fN.keep (Zat Y (by decide))
      ·rw[<-e16,st];simp[h21,n27]
      ·exact⟨rfl,rfl,rfl,by simp[World.setCell],fun k _ hk=>Below.heap_setCell _ _ _ _ fun e=>hk (.inl e)⟩
      ·intro h;simp[h9] at h
     ·exact (Za1 (x:=.tmp 31) rfl (show σ 2=_ from D.val 2 _ rfl (J 2 rfl)) (D.stepV (i:=25) rfl)).toS
     ·exact (Za2 (T:=99) (x:=.tmp 52) (f:=2) rfl (show σ 25=_ from D.val 25 _ rfl (J 25 rfl)) (Z6p _ _) (D.stepV (i:=26) rfl)).toS
     ·have h24:I 24=true:=J 24 rfl;have h21:I 21=true:=Z 24 21 h24 rfl;have h9:I 9=true:=Z 21 9 h21 rfl;have Y:=D.fM;rw[aa,h21,h24] at Y;simp only[Bool.false_eq_true,if_false,if_true] at Y;have st:=heap_setCell_same _ m 2 _ _ (int i64 ((ever:Int)+1)) Y;have c:=D.cells;refine Zc0 (T:=3) (x:=.tmp 53) (y:=.tmp 47) rfl (show σ 26=_ from D.val 26 _ rfl (J 26 rfl)) (show σ 18=_ from D.val 18 _ rfl (J 18 rfl)) (Z6q _ _ _ _ _ c.2.2.1 (c.2.2.2 2)) (D.stepW (i:=27) rfl ?_ ?_ ?_ ?_ ?_)
      ·exact D.fA.keep (Zat Y (by decide))
      ·exact D.fN.keep (Zat Y (by decide))
      ·rw[st];simp[h21,h24]
      ·exact⟨rfl,rfl,rfl,by simp[World.setCell],fun k _ hk=>Below.heap_setCell _ _ _ _ fun e=>hk (.inl e)⟩
      ·intro h;simp[h9] at h
    ·intro I σ wx D hall;have h9:=hall 9 (by omega);have h16:=hall 16 (by omega);have h21:=hall 21 (by omega);have h24:=hall 24 (by omega);have h27:=hall 27 (by omega);obtain⟨g9,cap9,e9,o9,a9⟩:=D.fA.1 h9;obtain⟨g16,cap16,e16,o16,a16⟩:=D.fN.1 h16;have Y:=D.fM;rw[h21,h24,h27] at Y;simp only[if_true] at Y;have HFIN:Hid (Zg5 w wx m pts nums ever (.slice pa pts.length pc) (.slice na nums.length nc) (px,py) ever):=by
      refine .inr ⟨HQ.out,rfl,σ 9,σ 16,⟨Y,?_,?_⟩,?_,?_,?_⟩
      ·rw[List.length_append,Zel];exact o9
      ·rw[List.length_append,List.map_append];exact o16
      ·exact (Chg.of_below hbw2.out).trans D.chg fun _ _ h=>h
      ·intro g hg;rw[e9] at hg;cases hg;rcases a9 with a9|a9
       ·exact .inl a9
       ·exact .inr (Nat.le_trans hbw2.out.size a9)
      ·intro g hg;rw[e16] at hg;cases hg;rcases a16 with a16|a16
       ·exact .inl a16
       ·exact .inr (Nat.le_trans hbw2.out.size a16)
     clear Y D o9 o16 a9 a16;refine⟨?_⟩;simp only[lay,Act.put,List.drop_succ_cons,List.drop_zero,List.setIfInBounds_toArray,List.set_cons_succ,List.set_cons_zero];go_wp2_with fail
     go_ret2;rw[HQ.out];exact⟨ever,rfl,HFIN.out⟩
theorem Z6u (w:World)(b o c:Nat)(ty:TypeId)(J:(w.cell? ⟨b,o,none⟩).isSome=true)(h1:(w.cell? ⟨b,o+1,none⟩).isSome=true)(Y:w.frozen? ⟨b,o,none⟩=false)(Z:w.frozen? ⟨b,o+1,none⟩=false) :
  (Builtin.clear_ #[41] ty #[.slice (some ⟨b,o,none⟩) 1 c]).run prog w= .ok (.tuple #[]) (w.setCells b o [int i64 0,int i64 0]):=by
 obtain⟨iP,hiP,hzP,hsP,hbP⟩:=info_parts Zdk;have hv:∀ w,(zeroValue 37).run prog w= .ok (.agg #[int i64 0,int i64 0]) w:=fun w=>by go_simp
 have O:(Builtin.zeroCells (Value.agg #[int i64 0,int i64 0]).cells 1).toList=[int i64 0,int i64 0]:=by kernel_rfl
 have D := run_storeCells_cells (P := prog) b o [int i64 0, int i64 0] 0 w (fun j e => by
   have : j = 0 ∨ j = 1 := by simp at e; omega
   rcases this with rfl | rfl
   · exact J
   · exact h1) (fun j e => by
   have : j = 0 ∨ j = 1 := by simp at e; omega
   rcases this with rfl | rfl
   · exact Y
   · exact Z) (by intro v I; simp at I; rw [I]; rfl)
 simp only[Nat.add_zero] at D;simp[Builtin.clear_,run_underlying underlying41,hv,O,D]
theorem Z6v (w:World)(b o c:Nat)(ty:TypeId)(J:(w.cell? ⟨b,o,none⟩).isSome=true)(Y:w.frozen? ⟨b,o,none⟩=false) :
  (Builtin.clear_ #[26] ty #[.slice (some ⟨b,o,none⟩) 1 c]).run prog w= .ok (.tuple #[]) (w.setCells b o [int i64 0]):=by
 obtain⟨i0,ac,aa,hs0,ab⟩:=info_parts Zbi;have Z:∀ w,(zeroValue 3).run prog w= .ok (int i64 0) w:=fun w=>by go_simp
 have O:(Builtin.zeroCells (Value.int .i64 0).cells 1).toList=[int i64 0]:=by kernel_rfl
 have D := run_storeCells_cells (P := prog) b o [int i64 0] 0 w (fun j e => by
   have : j = 0 := by simp at e; omega
   subst this; exact J) (fun j e => by
   have : j = 0 := by simp at e; omega
   subst this; exact Y) (by intro v I; simp at I; rw [I]; rfl)
 simp only[Nat.add_zero] at D;simp[Builtin.clear_,run_underlying underlying26,Z,O,D]
theorem Zty {w:World}{g cap n s i:Nat}{e:TypeId}{D:Array Value}{xs:List Value}{z:Value}(hg:w.heap[g]? =some (.cells D e (0,0)))(hcs:D.size=cap*s)(hnc:n<=cap)(O:D.toList.take (n*s)=xs)(hi:i<n)(hcm:cap<=maxLen)(m:Nat) :
  (((w.drewN m).setCells g (i*s) (xs.drop ((i+1)*s))).setCells g ((n-1)*s) (List.replicate s z)).ownsRow 0 e s (.slice (some ⟨g,0,none⟩) (n-1) cap) (n-1) (xs.take (i*s) ++ xs.drop ((i+1)*s))/\
  Chg (fun k=>k=g) w (((w.drewN m).setCells g (i*s) (xs.drop ((i+1)*s))).setCells g ((n-1)*s) (List.replicate s z)):=by
 have Z:i*s<=n*s:=Nat.mul_le_mul_right _ (by omega);have m2:(i+1)*s<=n*s:=Nat.mul_le_mul_right _ (by omega);have m3:n*s<=cap*s:=Nat.mul_le_mul_right _ hnc;have m4:(n-1)*s+s=n*s:=by rw[<-Nat.succ_mul];congr 1;omega
 have m5:(i+1)*s=i*s+s:=Nat.succ_mul _ _;have I:xs.length=n*s:=by rw[<-O];simp;omega
 have Y:(xs.drop ((i+1)*s)).length=n*s-(i+1)*s:=by rw[List.length_drop,I]
 have b1:=Zij (g:=g) (xs.drop ((i+1)*s)) (i*s) (w.drewN m) D hg (by omega);have b2:=Zij (g:=g) (List.replicate s z) ((n-1)*s) _ _ b1 (by simp;omega);refine⟨⟨?_,.inr ⟨g,cap,_,rfl,Nat.zero_le _,b2,by omega,hcm,?_,?_⟩⟩,?_⟩
 ·simp only[List.length_append,List.length_take,Y,I];omega
 ·simp only[List.size_toArray,List.length_append,List.length_take,List.length_drop,List.length_replicate,Array.length_toList,hcs,I];omega
 ·have e0:D.toList.take (i*s)=xs.take (i*s):=by rw[<-O,List.take_take,Nat.min_eq_left Z]
  have J:(xs.take (i*s) ++ xs.drop ((i+1)*s)).length=(n-1)*s:=by
   rw[List.length_append,Y,List.length_take,I,Nat.min_eq_left Z];omega
  have e1:(D.toList.take (i*s) ++ xs.drop ((i+1)*s) ++ D.toList.drop (i*s+(xs.drop ((i+1)*s)).length)).toArray.toList.take ((n-1)*s)=xs.take (i*s) ++ xs.drop ((i+1)*s):=by
   rw[e0,List.toList_toArray,List.take_left' J]
  rw[e1,List.toList_toArray,List.append_assoc,List.take_left' J]
 ·have c1:=Ztu (g:=g) (xs.drop ((i+1)*s)) (i*s) (w.drewN m);have c2:=Ztu (g:=g) (List.replicate s z) ((n-1)*s) ((w.drewN m).setCells g (i*s) (xs.drop ((i+1)*s)));have c:=c1.trans c2 fun _ _ h=>h
  exact⟨c.os,c.tape,c.output,c.size,c.far⟩
theorem Z6w (g cap i:Nat)(pts:List Pt)(w:World)(h:w.ownsRow 0 37 2 (.slice (some ⟨g,0,none⟩) pts.length cap) pts.length (Zg pts))(hl:pts.length<=60)(hi:i<pts.length) :
  Calls prog 149 #[.slice (some ⟨g,0,none⟩) pts.length cap,int i64 (i:Int),int i64 ((i:Int)+1)] w fun e w'=>
   e= .returned (.slice (some ⟨g,0,none⟩) (pts.length-1) cap)/\w'.ownsRow 0 37 2 (.slice (some ⟨g,0,none⟩) (pts.length-1) cap) (pts.eraseIdx i).length (Zg (pts.eraseIdx i))/\Chg (fun k=>k=g) w w':=by
 obtain⟨iP,hiP,hzP,hsP,hbP⟩:=info_parts Zdk;obtain⟨I,J,hnc,ae,hcs,ab⟩:∃ I,w.heap[g]? =some (.cells I 37 (0,0))/\pts.length<=cap/\cap<=maxLen/\I.size=cap*2/\I.toList.take (pts.length*2)=Zg pts:=by
  rcases h.2 with ⟨e,_⟩|⟨g',cap',I,e,_,r⟩
  ·cases e
  ·cases e;exact⟨I,r⟩
 have hcm':cap<=9223372036854775807:=ae;have HR:=Zty (z:=int i64 0) J hcs hnc ab hi ae;have hel:(pts.eraseIdx i).length=pts.length-1:=by rw[List.length_eraseIdx,if_pos hi]
 have ak:=Z6k pts i;generalize hn:pts.length=n at *
 have hxl:(Zg pts).length=n*2:=by rw[Zbw,hn]
 obtain⟨j,Z⟩:∃ j,j=i+1:=⟨_,rfl⟩;obtain⟨news,O⟩:∃ news,news=(Zg pts).drop ((i+1)*2):=⟨_,rfl⟩;have af:news.length=(n-j)*2:=by rw[O,List.length_drop,hxl];omega
 have ag:∀ j,j<cap*2->w.cell? ⟨g,j,none⟩=I[j]? :=fun j Z=>by simp[World.cell?,J]
 have hfz:∀ j,w.frozen? ⟨g,j,none⟩=false:=fun j=>by simp[World.frozen?,J]
 have aj:∀ t u,news[t]? =some u->I[j*2+t]? =some u:=fun t u D=>by
  rw[Z];rw[O,List.getElem?_drop,<-ab] at D;rw[<-Array.getElem?_toList];have:=(List.getElem?_eq_some_iff.1 D).1;rw[List.getElem?_take_of_lt (by simp at this;omega)] at D;exact D
 obtain⟨A,hA,hsrc⟩:∃ A:Addr,(if cap=j then some (⟨g,0,none⟩:Addr) else some ⟨g,j*2,none⟩)=some A/\Hid (∀ t u,news[t]? =some u->w.drew.cell? (A.add t)=some u):=by
  by_cases hc:cap=j
  ·refine⟨⟨g,0,none⟩,by simp[hc],fun t u D=>?_⟩;have h0:news.length=0:=by rw[af];omega
   rw[List.length_eq_zero_iff.1 h0] at D;simp at D
  ·refine⟨⟨g,j*2,none⟩,by simp[hc],fun t u D=>?_⟩;have ht:=(List.getElem?_eq_some_iff.1 D).1;rw[Addr.add_lit];show w.cell? _=_
   rw[ag _ (by omega)];exact aj t u D
 have s1:Hid (news.length=(n-j)*2):=af;have s2:Hid (∀ u∈news,u.oneCell'=true):=by
  intro u D;rw[O] at D;have:=List.mem_of_mem_drop D;unfold Zg at this;obtain⟨p,_,hp⟩:=List.mem_flatMap.1 this;simp at hp;rcases hp with rfl|rfl <;> rfl
 have s3:Hid (∀ t,t<news.length->(w.drew.cell? ⟨g,0+i*2+t,none⟩).isSome=true/\w.drew.frozen? ⟨g,0+i*2+t,none⟩=false):=by
  intro t ht;refine⟨?_,hfz _⟩;show (w.cell? _).isSome=true
  rw[ag _ (by omega),Array.getElem?_eq_getElem (by omega)];rfl
 obtain⟨W1,aa⟩:∃ W1,W1=w.drew.setCells g (0+i*2) news:=⟨_,rfl⟩;have ac:W1.heap[g]? =some (.cells (I.toList.take (0+i*2) ++ news ++ I.toList.drop (0+i*2+news.length)).toArray 37 (0,0)):=by
  rw[aa];exact Zij news (0+i*2) w.drew I J (by omega)
 have ah:∀ j,j<cap*2->(W1.cell? ⟨g,j,none⟩).isSome=true:=fun j Z=>by
  simp only[World.cell?,ac];rw[Array.getElem?_eq_getElem (by simp;omega)];rfl
 have ai:∀ j,W1.frozen? ⟨g,j,none⟩=false:=fun j=>by simp[World.frozen?,ac]
 have Y:i+(n-j)=n-1:=by omega
 have hcl:∀ ty,(Builtin.clear_ #[41] ty #[.slice (some ⟨g,(i+(n-j))*2,none⟩) (n-(i+(n-j))) (cap-(i+(n-j)))]).run prog W1= .ok (.tuple #[]) (W1.setCells g ((i+(n-j))*2) [int i64 0,int i64 0]):=by
  intro ty;rw[Y,show n-(n-1)=1 by omega];exact Z6u W1 g _ _ ty (ah _ (by omega)) (ah _ (by omega)) (ai _) (ai _)
 have hW:Hid (W1=w.drew.setCells g (0+i*2) news):=aa;have HFIN:Hid ((W1.setCells g ((i+(n-j))*2) [int i64 0,int i64 0]).ownsRow 0 37 2 (.slice (some ⟨g,0,none⟩) (n-1) cap) (pts.eraseIdx i).length (Zg (pts.eraseIdx i))/\Chg (fun k=>k=g) w (W1.setCells g ((i+(n-j))*2) [int i64 0,int i64 0])):=by
  have:=HR 1;rw[Y,aa,O,ak,hel,Nat.zero_add];exact this
 have E1:Hid (i+(n-j)=n-1):=Y;have hlt:i<j:=by omega
 have q1:(i:Int)+1=(j:Int):=by omega
 rw[q1];have hic:i<=cap:=by omega
 have hij:i<=j:=by omega
 have hjc:j<=cap:=by omega
 have hin:j<=n:=by omega
 have hne:((i:Int) == (j:Int))=false:=beq_eq_false_iff_ne.2 (by omega);clear aa ac ah ai aj O af ag hfz HR h J hcs ab ak hxl hel ae q1 Z hn Y;go_enter func149,ntmps149;go_wp2_with fail
 go_region_law (refine step_append_room rfl (.tmp 22) (.tmp 25) 41 rfl 37 iP 2 underlying41 hiP hsP g 0 i cap (by simp[Act.eval,Act.put]) A (n-j) (cap-j) news (by simp[Act.eval,Act.put,hA]) s1.out hsrc.out s2.out (by omega) s3.out ?_;rw[<-hW.out])
 go_wp2
 go_ret;refine⟨?_,HFIN.out⟩;rw[E1.out];rfl
theorem Z6x (g cap i:Nat)(pts:List Int)(w:World)(h:w.ownsRow 0 3 1 (.slice (some ⟨g,0,none⟩) pts.length cap) pts.length (pts.map (Value.int .i64)))(hl:pts.length<=60)(hi:i<pts.length) :
  Calls prog 150 #[.slice (some ⟨g,0,none⟩) pts.length cap,int i64 (i:Int),int i64 ((i:Int)+1)] w fun e w'=>
   e= .returned (.slice (some ⟨g,0,none⟩) (pts.length-1) cap)/\w'.ownsRow 0 3 1 (.slice (some ⟨g,0,none⟩) (pts.length-1) cap) (pts.eraseIdx i).length ((pts.eraseIdx i).map (Value.int .i64))/\Chg (fun k=>k=g) w w':=by
 obtain⟨iP,hiP,hzP,hsP,hbP⟩:=info_parts Zbi;obtain⟨I,O,hnc,ae,hcs,ab⟩:∃ I,w.heap[g]? =some (.cells I 3 (0,0))/\pts.length<=cap/\cap<=maxLen/\I.size=cap*1/\I.toList.take (pts.length*1)=pts.map (Value.int .i64):=by
  rcases h.2 with ⟨e,_⟩|⟨g',cap',I,e,_,r⟩
  ·cases e
  ·cases e;exact⟨I,r⟩
 have hcm':cap<=9223372036854775807:=ae;have HR:=Zty (z:=int i64 0) O hcs hnc ab hi ae;have hel:(pts.eraseIdx i).length=pts.length-1:=by rw[List.length_eraseIdx,if_pos hi]
 have ai:(pts.eraseIdx i).map (Value.int .i64)=(pts.map (Value.int .i64)).take (i*1) ++ (pts.map (Value.int .i64)).drop ((i+1)*1):=by rw[List.eraseIdx_eq_take_drop_succ,List.map_append,Nat.mul_one,Nat.mul_one,List.map_take,List.map_drop]
 generalize hn:pts.length=n at *
 have hxl:(pts.map (Value.int .i64)).length=n*1:=by rw[List.length_map,hn];omega
 obtain⟨j,Z⟩:∃ j,j=i+1:=⟨_,rfl⟩;obtain⟨news,J⟩:∃ news,news=(pts.map (Value.int .i64)).drop ((i+1)*1):=⟨_,rfl⟩;have af:news.length=(n-j)*1:=by rw[J,List.length_drop,hxl];omega
 have ag:∀ j,j<cap*1->w.cell? ⟨g,j,none⟩=I[j]? :=fun j Z=>by simp[World.cell?,O]
 have hfz:∀ j,w.frozen? ⟨g,j,none⟩=false:=fun j=>by simp[World.frozen?,O]
 have ah:∀ t u,news[t]? =some u->I[j+t]? =some u:=fun t u D=>by
  rw[Z];rw[Nat.mul_one] at J;rw[J,List.getElem?_drop,<-ab] at D;rw[<-Array.getElem?_toList];have:=(List.getElem?_eq_some_iff.1 D).1;rw[List.getElem?_take_of_lt (by simp at this;omega)] at D;exact D
 obtain⟨A,hA,hsrc⟩:∃ A:Addr,(if cap=j then some (⟨g,0,none⟩:Addr) else some ⟨g,j,none⟩)=some A/\Hid (∀ t u,news[t]? =some u->w.drew.cell? (A.add t)=some u):=by
  by_cases hc:cap=j
  ·refine⟨⟨g,0,none⟩,by simp[hc],fun t u D=>?_⟩;have h0:news.length=0:=by rw[af];omega
   rw[List.length_eq_zero_iff.1 h0] at D;simp at D
  ·refine⟨⟨g,j,none⟩,by simp[hc],fun t u D=>?_⟩;have ht:=(List.getElem?_eq_some_iff.1 D).1;rw[Addr.add_lit];show w.cell? _=_
   rw[ag _ (by omega)];exact ah t u D
 have s1:Hid (news.length=(n-j)*1):=af;have s2:Hid (∀ u∈news,u.oneCell'=true):=by
  intro u D;rw[J] at D;obtain⟨p,_,rfl⟩:=List.mem_map.1 (List.mem_of_mem_drop D);rfl
 have s3:Hid (∀ t,t<news.length->(w.drew.cell? ⟨g,0+i*1+t,none⟩).isSome=true/\w.drew.frozen? ⟨g,0+i*1+t,none⟩=false):=by
  intro t ht;refine⟨?_,hfz _⟩;show (w.cell? _).isSome=true
  rw[ag _ (by omega),Array.getElem?_eq_getElem (by omega)];rfl
 obtain⟨W1,aa⟩:∃ W1,W1=w.drew.setCells g (0+i*1) news:=⟨_,rfl⟩;have ac:W1.heap[g]? =some (.cells (I.toList.take (0+i*1) ++ news ++ I.toList.drop (0+i*1+news.length)).toArray 3 (0,0)):=by
  rw[aa];exact Zij news (0+i*1) w.drew I O (by omega)
 have hc1:∀ j,j<cap*1->(W1.cell? ⟨g,j,none⟩).isSome=true:=fun j Z=>by
  simp only[World.cell?,ac];rw[Array.getElem?_eq_getElem (by simp;omega)];rfl
 have hf1:∀ j,W1.frozen? ⟨g,j,none⟩=false:=fun j=>by simp[World.frozen?,ac]
 have Y:i+(n-j)=n-1:=by omega
 have hcl:∀ ty,(Builtin.clear_ #[26] ty #[.slice (some ⟨g,(i+(n-j)),none⟩) (n-(i+(n-j))) (cap-(i+(n-j)))]).run prog W1= .ok (.tuple #[]) (W1.setCells g ((i+(n-j))) [int i64 0]):=by
  intro ty;rw[Y,show n-(n-1)=1 by omega];exact Z6v W1 g _ _ ty (hc1 _ (by omega)) (hf1 _)
 have hW:Hid (W1=w.drew.setCells g (0+i*1) news):=aa;have HFIN:Hid ((W1.setCells g ((i+(n-j))) [int i64 0]).ownsRow 0 3 1 (.slice (some ⟨g,0,none⟩) (n-1) cap) (pts.eraseIdx i).length ((pts.eraseIdx i).map (Value.int .i64))/\Chg (fun k=>k=g) w (W1.setCells g ((i+(n-j))) [int i64 0])):=by
  have:=HR 1;rw[Y,aa,J,ai,hel,Nat.zero_add];simp only[Nat.mul_one] at this ⊢;exact this
 have E1:Hid (i+(n-j)=n-1):=Y;have hlt:i<j:=by omega
 have q1:(i:Int)+1=(j:Int):=by omega
 rw[q1];have hic:i<=cap:=by omega
 have hij:i<=j:=by omega
 have hjc:j<=cap:=by omega
 have hin:j<=n:=by omega
 have hne:((i:Int) == (j:Int))=false:=beq_eq_false_iff_ne.2 (by omega);clear aa ac hc1 hf1 ah J af ag hfz HR h O hcs ab ai hxl hel ae q1 Z hn Y;go_enter func150,ntmps150;go_wp2_with fail
 go_region_law (refine step_append_room rfl (.tmp 22) (.tmp 25) 26 rfl 3 iP 1 underlying26 hiP hsP g 0 i cap (by simp[Act.eval,Act.put]) A (n-j) (cap-j) news (by simp[Act.eval,Act.put,hA]) s1.out hsrc.out s2.out (by omega) s3.out ?_;rw[<-hW.out])
 go_wp2
 go_ret;refine⟨?_,HFIN.out⟩;rw[E1.out];rfl
def Zk0 (m:Nat)(vA vN:Value)(i:Nat):Nat->Option Value
 | 0=>some (.pointer (some ⟨m,0,none⟩))
 | 1=>some (.pointer (some ⟨m,0,none⟩))
 | 2=>some (.pointer (some ⟨m,0,none⟩))
 | 3=>some (.pointer (some ⟨m,0,none⟩))
 | 4=>some (.pointer (some ⟨m,0,none⟩))
 | 5=>some vA
 | 6=>some (int i64 (i:Int))
 | 7=>some (int i64 (i:Int))
 | 8=>some (int i64 ((i:Int)+1))
 | 10=>some (.pointer (some ⟨m,0,none⟩))
 | 11=>some (.pointer (some ⟨m,0,none⟩))
 | 12=>some (.pointer (some ⟨m,1,none⟩))
 | 13=>some vN
 | 14=>some (int i64 (i:Int))
 | 15=>some (int i64 (i:Int))
 | 16=>some (int i64 ((i:Int)+1))
 | 18=>some (.pointer (some ⟨m,0,none⟩))
 | 19=>some (.pointer (some ⟨m,0,none⟩))
 | 21=>some (.pointer (some ⟨m,0,none⟩))
 | 22=>some (.pointer (some ⟨m,1,none⟩))
 | _=>none
def Fdl (T:TypeId)(s:Nat)(v e:Value)(n D:Nat)(xs I:List Value)(b:Bool)(x:Value)(w:World):Prop:=
 (b=true->x=e/\w.ownsRow 0 T s e D I)/\(b=false->w.ownsRow 0 T s v n xs)
theorem Fdl.keep {w w':World}{T:TypeId}{s n D:Nat}{v I x:Value}{xs J:List Value}{b:Bool}(h:Fdl T s v I n D xs J b x w)(k:Zcp T w w'):Fdl T s v I n D xs J b x w':=
 ⟨fun e=>⟨(h.1 e).1,k.own (h.1 e).2⟩,fun e=>k.own (h.2 e)⟩
structure RemI (V:World)(m:Nat)(vA vN vA' vN':Value)(pts:List Pt)(nums:List Int)(ever i:Nat)(L:Nat->Bool)(σ:Nat->Value)(w:World):Prop where
 val:∀ j v,Zk0 m vA vN i j=some v->L j=true->σ j=v
 fA:Fdl 37 2 vA vA' pts.length (pts.eraseIdx i).length (Zg pts) (Zg (pts.eraseIdx i)) (L 9) (σ 9) w
 fN:Fdl 3 1 vN vN' nums.length (nums.eraseIdx i).length (nums.map (int i64)) ((nums.eraseIdx i).map (int i64)) (L 17) (σ 17) w
 fM:w.heap[m]? =some (.cells #[if L 20 then vA' else vA,if L 23 then vN' else vN,int i64 (ever:Int)] 101 (0,0))
 chg:Chg (Zfu m vA vN) V w
section
variable {V w w':World} {m:Nat} {vA vN vA' vN':Value} {pts:List Pt} {nums:List Int} {ever i:Nat} {L:Nat->Bool} {σ:Nat->Value} {o:Nat} {v:Value}
theorem RemI.stepV (h:RemI V m vA vN vA' vN' pts nums ever i L σ w)(I:Zk0 m vA vN i o=some v):RemI V m vA vN vA' vN' pts nums ever i (fun j=>if j=o then true else L j) (fun j=>if j=o then v else σ j) w:=by
 have ne:∀ j,Zk0 m vA vN i j=none->j≠o:=fun j D e=>by rw[e,I] at D;cases D
 have Y:=ne 9 rfl;have O:=ne 17 rfl;have Z:=ne 20 rfl;have aa:=ne 23 rfl;refine⟨fun j u D J=>?_,?_,?_,?_,h.chg⟩
 ·by_cases e:j=o
  ·subst e;rw[I] at D;cases D;simp
  ·simp only[if_neg e] at J ⊢;exact h.val j u D J
 ·simp only[if_neg Y];exact h.fA
 ·simp only[if_neg O];exact h.fN
 ·simp only[if_neg Z,if_neg aa];exact h.fM
theorem RemI.stepW (h:RemI V m vA vN vA' vN' pts nums ever i L σ w) (J:Zk0 m vA vN i o=none)
  (fA:Fdl 37 2 vA vA' pts.length (pts.eraseIdx i).length (Zg pts) (Zg (pts.eraseIdx i)) (if 9=o then true else L 9) (if 9=o then v else σ 9) w')
  (fN:Fdl 3 1 vN vN' nums.length (nums.eraseIdx i).length (nums.map (int i64)) ((nums.eraseIdx i).map (int i64)) (if 17=o then true else L 17) (if 17=o then v else σ 17) w')
  (fM:w'.heap[m]? =some (.cells #[if (if 20=o then true else L 20)=true then vA' else vA,if (if 23=o then true else L 23)=true then vN' else vN,int i64 (ever:Int)] 101 (0,0)))
  (hc:Chg (Zfu m vA vN) w w'):RemI V m vA vN vA' vN' pts nums ever i (fun j=>if j=o then true else L j) (fun j=>if j=o then v else σ j) w':=by
 refine⟨fun j u D I=>?_,fA,fN,fM,h.chg.trans hc fun _ _ g=>g⟩;have e:j≠o:=fun e=>by rw[e,J] at D;cases D
 simp only[if_neg e] at I ⊢;exact h.val j u D I
theorem RemI.cells (h:RemI V m vA vN vA' vN' pts nums ever i L σ w):w.cell? ⟨m,0,none⟩=some (if L 20 then vA' else vA)/\w.cell? ⟨m,1,none⟩=some (if L 23 then vN' else vN)/\∀ j,w.frozen? ⟨m,j,none⟩=false:=by
 have e:=h.fM;simp[World.cell?,World.frozen?,e]
end
theorem Ztz (w:World)(x y:Operand)(k:Nat)(h:k<=1000000):Sem.run prog (do eqGuard .add 3 x y (int i64 (k:Int)) (int i64 1);binOp .add 3 (int i64 (k:Int)) (int i64 1)) w= .ok (int i64 ((k:Int)+1)) w:=by
 have e:IntKind.i64.wrap ((k:Int)+1)=(k:Int)+1:=Zd (by omega) (by omega);go_simp
def Zn7 (w w':World)(m:Nat)(pts:List Pt)(nums:List Int)(ever:Nat)(vA vN:Value)(n e:Int):Prop:=
 (n ∉ nums/\e=4/\Below w.heap.size w w')\/
 (n∈nums/\e=0/\∃ i,i<nums.length/\nums.getD i 0=n/\∃ vA' vN',PRow w' m (pts.eraseIdx i) (nums.eraseIdx i) ever vA' vN'/\Chg (Zfu m vA vN) w w'/\(∀ g,vA'.ownBlock=some g->vA.ownBlock=some g)/\(∀ g,vN'.ownBlock=some g->vN.ownBlock=some g))
theorem Z6y (m:Nat)(pts:List Pt)(nums:List Int)(ever:Nat)(vA vN:Value)(n:Int)(w:World)(H:PRow w m pts nums ever vA vN)(hOk:MOk pts nums ever) :
  Calls prog 126 #[.pointer (some ⟨m,0,none⟩),int i64 n] w fun e w'=>∃ r,e= .returned (int i64 r)/\Zn7 w w' m pts nums ever vA vN n r:=by
 have hle:=hOk.le;have hn60:nums.length<=60:=by have:=hOk.len;omega
 have HLN:Hid (pts.length=nums.length):=hOk.len;have HH:Hid (PRow w m pts nums ever vA vN):=H;obtain⟨pa,pc,rfl⟩:=Zn H.ownA;obtain⟨na,nc,rfl⟩:=Zn H.ownN;have HNA:Hid (Zy w na nums):=Zy.of_own H.ownN;have HIN:Hid (nums.Pairwise (· < ·)):=hOk.inc;have d1:=H.cells.2.1;have hm:=H.lt;clear H hOk;by_cases hmem:n∈nums
 ·have hdt:decide (n∈nums)=true:=decide_eq_true hmem;have HM:Hid (n∈nums):=hmem;clear hmem;go_enter func126,ntmps126;go_wp2_with (go_at_call 148;refine (Ztw _ _ nums n _ hn60 HNA.out HIN.out).mono ?_;rintro e w1 ⟨i,rfl,hi,hb1⟩;rw[hdt])
  obtain⟨hin,hie⟩:=hi HM.out;have H1:=HH.out.below hb1;have HB1:Hid (Below w.heap.size w w1):=hb1;have HI:Hid (i<nums.length/\nums.getD i 0=n):=⟨hin,hie⟩;have hip:i<pts.length:=by rw[HLN.out];exact hin
  obtain⟨Y,rfl,hgA,_⟩:=Zcw H1.ownA (by omega);obtain⟨gN,rfl,hgN,_⟩:=Zcw H1.ownN (by omega);have HH1:Hid (PRow w1 m pts nums ever (.slice (some ⟨Y,0,none⟩) pts.length pc) (.slice (some ⟨gN,0,none⟩) nums.length nc)):=H1;have hi60:i<=1000000:=by omega
  clear hi hie H1 hb1 d1 HNA hgA hgN;have HV:Hid (RemI w1 m (.slice (some ⟨Y,0,none⟩) pts.length pc) (.slice (some ⟨gN,0,none⟩) nums.length nc) (.slice (some ⟨Y,0,none⟩) (pts.length-1) pc) (.slice (some ⟨gN,0,none⟩) (nums.length-1) nc) pts nums ever i (fun _=>false) (fun _=>undef) w1.drew):=
   ⟨(fun _ _ _ h=>by cases h),⟨(fun h=>by cases h),fun _=>HH1.out.ownA⟩,⟨(fun h=>by cases h),fun _=>HH1.out.ownN⟩,HH1.out.blk,⟨rfl,rfl,rfl,Nat.le_refl _,fun _ _ _=>rfl⟩⟩
  refine Zd9 (m:=24) (by kernel_rfl) (by kernel_rfl) (dsts:=[some 18,some 19,some 20,some 21,some 22,some 23,some 24,some 25,some 26,some 27,some 28,some 29,some 30,some 31,some 32,some 33,some 34,some 35,some 36,some 37,none,some 38,some 39,none]) rfl (by kernel_rfl) (l:=[]) rfl (RemI w1 m (.slice (some ⟨Y,0,none⟩) pts.length pc) (.slice (some ⟨gN,0,none⟩) nums.length nc) (.slice (some ⟨Y,0,none⟩) (pts.length-1) pc) (.slice (some ⟨gN,0,none⟩) (nums.length-1) nc) pts nums ever i) HV.out ?_ ?_
  ·refine flS (flS (flS (flS (flS (flS (flS (flS (flS (flS (flS (flS (flS (flS (flS (flS (flS (flS (flS (flS (flS (flS (flS (flS fl0 ?_) ?_) ?_) ?_) ?_) ?_) ?_) ?_) ?_) ?_) ?_) ?_) ?_) ?_) ?_) ?_) ?_) ?_) ?_) ?_) ?_) ?_) ?_) ?_;all_goals intro O σ wx D I hdn aa
   ·exact (Z8 (x:=.tmp 0) rfl rfl (D.stepV (o:=0) rfl)).toS
   ·exact (Z8 (x:=.tmp 0) rfl rfl (D.stepV (o:=1) rfl)).toS
   ·exact (Z8 (x:=.tmp 0) rfl rfl (D.stepV (o:=2) rfl)).toS
   ·exact (Za1 (x:=.tmp 20) rfl (show σ 2=_ from D.val 2 _ rfl (I 2 rfl)) (D.stepV (o:=3) rfl)).toS
   ·exact (Za2 (T:=99) (x:=.tmp 21) (f:=0) rfl (show σ 3=_ from D.val 3 _ rfl (I 3 rfl)) (Zg4 _ _) (D.stepV (o:=4) rfl)).toS
   ·have n20:O 20=false:=by
     cases Z:O 20 with
     | false=>rfl
     | true=>have:=(hdn 9 5 (hdn 20 9 Z rfl) rfl);rw[aa] at this;cases this
    have c:=D.cells.1;rw[n20] at c;exact (Yr (T:=41) (x:=.tmp 22) rfl (show σ 4=_ from D.val 4 _ rfl (I 4 rfl)) (Zgs _ _ _ _ c) (D.stepV (o:=5) rfl)).toS
   ·exact (Z8 (x:=.tmp 5) rfl rfl (D.stepV (o:=6) rfl)).toS
   ·exact (Z8 (x:=.tmp 5) rfl rfl (D.stepV (o:=7) rfl)).toS
   ·exact (Zlu (b:=.add) (T:=3) (T':=3) (x:=.tmp 25) (y:=.const (int i64 1)) rfl (show σ 7=_ from D.val 7 _ rfl (I 7 rfl)) rfl (Ztz _ _ _ _ hi60) (D.stepV (o:=8) rfl)).toS
   ·have n20:O 20=false:=by
     cases Z:O 20 with
     | false=>rfl
     | true=>have:=(hdn 20 9 Z rfl);rw[aa] at this;cases this
    have n23:O 23=false:=by
     cases Z:O 23 with
     | false=>rfl
     | true=>have:=(hdn 20 9 (hdn 23 20 Z rfl) rfl);rw[aa] at this;cases this
    have h5':σ 5=_:=D.val 5 _ rfl (I 5 rfl);have h6':σ 6=_:=D.val 6 _ rfl (I 6 rfl);have h8':σ 8=_:=D.val 8 _ rfl (I 8 rfl);have ho:=D.fA.2 aa;obtain⟨cA,hcA⟩:=Yy ho rfl;refine (Zei (f:=149) (args:=[.slice (some ⟨Y,0,none⟩) pts.length pc,int i64 (i:Int),int i64 ((i:Int)+1)]) rfl rfl (by show [σ 5,σ 6,σ 8]=_;rw[h5',h6',h8']) (by go_simp) ((Z6w Y pc i pts wx ho hle hip).mono ?_)).toS;rintro e w' ⟨rfl,ho',hc⟩;refine⟨_,rfl,D.stepW (o:=9) rfl ?_ ?_ ?_ ?_⟩
    ·exact⟨fun _=>⟨rfl,ho'⟩,fun h=>by simp at h⟩
    ·exact D.fN.keep (Zkc hc hcA (by decide))
    ·exact Zkc hc hcA (by decide) _ _ D.fM
    ·exact hc.mono fun k _ h=>by subst h;exact .inr (.inl rfl)
   ·exact (Z8 (x:=.tmp 0) rfl rfl (D.stepV (o:=10) rfl)).toS
   ·exact (Za1 (x:=.tmp 28) rfl (show σ 10=_ from D.val 10 _ rfl (I 10 rfl)) (D.stepV (o:=11) rfl)).toS
   ·exact (Za2 (T:=99) (x:=.tmp 29) (f:=1) rfl (show σ 11=_ from D.val 11 _ rfl (I 11 rfl)) (Zky _ _) (D.stepV (o:=12) rfl)).toS
   ·have n23:O 23=false:=by
     cases Z:O 23 with
     | false=>rfl
     | true=>have:=(hdn 17 13 (hdn 23 17 Z rfl) rfl);rw[aa] at this;cases this
    have c:=D.cells.2.1;rw[n23] at c;exact (Yr (T:=26) (x:=.tmp 30) rfl (show σ 12=_ from D.val 12 _ rfl (I 12 rfl)) (Zm9 _ _ _ _ c) (D.stepV (o:=13) rfl)).toS
   ·exact (Z8 (x:=.tmp 5) rfl rfl (D.stepV (o:=14) rfl)).toS
   ·exact (Z8 (x:=.tmp 5) rfl rfl (D.stepV (o:=15) rfl)).toS
   ·exact (Zlu (b:=.add) (T:=3) (T':=3) (x:=.tmp 33) (y:=.const (int i64 1)) rfl (show σ 15=_ from D.val 15 _ rfl (I 15 rfl)) rfl (Ztz _ _ _ _ hi60) (D.stepV (o:=16) rfl)).toS
   ·have h13':σ 13=_:=D.val 13 _ rfl (I 13 rfl);have h14':σ 14=_:=D.val 14 _ rfl (I 14 rfl);have h16':σ 16=_:=D.val 16 _ rfl (I 16 rfl);have ho:=D.fN.2 aa;obtain⟨cN,hcN⟩:=Yy ho rfl;refine (Zei (f:=150) (args:=[.slice (some ⟨gN,0,none⟩) nums.length nc,int i64 (i:Int),int i64 ((i:Int)+1)]) rfl rfl (by show [σ 13,σ 14,σ 16]=_;rw[h13',h14',h16']) (by go_simp) ((Z6x gN nc i nums wx ho hn60 hin).mono ?_)).toS;rintro e w' ⟨rfl,ho',hc⟩;refine⟨_,rfl,D.stepW (o:=17) rfl ?_ ?_ ?_ ?_⟩
    ·exact D.fA.keep (Zkc hc hcN (by decide))
    ·exact⟨fun _=>⟨rfl,ho'⟩,fun h=>by simp at h⟩
    ·exact Zkc hc hcN (by decide) _ _ D.fM
    ·exact hc.mono fun k _ h=>by subst h;exact .inr (.inr rfl)
   ·exact (Za1 (x:=.tmp 18) rfl (show σ 0=_ from D.val 0 _ rfl (I 0 rfl)) (D.stepV (o:=18) rfl)).toS
   ·exact (Za2 (T:=99) (x:=.tmp 36) (f:=0) rfl (show σ 18=_ from D.val 18 _ rfl (I 18 rfl)) (Zg4 _ _) (D.stepV (o:=19) rfl)).toS
   ·have n23:O 23=false:=by
     cases Z:O 23 with
     | false=>rfl
     | true=>have:=(hdn 23 20 Z rfl);rw[aa] at this;cases this
    have e9:=(D.fA.1 (I 9 rfl)).1;have J:=D.fM;rw[aa,n23] at J;simp only[Bool.false_eq_true,if_false] at J;have st:=heap_setCell_same _ m 0 _ _ (.slice (some ⟨Y,0,none⟩) (pts.length-1) pc) J;have c:=D.cells;refine Zc0 (T:=41) (x:=.tmp 37) (y:=.tmp 27) rfl (show σ 19=_ from D.val 19 _ rfl (I 19 rfl)) (show σ 9=_ from e9) (Znb _ _ _ _ _ _ _ c.1 (c.2.2 0)) (D.stepW (o:=20) rfl ?_ ?_ ?_ ?_)
    ·exact D.fA.keep (Zat J (by decide))
    ·exact D.fN.keep (Zat J (by decide))
    ·rw[st];simp[n23]
    ·exact⟨rfl,rfl,rfl,by simp[World.setCell],fun k _ hk=>Below.heap_setCell _ _ _ _ fun e=>hk (.inl e)⟩
   ·exact (Za1 (x:=.tmp 19) rfl (show σ 1=_ from D.val 1 _ rfl (I 1 rfl)) (D.stepV (o:=21) rfl)).toS
   ·exact (Za2 (T:=99) (x:=.tmp 38) (f:=1) rfl (show σ 21=_ from D.val 21 _ rfl (I 21 rfl)) (Zky _ _) (D.stepV (o:=22) rfl)).toS
   ·have h20:O 20=true:=I 20 rfl;have e17:=(D.fN.1 (I 17 rfl)).1;have J:=D.fM;rw[aa,h20] at J;simp only[Bool.false_eq_true,if_false,if_true] at J;have st:=heap_setCell_same _ m 1 _ _ (.slice (some ⟨gN,0,none⟩) (nums.length-1) nc) J;have c:=D.cells;refine Zc0 (T:=26) (x:=.tmp 39) (y:=.tmp 35) rfl (show σ 22=_ from D.val 22 _ rfl (I 22 rfl)) (show σ 17=_ from e17) (Znc _ _ _ _ _ _ _ c.2.1 (c.2.2 1)) (D.stepW (o:=23) rfl ?_ ?_ ?_ ?_)
    ·exact D.fA.keep (Zat J (by decide))
    ·exact D.fN.keep (Zat J (by decide))
    ·rw[st];simp[h20]
    ·exact⟨rfl,rfl,rfl,by simp[World.setCell],fun k _ hk=>Below.heap_setCell _ _ _ _ fun e=>hk (.inl e)⟩
  ·intro O σ wx D hall;have h9:=hall 9 (by omega);have h17:=hall 17 (by omega);have h20:=hall 20 (by omega);have h23:=hall 23 (by omega);have J:=D.fM;rw[h20,h23] at J;simp only[if_true] at J;have HFIN:Hid (Zn7 w wx m pts nums ever (.slice (some ⟨Y,0,none⟩) pts.length pc) (.slice (some ⟨gN,0,none⟩) nums.length nc) n 0):=
    .inr ⟨HM.out,rfl,i,HI.out.1,HI.out.2,_,_,⟨J,(D.fA.1 h9).2,(D.fN.1 h17).2⟩,(Chg.of_below HB1.out).trans D.chg fun _ _ h=>h,fun _ h=>h,fun _ h=>h⟩
   clear J D;refine⟨?_⟩;simp only[lay,Act.put,List.drop_succ_cons,List.drop_zero,List.setIfInBounds_toArray,List.set_cons_succ,List.set_cons_zero];go_wp2_with fail
   go_ret;exact⟨0,rfl,HFIN.out⟩
 ·have hdf:decide (n∈nums)=false:=decide_eq_false hmem;have HM:Hid (n ∉ nums):=hmem;clear hmem;go_enter func126,ntmps126;go_wp2_with (go_at_call 148;refine (Ztw _ _ nums n _ hn60 HNA.out HIN.out).mono ?_;rintro e w1 ⟨i,rfl,hi,hb1⟩;rw[hdf])
  go_ret;exact⟨4,rfl,.inl ⟨HM.out,rfl,hb1⟩⟩
end Go.Proofs.YtgpapegpdfonpaaGreatDoor
