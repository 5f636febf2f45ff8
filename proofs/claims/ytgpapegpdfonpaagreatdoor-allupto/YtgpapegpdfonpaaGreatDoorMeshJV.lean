/- Part. -/
import Derived.ProofKit
import Derived.OpenShut
import Derived.Lib.SmallJoins
import Derived.JoinedOf
import Derived.JoinedAt
import Derived.SizedLaws
import Derived.Deep.Slices
import Derived.ChangeOld
import Derived.Carry
import Derived.Test.YtgpapegpdfonpaaGreatDoorMeshAI
set_option linter.unusedVariables false
set_option linter.unusedSimpArgs false
set_option maxHeartbeats 16000000
set_option maxRecDepth 100000
namespace Go.Proofs.YtgpapegpdfonpaaGreatDoor
open Go.ChangeShapes Go.WideShapes Go.ChangeAt Go.RowKit Go.Joins Go.Proofs.Tryz
open Go.Value(int)
open Go.IntKind(i64)
theorem own:ownKnob prog.godebug=none:=by kernel_rfl
theorem Z4t:laidOutB prog=true:=by kernel_rfl
theorem Znw:prog.cellsOf 37=2:=by kernel_rfl
theorem Zkq:prog.cellsOf 3=1:=by kernel_rfl
theorem Zs4:prog.cellsOf 9=1:=by kernel_rfl
theorem Z4u:prog.cellsOf 41=1:=by kernel_rfl
theorem Zs5:prog.cellsOf 42=1:=by kernel_rfl
theorem Zkr:prog.cellsOf 44=14:=by kernel_rfl
theorem Zce (b e j:Nat):(⟨b,e,none⟩:Addr).add j=⟨b,e+j,none⟩:=by unfold Addr.add;split <;> simp_all
theorem Z4v:prog.bytesOf 37=16:=by kernel_rfl
theorem Z4w:prog.bytesOf 44=152:=by kernel_rfl
def Zih {H:Type}(t:TypeId)(d:DataW H):Prop:=∀ n∈d.weights prog t,n<=reachBytes
theorem Zs6 {H:Type}{P:Program}{e:TypeId}{d:DataW H}{n:Nat}:∀ {l:List (DataW H)},d∈l->n∈d.weights P e->n∈DataW.weightsAll P e l
 | x :: r,h,hn=>by
  simp only[DataW.weightsAll,List.mem_append];rcases List.mem_cons.1 h with rfl|h
  ·exact .inl hn
  ·exact .inr (Zs6 h hn)
theorem bdM {x:Int}(h:(Lit.int .i64 x).wf=true): -9223372036854775808<=x/\x<=9223372036854775807:=by
 simpa [Lit.wf,IntKind.min,IntKind.max,IntKind.signed,IntKind.bits] using h
def Znx (o:OpD):Prop:=(-9223372036854775808<=o.n/\o.n<=9223372036854775807)/\(-9223372036854775808<=o.wh/\o.wh<=9223372036854775807)
def Zgy (e:List OpD):Prop:=∀ k,(h:k<e.length)->Znx e[k]
section
variable {H:Type} {enc:TypeId×Value->H} {W:World} {sp:Nat->Bool} {held:Bool} {fuel:Nat}
theorem Z4x {cs:List Value}{x:DataW H×List MemPlace}(h:DataW.trod enc prog W 0 sp held fuel 41 cs=some x) :
  ∃ (a:Option Addr) (O:List Pt) (cap:Nat),cs=[.slice a O.length cap]/\Z0 W a O/\(Zih 41 x.1->O.length<=8796093021952):=by
 rcases Deep.open_slice underlying41 h with ⟨rfl,rfl⟩|⟨ad,len,cap,m,n,D,Pl,rfl,_,hl,hm,hmm,rfl,hx⟩
 ·exact⟨none,[],0,rfl,.inl rfl,fun _=>by simp⟩
 ·have hle:len<=m:=by rw[hmm];split <;> omega
  have key:∀ i,∃ p:Pt,i<len->W.cell? ((ad.add (i*2)).add 0)=some (int i64 p.1)/\W.cell? ((ad.add (i*2)).add 1)=some (int i64 p.2):=by
   intro i;by_cases hi:i<len
   ·obtain⟨cs',h1,h2⟩:=hx i (by omega);rw[Znw] at h1;obtain⟨_,hlen,hc⟩:=World.cells?_some h1;obtain⟨y0,y1,n',hxx,_,Z,e1⟩:=trod_struct2 underlying37 h2;match cs',hlen with
    | [c0,c1],_=>
     simp only[Zkq,List.drop_zero,List.drop_succ_cons,List.take_succ_cons,List.take_zero] at Z e1;obtain⟨z0,aa,_,w0⟩:=DataW.trod_int underlying3 Z;obtain⟨z1,ab,_,w1⟩:=DataW.trod_int underlying3 e1;simp only[List.cons.injEq,and_true] at aa ab;subst aa ab;exact⟨(z0,z1),fun _=>⟨hc 0 (by omega),hc 1 (by omega)⟩⟩
   ·exact⟨(0,0),fun h=>absurd h hi⟩
  obtain⟨f,hf⟩:=Classical.axiomOfChoice key;refine⟨some ad,(List.range len).map f,cap,by simp,?_,?_⟩
  ·by_cases h0:len=0
   ·subst h0;exact .inl rfl
   ·right;obtain⟨b,off,spot⟩:=ad;obtain⟨I,J⟩:=hf 0 (by omega);have hspot:spot=none:=by simpa [Addr.add] using World.cell?_spot I
    subst hspot;rw[Zce,Zce] at I;refine⟨b,off,rfl,World.block_lt_of_cell? W _ I,?_⟩;intro j hj;have Y:j<len:=by simpa using hj
    obtain⟨I,J⟩:=hf j Y;rw[Zce,Zce] at I J;have e:((List.range len).map f).getD j (0,0)=f j:=by simp[Y]
    rw[e];exact⟨I,J⟩
  ·intro hw;have:=hw ((len+(m-len))*prog.bytesOf 37) (by simp[DataW.weights,underlying41]);rw[Z4v] at this;have hr:reachBytes=140737488351232:=by decide
   rw[List.length_map,List.length_range];omega
theorem Ze2 {c:List Value}{x:DataW H×List MemPlace}(h:DataW.trod enc prog W 0 sp held fuel 3 c=some x):∃ z:Int,c=[int i64 z]/\ -9223372036854775808<=z/\z<=9223372036854775807:=by
 obtain⟨z,e,_,D⟩:=DataW.trod_int underlying3 h;exact⟨z,e,bdM D⟩
theorem Zks {c:List Value}{x:DataW H×List MemPlace}(h:DataW.trod enc prog W 0 sp held fuel 37 c=some x):∃ a b:Int,c=[int i64 a,int i64 b]:=by
 obtain⟨y0,y1,n',hxx,O,J,e⟩:=trod_struct2 underlying37 h;rw[Znw] at O;match c,O with
 | [c0,c1],_=>
  simp only[Zkq,List.drop_zero,List.drop_succ_cons,List.take_succ_cons,List.take_zero] at J e;obtain⟨Y,D,_⟩:=Ze2 J;obtain⟨Z,I,_⟩:=Ze2 e;simp only[List.cons.injEq,and_true] at D I;exact⟨Y,Z,by rw[D,I]⟩
theorem Z4y {c:List Value}{x:DataW H×List MemPlace}(h:DataW.trod enc prog W 0 sp held fuel 42 c=some x):∃ a n k,c=[.slice a n k]:=by
 rcases Deep.open_slice underlying42 h with ⟨rfl,rfl⟩|⟨ad,len,cap,m,n,D,e,rfl,_⟩
 ·exact⟨none,0,0,rfl⟩
 ·exact⟨_,_,_,rfl⟩
theorem Z4z {c:List Value}{x:DataW H×List MemPlace}(h:DataW.trod enc prog W 0 sp held fuel 44 c=some x):∃ o:OpD,c=o.cells/\Z0 W o.la o.l/\(Zih 44 x.1->o.l.length<=8796093021952)/\Znx o:=by
 obtain⟨xs,n,_,rfl,Z,hlen,e⟩:=DataW.trod_struct underlying44 h;rw[Zkr] at Z;match c,Z with
 | [v0,v1,v2,v3,v4,v5,v6,v7,v8,v9,v10,v11,v12,v13],_=>
  match xs,hlen with
  | [y0,y1,y2,y3,y4,y5,y6,y7,y8,y9],_=>
   have k0:DataW.trod enc prog W 0 sp held n 3 (List.take (prog.cellsOf 3) (List.drop 0 [v0,v1,v2,v3,v4,v5,v6,v7,v8,v9,v10,v11,v12,v13]))=some y0:=e 0 _ rfl;have k1:DataW.trod enc prog W 0 sp held n 3 (List.take (prog.cellsOf 3) (List.drop 1 [v0,v1,v2,v3,v4,v5,v6,v7,v8,v9,v10,v11,v12,v13]))=some y1:=e 1 _ rfl;have k2:DataW.trod enc prog W 0 sp held n 3 (List.take (prog.cellsOf 3) (List.drop 2 [v0,v1,v2,v3,v4,v5,v6,v7,v8,v9,v10,v11,v12,v13]))=some y2:=e 2 _ rfl;have k3:DataW.trod enc prog W 0 sp held n 37 (List.take (prog.cellsOf 37) (List.drop 3 [v0,v1,v2,v3,v4,v5,v6,v7,v8,v9,v10,v11,v12,v13]))=some y3:=e 3 _ rfl;have k4:DataW.trod enc prog W 0 sp held n 37 (List.take (prog.cellsOf 37) (List.drop 5 [v0,v1,v2,v3,v4,v5,v6,v7,v8,v9,v10,v11,v12,v13]))=some y4:=e 4 _ rfl;have k5:DataW.trod enc prog W 0 sp held n 37 (List.take (prog.cellsOf 37) (List.drop 7 [v0,v1,v2,v3,v4,v5,v6,v7,v8,v9,v10,v11,v12,v13]))=some y5:=e 5 _ rfl;have k6:DataW.trod enc prog W 0 sp held n 37 (List.take (prog.cellsOf 37) (List.drop 9 [v0,v1,v2,v3,v4,v5,v6,v7,v8,v9,v10,v11,v12,v13]))=some y6:=e 6 _ rfl;have k7:DataW.trod enc prog W 0 sp held n 41 (List.take (prog.cellsOf 41) (List.drop 11 [v0,v1,v2,v3,v4,v5,v6,v7,v8,v9,v10,v11,v12,v13]))=some y7:=e 7 _ rfl;have k8:DataW.trod enc prog W 0 sp held n 42 (List.take (prog.cellsOf 42) (List.drop 12 [v0,v1,v2,v3,v4,v5,v6,v7,v8,v9,v10,v11,v12,v13]))=some y8:=e 8 _ rfl;have k9:DataW.trod enc prog W 0 sp held n 9 (List.take (prog.cellsOf 9) (List.drop 13 [v0,v1,v2,v3,v4,v5,v6,v7,v8,v9,v10,v11,v12,v13]))=some y9:=e 9 _ rfl;simp only[Zkq,Znw,Z4u,Zs5,Zs4,List.drop_zero,List.drop_succ_cons,List.take_succ_cons,List.take_zero] at k0 k1 k2 k3 k4 k5 k6 k7 k8 k9;obtain⟨z0,Y,r0⟩:=Ze2 k0;obtain⟨z1,e1,r1⟩:=Ze2 k1;obtain⟨z2,e2,r2⟩:=Ze2 k2;obtain⟨a3,b3,I⟩:=Zks k3;obtain⟨a4,b4,J⟩:=Zks k4;obtain⟨a5,b5,O⟩:=Zks k5;obtain⟨a6,b6,D⟩:=Zks k6;obtain⟨la,l,lc,e7,hr,hb⟩:=Z4x k7;obtain⟨ta,tn,tc,e8⟩:=Z4y k8;obtain⟨s,e9,_⟩:=DataW.trod_string underlying9 k9;simp only[List.cons.injEq,and_true] at Y e1 e2 I J O D e7 e8 e9;refine⟨⟨z0,z1,z2,a3,b3,a4,b4,a5,b5,a6,b6,la,l,lc,ta,tn,tc,s⟩,?_,hr,?_,r1,r2⟩
   ·simp only[OpD.cells];rw[Y,e1,e2,I.1,I.2,J.1,J.2,O.1,O.2,D.1,D.2,e7,e8,e9]
   ·intro hw;refine hb fun q hq=>hw q ?_
    simp only[DataW.weights,underlying44];exact DataW.weights_mem_each (j:=7) (t:=41) (d:=y7.1) rfl rfl q hq
theorem Z40 {c:List Value}{x:DataW H×List MemPlace}(h:DataW.trod enc prog W 0 sp held fuel 22 c=some x)(hw:Zih 22 x.1) :
  ∃ (a:Option Addr) (J:List OpD) (cap:Nat),c=[.slice a J.length cap]/\Zdy W.heap.size W a J/\Zgy J/\J.length<=925904528626:=by
 rcases Deep.open_slice underlying22 h with ⟨rfl,rfl⟩|⟨ad,len,cap,m,n,D,Pl,rfl,_,hl,hm,hmm,rfl,hx⟩
 ·exact⟨none,[],0,rfl,(fun k hk=>by simp at hk),(fun k hk=>by simp at hk),by simp⟩
 ·have hle:len<=m:=by rw[hmm];split <;> omega
  have hin : ∀ i, i < len → Zih 44 (D i) := fun i hi q hq => hw q (by
    simp only [DataW.weights, underlying22]
    exact List.mem_cons_of_mem _ (List.mem_append.2 (.inl (Zs6 (List.mem_map.2 ⟨i, by simpa using hi, rfl⟩) hq))))
  have key:∀ i,∃ o:OpD,i<len->(∀ j,j<14->W.cell? ((ad.add (i*14)).add j)=o.cells[j]?)/\Z0 W o.la o.l/\o.l.length<=8796093021952/\Znx o:=by
   intro i;by_cases hi:i<len
   ·obtain⟨cs',h1,h2⟩:=hx i (by omega);rw[Zkr] at h1;obtain⟨_,hlen,hc⟩:=World.cells?_some h1;obtain⟨o,rfl,O,Y,hg⟩:=Z4z h2;refine⟨o,fun _=>⟨fun j hj=>?_,O,Y (hin i hi),hg⟩⟩;rw[hc j (by omega)]
   ·exact⟨⟨0,0,0,0,0,0,0,0,0,0,0,none,[],0,none,0,0,.empty⟩,fun h=>absurd h hi⟩
  obtain⟨f,hf⟩:=Classical.axiomOfChoice key;refine⟨some ad,(List.range len).map f,cap,by simp,?_,?_,?_⟩
  ·intro k Z;have hk2:k<len:=by simpa using Z
   have e:((List.range len).map f)[k]=f k:=by simp
   rw[e];obtain⟨hc,O,Y,_⟩:=hf k hk2;obtain⟨b,off,spot⟩:=ad;have I:=(hf 0 (by omega)).1 0 (by omega);simp only[OpD.cells,List.getElem?_cons_zero] at I;have hspot:spot=none:=by simpa [Addr.add] using World.cell?_spot I
   subst hspot;rw[Zce,Zce] at I;refine⟨b,off,rfl,World.block_lt_of_cell? W _ I,fun j hj=>?_,O,Y⟩;have:=hc j hj;rwa [Zce,Zce] at this
  ·intro k Z;have hk2:k<len:=by simpa using Z
   have e:((List.range len).map f)[k]=f k:=by simp
   rw[e];exact (hf k hk2).2.2.2
  ·have:=hw ((len+(m-len))*prog.bytesOf 44) (by simp[DataW.weights,underlying22]);rw[Z4w] at this;have O:reachBytes=140737488351232:=by decide
   rw[List.length_map,List.length_range];omega
end
end Go.Proofs.YtgpapegpdfonpaaGreatDoor
namespace Go.Proofs.YtgpapegpdfonpaaGreatDoor
open Go.RowKit Go.Proofs.Tryz
open Go.Value(int)
open Go.IntKind(i64)
attribute [local go_sem ↓] Go.wp_at_zero Go.wp_at_succ
def RP (V:World)(o:Obj)(vP:Value)(pts:List Pt)(p:Pt)(v:Value)(w3:World):Prop:=
 ∃ g2 cap2,v= .slice (some ⟨g2,0,none⟩) (pts.length+1) cap2/\w3.ownsRow 0 37 2 v (pts.length+1) (Zg pts ++ [int i64 p.1,int i64 p.2])/\((vP.ownBlock=some g2/\(V.alloc o).grownBy w3 (some g2))\/(g2=V.heap.size+1/\(V.alloc o).grownBy w3 none))
def RN' (V:World)(o:Obj)(vN:Value)(nums:List Int)(m:Int)(v:Value)(w3:World):Prop:=
 ∃ g2 cap2,v= .slice (some ⟨g2,0,none⟩) (nums.length+1) cap2/\w3.ownsRow 0 3 1 v (nums.length+1) (nums.map (int i64) ++ [int i64 m])/\((vN.ownBlock=some g2/\(V.alloc o).grownBy w3 (some g2))\/(g2=V.heap.size+1/\(V.alloc o).grownBy w3 none))
def Z5e (K:Nat)(vP:Value)(p:Pt)(B:Nat):Nat->Option Value
 | 0=>some (.pointer (some ⟨K,0,none⟩))
 | 1=>some (.pointer (some ⟨K,0,none⟩))
 | 2=>some (.pointer (some ⟨K,0,none⟩))
 | 3=>some (.pointer (some ⟨K,1,none⟩))
 | 4=>some vP
 | 5=>some (pv p.1 p.2)
 | 6=>some (.slice (some ⟨B,0,none⟩) 1 1)
 | 8=>some (.pointer (some ⟨K,0,none⟩))
 | 9=>some (.pointer (some ⟨K,1,none⟩))
 | _=>none
def Z5f (K:Nat)(vN:Value)(m:Int)(B:Nat):Nat->Option Value
 | 0=>some (.pointer (some ⟨K,0,none⟩))
 | 1=>some (.pointer (some ⟨K,0,none⟩))
 | 2=>some (.pointer (some ⟨K,0,none⟩))
 | 3=>some (.pointer (some ⟨K,2,none⟩))
 | 4=>some vN
 | 5=>some (.pointer (some ⟨K,0,none⟩))
 | 6=>some (.pointer (some ⟨K,0,none⟩))
 | 7=>some (.pointer (some ⟨K,3,none⟩))
 | 8=>some (int i64 m)
 | 9=>some (.slice (some ⟨B,0,none⟩) 1 1)
 | 11=>some (.pointer (some ⟨K,0,none⟩))
 | 12=>some (.pointer (some ⟨K,2,none⟩))
 | _=>none
theorem Z5g {MAt:Yd}(L:MeshLaw MAt)(iK iM:Nat)(tag:Nat->Nat)(d:KD)(px py:Int)(w:World)(hK:KM MAt w tag iK iM d)(hlt:Y6 w tag)(hev:d.s.ever<=2000000000000)(h1:4<iK)(h2:4<iM)(h3:iK≠iM) :
  Calls prog 58 #[.pointer (some ⟨d.K,0,none⟩),.agg #[int i64 px,int i64 py]] w fun e w'=>e= .returned (.bool true)/\Za3 MAt w w' tag iK iM d:=by
 obtain⟨⟨vP,vN,vT,hA⟩,hM⟩:=hK;have OK:Hid d.s.Ok:=L.ok _ _ _ _ _ hM;have hle:=OK.out.le;have hn60:d.s.nums.length<=60:=by have:=OK.out.len;omega
 have hKl:=hA.lt;obtain⟨iP,hiP,hzP,hsP,hbP⟩:=info_parts Zdk;obtain⟨i0,hi0,hz0,hs0,hb0⟩:=info_parts Zbi;go_enter func58,ntmps58;go_upto_region 1 with fail;have hbb:=Zb w (.cells #[int i64 px,int i64 py] 37);have x0:(w.alloc (.cells #[int i64 px,int i64 py] 37)).cell? ⟨w.heap.size,0,none⟩=some (int i64 px):=by rw[World.cell?_alloc_at _ _ _ _ (by simp)];rfl
 have x1:(w.alloc (.cells #[int i64 px,int i64 py] 37)).cell? ⟨w.heap.size,1,none⟩=some (int i64 py):=by rw[World.cell?_alloc_at _ _ _ _ (by simp)];rfl
 have hs0':(w.alloc (.cells #[int i64 px,int i64 py] 37)).heap.size=w.heap.size+1:=by simp
 generalize w.alloc (.cells #[int i64 px,int i64 py] 37)=W at *
 have hAW:=hA.below hbb;have hMW:MAt W tag iM d.mp d.s:=L.frame _ _ _ _ _ _ _ hM hbb.size fun k O ht=>⟨hbb.block k O,ht⟩
 have hltW:Y6 W tag:=fun k O=>by have:=hlt k O;omega
 have c0:=hAW.cells.1;have htx:tag w.heap.size=0:=by
  by_cases e:tag w.heap.size=0
  ·exact e
  ·have:=hlt _ e;omega
 have HT:=fun m=>L.insert (W.drewN m) tag iM d.mp d.s px py (by omega) (L.frame _ _ _ _ _ _ _ hMW (Nat.le_refl _) fun k O ht=>⟨rfl,ht⟩) hltW hev
 have HT1:=L.insert W.drew tag iM d.mp d.s px py (by omega) (L.frame _ _ _ _ _ _ _ hMW (Nat.le_refl _) fun k O ht=>⟨rfl,ht⟩) hltW hev;have HAW:Hid (KAt W tag iK d vP vN vT/\MAt W tag iM d.mp d.s/\Y6 W tag/\Below w.heap.size w W):=⟨hAW,hMW,hltW,hbb⟩;have hKW:d.K<W.heap.size:=by omega
 have hxW:w.heap.size<W.heap.size:=by omega
 clear hA hM hlt hAW hMW hltW HT;go_cut [5,6] (fun s5 s6 wx=>∃ n s' tag1,s5=int i64 n/\s6=int i64 (Zdd d.s (px,py))/\Zny d.s (px,py) n s'/\Ye W tag tag1/\Y6 wx tag1/\MAt wx tag1 iM d.mp s'/\Chg (fun k=>tag k=iM) W wx)
 case first=>
  as_aux_lemma=>
  go_region_with (go_at_call 97;refine HT1.mono ?_;rintro e w1 ⟨n,s',rfl,hins,tag1,hag1,hlt1,hM1,hch1,_⟩)
  all_goals go_wp2_with fail
  all_goals go_meet
  all_goals exact⟨n,s',tag1,rfl,rfl,hins,hag1,hlt1,hM1,⟨hch1.os,hch1.tape,hch1.output,hch1.size,hch1.far⟩⟩
 case rest=>
  as_aux_lemma=>
  obtain⟨n,s',tag1,rfl,rfl,hins,hag1,hlt1,hM1,hch1⟩:=hcut;have hA1:=HAW.out.1.keep (w':=wc) (tag':=tag1) fun k O ht=>⟨hch1.far k O (by omega),(hag1 k O).trans ht⟩
  replace x0:=(hch1.cell (o:=0) hxW (by rw[htx];omega)).trans x0;replace x1:=(hch1.cell (o:=1) hxW (by rw[htx];omega)).trans x1;obtain⟨pa,pc,rfl⟩:=Zn hA1.ownP;obtain⟨na,nc,rfl⟩:=Zn hA1.ownN;have hAg:Ye w tag tag1:=fun k O=>hag1 k (by omega)
  have hCh:Chg (fun k=>tag k=iM) w wc:=Chg.trans (Chg.of_below HAW.out.2.2.2) hch1 fun _ _ h=>h
  have H1:Hid (KAt wc tag1 iK d (.slice pa d.s.pts.length pc) (.slice na d.s.nums.length nc) vT/\MAt wc tag1 iM d.mp s'/\Ye w tag tag1/\Chg (fun k=>tag k=iM) w wc/\Y6 wc tag1/\Zny d.s (px,py) n s'):=⟨hA1,hM1,hAg,hCh,hlt1,hins⟩;have hK1:d.K<wc.heap.size:=hA1.lt;have hx1:w.heap.size<wc.heap.size:=L3 hxW hch1.size;have e1:=hA1.cells.2.1;clear hA1 hM1 hag1 hlt1 hch1 hins hAg hCh HAW hKW hxW c0 HT1 hbb hs0';generalize wc=W1 at *
  go_upto_region 3 with (go_at_call 63;refine (Zck _ _ _).mono ?_;rintro e w2 ⟨rfl,hb2⟩);have f1:=(hb2.cell (p:=⟨d.K,1,none⟩) hK1).trans e1;replace x0:=(hb2.cell (p:=⟨w.heap.size,0,none⟩) hx1).trans x0;replace x1:=(hb2.cell (p:=⟨w.heap.size,1,none⟩) hx1).trans x1;have HRA:Hid (Z0 w2 pa d.s.pts):=(Z2.raw' H1.out.1.ownP).below hb2;have hK2:d.K<w2.heap.size:=L3 hK1 hb2.size;have hx2:w.heap.size<w2.heap.size:=L3 hx1 hb2.size;have HB2:Hid (Below W1.heap.size W1 w2):=hb2;clear hb2 e1;go_upto_block 0 with fail
  go_cut [9,10] (fun s9 _ wx=>s9= .bool (decide ((px,py)∈d.s.pts))/\Below w2.heap.size w2 wx)
  case first=>
   as_aux_lemma=>
   clear H1;go_wp2_with fail
   go_loopw [9,10] (fun s9 s10 wr=>∃ k:Nat,k<=d.s.pts.length/\s10=int i64 k/\s9= .bool (Zb1 d.s.pts (px,py) k)/\Below w2.heap.size w2 wr) (fun _ i _=>d.s.pts.length-(intOf i).toNat)
   case atStart=>exact⟨0,Nat.zero_le _,rfl,rfl,Below.refl _ _⟩
   case round=>
    obtain⟨k,O,rfl,rfl,hbr⟩:=hrel;have g1:=(hbr.cell (p:=⟨d.K,1,none⟩) hK2).trans f1;have hKr:d.K<wr.heap.size:=L3 hK2 hbr.size;by_cases hkl:k<d.s.pts.length
    ·rcases HRA.out.below hbr with h|⟨b,off,rfl,hb,I⟩
     ·rw[h] at hkl;simp at hkl
     obtain⟨q0,q1⟩:=I k hkl;have HS:Hid (Zb1 d.s.pts (px,py) (k+1)=(Zb1 d.s.pts (px,py) k || ((d.s.pts.getD k (0,0)).1 == px && (d.s.pts.getD k (0,0)).2 == py))):=Z5b _ _ hkl;have z0:=(hbr.cell (p:=⟨w.heap.size,0,none⟩) hx2).trans x0;have z1:=(hbr.cell (p:=⟨w.heap.size,1,none⟩) hx2).trans x1;have y0:(0:Int)<=(k:Int):=by omega
     have y1:(k:Int)<(d.s.pts.length:Int):=by omega
     have y2:IntKind.i64.wrap ((k:Int)+1)=(k:Int)+1:=Zd (by omega) (by omega);generalize Zb1 d.s.pts (px,py) k=jj at *
     generalize (d.s.pts.getD k (0,0)).1=qx at *
     generalize (d.s.pts.getD k (0,0)).2=qy at *
     clear I;cases jj with
     | true=>
      have HR:Hid (Zb1 d.s.pts (px,py) (k+1)=true):=by unfold Hid;rw[HS.out];rfl
      clear HS;go_wp2_with fail
      go_quiet (fail);go_wp2
      go_roundw;case rel=>exact⟨k+1,by omega,by go_num,by rw[HR.out],Zt hbr⟩
      case measure=>simp[intOf];omega
     | false=>
      by_cases e1:qx=px
      ·by_cases e2:qy=py
       ·subst e1 e2;have HR:Hid (Zb1 d.s.pts (qx,qy) (k+1)=true):=by unfold Hid;rw[HS.out];simp
        clear HS;go_wp2_with fail
        go_quiet (fail);go_wp2
        go_roundw;case rel=>exact⟨k+1,by omega,by go_num,by rw[HR.out],Zt hbr⟩
        case measure=>simp[intOf];omega
       ·have HR:Hid (Zb1 d.s.pts (px,py) (k+1)=false):=by unfold Hid;rw[HS.out];simp[e2]
        clear HS;go_wp2_with fail
        go_quiet (fail);go_wp2
        go_roundw;case rel=>exact⟨k+1,by omega,by go_num,by rw[HR.out],Zt hbr⟩
        case measure=>simp[intOf];omega
      ·have HR:Hid (Zb1 d.s.pts (px,py) (k+1)=false):=by unfold Hid;rw[HS.out];simp[e1]
       clear HS;go_wp2_with fail
       go_quiet (fail);go_wp2
       go_roundw;case rel=>exact⟨k+1,by omega,by go_num,by rw[HR.out],Zt hbr⟩
       case measure=>simp[intOf];omega
    ·have ek:k=d.s.pts.length:=by omega
     subst ek;have HR:Hid (Zb1 d.s.pts (px,py) d.s.pts.length=decide ((px,py)∈d.s.pts)):=by
      unfold Hid;rw[Bool.eq_iff_iff,Z5c,decide_eq_true_iff]
     generalize Zb1 d.s.pts (px,py) d.s.pts.length=jj at *
     go_wp2
     go_meet;case rel=>exact⟨by rw[HR.out],hbr⟩
  case rest=>
   as_aux_lemma=>
   obtain⟨rfl,hb3⟩:=hcut;have hb13:=HB2.out.trans (hb3.mono HB2.out.size);have k1:=(hb3.cell (p:=⟨d.K,1,none⟩) hK2).trans f1;have hK3:d.K<wc.heap.size:=L3 hK2 hb3.size;replace x0:=(hb3.cell (p:=⟨w.heap.size,0,none⟩) hx2).trans x0;replace x1:=(hb3.cell (p:=⟨w.heap.size,1,none⟩) hx2).trans x1;have hx3:w.heap.size<wc.heap.size:=L3 hx2 hb3.size;have HIE:Hid (Zdd d.s (px,py)=if Zc px py=true then 1 else if (px,py)∈d.s.pts then 3 else if d.s.pts.length=60 then 2 else 0):=rfl;have HB13:Hid (Below W1.heap.size W1 wc):=hb13;have HERR:Hid (Zdd d.s (px,py)≠0->n=0/\Za3 MAt w wc tag iK iM d):=fun he=>by
    obtain⟨hA1,hM1,hag1,hch1,hlt1,hins⟩:=H1.out;rcases hins with ⟨_,hn,hs⟩|⟨h0,_⟩
    ·subst hs;exact⟨hn,tag1,d,⟨⟨_,_,_,hA1.below hb13⟩,L.frame _ _ _ _ _ _ _ hM1 hb13.size fun k O ht=>⟨hb13.block k O,ht⟩⟩,rfl,by omega,hag1,fun k O=>L3 (hlt1 k O) hb13.size,Chg.trans (hch1.mono fun k _ h=>.inr h) (Chg.of_below (F:=fun _=>False) hb13) fun _ _ h=>h.elim⟩
    ·exact absurd h0 he
   clear hb3 hb13 HB2 f1 HRA;generalize wc=Y at *
   have hl60:(d.s.pts.length:Int)<=60:=by omega
   cases hfar:Zc px py with
   | true=>
    have hie:Zdd d.s (px,py)=1:=by rw[HIE.out,hfar];rfl
    obtain⟨rfl,hpost⟩:=HERR.out (by rw[hie];decide);have HPO:Hid (Za3 MAt w Y tag iK iM d):=hpost;rw[hie];clear HERR hpost HIE H1 hie hfar;generalize decide ((px,py)∈d.s.pts)=th at *
    go_wp2_with (go_at_call 39;refine (Zcc _ _).mono ?_;rintro e w7 ⟨rfl,rfl⟩)
    go_ret;exact⟨rfl,HPO.out⟩
   | false=>
    by_cases hmem:(px,py)∈d.s.pts
    ·have hie:Zdd d.s (px,py)=3:=by rw[HIE.out,hfar,if_neg (by simp),if_pos hmem]
     obtain⟨rfl,hpost⟩:=HERR.out (by rw[hie];decide);have HPO:Hid (Za3 MAt w Y tag iK iM d):=hpost;rw[hie,decide_eq_true hmem];clear HERR hpost HIE H1 hie hmem hfar;go_wp2_with (go_at_call 39;refine (Zcc _ _).mono ?_;rintro e w7 ⟨rfl,rfl⟩)
     go_ret;exact⟨rfl,HPO.out⟩
    ·by_cases h60:d.s.pts.length=60
     ·have hie:Zdd d.s (px,py)=2:=by rw[HIE.out,hfar,if_neg (by simp),if_neg hmem,if_pos h60]
      obtain⟨rfl,hpost⟩:=HERR.out (by rw[hie];decide);have HPO:Hid (Za3 MAt w Y tag iK iM d):=hpost;rw[hie,decide_eq_false hmem];have q60:((d.s.pts.length:Int) == 60)=true:=beq_iff_eq.2 (by omega);clear HERR hpost HIE H1 hie hmem h60 hfar hl60;go_wp2_with (go_at_call 39;refine (Zcc _ _).mono ?_;rintro e w7 ⟨rfl,rfl⟩)
      go_ret;exact⟨rfl,HPO.out⟩
     ·have hie:Zdd d.s (px,py)=0:=by rw[HIE.out,hfar,if_neg (by simp),if_neg hmem,if_neg h60]
      rw[hie,decide_eq_false hmem];have q60:((d.s.pts.length:Int) == 60)=false:=beq_eq_false_iff_ne.2 (by omega);have HIE0:Hid (Zdd d.s (px,py)=0):=hie;clear HERR HIE hmem h60 hfar hie;have KR3:KRow Y d.K d.mp d.s.pts d.s.nums d.s.ever d.told d.tl (.slice pa d.s.pts.length pc) (.slice na d.s.nums.length nc) vT:=(H1.out.1.below HB13.out).row;have KRD:Hid (KRow Y.drew d.K d.mp d.s.pts d.s.nums d.s.ever d.told d.tl (.slice pa d.s.pts.length pc) (.slice na d.s.nums.length nc) vT):=⟨KR3.blk,KR3.ownP,KR3.ownN,KR3.ownT⟩;clear KR3;go_upto_region 17 with fail;go_cut [71] (fun s71 wx=>∃ g2 cap2 w4,s71= .slice (some ⟨g2,0,none⟩) (d.s.pts.length+1) cap2/\wx=w4.setCell ⟨d.K,1,none⟩ (.slice (some ⟨g2,0,none⟩) (d.s.pts.length+1) cap2)/\w4.ownsRow 0 37 2 (.slice (some ⟨g2,0,none⟩) (d.s.pts.length+1) cap2) (d.s.pts.length+1) (Zg d.s.pts ++ [int i64 px,int i64 py])/\(((Value.slice pa d.s.pts.length pc).ownBlock=some g2/\(Y.drew.alloc (.cells #[int i64 px,int i64 py] 37)).grownBy w4 (some g2))\/(g2=Y.drew.heap.size+1/\(Y.drew.alloc (.cells #[int i64 px,int i64 py] 37)).grownBy w4 none)))
      case first=>
       as_aux_lemma=>
       refine Zd9 (m:=11) (by kernel_rfl) (by kernel_rfl) (dsts:=[some 64,some 65,some 66,some 67,some 68,some 69,some 70,some 71,some 72,some 73,none]) rfl (by kernel_rfl) (l:=[]) rfl (App Y.drew (.cells #[int i64 px,int i64 py] 37) 6 7 10 (Z5e d.K (.slice pa d.s.pts.length pc) (px,py) Y.heap.size) ⟨d.K,1,none⟩ (RP Y.drew (.cells #[int i64 px,int i64 py] 37) (.slice pa d.s.pts.length pc) d.s.pts (px,py))) App.start ?_ ?_
       ·refine flS (flS (flS (flS (flS (flS (flS (flS (flS (flS (flS fl0 ?_) ?_) ?_) ?_) ?_) ?_) ?_) ?_) ?_) ?_) ?_;all_goals intro J σ wx D I hdn aa
        ·exact (Z8 (x:=.tmp 0) rfl rfl (D.stepV (i:=0) rfl (by decide) (by decide) (by decide))).toS
        ·exact (Z8 (x:=.tmp 0) rfl rfl (D.stepV (i:=1) rfl (by decide) (by decide) (by decide))).toS
        ·exact (Za1 (x:=.tmp 65) rfl (show σ 1=_ from D.val 1 _ rfl (I 1 rfl)) (D.stepV (i:=2) rfl (by decide) (by decide) (by decide))).toS
        ·exact (Za2 (T:=67) (x:=.tmp 66) (f:=1) rfl (show σ 2=_ from D.val 2 _ rfl (I 2 rfl)) (Zn0 _ _) (D.stepV (i:=3) rfl (by decide) (by decide) (by decide))).toS
        ·have hLA:J 7=false:=by
          cases Z:J 7 with
          | false=>rfl
          | true=>have:=(hdn 7 4 Z rfl);rw[aa] at this;cases this
         exact (Yr (T:=41) (x:=.tmp 67) rfl (show σ 3=_ from D.val 3 _ rfl (I 3 rfl)) (Zgs _ _ _ _ ((D.old hLA hK3).trans k1)) (D.stepV (i:=4) rfl (by decide) (by decide) (by decide))).toS
        ·have hLA:J 7=false:=by
          cases Z:J 7 with
          | false=>rfl
          | true=>have:=(hdn 6 5 (hdn 7 6 Z rfl) rfl);rw[aa] at this;cases this
         exact (Yr (T:=37) (x:=.tmp 3) rfl rfl (Zb2 _ _ _ px py ((D.old hLA hx3).trans x0) ((D.old hLA hx3).trans x1)) (D.stepV (i:=5) rfl (by decide) (by decide) (by decide))).toS
        ·have hLA:J 7=false:=by
          cases Z:J 7 with
          | false=>rfl
          | true=>have:=(hdn 7 6 Z rfl);rw[aa] at this;cases this
         have hLS:J 10=false:=by
          cases Z:J 10 with
          | false=>rfl
          | true=>have:=hdn 7 6 (hdn 10 7 Z rfl) rfl;rw[aa] at this;cases this
         have hw:=D.a aa;subst hw;exact (Zfr (T:=41) (n:=1) (x:=.tmp 69) rfl (show σ 5=_ from D.val 5 _ rfl (I 5 rfl)) (Zna _ _ _) (D.stepB rfl hLA hLS (by decide) (by decide) rfl)).toS
        ·have hLS:J 10=false:=by
          cases Z:J 10 with
          | false=>rfl
          | true=>have:=hdn 10 7 Z rfl;rw[aa] at this;cases this
         have hw:=D.b (I 6 rfl) aa;subst hw;obtain⟨g2,cap2,w4,hrun,hown4,hat4,_⟩:=Zhk (P:=prog) (Y.drew.alloc (.cells #[int i64 px,int i64 py] 37)) 41 41 0 37 iP (.agg #[int i64 0,int i64 0]) 2 16 underlying41 hiP hzP hsP hbP rfl (by decide) (.slice pa d.s.pts.length pc) d.s.pts.length (Zg d.s.pts) (Yt KRD.out.ownP (Zb _ _)) ⟨Y.heap.size,0,none⟩ 1 1 [int i64 px,int i64 py] rfl (Znr Y.drew (int i64 px) (int i64 py) 37) (by intro u hu;simp at hu;rcases hu with rfl|rfl <;> rfl) (by decide) (by unfold maxLen;omega) (by omega) (Nat.zero_le _) (Y.heap.size+1) (by simp);exact (Zh4 (t:=41) (s:=.tmp 68) (x:=.tmp 70) rfl (show σ 4=_ from D.val 4 _ rfl (I 4 rfl)) (show σ 6=_ from D.val 6 _ rfl (I 6 rfl)) hrun (D.stepA rfl (I 6 rfl) hLS (by decide) (by decide) ⟨g2,cap2,rfl,hown4,hat4⟩)).toS
        ·exact (Za1 (x:=.tmp 64) rfl (show σ 0=_ from D.val 0 _ rfl (I 0 rfl)) (D.stepV (i:=8) rfl (by decide) (by decide) (by decide))).toS
        ·exact (Za2 (T:=67) (x:=.tmp 72) (f:=1) rfl (show σ 8=_ from D.val 8 _ rfl (I 8 rfl)) (Zn0 _ _) (D.stepV (i:=9) rfl (by decide) (by decide) (by decide))).toS
        ·obtain⟨g2,cap2,e7,hown4,hat4⟩:=D.c (I 7 rfl) aa;have hcK:=(Zbm hat4).2.2.2.2 d.K hK3 (fun e=>by obtain⟨cur,hc⟩:=Yy KRD.out.ownP e.symm;exact X7 KRD.out.blk hc (by decide) rfl);have q1:wx.cell? ⟨d.K,1,none⟩=some (.slice pa d.s.pts.length pc):=(World.cell?_of_block (a:=⟨d.K,1,none⟩) hcK).trans k1;have q2:wx.frozen? ⟨d.K,1,none⟩=false:=(World.frozen?_of_block (a:=⟨d.K,1,none⟩) hcK).trans (KRD.out.cells.2.2.2.2.2 1);have hst:=D.stepS (v:=undef) rfl (hdn 7 6 (I 7 rfl) rfl) (I 7 rfl) aa (by decide) (by decide);rw[e7] at hst;exact Zc0 (T:=41) (x:=.tmp 73) (y:=.tmp 71) rfl (show σ 9=_ from D.val 9 _ rfl (I 9 rfl)) (show σ 7=_ from e7) (Znb _ _ _ _ _ _ _ q1 q2) hst
       ·intro J σ wx D hall;obtain⟨w4,⟨g2,cap2,e7,hown4,hat4⟩,hw⟩:=D.d (hall 10 (by omega));rw[e7] at hown4 hw;refine⟨?_⟩;simp only[lay,Act.put,List.drop_succ_cons,List.drop_zero,List.setIfInBounds_toArray,List.set_cons_succ,List.set_cons_zero,e7];go_wp2_with fail
        go_meet;exact⟨g2,cap2,w4,rfl,by first|rfl|exact hw,hown4,hat4⟩
      case rest=>
       as_aux_lemma=>
       obtain⟨g2,cap2,w4,rfl,hwc,hown4,hat4⟩:=hcut;obtain⟨KR4,far4⟩:=KRD.out.putP (p:=(px,py)) hown4 hat4;rw[<-hwc] at KR4 far4;have hsz4:Y.heap.size<=wc.heap.size:=by
        rw[hwc];have:=(Zbm hat4).2.2.2.1;simpa using this
       have hos4:wc.os=Y.os/\wc.tape=Y.tape/\wc.output=Y.output:=by
        rw[hwc];obtain⟨o1,o2,o3,_⟩:=Zbm hat4;exact⟨o1,o2,o3⟩
       have hPT:∀ g,(Value.slice (some ⟨g2,0,none⟩) (d.s.pts.length+1) cap2).ownBlock=some g->tag1 g=iK\/W1.heap.size<=g:=fun g hg=>by
        cases hg;rcases hat4 with ⟨hv,_⟩|⟨hv,_⟩
        ·exact .inl (H1.out.1.tP _ hv)
        ·have:=HB13.out.size;have e:Y.drew.heap.size=Y.heap.size:=rfl;right;show W1.heap.size<=g2
         omega
       have HP4:Hid ((∀ g,(Value.slice (some ⟨g2,0,none⟩) (d.s.pts.length+1) cap2).ownBlock=some g->tag1 g=iK\/W1.heap.size<=g)/\Chg (fun k=>tag1 k=iK) W1 wc):=by
        refine⟨hPT,⟨hos4.1.trans HB13.out.os,hos4.2.1.trans HB13.out.tape,hos4.2.2.trans HB13.out.output,Nat.le_trans HB13.out.size hsz4,fun k O hF=>?_⟩⟩;rw[far4 k (L3 O HB13.out.size) (fun e=>hF (by rw[e];exact H1.out.1.tK)) (fun e=>hF (H1.out.1.tP k e.symm))];exact HB13.out.block k O
       have KRD4:Hid (KRow wc.drew d.K d.mp (d.s.pts ++ [(px,py)]) d.s.nums d.s.ever d.told d.tl (.slice (some ⟨g2,0,none⟩) (d.s.pts.length+1) cap2) (.slice na d.s.nums.length nc) vT):=⟨KR4.blk,KR4.ownP,KR4.ownN,KR4.ownT⟩;have k2:=KR4.cells.2.2.1;have k3:=KR4.cells.2.2.2.1;have hK4:d.K<wc.heap.size:=Zh KR4.blk;clear hown4 hat4 KR4 far4 hsz4 hos4 hPT KRD x0 x1 k1 hwc;generalize wc=W4 at *
       go_upto_region 18 with fail;go_cut [84] (fun s84 wx=>∃ g2 cap2 w4,s84= .slice (some ⟨g2,0,none⟩) (d.s.nums.length+1) cap2/\wx=w4.setCell ⟨d.K,2,none⟩ (.slice (some ⟨g2,0,none⟩) (d.s.nums.length+1) cap2)/\w4.ownsRow 0 3 1 (.slice (some ⟨g2,0,none⟩) (d.s.nums.length+1) cap2) (d.s.nums.length+1) (d.s.nums.map (int i64) ++ [int i64 (d.s.ever:Int)])/\(((Value.slice na d.s.nums.length nc).ownBlock=some g2/\(W4.drew.alloc (.cells #[int i64 (d.s.ever:Int)] 3)).grownBy w4 (some g2))\/(g2=W4.drew.heap.size+1/\(W4.drew.alloc (.cells #[int i64 (d.s.ever:Int)] 3)).grownBy w4 none)))
       case first=>
        as_aux_lemma=>
        refine Zd9 (m:=14) (by kernel_rfl) (by kernel_rfl) (dsts:=[some 74,some 75,some 76,some 77,some 78,some 79,some 80,some 81,some 82,some 83,some 84,some 85,some 86,none]) rfl (by kernel_rfl) (l:=[]) rfl (App W4.drew (.cells #[int i64 (d.s.ever:Int)] 3) 9 10 13 (Z5f d.K (.slice na d.s.nums.length nc) (d.s.ever:Int) W4.heap.size) ⟨d.K,2,none⟩ (RN' W4.drew (.cells #[int i64 (d.s.ever:Int)] 3) (.slice na d.s.nums.length nc) d.s.nums (d.s.ever:Int))) App.start ?_ ?_
        ·refine flS (flS (flS (flS (flS (flS (flS (flS (flS (flS (flS (flS (flS (flS fl0 ?_) ?_) ?_) ?_) ?_) ?_) ?_) ?_) ?_) ?_) ?_) ?_) ?_) ?_;all_goals intro J σ wx D I hdn aa
         ·exact (Z8 (x:=.tmp 0) rfl rfl (D.stepV (i:=0) rfl (by decide) (by decide) (by decide))).toS
         ·exact (Z8 (x:=.tmp 0) rfl rfl (D.stepV (i:=1) rfl (by decide) (by decide) (by decide))).toS
         ·exact (Za1 (x:=.tmp 75) rfl (show σ 1=_ from D.val 1 _ rfl (I 1 rfl)) (D.stepV (i:=2) rfl (by decide) (by decide) (by decide))).toS
         ·exact (Za2 (T:=67) (x:=.tmp 76) (f:=2) rfl (show σ 2=_ from D.val 2 _ rfl (I 2 rfl)) (Ztg _ _) (D.stepV (i:=3) rfl (by decide) (by decide) (by decide))).toS
         ·have hLA:J 10=false:=by
           cases Z:J 10 with
           | false=>rfl
           | true=>have:=(hdn 10 4 Z rfl);rw[aa] at this;cases this
          exact (Yr (T:=26) (x:=.tmp 77) rfl (show σ 3=_ from D.val 3 _ rfl (I 3 rfl)) (Zm9 _ _ _ _ ((D.old hLA hK4).trans k2)) (D.stepV (i:=4) rfl (by decide) (by decide) (by decide))).toS
         ·exact (Z8 (x:=.tmp 0) rfl rfl (D.stepV (i:=5) rfl (by decide) (by decide) (by decide))).toS
         ·exact (Za1 (x:=.tmp 79) rfl (show σ 5=_ from D.val 5 _ rfl (I 5 rfl)) (D.stepV (i:=6) rfl (by decide) (by decide) (by decide))).toS
         ·exact (Za2 (T:=67) (x:=.tmp 80) (f:=3) rfl (show σ 6=_ from D.val 6 _ rfl (I 6 rfl)) (Z5d _ _) (D.stepV (i:=7) rfl (by decide) (by decide) (by decide))).toS
         ·have hLA:J 10=false:=by
           cases Z:J 10 with
           | false=>rfl
           | true=>have:=(hdn 9 8 (hdn 10 9 Z rfl) rfl);rw[aa] at this;cases this
          exact (Yr (T:=3) (x:=.tmp 81) rfl (show σ 7=_ from D.val 7 _ rfl (I 7 rfl)) (Zd2 _ _ _ _ ((D.old hLA hK4).trans k3)) (D.stepV (i:=8) rfl (by decide) (by decide) (by decide))).toS
         ·have hLA:J 10=false:=by
           cases Z:J 10 with
           | false=>rfl
           | true=>have:=(hdn 10 9 Z rfl);rw[aa] at this;cases this
          have hLS:J 13=false:=by
           cases Z:J 13 with
           | false=>rfl
           | true=>have:=hdn 10 9 (hdn 13 10 Z rfl) rfl;rw[aa] at this;cases this
          have hw:=D.a aa;subst hw;exact (Zfr (T:=26) (n:=1) (x:=.tmp 82) rfl (show σ 8=_ from D.val 8 _ rfl (I 8 rfl)) (Zr6 _ _) (D.stepB rfl hLA hLS (by decide) (by decide) rfl)).toS
         ·have hLS:J 13=false:=by
           cases Z:J 13 with
           | false=>rfl
           | true=>have:=hdn 13 10 Z rfl;rw[aa] at this;cases this
          have hw:=D.b (I 9 rfl) aa;subst hw;obtain⟨g2,cap2,w4,hrun,hown4,hat4,_⟩:=Zhk (P:=prog) (W4.drew.alloc (.cells #[int i64 (d.s.ever:Int)] 3)) 26 26 0 3 i0 (int i64 0) 1 8 underlying26 hi0 hz0 hs0 hb0 rfl (by decide) (.slice na d.s.nums.length nc) d.s.nums.length (d.s.nums.map (int i64)) (Yt KRD4.out.ownN (Zb _ _)) ⟨W4.heap.size,0,none⟩ 1 1 [int i64 (d.s.ever:Int)] rfl (cell_one_new W4.drew (int i64 (d.s.ever:Int)) 3) (by intro u hu;simp at hu;subst hu;rfl) (by decide) (by unfold maxLen;omega) (by omega) (Nat.zero_le _) (W4.heap.size+1) (by simp);exact (Zh4 (t:=26) (s:=.tmp 78) (x:=.tmp 83) rfl (show σ 4=_ from D.val 4 _ rfl (I 4 rfl)) (show σ 9=_ from D.val 9 _ rfl (I 9 rfl)) hrun (D.stepA rfl (I 9 rfl) hLS (by decide) (by decide) ⟨g2,cap2,rfl,hown4,hat4⟩)).toS
         ·exact (Za1 (x:=.tmp 74) rfl (show σ 0=_ from D.val 0 _ rfl (I 0 rfl)) (D.stepV (i:=11) rfl (by decide) (by decide) (by decide))).toS
         ·exact (Za2 (T:=67) (x:=.tmp 85) (f:=2) rfl (show σ 11=_ from D.val 11 _ rfl (I 11 rfl)) (Ztg _ _) (D.stepV (i:=12) rfl (by decide) (by decide) (by decide))).toS
         ·obtain⟨g2,cap2,e7,hown4,hat4⟩:=D.c (I 10 rfl) aa;have hcK:=(Zbm hat4).2.2.2.2 d.K hK4 (fun e=>by obtain⟨cur,hc⟩:=Yy KRD4.out.ownN e.symm;exact X7 KRD4.out.blk hc (by decide) rfl);have q1:wx.cell? ⟨d.K,2,none⟩=some (.slice na d.s.nums.length nc):=(World.cell?_of_block (a:=⟨d.K,2,none⟩) hcK).trans k2;have q2:wx.frozen? ⟨d.K,2,none⟩=false:=(World.frozen?_of_block (a:=⟨d.K,2,none⟩) hcK).trans (KRD4.out.cells.2.2.2.2.2 2);have hst:=D.stepS (v:=undef) rfl (hdn 10 9 (I 10 rfl) rfl) (I 10 rfl) aa (by decide) (by decide);rw[e7] at hst;exact Zc0 (T:=26) (x:=.tmp 86) (y:=.tmp 84) rfl (show σ 12=_ from D.val 12 _ rfl (I 12 rfl)) (show σ 10=_ from e7) (Znc _ _ _ _ _ _ _ q1 q2) hst
        ·intro J σ wx D hall;obtain⟨w4,⟨g2,cap2,e7,hown4,hat4⟩,hw⟩:=D.d (hall 13 (by omega));rw[e7] at hown4 hw;refine⟨?_⟩;simp only[lay,Act.put,List.drop_succ_cons,List.drop_zero,List.setIfInBounds_toArray,List.set_cons_succ,List.set_cons_zero,e7];go_wp2_with fail
         go_meet;exact⟨g2,cap2,w4,rfl,by first|rfl|exact hw,hown4,hat4⟩
       case rest=>
        as_aux_lemma=>
        obtain⟨g5,cap5,w5,rfl,hwc,hown5,hat5⟩:=hcut;obtain⟨KR5,far5⟩:=KRD4.out.putN hown5 hat5;rw[<-hwc] at KR5 far5;have hsz5:W4.heap.size<=wc.heap.size:=by
         rw[hwc];have:=(Zbm hat5).2.2.2.1;simpa using this
        have hos5:wc.os=W4.os/\wc.tape=W4.tape/\wc.output=W4.output:=by
         rw[hwc];obtain⟨o1,o2,o3,_⟩:=Zbm hat5;exact⟨o1,o2,o3⟩
        have hNT:∀ g,(Value.slice (some ⟨g5,0,none⟩) (d.s.nums.length+1) cap5).ownBlock=some g->tag1 g=iK\/W1.heap.size<=g:=fun g hg=>by
         cases hg;rcases hat5 with ⟨hv,_⟩|⟨hv,_⟩
         ·exact .inl (H1.out.1.tN _ hv)
         ·have:=HP4.out.2.size;have e:W4.drew.heap.size=W4.heap.size:=rfl;right;show W1.heap.size<=g5
          omega
        have HC5:Hid (Chg (fun k=>tag1 k=iK) W1 wc):=by
         refine⟨hos5.1.trans HP4.out.2.os,hos5.2.1.trans HP4.out.2.tape,hos5.2.2.trans HP4.out.2.output,Nat.le_trans HP4.out.2.size hsz5,fun k O hF=>?_⟩;rw[far5 k (L3 O HP4.out.2.size) (fun e=>hF (by rw[e];exact H1.out.1.tK)) (fun e=>hF (H1.out.1.tN k e.symm))];exact HP4.out.2.far k O hF
        obtain⟨KR6,far6⟩:=KR5.putE ((d.s.ever:Int)+1);obtain⟨_,_,_,e3,e4,ef⟩:=KR5.cells;have f3:=ef 3;have f4:=ef 4;have hK5:d.K<wc.heap.size:=Zh KR5.blk;have HFIN:Hid (Za3 MAt w ((wc.setCell ⟨d.K,3,none⟩ (int i64 ((d.s.ever:Int)+1))).setCell ⟨d.K,4,none⟩ (.bool false)) tag iK iM d/\n=(d.s.ever:Int)):=by
         obtain⟨hA1,hM1,hag1,hch1,hlt1,hins⟩:=H1.out;rcases hins with ⟨h0,_⟩|⟨_,hn,t1,t2,t3⟩
         ·exact absurd HIE0.out h0
         refine⟨Zta L (d':=⟨d.K,d.mp,s',false,d.tl⟩) (w5:=(wc.setCell ⟨d.K,3,none⟩ (int i64 ((d.s.ever:Int)+1))).setCell ⟨d.K,4,none⟩ (.bool false)) h1 h2 h3 hA1 hM1 hag1 hlt1 hch1 ?_ ?_ ?_ KR6.ownT HP4.out.1 hNT ?_ ⟨_,KR6.blk⟩ (Chg.refl _ _) rfl rfl rfl rfl (by rw[t3];exact Nat.le_refl _),hn⟩
         ·refine Chg.trans HC5.out (G:=fun k=>k=d.K) ⟨rfl,rfl,rfl,by simp,fun k _ O=>far6 k O⟩ fun k O e=>?_
          rw[e];exact hA1.tK
         ·rw[t1];exact KR6.ownP
         ·rw[t2];exact KR6.ownN
         ·rw[KR6.blk];unfold Zft;rw[t3];rfl
        have y1:IntKind.i64.wrap ((d.s.ever:Int)+1)=(d.s.ever:Int)+1:=Zd (by omega) (by omega);have y2:IntKind.i64.wrap ((d.s.ever:Int)+1-1)=(d.s.ever:Int):=by rw[Zd (by omega) (by omega)];omega
        have y3:(n == (d.s.ever:Int))=true:=beq_iff_eq.2 HFIN.out.2;clear hown5 hat5 KR5 far5 KR6 far6 hNT HC5 HP4 H1 HB13 KRD4 k2 k3 hwc hsz5 hos5 ef HIE0;go_wp2
        go_ret;exact⟨rfl,HFIN.out.1⟩
theorem Z5h (a:Option Addr)(cap:Nat)(ta:Option Addr)(tc:Nat)(w:World) :
  Calls prog 129 #[.slice a 0 cap,.slice ta 0 tc] w fun e w'=>e= .returned (.slice none 0 0)/\w'=w:=by
 go_enter func129,ntmps129;go_wp2_with (go_at_call 92;refine (Zni a cap w).mono ?_;rintro e D ⟨rfl,rfl⟩)
 go_loopw [5,7] (fun s5 s7 wr=>s5= .slice none 0 0/\s7=int i64 0/\wr=D) (fun _ _ _=>0)
 case atStart=>exact⟨rfl,rfl,rfl⟩
 case round=>
  obtain⟨rfl,rfl,rfl⟩:=hrel;go_wp2
  go_ret;exact⟨rfl,rfl⟩
theorem Z5i (a:Option Addr)(cap:Nat)(ta:Option Addr)(tc:Nat)(px py:Int)(w:World) :
  Calls prog 103 #[.slice a 0 cap,.slice ta 0 tc,.agg #[int i64 px,int i64 py]] w fun e w'=>e= .returned (.agg #[int i64 0,int i64 (-1),int i64 (-1),int i64 (-1)])/\Below w.heap.size w w':=by
 go_enter func103,ntmps103;go_upto_region 1 with fail;have D:=Zs1 w px py;generalize (w.alloc (.cells #[int i64 px,int i64 py] 37)).alloc (.cells #[int i64 0,int i64 0,int i64 0,int i64 0] 155)=W at *
 have HW:Hid (LocW w W px py):=D;obtain⟨a0,a1,a2,a3,I⟩:=Zb0 D.ans;have f0:=I 0;have f1:=I 1;have f2:=I 2;have f3:=I 3;obtain⟨X,hX,Z,z1,z2,z3,O⟩:=Zif D.ans (int i64 0) (int i64 (-1)) (int i64 (-1)) (int i64 (-1));have Y:Hid (Below w.heap.size w X):=D.bel.trans (O w.heap.size (by omega));clear I O D HW;go_wp2_with fail
 go_loopw [7] (fun s7 wr=>s7=int i64 0/\W=wr) (fun _ _=>0)
 case atStart=>exact⟨rfl,rfl⟩
 case round=>
  obtain⟨rfl,rfl⟩:=hrel;go_wp2_with (go_at_call 129;refine (Z5h a cap ta tc _).mono ?_;rintro e w1 ⟨rfl,J⟩;replace J:=J.symm;subst J)
  go_loopw [9] (fun s9 wr=>s9=int i64 0/\W=wr) (fun _ _=>0)
  case atStart=>exact⟨rfl,rfl⟩
  case round=>
   obtain⟨rfl,rfl⟩:=hrel;go_wp2
   go_loopw [12] (fun s12 wr=>s12=int i64 0/\W=wr) (fun _ _=>0)
   case atStart=>exact⟨rfl,rfl⟩
   case round=>
    obtain⟨rfl,rfl⟩:=hrel;go_wp2
    refine bodyPost_ret (v:=.agg #[int i64 0,int i64 (-1),int i64 (-1),int i64 (-1)]) (by simp[results,results103,go_sem,Z,z1,z2,z3]) rfl ⟨rfl,Y.out⟩
def Yj (MAt:Yd)(WB N:Nat)(v0:Value)(w w':World)(tag:Nat->Nat)(e iM:Nat)(d:KD):Prop:=
 ∃ tag' d',Bks w' WB v0 tag' (N+1)/\KM MAt w' tag' e iM d'/\d'.K=d.K/\d'.s.ever<=d.s.ever+1/\Ye w tag tag'/\Chg (fun k=>BkF WB tag k\/tag k=e\/tag k=iM) w w'
theorem Zg1.toA {MAt:Yd}{WB N:Nat}{v0:Value}{w w':World}{tag:Nat->Nat}{e iM:Nat}{d:KD}(h:Zg1 MAt WB N v0 w w' tag e iM d):Yj MAt WB N v0 w w' tag e iM d:=by
 obtain⟨tag',d',Y,D,J,Z,I,O⟩:=h;exact⟨tag',d',Y,D,J,by rw[Z];omega,I,O⟩
theorem Za3.toA {MAt:Yd}{WB N:Nat}{v0:Value}{w w':World}{tag:Nat->Nat}{D iM:Nat}{d:KD}(e:Bks w WB v0 tag N)(h1:4<D)(h2:4<iM)(h:Za3 MAt w w' tag D iM d):Yj MAt WB N v0 w w' tag D iM d:=by
 obtain⟨tag',d',k1,k2,Z,I,Y,O⟩:=h;refine⟨tag',d',(e.move (fun k J h4=>⟨O.far k (e.tlt k J) (by omega),I k (e.tlt k J)⟩) Y I).more (by omega),k1,k2,Z,I,O.mono fun k _ h=>.inr h⟩
theorem Z5j (a b c D I e:Int)(w:World):(Op.equalIn 9999 52 (.agg #[int i64 a,int i64 b,int i64 c]) (.agg #[int i64 D,int i64 I,int i64 e])).run prog w= .ok (a == D && b == I && c == e) w:=by
 have u3:=underlying3;have Z:=isAgg3;have z3:=sizeOf3;rw[show (9999:Nat)=9998+1 from rfl,Op.equalIn];simp only[Sem.run_bind,run_underlying underlying52,Result.andThen_ok];simp only[Std.Legacy.Range.forIn_eq_forIn_range',Std.Legacy.Range.size,Nat.sub_zero,Nat.add_sub_cancel,Nat.div_one,List.range'_succ,List.range'_zero,List.forIn_cons,List.forIn_nil];go_simp
 by_cases O:a=D <;> by_cases J:b=I <;> by_cases Y:c=e <;> simp[O,J,Y]
theorem Zth (a b c d:Int)(w:World):(Op.equalIn 10000 155 (.agg #[int i64 a,int i64 b,int i64 c,int i64 d]) (.agg #[int i64 a,int i64 b,int i64 c,int i64 d])).run prog w= .ok true w:=by
 have D:=Z5j b c d b c d;have e:(b == b && c == c && d == d)=true:=by simp
 rw[e] at D;clear e;go_simp
theorem Z5k (w:World)(K:Nat):(Instr.fieldAt 67 (.pointer (some ⟨K,0,none⟩)) 0).run prog w= .ok (.pointer (some ⟨K,0,none⟩)) w:=by go_simp
theorem Z5l (w:World)(K:Nat)(v:Value)(h:w.cell? ⟨K,0,none⟩=some v):(Instr.loadAt 63 (.pointer (some ⟨K,0,none⟩))).run prog w= .ok v w:=by go_simp
theorem Zti (w:World):(Instr.alloc 155 true (.tuple #[])).run prog w= .ok (.pointer (some ⟨w.heap.size,0,none⟩)) (w.alloc (.cells #[int i64 0,int i64 0,int i64 0,int i64 0] 155)):=by go_simp
theorem Ztj (w:World)(X:Nat)(k a b c:Int){D I O J:Value}(h:w.heap[X]? =some (.cells #[D,I,O,J] 155 (0,0))) :
  (Instr.storeAt 155 (.pointer (some ⟨X,0,none⟩)) (.agg #[int i64 k,int i64 a,int i64 b,int i64 c])).run prog w= .ok () ((((w.setCell ⟨X,0,none⟩ (int i64 k)).setCell ⟨X,1,none⟩ (int i64 a)).setCell ⟨X,2,none⟩ (int i64 b)).setCell ⟨X,3,none⟩ (int i64 c)):=by
 obtain⟨Y,q1,q2,q3,e⟩:=Zb0 h;have f0:=e 0;have f1:=e 1;have f2:=e 2;have Z:=e 3;clear e;go_simp
theorem Z5m {P:Program}{o:Oper}{ρ:Operand->Value}{w:World}{R:Value->World->Prop}{x:Operand}{v:Value}(D:o.op= .assign x)(I:ρ x=v)(e:R v w):Gives P o ρ w R:=by
 refine Gives.value v w ?_ e;simp only[execOp,D,I];rfl
theorem Ztk {P:Program}{o:Oper}{ρ:Operand->Value}{w:World}{R:Value->World->Prop}{x:Operand}{i:Nat}{vs:Array Value}{v:Value}(D:o.op= .extract x i)(I:ρ x= .tuple vs)(J:vs[i]? =some v)(e:R v w):Gives P o ρ w R:=by
 refine Gives.value v w ?_ e;simp only[execOp,D,I];simp[Instr.extract,J]
def Ztl (MAt:Yd)(W e:World)(tag:Nat->Nat)(iM mp:Nat)(s:MS)(p:Pt)(X:Nat)(k a b c r:Int):Prop:=
 Zg0 s p k a b c r/\e.heap[X]? =some (.cells #[int i64 k,int i64 a,int i64 b,int i64 c] 155 (0,0))/\W.heap.size<=X/\∃ tag1,tag1 X=0/\Ye W tag tag1/\Y6 e tag1/\MAt e tag1 iM mp s/\Chg (fun k=>tag k=iM) W e
structure LocI (MAt:Yd)(W:World)(tag:Nat->Nat)(iM mp K:Nat)(s:MS)(px py:Int)(L:Nat->Bool)(σ:Nat->Value)(w:World):Prop where
 v0:L 0=true->σ 0= .pointer (some ⟨K,0,none⟩)
 v1:L 1=true->σ 1= .pointer (some ⟨K,0,none⟩)
 v2:L 2=true->σ 2= .pointer (some ⟨K,0,none⟩)
 v3:L 3=true->σ 3= .pointer (some ⟨mp,0,none⟩)
 v4:L 4=true->σ 4=pv px py
 pre:L 5=false->Below W.heap.size W w/\(L 9=true->∃ X,σ 9= .pointer (some ⟨X,0,none⟩)/\W.heap.size<=X/\w.heap[X]? =some (.cells #[int i64 0,int i64 0,int i64 0,int i64 0] 155 (0,0)))
 post:L 5=true->∃ k a b c r tag1,σ 5= .tuple #[.agg #[int i64 k,int i64 a,int i64 b,int i64 c],int i64 r]/\Zg0 s (px,py) k a b c r/\Ye W tag tag1/\Y6 w tag1/\MAt w tag1 iM mp s/\Chg (fun k=>tag k=iM) W w/\
  (L 6=true->σ 6=σ 5)/\(L 7=true->σ 7= .agg #[int i64 k,int i64 a,int i64 b,int i64 c])/\(L 8=true->σ 8=int i64 r)/\(L 11=true->σ 11=int i64 r)/\
  (L 9=true->∃ X,σ 9= .pointer (some ⟨X,0,none⟩)/\W.heap.size<=X/\tag1 X=0/\(L 10=false->w.heap[X]? =some (.cells #[int i64 0,int i64 0,int i64 0,int i64 0] 155 (0,0)))/\(L 10=true->w.heap[X]? =some (.cells #[int i64 k,int i64 a,int i64 b,int i64 c] 155 (0,0))))
section
variable {MAt:Yd} {W w w':World} {tag:Nat->Nat} {iM mp K:Nat} {s:MS} {px py:Int} {L:Nat->Bool} {σ:Nat->Value} {v:Value}
theorem LocI.s0 (h:LocI MAt W tag iM mp K s px py L σ w):LocI MAt W tag iM mp K s px py (fun j=>if j=0 then true else L j) (fun j=>if j=0 then .pointer (some ⟨K,0,none⟩) else σ j) w:=⟨fun _=>rfl,h.v1,h.v2,h.v3,h.v4,h.pre,h.post⟩
theorem LocI.s1 (h:LocI MAt W tag iM mp K s px py L σ w):LocI MAt W tag iM mp K s px py (fun j=>if j=1 then true else L j) (fun j=>if j=1 then .pointer (some ⟨K,0,none⟩) else σ j) w:=⟨h.v0,fun _=>rfl,h.v2,h.v3,h.v4,h.pre,h.post⟩
theorem LocI.s2 (h:LocI MAt W tag iM mp K s px py L σ w):LocI MAt W tag iM mp K s px py (fun j=>if j=2 then true else L j) (fun j=>if j=2 then .pointer (some ⟨K,0,none⟩) else σ j) w:=⟨h.v0,h.v1,fun _=>rfl,h.v3,h.v4,h.pre,h.post⟩
theorem LocI.s3 (h:LocI MAt W tag iM mp K s px py L σ w):LocI MAt W tag iM mp K s px py (fun j=>if j=3 then true else L j) (fun j=>if j=3 then .pointer (some ⟨mp,0,none⟩) else σ j) w:=⟨h.v0,h.v1,h.v2,fun _=>rfl,h.v4,h.pre,h.post⟩
theorem LocI.s4 (h:LocI MAt W tag iM mp K s px py L σ w):LocI MAt W tag iM mp K s px py (fun j=>if j=4 then true else L j) (fun j=>if j=4 then pv px py else σ j) w:=⟨h.v0,h.v1,h.v2,h.v3,fun _=>rfl,h.pre,h.post⟩
theorem LocI.s5 (h:LocI MAt W tag iM mp K s px py L σ w)(Y:∀ k,W.heap.size<=k->tag k=0)(hi:iM≠0)(hu:L 5=false)(h6:L 6=false)(h7:L 7=false)(h8:L 8=false)(h10:L 10=false)(h11:L 11=false){k a b c r:Int}(hloc:Zg0 s (px,py) k a b c r)(hp:Zbc MAt w w' tag iM mp s (.slice none 0 0)) :
  LocI MAt W tag iM mp K s px py (fun j=>if j=5 then true else L j) (fun j=>if j=5 then .tuple #[.agg #[int i64 k,int i64 a,int i64 b,int i64 c],int i64 r] else σ j) w':=by
 obtain⟨I,hx⟩:=h.pre hu;obtain⟨tag1,O,hlt,hM,aa,_⟩:=hp;refine⟨h.v0,h.v1,h.v2,h.v3,h.v4,(fun e=>by cases e),fun _=>⟨k,a,b,c,r,tag1,rfl,hloc,fun j hj=>O j (L3 hj I.size),hlt,hM,Chg.trans (Chg.of_below I) aa fun _ _ h=>h,fun e=>?_,fun e=>?_,fun e=>?_,fun e=>?_,fun e=>?_⟩⟩
 ·have e:L 6=true:=e;rw[h6] at e;cases e
 ·have e:L 7=true:=e;rw[h7] at e;cases e
 ·have e:L 8=true:=e;rw[h8] at e;cases e
 ·have e:L 11=true:=e;rw[h11] at e;cases e
 ·obtain⟨X,e1,D,Z⟩:=hx e;have J:=Zh Z;refine⟨X,e1,D,by rw[O X J];exact Y X D,fun _=>by rw[aa.far X J (by rw[Y X D];exact fun e=>hi e.symm)];exact Z,fun e=>?_⟩;have e:L 10=true:=e;rw[h10] at e;cases e
theorem LocI.s6 (h:LocI MAt W tag iM mp K s px py L σ w)(I:L 5=true):LocI MAt W tag iM mp K s px py (fun j=>if j=6 then true else L j) (fun j=>if j=6 then σ 5 else σ j) w:=by
 obtain⟨k,a,b,c,r,tag1,O,q2,D,q4,Z,J,q7,e,q9,q10,Y⟩:=h.post I;exact⟨h.v0,h.v1,h.v2,h.v3,h.v4,h.pre,fun _=>⟨k,a,b,c,r,tag1,O,q2,D,q4,Z,J,fun _=>rfl,e,q9,q10,Y⟩⟩
theorem LocI.s7 (h:LocI MAt W tag iM mp K s px py L σ w)(I:L 5=true):∃ k a b c r,σ 5= .tuple #[.agg #[int i64 k,int i64 a,int i64 b,int i64 c],int i64 r]/\LocI MAt W tag iM mp K s px py (fun j=>if j=7 then true else L j) (fun j=>if j=7 then .agg #[int i64 k,int i64 a,int i64 b,int i64 c] else σ j) w:=by
 obtain⟨k,a,b,c,r,tag1,e,q2,D,q4,Y,J,q7,q8,Z,q10,O⟩:=h.post I;exact⟨k,a,b,c,r,e,⟨h.v0,h.v1,h.v2,h.v3,h.v4,h.pre,fun _=>⟨k,a,b,c,r,tag1,e,q2,D,q4,Y,J,q7,fun _=>rfl,Z,q10,O⟩⟩⟩
theorem LocI.s8 (h:LocI MAt W tag iM mp K s px py L σ w)(J:L 5=true):∃ k a b c r,σ 5= .tuple #[.agg #[int i64 k,int i64 a,int i64 b,int i64 c],int i64 r]/\LocI MAt W tag iM mp K s px py (fun j=>if j=8 then true else L j) (fun j=>if j=8 then int i64 r else σ j) w:=by
 obtain⟨k,a,b,c,r,tag1,e,q2,I,q4,Z,O,q7,D,q9,q10,Y⟩:=h.post J;exact⟨k,a,b,c,r,e,⟨h.v0,h.v1,h.v2,h.v3,h.v4,h.pre,fun _=>⟨k,a,b,c,r,tag1,e,q2,I,q4,Z,O,q7,D,fun _=>rfl,q10,Y⟩⟩⟩
theorem LocI.s11 (h:LocI MAt W tag iM mp K s px py L σ w)(J:L 5=true)(h8:L 8=true):∃ r,σ 8=int i64 r/\LocI MAt W tag iM mp K s px py (fun j=>if j=11 then true else L j) (fun j=>if j=11 then int i64 r else σ j) w:=by
 obtain⟨k,a,b,c,r,tag1,Y,q2,I,q4,q5,O,q7,D,e,q10,Z⟩:=h.post J;exact⟨r,e h8,⟨h.v0,h.v1,h.v2,h.v3,h.v4,h.pre,fun _=>⟨k,a,b,c,r,tag1,Y,q2,I,q4,q5,O,q7,D,e,fun _=>rfl,Z⟩⟩⟩
theorem LocI.s9 (Lw:MeshLaw MAt)(h:LocI MAt W tag iM mp K s px py L σ w)(h10:L 10=false) :
  LocI MAt W tag iM mp K s px py (fun j=>if j=9 then true else L j) (fun j=>if j=9 then .pointer (some ⟨w.heap.size,0,none⟩) else σ j) (w.alloc (.cells #[int i64 0,int i64 0,int i64 0,int i64 0] 155)):=by
 refine⟨h.v0,h.v1,h.v2,h.v3,h.v4,fun e=>?_,fun e=>?_⟩
 ·obtain⟨D,_⟩:=h.pre e;exact⟨D.alloc D.size _,fun _=>⟨w.heap.size,rfl,D.size,heap_alloc_new _ _⟩⟩
 ·obtain⟨k,a,b,c,r,tag1,q1,q2,q3,O,q5,J,q7,Y,q9,q10,q11⟩:=h.post e;have Z:tag1 w.heap.size=0:=by
   by_cases e:tag1 w.heap.size=0
   ·exact e
   ·have:=O _ e;omega
  refine⟨k,a,b,c,r,tag1,q1,q2,q3,fun j I=>L3 (O j I) (by simp),Lw.frame _ _ _ _ _ _ _ q5 (by simp) fun j I ht=>⟨Below.heap_alloc _ _ _ I,ht⟩,Chg.trans J (Chg.of_below (F:=fun _=>False) (Zb w _)) fun _ _ h=>h.elim,q7,Y,q9,q10,fun _=>⟨w.heap.size,rfl,J.size,Z,fun _=>heap_alloc_new _ _,fun e=>?_⟩⟩;have e:L 10=true:=e;rw[h10] at e;cases e
theorem LocI.s10 (Lw:MeshLaw MAt)(h:LocI MAt W tag iM mp K s px py L σ w)(htg:∀ k,W.heap.size<=k->tag k=0)(hi:iM≠0)(Z:L 5=true)(h7:L 7=true)(h9:L 9=true)(hu:L 10=false) :
  ∃ X k a b c,σ 9= .pointer (some ⟨X,0,none⟩)/\σ 7= .agg #[int i64 k,int i64 a,int i64 b,int i64 c]/\w.heap[X]? =some (.cells #[int i64 0,int i64 0,int i64 0,int i64 0] 155 (0,0))/\
   LocI MAt W tag iM mp K s px py (fun j=>if j=10 then true else L j) (fun j=>if j=10 then undef else σ j) ((((w.setCell ⟨X,0,none⟩ (int i64 k)).setCell ⟨X,1,none⟩ (int i64 a)).setCell ⟨X,2,none⟩ (int i64 b)).setCell ⟨X,3,none⟩ (int i64 c)):=by
 obtain⟨k,a,b,c,r,tag1,q1,q2,q3,q4,q5,I,q7,O,q9,q10,q11⟩:=h.post Z;obtain⟨X,e1,e2,e3,e4,_⟩:=q11 h9;have Y:=e4 hu;have k0:=heap_setCell_same w X 0 _ _ (int i64 k) Y;have k1:=heap_setCell_same _ X 1 _ _ (int i64 a) k0;have k2:=heap_setCell_same _ X 2 _ _ (int i64 b) k1;have k3:=heap_setCell_same _ X 3 _ _ (int i64 c) k2;have aa:∀ j,j≠X->((((w.setCell ⟨X,0,none⟩ (int i64 k)).setCell ⟨X,1,none⟩ (int i64 a)).setCell ⟨X,2,none⟩ (int i64 b)).setCell ⟨X,3,none⟩ (int i64 c)).heap[j]? =w.heap[j]? :=fun j D=>by
  rw[Below.heap_setCell _ _ _ _ D,Below.heap_setCell _ _ _ _ D,Below.heap_setCell _ _ _ _ D,Below.heap_setCell _ _ _ _ D]
 refine⟨X,k,a,b,c,e1,O h7,Y,⟨h.v0,h.v1,h.v2,h.v3,h.v4,fun e=>?_,fun _=>⟨k,a,b,c,r,tag1,q1,q2,q3,fun j D=>by simpa using q4 j D,Lw.frame _ _ _ _ _ _ _ q5 (by simp) fun j D J=>⟨aa j fun e=>?_,J⟩,?_,q7,O,q9,q10,fun _=>⟨X,e1,e2,e3,(fun e=>by cases e),fun _=>?_⟩⟩⟩⟩
 ·have e:L 5=false:=e;rw[Z] at e;cases e
 ·rw[e,e3] at J;exact hi J.symm
 ·exact⟨I.os,I.tape,I.output,by simpa using I.size,fun j D hF=>by rw[aa j (by omega)];exact I.far j D hF⟩
 ·rw[k3];rfl
theorem LocI.start (W:World):LocI MAt W tag iM mp K s px py (fun _=>false) σ W.drew:=⟨(fun h=>by cases h),(fun h=>by cases h),(fun h=>by cases h),(fun h=>by cases h),(fun h=>by cases h),fun _=>⟨(Below.refl _ _).drew,(fun h=>by cases h)⟩,(fun h=>by cases h)⟩
end
theorem Z5n (pa:Option Addr)(pc:Nat)(ta:Option Addr)(tc:Nat)(l:List Pt)(ts:List T3)(px py:Int)(w:World)(hr:Z0 w pa l)(Z:l.length<=60)(hn:Zv l)(I:Zau l ts)(J:X4 w ta ts)(aa:Near px py) :
  Calls prog 103 #[.slice pa l.length pc,.slice ta ts.length tc,pv px py] w fun e w'=>∃ k a b c,e= .returned (.agg #[int i64 k,int i64 a,int i64 b,int i64 c])/\Xl l ts (Zm l ts (flB l) l.length) (px,py) k a b c/\Below w.heap.size w w':=by
 by_cases O:l=[]
 ·subst O;have hts:ts=[]:=by
   cases ts with
   | nil=>rfl
   | cons t ts=>
    have:=I.nums t (List.mem_cons_self ..);simp only[List.length_nil] at this;omega
  subst hts;refine (Z5i pa pc ta tc px py w).mono ?_;rintro e w' ⟨rfl,D⟩;exact⟨0,-1,-1,-1,rfl,.inr (.inr (.inr ⟨(fun i hi=>by simp at hi),(fun q hq=>by simp[Zm] at hq),(fun t J=>by cases J),rfl,rfl,rfl,rfl⟩)),D⟩
 ·rcases hr with h|⟨b,Y,rfl,D,hp⟩
  ·exact absurd h O
  ·exact Z36 b Y pc ta tc l ts (flB l) px py w Z I.1 hn aa D hp J (Zic l) I.nums
structure LocJ (W:World)(K:Nat)(pa:Option Addr)(pc:Nat)(ta:Option Addr)(tc:Nat)(l:List Pt)(ts:List T3)(px py:Int)(L:Nat->Bool)(σ:Nat->Value)(w:World):Prop where
 v0:L 0=true->σ 0= .pointer (some ⟨K,0,none⟩)
 v1:L 1=true->σ 1= .pointer (some ⟨K,0,none⟩)
 v2:L 2=true->σ 2= .pointer (some ⟨K,1,none⟩)
 v3:L 3=true->σ 3= .slice pa l.length pc
 v4:L 4=true->σ 4= .slice ta ts.length tc
 v5:L 5=true->σ 5=pv px py
 bel:Below W.heap.size W w
 v6:L 6=true->∃ k a b c,σ 6= .agg #[int i64 k,int i64 a,int i64 b,int i64 c]/\Xl l ts (Zm l ts (flB l) l.length) (px,py) k a b c
 v7:L 7=true->∃ Y,σ 7= .pointer (some ⟨Y,0,none⟩)/\W.heap.size<=Y/\(L 8=false->w.heap[Y]? =some (.cells #[int i64 0,int i64 0,int i64 0,int i64 0] 155 (0,0)))/\
  (L 8=true->∃ k a b c,Xl l ts (Zm l ts (flB l) l.length) (px,py) k a b c/\w.heap[Y]? =some (.cells #[int i64 k,int i64 a,int i64 b,int i64 c] 155 (0,0)))
section
variable {W w w':World} {K:Nat} {pa ta:Option Addr} {pc tc:Nat} {l:List Pt} {ts:List T3} {px py:Int} {L:Nat->Bool} {σ:Nat->Value}
theorem LocJ.s0 (h:LocJ W K pa pc ta tc l ts px py L σ w):LocJ W K pa pc ta tc l ts px py (fun j=>if j=0 then true else L j) (fun j=>if j=0 then .pointer (some ⟨K,0,none⟩) else σ j) w:=⟨fun _=>rfl,h.v1,h.v2,h.v3,h.v4,h.v5,h.bel,h.v6,h.v7⟩
theorem LocJ.s1 (h:LocJ W K pa pc ta tc l ts px py L σ w):LocJ W K pa pc ta tc l ts px py (fun j=>if j=1 then true else L j) (fun j=>if j=1 then .pointer (some ⟨K,0,none⟩) else σ j) w:=⟨h.v0,fun _=>rfl,h.v2,h.v3,h.v4,h.v5,h.bel,h.v6,h.v7⟩
theorem LocJ.s2 (h:LocJ W K pa pc ta tc l ts px py L σ w):LocJ W K pa pc ta tc l ts px py (fun j=>if j=2 then true else L j) (fun j=>if j=2 then .pointer (some ⟨K,1,none⟩) else σ j) w:=⟨h.v0,h.v1,fun _=>rfl,h.v3,h.v4,h.v5,h.bel,h.v6,h.v7⟩
theorem LocJ.s3 (h:LocJ W K pa pc ta tc l ts px py L σ w):LocJ W K pa pc ta tc l ts px py (fun j=>if j=3 then true else L j) (fun j=>if j=3 then .slice pa l.length pc else σ j) w:=⟨h.v0,h.v1,h.v2,fun _=>rfl,h.v4,h.v5,h.bel,h.v6,h.v7⟩
theorem LocJ.s4 (h:LocJ W K pa pc ta tc l ts px py L σ w):LocJ W K pa pc ta tc l ts px py (fun j=>if j=4 then true else L j) (fun j=>if j=4 then .slice ta ts.length tc else σ j) w:=⟨h.v0,h.v1,h.v2,h.v3,fun _=>rfl,h.v5,h.bel,h.v6,h.v7⟩
theorem LocJ.s5 (h:LocJ W K pa pc ta tc l ts px py L σ w):LocJ W K pa pc ta tc l ts px py (fun j=>if j=5 then true else L j) (fun j=>if j=5 then pv px py else σ j) w:=⟨h.v0,h.v1,h.v2,h.v3,h.v4,fun _=>rfl,h.bel,h.v6,h.v7⟩
theorem LocJ.s6 (h:LocJ W K pa pc ta tc l ts px py L σ w){k a b c:Int}(Z:Xl l ts (Zm l ts (flB l) l.length) (px,py) k a b c)(D:Below w.heap.size w w') :
  LocJ W K pa pc ta tc l ts px py (fun j=>if j=6 then true else L j) (fun j=>if j=6 then .agg #[int i64 k,int i64 a,int i64 b,int i64 c] else σ j) w':=by
 refine⟨h.v0,h.v1,h.v2,h.v3,h.v4,h.v5,h.bel.trans (D.mono h.bel.size),fun _=>⟨k,a,b,c,rfl,Z⟩,fun e=>?_⟩;obtain⟨Y,J,O,e3,e4⟩:=h.v7 e;refine⟨Y,J,O,fun e=>?_,fun e=>?_⟩
 ·have:=e3 e;rw[D.block Y (Zh this)];exact this
 ·obtain⟨k,a,b,c,q1,I⟩:=e4 e;exact⟨k,a,b,c,q1,by rw[D.block Y (Zh I)];exact I⟩
theorem LocJ.s7 (h:LocJ W K pa pc ta tc l ts px py L σ w)(D:L 8=false) :
  LocJ W K pa pc ta tc l ts px py (fun j=>if j=7 then true else L j) (fun j=>if j=7 then .pointer (some ⟨w.heap.size,0,none⟩) else σ j) (w.alloc (.cells #[int i64 0,int i64 0,int i64 0,int i64 0] 155)):=by
 refine⟨h.v0,h.v1,h.v2,h.v3,h.v4,h.v5,h.bel.alloc h.bel.size _,h.v6,fun _=>⟨w.heap.size,rfl,h.bel.size,fun _=>heap_alloc_new _ _,fun e=>?_⟩⟩;have e:L 8=true:=e;rw[D] at e;cases e
theorem LocJ.s8 (h:LocJ W K pa pc ta tc l ts px py L σ w)(h6:L 6=true)(O:L 7=true)(hu:L 8=false) :
  ∃ Y k a b c,σ 7= .pointer (some ⟨Y,0,none⟩)/\σ 6= .agg #[int i64 k,int i64 a,int i64 b,int i64 c]/\w.heap[Y]? =some (.cells #[int i64 0,int i64 0,int i64 0,int i64 0] 155 (0,0))/\
   LocJ W K pa pc ta tc l ts px py (fun j=>if j=8 then true else L j) (fun j=>if j=8 then undef else σ j) ((((w.setCell ⟨Y,0,none⟩ (int i64 k)).setCell ⟨Y,1,none⟩ (int i64 a)).setCell ⟨Y,2,none⟩ (int i64 b)).setCell ⟨Y,3,none⟩ (int i64 c)):=by
 obtain⟨Y,J,D,e3,_⟩:=h.v7 O;obtain⟨k,a,b,c,q1,q2⟩:=h.v6 h6;have I:=e3 hu;have Z:=heap_setCell_same w Y 0 _ _ (int i64 k) I;have k1:=heap_setCell_same _ Y 1 _ _ (int i64 a) Z;have k2:=heap_setCell_same _ Y 2 _ _ (int i64 b) k1;have k3:=heap_setCell_same _ Y 3 _ _ (int i64 c) k2;refine⟨Y,k,a,b,c,J,q1,I,⟨h.v0,h.v1,h.v2,h.v3,h.v4,h.v5,(((h.bel.setCell D _).setCell D _).setCell D _).setCell D _,h.v6,fun _=>⟨Y,J,D,(fun e=>by cases e),fun _=>⟨k,a,b,c,q2,?_⟩⟩⟩⟩;rw[k3];rfl
theorem LocJ.start (W:World):LocJ W K pa pc ta tc l ts px py (fun _=>false) σ W.drew:=⟨(fun h=>by cases h),(fun h=>by cases h),(fun h=>by cases h),(fun h=>by cases h),(fun h=>by cases h),(fun h=>by cases h),(Below.refl _ _).drew,(fun h=>by cases h),(fun h=>by cases h)⟩
end
theorem Yj.below {MAt:Yd}(L:MeshLaw MAt){WB N:Nat}{v0:Value}{w w' D:World}{tag:Nat->Nat}{I iM:Nat}{d:KD}(h:Yj MAt WB N v0 w w' tag I iM d)(e:Below w'.heap.size w' D):Yj MAt WB N v0 w D tag I iM d:=by
 obtain⟨tag',d',h1,⟨⟨vP,vN,vT,J⟩,Y⟩,Z,h4,O,h6⟩:=h;exact⟨tag',d',h1.below e,⟨⟨vP,vN,vT,J.below e⟩,L.frame _ _ _ _ _ _ _ Y e.size fun k hk ht=>⟨e.block k hk,ht⟩⟩,Z,h4,O,Chg.trans h6 (Chg.of_below (F:=fun _=>False) e) fun _ _ h=>h.elim⟩
theorem Z5o {l:List Pt}{ts:List T3}(Z:Zau l ts){p:Pt}{k a b c:Int}(h:Xl l ts (Zm l ts (flB l) l.length) p k a b c):(-1<=a/\a<l.length)/\(-1<=b/\b<l.length)/\(-1<=c/\c<l.length):=by
 rcases h with ⟨i,hi,e,D,O,I,J⟩|⟨Y,q,hq,hs,D,O,I,J⟩|⟨Y,hj,t,ht,hin,D,O,I,J⟩|⟨Y,hj,hti,D,O,I,J⟩
 ·omega
 ·have:=Zea.1 (show (q.1,q.2)∈_ from hq);omega
 ·have:=Z.nums t ht;omega
 ·omega
def upO (e:List Int)(i j:Nat)(x:Int):Int:=if j<i then Yc e x else x
theorem Zku {e:List Int}{j:Nat}:Yc e (j:Int)=e.getD j 0:=by
 unfold Yc;rw[if_pos (by omega),Int.toNat_natCast]
theorem Zn1 {e:List Int}{x:Int}(h:¬ 0<=x):Yc e x=x:=by
 unfold Yc;rw[if_neg h]
theorem Z5p {MAt:Yd}(L:MeshLaw MAt)(WB N iK iM:Nat)(v0:Value)(tag:Nat->Nat)(d:KD)(px py:Int)(w:World)(hB:Bks w WB v0 tag N)(hN:N<=925904528800)(hK:KM MAt w tag iK iM d)(h1:4<iK)(h2:4<iM)(h3:iK≠iM) :
  Calls prog 61 #[.pointer (some ⟨WB,0,none⟩),.pointer (some ⟨d.K,0,none⟩),.agg #[int i64 px,int i64 py]] w fun e w'=>e= .returned (.bool true)/\Yj MAt WB N v0 w w' tag iK iM d:=by
 obtain⟨⟨vP,vN,vT,hA⟩,hM⟩:=hK;have OK:Hid d.s.Ok:=L.ok _ _ _ _ _ hM;have hlt:=hB.tlt;have hKl:=hA.lt;have hWB:=hB.lt;go_enter func61,ntmps61;go_upto_region 1 with fail;have hbb:=Zb w (.cells #[int i64 px,int i64 py] 37);have x0:(w.alloc (.cells #[int i64 px,int i64 py] 37)).cell? ⟨w.heap.size,0,none⟩=some (int i64 px):=by rw[World.cell?_alloc_at _ _ _ _ (by simp)];rfl
 have x1:(w.alloc (.cells #[int i64 px,int i64 py] 37)).cell? ⟨w.heap.size,1,none⟩=some (int i64 py):=by rw[World.cell?_alloc_at _ _ _ _ (by simp)];rfl
 have hs0':(w.alloc (.cells #[int i64 px,int i64 py] 37)).heap.size=w.heap.size+1:=by simp
 generalize w.alloc (.cells #[int i64 px,int i64 py] 37)=W at *
 have hAW:=hA.below hbb;have hMW:MAt W tag iM d.mp d.s:=L.frame _ _ _ _ _ _ _ hM hbb.size fun k hk ht=>⟨hbb.block k hk,ht⟩
 have hltW:Y6 W tag:=fun k hk=>by have:=hlt k hk;omega
 have hBW:=hB.below hbb;have c0:=hAW.cells.1;have htx:∀ k,w.heap.size<=k->tag k=0:=fun k hk=>by
  by_cases e:tag k=0
  ·exact e
  ·have:=hlt _ e;omega
 have HT:∀ V,Below W.heap.size W V->Calls prog 102 #[.pointer (some ⟨d.mp,0,none⟩),pv px py] V fun e w'=>∃ k a b c r,e= .returned (.tuple #[.agg #[int i64 k,int i64 a,int i64 b,int i64 c],int i64 r])/\Zg0 d.s (px,py) k a b c r/\Zbc MAt V w' tag iM d.mp d.s (.slice none 0 0):=fun V hV=>
  L.locate V tag iM d.mp d.s px py (by omega) (L.frame _ _ _ _ _ _ _ hMW hV.size fun k hk ht=>⟨hV.block k hk,ht⟩) (fun k hk=>L3 (hltW k hk) hV.size)
 have HTB:Below W.heap.size W (W.alloc (.cells #[int i64 0,int i64 0,int i64 0,int i64 0] 155)).drew:=(Zb _ _).drew;have HTA:Below W.heap.size W W.drew:=(Below.refl _ _).drew;have HAW:Hid (KAt W tag iK d vP vN vT/\MAt W tag iM d.mp d.s/\Y6 W tag/\Below w.heap.size w W/\Bks W WB v0 tag N):=⟨hAW,hMW,hltW,hbb,hBW⟩;have HTX:Hid (∀ k,w.heap.size<=k->tag k=0):=htx;have hKW:d.K<W.heap.size:=by omega
 have hxW:w.heap.size<W.heap.size:=by omega
 clear hA hM hlt hAW hMW hltW hB hBW htx;go_cut [7,8] (fun s7 s8 wx=>∃ X k a b c r,s7= .pointer (some ⟨X,0,none⟩)/\s8=int i64 r/\Ztl MAt W wx tag iM d.mp d.s (px,py) X k a b c r)
 case first=>
  as_aux_lemma=>
  have htg:∀ k,W.heap.size<=k->tag k=0:=fun k hk=>HTX.out k (by omega)
  refine Zd9 (m:=12) (by kernel_rfl) (by kernel_rfl) (dsts:=[some 15,some 16,some 17,some 18,some 19,some 20,some 14,some 21,some 22,some 7,none,some 8]) rfl (by kernel_rfl) (l:=[]) rfl (LocI MAt W tag iM d.mp d.K d.s px py) (LocI.start W) ?_ ?_
  ·refine flS (flS (flS (flS (flS (flS (flS (flS (flS (flS (flS (flS fl0 ?_) ?_) ?_) ?_) ?_) ?_) ?_) ?_) ?_) ?_) ?_) ?_;all_goals intro Z σ wx D hp hdn hun
   ·exact (Z8 (x:=.tmp 1) rfl rfl D.s0).toS
   ·exact (Za1 (x:=.tmp 15) rfl (show σ 0=_ from D.v0 (hp 0 rfl)) D.s1).toS
   ·exact (Za2 (T:=67) (x:=.tmp 16) (f:=0) rfl (show σ 1=_ from D.v1 (hp 1 rfl)) (Z5k _ _) D.s2).toS
   ·have hL5:Z 5=false:=by
     cases hl:Z 5 with
     | false=>rfl
     | true=>have:=hdn 5 3 hl rfl;rw[hun] at this;cases this
    obtain⟨hb,_⟩:=D.pre hL5;exact (Yr (T:=63) (x:=.tmp 17) rfl (show σ 2=_ from D.v2 (hp 2 rfl)) (Z5l _ _ _ ((hb.cell (p:=⟨d.K,0,none⟩) hKW).trans c0)) D.s3).toS
   ·have hL5:Z 5=false:=by
     cases hl:Z 5 with
     | false=>rfl
     | true=>have:=hdn 5 4 hl rfl;rw[hun] at this;cases this
    obtain⟨hb,_⟩:=D.pre hL5;exact (Yr (T:=37) (x:=.tmp 5) rfl rfl (Zb2 _ _ _ px py ((hb.cell (p:=⟨w.heap.size,0,none⟩) hxW).trans x0) ((hb.cell (p:=⟨w.heap.size,1,none⟩) hxW).trans x1)) D.s4).toS
   ·have no:∀ j,X5 _ j 5=true->Z j=false:=fun j hw=>by
     cases hl:Z j with
     | false=>rfl
     | true=>have:=hdn j 5 hl hw;rw[hun] at this;cases this
    have n6:Z 6=false:=no 6 rfl;have n7:Z 7=false:=by
     cases hl:Z 7 with
     | false=>rfl
     | true=>have:=hdn 7 6 hl rfl;rw[n6] at this;cases this
    have n8:Z 8=false:=by
     cases hl:Z 8 with
     | false=>rfl
     | true=>have:=hdn 8 6 hl rfl;rw[n6] at this;cases this
    have n10:Z 10=false:=by
     cases hl:Z 10 with
     | false=>rfl
     | true=>have:=hdn 10 7 hl rfl;rw[n7] at this;cases this
    have n11:Z 11=false:=by
     cases hl:Z 11 with
     | false=>rfl
     | true=>have:=hdn 11 8 hl rfl;rw[n8] at this;cases this
    have h3':σ 3= .pointer (some ⟨d.mp,0,none⟩):=D.v3 (hp 3 rfl);have h4':σ 4=pv px py:=D.v4 (hp 4 rfl);refine (Zei (f:=102) (args:=[.pointer (some ⟨d.mp,0,none⟩),pv px py]) rfl rfl (by show [σ 3,σ 4]=_;rw[h3',h4']) (by go_simp) ((HT wx (D.pre hun).1).mono ?_)).toS;rintro e w' ⟨k,a,b,c,r,rfl,hloc,hp⟩;exact⟨_,rfl,D.s5 htg (by omega) hun n6 n7 n8 n10 n11 hloc hp⟩
   ·exact (Z8 (x:=.tmp 20) rfl rfl (D.s6 (hp 5 rfl))).toS
   ·have h5:Z 5=true:=hdn 6 5 (hp 6 rfl) rfl;obtain⟨k,a,b,c,r,e5,hN⟩:=D.s7 h5;obtain⟨_,_,_,_,_,_,q1,_,_,_,_,_,q7,_⟩:=D.post h5;have e6:σ 6= .tuple #[.agg #[int i64 k,int i64 a,int i64 b,int i64 c],int i64 r]:=(q7 (hp 6 rfl)).trans e5;exact (Ztk (x:=.tmp 14) (i:=0) rfl (show σ 6=_ from e6) rfl hN).toS
   ·have h5:Z 5=true:=hdn 6 5 (hp 6 rfl) rfl;obtain⟨k,a,b,c,r,e5,hN⟩:=D.s8 h5;obtain⟨_,_,_,_,_,_,q1,_,_,_,_,_,q7,_⟩:=D.post h5;have e6:σ 6= .tuple #[.agg #[int i64 k,int i64 a,int i64 b,int i64 c],int i64 r]:=(q7 (hp 6 rfl)).trans e5;exact (Ztk (x:=.tmp 14) (i:=1) rfl (show σ 6=_ from e6) rfl hN).toS
   ·have n10:Z 10=false:=by
     cases hl:Z 10 with
     | false=>rfl
     | true=>have:=hdn 10 9 hl rfl;rw[hun] at this;cases this
    exact (Zeh (T:=155) rfl (Zti _) (D.s9 L n10)).toS
   ·have h7:Z 7=true:=hp 7 rfl;have h5:Z 5=true:=hdn 6 5 (hdn 7 6 h7 rfl) rfl;obtain⟨X,k,a,b,c,e9,e7,hX,hN⟩:=D.s10 L htg (by omega) h5 h7 (hp 9 rfl) hun;exact Zc0 (T:=155) (x:=.tmp 7) (y:=.tmp 21) rfl (show σ 9=_ from e9) (show σ 7=_ from e7) (Ztj _ _ _ _ _ _ hX) hN
   ·have h8:Z 8=true:=hp 8 rfl;have h5:Z 5=true:=hdn 6 5 (hdn 8 6 h8 rfl) rfl;obtain⟨r,e8,hN⟩:=D.s11 h5 h8;exact (Z5m (x:=.tmp 22) rfl (show σ 8=_ from e8) hN).toS
  ·intro Z σ wx D hall;obtain⟨k,a,b,c,r,tag1,q1,q2,q3,q4,q5,q6,q7,q8,q9,q10,q11⟩:=D.post (hall 5 (by omega));obtain⟨X,e1,e2,e3,_,e5⟩:=q11 (hall 9 (by omega));have e11:=q10 (hall 11 (by omega));refine⟨?_⟩;simp only[lay,Act.put,List.drop_succ_cons,List.drop_zero,List.setIfInBounds_toArray,List.set_cons_succ,List.set_cons_zero,e1,e11];have HR:Hid (Ztl MAt W wx tag iM d.mp d.s (px,py) X k a b c r):=⟨q2,e5 (hall 10 (by omega)),e2,tag1,e3,q3,q4,q5,q6⟩;clear q1 q2 q3 q4 q5 q6 q7 q8 q9 q10 q11 e1 e2 e3 e5 e11 D hall;go_wp2_with fail
   go_meet;exact⟨X,k,a,b,c,r,rfl,rfl,HR.out⟩
 case rest=>
  as_aux_lemma=>
  obtain⟨X,k,a,b,c,r,rfl,rfl,hloc,hX,hXW,tag1,hX0,hag1,hlt1,hM1,hch1⟩:=hcut;have hltW:=HAW.out.2.2.1;have hA1:=HAW.out.1.keep (w':=wc) (tag':=tag1) fun k hk ht=>⟨hch1.far k hk (by omega),(hag1 k hk).trans ht⟩
  have hB1:Bks wc WB v0 tag1 N:=HAW.out.2.2.2.2.move (fun k h0 h4=>⟨hch1.far k (hltW k h0) (by omega),hag1 k (hltW k h0)⟩) hlt1 hag1;have hxt:tag w.heap.size=0:=HTX.out _ (Nat.le_refl _);replace x0:=(hch1.cell (o:=0) hxW (by rw[hxt];omega)).trans x0;replace x1:=(hch1.cell (o:=1) hxW (by rw[hxt];omega)).trans x1;have hxt1:tag1 w.heap.size=0:=(hag1 _ hxW).trans hxt;have hAg:Ye w tag tag1:=fun k hk=>hag1 k (by omega)
  have hCh:Chg (fun k=>tag k=iM) w wc:=Chg.trans (Chg.of_below HAW.out.2.2.2.1) hch1 fun _ _ h=>h
  have hx1:w.heap.size<wc.heap.size:=L3 hxW hch1.size;have hX1:X<wc.heap.size:=Zh hX;have hK1:d.K<wc.heap.size:=hA1.lt;have H1:Hid (KAt wc tag1 iK d vP vN vT/\MAt wc tag1 iM d.mp d.s/\Ye w tag tag1/\Chg (fun k=>tag k=iM) w wc/\Y6 wc tag1/\Bks wc WB v0 tag1 N):=⟨hA1,hM1,hAg,hCh,hlt1,hB1⟩;have HL:Hid (Zg0 d.s (px,py) k a b c r):=hloc;have HX:Hid (wc.heap[X]? =some (.cells #[int i64 k,int i64 a,int i64 b,int i64 c] 155 (0,0))):=hX;have HX0:Hid (tag1 X=0/\tag1 w.heap.size=0/\WB<w.heap.size/\w.heap.size<X):=⟨hX0,hxt1,hWB,by omega⟩;clear hltW hA1 hB1 hxt hxt1 hAg hCh hloc hX hX0 hag1 hlt1 hM1 hch1 HAW HTX HTA HTB HT hKW hxW c0 hbb hs0' hXW hWB;generalize wc=W1 at *
  go_upto_region 3 with (go_at_call 63;refine (Zck _ _ _).mono ?_;rintro e w2 ⟨rfl,hb2⟩);replace x0:=(hb2.cell (p:=⟨w.heap.size,0,none⟩) hx1).trans x0;replace x1:=(hb2.cell (p:=⟨w.heap.size,1,none⟩) hx1).trans x1;have HX2:w2.heap[X]? =some (.cells #[int i64 k,int i64 a,int i64 b,int i64 c] 155 (0,0)):=(hb2.block X hX1).trans HX.out;have hB2:=H1.out.2.2.2.2.2.below hb2;have hA2:=H1.out.1.below hb2;have hM2:MAt w2 tag1 iM d.mp d.s:=L.frame _ _ _ _ _ _ _ H1.out.2.1 hb2.size fun k hk ht=>⟨hb2.block k hk,ht⟩
  have hCh2:Chg (fun k=>tag k=iM) w w2:=Chg.trans H1.out.2.2.2.1 (Chg.of_below (F:=fun _=>False) hb2) fun _ _ h=>h.elim
  have hx2:w.heap.size<w2.heap.size:=L3 hx1 hb2.size;have hX2:X<w2.heap.size:=Zh HX2;have H2:Hid (KAt w2 tag1 iK d vP vN vT/\MAt w2 tag1 iM d.mp d.s/\Ye w tag tag1/\Chg (fun k=>tag k=iM) w w2/\Bks w2 WB v0 tag1 N):=⟨hA2,hM2,H1.out.2.2.1,hCh2,hB2⟩;obtain⟨a0,a1,a2,a3,_⟩:=Zb0 HX2;have HX2':Hid (w2.heap[X]? =some (.cells #[int i64 k,int i64 a,int i64 b,int i64 c] 155 (0,0))):=HX2;clear HX2 hB2 hA2 hM2 hCh2 hb2 H1 HX hx1 hX1 hK1;cases hfar:Zc px py with
  | true=>
   have hq:k=0/\a=0/\b=0/\c=0/\r=1:=by
    rcases HL.out with ⟨_,q⟩|⟨q,_⟩
    ·exact q
    ·rw[show Zc (px,py).1 (px,py).2=Zc px py from rfl,hfar] at q;cases q
   obtain⟨rfl,rfl,rfl,rfl,rfl⟩:=hq;have HPO:Hid (Yj MAt WB N v0 w w2 tag iK iM d):=by
    obtain⟨q1,q2,q3,q4,q5⟩:=H2.out;exact⟨tag1,d,q5.more (by omega),⟨⟨vP,vN,vT,q1⟩,q2⟩,rfl,by omega,q3,q4.mono fun k _ h=>.inr (.inr h)⟩
   have heq:=Zth 0 0 0 0;clear H2 HX2' HL HX0 OK hfar;go_wp2_with (go_at_call 39;refine (Zcc _ _).mono ?_;rintro e w7 ⟨rfl,rfl⟩)
   go_ret;exact⟨rfl,HPO.out⟩
  | false=>
   have hq:r=0/\∃ I J O,Xl d.s.pts d.s.ts (Zm d.s.pts d.s.ts (flB d.s.pts) d.s.pts.length) (px,py) k I J O/\a=Yc d.s.nums I/\b=Yc d.s.nums J/\c=Yc d.s.nums O:=by
    rcases HL.out with ⟨q,_⟩|⟨_,q⟩
    ·rw[show Zc (px,py).1 (px,py).2=Zc px py from rfl,hfar] at q;cases q
    ·exact q
   obtain⟨rfl,hloc⟩:=hq;have HLO:Hid (∃ I J O,Xl d.s.pts d.s.ts (Zm d.s.pts d.s.ts (flB d.s.pts) d.s.pts.length) (px,py) k I J O/\a=Yc d.s.nums I/\b=Yc d.s.nums J/\c=Yc d.s.nums O):=hloc;have HNR:Hid (Near px py):=Xp hfar;have WT:=Zs9 L WB N iK iM v0 tag1 d w2 H2.out.2.2.2.2 hN ⟨⟨vP,vN,vT,H2.out.1⟩,H2.out.2.1⟩ h1 h2 h3;clear hloc hfar HL a0 a1 a2 a3;go_upto_region 6 with (go_at_call 60;refine WT.mono ?_;rintro e w3 ⟨v,rfl,hown3,hTP⟩);obtain⟨tag3,d3,hB3,⟨⟨vP3,vN3,vT3,hA3⟩,hM3⟩,eK,es,hag3,hch3⟩:=hTP;obtain⟨ta,tc,rfl⟩:=Zn hown3;obtain⟨K3,mp3,s3,told3,tl3⟩:=d3;simp only at eK es;subst eK es;obtain⟨pa,pc,rfl⟩:=Zn hA3.ownP;obtain⟨na,nc,rfl⟩:=Zn hA3.ownN;have nF:∀ j,tag1 j=0->WB<j->¬ (BkF WB tag1 j\/tag1 j=iK\/tag1 j=iM):=fun j h0 hj h=>by
    rcases h with (h|h)|h
    ·omega
    ·exact h.1 h0
    ·omega
   have nx:=nF _ HX0.out.2.1 HX0.out.2.2.1;have nX:=nF X HX0.out.1 (by have:=HX0.out.2.2;omega);replace x0:=(hch3.cell (o:=0) hx2 nx).trans x0;replace x1:=(hch3.cell (o:=1) hx2 nx).trans x1;have hX3:=(hch3.far X hX2 nX).trans HX2'.out;have HX3:Hid (w3.heap[X]? =some (.cells #[int i64 k,int i64 a,int i64 b,int i64 c] 155 (0,0))):=hX3;have hx3:w.heap.size<w3.heap.size:=L3 hx2 hch3.size;have hXl3:X<w3.heap.size:=Zh hX3;have hK3:d.K<w3.heap.size:=hA3.lt;have H3:Hid (Yj MAt WB N v0 w w3 tag iK iM d):=by
    obtain⟨q1,q2,q3,q4,q5⟩:=H2.out;refine⟨tag3,_,hB3,⟨⟨_,_,_,hA3⟩,hM3⟩,rfl,by simp only;omega,fun j hj=>(hag3 j (by omega)).trans (q3 j hj),Chg.trans (q4.mono fun j _ h=>.inr (.inr h)) hch3 fun j hj h=>?_⟩;simpa only[BkF,q3 j hj] using h
   have c1:w3.cell? ⟨d.K,1,none⟩=some (.slice pa d.s.pts.length pc):=hA3.cells.2.1;have c2:w3.cell? ⟨d.K,2,none⟩=some (.slice na d.s.nums.length nc):=hA3.cells.2.2.1;have hNA:Zy w3 na d.s.nums:=Zy.of_own hA3.ownN;have HPR:Hid (Z0 w3 pa d.s.pts/\X4 w3 ta d.s.ts/\Zy w3 na d.s.nums):=⟨Z2.raw' hA3.ownP,X4.of_own hown3,hNA⟩;clear WT hown3 hB3 hA3 hM3 hag3 hch3 nF nx nX hX3 hNA H2 HX2' hx2 hX2 HX0;go_upto_region 8 with fail;go_cut [12] (fun s12 wx=>∃ Y k' I J O,s12= .pointer (some ⟨Y,0,none⟩)/\w3.heap.size<=Y/\Below w3.heap.size w3 wx/\Xl d.s.pts d.s.ts (Zm d.s.pts d.s.ts (flB d.s.pts) d.s.pts.length) (px,py) k' I J O/\wx.heap[Y]? =some (.cells #[int i64 k',int i64 I,int i64 J,int i64 O] 155 (0,0)))
   case first=>
    as_aux_lemma=>
    refine Zd9 (m:=9) (by kernel_rfl) (by kernel_rfl) (dsts:=[some 42,some 43,some 44,some 45,some 46,some 47,some 48,some 12,none]) rfl (by kernel_rfl) (l:=[]) rfl (LocJ w3 d.K pa pc ta tc d.s.pts d.s.ts px py) (LocJ.start w3) ?_ ?_
    ·refine flS (flS (flS (flS (flS (flS (flS (flS (flS fl0 ?_) ?_) ?_) ?_) ?_) ?_) ?_) ?_) ?_;all_goals intro Z σ wx D hp hdn hun
     ·exact (Z8 (x:=.tmp 1) rfl rfl D.s0).toS
     ·exact (Za1 (x:=.tmp 42) rfl (show σ 0=_ from D.v0 (hp 0 rfl)) D.s1).toS
     ·exact (Za2 (T:=67) (x:=.tmp 43) (f:=1) rfl (show σ 1=_ from D.v1 (hp 1 rfl)) (Zn0 _ _) D.s2).toS
     ·exact (Yr (T:=41) (x:=.tmp 44) rfl (show σ 2=_ from D.v2 (hp 2 rfl)) (Zgs _ _ _ _ ((D.bel.cell (p:=⟨d.K,1,none⟩) hK3).trans c1)) D.s3).toS
     ·exact (Z8 (x:=.tmp 10) rfl rfl D.s4).toS
     ·exact (Yr (T:=37) (x:=.tmp 5) rfl rfl (Zb2 _ _ _ px py ((D.bel.cell (p:=⟨w.heap.size,0,none⟩) hx3).trans x0) ((D.bel.cell (p:=⟨w.heap.size,1,none⟩) hx3).trans x1)) D.s5).toS
     ·have h3':σ 3= .slice pa d.s.pts.length pc:=D.v3 (hp 3 rfl);have h4':σ 4= .slice ta d.s.ts.length tc:=D.v4 (hp 4 rfl);have h5':σ 5=pv px py:=D.v5 (hp 5 rfl);refine (Zei (f:=103) (args:=[.slice pa d.s.pts.length pc,.slice ta d.s.ts.length tc,pv px py]) rfl rfl (by show [σ 3,σ 4,σ 5]=_;rw[h3',h4',h5']) (by go_simp) ((Z5n pa pc ta tc d.s.pts d.s.ts px py wx (HPR.out.1.below D.bel) OK.out.le OK.out.near OK.out.good (HPR.out.2.1.below D.bel) HNR.out).mono ?_)).toS;rintro e w' ⟨k',I,J,O,rfl,hP,hb⟩;exact⟨_,rfl,D.s6 hP hb⟩
     ·have n8:Z 8=false:=by
       cases hl:Z 8 with
       | false=>rfl
       | true=>have:=hdn 8 7 hl rfl;rw[hun] at this;cases this
      exact (Zeh (T:=155) rfl (Zti _) (D.s7 n8)).toS
     ·obtain⟨Y,k',I,J,O,e7,e6,hY,hN⟩:=D.s8 (hp 6 rfl) (hp 7 rfl) hun;exact Zc0 (T:=155) (x:=.tmp 12) (y:=.tmp 48) rfl (show σ 7=_ from e7) (show σ 6=_ from e6) (Ztj _ _ _ _ _ _ hY) hN
    ·intro Z σ wx D hall;obtain⟨Y,e1,e2,_,e4⟩:=D.v7 (hall 7 (by omega));obtain⟨k',I,J,O,hP,hY⟩:=e4 (hall 8 (by omega));have hbel:=D.bel;refine⟨?_⟩;simp only[lay,Act.put,List.drop_succ_cons,List.drop_zero,List.setIfInBounds_toArray,List.set_cons_succ,List.set_cons_zero,e1];have HR:Hid (w3.heap.size<=Y/\Below w3.heap.size w3 wx/\Xl d.s.pts d.s.ts (Zm d.s.pts d.s.ts (flB d.s.pts) d.s.pts.length) (px,py) k' I J O/\wx.heap[Y]? =some (.cells #[int i64 k',int i64 I,int i64 J,int i64 O] 155 (0,0))):=⟨e2,hbel,hP,hY⟩;clear e1 e2 e4 hP hY D hall hbel;go_wp2_with fail
     go_meet;exact⟨Y,k',I,J,O,rfl,HR.out⟩
   case rest=>
    as_aux_lemma=>
    obtain⟨Y,k',I,J,O,rfl,hY3,hb4,hP,hY⟩:=hcut;obtain⟨hra,hrb,hrc⟩:=Z5o OK.out.good hP;have HNA:Hid (Zy w3 na d.s.nums):=HPR.out.2.2;have HP:Hid (Xl d.s.pts d.s.ts (Zm d.s.pts d.s.ts (flB d.s.pts) d.s.pts.length) (px,py) k' I J O):=hP;have HY3:Hid (w3.heap.size<=Y):=hY3;have HRG:Hid ((-1<=I/\I<d.s.pts.length)/\(-1<=J/\J<d.s.pts.length)/\(-1<=O/\O<d.s.pts.length)):=⟨hra,hrb,hrc⟩;clear hP HPR HNR x0 x1 c1 hra hrb hrc hY3;go_wp2_with fail
    go_loopw [13] (fun s13 wr=>∃ i:Nat,i<=3/\s13=int i64 i/\wr.heap[Y]? =some (.cells #[int i64 k',int i64 (upO d.s.nums i 0 I),int i64 (upO d.s.nums i 1 J),int i64 (upO d.s.nums i 2 O)] 155 (0,0))/\Below w3.heap.size w3 wr) (fun i _=>3-(intOf i).toNat)
    case atStart=>exact⟨0,by omega,rfl,hY,hb4⟩
    case round=>
     clear hY hb4;obtain⟨i,hi,rfl,hYr,hbr⟩:=hrel;obtain⟨hra,hrb,hrc⟩:=HRG.out;have hi':i=0\/i=1\/i=2\/i=3:=by omega
     clear hi;rcases hi' with rfl|rfl|rfl|rfl
     ·by_cases hx0:0<=I
      ·obtain⟨j,rfl⟩:=Int.eq_ofNat_of_zero_le hx0;have hjl:j<d.s.nums.length:=by have:=OK.out.len;have:=hra.2;omega
       obtain⟨g,rfl,hg⟩:=HNA.out j hjl;have hgl:g<w3.heap.size:=World.block_lt_of_cell? w3 _ hg;have g1:=(hbr.cell (p:=⟨g,j,none⟩) hgl).trans hg;have g2:=(hbr.cell (p:=⟨d.K,2,none⟩) hK3).trans c2;have y0:(0:Int)<=(j:Int):=by omega
       have y1:(j:Int)<(d.s.nums.length:Int):=by omega
       obtain⟨z0,z1,z2,z3,ff⟩:=Zb0 hYr;have f1:=ff 1;have eu:upO d.s.nums 0 0 (j:Int)=(j:Int):=rfl;rw[eu] at z1;have HE:Hid (upO d.s.nums 1 0 (j:Int)=d.s.nums.getD j 0):=Zku;have hks:=heap_setCell_same wr Y 1 _ _ (int i64 (d.s.nums.getD j 0)) hYr;have HNX:Hid ((wr.setCell ⟨Y,1,none⟩ (int i64 (d.s.nums.getD j 0))).heap[Y]? =some (.cells #[int i64 k',int i64 (upO d.s.nums 1 0 (j:Int)),int i64 (upO d.s.nums 1 1 J),int i64 (upO d.s.nums 1 2 O)] 155 (0,0))/\Below w3.heap.size w3 (wr.setCell ⟨Y,1,none⟩ (int i64 (d.s.nums.getD j 0)))):=by
        refine⟨?_,hbr.setCell HY3.out _⟩;rw[hks,HE.out];rfl
       clear hks ff eu hYr hbr hg;generalize d.s.nums.getD j 0=vv at *
       go_wp2_with fail
       go_region;go_wp2_with fail
       go_roundw;case rel=>exact⟨1,by omega,rfl,HNX.out.1,HNX.out.2.drew⟩
       case measure=>simp[intOf]
      ·have hx1:I<0:=by omega
       obtain⟨z0,z1,z2,z3,ff⟩:=Zb0 hYr;have eu:upO d.s.nums 0 0 I=I:=rfl;rw[eu] at z1;have e2:upO d.s.nums 1 0 I=I:=Zn1 hx0;have HNX:Hid (wr.heap[Y]? =some (.cells #[int i64 k',int i64 (upO d.s.nums 1 0 I),int i64 (upO d.s.nums 1 1 J),int i64 (upO d.s.nums 1 2 O)] 155 (0,0))):=by unfold Hid;rw[hYr,e2];rfl
       have HBR:Hid (Below w3.heap.size w3 wr):=hbr;clear eu e2 hx0 hYr ff hbr;go_wp2_with fail
       go_roundw;case rel=>exact⟨1,by omega,rfl,HNX.out,HBR.out⟩
       case measure=>simp[intOf]
     ·by_cases hx0:0<=J
      ·obtain⟨j,rfl⟩:=Int.eq_ofNat_of_zero_le hx0;have hjl:j<d.s.nums.length:=by have:=OK.out.len;have:=hrb.2;omega
       obtain⟨g,rfl,hg⟩:=HNA.out j hjl;have hgl:g<w3.heap.size:=World.block_lt_of_cell? w3 _ hg;have g1:=(hbr.cell (p:=⟨g,j,none⟩) hgl).trans hg;have g2:=(hbr.cell (p:=⟨d.K,2,none⟩) hK3).trans c2;have y0:(0:Int)<=(j:Int):=by omega
       have y1:(j:Int)<(d.s.nums.length:Int):=by omega
       obtain⟨z0,z1,z2,z3,ff⟩:=Zb0 hYr;have f1:=ff 2;have eu:upO d.s.nums 1 1 (j:Int)=(j:Int):=rfl;rw[eu] at z2;have HE:Hid (upO d.s.nums 2 1 (j:Int)=d.s.nums.getD j 0):=Zku;have hks:=heap_setCell_same wr Y 2 _ _ (int i64 (d.s.nums.getD j 0)) hYr;have HNX:Hid ((wr.setCell ⟨Y,2,none⟩ (int i64 (d.s.nums.getD j 0))).heap[Y]? =some (.cells #[int i64 k',int i64 (upO d.s.nums 2 0 I),int i64 (upO d.s.nums 2 1 (j:Int)),int i64 (upO d.s.nums 2 2 O)] 155 (0,0))/\Below w3.heap.size w3 (wr.setCell ⟨Y,2,none⟩ (int i64 (d.s.nums.getD j 0)))):=by
        refine⟨?_,hbr.setCell HY3.out _⟩;rw[hks,HE.out];rfl
       clear hks ff eu hYr hbr hg;generalize d.s.nums.getD j 0=vv at *
       go_wp2_with fail
       go_region;go_wp2_with fail
       go_roundw;case rel=>exact⟨2,by omega,rfl,HNX.out.1,HNX.out.2.drew⟩
       case measure=>simp[intOf]
      ·have hx1:J<0:=by omega
       obtain⟨z0,z1,z2,z3,ff⟩:=Zb0 hYr;have eu:upO d.s.nums 1 1 J=J:=rfl;rw[eu] at z2;have e2:upO d.s.nums 2 1 J=J:=Zn1 hx0;have HNX:Hid (wr.heap[Y]? =some (.cells #[int i64 k',int i64 (upO d.s.nums 2 0 I),int i64 (upO d.s.nums 2 1 J),int i64 (upO d.s.nums 2 2 O)] 155 (0,0))):=by unfold Hid;rw[hYr,e2];rfl
       have HBR:Hid (Below w3.heap.size w3 wr):=hbr;clear eu e2 hx0 hYr ff hbr;go_wp2_with fail
       go_roundw;case rel=>exact⟨2,by omega,rfl,HNX.out,HBR.out⟩
       case measure=>simp[intOf]
     ·by_cases hx0:0<=O
      ·obtain⟨j,rfl⟩:=Int.eq_ofNat_of_zero_le hx0;have hjl:j<d.s.nums.length:=by have:=OK.out.len;have:=hrc.2;omega
       obtain⟨g,rfl,hg⟩:=HNA.out j hjl;have hgl:g<w3.heap.size:=World.block_lt_of_cell? w3 _ hg;have g1:=(hbr.cell (p:=⟨g,j,none⟩) hgl).trans hg;have g2:=(hbr.cell (p:=⟨d.K,2,none⟩) hK3).trans c2;have y0:(0:Int)<=(j:Int):=by omega
       have y1:(j:Int)<(d.s.nums.length:Int):=by omega
       obtain⟨z0,z1,z2,z3,ff⟩:=Zb0 hYr;have f1:=ff 3;have eu:upO d.s.nums 2 2 (j:Int)=(j:Int):=rfl;rw[eu] at z3;have HE:Hid (upO d.s.nums 3 2 (j:Int)=d.s.nums.getD j 0):=Zku;have hks:=heap_setCell_same wr Y 3 _ _ (int i64 (d.s.nums.getD j 0)) hYr;have HNX:Hid ((wr.setCell ⟨Y,3,none⟩ (int i64 (d.s.nums.getD j 0))).heap[Y]? =some (.cells #[int i64 k',int i64 (upO d.s.nums 3 0 I),int i64 (upO d.s.nums 3 1 J),int i64 (upO d.s.nums 3 2 (j:Int))] 155 (0,0))/\Below w3.heap.size w3 (wr.setCell ⟨Y,3,none⟩ (int i64 (d.s.nums.getD j 0)))):=by
        refine⟨?_,hbr.setCell HY3.out _⟩;rw[hks,HE.out];rfl
       clear hks ff eu hYr hbr hg;generalize d.s.nums.getD j 0=vv at *
       go_wp2_with fail
       go_region;go_wp2_with fail
       go_roundw;case rel=>exact⟨3,by omega,rfl,HNX.out.1,HNX.out.2.drew⟩
       case measure=>simp[intOf]
      ·have hx1:O<0:=by omega
       obtain⟨z0,z1,z2,z3,ff⟩:=Zb0 hYr;have eu:upO d.s.nums 2 2 O=O:=rfl;rw[eu] at z3;have e2:upO d.s.nums 3 2 O=O:=Zn1 hx0;have HNX:Hid (wr.heap[Y]? =some (.cells #[int i64 k',int i64 (upO d.s.nums 3 0 I),int i64 (upO d.s.nums 3 1 J),int i64 (upO d.s.nums 3 2 O)] 155 (0,0))):=by unfold Hid;rw[hYr,e2];rfl
       have HBR:Hid (Below w3.heap.size w3 wr):=hbr;clear eu e2 hx0 hYr ff hbr;go_wp2_with fail
       go_roundw;case rel=>exact⟨3,by omega,rfl,HNX.out,HBR.out⟩
       case measure=>simp[intOf]
     ·obtain⟨a1,b1,c1',hL1,ea,eb,ec⟩:=HLO.out;obtain⟨rfl,rfl,rfl,rfl⟩:=Z3q OK.out.nd OK.out.good hL1 HP.out;have hXr:=(hbr.block X hXl3).trans HX3.out;obtain⟨p0,p1,p2,p3,_⟩:=Zb0 hXr;obtain⟨z0,z1,z2,z3,_⟩:=Zb0 hYr;have ua:upO d.s.nums 3 0 a1=a:=ea.symm;have ub:upO d.s.nums 3 1 b1=b:=eb.symm;have uc:upO d.s.nums 3 2 c1'=c:=ec.symm;rw[ua] at z1;rw[ub] at z2;rw[uc] at z3;have heq:=Zth k a b c;have HPO:Hid (Yj MAt WB N v0 w wr tag iK iM d):=H3.out.below L hbr;clear ua ub uc hXr hYr hbr hL1 ea eb ec HLO H3 HP HRG HNA HX3 OK hra hrb hrc;go_wp2_with fail
      go_ret;exact⟨rfl,HPO.out⟩
end Go.Proofs.YtgpapegpdfonpaaGreatDoor
namespace Go.Proofs.YtgpapegpdfonpaaGreatDoor
open Go.RowKit Go.Proofs.Tryz
attribute [local go_sem ↓] Go.wp_at_zero Go.wp_at_succ
theorem Yj.pre {MAt:Yd}{WB N:Nat}{v0:Value}{e w w':World}{tag:Nat->Nat}{I iM:Nat}{d:KD}(h:Yj MAt WB N v0 w w' tag I iM d)(D:Below e.heap.size e w):Yj MAt WB N v0 e w' tag I iM d:=by
 obtain⟨tag',d',h1,J,Y,h4,O,h6⟩:=h;exact⟨tag',d',h1,J,Y,h4,fun k Z=>O k (L3 Z D.size),Chg.trans (Chg.of_below D) h6 fun _ _ h=>h⟩
theorem Yj.refl {MAt:Yd}{WB N:Nat}{v0:Value}{w:World}{tag:Nat->Nat}{e iM:Nat}{d:KD}(D:Bks w WB v0 tag N)(hK:KM MAt w tag e iM d):Yj MAt WB N v0 w w tag e iM d:=
 ⟨tag,d,D.more (by omega),hK,rfl,by omega,fun _ _=>rfl,Chg.refl _ _⟩
theorem KM.below {MAt:Yd}(L:MeshLaw MAt){w w':World}{tag:Nat->Nat}{D iM:Nat}{d:KD}(h:KM MAt w tag D iM d)(e:Below w.heap.size w w'):KM MAt w' tag D iM d:=by
 obtain⟨⟨vP,vN,vT,O⟩,J⟩:=h;exact⟨⟨vP,vN,vT,O.below e⟩,L.frame _ _ _ _ _ _ _ J e.size fun k I Y=>⟨e.block k I,Y⟩⟩
theorem Z5q {MAt:Yd}(L:MeshLaw MAt)(WB N D iM:Nat)(v0:Value)(tag:Nat->Nat)(d:KD)(n wh O Y bx by' cx cy dx dy:Int)(la:Option Addr)(ln lc:Nat)(ta:Option Addr)(tn tc:Nat)(s:ByteArray)(w:World)(I:Bks w WB v0 tag N)(hN:N<=925904528800)(hK:KM MAt w tag D iM d)(hev:d.s.ever<=2000000000000)(Z:4<D)(J:4<iM)(h3:D≠iM) :
  Calls prog 23 #[.pointer (some ⟨WB,0,none⟩),.pointer (some ⟨d.K,0,none⟩),Xj 6 n wh O Y bx by' cx cy dx dy la ln lc ta tn tc s] w fun e w'=>e= .returned (.bool true)/\Yj MAt WB N v0 w w' tag D iM d:=by
 have FP:=fun o=>Z5g L D iM tag d O Y (w.alloc o) (hK.below L (Zb w o)) ((I.below (Zb w o)).tlt) hev Z J h3
 have HP:∀ o w',Za3 MAt (w.alloc o) w' tag D iM d->Yj MAt WB N v0 w w' tag D iM d:=fun o w' h=>(Za3.toA (I.below (Zb w o)) Z J h).pre (Zb w o)
 clear I hK;go_enter func23,ntmps23;go_wp2_with (go_at_call 58;refine (FP _).mono ?_;rintro e w1 ⟨rfl,hb1⟩)
 go_ret;exact⟨rfl,HP _ _ hb1⟩
theorem Z5r {MAt:Yd}(L:MeshLaw MAt)(WB N D iM:Nat)(v0:Value)(tag:Nat->Nat)(d:KD)(n wh ax ay bx by' Z cy dx dy:Int)(la:Option Addr)(ln lc:Nat)(ta:Option Addr)(Y tc:Nat)(s:ByteArray)(w:World)(I:Bks w WB v0 tag N)(hK:KM MAt w tag D iM d)(O:4<D)(J:4<iM)(h3:D≠iM) :
  Calls prog 23 #[.pointer (some ⟨WB,0,none⟩),.pointer (some ⟨d.K,0,none⟩),Xj 7 n wh ax ay bx by' Z cy dx dy la ln lc ta Y tc s] w fun e w'=>e= .returned (.bool true)/\Yj MAt WB N v0 w w' tag D iM d:=by
 have FP:=fun o=>Ztf L D iM tag d n (w.alloc o) (hK.below L (Zb w o)) ((I.below (Zb w o)).tlt) O J h3
 have HP:∀ o w',Za3 MAt (w.alloc o) w' tag D iM d->Yj MAt WB N v0 w w' tag D iM d:=fun o w' h=>(Za3.toA (I.below (Zb w o)) O J h).pre (Zb w o)
 clear I hK;go_enter func23,ntmps23;go_wp2_with (go_at_call 59;refine (FP _).mono ?_;rintro e w1 ⟨rfl,hb1⟩)
 go_ret;exact⟨rfl,HP _ _ hb1⟩
theorem Z5s {MAt:Yd}(L:MeshLaw MAt)(WB N D iM:Nat)(v0:Value)(tag:Nat->Nat)(d:KD)(n wh ax ay bx by' Y cy dx dy:Int)(la:Option Addr)(ln lc:Nat)(ta:Option Addr)(O tc:Nat)(s:ByteArray)(w:World)(I:Bks w WB v0 tag N)(Z:N<=925904528800)(hK:KM MAt w tag D iM d)(h1:4<D)(J:4<iM)(h3:D≠iM) :
  Calls prog 23 #[.pointer (some ⟨WB,0,none⟩),.pointer (some ⟨d.K,0,none⟩),Xj 9 n wh ax ay bx by' Y cy dx dy la ln lc ta O tc s] w fun e w'=>e= .returned (.bool true)/\Yj MAt WB N v0 w w' tag D iM d:=by
 have FP:=fun o=>Zs9 L WB N D iM v0 tag d (w.alloc o) (I.below (Zb w o)) Z (hK.below L (Zb w o)) h1 J h3
 have HP:∀ o w',Zg1 MAt WB N v0 (w.alloc o) w' tag D iM d->Yj MAt WB N v0 w w' tag D iM d:=fun o w' h=>h.toA.pre (Zb w o)
 clear I hK;go_enter func23,ntmps23;go_wp2_with (go_at_call 60;refine (FP _).mono ?_;rintro e w1 ⟨v,rfl,hown,hb1⟩)
 go_ret;exact⟨rfl,HP _ _ hb1⟩
theorem Z5t {MAt:Yd}(L:MeshLaw MAt)(WB N D iM:Nat)(v0:Value)(tag:Nat->Nat)(d:KD)(n wh I O bx by' cx cy dx dy:Int)(la:Option Addr)(ln lc:Nat)(ta:Option Addr)(Z tc:Nat)(s:ByteArray)(w:World)(J:Bks w WB v0 tag N)(hN:N<=925904528800)(hK:KM MAt w tag D iM d)(h1:4<D)(Y:4<iM)(h3:D≠iM) :
  Calls prog 23 #[.pointer (some ⟨WB,0,none⟩),.pointer (some ⟨d.K,0,none⟩),Xj 10 n wh I O bx by' cx cy dx dy la ln lc ta Z tc s] w fun e w'=>e= .returned (.bool true)/\Yj MAt WB N v0 w w' tag D iM d:=by
 have FP:=fun o=>Z5p L WB N D iM v0 tag d I O (w.alloc o) (J.below (Zb w o)) hN (hK.below L (Zb w o)) h1 Y h3
 have HP:∀ o w',Yj MAt WB N v0 (w.alloc o) w' tag D iM d->Yj MAt WB N v0 w w' tag D iM d:=fun o w' h=>h.pre (Zb w o)
 clear J hK;go_enter func23,ntmps23;go_wp2_with (go_at_call 61;refine (FP _).mono ?_;rintro e w1 ⟨rfl,hb1⟩)
 go_ret;exact⟨rfl,HP _ _ hb1⟩
theorem Ztm (c n:Int)(w:World)(Y: -9223372036854775808<=c)(I:c<=9223372036854775807)(J:0<n)(O:n<=9223372036854775807) :
  Calls prog 24 #[.int .i64 c,.int .i64 n] w fun e w'=>e= .returned (.int .i64 (pk c n))/\w'=w:=by
 by_cases D:c<0
 ·go_enter func24,ntmps24;go_wp2
  go_ret;exact⟨Zg8 (by simpa using Zoi c n D),rfl⟩
 ·go_enter func24,ntmps24;go_wp2
  go_ret;exact⟨Zg8 (by unfold pk;rw[if_neg (by omega)]),rfl⟩
theorem Z5u {MAt:Yd}(L:MeshLaw MAt)(WB N D iM:Nat)(v0:Value)(tag:Nat->Nat)(d:KD)(n wh ax ay bx by' cx cy dx dy:Int)(la:Option Addr)(ln lc:Nat)(ta:Option Addr)(tn tc:Nat)(s:ByteArray)(w:World)(n1: -9223372036854775808<=n)(n2:n<=9223372036854775807)(J:Bks w WB v0 tag N)(hK:KM MAt w tag D iM d)(h1:4<D)(Y:4<iM)(h3:D≠iM) :
  Calls prog 23 #[.pointer (some ⟨WB,0,none⟩),.pointer (some ⟨d.K,0,none⟩),Xj 8 n wh ax ay bx by' cx cy dx dy la ln lc ta tn tc s] w fun e w'=>e= .returned (.bool true)/\Yj MAt WB N v0 w w' tag D iM d:=by
 have HP:∀ o w',Za3 MAt (w.alloc o).drew w' tag D iM d->Yj MAt WB N v0 w w' tag D iM d:=fun o w' h=>(Za3.toA (J.below (Zb w o).drew) h1 Y h).pre (Zb w o).drew
 have HP0:∀ o,Yj MAt WB N v0 w (w.alloc o) tag D iM d:=fun o=>(Yj.refl (J.below (Zb w o)) (hK.below L (Zb w o))).pre (Zb w o)
 have FP:=fun o n=>Ztf L D iM tag d n (w.alloc o).drew (hK.below L (Zb w o).drew) ((J.below (Zb w o).drew).tlt) h1 Y h3
 obtain⟨⟨vP,vN,vT,I⟩,hM⟩:=hK;have OK:Hid d.s.Ok:=L.ok _ _ _ _ _ hM;obtain⟨na,nc,rfl⟩:=Zn I.ownN;have c2:=I.cells.2.2.1;have O:Zy w na d.s.nums:=Zy.of_own I.ownN;have hKl:=I.lt;have hl60:d.s.nums.length<=60:=by have:=OK.out.len;have:=OK.out.le;omega
 clear J hM I;by_cases h0:d.s.nums.length=0
 ·rw[h0] at c2;clear FP HP O;go_enter func23,ntmps23;go_wp2
  go_ret;exact⟨rfl,HP0 _⟩
 ·have Z:=Zoh n d.s.nums.length (by omega);obtain⟨j,hj⟩:=Int.eq_ofNat_of_zero_le Z.1;obtain⟨g,rfl,hg⟩:=O j (by omega);have hgl:g<w.heap.size:=World.block_lt_of_cell? w _ hg;have PK:=fun W=>Ztm n d.s.nums.length W n1 n2 (by omega) (by omega)
  rw[hj] at PK;have y0:(0:Int)<=(j:Int):=by omega
  have y1:(j:Int)<(d.s.nums.length:Int):=by omega
  have z0:((d.s.nums.length:Int) == 0)=false:=beq_eq_false_iff_ne.2 (by omega);have z1:¬ ((d.s.nums.length:Int)=0):=by omega
  have z2:¬ (d.s.nums.length=0):=h0;clear O HP0 Z hj;go_enter func23,ntmps23;go_upto_region 9 with fail;go_region_with (first|(go_at_call 24;refine (PK _).mono ?_;rintro e w3 ⟨rfl,rfl⟩)|(go_at_call 59;refine (FP _ _).mono ?_;rintro e w1 ⟨rfl,hb1⟩))
  all_goals go_wp2_with fail
  all_goals go_ret
  all_goals exact⟨rfl,HP _ _ hb1⟩
end Go.Proofs.YtgpapegpdfonpaaGreatDoor
namespace Go.Proofs.YtgpapegpdfonpaaGreatDoor
open Go.RowKit Go.Proofs.Tryz
open Go.Value(int)
open Go.IntKind(i64)
attribute [local go_sem ↓] Go.wp_at_zero Go.wp_at_succ
theorem Z5v {MAt:Yd}(L:MeshLaw MAt)(WB N Y iM:Nat)(v0:Value)(tag:Nat->Nat)(d:KD)(n wh D I bx by' cx cy dx dy:Int)(la:Option Addr)(ln lc:Nat)(ta:Option Addr)(tn tc:Nat)(s:ByteArray)(w:World)(hB:Bks w WB v0 tag N)(hK:KM MAt w tag Y iM d)(h1:4<Y)(h2:4<iM)(h3:Y≠iM) :
  Calls prog 23 #[.pointer (some ⟨WB,0,none⟩),.pointer (some ⟨d.K,0,none⟩),Xj 11 n wh D I bx by' cx cy dx dy la ln lc ta tn tc s] w fun e w'=>e= .returned (.bool true)/\Yj MAt WB N v0 w w' tag Y iM d:=by
 obtain⟨⟨vP,vN,vT,hA⟩,hM⟩:=hK;have OK:Hid d.s.Ok:=L.ok _ _ _ _ _ hM;obtain⟨na,nc,rfl⟩:=Zn hA.ownN;obtain⟨pa,pc,rfl⟩:=Zn hA.ownP;have hlt:=hB.tlt;go_enter func23,ntmps23;go_upto_region 15 with fail;have hbb:=Zb w (.cells #[int i64 11,int i64 n,int i64 wh,int i64 D,int i64 I,int i64 bx,int i64 by',int i64 cx,int i64 cy,int i64 dx,int i64 dy,.slice la ln lc,.slice ta tn tc,.string s] 44);have x3:(w.alloc (.cells #[int i64 11,int i64 n,int i64 wh,int i64 D,int i64 I,int i64 bx,int i64 by',int i64 cx,int i64 cy,int i64 dx,int i64 dy,.slice la ln lc,.slice ta tn tc,.string s] 44)).cell? ⟨w.heap.size,3,none⟩=some (int i64 D):=by rw[World.cell?_alloc_at _ _ _ _ (by simp)];rfl
 have x4:(w.alloc (.cells #[int i64 11,int i64 n,int i64 wh,int i64 D,int i64 I,int i64 bx,int i64 by',int i64 cx,int i64 cy,int i64 dx,int i64 dy,.slice la ln lc,.slice ta tn tc,.string s] 44)).cell? ⟨w.heap.size,4,none⟩=some (int i64 I):=by rw[World.cell?_alloc_at _ _ _ _ (by simp)];rfl
 have hs0':(w.alloc (.cells #[int i64 11,int i64 n,int i64 wh,int i64 D,int i64 I,int i64 bx,int i64 by',int i64 cx,int i64 cy,int i64 dx,int i64 dy,.slice la ln lc,.slice ta tn tc,.string s] 44)).heap.size=w.heap.size+1:=by simp
 generalize w.alloc (.cells #[int i64 11,int i64 n,int i64 wh,int i64 D,int i64 I,int i64 bx,int i64 by',int i64 cx,int i64 cy,int i64 dx,int i64 dy,.slice la ln lc,.slice ta tn tc,.string s] 44)=W at *
 have af:=hA.below hbb;have hMW:MAt W tag iM d.mp d.s:=L.frame _ _ _ _ _ _ _ hM hbb.size fun k Z ht=>⟨hbb.block k Z,ht⟩
 have ac:Y6 W tag:=fun k Z=>by have:=hlt k Z;omega
 have hBW:=hB.below hbb;have c0:=af.cells.1;have htx:tag w.heap.size=0:=by
  by_cases e:tag w.heap.size=0
  ·exact e
  ·have:=hlt _ e;omega
 have HT1:=L.nearest W.drew tag iM d.mp d.s D I (by omega) (L.frame _ _ _ _ _ _ _ hMW (Nat.le_refl _) fun k Z ht=>⟨rfl,ht⟩) ac;have HAW:Hid (KAt W tag Y d (.slice pa d.s.pts.length pc) (.slice na d.s.nums.length nc) vT/\Bks W WB v0 tag N/\Below w.heap.size w W/\Y6 W tag/\tag w.heap.size=0):=⟨af,hBW,hbb,ac,htx⟩;have hxW:w.heap.size<W.heap.size:=by omega
 have hKW:=af.lt;clear hA hM hlt af hMW ac hB hBW htx;go_cut [9,10] (fun s9 s10 wx=>∃ m r tag1,s9=int i64 m/\s10=int i64 r/\Znz d.s (D,I) m r/\Ye W tag tag1/\Y6 wx tag1/\MAt wx tag1 iM d.mp d.s/\Chg (fun k=>tag k=iM) W wx)
 case first=>
  as_aux_lemma=>
  go_region_with (go_at_call 62;refine HT1.mono ?_;rintro e w1 ⟨m,r,rfl,hnr,tag1,ae,hlt1,hM1,J,_⟩)
  all_goals go_wp2_with fail
  all_goals go_meet
  all_goals exact⟨m,r,tag1,rfl,rfl,hnr,ae,hlt1,hM1,⟨J.os,J.tape,J.output,J.size,J.far⟩⟩
 case rest=>
  as_aux_lemma=>
  obtain⟨m,r,tag1,rfl,rfl,hnr,ae,hlt1,hM1,J⟩:=hcut;obtain⟨af,hBW,hbb',ac,htx⟩:=HAW.out;have ab:=af.keep (w':=wc) (tag':=tag1) fun k Z ht=>⟨J.far k Z (by omega),(ae k Z).trans ht⟩
  have hB1:Bks wc WB v0 tag1 N:=hBW.move (fun k O h4=>⟨J.far k (ac k O) (by omega),ae k (ac k O)⟩) hlt1 ae;replace x3:=(J.cell (o:=3) hxW (by rw[htx];omega)).trans x3;replace x4:=(J.cell (o:=4) hxW (by rw[htx];omega)).trans x4;have hx1:w.heap.size<wc.heap.size:=L3 hxW J.size;have hK1:d.K<wc.heap.size:=ab.lt;have c1:wc.cell? ⟨d.K,1,none⟩=some (.slice pa d.s.pts.length pc):=ab.cells.2.1;have c2:wc.cell? ⟨d.K,2,none⟩=some (.slice na d.s.nums.length nc):=ab.cells.2.2.1;have HPR:Hid (Z0 wc pa d.s.pts):=Z2.raw' ab.ownP;have HNA:Hid (Zy wc na d.s.nums):=Zy.of_own ab.ownN;have HPO:Hid (Yj MAt WB N v0 w wc tag Y iM d):=
   ⟨tag1,d,hB1.more (by omega),⟨⟨_,_,_,ab⟩,hM1⟩,rfl,by omega,fun k Z=>ae k (by omega),Chg.trans (Chg.of_below hbb') (J.mono (G:=fun k=>BkF WB tag k\/tag k=Y\/tag k=iM) fun k _ h=>.inr (.inr h)) fun _ _ h=>h⟩
  have HNR:Hid (Znz d.s (D,I) m r):=hnr;clear ae hlt1 hM1 J af hBW hbb' hbb ac htx ab hB1 hnr HT1 HAW hs0' hKW hxW c0;generalize wc=W1 at *
  go_upto_region 17 with (go_at_call 63;refine (Zck _ _ _).mono ?_;rintro e w2 ⟨rfl,aa⟩);replace x3:=(aa.cell (p:=⟨w.heap.size,3,none⟩) hx1).trans x3;replace x4:=(aa.cell (p:=⟨w.heap.size,4,none⟩) hx1).trans x4;have HC2:Hid (W1.cell? ⟨d.K,2,none⟩=some (.slice na d.s.nums.length nc)):=c2;have c1':=(aa.cell (p:=⟨d.K,1,none⟩) hK1).trans c1;have HN2:=Z3u pa pc d.s.pts D I w2.drew OK.out.le (HPR.out.below aa.drew);have HB2:Hid (Below W1.heap.size W1 w2):=aa;have hx2:w.heap.size<w2.heap.size:=L3 hx1 aa.size;have hK2:d.K<w2.heap.size:=L3 hK1 aa.size;clear c1 c2 aa hx1;go_cut [12] (fun s12 wx=>s12=int i64 (Z1 d.s.pts (D,I) d.s.pts.length)/\Below w2.heap.size w2 wx)
  case first=>
   as_aux_lemma=>
   go_region_with (go_at_call 64;refine HN2.mono ?_;rintro e w3 ⟨rfl,hb3⟩)
   all_goals go_wp2_with fail
   all_goals go_meet
   all_goals exact⟨rfl,(Below.refl _ _).drew.trans hb3⟩
  case rest=>
   as_aux_lemma=>
   obtain⟨rfl,hb3⟩:=hcut;have hb13:=HB2.out.trans (hb3.mono HB2.out.size);have HPO3:Hid (Yj MAt WB N v0 w wc tag Y iM d):=HPO.out.below L hb13;have c2:=(hb13.cell (p:=⟨d.K,2,none⟩) hK1).trans HC2.out;have HNA3:Hid (Zy wc na d.s.nums):=HNA.out.below hb13;clear x3 x4 c1' HN2 hb3 hb13 HB2 hx2 hK2 HPO HPR HC2 HNA hK1;cases hfar:Zc D I with
   | true=>
    have hq:m=0/\r=1:=by
     rcases HNR.out with ⟨_,q⟩|⟨q,_⟩|⟨q,_⟩
     ·exact q
     ·rw[show Zc (D,I).1 (D,I).2=Zc D I from rfl,hfar] at q;cases q
     ·rw[show Zc (D,I).1 (D,I).2=Zc D I from rfl,hfar] at q;cases q
    obtain⟨rfl,rfl⟩:=hq;clear hfar HNR HNA3;generalize Z1 d.s.pts (D,I) d.s.pts.length=bw at *
    go_wp2_with (go_at_call 39;refine (Zcc _ _).mono ?_;rintro e w7 ⟨rfl,rfl⟩)
    go_ret;exact⟨rfl,HPO3.out⟩
   | false=>
    have hq:(d.s.pts=[]/\m=0/\r=4)\/(d.s.pts≠ []/\r=0/\m=Yc d.s.nums (Z1 d.s.pts (D,I) d.s.pts.length)):=by
     rcases HNR.out with ⟨q,_⟩|⟨_,q⟩|⟨_,q⟩
     ·rw[show Zc (D,I).1 (D,I).2=Zc D I from rfl,hfar] at q;cases q
     ·exact .inl q
     ·exact .inr q
    clear hfar HNR;rcases hq with ⟨O,rfl,rfl⟩|⟨O,rfl,rfl⟩
    ·have hbw:Z1 d.s.pts (D,I) d.s.pts.length= -1:=by rw[O];rfl
     rw[hbw];clear hbw O HNA3;go_wp2_with (go_at_call 39;refine (Zcc _ _).mono ?_;rintro e w7 ⟨rfl,rfl⟩)
     go_ret;exact⟨rfl,HPO3.out⟩
    ·have hbd:=Zgx d.s.pts (D,I) d.s.pts.length (List.length_pos_iff.2 O);obtain⟨j,hj⟩:=Int.eq_ofNat_of_zero_le hbd.1;have hjl:j<d.s.nums.length:=by have:=OK.out.len;omega
     obtain⟨g,rfl,hg⟩:=HNA3.out j hjl;rw[hj,Zku];have y0:(0:Int)<=(j:Int):=by omega
     have y1:(j:Int)<(d.s.nums.length:Int):=by omega
     have y2:¬ ((j:Int)<0):=by omega
     clear hj hbd O HNA3;generalize d.s.nums.getD j 0=vv at *
     go_wp2_with fail
     go_ret;exact⟨rfl,HPO3.out⟩
end Go.Proofs.YtgpapegpdfonpaaGreatDoor
namespace Go.Proofs.YtgpapegpdfonpaaGreatDoor
open Go.RowKit Go.Proofs.Tryz
attribute [local go_sem ↓] Go.wp_at_zero Go.wp_at_succ
def kd0:KD:=⟨0,0,⟨[],[],0,[]⟩,false,[]⟩
def Zec (d:KD):Value:=.pointer (some ⟨d.K,0,none⟩)
structure MW (MAt:Yd)(w:World)(WB N:Nat)(tag:Nat->Nat)(v0:Value)(ds:List KD):Prop where
 bk:Bks w WB v0 tag N
 row:w.ownsRow 0 65 1 v0 ds.length (ds.map Zec)
 tr:∀ g,v0.ownBlock=some g->tag g=5
 km:∀ j,j<ds.length->KM MAt w tag (10+2*j) (11+2*j) (ds.getD j kd0)
 ev:∀ j,j<ds.length->(ds.getD j kd0).s.ever<=N
 len:ds.length<=N
theorem Bks.tW {w:World}{WB N:Nat}{v0:Value}{tag:Nat->Nat}(h:Bks w WB v0 tag N):tag WB=4:=by
 obtain⟨sh,nk,e,_⟩:=h;exact e.tW
theorem KM.keep {MAt:Yd}(L:MeshLaw MAt){w w':World}{tag tag':Nat->Nat}{J iM:Nat}{d:KD}(h:KM MAt w tag J iM d)(O:w.heap.size<=w'.heap.size)(I:∀ k,k<w.heap.size->tag k=J\/tag k=iM->w'.heap[k]? =w.heap[k]? /\tag' k=tag k):KM MAt w' tag' J iM d:=by
 obtain⟨⟨vP,vN,vT,Z⟩,Y⟩:=h;exact⟨⟨vP,vN,vT,Z.keep fun k D e=>⟨(I k D (.inl e)).1,(I k D (.inl e)).2.trans e⟩⟩,L.frame _ _ _ _ _ _ _ Y O fun k D e=>⟨(I k D (.inr e)).1,(I k D (.inr e)).2.trans e⟩⟩
def Zg2 (MAt:Yd)(WB N:Nat)(w w':World):Prop:=Below WB w w'/\∃ v0 tag ds,MW MAt w' WB (N+1) tag v0 ds
section
variable {MAt:Yd} {w w':World} {WB N:Nat} {tag:Nat->Nat} {v0:Value} {ds:List KD}
theorem MW.step (L:MeshLaw MAt)(h:MW MAt w WB N tag v0 ds)(hs:Yp WB v0 N tag w w'):∃ tag',MW MAt w' WB (N+1) tag' v0 ds:=by
 obtain⟨tag',Z,hag,Y⟩:=hs;have hW:=h.bk.tW
 have J : ∀ k, k < w.heap.size → 4 < tag k → w'.heap[k]? = w.heap[k]? ∧ tag' k = tag k := fun k D ht => ⟨Y.far k D fun O => by
   rcases O with rfl | O <;> omega, hag k D⟩
 refine⟨tag',Z,Z9 h.row fun g e=>(J g (Zx h.row e) (by rw[h.tr g e];decide)).1,fun g e=>?_,fun j I=>(h.km j I).keep L Y.size fun k D ht=>J k D (by omega),fun j I=>?_,?_⟩
 ·rw[(J g (Zx h.row e) (by rw[h.tr g e];decide)).2];exact h.tr g e
 ·have:=h.ev j I;omega
 ·have:=h.len;omega
theorem Yj.low {D iM:Nat}{d:KD}(h:Yj MAt WB N v0 w w' tag D iM d)(e:Bks w WB v0 tag N)(h1:4<D)(h2:4<iM):Below WB w w':=by
 obtain⟨tag',d',_,_,_,_,_,O⟩:=h;have I:∀ k,k<WB->tag k=0:=by
  obtain⟨sh,nk,Y,_⟩:=e;exact Y.low
 refine O.below (Nat.le_of_lt e.lt) fun k Z J=>?_
 have:=I k Z;rcases J with (h|h)|h|h <;> omega
theorem MW.ask (L:MeshLaw MAt)(h:MW MAt w WB N tag v0 ds){j:Nat}(O:j<ds.length)(ha:Yj MAt WB N v0 w w' tag (10+2*j) (11+2*j) (ds.getD j kd0)):∃ tag' ds',MW MAt w' WB (N+1) tag' v0 ds':=by
 obtain⟨tag',d',hB,hK,eK,hev,hag,hch⟩:=ha;have hW:=h.bk.tW
 have Z : ∀ k, k < w.heap.size → 4 < tag k → tag k ≠ 10 + 2 * j → tag k ≠ 11 + 2 * j → w'.heap[k]? = w.heap[k]? ∧ tag' k = tag k := fun k J ht t1 t2 => ⟨hch.far k J fun I => by
   rcases I with (rfl | I) | I | I <;> omega, hag k J⟩
 have emap:(ds.set j d').map Zec=ds.map Zec:=by
  apply List.ext_getElem (by simp);intro i h1 h2;simp only[List.getElem_map,List.getElem_set];split
  ·rename_i e;subst e;have:ds.getD j kd0=ds[j]:=by simp[O]
   rw[this] at eK;unfold Zec;rw[eK]
  ·rfl
 have Y:∀ i,i<ds.length->(ds.set j d').getD i kd0=if j=i then d' else ds.getD i kd0:=fun i hi=>by
  simp only[List.getD_eq_getElem?_getD,List.getElem?_set];split
  ·rename_i e;subst e;simp[O]
  ·rfl
 have g5:∀ g,v0.ownBlock=some g->w'.heap[g]? =w.heap[g]? /\tag' g=tag g:=fun g D=>by
  have t:=h.tr g D;exact Z g (Zx h.row D) (by omega) (by omega) (by omega)
 refine⟨tag',ds.set j d',hB,?_,fun g D=>?_,fun i hi=>?_,fun i hi=>?_,?_⟩
 ·rw[emap,List.length_set];exact Z9 h.row fun g D=>(g5 g D).1
 ·rw[(g5 g D).2];exact h.tr g D
 ·rw[List.length_set] at hi;rw[Y i hi];split
  ·rename_i e;subst e;exact hK
  ·rename_i e;exact (h.km i hi).keep L hch.size fun k J ht=>Z k J (by omega) (by omega) (by omega)
 ·rw[List.length_set] at hi;rw[Y i hi];split
  ·have:=h.ev j O;omega
  ·have:=h.ev i hi;omega
 ·rw[List.length_set];have:=h.len;omega
end
theorem Z5w {MAt:Yd}(L:MeshLaw MAt)(WB N D iM:Nat)(v0:Value)(tag:Nat->Nat)(d:KD)(kd n wh O ay bx by' J cy Z Y:Int)(la:Option Addr)(ln lc:Nat)(ta:Option Addr)(I tc:Nat)(s:ByteArray)(w:World)(n1: -9223372036854775808<=n)(n2:n<=9223372036854775807)(hB:Bks w WB v0 tag N)(hN:N<=925904528800)(hK:KM MAt w tag D iM d)(hev:d.s.ever<=2000000000000)(h1:4<D)(h2:4<iM)(h3:D≠iM)(k1:6<=kd)(k2:kd<=11) :
  Calls prog 23 #[.pointer (some ⟨WB,0,none⟩),.pointer (some ⟨d.K,0,none⟩),Xj kd n wh O ay bx by' J cy Z Y la ln lc ta I tc s] w fun e w'=>e= .returned (.bool true)/\Yj MAt WB N v0 w w' tag D iM d:=by
 have:kd=6\/kd=7\/kd=8\/kd=9\/kd=10\/kd=11:=by omega
 rcases this with rfl|rfl|rfl|rfl|rfl|rfl
 ·exact Z5q L WB N D iM v0 tag d n wh O ay bx by' J cy Z Y la ln lc ta I tc s w hB hN hK hev h1 h2 h3
 ·exact Z5r L WB N D iM v0 tag d n wh O ay bx by' J cy Z Y la ln lc ta I tc s w hB hK h1 h2 h3
 ·exact Z5u L WB N D iM v0 tag d n wh O ay bx by' J cy Z Y la ln lc ta I tc s w n1 n2 hB hK h1 h2 h3
 ·exact Z5s L WB N D iM v0 tag d n wh O ay bx by' J cy Z Y la ln lc ta I tc s w hB hN hK h1 h2 h3
 ·exact Z5t L WB N D iM v0 tag d n wh O ay bx by' J cy Z Y la ln lc ta I tc s w hB hN hK h1 h2 h3
 ·exact Z5v L WB N D iM v0 tag d n wh O ay bx by' J cy Z Y la ln lc ta I tc s w hB hK h1 h2 h3
theorem Z5x {w:World}{I c:Nat}{a:Option Addr}{ds:List KD}{j:Nat}(h:w.ownsRow I 65 1 (.slice a ds.length c) ds.length (ds.map Zec))(J:j<ds.length):∃ g,a=some ⟨g,0,none⟩/\g<w.heap.size/\w.cell? ⟨g,j,none⟩=some (.pointer (some ⟨(ds.getD j kd0).K,0,none⟩)):=by
 obtain⟨g,e,O,D⟩:=Zcw h (by omega);refine⟨g,e,O,?_⟩;rw[D j (by omega)];simp[J,Zec]
theorem Z5y {MAt:Yd}(L:MeshLaw MAt)(WB N:Nat)(v0:Value)(tag:Nat->Nat)(ds:List KD)(kd n D ax ay bx by' Z cy dx dy:Int)(la:Option Addr)(ln lc:Nat)(ta:Option Addr)(Y tc:Nat)(s:ByteArray)(w:World)(n1: -9223372036854775808<=n)(n2:n<=9223372036854775807)(m1: -9223372036854775808<=D)(m2:D<=9223372036854775807)(h:MW MAt w WB N tag v0 ds)(hN:N<=925904528800)(k1:6<=kd)(k2:kd<=11) :
  Calls prog 10 #[.pointer (some ⟨WB,0,none⟩),Xj kd n D ax ay bx by' Z cy dx dy la ln lc ta Y tc s] w fun e w'=>e= .returned (.bool true)/\Zg2 MAt WB N w w':=by
 obtain⟨a0,c0',rfl⟩:=Zn h.row;have hWB:=h.bk.lt;have c0:=h.bk.cell0;have e1:decide (kd<=3)=false:=decide_eq_false (by omega);have e2:decide (kd<1)=false:=decide_eq_false (by omega);have e3:decide (13<kd)=false:=decide_eq_false (by omega);have e4:decide (1<=kd)=true:=decide_eq_true (by omega);have x4:(kd == 4)=false:=beq_eq_false_iff_ne.2 (by omega);have x5:(kd == 5)=false:=beq_eq_false_iff_ne.2 (by omega);have x12:(kd == 12)=false:=beq_eq_false_iff_ne.2 (by omega);have x13:(kd == 13)=false:=beq_eq_false_iff_ne.2 (by omega);have y1:1<=kd:=by omega
 have y3:¬ kd<=3:=by omega
 have y0:¬ kd<1:=by omega
 have yy:¬ 13<kd:=by omega
 have y4:¬ kd=4:=by omega
 have y5:¬ kd=5:=by omega
 have y12:¬ kd=12:=by omega
 have y13:¬ kd=13:=by omega
 by_cases h0:ds.length=0
 ·have O:∀ o,Zg2 MAt WB N w (w.alloc o):=fun o=>by
   obtain⟨tag',q⟩:=h.step L (Yp.of_below h.bk (Zb w o));exact⟨(Zb w o).mono (Nat.le_of_lt hWB),_,tag',ds,q⟩
  rw[h0] at c0;clear h;go_enter func10,ntmps10;go_wp2
  go_ret;exact⟨rfl,O _⟩
 ·have hb:=Zoh D ds.length (by omega);obtain⟨j,hj⟩:=Int.eq_ofNat_of_zero_le hb.1;have I:j<ds.length:=by omega
  obtain⟨g,rfl,hg,cg⟩:=Z5x h.row I;have hev:=h.ev j I;have hdl:=h.len;have FP:=fun o=>Z5w L WB N (10+2*j) (11+2*j) _ tag (ds.getD j kd0) kd n D ax ay bx by' Z cy dx dy la ln lc ta Y tc s (w.alloc o).drew n1 n2 (h.bk.below (Zb w o).drew) hN ((h.km j I).below L (Zb w o).drew) (by omega) (by omega) (by omega) (by omega) k1 k2
  have O:∀ o w',Yj MAt WB N (.slice (some ⟨g,0,none⟩) ds.length c0') (w.alloc o).drew w' tag (10+2*j) (11+2*j) (ds.getD j kd0)->Zg2 MAt WB N w w':=fun o w' J=>by
   have J:=J.pre (Zb w o).drew;obtain⟨tag',ds',q⟩:=h.ask L I J;exact⟨J.low h.bk (by omega) (by omega),_,tag',ds',q⟩
  have PK:=fun W=>Ztm D ds.length W m1 m2 (by omega) (by omega)
  rw[hj] at PK;have u0:(0:Int)<=(j:Int):=by omega
  have u1:(j:Int)<(ds.length:Int):=by omega
  have z0:((ds.length:Int) == 0)=false:=beq_eq_false_iff_ne.2 (by omega);have z1:¬ ((ds.length:Int)=0):=by omega
  generalize (ds.getD j kd0).K=KK at *
  clear hb hj hev h hdl;go_enter func10,ntmps10;go_upto_region 13 with fail;go_region_with (first|(go_at_call 24;refine (PK _).mono ?_;rintro e w3 ⟨rfl,rfl⟩)|(go_at_call 23;refine (FP _).mono ?_;rintro e w1 ⟨rfl,hb1⟩))
  all_goals go_wp2_with fail
  all_goals go_ret
  all_goals exact⟨rfl,O _ _ hb1⟩
end Go.Proofs.YtgpapegpdfonpaaGreatDoor
namespace Go.Proofs.YtgpapegpdfonpaaGreatDoor
open Go.RowKit
attribute [local go_sem ↓] Go.wp_at_zero Go.wp_at_succ
theorem Bks.put0 {w:World}{WB N:Nat}{v0:Value}{tag:Nat->Nat}(h:Bks w WB v0 tag N)(v:Value):Bks (w.setCell ⟨WB,0,none⟩ v) WB v tag N:=by
 obtain⟨sh,nk,D,O,Z⟩:=h;refine⟨sh,nk,⟨?_,D.tW,fun k I=>by simpa using D.lt k I,D.low,fun j Y=>(D.she j Y).keep fun k I J=>⟨?_,J⟩⟩,O,Z⟩
 ·rw[heap_setCell_same w WB 0 _ _ v D.blk];rfl
 ·refine Below.heap_setCell _ _ _ _ fun e=>?_
  have e:k=WB:=e;rw[e,D.tW] at J;omega
theorem MW.below {MAt:Yd}(L:MeshLaw MAt){w w':World}{WB N:Nat}{tag:Nat->Nat}{v0:Value}{ds:List KD}(h:MW MAt w WB N tag v0 ds)(e:Below w.heap.size w w'):MW MAt w' WB N tag v0 ds:=
 ⟨h.bk.below e,Z9 h.row fun g I=>e.block g (Zx h.row I),h.tr,fun j D=>(h.km j D).below L e,h.ev,h.len⟩
def Zbd (m:Nat):Array Value:=#[.pointer (some ⟨m,0,none⟩),.slice none 0 0,.slice none 0 0,.int .i64 0,.bool false,.slice none 0 0]
theorem MW.new {MAt:Yd} (L:MeshLaw MAt) {W D w3:World} {WB N m g cap:Nat} {tag:Nat->Nat} {v0:Value} {ds:List KD} {o:Obj} (h:MW MAt W WB N tag v0 ds) (hp:Zbc MAt W D tag (11+2*ds.length) m ⟨[],[],0,[]⟩ (.slice none 0 0)) (hb:Below W.heap.size W D)
  (hown:w3.ownsRow 0 65 1 (.slice (some ⟨g,0,none⟩) (ds.length+1) cap) (ds.length+1) (ds.map Zec ++ [.pointer (some ⟨D.heap.size,0,none⟩)]))
  (hat:(v0.ownBlock=some g/\((D.alloc (.cells (Zbd m) 67)).alloc o).grownBy w3 (some g))\/(g=(D.alloc (.cells (Zbd m) 67)).heap.size+1/\((D.alloc (.cells (Zbd m) 67)).alloc o).grownBy w3 none)) (hg:g<w3.heap.size) :
  ∃ tag' ds',MW MAt (w3.setCell ⟨WB,0,none⟩ (.slice (some ⟨g,0,none⟩) (ds.length+1) cap)) WB (N+1) tag' (.slice (some ⟨g,0,none⟩) (ds.length+1) cap) ds':=by
 obtain⟨tag1,hag,hlt1,hM1,hch,_⟩:=hp;obtain⟨_,_,_,hsz,far⟩:=Zbm hat;have hs2:(D.alloc (.cells (Zbd m) 67)).heap.size=D.heap.size+1:=by simp
 have hW:=h.bk.tW;have hWB:=h.bk.lt;have hWs:=hb.size;have Z:(v0.ownBlock=some g/\tag g=5/\g<W.heap.size)\/(0<g/\D.heap.size+1<g)\/(D.heap.size+1<g):=by
  rcases hat with ⟨e,_⟩|⟨e,_⟩
  ·exact .inl ⟨e,h.tr g e,Zx h.row e⟩
  ·right;right;omega
 have hgW:g≠WB:=fun e=>by
  rcases Z with ⟨_,t,_⟩|⟨_,t⟩|t
  ·rw[e,hW] at t;omega
  ·omega
  ·omega
 have hgK:g≠D.heap.size:=fun e=>by
  rcases Z with ⟨_,_,t⟩|⟨_,t⟩|t <;> omega
 have own5:∀ k,some k=v0.ownBlock->tag k=5/\k<W.heap.size:=fun k e=>⟨h.tr k e.symm,Zx h.row e.symm⟩
 have old1:∀ k,k<D.heap.size->some k≠v0.ownBlock->w3.heap[k]? =D.heap[k]? :=fun k I hne=>by
  rw[far k (by omega) hne,Below.heap_alloc _ _ _ I]
 have old:∀ k,k<W.heap.size->tag k≠5->w3.heap[k]? =W.heap[k]? :=fun k I O=>by
  rw[old1 k (by omega) fun e=>O (own5 k e).1,hb.block k I]
 let tag':Nat->Nat:=fun k=>if k=D.heap.size then 10+2*ds.length else if k=g then 5 else tag1 k
 have tK:tag' D.heap.size=10+2*ds.length:=if_pos rfl;have tg:tag' g=5:=by show (if g=D.heap.size then _ else _)=5;rw[if_neg hgK,if_pos rfl]
 have to1:∀ k,k≠D.heap.size->k≠g->tag' k=tag1 k:=fun k e1 e2=>by show (if k=D.heap.size then _ else _)=_;rw[if_neg e1,if_neg e2]
 have toA:∀ k,k<W.heap.size->tag' k=tag k:=fun k I=>by
  by_cases e:k=g
  ·subst e;rw[tg];rcases Z with ⟨_,t,_⟩|⟨_,t⟩|t
   ·exact t.symm
   ·omega
   ·omega
  ·rw[to1 k (by omega) e,hag k I]
 have htg:Y6 w3 tag':=fun k I=>by
  by_cases e1:k=D.heap.size
  ·omega
  ·by_cases e2:k=g
   ·omega
   ·rw[to1 k e1 e2] at I;have:=hlt1 k I;omega
 have hB3:Bks w3 WB v0 tag' N:=h.bk.move (fun k h0 h4=>⟨old k (h.bk.tlt k h0) (by omega),toA k (h.bk.tlt k h0)⟩) htg toA;have Y:∀ k,k≠WB->(w3.setCell ⟨WB,0,none⟩ (.slice (some ⟨g,0,none⟩) (ds.length+1) cap)).heap[k]? =w3.heap[k]? :=fun k I=>Below.heap_setCell _ _ _ _ I
 have hKW:D.heap.size≠WB:=by omega
 have hblk:w3.heap[D.heap.size]? =some (.cells (Zbd m) 67 (0,0)):=by
  rw[far _ (by omega) fun e=>by have:=(own5 _ e).2;omega];exact heap_alloc_new _ _
 have gd:∀ j,j<ds.length->(ds ++ [(⟨D.heap.size,m,⟨[],[],0,[]⟩,false,[]⟩:KD)]).getD j kd0=ds.getD j kd0:=fun j J=>by
  simp[List.getD_eq_getElem?_getD,List.getElem?_append_left J]
 have gl:(ds ++ [(⟨D.heap.size,m,⟨[],[],0,[]⟩,false,[]⟩:KD)]).getD ds.length kd0=(⟨D.heap.size,m,⟨[],[],0,[]⟩,false,[]⟩:KD):=by
  simp[List.getD_eq_getElem?_getD]
 refine⟨tag',ds ++ [⟨D.heap.size,m,⟨[],[],0,[]⟩,false,[]⟩],(hB3.put0 _).more (by omega),?_,fun g' hg'=>?_,fun j J=>?_,fun j J=>?_,?_⟩
 ·rw[List.length_append,List.length_singleton,List.map_append];exact Z9 hown fun g' hg'=>by cases hg';exact Y _ hgW
 ·cases hg';exact tg
 ·rw[List.length_append,List.length_singleton] at J;by_cases e:j=ds.length
  ·subst e;rw[gl];refine⟨⟨.slice none 0 0,.slice none 0 0,.slice none 0 0,⟨?_,tK,World.ownsRow_nil _ _ _ _,World.ownsRow_nil _ _ _ _,World.ownsRow_nil _ _ _ _,(fun g e=>by cases e),(fun g e=>by cases e),(fun g e=>by cases e),(fun e=>by cases e)⟩⟩,L.frame _ _ _ _ _ _ _ hM1 (by simp;omega) fun k I O=>?_⟩
   ·show _=_
    rw[Y _ hKW];exact hblk
   ·have k5:some k≠v0.ownBlock:=fun e=>by
     have q:=own5 k e;rw[hag k q.2,q.1] at O;omega
    have kg:k≠g:=fun e=>by
     subst e;rcases Z with ⟨q,_⟩|⟨_,q⟩|q
     ·exact k5 q.symm
     ·omega
     ·omega
    have kW:k≠WB:=fun e=>by
     subst e;rw[hag _ hWB,hW] at O;omega
    exact⟨by rw[Y k kW];exact old1 k I k5,by rw[to1 k (by omega) kg];exact O⟩
  ·have J:j<ds.length:=by omega
   rw[gd j J];refine (h.km j J).keep L (by simp;omega) fun k I O=>⟨?_,toA k I⟩
   rw[Y k fun e=>by subst e;omega];exact old k I (by omega)
 ·rw[List.length_append,List.length_singleton] at J;by_cases e:j=ds.length
  ·subst e;rw[gl];exact Nat.zero_le _
  ·rw[gd j (by omega)];have:=h.ev j (by omega);omega
 ·rw[List.length_append,List.length_singleton];have:=h.len;omega
end Go.Proofs.YtgpapegpdfonpaaGreatDoor
namespace Go.Proofs.YtgpapegpdfonpaaGreatDoor
open Go.RowKit Go.Proofs.Tryz
open Go.Value(int)
open Go.IntKind(i64)
attribute [local go_sem ↓] Go.wp_at_zero Go.wp_at_succ
theorem Z5z:(prog.info? 65).map (fun i=>(i.zero,i.size,i.bytes))=some (some (.pointer none),1,8):=by kernel_rfl
theorem Zn2 {MAt:Yd}(L:MeshLaw MAt)(WB N:Nat)(v0:Value)(tag:Nat->Nat)(ds:List KD)(n wh ax ay bx by' cx cy dx dy:Int)(la:Option Addr)(ln lc:Nat)(ta:Option Addr)(tn tc:Nat)(s:ByteArray)(w:World)(h:MW MAt w WB N tag v0 ds)(hN:N<=925904528800) :
  Calls prog 10 #[.pointer (some ⟨WB,0,none⟩),Xj 5 n wh ax ay bx by' cx cy dx dy la ln lc ta tn tc s] w fun e w'=>e= .returned (.bool true)/\Zg2 MAt WB N w w':=by
 obtain⟨J,Z,rfl⟩:=Zn h.row;obtain⟨iK,hiK,hzK,hsK,hbK⟩:=info_parts Z5z;have FP:=fun o=>L.new (w.alloc o) tag (11+2*ds.length) (by omega) ((h.below L (Zb w o)).bk.tlt)
 have HM:∀ o,Hid (MW MAt (w.alloc o) WB N tag (.slice J ds.length Z) ds):=fun o=>h.below L (Zb w o)
 have hlen:=h.len;have HBW:∀ o,Hid (Below WB w (w.alloc o)):=fun o=>(Zb w o).mono (Nat.le_of_lt h.bk.lt)
 clear h;go_enter func10,ntmps10;go_upto_region 7 with (go_at_call 21;refine (FP _).mono ?_;rintro e D ⟨m,rfl,hp,O⟩);have HLW:=HBW (.cells #[int i64 5,int i64 n,int i64 wh,int i64 ax,int i64 ay,int i64 bx,int i64 by',int i64 cx,int i64 cy,int i64 dx,int i64 dy,.slice la ln lc,.slice ta tn tc,.string s] 44);have I:=HM (.cells #[int i64 5,int i64 n,int i64 wh,int i64 ax,int i64 ay,int i64 bx,int i64 by',int i64 cx,int i64 cy,int i64 dx,int i64 dy,.slice la ln lc,.slice ta tn tc,.string s] 44);generalize w.alloc (.cells #[int i64 5,int i64 n,int i64 wh,int i64 ax,int i64 ay,int i64 bx,int i64 by',int i64 cx,int i64 cy,int i64 dx,int i64 dy,.slice la ln lc,.slice ta tn tc,.string s] 44)=W at *
 have hM1:=I.out.below L O;have hWB:=hM1.bk.lt;have c0:=hM1.bk.cell0;have hbW:=I.out.bk.lt;have HP:Hid (Zbc MAt W D tag (11+2*ds.length) m ⟨[],[],0,[]⟩ (.slice none 0 0)):=hp;have HB:Hid (Below W.heap.size W D):=O;have hrow:(D.alloc (.cells (Zbd m) 67)).ownsRow 0 65 1 (.slice J ds.length Z) ds.length (ds.map Zec):=(hM1.below L (Zb _ _)).row;have HO:Hid ((D.alloc (.cells (Zbd m) 67)).ownsRow 0 65 1 (.slice J ds.length Z) ds.length (ds.map Zec)):=hrow;clear FP HM HBW hM1 hp O hrow;go_wp2_with (at_builtin;refine Xv _ (by rfl) (.tmp 34) (.tmp 38) 24 (by rfl) 0 65 iK (.pointer none) 1 8 underlying24 hiK hzK hsK hbK rfl (by decide) _ _ _ (by rfl) (Zbv HO.out (Zb _ _)) ⟨D.heap.size+1,0,none⟩ 1 1 [.pointer (some ⟨D.heap.size,0,none⟩)] (by rfl) rfl ?c1 ?c2 (by decide) ?c3 ?c4 ?c5 (D.heap.size+2) ?c6 ?_)
 case c1=>
  have:=cell_one_new (D.alloc (.cells (Zbd m) 67)) (.pointer (some ⟨D.heap.size,0,none⟩)) 65;rw[show (D.alloc (.cells (Zbd m) 67)).heap.size=D.heap.size+1 by simp] at this;exact this
 case c2=>intro u hu;simp at hu;subst hu;rfl
 case c3=>unfold maxLen;omega
 case c4=>omega
 case c5=>exact Nat.zero_le _
 case c6=>simp
 ·intro g cap w3 hown hat hlt;have Y:((Value.slice J ds.length Z).ownBlock=some g/\((D.alloc (.cells (Zbd m) 67)).alloc (.cells #[.pointer (some ⟨D.heap.size,0,none⟩)] 65)).grownBy w3 (some g))\/(g=(D.alloc (.cells (Zbd m) 67)).heap.size+1/\((D.alloc (.cells (Zbd m) 67)).alloc (.cells #[.pointer (some ⟨D.heap.size,0,none⟩)] 65)).grownBy w3 none):=by
   rw[show (D.alloc (.cells (Zbd m) 67)).heap.size=D.heap.size+1 by simp];exact hat
  have HNEW:Hid (∃ tag' ds',MW MAt (w3.setCell ⟨WB,0,none⟩ (.slice (some ⟨g,0,none⟩) (ds.length+1) cap)) WB (N+1) tag' (.slice (some ⟨g,0,none⟩) (ds.length+1) cap) ds'):=MW.new L I.out HP.out HB.out hown Y hlt;have hf:w3.frozen? ⟨WB,0,none⟩=false:=by
   obtain⟨sh,nk,hbk,_⟩:=((I.out.below L HB.out).below L (Zb D (.cells (Zbd m) 67))).bk;exact (hbk.behind (fun g hg=>by rw[I.out.tr g hg];decide) Y 0).2
  have hc:w3.cell? ⟨WB,0,none⟩=some (.slice J ds.length Z):=by
   obtain⟨sh,nk,hbk,_⟩:=((I.out.below L HB.out).below L (Zb D (.cells (Zbd m) 67))).bk;rw[(hbk.behind (fun g hg=>by rw[I.out.tr g hg];decide) Y 0).1];exact hbk.cells.1
  have HLF:Hid (Below WB w (w3.setCell ⟨WB,0,none⟩ (.slice (some ⟨g,0,none⟩) (ds.length+1) cap))):=by
   obtain⟨o1,o2,o3,hsz,far⟩:=Zbm Y;have hlow:∀ k,k<WB->tag k=0:=by
    obtain⟨sh,nk,O,_⟩:=I.out.bk;exact O.low
   have hs2:(D.alloc (.cells (Zbd m) 67)).heap.size=D.heap.size+1:=by simp
   have hb13 : Below WB (D.alloc (.cells (Zbd m) 67)) w3 := ⟨o1, o2, o3, hsz, fun k hk => far k (by omega) fun e => by
     have := I.out.tr k e.symm
     rw [hlow k hk] at this
     omega⟩
   exact (((HLW.out.trans (HB.out.mono (Nat.le_of_lt hbW))).trans ((Zb _ _).mono (Nat.le_of_lt hWB))).trans hb13).setCell (Nat.le_refl _) _
  clear hown hat Y hlt HLW HO HP HB I c0 hzK hsK hbK hiK;go_wp2_with fail
  go_ret;obtain⟨tag',ds',q⟩:=HNEW.out;exact⟨rfl,HLF.out,_,tag',ds',q⟩
end Go.Proofs.YtgpapegpdfonpaaGreatDoor
namespace Go.Proofs.YtgpapegpdfonpaaGreatDoor
open Go.RowKit Go.Proofs.Tryz
attribute [local go_sem ↓] Go.wp_at_zero Go.wp_at_succ
theorem Z50 {MAt:Yd}(L:MeshLaw MAt)(WB N:Nat)(v0:Value)(tag:Nat->Nat)(ds:List KD)(kd n D Y ay bx by' O cy dx Z:Int)(I:Option Addr)(l:List Pt)(lc:Nat)(ta:Option Addr)(J tc:Nat)(s:ByteArray)(w:World)(n1: -9223372036854775808<=n)(n2:n<=9223372036854775807)(m1: -9223372036854775808<=D)(m2:D<=9223372036854775807)(h:MW MAt w WB N tag v0 ds)(hN:N<=925904528800)(hr:X9 tag w I l)(hl:l.length<=8796093021952)(h3:kd<=11) :
  Calls prog 10 #[.pointer (some ⟨WB,0,none⟩),Xj kd n D Y ay bx by' O cy dx Z I l.length lc ta J tc s] w fun e w'=>e= .returned (.bool true)/\Zg2 MAt WB N w w':=by
 by_cases h4:kd<=4
 ·obtain⟨a0,c0,rfl⟩:=Zn h.row;refine (Z4q WB N a0 ds.length c0 tag kd n D Y ay bx by' O cy dx Z I l lc ta J tc s w h.bk hN hr hl h4).mono ?_;rintro e w' ⟨rfl,hs⟩;obtain⟨tag',q⟩:=h.step L hs;exact⟨rfl,hs.low h.bk,_,tag',ds,q⟩
 ·by_cases h5:kd=5
  ·subst h5;exact Zn2 L WB N v0 tag ds n D Y ay bx by' O cy dx Z I l.length lc ta J tc s w h hN
  ·exact Z5y L WB N v0 tag ds kd n D Y ay bx by' O cy dx Z I l.length lc ta J tc s w n1 n2 m1 m2 h hN (by omega) h3
theorem Z51 {MAt:Yd}(w:World):MW MAt (w.alloc (.cells #[.slice none 0 0,.slice none 0 0,.slice none 0 0,.slice none 0 0,.slice none 0 0,.slice none 0 0,.slice none 0 0,.int .i64 0] 32)) w.heap.size 0 (fun k=>if k=w.heap.size then 4 else 0) (.slice none 0 0) []:=
 ⟨Z4s w,World.ownsRow_nil _ _ _ _,(fun g D=>by cases D),(fun j e=>by simp at e),(fun j e=>by simp at e),Nat.le_refl _⟩
end Go.Proofs.YtgpapegpdfonpaaGreatDoor
