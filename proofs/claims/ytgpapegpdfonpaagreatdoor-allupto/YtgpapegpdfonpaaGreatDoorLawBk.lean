/- Part. -/
import Derived.Test.YtgpapegpdfonpaaGreatDoorRefS
set_option linter.unusedVariables false
set_option linter.unusedSimpArgs false
set_option maxHeartbeats 16000000
set_option maxRecDepth 100000
namespace Go.Proofs.YtgpapegpdfonpaaGreatDoor
open Go.RowKit Go.Proofs.Tryz
open Go.Value(int)
open Go.IntKind(i64)
attribute [local go_sem ↓] Go.wp_at_zero Go.wp_at_succ
theorem Zxh {P:Program} (w:World) (dT sT ty Y:TypeId) (g O dCap:Nat) (a:Addr) (I sCap:Nat) (D:Array Value) (t:TypeId) (e:List Value)
  (hu:P.underlying dT=some (.slice Y)) (hs:(P.info? Y).map (·.size)=some 2)
  (hg:w.heap[g]? =some (.cells D t (0,0))) (hn:e.length=Nat.min I O*2)
  (hsrc:∀ j v,e[j]? =some v->w.cell? (a.add j)=some v) (hfit:e.length<=D.size) (h1:∀ v∈e,v.oneCell'=true) :
  (Builtin.copy_ #[dT,sT] ty #[.slice (some ⟨g,0,none⟩) O dCap,.slice (some a) I sCap]).run P w =
   .ok (goInt (Nat.min I O)) (w.setRow g (e ++ D.toList.drop e.length).toArray):=by
 have Z:=run_loadCells_list (P:=P) w a e hsrc;have hst:=run_storeCells_at P g 0 t e 0 D w hg (by simpa using hfit) h1;cases J:P.info? Y with
 | none=>simp[J] at hs
 | some i=>
  have hi:i.size=2:=by simpa [J] using hs
  rw[hn] at Z;simp[Builtin.copy_,run_underlying hu,Builtin.lenOf,Builtin.firstCells,sizeOf,typeInfo,J,hi,Z,hst]
theorem Zxi {P:Program} {w:World} {ops:Array Oper} {rest:List Oper} {o:Oper} {a:Act} {Q:Exit->Act->World->Prop} (I:o.guard=none) (d s:Operand) (e D:TypeId)
  (ho:o.op= .call { callee:=.builtin .copy,args:=#[d,s],argTypes:=#[e,D] }) (elem:TypeId) (hu:P.underlying e=some (.slice elem)) (hsz:(P.info? elem).map (·.size)=some 2)
  (g dLen dCap:Nat) (ad:Addr) (sLen sCap:Nat) (hd:a.eval d= .slice (some ⟨g,0,none⟩) dLen dCap) (hs:a.eval s= .slice (some ad) sLen sCap)
  (cur:Array Value) (t:TypeId) (hg:w.heap[g]? =some (.cells cur t (0,0))) (cs:List Value) (hn:cs.length=Nat.min sLen dLen*2)
  (hsrc:∀ j v,cs[j]? =some v->w.cell? (ad.add j)=some v) (hfit:cs.length<=cur.size) (h1:∀ v∈cs,v.oneCell'=true)
  (h:wpList P ops Q rest (a.put o.dst (goInt (Nat.min sLen dLen))) (w.setRow g (cs ++ cur.toList.drop cs.length).toArray)):wpList P ops Q (o :: rest) a w:=by
 refine wpList_plain I fun K hK=>?_
 have J:=Zxh (P:=P) w e D o.type elem g dLen dCap ad sLen sCap cur t cs hu hsz hg hn hsrc hfit h1;unfold Oper.wp;simp[execOp,ho,resolve,invoke,builtin,hd,hs,J,Result.andThen];exact hK _ _ h
theorem Zxj {P:Program} {w:World} {ops:Array Oper} {rest:List Oper} {o:Oper} {a:Act} {Q:Exit->Act->World->Prop} (J:o.guard=none) (d s:Operand) (e D:TypeId)
  (ho:o.op= .call { callee:=.builtin .copy,args:=#[d,s],argTypes:=#[e,D] }) (elem:TypeId) (hu:P.underlying e=some (.slice elem)) (hsz:(P.info? elem).map (·.size)=some 2)
  (dp sp:Option Addr) (dLen dCap sCap:Nat) (hd:a.eval d= .slice dp dLen dCap) (hs:a.eval s= .slice sp 0 sCap)
  (h:wpList P ops Q rest (a.put o.dst (goInt 0)) w):wpList P ops Q (o :: rest) a w:=by
 refine wpList_plain J fun K hK=>?_
 have Y:(Builtin.copy_ #[e,D] o.type #[.slice dp dLen dCap,.slice sp 0 sCap]).run P w= .ok (goInt 0) w:=by
  cases I:P.info? elem with
  | none=>simp[I] at hsz
  | some i=>
   have O:∀ (x:Addr),(loadCells x 0).run P w= .ok #[] w:=fun x=>by simpa using run_loadCells_list (P:=P) w x [] (by simp)
   cases dp <;> cases sp <;> simp[Builtin.copy_,run_underlying hu,Builtin.lenOf,Builtin.firstCells,sizeOf,typeInfo,I,storeCells,O]
 unfold Oper.wp;simp[execOp,ho,resolve,invoke,builtin,hd,hs,Y,Result.andThen];exact hK _ _ h
theorem Zqf:(prog.info? 37).map (·.size)=some 2:=by kernel_rfl
theorem Zxk {w:World}{g D:Nat}{l:List Pt}(h:Zp w g D l):∀ j u,(Zg l)[j]? =some u->w.cell? ((⟨g,D,none⟩:Addr).add j)=some u:=by
 intro j u e;have I:(⟨g,D,none⟩:Addr).add j=⟨g,D+j,none⟩:=by unfold Addr.add;split <;> simp_all
 rw[I];have J:j<l.length*2:=by
  rw[<-Zbw];exact (List.getElem?_eq_some_iff.1 e).1
 obtain⟨i,hi⟩:∃ i,j=i*2\/j=i*2+1:=⟨j / 2,by omega⟩;rcases hi with rfl|rfl
 ·have hi:i<l.length:=by omega
  rw[(Zhi l i hi).1] at e;rw[(h i hi).1];exact e
 ·have hi:i<l.length:=by omega
  rw[(Zhi l i hi).2] at e;have:=(h i hi).2;rw[Nat.add_assoc] at this;rw[this];exact e
def Z2 (w:World)(g:Nat)(l:List Pt):Prop:=w.heap[g]? =some (.cells (Zg l).toArray 37 (0,0))
theorem Z2.lt {w:World}{g:Nat}{l:List Pt}(h:Z2 w g l):g<w.heap.size:=(Array.getElem?_eq_some_iff.1 h).1
theorem Z2.pts {w:World}{g:Nat}{l:List Pt}(h:Z2 w g l):Zp w g 0 l:=by
 intro j e;obtain⟨a,b⟩:=Zhi l j e;unfold Z2 at h;rw[Nat.zero_add];refine⟨?_,?_⟩
 ·simp only[World.cell?,h];simpa using a
 ·simp only[World.cell?,h];simpa using b
theorem Z2.frozen {w:World}{g:Nat}{l:List Pt}(h:Z2 w g l)(i:Nat):w.frozen? ⟨g,i,none⟩=false:=by
 unfold Z2 at h;simp[World.frozen?,h]
theorem Z2.keep {w w':World}{g:Nat}{l:List Pt}(h:Z2 w g l)(e:w'.heap[g]? =w.heap[g]?):Z2 w' g l:=by
 unfold Z2 at *
 rw[e];exact h
theorem Zxl (l:List Pt)(x y:Int):∀ i,i<l.length->((Zg l).set (i*2) (int i64 x)).set (i*2+1) (int i64 y)=Zg (l.set i (x,y)):=by
 induction l with
 | nil=>intro i h;simp at h
 | cons p l ih=>
  intro i h;have e:Zg (p :: l)=int i64 p.1 :: int i64 p.2 :: Zg l:=by simp[Zg]
  rw[e];match i with
  | 0=>simp[Zg]
  | i+1=>
   have:=ih i (by simpa using h);rw[show (i+1)*2=i*2+1+1 by omega];simp only[List.set_cons_succ];rw[this];simp[Zg]
theorem Z2.put {w:World}{g:Nat}{l:List Pt}(h:Z2 w g l){i:Nat}(hi:i<l.length)(x y:Int):Z2 ((w.setCell ⟨g,i*2,none⟩ (int i64 x)).setCell ⟨g,i*2+1,none⟩ (int i64 y)) g (l.set i (x,y)):=by
 unfold Z2 at *
 rw[<-Zxl l x y i hi];simp[World.setCell,Array.getElem?_modify,h]
theorem Zxm (w:World){g k:Nat}(e:k≠g)(i j:Nat)(x y:Value):((w.setCell ⟨g,i,none⟩ x).setCell ⟨g,j,none⟩ y).heap[k]? =w.heap[k]? :=by
 rw[Below.heap_setCell _ _ _ _ e,Below.heap_setCell _ _ _ _ e]
theorem Zxn {w D:World}{g:Nat}(h:w.grownBy D (some g))(i j:Nat)(x y:Value):w.grownBy ((D.setCell ⟨g,i,none⟩ x).setCell ⟨g,j,none⟩ y) (some g):=
 ⟨h.os, h.tape, h.output, by have := h.size; simpa [World.setCell] using this, fun k J I => by
   rw [Zxm _ (fun e => I (by rw [e]))]; exact h.block k J I⟩
theorem Zjc (w:World)(g:Option Nat):w.grownBy w g:=⟨rfl,rfl,rfl,Nat.le_refl _,fun _ _ _=>rfl⟩
def Yl (k:Nat):List Pt:=(List.range 8).map fun i=>if i<k then (77,(i:Int)) else (0,0)
theorem Zlx (k:Nat):(Yl k).length=8:=by simp[Yl]
theorem Zqg:Yl 0=List.replicate 8 (0,0):=by simp[Yl];rfl
theorem Zxo (l:List Pt)(k:Nat)(h:k<8):(l ++ Yl k).set (l.length+k) (77,(k:Int))=l ++ Yl (k+1):=by
 rw[List.set_append_right _ _ (by omega)];congr 1;rw[show l.length+k-l.length=k by omega];apply List.ext_getElem?;intro i;by_cases hi:i<8
 ·by_cases e:k=i
  ·subst e;simp[Yl,hi]
  ·rw[List.getElem?_set_ne e];simp[Yl,hi];have:(i<k)=(i<k+1):=by simp;omega
   simp[this]
 ·rw[List.getElem?_eq_none (by simp[Yl];omega),List.getElem?_eq_none (by simp[Yl];omega)]
theorem Zxp (k:Nat)(h:k<8):(Yl 8).getD k (0,0)=(77,(k:Int)):=by simp[Yl,h]
theorem Zxq (n:Nat):(madeCells #[Value.int .i64 0,int i64 0] (n*2)).toList=Zg (List.replicate n (0,0)):=by
 apply List.ext_getElem?;intro i;by_cases I:i<n*2
 ·have e:Zg (List.replicate n (0,0))=List.replicate (n*2) (int i64 0):=by
   clear I;induction n with
   | zero=>rfl
   | succ n ih=>
    rw[List.replicate_succ,show (n+1)*2=n*2+1+1 by omega,List.replicate_succ,List.replicate_succ,<-ih];simp[Zg]
  rw[e];have D:i % 2=0\/i % 2=1:=by omega
  rcases D with D|D <;> simp[madeCells,I,D]
 ·rw[List.getElem?_eq_none (by simp[madeCells];omega),List.getElem?_eq_none (by rw[Zbw];simp;omega)]
theorem Zxr (kl I:IntKind)(n:Nat)(hn:n<=8796093030000)(w:World):(Instr.makeSlice 41 (.int kl (n:Int)) (.int I (n:Int))).run prog w =
  .ok (.slice (some ⟨w.heap.size,0,none⟩) n n) (w.alloc (.cells (Zg (List.replicate n (0,0))).toArray 37)):=by
 obtain⟨O,aa,J,Y,Z⟩:=info_parts Zdk;have D:=run_make (P:=prog) w 41 37 O (.agg #[int i64 0,int i64 0]) underlying41 aa J kl I n n (by omega) (Int.le_refl _) (by rw[Z];omega) (by omega);simp only[Int.toNat_natCast,Y] at D;rw[D];have e:madeCells (Value.agg #[int i64 0,int i64 0]).cells (n*2)=(Zg (List.replicate n (0,0))).toArray:=by
  rw[<-Zxq];rfl
 rw[e]
theorem Zxs (w:World) {ops:Array Oper} {rest:List Oper} {o:Oper} {a:Act} {Q:Exit->Act->World->Prop}
  (hg:o.guard=none) (l c:Operand) (hop:o.op=Op.makeSlice 41 l c) (kl kc:IntKind) (n:Nat) (z:Int) (hl:a.eval l= .int kl z) (hc:a.eval c= .int kc z) (hz:z=(n:Int)) (hn:n<=8796093030000)
  (hK:wpList prog ops Q rest (a.put o.dst (.slice (some ⟨w.heap.size,0,none⟩) n n)) (w.alloc (.cells (Zg (List.replicate n (0,0))).toArray 37))) :
  wpList prog ops Q (o :: rest) a w:=by
 refine wpList_plain hg fun K e=>?_
 subst hz;have D:=Zxr kl kc n hn w;unfold Oper.wp;simp[execOp,hop,hl,hc,D,Result.andThen];exact e _ _ hK
theorem Zqh (w:World)(g:Nat)(D:Array Value):w.grownBy (w.setRow g D) (some g):=
 ⟨rfl, rfl, rfl, by simp [World.setRow], fun k J I => by
   have : ¬ g = k := fun e => I (by rw [e])
   simp [World.setRow, Array.getElem?_modify, this]⟩
theorem Zxt {w:World} {ops:Array Oper} {rest:List Oper} {o:Oper} {a:Act} {Q:Exit->Act->World->Prop} (I:o.guard=none) (d s:Operand)
  (ho:o.op= .call { callee:=.builtin .copy,args:=#[d,s],argTypes:=#[41,41] }) (g dCap:Nat) (sa:Option Addr) (l:List Pt) (sCap:Nat)
  (hd:a.eval d= .slice (some ⟨g,0,none⟩) (l.length+8) dCap) (hs:a.eval s= .slice sa l.length sCap) (hr:Z0 w sa l)
  (hg:w.heap[g]? =some (.cells (Zg (List.replicate (l.length+8) (0,0))).toArray 37 (0,0)))
  (h:∀ w',Z2 w' g (l ++ Yl 0)->w.grownBy w' (some g)->wpList prog ops Q rest (a.put o.dst (goInt l.length)) w'):wpList prog ops Q (o :: rest) a w:=by
 rcases hr with rfl|⟨b,O,rfl,Z,Y⟩
 ·refine Zxj I d s _ _ ho 37 underlying41 Zqf _ _ _ _ _ hd hs (h w ?_ (Zjc _ _));rw[Zqg];unfold Z2;rw[hg];rfl
 ·have D:Nat.min l.length (l.length+8)=l.length:=Nat.min_eq_left (by omega);have J:=Zxi (P:=prog) (w:=w) (rest:=rest) (ops:=ops) (a:=a) (Q:=Q) I d s _ _ ho 37 underlying41 Zqf g _ _ ⟨b,O,none⟩ _ _ hd hs _ _ hg (Zg l) (by rw[D,Zbw])
   (Zxk Y) (by simp[Zbw];omega) (Zv9 l)
  rw[D] at J;refine J (h _ ?_ (Zqh _ _ _));unfold Z2;have e:(Zg l ++ (Zg (List.replicate (l.length+8) (0,0))).toArray.toList.drop (Zg l).length).toArray=(Zg (l ++ Yl 0)).toArray:=by
   rw[Zqg,Zel,Zbw];simp only;have:List.replicate (l.length+8) ((0,0):Pt)=List.replicate l.length (0,0) ++ List.replicate 8 (0,0):=by rw[List.replicate_append_replicate]
   rw[this,Zel,List.drop_left' (by rw[Zbw,List.length_replicate])]
  rw[e];simp[World.setRow,Array.getElem?_modify,hg]
theorem Z0.below {w w':World}{a:Option Addr}{l:List Pt}(h:Z0 w a l)(D:Below w.heap.size w w'):Z0 w' a l:=by
 rcases h with h|⟨b,I,O,e,J⟩
 ·exact .inl h
 ·exact .inr ⟨b,I,O,L3 e D.size,J.below D e⟩
theorem Zjd (a:Option Addr)(cap:Nat)(l:List Pt)(w:World)(hr:Z0 w a l)(hl:l.length<=8796093021952) :
  Calls prog 42 #[.slice a l.length cap] w fun e w'=>∃ g,e= .returned (.slice (some ⟨g,0,none⟩) (l.length+8) (l.length+8))/\w.heap.size<=g/\Z2 w' g (l ++ Yl 8)/\Below w.heap.size w w':=by
 have w8:IntKind.i64.wrap ((l.length:Int)+8)=(l.length:Int)+8:=Zd (by omega) (by omega);go_enter func42,ntmps42
 go_wp2_with (first
   | (refine Zxs _ (by rfl) (.tmp 7) (.tmp 7) (by rfl) .i64 .i64 (l.length + 8) ((l.length : Int) + 8) (by rfl) (by rfl) (by omega) (by omega) ?_)
   | (refine Zxt (by rfl) (.tmp 9) (.tmp 10) (by rfl) w.heap.size (l.length + 8) a l cap (by rfl) (by rfl) (Z0.below hr (Zb _ _)) (heap_alloc_new _ _) ?_; intro w1 D O))
 have J:Below w.heap.size w w1:=(Zb w _).grown O (by simp) (fun k Y=>by cases Y;exact Nat.le_refl _);clear O w8;go_loopw [4] (fun i wr=>∃ k:Nat,k<=8/\i=int i64 k/\Z2 wr w.heap.size (l ++ Yl k)/\Below w.heap.size w wr) (fun i _=>8-(intOf i).toNat)
 case atStart=>exact⟨0,by omega,rfl,D,J⟩
 case round=>
  clear D J;obtain⟨k,Y,rfl,D,I⟩:=hrel;by_cases hk8:k<8
  ·have HP:Hid (Z2 ((wr.setCell ⟨w.heap.size,(l.length+k)*2,none⟩ (int i64 77)).setCell ⟨w.heap.size,(l.length+k)*2+1,none⟩ (int i64 (k:Int))) w.heap.size (l ++ Yl (k+1))):=by
    have:=D.put (i:=l.length+k) (by simp[Zlx];omega) 77 (k:Int);rwa [Zxo l k hk8] at this
   have HB:Hid (Below w.heap.size w ((wr.setCell ⟨w.heap.size,(l.length+k)*2,none⟩ (int i64 77)).setCell ⟨w.heap.size,(l.length+k)*2+1,none⟩ (int i64 (k:Int)))):=(I.setCell (p:=⟨w.heap.size,(l.length+k)*2,none⟩) (Nat.le_refl _) _).setCell (p:=⟨w.heap.size,(l.length+k)*2+1,none⟩) (Nat.le_refl _) _;obtain⟨Z,d1⟩:=D.pts (l.length+k) (by simp[Zlx];omega);rw[Nat.zero_add] at Z d1;have f0:=D.frozen ((l.length+k)*2);have f1:=D.frozen ((l.length+k)*2+1);have x0:(0:Int)<=(l.length:Int)+(k:Int):=by omega
   have x1:(l.length:Int)+(k:Int)<((l.length+8:Nat):Int):=by omega
   have x2:IntKind.i64.wrap ((l.length:Int)+(k:Int))=(l.length:Int)+(k:Int):=Zd (by omega) (by omega);have x3:((l.length:Int)+(k:Int)).toNat=l.length+k:=by omega
   have x4:IntKind.i64.wrap ((k:Int)+1)=(k:Int)+1:=Zd (by omega) (by omega);have x5:(k:Int)<8:=by omega
   clear D I;go_wp2
   go_roundw;case rel=>exact⟨k+1,by omega,by go_num,HP.out,HB.out⟩
   case measure=>simp[intOf];omega
  ·have e:k=8:=by omega
   subst e;go_wp2
   go_ret;exact⟨_,rfl,Nat.le_refl _,D,I⟩
theorem Zeo (w:World)(o:Obj)(n:Nat):w.grownBy ((w.alloc o).drewN n) none:=⟨rfl,rfl,rfl,by simp[World.drewN],fun k e _=>Below.heap_alloc w o k e⟩
def Zdm (k:Nat)(m:List Pt):List Pt:=List.replicate k (-7,-7) ++ m.drop k
theorem Zqi {k:Nat}{m:List Pt}(h:k<=m.length):(Zdm k m).length=m.length:=by simp[Zdm];omega
theorem Zxu {k:Nat}{m:List Pt}(h:k<m.length):(Zdm k m).set k (-7,-7)=Zdm (k+1) m:=by
 unfold Zdm;rw[List.set_append_right _ _ (by simp),List.length_replicate,Nat.sub_self,List.replicate_succ',List.append_assoc];congr 1;rw[List.drop_eq_getElem_cons h];rfl
theorem Zxv {k:Nat}{m:List Pt}(h:k<m.length):(Zdm k m).getD k (0,0)=m.getD k (0,0):=by
 unfold Zdm;simp only[List.getD_eq_getElem?_getD];rw[List.getElem?_append_right (by simp)];simp
theorem Zqj {l:List Pt}{k:Nat}(h:k<l.length):(l ++ Yl 8).getD k (0,0)=l.getD k (0,0):=by
 simp[List.getElem?_append_left h]
theorem Zxw {l:List Pt}{k:Nat}(h:¬ k<l.length)(D:k<l.length+8):(l ++ Yl 8).getD k (0,0)=(77,(k:Int)-(l.length:Int)):=by
 have e:(l ++ Yl 8).getD k (0,0)=(Yl 8).getD (k-l.length) (0,0):=by
  simp[List.getElem?_append_right (Nat.le_of_not_lt h)]
 rw[e,Zxp _ (by omega)];congr 1;omega
theorem Zje (g cap:Nat)(a:Option Addr)(lc:Nat)(l:List Pt)(w:World)(hr:Z0 w a l)(hg:Z2 w g (l ++ Yl 8))(hne:∀ b D,a=some ⟨b,D,none⟩->l≠ []->b≠g)(hl:l.length<=8796093021952) :
  Calls prog 47 #[.slice (some ⟨g,0,none⟩) (l.length+8) cap,.slice a l.length lc] w fun e w'=>e= .returned (.bool true)/\w.grownBy w' (some g):=by
 have KEY:Hid (∀ k wr,w.grownBy wr (some g)->k<l.length->∃ b D,a=some ⟨b,D,none⟩/\b<wr.heap.size/\wr.cell? ⟨b,D+k*2,none⟩=some (int i64 (l.getD k (0,0)).1)/\wr.cell? ⟨b,D+k*2+1,none⟩=some (int i64 (l.getD k (0,0)).2)):=by
  intro k wr I Y;rcases hr with rfl|⟨b,D,rfl,Z,hp⟩
  ·simp at Y
  ·have hn:some b≠some g:=fun e=>hne b D rfl (fun e=>by rw[e] at Y;simp at Y) (by cases e;rfl)
   exact⟨b,D,rfl,L3 Z I.size,(I.cell_far ⟨b,D+k*2,none⟩ Z hn).trans (hp k Y).1,(I.cell_far ⟨b,D+k*2+1,none⟩ Z hn).trans (hp k Y).2⟩
 have hml:(l ++ Yl 8).length=l.length+8:=by simp[Zlx]
 clear hr hne;go_enter func47,ntmps47;go_wp2
 go_loopw [5,6] (fun o i wr=>∃ k:Nat,k<=l.length+8/\i=int i64 k/\o= .bool true/\Z2 wr g (Zdm k (l ++ Yl 8))/\w.grownBy wr (some g)) (fun _ i _=>l.length+8-(intOf i).toNat)
 case atStart=>exact⟨0,by omega,rfl,rfl,hg,Zjc _ _⟩
 case round=>
  clear hg;obtain⟨k,Y,rfl,rfl,J,I⟩:=hrel;by_cases hlt:k<l.length+8
  ·have hkm:k<(l ++ Yl 8).length:=by omega
   obtain⟨d0,d1⟩:=J.pts k (by rw[Zqi (by omega)];exact hkm);rw[Zxv hkm,Nat.zero_add] at d0 d1;have HP:Hid (∀ W,wr.grownBy W none->Z2 ((W.setCell ⟨g,k*2,none⟩ (int i64 (-7))).setCell ⟨g,k*2+1,none⟩ (int i64 (-7))) g (Zdm (k+1) (l ++ Yl 8))/\w.grownBy ((W.setCell ⟨g,k*2,none⟩ (int i64 (-7))).setCell ⟨g,k*2+1,none⟩ (int i64 (-7))) (some g)):=by
    intro W O;have h1:Z2 W g (Zdm k (l ++ Yl 8)):=J.keep (O.block g J.lt (by simp));have h2:=h1.put (i:=k) (by rw[Zqi (by omega)];exact hkm) (-7) (-7);rw[Zxu hkm] at h2;exact⟨h2,Zxn (I.trans ⟨O.os,O.tape,O.output,O.size,fun j hj _=>O.block j hj (by simp)⟩) _ _ _ _⟩
   have hgl:=J.lt;have f0:=J.frozen (k*2);have f1:=J.frozen (k*2+1);have x0:(0:Int)<=(k:Int):=by omega
   have x1:(k:Int)<((l.length+8:Nat):Int):=by omega
   have x2:IntKind.i64.wrap ((k:Int)-(l.length:Int))=(k:Int)-(l.length:Int):=Zd (by omega) (by omega);have x4:IntKind.i64.wrap ((k:Int)+1)=(k:Int)+1:=Zd (by omega) (by omega);by_cases hkl:k<l.length
   ·obtain⟨b,D,rfl,Z,c0,c1⟩:=KEY.out k wr I hkl;rw[Zqj hkl] at d0 d1;have x5:(k:Int)<(l.length:Int):=by omega
    generalize (l.getD k (0,0)).1=lx at *
    generalize (l.getD k (0,0)).2=ly at *
    clear J I KEY;go_wp2_with fail
    go_quiet (fail);go_wp2
    go_roundw;case rel=>exact⟨k+1,by omega,by go_num,rfl,(HP.out _ (Zeo wr _ nq)).1,(HP.out _ (Zeo wr _ nq)).2⟩
    case measure=>simp[intOf];omega
   ·rw[Zxw hkl hlt] at d0 d1;have x5:¬ ((k:Int)<(l.length:Int)):=by omega
    simp only at d0 d1;clear J I KEY;go_wp2_with fail
    go_quiet (fail);go_wp2
    go_roundw;case rel=>exact⟨k+1,by omega,by go_num,rfl,(HP.out _ (Zeo wr _ nq)).1,(HP.out _ (Zeo wr _ nq)).2⟩
    case measure=>simp[intOf];omega
  ·have e:k=l.length+8:=by omega
   subst e;go_wp2
   go_ret;exact⟨rfl,I⟩
def Zga (w:World)(v:Value)(c:List Nat):Prop:=∃ a cap,v= .slice a c.length cap/\(c=[]\/∃ g,a=some ⟨g,0,none⟩/\g<w.heap.size/\Xc w g 0 c)
theorem Zga.own {w:World}{Y:Nat}{v:Value}{c:List Nat}(h:w.ownsRow Y 3 1 v c.length (c.map toV)):Zga w v c:=by
 obtain⟨hl,Z⟩:=h;rcases Z with ⟨rfl,I⟩|⟨g,cap,J,rfl,hg,D,h1,h2,h3,h4⟩
 ·have:c=[]:=List.length_eq_zero_iff.1 I;subst this;exact⟨none,0,rfl,.inl rfl⟩
 ·refine⟨_,cap,rfl,.inr ⟨g,rfl,(Array.getElem?_eq_some_iff.1 D).1,?_⟩⟩;intro j O;have:J[j]? =some (toV (c.getD j 0)):=by
   have e:(List.map toV c)[j]? =some (toV (c.getD j 0)):=by simp[O]
   rw[<-h4,List.getElem?_take] at e;split at e
   ·simpa using e
   ·cases e
  simp[World.cell?,D,this,toV]
theorem Zxx (Z vb:Value)(c:List Nat)(w:World)(O:Zga w Z c)(D:Zga w vb c)(hc:c.length<=60) :
  Calls prog 45 #[Z,vb] w fun e w'=>e= .returned (.bool true)/\Below w.heap.size w w':=by
 obtain⟨aa,ac,rfl,O⟩:=O;obtain⟨ba,bc,rfl,D⟩:=D;have c60:(c.length:Int)<=60:=by omega
 have HA:Hid (c=[]\/∃ g,aa=some ⟨g,0,none⟩/\g<w.heap.size/\Xc w g 0 c):=O;have HB:Hid (c=[]\/∃ g,ba=some ⟨g,0,none⟩/\g<w.heap.size/\Xc w g 0 c):=D;clear O D;go_enter func45,ntmps45;go_wp2
 go_loopw [5] (fun i wr=>∃ k:Nat,k<=c.length/\i=int i64 k/\Below w.heap.size w wr) (fun i _=>c.length-(intOf i).toNat)
 case atStart=>exact⟨0,by omega,rfl,Below.refl _ _⟩
 case round=>
  obtain⟨k,hk,rfl,I⟩:=hrel;by_cases J:k<c.length
  ·rcases HA.out with rfl|⟨g,rfl,hg,hn⟩
   ·simp at J
   rcases HB.out with rfl|⟨h,rfl,hh,Y⟩
   ·simp at J
   have c0:=(hn.below I hg) k J;have c1:=(Y.below I hh) k J;rw[Nat.zero_add] at c0 c1;generalize c.getD k 0=u at *
   have x0:(0:Int)<=(k:Int):=by omega
   have x1:(k:Int)<(c.length:Int):=by omega
   have x4:IntKind.i64.wrap ((k:Int)+1)=(k:Int)+1:=Zd (by omega) (by omega);clear hn Y HA HB;go_wp2_with fail
   go_quiet (fail);go_wp2
   go_roundw;case rel=>exact⟨k+1,by omega,by go_num,Zt I⟩
   case measure=>simp[intOf];omega
  ·go_wp2
   go_ret;exact⟨rfl,I⟩
end Go.Proofs.YtgpapegpdfonpaaGreatDoor
namespace Go.Proofs.YtgpapegpdfonpaaGreatDoor
open Go.RowKit
attribute [local go_sem ↓] Go.wp_at_zero Go.wp_at_succ
def Zxy (vI vM:Value)(nk:Nat):Array Value:=#[.slice none 0 0,vI,vM,.slice none 0 0,.slice none 0 0,.slice none 0 0,.slice none 0 0,.int .i64 (nk:Int)]
def Zxz (w:World)(WB:Nat)(vM v:Value)(m:Int):Prop:=
 ∃ a n c,v= .slice a n c/\n<=maxLen/\(n=0\/∃ g e,a=some ⟨g,0,none⟩/\WB<g/\some g≠vM.ownBlock/\w.heap[g]? =some (.cells e 3 (0,0))/\∀ k,k<n->e[k]? =some (.int .i64 m))
structure Book (w:World)(WB:Nat)(vI vM:Value)(ls:List Value)(ms:List Int)(nk:Nat):Prop where
 blk:w.heap[WB]? =some (.cells (Zxy vI vM nk) 32 (0,0))
 ownI:w.ownsRow (WB+1) 26 1 vI ls.length ls
 ownM:w.ownsRow (WB+1) 3 1 vM ms.length (ms.map (.int .i64))
 ent:∀ e∈ls.zip ms,Zxz w WB vM e.1 e.2
theorem Zly {α β:Type}(ls:List α):∀ (ms:List β) (v:α),ls.length=ms.length->(ls ++ [v]).zip ms=ls.zip ms:=by
 induction ls with
 | nil=>intro ms v h;cases ms with
  | nil=>rfl
  | cons m ms=>simp at h
 | cons x ls ih=>intro ms v h;cases ms with
  | nil=>simp at h
  | cons m ms=>simp at h ⊢;exact ih ms v h
theorem Zep {w:World}{I:Nat}{e:TypeId}{v:Value}{n g:Nat}{xs:List Value}(h:w.ownsRow I e 1 v n xs)(J:v.ownBlock=some g):I<=g/\∃ D,w.heap[g]? =some (.cells D e (0,0)):=by
 rcases h.2 with ⟨rfl,_⟩|⟨Z,cap,D,rfl,Y,O,_⟩
 ·cases J
 ·cases J;exact⟨Y,D,O⟩
theorem Zeq {w w':World}{D:Nat}{e:TypeId}{v:Value}{n:Nat}{xs:List Value}(h:w.ownsRow D e 1 v n xs)(Z:∀ g,v.ownBlock=some g->w'.heap[g]? =w.heap[g]?):w'.ownsRow D e 1 v n xs:=by
 refine⟨h.1,?_⟩;rcases h.2 with J|⟨I,cap,aa,rfl,Y,O,r⟩
 ·exact .inl J
 ·exact .inr ⟨I,cap,aa,rfl,Y,by rw[Z I rfl];exact O,r⟩
section
variable {w w3:World} {WB g2 cap2 nk:Nat} {vI vM:Value} {ls:List Value} {ms:List Int} {o:Obj}
theorem Zbm {v:Value}(Y:(v.ownBlock=some g2/\(w.alloc o).grownBy w3 (some g2))\/(g2=w.heap.size+1/\(w.alloc o).grownBy w3 none)) :
  w3.os=w.os/\w3.tape=w.tape/\w3.output=w.output/\w.heap.size<=w3.heap.size/\∀ k,k<w.heap.size->some k≠v.ownBlock->w3.heap[k]? =w.heap[k]? :=by
 have I:∀ r,(w.alloc o).grownBy w3 r->w3.os=w.os/\w3.tape=w.tape/\w3.output=w.output/\w.heap.size<=w3.heap.size/\∀ k,k<w.heap.size->some k≠r->w3.heap[k]? =w.heap[k]? :=fun r h=>by
  have J:=h.size;simp at J;refine⟨h.os,h.tape,h.output,by omega,fun k D O=>?_⟩;rw[h.block k (by simp;omega) O,Below.heap_alloc w o k D]
 rcases Y with ⟨Z,h⟩|⟨_,h⟩
 ·rw[Z];exact I _ h
 ·obtain⟨a,b,c,d,e⟩:=I _ h;exact⟨a,b,c,d,fun k D _=>e k D (by simp)⟩
end
theorem Zjf {w:World}{D n:Nat}{e:TypeId}{xs:List Value}{v:Value}(h:w.ownsRow D e 1 v n xs):∃ a c,v= .slice a n c:=by
 rcases Zdi h with ⟨rfl,rfl⟩|⟨g,c,rfl⟩
 ·exact⟨none,0,rfl⟩
 ·exact⟨_,_,rfl⟩
theorem Zlz {w:World}{D n c:Nat}{e:TypeId}{xs:List Value}{a:Option Addr}(h:w.ownsRow D e 1 (.slice a n c) n xs)(j:Nat)(J:j<n):∃ g,a=some ⟨g,0,none⟩/\g<w.heap.size/\w.cell? ⟨g,j,none⟩=xs[j]? :=by
 rcases Zdi h with ⟨e,O⟩|⟨g,cap,e⟩
 ·omega
 ·cases e;obtain⟨_,Y,I⟩:=Zep h (g:=g) rfl;exact⟨g,rfl,Zh I,h.cellAt j (by omega)⟩
end Go.Proofs.YtgpapegpdfonpaaGreatDoor
namespace Go.Proofs.YtgpapegpdfonpaaGreatDoor
open Go.RowKit Go.Proofs.Tryz
attribute [local go_sem ↓] Go.wp_at_zero Go.wp_at_succ
theorem Zx0:(prog.info? 26).map (fun i=>(i.zero,i.size,i.bytes))=some (some (.slice none 0 0),1,24):=by kernel_rfl
section
variable {w w3:World} {WB g2 cap2 nk:Nat} {vI vM:Value} {ls:List Value} {ms:List Int} {o:Obj}
end
theorem Zgb {xs:List Value}{k:Nat}{u:Value}(h:k<xs.length):(List.replicate k u ++ xs.drop k).set k u=List.replicate (k+1) u ++ xs.drop (k+1):=by
 rw[List.set_append_right _ _ (by simp),List.length_replicate,Nat.sub_self,List.replicate_succ',List.append_assoc];congr 1;rw[List.drop_eq_getElem_cons h];rfl
end Go.Proofs.YtgpapegpdfonpaaGreatDoor
namespace Go.Proofs.YtgpapegpdfonpaaGreatDoor
open Go.RowKit
attribute [local go_sem ↓] Go.wp_at_zero Go.wp_at_succ
structure Sh where
 vL:Value
 vM:Value
 ls:List Value
 ms:List Int
def tLf:Nat->TypeId
 | 0=>26
 | 1=>42
 | _=>41
def tEf:Nat->TypeId
 | 0=>3
 | 1=>53
 | _=>37
def szf:Nat->Nat
 | 0=>1
 | 1=>3
 | _=>2
theorem tLE (j k:Nat):tLf j≠tEf k:=by
 match j,k with
 | 0,0=>decide
 | 0,1=>decide
 | 0,_+2=>show (26:TypeId)≠37;decide
 | 1,0=>decide
 | 1,1=>decide
 | 1,_+2=>show (42:TypeId)≠37;decide
 | _+2,0=>show (41:TypeId)≠3;decide
 | _+2,1=>show (41:TypeId)≠53;decide
 | _+2,_+2=>show (41:TypeId)≠37;decide
theorem tLI (j:Nat):tLf j≠3:=tLE j 0
def Ze8 (w:World)(tag:Nat->Nat)(i:Nat)(D:TypeId)(s:Nat)(vM v:Value)(m:Int):Prop:=
 ∃ a n c,v= .slice a n c/\n<=maxLen/\(n=0\/∃ g e,a=some ⟨g,0,none⟩/\tag g=i/\some g≠vM.ownBlock/\w.heap[g]? =some (.cells e D (0,0))/\∀ k,k<n*s->e[k]? =some (.int .i64 m))
structure Shelf (w:World)(tag:Nat->Nat)(i:Nat)(tL tE:TypeId)(s:Nat)(x:Sh):Prop where
 ownL:w.ownsRow 0 tL 1 x.vL x.ls.length x.ls
 ownM:w.ownsRow 0 3 1 x.vM x.ms.length (x.ms.map (.int .i64))
 inL:∀ g,x.vL.ownBlock=some g->tag g=i
 inM:∀ g,x.vM.ownBlock=some g->tag g=i
 ent:∀ e∈x.ls.zip x.ms,Ze8 w tag i tE s x.vM e.1 e.2
theorem Ze8.keep {w w':World} {tag tag':Nat->Nat} {i s:Nat} {D:TypeId} {vM J v:Value} {m:Int} (h:Ze8 w tag i D s vM v m)
  (hk:∀ g e,v.ownBlock=some g->0<Zc4 v->tag g=i->some g≠vM.ownBlock->w.heap[g]? =some (.cells e D (0,0))->w'.heap[g]? =w.heap[g]? /\tag' g=i/\some g≠J.ownBlock):Ze8 w' tag' i D s J v m:=by
 obtain⟨a,n,c,rfl,hmx,h⟩:=h;refine⟨a,n,c,rfl,hmx,?_⟩;rcases h with h|⟨g,e,rfl,ht,Z,I,hc⟩
 ·exact .inl h
 ·by_cases O:n=0
  ·exact .inl O
  ·obtain⟨e1,Y,e3⟩:=hk g e rfl (by simp[Zc4];omega) ht Z I;exact .inr ⟨g,e,rfl,Y,e3,by rw[e1];exact I,hc⟩
theorem Shelf.keep {w w':World}{tag tag':Nat->Nat}{i s:Nat}{J O:TypeId}{x:Sh}(h:Shelf w tag i J O s x)(I:∀ k,k<w.heap.size->tag k=i->w'.heap[k]? =w.heap[k]? /\tag' k=i):Shelf w' tag' i J O s x:=by
 refine⟨Zeq h.ownL fun g D=>(I g (Zx h.ownL D) (h.inL g D)).1,Zeq h.ownM fun g D=>(I g (Zx h.ownM D) (h.inM g D)).1,fun g D=>(I g (Zx h.ownL D) (h.inL g D)).2,fun g D=>(I g (Zx h.ownM D) (h.inM g D)).2,fun e he=>(h.ent e he).keep fun g cur _ _ ht aa Y=>?_⟩;obtain⟨e1,Z⟩:=I g (Zh Y) ht;exact⟨e1,Z,aa⟩
def Zer (v0:Value)(sh:Nat->Sh)(nk:Nat):Array Value:=#[v0,(sh 0).vL,(sh 0).vM,(sh 1).vL,(sh 1).vM,(sh 2).vL,(sh 2).vM,.int .i64 (nk:Int)]
def Zes (sh:Nat->Sh)(j:Nat)(x:Sh):Nat->Sh:=fun k=>if k=j then x else sh k
theorem Ze9 (sh:Nat->Sh)(j:Nat)(x:Sh):Zes sh j x j=x:=by simp[Zes]
theorem Zjg (sh:Nat->Sh){j k:Nat}(x:Sh)(h:k≠j):Zes sh j x k=sh k:=by simp[Zes,h]
structure Bk (w:World)(WB:Nat)(v0:Value)(tag:Nat->Nat)(sh:Nat->Sh)(nk:Nat):Prop where
 blk:w.heap[WB]? =some (.cells (Zer v0 sh nk) 32 (0,0))
 tW:tag WB=4
 lt:∀ k,tag k≠0->k<w.heap.size
 low:∀ k,k<WB->tag k=0
 she:∀ j,j<3->Shelf w tag (j+1) (tLf j) (tEf j) (szf j) (sh j)
theorem Bk.ltW {w:World}{WB:Nat}{v0:Value}{tag:Nat->Nat}{sh:Nat->Sh}{nk:Nat}(h:Bk w WB v0 tag sh nk):WB<w.heap.size:=Zh h.blk
theorem Bk.move {w w':World}{WB:Nat}{v0:Value}{tag tag':Nat->Nat}{sh:Nat->Sh}{nk:Nat}(h:Bk w WB v0 tag sh nk)(D:∀ k,tag k≠0->tag k<=4->w'.heap[k]? =w.heap[k]? /\tag' k=tag k)(J:∀ k,tag' k≠0->k<w'.heap.size)(I:∀ k,k<WB->tag' k=0):Bk w' WB v0 tag' sh nk:=by
 have e:=D WB (by rw[h.tW];decide) (by rw[h.tW];decide);refine⟨by rw[e.1];exact h.blk,by rw[e.2,h.tW],J,I,fun j Y=>(h.she j Y).keep fun k aa ht=>?_⟩;obtain⟨O,Z⟩:=D k (by omega) (by omega);exact⟨O,by omega⟩
theorem Bk.below {w w':World}{WB:Nat}{v0:Value}{tag:Nat->Nat}{sh:Nat->Sh}{nk:Nat}(h:Bk w WB v0 tag sh nk)(D:Below w.heap.size w w'):Bk w' WB v0 tag sh nk:=
 h.move (fun k e _=>⟨D.block k (h.lt k e),rfl⟩) (fun k e=>L3 (h.lt k e) D.size) h.low
theorem Bk.chg {w w':World}{WB:Nat}{v0:Value}{tag:Nat->Nat}{sh:Nat->Sh}{nk:Nat}{F:Nat->Prop}(h:Bk w WB v0 tag sh nk)(D:Chg F w w')(I:∀ k,F k->k<w.heap.size->tag k=0\/4<tag k):Bk w' WB v0 tag sh nk:=
 h.move (fun k e J=>⟨D.far k (h.lt k e) (fun f=>by have:=I k f (h.lt k e);omega),rfl⟩) (fun k e=>L3 (h.lt k e) D.size) h.low
structure Hand (w:World)(tag:Nat->Nat)(j:Nat)(x:Sh)(vl:Value)(n:Nat)(m:Int):Prop where
 own:w.ownsRow 0 (tEf j) (szf j) vl n (List.replicate (n*szf j) (.int .i64 m))
 tg:∀ g,vl.ownBlock=some g->tag g=j+1/\some g≠x.vM.ownBlock
 shr:∀ g,vl.ownBlock=some g->∀ e∈x.ls.zip x.ms,e.1.ownBlock=some g->0<Zc4 e.1->e.2=m/\Zc4 e.1<=n
def Zfa (WB j:Nat)(tag:Nat->Nat):Nat->Prop:=fun k=>k=WB\/tag k=j+1
def Ye (w:World)(tag tag':Nat->Nat):Prop:=∀ k,k<w.heap.size->tag' k=tag k
theorem Zl0 {a b c:World}{WB j:Nat}{tag tag':Nat->Nat}(h:Chg (Zfa WB j tag) a b)(e:Ye a tag tag')(k:Chg (Zfa WB j tag') b c):Chg (Zfa WB j tag) a c:=
 h.trans k fun i hi h=>h.imp id fun h=>by rw[<-e i hi];exact h
theorem Ye.trans {a b:World}{t t' e:Nat->Nat}(h:Ye a t t')(k:Ye b t' e)(D:a.heap.size<=b.heap.size):Ye a t e:=fun i hi=>(k i (by omega)).trans (h i hi)
section
variable {w w3:World} {WB g2 cap2 nk j n:Nat} {v0 vl:Value} {tag:Nat->Nat} {sh:Nat->Sh} {m:Int} {o:Obj}
theorem Zx1 (e:j<3)(v:Value)(ls:List Value):(Zer v0 sh nk).setIfInBounds (1+2*j) v=Zer v0 (Zes sh j ⟨v,(sh j).vM,ls,(sh j).ms⟩) nk:=by
 have:j=0\/j=1\/j=2:=by omega
 rcases this with rfl|rfl|rfl <;> rfl
theorem Zx2 (e:j<3)(v:Value)(ms:List Int):(Zer v0 sh nk).setIfInBounds (2+2*j) v=Zer v0 (Zes sh j ⟨(sh j).vL,v,(sh j).ls,ms⟩) nk:=by
 have:j=0\/j=1\/j=2:=by omega
 rcases this with rfl|rfl|rfl <;> rfl
theorem Bk.putL (h:Bk w WB v0 tag sh nk) (hj:j<3) (hlen:(sh j).ls.length=(sh j).ms.length) (J:Hand w tag j (sh j) vl n m)
  (hown:w3.ownsRow 0 (tLf j) 1 (.slice (some ⟨g2,0,none⟩) ((sh j).ls.length+1) cap2) ((sh j).ls.length+1) ((sh j).ls ++ [vl]))
  (hat:((sh j).vL.ownBlock=some g2/\(w.alloc o).grownBy w3 (some g2))\/(g2=w.heap.size+1/\(w.alloc o).grownBy w3 none)) :
  ∃ tag',Ye w tag tag'/\Bk (w3.setCell ⟨WB,1+2*j,none⟩ (.slice (some ⟨g2,0,none⟩) ((sh j).ls.length+1) cap2)) WB v0 tag' (Zes sh j ⟨.slice (some ⟨g2,0,none⟩) ((sh j).ls.length+1) cap2,(sh j).vM,(sh j).ls ++ [vl],(sh j).ms⟩) nk/\
   Hand (w3.setCell ⟨WB,1+2*j,none⟩ (.slice (some ⟨g2,0,none⟩) ((sh j).ls.length+1) cap2)) tag' j ⟨.slice (some ⟨g2,0,none⟩) ((sh j).ls.length+1) cap2,(sh j).vM,(sh j).ls ++ [vl],(sh j).ms⟩ vl n m/\
   Chg (Zfa WB j tag) w (w3.setCell ⟨WB,1+2*j,none⟩ (.slice (some ⟨g2,0,none⟩) ((sh j).ls.length+1) cap2)):=by
 obtain⟨e1,e2,e3,e4,e5⟩:=Zbm hat;have S:=h.she j hj;have hWB:=h.ltW;obtain⟨cur2,hrow2⟩:=Yy hown (g:=g2) rfl;have hWL:some WB≠(sh j).vL.ownBlock:=fun e=>by have:=S.inL WB e.symm;have:=h.tW;omega
 have hg2W:g2≠WB:=fun e=>by
  subst e;rcases hat with ⟨Y,_⟩|⟨Y,_⟩
  ·exact hWL Y.symm
  ·omega
 have hblk:w3.heap[WB]? =some (.cells (Zer v0 sh nk) 32 (0,0)):=by rw[e5 WB hWB hWL];exact h.blk
 generalize Y:Value.slice (some ⟨g2,0,none⟩) ((sh j).ls.length+1) cap2=v' at *
 have hvb:v'.ownBlock=some g2:=by rw[<-Y];rfl
 have unch:∀ k,k<w.heap.size->k≠WB->some k≠(sh j).vL.ownBlock->(w3.setCell ⟨WB,1+2*j,none⟩ v').heap[k]? =w.heap[k]? :=fun k I h1 h2=>by
  rw[Below.heap_setCell _ _ _ _ h1];exact e5 k I h2
 obtain⟨tag',ht1,ht2⟩:∃ tag':Nat->Nat,tag' g2=j+1/\∀ k,k≠g2->tag' k=tag k:=⟨fun k=>if k=g2 then j+1 else tag k,if_pos rfl,fun k I=>if_neg I⟩;have O:Ye w tag tag':=fun k I=>by
  by_cases e:k=g2
  ·subst e;rw[ht1];rcases hat with ⟨Y,_⟩|⟨Y,_⟩
   ·exact (S.inL _ Y).symm
   ·omega
  ·exact ht2 k e
 have hWt:∀ k i,tag k=i+1->i<3->k≠WB:=fun k i I hi e=>by subst e;have:=h.tW;omega
 have hsz:(w3.setCell ⟨WB,1+2*j,none⟩ v').heap.size=w3.heap.size:=by simp
 refine⟨tag',O,⟨?_,?_,?_,?_,?_⟩,⟨?_,?_,?_⟩,⟨e1,e2,e3,by rw[hsz];exact e4,fun k I hF=>?_⟩⟩
 ·rw[heap_setCell_same w3 WB (1+2*j) _ _ _ hblk,Zx1 hj]
 ·rw[O WB hWB];exact h.tW
 ·intro k I;rw[hsz];by_cases e:k=g2
  ·subst e;exact Zh hrow2
  ·rw[ht2 k e] at I;exact L3 (h.lt k I) e4
 ·intro k I;rw[O k (by omega)];exact h.low k I
 ·intro i hi;by_cases e:i=j
  ·subst e;rw[Ze9];refine⟨?_,?_,?_,?_,?_⟩
   ·have:=Zeq (w':=w3.setCell ⟨WB,1+2*i,none⟩ v') hown fun g D=>by
     rw[hvb] at D;cases D;exact Below.heap_setCell _ _ _ _ hg2W
    simp only[List.length_append,List.length_singleton];exact this
   ·refine Zeq S.ownM fun g D=>?_
    obtain⟨_,cur,J⟩:=Zep S.ownM D;refine unch g (Zh J) (hWt g i (S.inM g D) hi) fun e=>?_
    obtain⟨_,cur',Z⟩:=Zep S.ownL e.symm;exact X7 J Z (tLI i).symm rfl
   ·intro g D;rw[hvb] at D;cases D;exact ht1
   ·intro g D;rw[O g (Zx S.ownM D)];exact S.inM g D
   ·intro e he;rw[Zly _ _ _ hlen] at he;refine (S.ent e he).keep fun g cur _ _ ht hne J=>⟨unch g (Zh J) (hWt g i ht hi) fun e=>?_,?_,hne⟩
    ·obtain⟨_,cur',Z⟩:=Zep S.ownL e.symm;exact X7 J Z (tLE i i).symm rfl
    ·rw[O g (Zh J)];exact ht
  ·rw[Zjg _ _ e];refine (h.she i hi).keep fun k I ht=>⟨unch k I (hWt k i ht hi) fun e'=>?_,?_⟩
   ·have:=S.inL k e'.symm;omega
   ·rw[O k I];exact ht
 ·refine Z9 J.own fun g D=>unch g (Zx J.own D) (hWt g j (J.tg g D).1 hj) fun e=>?_
  obtain⟨cur,hc⟩:=Yy J.own D;obtain⟨_,cur',Z⟩:=Zep S.ownL e.symm;exact X7 hc Z (tLE j j).symm rfl
 ·intro g D;rw[O g (Zx J.own D)];exact J.tg g D
 ·intro g D e he;rw[Zly _ _ _ hlen] at he;exact J.shr g D e he
 ·refine unch k I (fun e=>hF (.inl e)) fun e=>hF (.inr (S.inL k e.symm))
theorem Bk.putM {ls:List Value} (h:Bk w WB v0 tag sh nk) (hj:j<3) (hls:(sh j).ls=ls ++ [vl]) (hlen:ls.length=(sh j).ms.length) (O:Hand w tag j (sh j) vl n m)
  (hown:w3.ownsRow 0 3 1 (.slice (some ⟨g2,0,none⟩) ((sh j).ms.length+1) cap2) ((sh j).ms.length+1) ((sh j).ms.map (.int .i64) ++ [.int .i64 m]))
  (hat:((sh j).vM.ownBlock=some g2/\(w.alloc o).grownBy w3 (some g2))\/(g2=w.heap.size+1/\(w.alloc o).grownBy w3 none)) :
  ∃ tag',Ye w tag tag'/\Bk (w3.setCell ⟨WB,2+2*j,none⟩ (.slice (some ⟨g2,0,none⟩) ((sh j).ms.length+1) cap2)) WB v0 tag' (Zes sh j ⟨(sh j).vL,.slice (some ⟨g2,0,none⟩) ((sh j).ms.length+1) cap2,(sh j).ls,(sh j).ms ++ [m]⟩) nk/\
   Hand (w3.setCell ⟨WB,2+2*j,none⟩ (.slice (some ⟨g2,0,none⟩) ((sh j).ms.length+1) cap2)) tag' j ⟨(sh j).vL,.slice (some ⟨g2,0,none⟩) ((sh j).ms.length+1) cap2,(sh j).ls,(sh j).ms ++ [m]⟩ vl n m/\
   Chg (Zfa WB j tag) w (w3.setCell ⟨WB,2+2*j,none⟩ (.slice (some ⟨g2,0,none⟩) ((sh j).ms.length+1) cap2)):=by
 obtain⟨e1,e2,e3,e4,e5⟩:=Zbm hat;have S:=h.she j hj;have hWB:=h.ltW;obtain⟨cur2,hrow2⟩:=Yy hown (g:=g2) rfl;have hWL:some WB≠(sh j).vM.ownBlock:=fun e=>by have:=S.inM WB e.symm;have:=h.tW;omega
 have hg2W:g2≠WB:=fun e=>by
  subst e;rcases hat with ⟨Y,_⟩|⟨Y,_⟩
  ·exact hWL Y.symm
  ·omega
 have hblk:w3.heap[WB]? =some (.cells (Zer v0 sh nk) 32 (0,0)):=by rw[e5 WB hWB hWL];exact h.blk
 have hnew:∀ k,k<w.heap.size->some k≠(sh j).vM.ownBlock->some k≠some g2:=fun k I hne e=>by
  rcases hat with ⟨Y,_⟩|⟨Y,_⟩
  ·exact hne (by rw[Y];exact e)
  ·cases e;omega
 generalize Y:Value.slice (some ⟨g2,0,none⟩) ((sh j).ms.length+1) cap2=v' at *
 have hvb:v'.ownBlock=some g2:=by rw[<-Y];rfl
 have unch:∀ k,k<w.heap.size->k≠WB->some k≠(sh j).vM.ownBlock->(w3.setCell ⟨WB,2+2*j,none⟩ v').heap[k]? =w.heap[k]? :=fun k I h1 h2=>by
  rw[Below.heap_setCell _ _ _ _ h1];exact e5 k I h2
 obtain⟨tag',ht1,ht2⟩:∃ tag':Nat->Nat,tag' g2=j+1/\∀ k,k≠g2->tag' k=tag k:=⟨fun k=>if k=g2 then j+1 else tag k,if_pos rfl,fun k I=>if_neg I⟩;have aa:Ye w tag tag':=fun k I=>by
  by_cases e:k=g2
  ·subst e;rw[ht1];rcases hat with ⟨Y,_⟩|⟨Y,_⟩
   ·exact (S.inM _ Y).symm
   ·omega
  ·exact ht2 k e
 have hWt:∀ k i,tag k=i+1->i<3->k≠WB:=fun k i I hi e=>by subst e;have:=h.tW;omega
 have hsz:(w3.setCell ⟨WB,2+2*j,none⟩ v').heap.size=w3.heap.size:=by simp
 have hent:Ze8 w tag (j+1) (tEf j) (szf j) (sh j).vM vl m:=by
  rcases O.own.2 with ⟨rfl,rfl⟩|⟨g,cap,cur,rfl,hb,Z,h1,h2,h3,h4⟩
  ·exact⟨none,0,0,rfl,Nat.zero_le _,.inl rfl⟩
  ·refine⟨_,n,cap,rfl,by omega,.inr ⟨g,cur,rfl,(O.tg g rfl).1,(O.tg g rfl).2,Z,fun k I=>?_⟩⟩;have e:(List.replicate (n*szf j) (Value.int .i64 m))[k]? =some (.int .i64 m):=by rw[List.getElem?_replicate,if_pos I]
   rw[<-h4,List.getElem?_take,if_pos I] at e;simpa using e
 have key:∀ v q,Ze8 w tag (j+1) (tEf j) (szf j) (sh j).vM v q->Ze8 (w3.setCell ⟨WB,2+2*j,none⟩ v') tag' (j+1) (tEf j) (szf j) v' v q:=fun v q Y=>Y.keep fun g cur _ _ ht hne Z=>by
  refine⟨unch g (Zh Z) (hWt g j ht hj) hne,?_,by rw[hvb];exact hnew g (Zh Z) hne⟩;rw[aa g (Zh Z)];exact ht
 have hzip:(sh j).ls.zip ((sh j).ms ++ [m])=ls.zip (sh j).ms ++ [(vl,m)]:=by rw[hls,List.zip_append hlen];rfl
 have hzip0:(sh j).ls.zip (sh j).ms=ls.zip (sh j).ms:=by rw[hls,Zly _ _ _ hlen]
 refine⟨tag',aa,⟨?_,?_,?_,?_,?_⟩,⟨?_,?_,?_⟩,⟨e1,e2,e3,by rw[hsz];exact e4,fun k I hF=>?_⟩⟩
 ·rw[heap_setCell_same w3 WB (2+2*j) _ _ _ hblk,Zx2 hj]
 ·rw[aa WB hWB];exact h.tW
 ·intro k I;rw[hsz];by_cases e:k=g2
  ·subst e;exact Zh hrow2
  ·rw[ht2 k e] at I;exact L3 (h.lt k I) e4
 ·intro k I;rw[aa k (by omega)];exact h.low k I
 ·intro i hi;by_cases e:i=j
  ·subst e;rw[Ze9];refine⟨?_,?_,?_,?_,?_⟩
   ·refine Zeq S.ownL fun g D=>?_
    obtain⟨_,cur,Z⟩:=Zep S.ownL D;refine unch g (Zh Z) (hWt g i (S.inL g D) hi) fun e=>?_
    obtain⟨_,cur',hh'⟩:=Zep S.ownM e.symm;exact X7 Z hh' (tLI i) rfl
   ·have:=Zeq (w':=w3.setCell ⟨WB,2+2*i,none⟩ v') hown fun g D=>by
     rw[hvb] at D;cases D;exact Below.heap_setCell _ _ _ _ hg2W
    simp only[List.length_append,List.length_singleton,List.map_append];exact this
   ·intro g D;rw[aa g (Zx S.ownL D)];exact S.inL g D
   ·intro g D;rw[hvb] at D;cases D;exact ht1
   ·intro e J;simp only at J;rw[hzip] at J;rcases List.mem_append.1 J with J|J
    ·exact key _ _ (S.ent e (by rw[hzip0];exact J))
    ·simp at J;subst J;exact key _ _ hent
  ·rw[Zjg _ _ e];refine (h.she i hi).keep fun k I ht=>⟨unch k I (hWt k i ht hi) fun e'=>?_,?_⟩
   ·have:=S.inM k e'.symm;omega
   ·rw[aa k I];exact ht
 ·exact Z9 O.own fun g D=>unch g (Zx O.own D) (hWt g j (O.tg g D).1 hj) (O.tg g D).2
 ·intro g D;rw[aa g (Zx O.own D)];exact⟨(O.tg g D).1,by rw[hvb];exact hnew g (Zx O.own D) (O.tg g D).2⟩
 ·intro g D e J h1 h2;simp only at J;rw[hzip] at J;rcases List.mem_append.1 J with J|J
  ·exact O.shr g D e (by rw[hzip0];exact J) h1 h2
  ·simp at J;subst J;refine⟨rfl,?_⟩;obtain⟨a,c,rfl⟩:=Zn O.own;exact Nat.le_refl _
 ·refine unch k I (fun e=>hF (.inl e)) fun e=>hF (.inr (S.inM k e.symm))
theorem Bk.putE (h:Bk w WB v0 tag sh nk) (hj:j<3) (Y:Hand w tag j (sh j) vl n m)
  (hown:w3.ownsRow 0 (tEf j) (szf j) (.slice (some ⟨g2,0,none⟩) (n+1) cap2) (n+1) (List.replicate (n*szf j) (.int .i64 m) ++ List.replicate (szf j) (.int .i64 m)))
  (hat:(vl.ownBlock=some g2/\(w.alloc o).grownBy w3 (some g2))\/(g2=w.heap.size+1/\(w.alloc o).grownBy w3 none)) :
  ∃ tag',Ye w tag tag'/\Bk w3 WB v0 tag' sh nk/\Hand w3 tag' j (sh j) (.slice (some ⟨g2,0,none⟩) (n+1) cap2) (n+1) m/\Chg (Zfa WB j tag) w w3:=by
 obtain⟨e1,e2,e3,e4,e5⟩:=Zbm hat;have S:=h.she j hj;have hWB:=h.ltW;obtain⟨cur2,hrow2⟩:=Yy hown (g:=g2) rfl;have hg2W:g2≠WB:=fun e=>by
  subst e;rcases hat with ⟨J,_⟩|⟨J,_⟩
  ·have:=(Y.tg _ J).1;have:=h.tW;omega
  ·omega
 obtain⟨tag',ht1,ht2⟩:∃ tag':Nat->Nat,tag' g2=j+1/\∀ k,k≠g2->tag' k=tag k:=⟨fun k=>if k=g2 then j+1 else tag k,if_pos rfl,fun k I=>if_neg I⟩;have aa:Ye w tag tag':=fun k I=>by
  by_cases e:k=g2
  ·subst e;rw[ht1];rcases hat with ⟨J,_⟩|⟨J,_⟩
   ·exact (Y.tg _ J).1.symm
   ·omega
  ·exact ht2 k e
 have hWt:∀ k,tag k≠j+1->some k≠vl.ownBlock:=fun k I e=>I (Y.tg k e.symm).1
 have hnew:∀ k,k<w.heap.size->some k≠vl.ownBlock->some k≠some g2:=fun k I ab e=>by
  rcases hat with ⟨J,_⟩|⟨J,_⟩
  ·exact ab (by rw[J];exact e)
  ·cases e;omega
 have hrep:List.replicate (n*szf j) (Value.int .i64 m) ++ List.replicate (szf j) (.int .i64 m)=List.replicate ((n+1)*szf j) (.int .i64 m):=by
  rw[List.replicate_append_replicate,Nat.add_mul,Nat.one_mul]
 refine⟨tag',aa,⟨?_,?_,?_,?_,?_⟩,⟨?_,?_,?_⟩,⟨e1,e2,e3,e4,fun k I hF=>?_⟩⟩
 ·rw[e5 WB hWB (hWt WB (by rw[h.tW];omega))];exact h.blk
 ·rw[aa WB hWB];exact h.tW
 ·intro k I;by_cases e:k=g2
  ·subst e;exact Zh hrow2
  ·rw[ht2 k e] at I;exact L3 (h.lt k I) e4
 ·intro k I;rw[aa k (by omega)];exact h.low k I
 ·intro i hi;by_cases e:i=j
  ·subst e;refine⟨?_,?_,?_,?_,?_⟩
   ·refine Zeq S.ownL fun g D=>?_
    obtain⟨_,cur,O⟩:=Zep S.ownL D;refine e5 g (Zh O) fun e=>?_
    obtain⟨cur',hh'⟩:=Yy Y.own e.symm;exact X7 O hh' (tLE i i) rfl
   ·exact Zeq S.ownM fun g D=>e5 g (Zx S.ownM D) fun e=>(Y.tg g e.symm).2 D.symm
   ·intro g D;rw[aa g (Zx S.ownL D)];exact S.inL g D
   ·intro g D;rw[aa g (Zx S.ownM D)];exact S.inM g D
   ·intro e he;obtain⟨a,ne,c,J,hmx,hE⟩:=S.ent e he;refine⟨a,ne,c,J,hmx,?_⟩;rcases hE with h0|⟨g,cur,rfl,ht,ab,O,hcs⟩
    ·exact .inl h0
    by_cases h0:ne=0
    ·exact .inl h0
    right;have hl:Zc4 e.1=ne:=by rw[J];rfl
    have hob:e.1.ownBlock=some g:=by rw[J];rfl
    have htg:tag' g=i+1:=by rw[aa g (Zh O)];exact ht
    by_cases D:some g=vl.ownBlock
    ·obtain⟨hm,hle⟩:=Y.shr g D.symm e he hob (by omega);rcases hat with ⟨Z,_⟩|⟨_,hnone⟩
     ·rw[<-D] at Z;have hg2':g=g2:=by simpa using Z
      subst hg2';rw[hrep] at hown;rcases hown.2 with ⟨hn,_⟩|⟨g',cap',cur',hv',hb',hh',h1',h2',h3',h4'⟩
      ·cases hn
      ·cases hv';refine⟨g,cur',rfl,htg,ab,hh',fun k I=>?_⟩;have hk2:k<(n+1)*szf i:=L3 I (Nat.mul_le_mul_right _ (by omega));have e:(List.replicate ((n+1)*szf i) (Value.int .i64 m))[k]? =some (.int .i64 m):=by
        rw[List.getElem?_replicate,if_pos hk2]
       rw[<-h4',List.getElem?_take,if_pos hk2] at e;rw[hm];simpa using e
     ·refine⟨g,cur,rfl,htg,ab,?_,hcs⟩;rw[hnone.block g (by have:=Zh O;simp;omega) (by simp),Below.heap_alloc w o g (Zh O)];exact O
    ·exact⟨g,cur,rfl,htg,ab,by rw[e5 g (Zh O) D];exact O,hcs⟩
  ·refine (h.she i hi).keep fun k I ht=>⟨e5 k I (hWt k (by omega)),?_⟩
   rw[aa k I];exact ht
 ·rw[hrep] at hown;exact hown
 ·intro g D;cases D;refine⟨ht1,fun e=>?_⟩;rcases hat with ⟨Z,_⟩|⟨Z,_⟩
  ·exact (Y.tg _ Z).2 e
  ·have:g2<w.heap.size:=Zx S.ownM e.symm;omega
 ·intro g D e he h1 h2;cases D;rcases hat with ⟨Z,_⟩|⟨Z,_⟩
  ·obtain⟨a,b⟩:=Y.shr _ Z e he h1 h2;exact⟨a,by omega⟩
  ·obtain⟨a,ne,c,J,_,hE⟩:=S.ent e he;rw[J] at h1 h2;rcases hE with rfl|⟨g,cur,rfl,ht,ab,O,hcs⟩
   ·simp[Zc4] at h2
   ·cases h1;have:g2<w.heap.size:=Zh O;omega
 ·exact e5 k I fun e=>hF (.inr (Y.tg k e.symm).1)
theorem Bk.take {xs:List Value}(h:Bk w WB v0 tag sh nk)(Y:j<3)(hv:w.ownsRow 0 (tEf j) (szf j) vl n (List.replicate (n*szf j) (.int .i64 m)))(J:∀ g,vl.ownBlock=some g->tag g=0/\WB<g) :
  ∃ tag',(∀ k,some k≠vl.ownBlock->tag' k=tag k)/\Bk w WB v0 tag' sh nk/\Hand w tag' j (sh j) vl n m:=by
 refine⟨fun k=>if some k=vl.ownBlock then j+1 else tag k,fun k D=>if_neg D,h.move (fun k h0 _=>⟨rfl,if_neg fun e=>h0 (J k e.symm).1⟩) (fun k D=>?_) (fun k D=>?_),⟨hv,fun g I=>⟨if_pos I.symm,fun e=>?_⟩,fun g I e he Z O=>?_⟩⟩
 ·by_cases e:some k=vl.ownBlock
  ·exact Zx hv e.symm
  ·rw[if_neg e] at D;exact h.lt k D
 ·rw[if_neg fun e=>by have:=(J k e.symm).2;omega];exact h.low k D
 ·have:=(h.she j Y).inM g e.symm;have:=(J g I).1;omega
 ·obtain⟨a,ne,c,hv',_,hE⟩:=(h.she j Y).ent e he;rw[hv'] at Z O;rcases hE with rfl|⟨g',cur,rfl,ht,hne,hc,hcs⟩
  ·simp[Zc4] at O
  ·cases Z;have:tag g'=0:=(J g' I).1;omega
theorem Bk.bump (h:Bk w WB v0 tag sh nk):Bk (w.setCell ⟨WB,7,none⟩ (.int .i64 ((nk:Int)+1))) WB v0 tag sh (nk+1)/\Chg (fun k=>k=WB) w (w.setCell ⟨WB,7,none⟩ (.int .i64 ((nk:Int)+1))):=by
 have I:∀ k,k≠WB->(w.setCell ⟨WB,7,none⟩ (.int .i64 ((nk:Int)+1))).heap[k]? =w.heap[k]? :=fun k D=>Below.heap_setCell _ _ _ _ D
 refine⟨⟨?_,h.tW,fun k D=>by simpa using h.lt k D,h.low,fun j J=>(h.she j J).keep fun k D O=>⟨I k fun e=>?_,O⟩⟩,⟨rfl,rfl,rfl,by simp,fun k _ D=>I k D⟩⟩
 ·rw[heap_setCell_same w WB 7 _ _ _ h.blk];rfl
 ·subst e;have:=h.tW;omega
theorem Bk.cells (h:Bk w WB v0 tag sh nk):w.cell? ⟨WB,0,none⟩=some v0/\w.cell? ⟨WB,1,none⟩=some (sh 0).vL/\w.cell? ⟨WB,2,none⟩=some (sh 0).vM/\w.cell? ⟨WB,3,none⟩=some (sh 1).vL/\w.cell? ⟨WB,4,none⟩=some (sh 1).vM/\w.cell? ⟨WB,5,none⟩=some (sh 2).vL/\w.cell? ⟨WB,6,none⟩=some (sh 2).vM/\w.cell? ⟨WB,7,none⟩=some (.int .i64 (nk:Int)):=by
 have e:=h.blk;simp[World.cell?,e,Zer]
theorem Bk.frozen (h:Bk w WB v0 tag sh nk)(j:Nat):w.frozen? ⟨WB,j,none⟩=false:=by
 have e:=h.blk;simp[World.frozen?,e]
theorem Bk.behind {v:Value}(h:Bk w WB v0 tag sh nk)(J:∀ g,v.ownBlock=some g->tag g≠4)(I:(v.ownBlock=some g2/\(w.alloc o).grownBy w3 (some g2))\/(g2=w.heap.size+1/\(w.alloc o).grownBy w3 none)) :
  ∀ j,w3.cell? ⟨WB,j,none⟩=w.cell? ⟨WB,j,none⟩/\w3.frozen? ⟨WB,j,none⟩=false:=by
 have D:=(Zbm I).2.2.2.2 WB h.ltW fun e=>J WB e.symm h.tW
 intro j;refine⟨World.cell?_of_block (a:=⟨WB,j,none⟩) D,?_⟩;rw[World.frozen?_of_block (a:=⟨WB,j,none⟩) D];exact h.frozen j
end
structure Rnd (W1:World)(tag1:Nat->Nat)(WB j:Nat)(v0:Value)(sh1:Nat->Sh)(nk:Nat)(m:Int)(q n:Nat)(vl:Value)(wr:World)(tag:Nat->Nat)(sh:Nat->Sh):Prop where
 bk:Bk wr WB v0 tag sh nk
 hand:Hand wr tag j (sh j) vl n m
 oth:∀ k,k≠j->sh k=sh1 k
 msl:(sh j).ms.length=(sh1 j).ms.length+q
 ag:Ye W1 tag1 tag
 chg:Chg (Zfa WB j tag1) W1 wr
section
variable {W1 wr w3:World} {tag1 tag:Nat->Nat} {WB j nk q n g2 cap2:Nat} {v0 vl:Value} {sh1 sh:Nat->Sh} {m:Int} {o:Obj}
theorem Rnd.start (h:Bk wr WB v0 tag sh nk)(e:Hand wr tag j (sh j) vl n m):Rnd wr tag WB j v0 sh nk m 0 n vl wr tag sh:=⟨h,e,fun _ _=>rfl,rfl,fun _ _=>rfl,Chg.refl _ _⟩
theorem Rnd.L (R:Rnd W1 tag1 WB j v0 sh1 nk m q n vl wr tag sh) (Y:j<3) (aa:(sh j).ls.length=(sh j).ms.length)
  (hown:w3.ownsRow 0 (tLf j) 1 (.slice (some ⟨g2,0,none⟩) ((sh j).ls.length+1) cap2) ((sh j).ls.length+1) ((sh j).ls ++ [vl]))
  (hat:((sh j).vL.ownBlock=some g2/\(wr.alloc o).grownBy w3 (some g2))\/(g2=wr.heap.size+1/\(wr.alloc o).grownBy w3 none)) :
  ∃ tag' e,Rnd W1 tag1 WB j v0 sh1 nk m q n vl (w3.setCell ⟨WB,1+2*j,none⟩ (.slice (some ⟨g2,0,none⟩) ((sh j).ls.length+1) cap2)) tag' e/\(e j).ls=(sh j).ls ++ [vl]/\(e j).ms=(sh j).ms/\(e j).vM=(sh j).vM:=by
 obtain⟨tag',Z,O,J,I⟩:=R.bk.putL Y aa R.hand hown hat;refine⟨tag',_,⟨O,by rw[Ze9];exact J,fun k D=>by rw[Zjg _ _ D];exact R.oth k D,by rw[Ze9];exact R.msl,R.ag.trans Z R.chg.size,Zl0 R.chg R.ag I⟩,?_,?_,?_⟩ <;> rw[Ze9]
theorem Rnd.M {ls:List Value} (R:Rnd W1 tag1 WB j v0 sh1 nk m q n vl wr tag sh) (Z:j<3) (D:(sh j).ls=ls ++ [vl]) (hlen:ls.length=(sh j).ms.length)
  (hown:w3.ownsRow 0 3 1 (.slice (some ⟨g2,0,none⟩) ((sh j).ms.length+1) cap2) ((sh j).ms.length+1) ((sh j).ms.map (.int .i64) ++ [.int .i64 m]))
  (hat:((sh j).vM.ownBlock=some g2/\(wr.alloc o).grownBy w3 (some g2))\/(g2=wr.heap.size+1/\(wr.alloc o).grownBy w3 none)) :
  ∃ tag' e,Rnd W1 tag1 WB j v0 sh1 nk m (q+1) n vl (w3.setCell ⟨WB,2+2*j,none⟩ (.slice (some ⟨g2,0,none⟩) ((sh j).ms.length+1) cap2)) tag' e/\(e j).ls.length=(e j).ms.length:=by
 obtain⟨tag',ha,Y,O,J⟩:=R.bk.putM Z D hlen R.hand hown hat;refine⟨tag',_,⟨Y,by rw[Ze9];exact O,fun k I=>by rw[Zjg _ _ I];exact R.oth k I,?_,R.ag.trans ha R.chg.size,Zl0 R.chg R.ag J⟩,?_⟩ <;> rw[Ze9]
 ·simp only[List.length_append,List.length_singleton];have:=R.msl;omega
 ·simp only[D,List.length_append,List.length_singleton];omega
theorem Rnd.E (R:Rnd W1 tag1 WB j v0 sh1 nk m q n vl wr tag sh) (J:j<3)
  (hown:w3.ownsRow 0 (tEf j) (szf j) (.slice (some ⟨g2,0,none⟩) (n+1) cap2) (n+1) (List.replicate (n*szf j) (.int .i64 m) ++ List.replicate (szf j) (.int .i64 m)))
  (hat:(vl.ownBlock=some g2/\(wr.alloc o).grownBy w3 (some g2))\/(g2=wr.heap.size+1/\(wr.alloc o).grownBy w3 none)) :
  ∃ tag',Rnd W1 tag1 WB j v0 sh1 nk m q (n+1) (.slice (some ⟨g2,0,none⟩) (n+1) cap2) w3 tag' sh:=by
 obtain⟨tag',O,I,D,e⟩:=R.bk.putE J R.hand hown hat;exact⟨tag',⟨I,D,R.oth,R.msl,R.ag.trans O R.chg.size,Zl0 R.chg R.ag e⟩⟩
end
def X8 (j WB:Nat)(v0:Value)(tag:Nat->Nat)(sh:Nat->Sh)(nk:Nat)(v:Value)(w w':World):Prop:=
 ∃ tag' e,Bk w' WB v0 tag' e (nk+1)/\(∀ k,k≠j->e k=sh k)/\(e j).ls.length=(e j).ms.length/\(e j).ls.length=(sh j).ls.length+4/\
  (∀ k,k<w.heap.size->some k≠v.ownBlock->tag' k=tag k)/\Chg (fun k=>k=WB\/tag k=j+1\/some k=v.ownBlock) w w'
theorem Rnd.wrote {w W1 wr:World} {D tag1 tag:Nat->Nat} {WB j nk n:Nat} {v0 v vl:Value} {sh1 sh:Nat->Sh} {m:Int} (R:Rnd W1 tag1 WB j v0 sh1 (nk+1) m 4 n vl wr tag sh) (O:(sh j).ls.length=(sh j).ms.length) (Y:(sh1 j).ls.length=(sh1 j).ms.length)
  (hc:Chg (fun k=>k=WB\/some k=v.ownBlock) w W1) (ht:∀ k,some k≠v.ownBlock->tag1 k=D k):X8 j WB v0 D sh1 nk v w wr:=by
 refine⟨tag,sh,R.bk,R.oth,O,by have:=R.msl;omega,fun k I J=>by rw[R.ag k (L3 I hc.size),ht k J],?_⟩;refine (hc.mono fun k _ h=>h.imp id .inr).trans R.chg fun k _ h=>?_
 by_cases e:some k=v.ownBlock
 ·exact .inr (.inr e)
 ·rcases h with h|h
  ·exact .inl h
  ·rw[ht k e] at h;exact .inr (.inl h)
end Go.Proofs.YtgpapegpdfonpaaGreatDoor
namespace Go.Proofs.YtgpapegpdfonpaaGreatDoor
open Go.RowKit Go.Proofs.Tryz
open Go.Value(int)
open Go.IntKind(i64)
attribute [local go_sem ↓] Go.wp_at_zero Go.wp_at_succ
theorem Bk.forms {w:World}{WB nk:Nat}{v0:Value}{tag:Nat->Nat}{sh:Nat->Sh}(h:Bk w WB v0 tag sh nk)(j:Nat)(Z:j<3) :
  ∃ J I D e,(sh j).vL= .slice J (sh j).ls.length I/\(sh j).vM= .slice D (sh j).ms.length e/\w.ownsRow 0 (tLf j) 1 (.slice J (sh j).ls.length I) (sh j).ls.length (sh j).ls/\w.ownsRow 0 3 1 (.slice D (sh j).ms.length e) (sh j).ms.length ((sh j).ms.map (int i64)):=by
 have S:=h.she j Z;obtain⟨J,I,O⟩:=Zjf S.ownL;obtain⟨D,e,Y⟩:=Zjf S.ownM;exact⟨J,I,D,e,O,Y,O ▸ S.ownL,Y ▸ S.ownM⟩
theorem Bk.fill {w w':World}{WB nk g:Nat}{v0:Value}{tag:Nat->Nat}{sh:Nat->Sh}(h:Bk w WB v0 tag sh nk)(I:tag g=0)(D:w.grownBy w' (some g)):Bk w' WB v0 tag sh nk:=
 h.chg (Chg.of_grown (F:=fun k=>k=g) D fun k e=>by cases e;rfl) fun k e _=>by rw[e];exact .inl I
def Zd4 (W1:World)(tag1:Nat->Nat)(WB j:Nat)(v0:Value)(sh1:Nat->Sh)(nk:Nat)(m:Int)(q e:Nat)(vl:Value)(wr:World):Prop:=
 ∃ n tag sh,Rnd W1 tag1 WB j v0 sh1 nk m q n vl wr tag sh/\(sh j).ls.length=(sh j).ms.length/\n=e+q
theorem Zzb (WB nk n:Nat) (v0 v:Value) (tag:Nat->Nat) (sh:Nat->Sh) (xs:List Value) (w:World) (h:Bk w WB v0 tag sh nk) (hlen:(sh 0).ls.length=(sh 0).ms.length) (hl:(sh 0).ls.length<=3703618117000) (hk:nk<=1851809059000)
  (J:w.ownsRow 0 3 1 v n xs) (hn:n<=5000000000000) (hf:∀ g,v.ownBlock=some g->tag g=0/\WB<g) :
  Calls prog 46 #[.pointer (some ⟨WB,1,none⟩),v] w fun e w'=>e= .returned (.tuple #[])/\X8 0 WB v0 tag sh nk v w w':=by
 have b7:=h.cells.2.2.2.2.2.2.2;have f7:=h.frozen 7;have x0:IntKind.i64.wrap ((nk:Int)+1)=(nk:Int)+1:=Zd (by omega) (by omega);have x1:IntKind.i64.wrap (-1000-((nk:Int)+1))= -1000-((nk:Int)+1):=Zd (by omega) (by omega);obtain⟨hB1,hC1⟩:=h.bump;have hWb:∀ g,v.ownBlock=some g->g≠WB:=fun g Z e=>by have:=(hf g Z).2;omega
 have hv1:(w.setCell ⟨WB,7,none⟩ (int i64 ((nk:Int)+1))).ownsRow 0 3 1 v n xs:=Z9 J fun g Z=>hC1.far g (Zx J Z) (hWb g Z)
 have hC:Chg (fun k=>k=WB\/some k=v.ownBlock) w (w.setCell ⟨WB,7,none⟩ (int i64 ((nk:Int)+1))):=hC1.mono fun k _ e=>.inl e
 obtain⟨Y,O,rfl⟩:=Zn J;have hxs:xs.length=n:=by have:=J.1;omega
 have HF:Hid (∀ g,(Value.slice Y n O).ownBlock=some g->tag g=0/\WB<g):=hf;have HLEN:Hid ((sh 0).ls.length=(sh 0).ms.length/\(sh 0).ls.length<=3703618117000):=⟨hlen,hl⟩;obtain⟨iI,hiI,hzI,hsI,hbI⟩:=info_parts Zx0;obtain⟨i0,hi0,hz0,hs0,hb0⟩:=info_parts Zbi;clear h J hC1 hWb hf hlen hl;go_enter func46,ntmps46;go_wp2
 generalize hW:w.setCell ⟨WB,7,none⟩ (int i64 ((nk:Int)+1))=W at *
 clear hW b7 f7 x0 x1;generalize -1000-((nk:Int)+1)=m at *
 go_loopw [5] (fun i wr=>∃ k:Nat,k<=n/\i=int i64 k/\Bk wr WB v0 tag sh (nk+1)/\wr.ownsRow 0 3 1 (.slice Y n O) n (List.replicate k (int i64 m) ++ xs.drop k)/\Chg (fun k=>k=WB\/some k=(Value.slice Y n O).ownBlock) w wr) (fun i _=>n-(intOf i).toNat)
 case atStart=>exact⟨0,by omega,rfl,hB1,by simpa using hv1,hC⟩
 case round=>
  clear hB1 hC hv1;obtain⟨k,hkn,rfl,hB,J,hC⟩:=hrel;by_cases hlt:k<n
  ·obtain⟨g,rfl,Z,c0⟩:=Zlz J k hlt;have f0:=J.frozenAt k;obtain⟨hv',hgr⟩:=J.stored k (int i64 m);have hB':=hB.fill (HF.out g rfl).1 hgr;rw[Zgb (by omega)] at hv';have HB:Hid (Bk (wr.setCell ⟨g,k,none⟩ (int i64 m)) WB v0 tag sh (nk+1)):=hB';have HV:Hid ((wr.setCell ⟨g,k,none⟩ (int i64 m)).ownsRow 0 3 1 (.slice (some ⟨g,0,none⟩) n O) n (List.replicate (k+1) (int i64 m) ++ xs.drop (k+1))):=hv';have HK:Hid (Chg (fun k=>k=WB\/some k=(Value.slice (some ⟨g,0,none⟩) n O).ownBlock) w (wr.setCell ⟨g,k,none⟩ (int i64 m))):=hC.trans (Chg.of_grown (F:=fun k=>k=g) hgr fun k hk=>by cases hk;rfl) fun k _ e=>.inr (by rw[e];rfl)
   have c1:∃ u,wr.cell? ⟨g,k,none⟩=some u:=by
    rw[c0];have:k<(List.replicate k (Value.int .i64 m) ++ xs.drop k).length:=by simp;omega
    exact⟨_,List.getElem?_eq_getElem this⟩
   obtain⟨u,c1⟩:=c1;have y0:(0:Int)<=(k:Int):=by omega
   have y1:(k:Int)<(n:Int):=by omega
   have y4:IntKind.i64.wrap ((k:Int)+1)=(k:Int)+1:=Zd (by omega) (by omega);clear hB J hC hB' hv' hgr c0;go_wp2
   go_roundw;case rel=>exact⟨k+1,by omega,by go_num,HB.out,HV.out,HK.out⟩
   case measure=>simp[intOf];omega
  ·have ek:k=n:=by omega
   subst ek;have hv2:wr.ownsRow 0 (tEf 0) (szf 0) (.slice Y k O) k (List.replicate (k*szf 0) (int i64 m)):=by
    rw[List.drop_eq_nil_of_le (by omega),List.append_nil] at J;show wr.ownsRow 0 3 1 (.slice Y k O) k (List.replicate (k*1) (int i64 m))
    rw[Nat.mul_one];exact J
   obtain⟨tag1,ht1,hB1,hH1⟩:=hB.take (xs:=[]) (j:=0) (by decide) hv2 HF.out;have HT1:Hid (∀ k',some k'≠(Value.slice Y k O).ownBlock->tag1 k'=tag k'):=ht1;have HC1:Hid (Chg (fun k'=>k'=WB\/some k'=(Value.slice Y k O).ownBlock) w wr):=hC;have HR1:Hid (Zd4 wr tag1 WB 0 v0 sh (nk+1) m 0 k (.slice Y k O) wr):=⟨k,tag1,sh,Rnd.start hB1 hH1,HLEN.out.1,rfl⟩;clear J hv2 hB hC ht1 hB1 hH1 HF;go_wp2
   generalize wr=W1 at *
   go_loopw [1,6] (fun vl i wr=>∃ q:Nat,q<=4/\i=int i64 q/\Zd4 W1 tag1 WB 0 v0 sh (nk+1) m q k vl wr) (fun _ i _=>4-(intOf i).toNat)
   case atStart=>exact⟨0,by omega,rfl,HR1.out⟩
   case round=>
    clear HR1;obtain⟨q,hq,rfl,I,tag2,D,R,hlen2,hn2⟩:=hrel;have hmsl:=R.msl;have HL2:Hid ((D 0).ls.length=(D 0).ms.length):=hlen2;have hb8:(D 0).ls.length+1<=3703618118000:=by have:=HLEN.out;omega
    have hm8:(D 0).ms.length+1<=3703618118000:=by omega
    have hn8:I+1<=5000000000010:=by omega
    clear hlen2 hmsl;by_cases hq4:q<4
    ·obtain⟨ia,ic,ma,mc,eI,eM,oI,oM⟩:=R.bk.forms 0 (by decide);obtain⟨la,lc,rfl⟩:=Zn R.hand.own;obtain⟨_,b1,b2,_⟩:=R.bk.cells;rw[eI] at b1;rw[eM] at b2;have HI:Hid ((D 0).vL= .slice ia (D 0).ls.length ic):=eI;have HM:Hid ((D 0).vM= .slice ma (D 0).ms.length mc):=eM;have HR:Hid (Rnd W1 tag1 WB 0 v0 sh (nk+1) m q I (.slice la I lc) wr tag2 D):=R;have hWB:=R.bk.ltW;have y4:IntKind.i64.wrap ((q:Int)+1)=(q:Int)+1:=Zd (by omega) (by omega);have y5:(q:Int)<4:=by omega
     have HO:Hid (wr.ownsRow 0 26 1 (.slice ia (D 0).ls.length ic) (D 0).ls.length (D 0).ls):=oI;have HN:Hid (I=k+q):=hn2;clear eI eM oI oM R hn2;go_wp2_with (at_builtin;refine Xv _ (by rfl) (.tmp 38) (.tmp 40) 25 (by rfl) 0 26 iI (.slice none 0 0) 1 24 underlying25 hiI hzI hsI hbI rfl (by decide) _ _ _ (by rfl) (Zbv HO.out (Zb _ _)) ⟨wr.heap.size,0,none⟩ 1 1 [.slice la I lc] (by rfl) rfl ?c1 ?c2 (by decide) ?c3 ?c4 ?c5 (wr.heap.size+1) ?c6 ?_)
     case c1=>exact cell_one_new _ _ _
     case c2=>intro u hu;simp at hu;subst hu;rfl
     case c3=>unfold maxLen;omega
     case c4=>omega
     case c5=>exact Nat.zero_le _
     case c6=>simp
     ·intro g2 cap2 w3 hown3 hat3 hlt3;have hbh:=HR.out.bk.behind (v:=.slice ia (D 0).ls.length ic) (fun g Z=>by have:=(HR.out.bk.she 0 (by decide)).inL g (by rw[HI.out];exact Z);omega) hat3;have d1:=(hbh 1).1.trans b1;have d2:=(hbh 2).1.trans b2;have f1:=(hbh 1).2;obtain⟨tag4,sh4,R4,hls4,hms4,hvM4⟩:=HR.out.L (by decide) HL2.out hown3 (by rw[HI.out];exact hat3);simp only[Nat.mul_zero,Nat.add_zero] at R4;have hsz:(w3.setCell ⟨WB,1,none⟩ (.slice (some ⟨g2,0,none⟩) ((D 0).ls.length+1) cap2)).heap.size=w3.heap.size:=by simp
      have o4:=(R4.bk.she 0 (by decide)).ownM;rw[hvM4,hms4,HM.out] at o4;have HO4:Hid ((w3.setCell ⟨WB,1,none⟩ (.slice (some ⟨g2,0,none⟩) ((D 0).ls.length+1) cap2)).ownsRow 0 3 1 (.slice ma (D 0).ms.length mc) (D 0).ms.length ((D 0).ms.map (int i64))):=o4;have HR4:Hid (Rnd W1 tag1 WB 0 v0 sh (nk+1) m q I (.slice la I lc) (w3.setCell ⟨WB,1,none⟩ (.slice (some ⟨g2,0,none⟩) ((D 0).ls.length+1) cap2)) tag4 sh4):=R4;have HE4:Hid ((sh4 0).ls=(D 0).ls ++ [.slice la I lc]/\(sh4 0).ms=(D 0).ms/\(sh4 0).vM=(D 0).vM):=⟨hls4,hms4,hvM4⟩;have hWB3:WB<w3.heap.size:=by have:=R4.bk.ltW;omega
      have hn1:=cell_one_new (w3.setCell ⟨WB,1,none⟩ (.slice (some ⟨g2,0,none⟩) ((D 0).ls.length+1) cap2)) (int i64 m) 3;rw[hsz] at hn1;have HSZ:Hid ((w3.setCell ⟨WB,1,none⟩ (.slice (some ⟨g2,0,none⟩) ((D 0).ls.length+1) cap2)).heap.size=w3.heap.size):=hsz;have HN1:Hid (∀ j u,[Value.int .i64 m][j]? =some u->((w3.setCell ⟨WB,1,none⟩ (.slice (some ⟨g2,0,none⟩) ((D 0).ls.length+1) cap2)).alloc (.cells #[int i64 m] 3)).cell? ((⟨w3.heap.size,0,none⟩:Addr).add j)=some u):=hn1;clear hbh R4 hls4 hms4 hvM4 o4 hown3 hat3 b1 b2 HR HO hn1 hsz;go_wp2_with (at_builtin;refine Xv _ (by rfl) (.tmp 48) (.tmp 50) 26 (by rfl) 0 3 i0 (int i64 0) 1 8 underlying26 hi0 hz0 hs0 hb0 rfl (by decide) _ _ _ (by rfl) (Zbv HO4.out (Zb _ _)) ⟨w3.heap.size,0,none⟩ 1 1 [int i64 m] (by rfl) rfl HN1.out ?c2 (by decide) ?c3 ?c4 ?c5 (w3.heap.size+1) ?c6 ?_)
      case c2=>intro u hu;simp at hu;subst hu;rfl
      case c3=>unfold maxLen;omega
      case c4=>omega
      case c5=>exact Nat.zero_le _
      case c6=>simp
      ·intro g3 cap3 w5 hown5 hat5 hlt5;rw[<-HSZ.out] at hat5;have hbh:=HR4.out.bk.behind (v:=.slice ma (D 0).ms.length mc) (fun g Z=>by have:=(HR4.out.bk.she 0 (by decide)).inM g (by rw[HE4.out.2.2,HM.out];exact Z);omega) hat5;have f2:=(hbh 2).2;have d2':w5.cell? ⟨WB,2,none⟩=some (.slice ma (D 0).ms.length mc):=by
        rw[(hbh 2).1,HR4.out.bk.cells.2.2.1,HE4.out.2.2,HM.out]
       obtain⟨e4a,e4b,e4c⟩:=HE4.out;obtain⟨tag6,sh6,R6,hlen6⟩:=HR4.out.M (w3:=w5) (g2:=g3) (cap2:=cap3) (by decide) e4a (by rw[e4b];exact HL2.out) (by rw[e4b];exact hown5) (by rw[e4c,HM.out];exact hat5);rw[e4b] at R6;simp only[Nat.mul_zero,Nat.add_zero] at R6;have hsz6:(w5.setCell ⟨WB,2,none⟩ (.slice (some ⟨g3,0,none⟩) ((D 0).ms.length+1) cap3)).heap.size=w5.heap.size:=by simp
       have hn6:=cell_one_new (w5.setCell ⟨WB,2,none⟩ (.slice (some ⟨g3,0,none⟩) ((D 0).ms.length+1) cap3)) (int i64 m) 3;rw[hsz6] at hn6;have hWB5:WB<w5.heap.size:=by have:=R6.bk.ltW;omega
       have o6:=R6.hand.own;have HO6:Hid ((w5.setCell ⟨WB,2,none⟩ (.slice (some ⟨g3,0,none⟩) ((D 0).ms.length+1) cap3)).ownsRow 0 3 1 (.slice la I lc) I (List.replicate (I*szf 0) (int i64 m))):=o6;have HR6:Hid (Rnd W1 tag1 WB 0 v0 sh (nk+1) m (q+1) I (.slice la I lc) (w5.setCell ⟨WB,2,none⟩ (.slice (some ⟨g3,0,none⟩) ((D 0).ms.length+1) cap3)) tag6 sh6):=R6;have HLEN6:Hid ((sh6 0).ls.length=(sh6 0).ms.length):=hlen6;have HSZ6:Hid ((w5.setCell ⟨WB,2,none⟩ (.slice (some ⟨g3,0,none⟩) ((D 0).ms.length+1) cap3)).heap.size=w5.heap.size):=hsz6;have HN6:Hid (∀ j u,[Value.int .i64 m][j]? =some u->((w5.setCell ⟨WB,2,none⟩ (.slice (some ⟨g3,0,none⟩) ((D 0).ms.length+1) cap3)).alloc (.cells #[int i64 m] 3)).cell? ((⟨w5.heap.size,0,none⟩:Addr).add j)=some u):=hn6;clear hbh R6 hlen6 e4a e4b e4c hown5 hat5 HR4 HO4 HE4 hn6 hsz6 o6 d1 d2 f1 HSZ HN1;go_wp2_with (at_builtin;refine Xv _ (by rfl) (.tmp 54) (.tmp 56) 26 (by rfl) 0 3 i0 (int i64 0) 1 8 underlying26 hi0 hz0 hs0 hb0 rfl (by decide) _ _ _ (by rfl) (Zbv HO6.out (Zb _ _)) ⟨w5.heap.size,0,none⟩ 1 1 [int i64 m] (by rfl) rfl HN6.out ?c2 (by decide) ?c3 ?c4 ?c5 (w5.heap.size+1) ?c6 ?_)
       case c2=>intro u hu;simp at hu;subst hu;rfl
       case c3=>unfold maxLen;omega
       case c4=>omega
       case c5=>exact Nat.zero_le _
       case c6=>simp
       ·intro g4 cap4 w7 hown7 hat7 hlt7;rw[<-HSZ6.out] at hat7;obtain⟨tag8,R8⟩:=HR6.out.E (w3:=w7) (g2:=g4) (cap2:=cap4) (by decide) hown7 hat7;have HR8:Hid (Zd4 W1 tag1 WB 0 v0 sh (nk+1) m (q+1) k (.slice (some ⟨g4,0,none⟩) (I+1) cap4) w7):=⟨I+1,tag8,sh6,R8,HLEN6.out,by have:=HN.out;omega⟩;clear HR6 HO6 R8 hown7 hat7 d2' f2 HN6 HSZ6;go_wp2
        go_roundw;case rel=>exact⟨q+1,by omega,by go_num,HR8.out⟩
        case measure=>simp[intOf];omega
    ·have:q=4:=by omega
     subst this;have HR:Hid (X8 0 WB v0 tag sh nk (.slice Y k O) w wr):=R.wrote HL2.out HLEN.out.1 HC1.out HT1.out;clear R;go_wp2
     go_end0
     exact⟨rfl,HR.out⟩
theorem Zzc:(prog.info? 42).map (fun i=>(i.zero,i.size,i.bytes))=some (some (.slice none 0 0),1,24):=by kernel_rfl
theorem Zhq:(prog.info? 53).map (fun i=>(i.zero,i.size,i.bytes))=some (some (.agg #[int i64 0,int i64 0,int i64 0]),3,24):=by kernel_rfl
theorem Zzd (w:World)(v:Value)(t:TypeId):∀ j u,[v,v,v][j]? =some u->(w.alloc (.cells #[v,v,v] t)).cell? ((⟨w.heap.size,0,none⟩:Addr).add j)=some u:=by
 intro j u I;have D:(⟨w.heap.size,0,none⟩:Addr).add j=⟨w.heap.size,j,none⟩:=by unfold Addr.add;split <;> simp_all
 rw[D];have e:=heap_alloc_new w (.cells #[v,v,v] t);simp only[World.cell?,e];simpa using I
theorem Zmc {a b c:World}{g:Nat}(h:a.grownBy b (some g))(k:b.grownBy c (some g)):a.grownBy c (some g):=
 ⟨k.os.trans h.os,k.tape.trans h.tape,k.output.trans h.output,Nat.le_trans h.size k.size,fun i hi e=>(k.block i (L3 hi h.size) e).trans (h.block i hi e)⟩
theorem Zjr (WB nk n:Nat) (v0 v:Value) (tag:Nat->Nat) (sh:Nat->Sh) (xs:List Value) (w:World) (h:Bk w WB v0 tag sh nk) (hlen:(sh 1).ls.length=(sh 1).ms.length) (hl:(sh 1).ls.length<=3703618117000) (hk:nk<=1851809059000)
  (I:w.ownsRow 0 53 3 v n xs) (hn:n<=5000000000000) (hf:∀ g,v.ownBlock=some g->tag g=0/\WB<g) :
  Calls prog 50 #[.pointer (some ⟨WB,1,none⟩),v] w fun e w'=>e= .returned (.tuple #[])/\X8 1 WB v0 tag sh nk v w w':=by
 have b7:=h.cells.2.2.2.2.2.2.2;have f7:=h.frozen 7;have x0:IntKind.i64.wrap ((nk:Int)+1)=(nk:Int)+1:=Zd (by omega) (by omega);have x1:IntKind.i64.wrap (-1000-((nk:Int)+1))= -1000-((nk:Int)+1):=Zd (by omega) (by omega);obtain⟨hB1,hC1⟩:=h.bump;have hWb:∀ g,v.ownBlock=some g->g≠WB:=fun g Y e=>by have:=(hf g Y).2;omega
 have hv1:(w.setCell ⟨WB,7,none⟩ (int i64 ((nk:Int)+1))).ownsRow 0 53 3 v n xs:=Z9 I fun g Y=>hC1.far g (Zx I Y) (hWb g Y)
 have hC:Chg (fun k=>k=WB\/some k=v.ownBlock) w (w.setCell ⟨WB,7,none⟩ (int i64 ((nk:Int)+1))):=hC1.mono fun k _ e=>.inl e
 obtain⟨va,O,rfl⟩:=Zn I;have hxs:xs.length=n*3:=I.1;have HF:Hid (∀ g,(Value.slice va n O).ownBlock=some g->tag g=0/\WB<g):=hf;have HLEN:Hid ((sh 1).ls.length=(sh 1).ms.length/\(sh 1).ls.length<=3703618117000):=⟨hlen,hl⟩;obtain⟨iI,hiI,hzI,hsI,hbI⟩:=info_parts Zzc;obtain⟨i0,hi0,hz0,hs0,hb0⟩:=info_parts Zbi;obtain⟨iE,hiE,hzE,hsE,hbE⟩:=info_parts Zhq;clear h I hC1 hWb hf hlen hl;go_enter func50,ntmps50;go_wp2
 generalize hW:w.setCell ⟨WB,7,none⟩ (int i64 ((nk:Int)+1))=W at *
 clear hW b7 f7 x0 x1;generalize -1000-((nk:Int)+1)=m at *
 go_loopw [5] (fun i wr=>∃ k:Nat,k<=n/\i=int i64 k/\Bk wr WB v0 tag sh (nk+1)/\wr.ownsRow 0 53 3 (.slice va n O) n (List.replicate (k*3) (int i64 m) ++ xs.drop (k*3))/\Chg (fun k=>k=WB\/some k=(Value.slice va n O).ownBlock) w wr) (fun i _=>n-(intOf i).toNat)
 case atStart=>exact⟨0,by omega,rfl,hB1,by simpa using hv1,hC⟩
 case round=>
  clear hB1 hC hv1;obtain⟨k,hkn,rfl,hB,I,hC⟩:=hrel;by_cases hlt:k<n
  ·obtain⟨g,rfl,Y,c0⟩:=Zcw I (by omega);have f0:=I.frozenAt (k*3);have f1:=I.frozenAt (k*3+1);have f2:=I.frozenAt (k*3+2);obtain⟨hv1,hgr1⟩:=I.stored (k*3) (int i64 m);rw[Zgb (by omega)] at hv1;obtain⟨hv2,hgr2⟩:=hv1.stored (k*3+1) (int i64 m);rw[Zgb (by omega)] at hv2;obtain⟨hv3,hgr3⟩:=hv2.stored (k*3+2) (int i64 m);rw[Zgb (by omega)] at hv3;have hgr:=(Zmc (Zmc hgr1 hgr2) hgr3);have hB':=hB.fill (HF.out g rfl).1 hgr;have HB:Hid (Bk (((wr.setCell ⟨g,k*3,none⟩ (int i64 m)).setCell ⟨g,k*3+1,none⟩ (int i64 m)).setCell ⟨g,k*3+2,none⟩ (int i64 m)) WB v0 tag sh (nk+1)):=hB';have HV:Hid ((((wr.setCell ⟨g,k*3,none⟩ (int i64 m)).setCell ⟨g,k*3+1,none⟩ (int i64 m)).setCell ⟨g,k*3+2,none⟩ (int i64 m)).ownsRow 0 53 3 (.slice (some ⟨g,0,none⟩) n O) n (List.replicate ((k+1)*3) (int i64 m) ++ xs.drop ((k+1)*3))):=by
    have e:(k+1)*3=k*3+3:=by omega
    rw[e];exact hv3
   have HK:Hid (Chg (fun k=>k=WB\/some k=(Value.slice (some ⟨g,0,none⟩) n O).ownBlock) w (((wr.setCell ⟨g,k*3,none⟩ (int i64 m)).setCell ⟨g,k*3+1,none⟩ (int i64 m)).setCell ⟨g,k*3+2,none⟩ (int i64 m))):=hC.trans (Chg.of_grown (F:=fun k=>k=g) hgr fun k hk=>by cases hk;rfl) fun k _ e=>.inr (by rw[e];rfl)
   have hex:∀ i,i<3->∃ u,wr.cell? ⟨g,k*3+i,none⟩=some u:=fun i hi=>by
    rw[c0 _ (by omega)];have:k*3+i<(List.replicate (k*3) (Value.int .i64 m) ++ xs.drop (k*3)).length:=by simp;omega
    exact⟨_,List.getElem?_eq_getElem this⟩
   obtain⟨u0,c10⟩:=hex 0 (by omega);obtain⟨u1,c11⟩:=hex 1 (by omega);obtain⟨u2,c12⟩:=hex 2 (by omega);simp only[Nat.add_zero] at c10;have y0:(0:Int)<=(k:Int):=by omega
   have y1:(k:Int)<(n:Int):=by omega
   have y4:IntKind.i64.wrap ((k:Int)+1)=(k:Int)+1:=Zd (by omega) (by omega);clear hB I hC hB' hgr c0 hex hv1 hgr1 hv2 hgr2 hv3 hgr3;go_wp2
   go_roundw;case rel=>exact⟨k+1,by omega,by go_num,HB.out,HV.out,HK.out⟩
   case measure=>simp[intOf];omega
  ·have ek:k=n:=by omega
   subst ek;have hv2:wr.ownsRow 0 (tEf 1) (szf 1) (.slice va k O) k (List.replicate (k*szf 1) (int i64 m)):=by
    rw[List.drop_eq_nil_of_le (by omega),List.append_nil] at I;exact I
   obtain⟨tag1,ht1,hB1,hH1⟩:=hB.take (xs:=[]) (j:=1) (by decide) hv2 HF.out;have HT1:Hid (∀ k',some k'≠(Value.slice va k O).ownBlock->tag1 k'=tag k'):=ht1;have HC1:Hid (Chg (fun k'=>k'=WB\/some k'=(Value.slice va k O).ownBlock) w wr):=hC;have HR1:Hid (Zd4 wr tag1 WB 1 v0 sh (nk+1) m 0 k (.slice va k O) wr):=⟨k,tag1,sh,Rnd.start hB1 hH1,HLEN.out.1,rfl⟩;clear I hv2 hB hC ht1 hB1 hH1 HF;go_wp2
   generalize wr=W1 at *
   go_loopw [1,6] (fun vl i wr=>∃ q:Nat,q<=4/\i=int i64 q/\Zd4 W1 tag1 WB 1 v0 sh (nk+1) m q k vl wr) (fun _ i _=>4-(intOf i).toNat)
   case atStart=>exact⟨0,by omega,rfl,HR1.out⟩
   case round=>
    clear HR1;obtain⟨q,hq,rfl,J,tag2,D,R,hlen2,hn2⟩:=hrel;have hmsl:=R.msl;have HL2:Hid ((D 1).ls.length=(D 1).ms.length):=hlen2;have hb8:(D 1).ls.length+1<=3703618118000:=by have:=HLEN.out;omega
    have hm8:(D 1).ms.length+1<=3703618118000:=by omega
    have hn8:J+1<=5000000000010:=by omega
    clear hlen2 hmsl;by_cases hq4:q<4
    ·obtain⟨ia,ic,ma,mc,eI,eM,oI,oM⟩:=R.bk.forms 1 (by decide);obtain⟨la,lc,rfl⟩:=Zn R.hand.own;obtain⟨_,_,_,b1,b2,_⟩:=R.bk.cells;rw[eI] at b1;rw[eM] at b2;have HI:Hid ((D 1).vL= .slice ia (D 1).ls.length ic):=eI;have HM:Hid ((D 1).vM= .slice ma (D 1).ms.length mc):=eM;have HR:Hid (Rnd W1 tag1 WB 1 v0 sh (nk+1) m q J (.slice la J lc) wr tag2 D):=R;have hWB:=R.bk.ltW;have y4:IntKind.i64.wrap ((q:Int)+1)=(q:Int)+1:=Zd (by omega) (by omega);have y5:(q:Int)<4:=by omega
     have HO:Hid (wr.ownsRow 0 42 1 (.slice ia (D 1).ls.length ic) (D 1).ls.length (D 1).ls):=oI;have HN:Hid (J=k+q):=hn2;clear eI eM oI oM R hn2;go_wp2_with (at_builtin;refine Xv _ (by rfl) (.tmp 41) (.tmp 43) 27 (by rfl) 0 42 iI (.slice none 0 0) 1 24 underlying27 hiI hzI hsI hbI rfl (by decide) _ _ _ (by rfl) (Zbv HO.out (Zb _ _)) ⟨wr.heap.size,0,none⟩ 1 1 [.slice la J lc] (by rfl) rfl ?c1 ?c2 (by decide) ?c3 ?c4 ?c5 (wr.heap.size+1) ?c6 ?_)
     case c1=>exact cell_one_new _ _ _
     case c2=>intro u Z;simp at Z;subst Z;rfl
     case c3=>unfold maxLen;omega
     case c4=>omega
     case c5=>exact Nat.zero_le _
     case c6=>simp
     ·intro g2 cap2 w3 hown3 hat3 hlt3;have hbh:=HR.out.bk.behind (v:=.slice ia (D 1).ls.length ic) (fun g Y=>by have:=(HR.out.bk.she 1 (by decide)).inL g (by rw[HI.out];exact Y);omega) hat3;have d1:=(hbh 3).1.trans b1;have d2:=(hbh 4).1.trans b2;have f1:=(hbh 3).2;obtain⟨tag4,sh4,R4,hls4,hms4,hvM4⟩:=HR.out.L (by decide) HL2.out hown3 (by rw[HI.out];exact hat3);simp only[Nat.reduceMul,Nat.reduceAdd] at R4;have hsz:(w3.setCell ⟨WB,3,none⟩ (.slice (some ⟨g2,0,none⟩) ((D 1).ls.length+1) cap2)).heap.size=w3.heap.size:=by simp
      have o4:=(R4.bk.she 1 (by decide)).ownM;rw[hvM4,hms4,HM.out] at o4;have HO4:Hid ((w3.setCell ⟨WB,3,none⟩ (.slice (some ⟨g2,0,none⟩) ((D 1).ls.length+1) cap2)).ownsRow 0 3 1 (.slice ma (D 1).ms.length mc) (D 1).ms.length ((D 1).ms.map (int i64))):=o4;have HR4:Hid (Rnd W1 tag1 WB 1 v0 sh (nk+1) m q J (.slice la J lc) (w3.setCell ⟨WB,3,none⟩ (.slice (some ⟨g2,0,none⟩) ((D 1).ls.length+1) cap2)) tag4 sh4):=R4;have HE4:Hid ((sh4 1).ls=(D 1).ls ++ [.slice la J lc]/\(sh4 1).ms=(D 1).ms/\(sh4 1).vM=(D 1).vM):=⟨hls4,hms4,hvM4⟩;have hWB3:WB<w3.heap.size:=by have:=R4.bk.ltW;omega
      have hn1:=cell_one_new (w3.setCell ⟨WB,3,none⟩ (.slice (some ⟨g2,0,none⟩) ((D 1).ls.length+1) cap2)) (int i64 m) 3;rw[hsz] at hn1;have HSZ:Hid ((w3.setCell ⟨WB,3,none⟩ (.slice (some ⟨g2,0,none⟩) ((D 1).ls.length+1) cap2)).heap.size=w3.heap.size):=hsz;have HN1:Hid (∀ j u,[Value.int .i64 m][j]? =some u->((w3.setCell ⟨WB,3,none⟩ (.slice (some ⟨g2,0,none⟩) ((D 1).ls.length+1) cap2)).alloc (.cells #[int i64 m] 3)).cell? ((⟨w3.heap.size,0,none⟩:Addr).add j)=some u):=hn1;clear hbh R4 hls4 hms4 hvM4 o4 hown3 hat3 b1 b2 HR HO hn1 hsz;go_wp2_with (at_builtin;refine Xv _ (by rfl) (.tmp 51) (.tmp 53) 26 (by rfl) 0 3 i0 (int i64 0) 1 8 underlying26 hi0 hz0 hs0 hb0 rfl (by decide) _ _ _ (by rfl) (Zbv HO4.out (Zb _ _)) ⟨w3.heap.size,0,none⟩ 1 1 [int i64 m] (by rfl) rfl HN1.out ?c2 (by decide) ?c3 ?c4 ?c5 (w3.heap.size+1) ?c6 ?_)
      case c2=>intro u Z;simp at Z;subst Z;rfl
      case c3=>unfold maxLen;omega
      case c4=>omega
      case c5=>exact Nat.zero_le _
      case c6=>simp
      ·intro g3 cap3 w5 hown5 hat5 hlt5;rw[<-HSZ.out] at hat5;have hbh:=HR4.out.bk.behind (v:=.slice ma (D 1).ms.length mc) (fun g Y=>by have:=(HR4.out.bk.she 1 (by decide)).inM g (by rw[HE4.out.2.2,HM.out];exact Y);omega) hat5;have f2:=(hbh 4).2;have d2':w5.cell? ⟨WB,4,none⟩=some (.slice ma (D 1).ms.length mc):=by
        rw[(hbh 4).1,HR4.out.bk.cells.2.2.2.2.1,HE4.out.2.2,HM.out]
       obtain⟨e4a,e4b,e4c⟩:=HE4.out;obtain⟨tag6,sh6,R6,hlen6⟩:=HR4.out.M (w3:=w5) (g2:=g3) (cap2:=cap3) (by decide) e4a (by rw[e4b];exact HL2.out) (by rw[e4b];exact hown5) (by rw[e4c,HM.out];exact hat5);rw[e4b] at R6;simp only[Nat.reduceMul,Nat.reduceAdd] at R6;have hsz6:(w5.setCell ⟨WB,4,none⟩ (.slice (some ⟨g3,0,none⟩) ((D 1).ms.length+1) cap3)).heap.size=w5.heap.size:=by simp
       have hn6:=Zzd (w5.setCell ⟨WB,4,none⟩ (.slice (some ⟨g3,0,none⟩) ((D 1).ms.length+1) cap3)) (int i64 m) 53;rw[hsz6] at hn6;have hWB5:WB<w5.heap.size:=by have:=R6.bk.ltW;omega
       have o6:=R6.hand.own;have HO6:Hid ((w5.setCell ⟨WB,4,none⟩ (.slice (some ⟨g3,0,none⟩) ((D 1).ms.length+1) cap3)).ownsRow 0 53 3 (.slice la J lc) J (List.replicate (J*szf 1) (int i64 m))):=o6;have HR6:Hid (Rnd W1 tag1 WB 1 v0 sh (nk+1) m (q+1) J (.slice la J lc) (w5.setCell ⟨WB,4,none⟩ (.slice (some ⟨g3,0,none⟩) ((D 1).ms.length+1) cap3)) tag6 sh6):=R6;have HLEN6:Hid ((sh6 1).ls.length=(sh6 1).ms.length):=hlen6;have HSZ6:Hid ((w5.setCell ⟨WB,4,none⟩ (.slice (some ⟨g3,0,none⟩) ((D 1).ms.length+1) cap3)).heap.size=w5.heap.size):=hsz6;have HN6:Hid (∀ j u,[Value.int .i64 m,int i64 m,int i64 m][j]? =some u->((w5.setCell ⟨WB,4,none⟩ (.slice (some ⟨g3,0,none⟩) ((D 1).ms.length+1) cap3)).alloc (.cells #[int i64 m,int i64 m,int i64 m] 53)).cell? ((⟨w5.heap.size,0,none⟩:Addr).add j)=some u):=hn6;clear hbh R6 hlen6 e4a e4b e4c hown5 hat5 HR4 HO4 HE4 hn6 hsz6 o6 d1 d2 f1 HSZ HN1;go_wp2_with (at_builtin;refine Xv _ (by rfl) (.tmp 57) (.tmp 62) 42 (by rfl) 0 53 iE (.agg #[int i64 0,int i64 0,int i64 0]) 3 24 underlying42 hiE hzE hsE hbE rfl (by decide) _ _ _ (by rfl) (Yt HO6.out (Zb _ _)) ⟨w5.heap.size,0,none⟩ 1 1 [int i64 m,int i64 m,int i64 m] (by rfl) rfl HN6.out ?c2 (by decide) ?c3 ?c4 ?c5 (w5.heap.size+1) ?c6 ?_)
       case c2=>intro u Z;simp at Z;subst Z;rfl
       case c3=>unfold maxLen;omega
       case c4=>omega
       case c5=>exact Nat.zero_le _
       case c6=>simp
       ·intro g4 cap4 w7 hown7 hat7 hlt7;rw[<-HSZ6.out] at hat7;obtain⟨tag8,R8⟩:=HR6.out.E (w3:=w7) (g2:=g4) (cap2:=cap4) (by decide) hown7 hat7;have HR8:Hid (Zd4 W1 tag1 WB 1 v0 sh (nk+1) m (q+1) k (.slice (some ⟨g4,0,none⟩) (J+1) cap4) w7):=⟨J+1,tag8,sh6,R8,HLEN6.out,by have:=HN.out;omega⟩;clear HR6 HO6 R8 hown7 hat7 d2' f2 HN6 HSZ6;go_wp2
        go_roundw;case rel=>exact⟨q+1,by omega,by go_num,HR8.out⟩
        case measure=>simp[intOf];omega
    ·have:q=4:=by omega
     subst this;have HR:Hid (X8 1 WB v0 tag sh nk (.slice va k O) w wr):=R.wrote HL2.out HLEN.out.1 HC1.out HT1.out;clear R;go_wp2
     go_end0
     exact⟨rfl,HR.out⟩
theorem Z4b:(prog.info? 41).map (fun i=>(i.zero,i.size,i.bytes))=some (some (.slice none 0 0),1,24):=by kernel_rfl
theorem Z4c:(prog.info? 37).map (fun i=>(i.zero,i.size,i.bytes))=some (some (.agg #[int i64 0,int i64 0]),2,16):=by kernel_rfl
theorem Z4d (w:World)(v:Value)(t:TypeId):∀ j u,[v,v][j]? =some u->(w.alloc (.cells #[v,v] t)).cell? ((⟨w.heap.size,0,none⟩:Addr).add j)=some u:=by
 intro j u I;have D:(⟨w.heap.size,0,none⟩:Addr).add j=⟨w.heap.size,j,none⟩:=by unfold Addr.add;split <;> simp_all
 rw[D];have e:=heap_alloc_new w (.cells #[v,v] t);simp only[World.cell?,e];simpa using I
theorem Z4e (WB nk n:Nat) (v0 v:Value) (tag:Nat->Nat) (sh:Nat->Sh) (xs:List Value) (w:World) (h:Bk w WB v0 tag sh nk) (hlen:(sh 2).ls.length=(sh 2).ms.length) (hl:(sh 2).ls.length<=3703618117000) (hk:nk<=1851809059000)
  (J:w.ownsRow 0 37 2 v n xs) (hn:n<=5000000000000) (hf:∀ g,v.ownBlock=some g->tag g=0/\WB<g) :
  Calls prog 57 #[.pointer (some ⟨WB,1,none⟩),v] w fun e w'=>e= .returned (.tuple #[])/\X8 2 WB v0 tag sh nk v w w':=by
 have b7:=h.cells.2.2.2.2.2.2.2;have f7:=h.frozen 7;have x0:IntKind.i64.wrap ((nk:Int)+1)=(nk:Int)+1:=Zd (by omega) (by omega);have x1:IntKind.i64.wrap (-1000-((nk:Int)+1))= -1000-((nk:Int)+1):=Zd (by omega) (by omega);obtain⟨hB1,hC1⟩:=h.bump;have hWb:∀ g,v.ownBlock=some g->g≠WB:=fun g Y e=>by have:=(hf g Y).2;omega
 have hv1:(w.setCell ⟨WB,7,none⟩ (int i64 ((nk:Int)+1))).ownsRow 0 37 2 v n xs:=Z9 J fun g Y=>hC1.far g (Zx J Y) (hWb g Y)
 have hC:Chg (fun k=>k=WB\/some k=v.ownBlock) w (w.setCell ⟨WB,7,none⟩ (int i64 ((nk:Int)+1))):=hC1.mono fun k _ e=>.inl e
 obtain⟨va,O,rfl⟩:=Zn J;have hxs:xs.length=n*2:=J.1;have HF:Hid (∀ g,(Value.slice va n O).ownBlock=some g->tag g=0/\WB<g):=hf;have HLEN:Hid ((sh 2).ls.length=(sh 2).ms.length/\(sh 2).ls.length<=3703618117000):=⟨hlen,hl⟩;obtain⟨iI,hiI,hzI,hsI,hbI⟩:=info_parts Z4b;obtain⟨i0,hi0,hz0,hs0,hb0⟩:=info_parts Zbi;obtain⟨iE,hiE,hzE,hsE,hbE⟩:=info_parts Z4c;clear h J hC1 hWb hf hlen hl;go_enter func57,ntmps57;go_wp2
 generalize hW:w.setCell ⟨WB,7,none⟩ (int i64 ((nk:Int)+1))=W at *
 clear hW b7 f7 x0 x1;generalize -1000-((nk:Int)+1)=m at *
 go_loopw [5] (fun i wr=>∃ k:Nat,k<=n/\i=int i64 k/\Bk wr WB v0 tag sh (nk+1)/\wr.ownsRow 0 37 2 (.slice va n O) n (List.replicate (k*2) (int i64 m) ++ xs.drop (k*2))/\Chg (fun k=>k=WB\/some k=(Value.slice va n O).ownBlock) w wr) (fun i _=>n-(intOf i).toNat)
 case atStart=>exact⟨0,by omega,rfl,hB1,by simpa using hv1,hC⟩
 case round=>
  clear hB1 hC hv1;obtain⟨k,hkn,rfl,hB,J,hC⟩:=hrel;by_cases hlt:k<n
  ·obtain⟨g,rfl,Y,c0⟩:=Zcw J (by omega);have f0:=J.frozenAt (k*2);have f1:=J.frozenAt (k*2+1);obtain⟨hv1,hgr1⟩:=J.stored (k*2) (int i64 m);rw[Zgb (by omega)] at hv1;obtain⟨hv2,hgr2⟩:=hv1.stored (k*2+1) (int i64 m);rw[Zgb (by omega)] at hv2;have hgr:=(Zmc hgr1 hgr2);have hB':=hB.fill (HF.out g rfl).1 hgr;have HB:Hid (Bk ((wr.setCell ⟨g,k*2,none⟩ (int i64 m)).setCell ⟨g,k*2+1,none⟩ (int i64 m)) WB v0 tag sh (nk+1)):=hB';have HV:Hid (((wr.setCell ⟨g,k*2,none⟩ (int i64 m)).setCell ⟨g,k*2+1,none⟩ (int i64 m)).ownsRow 0 37 2 (.slice (some ⟨g,0,none⟩) n O) n (List.replicate ((k+1)*2) (int i64 m) ++ xs.drop ((k+1)*2))):=by
    have e:(k+1)*2=k*2+2:=by omega
    rw[e];exact hv2
   have HK:Hid (Chg (fun k=>k=WB\/some k=(Value.slice (some ⟨g,0,none⟩) n O).ownBlock) w ((wr.setCell ⟨g,k*2,none⟩ (int i64 m)).setCell ⟨g,k*2+1,none⟩ (int i64 m))):=hC.trans (Chg.of_grown (F:=fun k=>k=g) hgr fun k hk=>by cases hk;rfl) fun k _ e=>.inr (by rw[e];rfl)
   have hex:∀ i,i<2->∃ u,wr.cell? ⟨g,k*2+i,none⟩=some u:=fun i hi=>by
    rw[c0 _ (by omega)];have:k*2+i<(List.replicate (k*2) (Value.int .i64 m) ++ xs.drop (k*2)).length:=by simp;omega
    exact⟨_,List.getElem?_eq_getElem this⟩
   obtain⟨u0,c10⟩:=hex 0 (by omega);obtain⟨u1,c11⟩:=hex 1 (by omega);simp only[Nat.add_zero] at c10;have y0:(0:Int)<=(k:Int):=by omega
   have y1:(k:Int)<(n:Int):=by omega
   have y4:IntKind.i64.wrap ((k:Int)+1)=(k:Int)+1:=Zd (by omega) (by omega);clear hB J hC hB' hgr c0 hex hv1 hgr1 hv2 hgr2;go_wp2
   go_roundw;case rel=>exact⟨k+1,by omega,by go_num,HB.out,HV.out,HK.out⟩
   case measure=>simp[intOf];omega
  ·have ek:k=n:=by omega
   subst ek;have hv2:wr.ownsRow 0 (tEf 2) (szf 2) (.slice va k O) k (List.replicate (k*szf 2) (int i64 m)):=by
    rw[List.drop_eq_nil_of_le (by omega),List.append_nil] at J;exact J
   obtain⟨tag1,ht1,hB1,hH1⟩:=hB.take (xs:=[]) (j:=2) (by decide) hv2 HF.out;have HT1:Hid (∀ k',some k'≠(Value.slice va k O).ownBlock->tag1 k'=tag k'):=ht1;have HC1:Hid (Chg (fun k'=>k'=WB\/some k'=(Value.slice va k O).ownBlock) w wr):=hC;have HR1:Hid (Zd4 wr tag1 WB 2 v0 sh (nk+1) m 0 k (.slice va k O) wr):=⟨k,tag1,sh,Rnd.start hB1 hH1,HLEN.out.1,rfl⟩;clear J hv2 hB hC ht1 hB1 hH1 HF;go_wp2
   generalize wr=W1 at *
   go_loopw [1,6] (fun vl i wr=>∃ q:Nat,q<=4/\i=int i64 q/\Zd4 W1 tag1 WB 2 v0 sh (nk+1) m q k vl wr) (fun _ i _=>4-(intOf i).toNat)
   case atStart=>exact⟨0,by omega,rfl,HR1.out⟩
   case round=>
    clear HR1;obtain⟨q,hq,rfl,I,tag2,D,R,hlen2,hn2⟩:=hrel;have hmsl:=R.msl;have HL2:Hid ((D 2).ls.length=(D 2).ms.length):=hlen2;have hb8:(D 2).ls.length+1<=3703618118000:=by have:=HLEN.out;omega
    have hm8:(D 2).ms.length+1<=3703618118000:=by omega
    have hn8:I+1<=5000000000010:=by omega
    clear hlen2 hmsl;by_cases hq4:q<4
    ·obtain⟨ia,ic,ma,mc,eI,eM,oI,oM⟩:=R.bk.forms 2 (by decide);obtain⟨la,lc,rfl⟩:=Zn R.hand.own;obtain⟨_,_,_,_,_,b1,b2,_⟩:=R.bk.cells;rw[eI] at b1;rw[eM] at b2;have HI:Hid ((D 2).vL= .slice ia (D 2).ls.length ic):=eI;have HM:Hid ((D 2).vM= .slice ma (D 2).ms.length mc):=eM;have HR:Hid (Rnd W1 tag1 WB 2 v0 sh (nk+1) m q I (.slice la I lc) wr tag2 D):=R;have hWB:=R.bk.ltW;have y4:IntKind.i64.wrap ((q:Int)+1)=(q:Int)+1:=Zd (by omega) (by omega);have y5:(q:Int)<4:=by omega
     have HO:Hid (wr.ownsRow 0 41 1 (.slice ia (D 2).ls.length ic) (D 2).ls.length (D 2).ls):=oI;have HN:Hid (I=k+q):=hn2;clear eI eM oI oM R hn2;go_wp2_with (at_builtin;refine Xv _ (by rfl) (.tmp 40) (.tmp 42) 28 (by rfl) 0 41 iI (.slice none 0 0) 1 24 underlying28 hiI hzI hsI hbI rfl (by decide) _ _ _ (by rfl) (Zbv HO.out (Zb _ _)) ⟨wr.heap.size,0,none⟩ 1 1 [.slice la I lc] (by rfl) rfl ?c1 ?c2 (by decide) ?c3 ?c4 ?c5 (wr.heap.size+1) ?c6 ?_)
     case c1=>exact cell_one_new _ _ _
     case c2=>intro u Z;simp at Z;subst Z;rfl
     case c3=>unfold maxLen;omega
     case c4=>omega
     case c5=>exact Nat.zero_le _
     case c6=>simp
     ·intro g2 cap2 w3 hown3 hat3 hlt3;have hbh:=HR.out.bk.behind (v:=.slice ia (D 2).ls.length ic) (fun g Y=>by have:=(HR.out.bk.she 2 (by decide)).inL g (by rw[HI.out];exact Y);omega) hat3;have d1:=(hbh 5).1.trans b1;have d2:=(hbh 6).1.trans b2;have f1:=(hbh 5).2;obtain⟨tag4,sh4,R4,hls4,hms4,hvM4⟩:=HR.out.L (by decide) HL2.out hown3 (by rw[HI.out];exact hat3);simp only[Nat.reduceMul,Nat.reduceAdd] at R4;have hsz:(w3.setCell ⟨WB,5,none⟩ (.slice (some ⟨g2,0,none⟩) ((D 2).ls.length+1) cap2)).heap.size=w3.heap.size:=by simp
      have o4:=(R4.bk.she 2 (by decide)).ownM;rw[hvM4,hms4,HM.out] at o4;have HO4:Hid ((w3.setCell ⟨WB,5,none⟩ (.slice (some ⟨g2,0,none⟩) ((D 2).ls.length+1) cap2)).ownsRow 0 3 1 (.slice ma (D 2).ms.length mc) (D 2).ms.length ((D 2).ms.map (int i64))):=o4;have HR4:Hid (Rnd W1 tag1 WB 2 v0 sh (nk+1) m q I (.slice la I lc) (w3.setCell ⟨WB,5,none⟩ (.slice (some ⟨g2,0,none⟩) ((D 2).ls.length+1) cap2)) tag4 sh4):=R4;have HE4:Hid ((sh4 2).ls=(D 2).ls ++ [.slice la I lc]/\(sh4 2).ms=(D 2).ms/\(sh4 2).vM=(D 2).vM):=⟨hls4,hms4,hvM4⟩;have hWB3:WB<w3.heap.size:=by have:=R4.bk.ltW;omega
      have hn1:=cell_one_new (w3.setCell ⟨WB,5,none⟩ (.slice (some ⟨g2,0,none⟩) ((D 2).ls.length+1) cap2)) (int i64 m) 3;rw[hsz] at hn1;have HSZ:Hid ((w3.setCell ⟨WB,5,none⟩ (.slice (some ⟨g2,0,none⟩) ((D 2).ls.length+1) cap2)).heap.size=w3.heap.size):=hsz;have HN1:Hid (∀ j u,[Value.int .i64 m][j]? =some u->((w3.setCell ⟨WB,5,none⟩ (.slice (some ⟨g2,0,none⟩) ((D 2).ls.length+1) cap2)).alloc (.cells #[int i64 m] 3)).cell? ((⟨w3.heap.size,0,none⟩:Addr).add j)=some u):=hn1;clear hbh R4 hls4 hms4 hvM4 o4 hown3 hat3 b1 b2 HR HO hn1 hsz;go_wp2_with (at_builtin;refine Xv _ (by rfl) (.tmp 50) (.tmp 52) 26 (by rfl) 0 3 i0 (int i64 0) 1 8 underlying26 hi0 hz0 hs0 hb0 rfl (by decide) _ _ _ (by rfl) (Zbv HO4.out (Zb _ _)) ⟨w3.heap.size,0,none⟩ 1 1 [int i64 m] (by rfl) rfl HN1.out ?c2 (by decide) ?c3 ?c4 ?c5 (w3.heap.size+1) ?c6 ?_)
      case c2=>intro u Z;simp at Z;subst Z;rfl
      case c3=>unfold maxLen;omega
      case c4=>omega
      case c5=>exact Nat.zero_le _
      case c6=>simp
      ·intro g3 cap3 w5 hown5 hat5 hlt5;rw[<-HSZ.out] at hat5;have hbh:=HR4.out.bk.behind (v:=.slice ma (D 2).ms.length mc) (fun g Y=>by have:=(HR4.out.bk.she 2 (by decide)).inM g (by rw[HE4.out.2.2,HM.out];exact Y);omega) hat5;have f2:=(hbh 6).2;have d2':w5.cell? ⟨WB,6,none⟩=some (.slice ma (D 2).ms.length mc):=by
        rw[(hbh 6).1,HR4.out.bk.cells.2.2.2.2.2.2.1,HE4.out.2.2,HM.out]
       obtain⟨e4a,e4b,e4c⟩:=HE4.out;obtain⟨tag6,sh6,R6,hlen6⟩:=HR4.out.M (w3:=w5) (g2:=g3) (cap2:=cap3) (by decide) e4a (by rw[e4b];exact HL2.out) (by rw[e4b];exact hown5) (by rw[e4c,HM.out];exact hat5);rw[e4b] at R6;simp only[Nat.reduceMul,Nat.reduceAdd] at R6;have hsz6:(w5.setCell ⟨WB,6,none⟩ (.slice (some ⟨g3,0,none⟩) ((D 2).ms.length+1) cap3)).heap.size=w5.heap.size:=by simp
       have hn6:=Z4d (w5.setCell ⟨WB,6,none⟩ (.slice (some ⟨g3,0,none⟩) ((D 2).ms.length+1) cap3)) (int i64 m) 37;rw[hsz6] at hn6;have hWB5:WB<w5.heap.size:=by have:=R6.bk.ltW;omega
       have o6:=R6.hand.own;have HO6:Hid ((w5.setCell ⟨WB,6,none⟩ (.slice (some ⟨g3,0,none⟩) ((D 2).ms.length+1) cap3)).ownsRow 0 37 2 (.slice la I lc) I (List.replicate (I*szf 2) (int i64 m))):=o6;have HR6:Hid (Rnd W1 tag1 WB 2 v0 sh (nk+1) m (q+1) I (.slice la I lc) (w5.setCell ⟨WB,6,none⟩ (.slice (some ⟨g3,0,none⟩) ((D 2).ms.length+1) cap3)) tag6 sh6):=R6;have HLEN6:Hid ((sh6 2).ls.length=(sh6 2).ms.length):=hlen6;have HSZ6:Hid ((w5.setCell ⟨WB,6,none⟩ (.slice (some ⟨g3,0,none⟩) ((D 2).ms.length+1) cap3)).heap.size=w5.heap.size):=hsz6;have HN6:Hid (∀ j u,[Value.int .i64 m,int i64 m][j]? =some u->((w5.setCell ⟨WB,6,none⟩ (.slice (some ⟨g3,0,none⟩) ((D 2).ms.length+1) cap3)).alloc (.cells #[int i64 m,int i64 m] 37)).cell? ((⟨w5.heap.size,0,none⟩:Addr).add j)=some u):=hn6;clear hbh R6 hlen6 e4a e4b e4c hown5 hat5 HR4 HO4 HE4 hn6 hsz6 o6 d1 d2 f1 HSZ HN1;go_wp2_with (at_builtin;refine Xv _ (by rfl) (.tmp 56) (.tmp 60) 41 (by rfl) 0 37 iE (.agg #[int i64 0,int i64 0]) 2 16 underlying41 hiE hzE hsE hbE rfl (by decide) _ _ _ (by rfl) (Yt HO6.out (Zb _ _)) ⟨w5.heap.size,0,none⟩ 1 1 [int i64 m,int i64 m] (by rfl) rfl HN6.out ?c2 (by decide) ?c3 ?c4 ?c5 (w5.heap.size+1) ?c6 ?_)
       case c2=>intro u Z;simp at Z;subst Z;rfl
       case c3=>unfold maxLen;omega
       case c4=>omega
       case c5=>exact Nat.zero_le _
       case c6=>simp
       ·intro g4 cap4 w7 hown7 hat7 hlt7;rw[<-HSZ6.out] at hat7;obtain⟨tag8,R8⟩:=HR6.out.E (w3:=w7) (g2:=g4) (cap2:=cap4) (by decide) hown7 hat7;have HR8:Hid (Zd4 W1 tag1 WB 2 v0 sh (nk+1) m (q+1) k (.slice (some ⟨g4,0,none⟩) (I+1) cap4) w7):=⟨I+1,tag8,sh6,R8,HLEN6.out,by have:=HN.out;omega⟩;clear HR6 HO6 R8 hown7 hat7 d2' f2 HN6 HSZ6;go_wp2
        go_roundw;case rel=>exact⟨q+1,by omega,by go_num,HR8.out⟩
        case measure=>simp[intOf];omega
    ·have:q=4:=by omega
     subst this;have HR:Hid (X8 2 WB v0 tag sh nk (.slice va k O) w wr):=R.wrote HL2.out HLEN.out.1 HC1.out HT1.out;clear R;go_wp2
     go_end0
     exact⟨rfl,HR.out⟩
end Go.Proofs.YtgpapegpdfonpaaGreatDoor
