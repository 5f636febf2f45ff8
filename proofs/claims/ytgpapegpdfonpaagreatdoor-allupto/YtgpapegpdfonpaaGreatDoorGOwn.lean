/- Part. -/
import Derived.Test.YtgpapegpdfonpaaGreatDoorWalksAK
import Derived.Laws.CopyOwn
import Derived.Laws.OwnMore
set_option linter.unusedVariables false
set_option linter.unusedSimpArgs false
set_option maxHeartbeats 16000000
set_option maxRecDepth 100000
namespace Go.Proofs.YtgpapegpdfonpaaGreatDoor
open Go.RowKit Go.Proofs.Tryz
theorem Zb4 {P:Program} {o:Oper} {ρ:Operand->Value} {w:World} {R:Value->World->Prop} {T:TypeId} {x y:Operand} {e D v:Value} (J:o.op= .indexAddr T x y) (O:ρ x=e) (I:ρ y=D)
  (hrun:(Instr.indexAt T e D).run P w= .ok v w) (hR:R v w):Gives P o ρ w R:=by
 refine Gives.value v w ?_ hR;simp only[execOp,J,O,I,Sem.run_bind,hrun,Result.andThen_ok,Sem.run_pure]
theorem Zlu {P:Program} {o:Oper} {ρ:Operand->Value} {w:World} {R:Value->World->Prop} {T T':TypeId} {b:BinOp} {x y:Operand} {e D v:Value} (J:o.op= .binOp b T x y T') (O:ρ x=e) (I:ρ y=D)
  (hrun:Sem.run P (do eqGuard b T x y e D;binOp b T e D) w= .ok v w) (hR:R v w):Gives P o ρ w R:=by
 refine Gives.value v w ?_ hR;simp only[execOp,J,O,I,Sem.run_bind] at hrun ⊢;rw[hrun];rfl
theorem Zwa {o:Oper} {ρ:Operand->Value} {w:World} {R:Value->World->Prop} {x:Operand} {T:TypeId} {a:Option Addr} {n c:Nat} (D:T=26\/T=41) (e:o.op= .call { callee:=.builtin .len,args:=#[x],argTypes:=#[T] }) (I:ρ x= .slice a n c)
  (hR:R (.int .i64 (n:Int)) w):Gives prog o ρ w R:=by
 refine Gives.value _ w ?_ hR;obtain⟨dst,J,ty,pos,after,O⟩:=o;simp only at e;subst e;rcases D with rfl|rfl
 ·simp only[execOp,resolve];go_simp
 ·simp only[execOp,resolve];go_simp
theorem Z77 (w:World)(g n cap i:Nat)(h:i<n):(Instr.indexAt 41 (.slice (some ⟨g,0,none⟩) n cap) (.int .i64 (i:Int))).run prog w= .ok (.pointer (some ⟨g,i*2,none⟩)) w:=by
 have D:(0:Int)<=(i:Int):=by omega
 have e:(i:Int)<(n:Int):=by omega
 go_simp
theorem Zhj (w:World)(g n cap i:Nat)(h:i<n):(Instr.indexAt 26 (.slice (some ⟨g,0,none⟩) n cap) (.int .i64 (i:Int))).run prog w= .ok (.pointer (some ⟨g,i,none⟩)) w:=by
 have D:(0:Int)<=(i:Int):=by omega
 have e:(i:Int)<(n:Int):=by omega
 go_simp
theorem Zd2 (w:World)(g i:Nat)(z:Value)(h:w.cell? ⟨g,i,none⟩=some z):(Instr.loadAt 3 (.pointer (some ⟨g,i,none⟩))).run prog w= .ok z w:=by
 go_simp
end Go.Proofs.YtgpapegpdfonpaaGreatDoor
namespace Go.Proofs.YtgpapegpdfonpaaGreatDoor
open Go.RowKit
attribute [local go_sem ↓] Go.wp_at_zero Go.wp_at_succ
theorem Zh {w:World}{g:Nat}{o:Obj}(h:w.heap[g]? =some o):g<w.heap.size:=(Array.getElem?_eq_some_iff.1 h).1
theorem X7 {w:World}{a b:Nat}{O J:Array Value}{s t:TypeId}(I:w.heap[a]? =some (.cells O s (0,0)))(D:w.heap[b]? =some (.cells J t (0,0)))(h:s≠t):a≠b:=fun e=>by
 subst e;rw[I] at D;simp at D;exact h D.2
section
variable {P:Program} (w:World)
theorem Zhk (t ty:TypeId) (Y:Nat) (e:TypeId) (i:TypeInfo) (z:Value) (D aa:Nat) (ht:P.underlying t=some (.slice e)) (hi:P.info? e=some i) (hz:i.zero=some z)
  (hsize:i.size=D) (hby:i.bytes=aa) (hzs:z.cells.size=D) (hsz:0<D)
  (v:Value) (n:Nat) (xs:List Value) (hown:w.ownsRow Y e D v n xs)
  (ad:Addr) (m c:Nat) (news:List Value) (hl:news.length=m*D) (hnews:∀ j u,news[j]? =some u->w.cell? (ad.add j)=some u) (h1:∀ u∈news,u.oneCell'=true)
  (hm:0<m) (h63:n+m<=maxLen) (hbytes:(n+m)*aa<=140737488355328) (hbase:Y<=w.heap.size) (H:Nat) (hH:w.heap.size=H) :
  ∃ g cap w',(Builtin.append_ #[t,t] ty #[v,.slice (some ad) m c]).run P w= .ok (.slice (some ⟨g,0,none⟩) (n+m) cap) w'/\
   w'.ownsRow Y e D (.slice (some ⟨g,0,none⟩) (n+m) cap) (n+m) (xs ++ news)/\((v.ownBlock=some g/\w.grownBy w' (some g))\/(g=H/\w.grownBy w' none))/\g<w'.heap.size:=by
 obtain⟨g,cap,w',I,h2,h3,J,h5⟩:=run_append_lies (P:=P) w t ty Y e i z D aa ht hi hz hsize hby hzs hsz v n xs hown ad m c news hl hnews h1 hm h63 hbytes hbase H hH;refine⟨g,cap,w',I,h2,?_,h5⟩;rcases J with J|J
 ·exact .inl ⟨J,by rw[<-J];exact h3⟩
 ·refine .inr ⟨J,?_⟩;rcases hown.2 with ⟨rfl,rfl⟩|⟨O,cap0,cur,rfl,hbg,hg,hnc,hcm,hcs,htake⟩
  ·exact h3
  ·have hlt:O<w.heap.size:=(Array.getElem?_eq_some_iff.1 hg).1;by_cases hroom:n+m<=cap0
   ·obtain⟨w2,Z,_⟩:=run_append_fits (P:=P) w Y t ty e i D ht hi hsize O n cap0 xs hown ad m c news hl hnews h1 hroom;rw[Z] at I;simp only[Result.ok.injEq,Value.slice.injEq,Option.some.injEq,Addr.mk.injEq,and_true,true_and] at I;omega
   ·subst hsize;subst hby;have holds:∀ j u,xs[j]? =some u->w.cell? ((⟨O,0,none⟩:Addr).add j)=some u:=hown.cells (g:=O) rfl;have hsmall:n+m<=9223372036854775807:=by simp only[maxLen] at h63;omega
    have Z:=run_append_grow (P:=P) w t ty e i z ht hi hz ⟨O,0,none⟩ n cap0 xs hown.1 holds ad m c news hl hnews (by omega) (by omega) (growslice_fits (by omega) hbytes);rw[Z] at I;simp only[Result.ok.injEq] at I;rw[<-I.2];exact⟨rfl,rfl,rfl,by simp,fun k hk _=>Below.heap_alloc w.drew _ k hk⟩
theorem Xv {ops:Array Oper} {rest:List Oper} {o:Oper} {a:Act} {Q:Exit->Act->World->Prop} (O:o.guard=none) (s x:Operand) (t:TypeId)
  (ho:o.op= .call { callee:=.builtin .append,args:=#[s,x],argTypes:=#[t,t] })
  (base:Nat) (e:TypeId) (i:TypeInfo) (z:Value) (size bytes:Nat) (ht:P.underlying t=some (.slice e)) (hi:P.info? e=some i) (hz:i.zero=some z)
  (hsize:i.size=size) (hby:i.bytes=bytes) (hzs:z.cells.size=size) (hsz:0<size)
  (v:Value) (n:Nat) (xs:List Value) (hs:a.eval s=v) (hown:w.ownsRow base e size v n xs)
  (ad:Addr) (m c:Nat) (news:List Value) (hx:a.eval x= .slice (some ad) m c) (hl:news.length=m*size) (hnews:∀ j u,news[j]? =some u->w.cell? (ad.add j)=some u) (h1:∀ u∈news,u.oneCell'=true)
  (hm:0<m) (h63:n+m<=maxLen) (hbytes:(n+m)*bytes<=140737488355328) (hbase:base<=w.heap.size) (H:Nat) (hH:w.heap.size=H)
  (h:∀ g cap w',w'.ownsRow base e size (.slice (some ⟨g,0,none⟩) (n+m) cap) (n+m) (xs ++ news)->((v.ownBlock=some g/\w.grownBy w' (some g))\/(g=H/\w.grownBy w' none))->g<w'.heap.size->wpList P ops Q rest (a.put o.dst (.slice (some ⟨g,0,none⟩) (n+m) cap)) w'):wpList P ops Q (o :: rest) a w:=by
 refine wpList_plain O fun K hK=>?_
 obtain⟨g,cap,w',J,D,I,Y⟩:=Zhk (P:=P) w t o.type base e i z size bytes ht hi hz hsize hby hzs hsz v n xs hown ad m c news hl hnews h1 hm h63 hbytes hbase H hH;unfold Oper.wp execOp;simp only[ho,resolve,invoke,builtin,Sem.run_bind,Sem.run_pure,Result.andThen_ok,List.map_toArray,List.map_cons,List.map_nil,hs,hx,J];exact hK _ _ (h g cap w' D I Y)
end
structure Chg (F:Nat->Prop)(w w':World):Prop where
 os:w'.os=w.os
 tape:w'.tape=w.tape
 output:w'.output=w.output
 size:w.heap.size<=w'.heap.size
 far:∀ k,k<w.heap.size->¬ F k->w'.heap[k]? =w.heap[k]?
theorem Chg.refl (F:Nat->Prop)(w:World):Chg F w w:=⟨rfl,rfl,rfl,Nat.le_refl _,fun _ _ _=>rfl⟩
theorem Chg.trans {F G:Nat->Prop}{a b c:World}(h:Chg F a b)(k:Chg G b c)(D:∀ i,i<a.heap.size->G i->F i):Chg F a c:=
 ⟨k.os.trans h.os, k.tape.trans h.tape, k.output.trans h.output, Nat.le_trans h.size k.size, fun i hi e => by
   rw [k.far i (L3 hi h.size) (fun g => e (D i hi g)), h.far i hi e]⟩
theorem Chg.mono {F G:Nat->Prop}{a b:World}(h:Chg F a b)(e:∀ i,i<a.heap.size->F i->G i):Chg G a b:=
 ⟨h.os,h.tape,h.output,h.size,fun i hi D=>h.far i hi fun f=>D (e i hi f)⟩
theorem Chg.of_below {F:Nat->Prop}{w w':World}(h:Below w.heap.size w w'):Chg F w w':=⟨h.os,h.tape,h.output,h.size,fun k e _=>h.block k e⟩
theorem Chg.of_grown {F:Nat->Prop}{w w':World}{g:Option Nat}(h:w.grownBy w' g)(I:∀ k,g=some k->F k):Chg F w w':=
 ⟨h.os,h.tape,h.output,h.size,fun k J D=>h.block k J fun e=>D (I k e.symm)⟩
theorem Chg.below {F:Nat->Prop}{w w':World}{B:Nat}(h:Chg F w w')(I:B<=w.heap.size)(e:∀ k,k<B->¬ F k):Below B w w':=
 ⟨h.os,h.tape,h.output,h.size,fun k D=>h.far k (by omega) (e k D)⟩
theorem Chg.drewN {F:Nat->Prop}{w w':World}{n:Nat}(h:Chg F w w'):Chg F w (w'.drewN n):=⟨h.os,h.tape,h.output,h.size,h.far⟩
theorem Chg.cell {F:Nat->Prop}{w w':World}(h:Chg F w w'){b o:Nat}(D:b<w.heap.size)(e:¬ F b):w'.cell? ⟨b,o,none⟩=w.cell? ⟨b,o,none⟩:=World.cell?_of_block (w:=w) (h.far b D e)
theorem Yy {w:World}{J s:Nat}{e:TypeId}{v:Value}{n g:Nat}{xs:List Value}(h:w.ownsRow J e s v n xs)(I:v.ownBlock=some g):∃ D,w.heap[g]? =some (.cells D e (0,0)):=by
 rcases h.2 with ⟨rfl,_⟩|⟨Z,cap,D,rfl,Y,O,_⟩
 ·cases I
 ·cases I;exact⟨D,O⟩
theorem Z9 {w w':World}{I s:Nat}{e:TypeId}{v:Value}{n:Nat}{xs:List Value}(h:w.ownsRow I e s v n xs)(Y:∀ g,v.ownBlock=some g->w'.heap[g]? =w.heap[g]?):w'.ownsRow I e s v n xs:=by
 refine⟨h.1,?_⟩;rcases h.2 with hn|⟨D,cap,Z,rfl,O,J,r⟩
 ·exact .inl hn
 ·exact .inr ⟨D,cap,Z,rfl,O,by rw[Y D rfl];exact J,r⟩
theorem Zx {w:World}{D s:Nat}{e:TypeId}{v:Value}{n g:Nat}{xs:List Value}(h:w.ownsRow D e s v n xs)(J:v.ownBlock=some g):g<w.heap.size:=by
 obtain⟨O,I⟩:=Yy h J;exact Zh I
theorem Zn {w:World}{D s n:Nat}{e:TypeId}{xs:List Value}{v:Value}(h:w.ownsRow D e s v n xs):∃ a c,v= .slice a n c:=by
 rcases h.2 with ⟨rfl,rfl⟩|⟨g,cap,I,rfl,_⟩
 ·exact⟨none,0,rfl⟩
 ·exact⟨_,_,rfl⟩
theorem Zcw {w:World}{D s n c:Nat}{e:TypeId}{xs:List Value}{a:Option Addr}(h:w.ownsRow D e s (.slice a n c) n xs)(O:0<n):∃ g,a=some ⟨g,0,none⟩/\g<w.heap.size/\∀ j,j<n*s->w.cell? ⟨g,j,none⟩=xs[j]? :=by
 rcases h.2 with ⟨e,Y⟩|⟨g,cap,Z,e,_,J,_⟩
 ·omega
 ·cases e;exact⟨g,rfl,Zh J,fun j I=>h.cellAt j I⟩
theorem Yt {w w':World}{D s n:Nat}{e:TypeId}{xs:List Value}{v:Value}(h:w.ownsRow D e s v n xs)(J:Below w.heap.size w w'):w'.ownsRow D e s v n xs:=Z9 h fun g I=>J.block g (Zx h I)
theorem Zb5 {w:World}{D I s n:Nat}{e:TypeId}{xs:List Value}{v:Value}(h:w.ownsRow D e s v n xs)(hb:I<=D):w.ownsRow I e s v n xs:=by
 refine⟨h.1,?_⟩;rcases h.2 with J|⟨O,cap,Y,rfl,Z,r⟩
 ·exact .inl J
 ·exact .inr ⟨O,cap,Y,rfl,by omega,r⟩
theorem Z2.raw' {w:World}{Z n c:Nat}{a:Option Addr}{l:List Pt}(h:w.ownsRow Z 37 2 (.slice a n c) l.length (Zg l)):Z0 w a l:=by
 by_cases D:l=[]
 ·exact .inl D
 ·right;have hl:=List.length_pos_iff.2 D;rcases h.2 with ⟨e,hz⟩|⟨g,cap,cur,e,_,I,_⟩
  ·omega
  ·cases e;refine⟨g,0,rfl,Zh I,fun j O=>?_⟩;obtain⟨J,Y⟩:=Zhi l j O;rw[Nat.zero_add];exact⟨by rw[h.cellAt _ (by omega)];exact J,by rw[h.cellAt _ (by omega)];exact Y⟩
def Zy (w:World)(a:Option Addr)(e:List Int):Prop:=∀ j,j<e.length->∃ g,a=some ⟨g,0,none⟩/\w.cell? ⟨g,j,none⟩=some (.int .i64 (e.getD j 0))
theorem Zy.below {w w':World}{a:Option Addr}{I:List Int}(h:Zy w a I)(O:Below w.heap.size w w'):Zy w' a I:=fun j J=>by
 obtain⟨g,e,D⟩:=h j J;exact⟨g,e,(O.cell (p:=⟨g,j,none⟩) (World.block_lt_of_cell? w _ D)).trans D⟩
theorem Zy.of_own {w:World}{J c:Nat}{a:Option Addr}{D:List Int}(h:w.ownsRow J 3 1 (.slice a D.length c) D.length (D.map (.int .i64))):Zy w a D:=fun j O=>by
 obtain⟨g,e,_,I⟩:=Zcw h (by omega);exact⟨g,e,by rw[I j (by omega)];simp[O]⟩
end Go.Proofs.YtgpapegpdfonpaaGreatDoor
namespace Go.Proofs.YtgpapegpdfonpaaGreatDoor
open Go.RowKit
def Zkb (P:Program)(o:Oper)(ρ:Operand->Value)(w:World)(R:Value->World->Prop):Prop:=
 match (execOp ρ o).run P w with
 | .ok (.value v) w'=>R v w'
 | .ok .skip w'=>R undef w'
 | .ok (.enter f args) w'=>Calls P f args w' fun e D=>∃ v,e= .returned v/\R v D
 | _=>False
structure GivesS (P:Program)(o:Oper)(ρ:Operand->Value)(w:World)(R:Value->World->Prop):Prop where
 out:Zkb P o ρ w R
theorem Gives.toS {P:Program}{o:Oper}{ρ:Operand->Value}{w:World}{R:Value->World->Prop}(h:Gives P o ρ w R):GivesS P o ρ w R:=by
 have h:=h.out;refine⟨?_⟩;unfold Zfz at h;unfold Zkb;generalize (execOp ρ o).run P w=r at h;cases r with
 | ok n w'=>cases n <;> simp only at h ⊢ <;> first|exact h|exact h.elim
 | halt x w'=>simp at h
theorem GivesS.wp {P:Program} {o:Oper} {a:Act} {ρ:Operand->Value} {w:World} {R:Value->World->Prop} {K:Act->World->Prop} {Q:Exit->Act->World->Prop}
  (h:GivesS P o ρ w R) (D:execOp a.eval o=execOp ρ o) (hK:∀ v w',R v w'->K (a.put o.dst v) w'):Oper.wp P o a w K Q:=by
 have h:=h.out;unfold Zkb at h;unfold Oper.wp;rw[D];generalize (execOp ρ o).run P w=r at h;cases r with
 | ok n w'=>
  cases n <;> simp only[Oper.upon] at h ⊢
  case value v=>exact hK _ _ h
  case skip=>exact hK _ _ h
  case enter f args=>
   refine Calls.mono h fun e J D=>?_
   obtain⟨v,rfl,I⟩:=D;exact hK _ _ I
 | halt x w'=>simp at h
section
variable {P:Program} {ops:Array Oper} {Q:Exit->Act->World->Prop}
structure InvAt (ops:Array Oper)(m:Nat)(a0:Act)(Inv:(Nat->Bool)->(Nat->Value)->World->Prop)(σ:Nat->Value)(listed:Array Bool)(a:Act)(w:World):Prop where
 size:listed.size=ops.size
 late:∀ j,m<=j->listed.getD j false=false
 down:∀ j o,ops[j]? =some o->listed.getD j false=true->∀ ed∈o.after,Region.binds .any ed=true->listed.getD ed.on false=true
 laid:Laid ops m a0 σ listed a
 inv:Inv (fun j=>listed.getD j false) σ w
theorem Z1y {m:Nat} (g:GrowOk ops m) (hgd:∀ i o,i<m->ops[i]? =some o->o.guard=none) {a0:Act} (Inv:(Nat->Bool)->(Nat->Value)->World->Prop)
  (hop : ∀ i, i < m → ∀ (L : Nat → Bool) (σ : Nat → Value) (w : World), Inv L σ w → (∀ j, X5 ops i j = true → L j = true) → (∀ j k, L j = true → X5 ops j k = true → L k = true) → L i = false →
    GivesS P (Zcg ops i) (Zab ops σ i a0).eval w fun v w' => Inv (fun j => if j = i then true else L j) (fun j => if j = i then v else σ j) w')
  (hend:∀ (L:Nat->Bool) (σ:Nat->Value) (w:World),Inv L σ w->(∀ j,j<m->L j=true)->Rest P ops Q (ops.toList.drop m) (Zab ops σ m a0) w) :
  ∀ (r:Nat) (σ:Nat->Value) (listed:Array Bool) (a:Act) (w:World),r=left m listed->InvAt ops m a0 Inv σ listed a w->
   wpAny P .any ops Q (ops.size-m+r) listed a w:=by
 intro r;induction r with
 | zero=>
  intro σ listed a w hr G;have hall:=Zox hr.symm;have hl:listed=Zaa ops.size m:=by
   apply Array.ext_getElem?;intro j;by_cases D:j<ops.size
   ·have h1:listed[j]? =some (listed.getD j false):=by
     have:j<listed.size:=by rw[G.size];exact D
     simp[this]
    have h2:(Zaa ops.size m)[j]? =some (decide (j<m)):=by simp[Zaa,D]
    rw[h1,h2];by_cases hjm:j<m
    ·rw[hall j hjm];simp[hjm]
    ·rw[G.late j (by omega)];simp[hjm]
   ·rw[Array.getElem?_eq_none (by rw[G.size];omega),Array.getElem?_eq_none (by rw[Zov];omega)]
  rw[G.laid.all g hall,hl];exact Zow g _ m _ _ (by omega) (Nat.le_refl _) g.le (hend _ σ w G.inv hall).out
 | succ r ih=>
  intro σ listed a w hr G;obtain⟨j0,hj0,hun0⟩:=Zoy (m:=m) (listed:=listed) (by omega);refine⟨fun h0=>absurd h0 (Zo0 g G.size j0 hj0 hun0),fun i hi=>?_⟩;obtain⟨hun,o,O,hall⟩:=mem_ready.1 hi;have hlt:i<ops.size:=(Array.getElem?_eq_some_iff.1 O).1;have hin:i<listed.size:=by rw[G.size];exact hlt
  have hun':listed.getD i false=false:=by simp[hin] at hun ⊢;exact hun
  have hp:∀ j,X5 ops i j=true->listed.getD j false=true:=fun j I=>by
   obtain⟨Y,Z,J,hon⟩:=Zf1 O I;exact hon ▸ hall Y Z J
  have him:i<m:=by
   rcases Nat.lt_or_ge i m with h|h
   ·exact h
   ·exfalso;rcases Nat.lt_or_eq_of_le h with h'|h'
    ·obtain⟨j,D,I⟩:=g.late i h' hlt;have:=hp j I;rw[G.late j D] at this;cases this
    ·subst h';rcases g.gate with hg|hg
     ·omega
     ·-- all of the first m have come up
      have allup:∀ d j,j<m->m-j<=d->listed.getD j false=true:=by
       intro d;induction d with
       | zero=>intro j D hd;omega
       | succ d ihd=>
        intro j D hd;obtain⟨j',h1,h2,I⟩:=hg j D;rcases Nat.lt_or_eq_of_le h2 with h3|h3
        ·have hl':=ihd j' h3 (by omega);have hget:ops[j']? =some (ops[j']'(L3 h3 g.le)):=by simp[L3 h3 g.le]
         obtain⟨Y,Z,J,hon⟩:=Zf1 hget I;exact hon ▸ G.down j' _ hget hl' Y Z J
        ·subst h3;exact hp j I
      rw[allup (m-j0) j0 hj0 (Nat.le_refl _)] at hun0;cases hun0
  have hdn:∀ j k,listed.getD j false=true->X5 ops j k=true->listed.getD k false=true:=fun j k hl I=>by
   cases D:ops[j]? with
   | none=>simp[X5,D] at I
   | some oj=>
    obtain⟨Y,Z,J,hon⟩:=Zf1 D I;exact hon ▸ G.down j oj D hl Y Z J
  have hgv:=hop i him _ σ w G.inv hp hdn hun';rw[show Zcg ops i=o by simp[Zcg,O]] at hgv;simp only[wpOp,O];rw[if_pos (by simp[Region.wanted,hgd i o him O])];refine .inl (hgv.wp (G.laid.exec g him O hp) fun v w' hvw=>?_);have hset:(listed.setIfInBounds i true).getD i false=true:=by simp[hin]
  have hne:∀ j,j≠i->(listed.setIfInBounds i true).getD j false=listed.getD j false:=fun j D=>getD_set_ne false (Ne.symm D)
  refine ih (fun j=>if j=i then v else σ j) _ _ _ (by have:=Zoz him hin hun';omega) ⟨?_,?_,?_,G.laid.put g him O hun' G.size v,?_⟩
  ·simp[G.size]
  ·intro j D;rw[hne j (by omega)];exact G.late j D
  ·intro j oj hoj hl Y Z J;by_cases aa:j=i
   ·subst aa;rw[O] at hoj;cases hoj;exact getD_set_true (hall Y Z J)
   ·rw[hne j aa] at hl;exact getD_set_true (G.down j oj hoj hl Y Z J)
  ·have e:(fun j=>(listed.setIfInBounds i true).getD j false)=fun j=>if j=i then true else listed.getD j false:=by
    funext j;by_cases aa:j=i
    ·subst aa;rw[if_pos rfl];exact hset
    ·rw[if_neg aa];exact hne j aa
   rw[e];exact hvw
theorem Zd9 {id m:Nat} {D:Act} {W:World} (Z:P.follows .mixedOrders=true) (g:Zf0 ops m=true) {dsts:List (Option Tmp)} (Y:(ops.toList.take m).map (·.dst)=dsts)
  (hb:Ze5 dsts D.tmps.size=true) {l:List Oper} (hl:ops.toList.drop m=l) (Inv:(Nat->Bool)->(Nat->Value)->World->Prop)
  (h0:Inv (fun _=>false) (fun _=>undef) W.drew)
  (hop : ∀ i, i < m → ∀ (L : Nat → Bool) (σ : Nat → Value) (w : World), Inv L σ w → (∀ j, X5 ops i j = true → L j = true) → (∀ j k, L j = true → X5 ops j k = true → L k = true) → L i = false →
    GivesS P (Zcg ops i) (env dsts σ i D) w fun v w' => Inv (fun j => if j = i then true else L j) (fun j => if j = i then v else σ j) w')
  (hend:∀ (L:Nat->Bool) (σ:Nat->Value) (w:World),Inv L σ w->(∀ j,j<m->L j=true)->Rest P ops Q l (lay dsts σ 0 D) w):(Code.region id ops true).wp P Q D W:=by
 have I:=Zot g;refine wp_region_any Z ?_;have:=Z1y I (Zou g) Inv (fun i hi L σ w O J h3 h4=>by rw[Zo1 σ D m I.le Y hb i (Nat.le_of_lt hi)];exact hop i hi L σ w O J h3 h4) (fun L σ w O J=>by rw[Zlb σ D m I.le,Y,hl];exact hend L σ w O J) m (fun _=>undef) (Array.replicate ops.size false) D W.drew (Zo2 _ _).symm
  ⟨by simp, fun j _ => by simp [Array.getElem?_replicate]; split <;> rfl, fun j o _ h => absurd h (by simp [Array.getElem?_replicate]; split <;> simp),
   ⟨rfl, rfl, fun j _ h => absurd h (by simp [Array.getElem?_replicate]; split <;> simp), fun _ _ => rfl⟩, by
    have e : (fun j => (Array.replicate ops.size false).getD j false) = fun _ => false := by
      funext j
      simp [Array.getElem?_replicate]; split <;> rfl
    rw [e]; exact h0⟩
 have e:ops.size-m+m=ops.size:=by have:=I.le;omega
 rw[e] at this;exact this
end
inductive Knd
 | val (v:Value)
 | fresh
 | put (a:Nat) (x y:Value)
structure Sow (W:World)(T:TypeId)(kd:Nat->Knd)(L:Nat->Bool)(σ:Nat->Value)(w:World):Prop where
 bel:Below W.heap.size W w
 val:∀ i v,kd i= .val v->L i=true->σ i=v
 fre:∀ i,kd i= .fresh->L i=true->∃ b c0 c1,σ i= .pointer (some ⟨b,0,none⟩)/\W.heap.size<=b/\w.heap[b]? =some (.cells #[c0,c1] T (0,0))/\∀ k x y,kd k= .put i x y->L k=true->c0=x/\c1=y
 dis:∀ i j,i≠j->kd i= .fresh->kd j= .fresh->L i=true->L j=true->σ i≠σ j
section
variable {W w:World} {T:TypeId} {kd:Nat->Knd} {L:Nat->Bool} {σ:Nat->Value} {i:Nat}
theorem Sow.start (W:World)(T:TypeId)(kd:Nat->Knd)(σ:Nat->Value):Sow W T kd (fun _=>false) σ W.drew:=
 ⟨(Below.refl _ _).drew,(fun _ _ _ h=>by cases h),(fun _ _ h=>by cases h),(fun _ _ _ _ _ h=>by cases h)⟩
theorem Sow.stepV (h:Sow W T kd L σ w){v:Value}(Z:kd i= .val v):Sow W T kd (fun j=>if j=i then true else L j) (fun j=>if j=i then v else σ j) w:=by
 have ne:∀ j,kd j≠ .val v->j≠i:=fun j D e=>D (by rw[e];exact Z)
 refine⟨h.bel,fun j u D I=>?_,fun j D I=>?_,fun j k aa D J I O=>?_⟩
 ·by_cases e:j=i
  ·subst e;rw[Z] at D;simp only[if_true];cases D;rfl
  ·simp only[if_neg e] at I ⊢;exact h.val j u D I
 ·have e:j≠i:=ne j (by rw[D];simp);simp only[if_neg e] at I ⊢;obtain⟨b,c0,c1,e1,e2,e3,e4⟩:=h.fre j D I;refine⟨b,c0,c1,e1,e2,e3,fun k x y J O=>e4 k x y J ?_⟩;have Y:k≠i:=ne k (by rw[J];simp);simpa only[if_neg Y] using O
 ·have e:j≠i:=ne j (by rw[D];simp);have Y:k≠i:=ne k (by rw[J];simp);simp only[if_neg e,if_neg Y] at I O ⊢;exact h.dis j k aa D J I O
theorem Sow.stepF (h:Sow W T kd L σ w)(hk:kd i= .fresh)(hno:∀ k x y,kd k= .put i x y->L k=false)(z0 z1:Value) :
  Sow W T kd (fun j=>if j=i then true else L j) (fun j=>if j=i then .pointer (some ⟨w.heap.size,0,none⟩) else σ j) (w.alloc (.cells #[z0,z1] T)):=by
 have old:∀ j,j≠i->kd j= .fresh->L j=true->σ j≠ .pointer (some ⟨w.heap.size,0,none⟩):=fun j Y hf D e=>by
  obtain⟨b,c0,c1,e1,e2,Z,e4⟩:=h.fre j hf D;rw[e1] at e;simp at e;have:=(Array.getElem?_eq_some_iff.1 Z).1;omega
 refine⟨h.bel.alloc h.bel.size _,fun j u Y D=>?_,fun j Y D=>?_,fun j k hjk Y I D J=>?_⟩
 ·have e:j≠i:=fun e=>by rw[e,hk] at Y;cases Y
  simp only[if_neg e] at D ⊢;exact h.val j u Y D
 ·by_cases e:j=i
  ·subst e;refine⟨w.heap.size,z0,z1,if_pos rfl,h.bel.size,heap_alloc_new _ _,fun k x y I J=>?_⟩;have O:k≠j:=fun e=>by rw[e,hk] at I;cases I
   simp only[if_neg O] at J;rw[hno k x y I] at J;cases J
  ·simp only[if_neg e] at D ⊢;obtain⟨b,c0,c1,e1,e2,Z,e4⟩:=h.fre j Y D;refine⟨b,c0,c1,e1,e2,by rw[Below.heap_alloc _ _ _ (Array.getElem?_eq_some_iff.1 Z).1];exact Z,fun k x y I J=>e4 k x y I ?_⟩;have O:k≠i:=fun e=>by rw[e,hk] at I;cases I
   simpa only[if_neg O] using J
 ·by_cases e:j=i
  ·subst e;have O:k≠j:=Ne.symm hjk;simp only[if_neg O,if_true] at J ⊢;exact Ne.symm (old k O I J)
  ·by_cases O:k=i
   ·subst O;simp only[if_neg e,if_true] at D ⊢;exact old j e Y D
   ·simp only[if_neg e,if_neg O] at D J ⊢;exact h.dis j k hjk Y I D J
theorem Sow.stepP (h:Sow W T kd L σ w){a b:Nat}{x y u:Value}(Z:kd i= .put a x y)(ha:kd a= .fresh)(I:L a=true)(hs:σ a= .pointer (some ⟨b,0,none⟩))(huniq:∀ k x' y',kd k= .put a x' y'->k=i) :
  Sow W T kd (fun j=>if j=i then true else L j) (fun j=>if j=i then u else σ j) ((w.setCell ⟨b,0,none⟩ x).setCell ⟨b,1,none⟩ y):=by
 obtain⟨O,c0,c1,e1,e2,e3,e4⟩:=h.fre a ha I;have:O=b:=by rw[hs] at e1;simp at e1;exact e1.symm
 subst this;have k0:=heap_setCell_same w O 0 _ _ x e3;have k1:=heap_setCell_same _ O 1 _ _ y k0;refine⟨(h.bel.setCell (p:=⟨O,0,none⟩) e2 x).setCell (p:=⟨O,1,none⟩) e2 y,fun j u D I=>?_,fun j D I=>?_,fun j k hjk D J I Y=>?_⟩
 ·have e:j≠i:=fun e=>by rw[e,Z] at D;cases D
  simp only[if_neg e] at I ⊢;exact h.val j u D I
 ·have e:j≠i:=fun e=>by rw[e,Z] at D;cases D
  simp only[if_neg e] at I ⊢;by_cases ej:j=a
  ·subst ej;refine⟨O,x,y,hs,e2,k1,fun k x' y' J Y=>?_⟩;have:=huniq k x' y' J;subst this;rw[Z] at J;cases J;exact⟨rfl,rfl⟩
  ·obtain⟨d,c0',c1',f1,f2,f3,f4⟩:=h.fre j D I;have hne:d≠O:=fun e=>h.dis j a ej D ha I ‹L a=true› (by rw[f1,hs,e])
   refine⟨d,c0',c1',f1,f2,by rw[Below.heap_setCell _ _ _ _ hne,Below.heap_setCell _ _ _ _ hne];exact f3,fun k x' y' J Y=>?_⟩;have e':k≠i:=fun e=>by rw[e,Z] at J;cases J;exact ej rfl
   simp only[if_neg e'] at Y;exact f4 k x' y' J Y
 ·have e:j≠i:=fun e=>by rw[e,Z] at D;cases D
  have e':k≠i:=fun e=>by rw[e,Z] at J;cases J
  simp only[if_neg e,if_neg e'] at I Y ⊢;exact h.dis j k hjk D J I Y
end
theorem Zc0 {P:Program} {o:Oper} {ρ:Operand->Value} {w w':World} {R:Value->World->Prop} {T:TypeId} {x y:Operand} {D I:Value} (O:o.op= .store T x y) (Y:ρ x=D) (J:ρ y=I)
  (hrun:(Instr.storeAt T D I).run P w= .ok () w') (hR:R undef w'):GivesS P o ρ w R:=by
 have e:(execOp ρ o).run P w= .ok .skip w':=by simp only[execOp,O,Y,J,Sem.run_bind,hrun,Result.andThen_ok,Sem.run_pure]
 refine⟨?_⟩;unfold Zkb;rw[e];exact hR
theorem Za1 {P:Program}{o:Oper}{ρ:Operand->Value}{w:World}{R:Value->World->Prop}{x:Operand}{ad:Addr}(D:o.op= .nilCheck x)(I:ρ x= .pointer (some ad))(e:R (.pointer (some ad)) w):Gives P o ρ w R:=by
 refine Gives.value _ w ?_ e;simp only[execOp,D,I];rfl
theorem Za2 {P:Program} {o:Oper} {ρ:Operand->Value} {w:World} {R:Value->World->Prop} {T:TypeId} {x:Operand} {f:Nat} {e v:Value} (D:o.op= .fieldAddr T x f) (I:ρ x=e)
  (hrun:(Instr.fieldAt T e f).run P w= .ok v w) (hR:R v w):Gives P o ρ w R:=by
 refine Gives.value v w ?_ hR;simp only[execOp,D,I,Sem.run_bind,hrun,Result.andThen_ok,Sem.run_pure]
theorem Zfr {P:Program} {o:Oper} {ρ:Operand->Value} {w w':World} {R:Value->World->Prop} {T:TypeId} {n:Nat} {x:Operand} {D v:Value} (I:o.op= .buildSlice T n #[(0,x)]) (J:ρ x=D)
  (hrun:(Instr.buildSlice T n #[(0,D)]).run P w= .ok v w') (hR:R v w'):Gives P o ρ w R:=by
 refine Gives.value v w' ?_ hR;have e:(#[(0,x)]:Array (Nat×Operand)).map (fun (i,x)=>(i,ρ x))= #[(0,D)]:=by simp[J]
 simp only[execOp,I,e,Sem.run_bind,hrun,Result.andThen_ok,Sem.run_pure]
theorem Zh4 {P:Program} {o:Oper} {ρ:Operand->Value} {w w':World} {R:Value->World->Prop} {t:TypeId} {s x:Operand} {vs e v:Value} (I:o.op= .call { callee:=.builtin .append,args:=#[s,x],argTypes:=#[t,t] }) (D:ρ s=vs) (J:ρ x=e)
  (hrun:(Builtin.append_ #[t,t] o.type #[vs,e]).run P w= .ok v w') (hR:R v w'):Gives P o ρ w R:=by
 refine Gives.value v w' ?_ hR;unfold execOp;simp only[I,resolve,invoke,builtin,Sem.run_bind,Sem.run_pure,Result.andThen_ok,List.map_toArray,List.map_cons,List.map_nil,D,J,hrun]
structure App (V:World)(o:Obj)(iB iA iS:Nat)(vals:Nat->Option Value)(ad:Addr)(R:Value->World->Prop)(L:Nat->Bool)(σ:Nat->Value)(w:World):Prop where
 val:∀ i v,vals i=some v->L i=true->σ i=v
 a:L iB=false->w=V
 b:L iB=true->L iA=false->w=V.alloc o
 c:L iA=true->L iS=false->R (σ iA) w
 d:L iS=true->∃ w3,R (σ iA) w3/\w=w3.setCell ad (σ iA)
section
variable {V w w':World} {o:Obj} {iB iA iS i:Nat} {vals:Nat->Option Value} {ad:Addr} {R:Value->World->Prop} {L:Nat->Bool} {σ:Nat->Value} {v:Value}
theorem App.start:App V o iB iA iS vals ad R (fun _=>false) σ V:=⟨(fun _ _ _ h=>by cases h),fun _=>rfl,(fun h=>by cases h),(fun h=>by cases h),(fun h=>by cases h)⟩
theorem App.old (h:App V o iB iA iS vals ad R L σ w)(I:L iA=false){b j:Nat}(D:b<V.heap.size):w.cell? ⟨b,j,none⟩=V.cell? ⟨b,j,none⟩:=by
 cases e:L iB with
 | false=>rw[h.a e]
 | true=>rw[h.b e I];exact World.cell?_alloc_past _ _ _ D
theorem App.stepV (h:App V o iB iA iS vals ad R L σ w)(hv:vals i=some v)(Y:i≠iB)(J:i≠iA)(Z:i≠iS):App V o iB iA iS vals ad R (fun j=>if j=i then true else L j) (fun j=>if j=i then v else σ j) w:=by
 refine⟨fun j u O D=>?_,fun D=>h.a ?_,fun D I=>h.b ?_ ?_,fun D I=>?_,fun D=>?_⟩
 ·by_cases e:j=i
  ·subst e;rw[hv] at O;cases O;simp
  ·simp only[if_neg e] at D ⊢;exact h.val j u O D
 ·simpa only[if_neg (Ne.symm Y)] using D
 ·simpa only[if_neg (Ne.symm Y)] using D
 ·simpa only[if_neg (Ne.symm J)] using I
 ·simp only[if_neg (Ne.symm J)] at D ⊢;simp only[if_neg (Ne.symm Z)] at I;exact h.c D I
 ·simp only[if_neg (Ne.symm Z)] at D;simp only[if_neg (Ne.symm J)];exact h.d D
theorem App.stepB (h:App V o iB iA iS vals ad R L σ w)(hv:vals iB=some v)(hA:L iA=false)(O:L iS=false)(J:iB≠iA)(Z:iB≠iS)(Y:w=V):App V o iB iA iS vals ad R (fun j=>if j=iB then true else L j) (fun j=>if j=iB then v else σ j) (w.alloc o):=by
 refine⟨fun j u I D=>?_,fun D=>?_,fun _ _=>by rw[Y],fun D _=>?_,fun D=>?_⟩
 ·by_cases e:j=iB
  ·subst e;rw[hv] at I;cases I;simp
  ·simp only[if_neg e] at D ⊢;exact h.val j u I D
 ·simp at D
 ·simp only[if_neg (Ne.symm J)] at D;rw[hA] at D;cases D
 ·simp only[if_neg (Ne.symm Z)] at D;rw[O] at D;cases D
theorem App.stepA (h:App V o iB iA iS vals ad R L σ w)(hv:vals iA=none)(Y:L iB=true)(Z:L iS=false)(J:iB≠iA)(h3:iA≠iS)(O:R v w'):App V o iB iA iS vals ad R (fun j=>if j=iA then true else L j) (fun j=>if j=iA then v else σ j) w':=by
 refine⟨fun j u I D=>?_,fun D=>?_,fun _ D=>?_,fun _ _=>by simpa using O,fun D=>?_⟩
 ·by_cases e:j=iA
  ·subst e;rw[hv] at I;cases I
  ·simp only[if_neg e] at D ⊢;exact h.val j u I D
 ·simp only[if_neg J] at D;rw[Y] at D;cases D
 ·simp at D
 ·simp only[if_neg (Ne.symm h3)] at D;rw[Z] at D;cases D
theorem App.stepS (h:App V o iB iA iS vals ad R L σ w)(hv:vals iS=none)(Z:L iB=true)(O:L iA=true)(hS:L iS=false)(Y:iB≠iS)(J:iA≠iS):App V o iB iA iS vals ad R (fun j=>if j=iS then true else L j) (fun j=>if j=iS then v else σ j) (w.setCell ad (σ iA)):=by
 refine⟨fun j u I D=>?_,fun D=>?_,fun _ D=>?_,fun _ D=>?_,fun _=>⟨w,?_,?_⟩⟩
 ·by_cases e:j=iS
  ·subst e;rw[hv] at I;cases I
  ·simp only[if_neg e] at D ⊢;exact h.val j u I D
 ·simp only[if_neg Y] at D;rw[Z] at D;cases D
 ·simp only[if_neg J] at D;rw[O] at D;cases D
 ·simp at D
 ·simp only[if_neg J];exact h.c O hS
 ·simp only[if_neg J]
end
end Go.Proofs.YtgpapegpdfonpaaGreatDoor
