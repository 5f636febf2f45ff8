/- Part. -/
import Derived.Maps.RangeWalk
import Derived.Maps.OwnSet
import Derived.WideKeyPair
import Derived.Test.YtgpapegpdfonpaaGreatDoorNetAll
set_option linter.unusedVariables false
set_option linter.unusedSimpArgs false
set_option maxHeartbeats 16000000
set_option maxRecDepth 100000
namespace Go.Proofs.YtgpapegpdfonpaaGreatDoor
open Go.RowKit Go.Maps Go.Proofs.Tryz
open Go.Value(int)
open Go.IntKind(i64)
open Go.MapKept Go.ChangeMaps
def I64 (a:Int):Prop:=(Lit.int .i64 a).wf=true
theorem Zcy {a:Int}(h: -9223372036854775808<=a)(k:a<=9223372036854775807):I64 a:=WalkArith.wf_i64 ⟨by omega,by omega⟩
abbrev Zbo (a b:Int):Value:=.agg #[int i64 a,int i64 b]
def kl (a b:Int):Lit:=.string (keyBytes [.int .i64 a,.int .i64 b])
structure PairKey (P:Program)(K:TypeId):Prop where
 ex:∃ e,WideMaps.ArrKey P K e 2/\P.underlying e=some (.int .i64)
 sz:∃ m,P.types.size=m+1
section
variable {P:Program} {K:TypeId} (X:PairKey P K)
include X
theorem PairKey.law:Keyed P K:=by obtain⟨e,A,_⟩:=X.ex;exact Keyed.of_law A.law
theorem Zff {a b:Int}(J:I64 a)(I:I64 b):keyOf P K (Zbo a b)=some (kl a b):=by obtain⟨e,A,D⟩:=X.ex;exact WideMaps.keyOf_pair A D X.sz J I
theorem Zme {a b D I:Int}(ha:I64 a)(Y:I64 b)(Z:I64 D)(O:I64 I)(e:kl a b=kl D I):a=D/\b=I:=by
 have h1:=Zff X ha Y;have J:=Zff X Z O;rw[<-e] at J;have:=X.law.inj h1 J;simpa using this
theorem Zq6 {v:Value}{l:Lit}(h:keyOf P K v=some l):∃ a b,I64 a/\I64 b/\v=Zbo a b/\l=kl a b:=by
 obtain⟨e,D,he⟩:=X.ex;unfold keyOf at h;simp only[D.hu] at h;split at h
 ·rename_i Z;simp only[Bool.and_eq_true] at Z;have O:=Z.2;cases v with
  | agg cs=>
   simp only[Value.formed,D.hu,D.size,beq_iff_eq] at O;obtain⟨cl⟩:=cs;match cl,O with
   | [c0,c1],_=>
    obtain⟨m,hm⟩:=X.sz;rw[hm] at h;unfold Program.keyLits at h;simp only[D.hu,Value.cells] at h;rw[if_pos (by rw[D.size];rfl),show List.range 2=[0,1] from rfl,List.mapM_cons,List.mapM_cons,List.mapM_nil] at h;simp only[Option.map_eq_some_iff,bind,Option.bind_eq_some_iff,pure,Option.some.injEq,D.one] at h;obtain⟨ls,⟨_,⟨l0,h0',_,⟨l1,h1',_,rfl,rfl⟩,rfl⟩,rfl⟩,rfl⟩:=h;have Y:∀ (c:Value) (J:List Lit),Program.keyLits P (m+1) e [c]=some J->∃ x,c=int i64 x/\I64 x/\J=[.int .i64 x]:=by
     intro c J I;unfold Program.keyLits at I;simp only[he] at I;cases c <;> simp at I
     obtain⟨⟨rfl,hw⟩,rfl⟩:=I;exact⟨_,rfl,hw,rfl⟩
    obtain⟨a,rfl,ha,rfl⟩:=Y c0 l0 (by simpa using h0');obtain⟨b,rfl,hb,rfl⟩:=Y c1 l1 (by simpa using h1');exact⟨a,b,ha,hb,rfl,rfl⟩
  | _=>simp[Value.formed,D.hu] at O
 ·cases h
end
def RV (v:Value):Option (DataW Value×List MemPlace):=some (.held v,[])
def Zdo (D:DataW Value)(f:Int->Int->Option Value):Prop:=∀ a b,I64 a->I64 b->∀ z,D.atKey (kl a b) z=(match f a b with|some v=>.held v|none=>z)
theorem Zdo.has {D:DataW Value}{f:Int->Int->Option Value}(h:Zdo D f){a b:Int}(J:I64 a)(I:I64 b):Maps.has D (kl a b)=(f a b).isSome:=by
 have:=h a b J I;cases e:f a b with
 | none=>rw[e] at this;exact has_false_of_atKey this
 | some v=>rw[e] at this;exact has_true_of_atKey this
def Zi (P:Program)(K:TypeId)(w:World)(B n:Nat)(f:Int->Int->Option Value):Prop:=∃ D,w.ownsMap P K RV B n D/\Zdo D f
def upd (f:Int->Int->Option Value)(a b:Int)(v:Option Value):Int->Int->Option Value:=fun x y=>if x=a/\y=b then v else f x y
theorem Zfg (f:Int->Int->Option Value)(a b:Int)(v:Option Value):upd f a b v a b=v:=by simp[upd]
theorem Zfh (f:Int->Int->Option Value){a b x y:Int}(v:Option Value)(h:¬ (x=a/\y=b)):upd f a b v x y=f x y:=by simp[upd,h]
theorem Zmf {P:Program}{K:TypeId}(X:PairKey P K)(a b:Int)(D:I64 a)(e:I64 b):WideAt.IsKeyLit (kl a b):=X.law.key (Zff X D e)
theorem Zdo.put {P:Program}{K:TypeId}(X:PairKey P K){D:DataW Value}{f:Int->Int->Option Value}(h:Zdo D f)(Z:IsMap D){a b:Int}(Y:I64 a)(I:I64 b)(v:Value):Zdo (D.put (kl a b) (.held v)) (upd f a b (some v)):=by
 intro x y J O z;by_cases e:x=a/\y=b
 ·obtain⟨rfl,rfl⟩:=e;rw[Zfg,atKey_put_same Z (Zmf X _ _ Y I)]
 ·rw[Zfh f _ e,atKey_put_other (fun k=>e (Zme X J O Y I k))];exact h x y J O z
theorem Zdo.del {P:Program}{K:TypeId}(X:PairKey P K){D:DataW Value}{f:Int->Int->Option Value}(h:Zdo D f){a b:Int}(Y:I64 a)(O:I64 b):Zdo (D.del (kl a b)) (upd f a b none):=by
 intro x y J I z;by_cases e:x=a/\y=b
 ·obtain⟨rfl,rfl⟩:=e;rw[Zfg,atKey_del_same]
 ·rw[Zfh f _ e,atKey_del_other (fun k=>e (Zme X J I Y O k))];exact h x y J I z
section
variable {P:Program} {K:TypeId} {w:World} {B n:Nat} {f:Int->Int->Option Value}
theorem Zi.lt (h:Zi P K w B n f):B<w.heap.size:=by obtain⟨D,h,_⟩:=h;exact h.lt
theorem Zi.mono (h:Zi P K w B n f){e:Nat}(I:n<=e):Zi P K w B e f:=by obtain⟨D,h,k⟩:=h;exact⟨D,h.mono I,k⟩
theorem Zi.kept {w':World}{row:Option Nat}(h:Zi P K w B n f)(e:w.grownBy w' row)(I:some B≠row):Zi P K w' B n f:=by obtain⟨D,h,k⟩:=h;exact⟨D,h.kept e I,k⟩
theorem Zi.block {w':World}(h:Zi P K w B n f)(J:w'.heap[B]? =w.heap[B]?):Zi P K w' B n f:=by
 obtain⟨D,⟨I,O,Y,e⟩,k⟩:=h;exact⟨D,⟨I,O,J.trans Y,e⟩,k⟩
theorem Zi.below {w':World}{N:Nat}(h:Zi P K w B n f)(D:Below N w w')(e:B<N):Zi P K w' B n f:=h.block (D.block B e)
theorem Zi.made (P:Program)(K:TypeId)(w:World):Zi P K (w.alloc (.map #[] 0)) w.heap.size 0 (fun _ _=>none):=
 ⟨_,World.ownsMap_made _ _ _ _,fun a b _ _ z=>rfl⟩
theorem Zi.put (X:PairKey P K)(h:Zi P K w B n f)(O:n<maxLen){T E:TypeId}(ht:P.underlying T=some (.map K E)){a b:Int}(I:I64 a)(e:I64 b)(v:Value) :
  ∃ w',(Instr.mapUpdate T (.map (some B)) (Zbo a b) v).run P w= .ok () w'/\Zi P K w' B (n+1) (upd f a b (some v))/\w.grownBy w' (some B):=by
 obtain⟨D,h,k⟩:=h;obtain⟨w',Y,J,Z⟩:=h.update X.law ht O (Zff X I e) (val:=v) (d:=.held v) (ps:=[]) rfl;exact⟨w',Y,⟨_,J,k.put X h.isMap I e v⟩,Z⟩
theorem Zi.look (X:PairKey P K)(h:Zi P K w B n f){T E:TypeId}(ht:P.underlying T=some (.map K E)){z:Value}(Y:(zeroValue E).run P w= .ok z w){a b:Int}(O:I64 a)(I:I64 b) :
  (Instr.lookup T (.map (some B)) (Zbo a b) false).run P w= .ok ((f a b).getD z) w:=by
 obtain⟨D,h,k⟩:=h;obtain⟨v,ps,Z,e⟩:=h.lookup X.law ht Y (zd:=.held z) (zp:=[]) rfl (Zff X O I);rw[Z];congr 1;have:=k a b O I (.held z);rw[this] at e;simp only[RV,Option.some.injEq,Prod.mk.injEq] at e;cases J:f a b with
 | none=>rw[J] at e;simpa using e.1
 | some u=>rw[J] at e;simpa using e.1
theorem Zi.look_ok (X:PairKey P K)(h:Zi P K w B n f){T E:TypeId}(ht:P.underlying T=some (.map K E)){z:Value}(Y:(zeroValue E).run P w= .ok z w){a b:Int}(J:I64 a)(I:I64 b) :
  (Instr.lookup T (.map (some B)) (Zbo a b) true).run P w= .ok (.tuple #[(f a b).getD z,.bool (f a b).isSome]) w:=by
 obtain⟨D,h,k⟩:=h;obtain⟨v,ps,Z,e⟩:=h.look_ok X.law ht Y (zd:=.held z) (zp:=[]) rfl (Zff X J I);rw[Z,k.has J I];congr 1;have:=k a b J I (.held z);rw[this] at e;simp only[RV,Option.some.injEq,Prod.mk.injEq] at e;cases O:f a b with
 | none=>rw[O] at e;simpa using e.1
 | some u=>rw[O] at e;simpa using e.1
theorem Zi.del (X:PairKey P K)(h:Zi P K w B n f){T E:TypeId}(Z:P.underlying T=some (.map K E)){a b:Int}(I:I64 a)(e:I64 b)(ty:TypeId) :
  ∃ w',(Builtin.delete_ #[T,K] ty #[.map (some B),Zbo a b]).run P w= .ok (.tuple #[]) w'/\Zi P K w' B n (upd f a b none)/\w.grownBy w' (some B):=by
 obtain⟨D,h,k⟩:=h;obtain⟨w',O,J,Y⟩:=h.drop X.law Z (Zff X I e) ty;exact⟨w',O,⟨_,J,k.del X I e⟩,Y.grown⟩
theorem Zi.clear (X:PairKey P K)(h:Zi P K w B n f){T E:TypeId}(O:P.underlying T=some (.map K E))(ty:TypeId) :
  ∃ w',(Builtin.clear_ #[T] ty #[.map (some B)]).run P w= .ok (.tuple #[]) w'/\Zi P K w' B 0 (fun _ _=>none)/\w.grownBy w' (some B):=by
 obtain⟨D,⟨Z,J,I,F,Y,hD⟩,k⟩:=h;refine⟨ChangeMaps.setBlock w B (.map #[] J),?_,⟨.map [],⟨#[],J,ChangeMaps.heap_setBlock_same I _,⟨by simp,stamped_empty J,by simp⟩,Nat.le_refl _,rfl⟩,fun a b _ _ z=>rfl⟩,⟨rfl,rfl,rfl,by simp[ChangeMaps.setBlock],fun i _ hi=>ChangeMaps.heap_setBlock_other I _ (fun e=>hi (by rw[e]))⟩⟩;simp[Builtin.clear_,run_underlying O,MapKept.run_getObj_map I,MapKept.run_setObj_map _ I,Result.andThen,ChangeMaps.setBlock]
def Zaz (left:Int->Int->Bool)(a b:Int):Int->Int->Bool:=fun x y=>left x y && !(decide (x=a/\y=b))
theorem Zjs (left:Int->Int->Bool)(a b:Int):Zaz left a b a b=false:=by simp[Zaz]
theorem Zfi (left:Int->Int->Bool){a b x y:Int}(h:¬ (x=a/\y=b)):Zaz left a b x y=left x y:=by simp[Zaz,h]
def Xn (P:Program)(K:TypeId)(w:World)(B r n:Nat)(f:Int->Int->Option Value)(left:Int->Int->Bool)(cnt:Nat):Prop:=
 ∃ D L,w.ranges P K RV B r n D L cnt/\Zdo D f/\∀ a b,I64 a->I64 b->L (kl a b)=left a b
end
theorem Xn.map {P:Program}{K:TypeId}{w:World}{B r n:Nat}{f:Int->Int->Option Value}{left:Int->Int->Bool}{cnt:Nat}(h:Xn P K w B r n f left cnt):Zi P K w B n f:=by
 obtain⟨D,L,h,k,_⟩:=h;exact⟨D,h.owns,k⟩
theorem Xn.left_eq {P:Program}{K:TypeId}{w:World}{B r n:Nat}{f:Int->Int->Option Value}{left:Int->Int->Bool}{cnt:Nat}(h:Xn P K w B r n f left cnt):w.rangeLeft B r=cnt:=by
 obtain⟨D,L,h,k,_⟩:=h;exact h.left_eq
theorem Xn.kept {P:Program}{K:TypeId}{w w':World}{B r n:Nat}{f:Int->Int->Option Value}{left:Int->Int->Bool}{cnt:Nat}{row:Option Nat}(h:Xn P K w B r n f left cnt)(I:w.grownBy w' row)(J:some B≠row)(e:some r≠row):Xn P K w' B r n f left cnt:=by
 obtain⟨D,L,h,k,l⟩:=h;exact⟨D,L,h.kept I J e,k,l⟩
theorem Zfj {N:Nat}{w w':World}(h:Below N w w')(e:w.heap.size<=N):w.grownBy w' none:=⟨h.os,h.tape,h.output,h.size,fun i hi _=>h.block i (L3 hi e)⟩
section
variable {P:Program} {K:TypeId} (X:PairKey P K) {w:World} {B r n:Nat} {f:Int->Int->Option Value} {left:Int->Int->Bool} {cnt:Nat}
include X
theorem Zi.range {T E:TypeId}(h:Zi P K w B n f)(ht:P.underlying T=some (.map K E)) :
  ∃ w' cnt,(Instr.range T (.map (some B))).run P w= .ok (.pointer (some ⟨w.heap.size,0,none⟩)) w'/\Xn P K w' B w.heap.size n f (fun a b=>(f a b).isSome) cnt/\w.grownBy w' none/\w'.heap.size=w.heap.size+1:=by
 obtain⟨D,h,k⟩:=h;obtain⟨w',O,e,Z,I⟩:=h.range X.law ht;exact⟨w',_,O,⟨D,_,e,k,fun a b Y J=>k.has Y J⟩,Z,I⟩
theorem Xn.next (h:Xn P K w B r n f left cnt)(ty:TypeId) :
  (cnt=0/\(∀ a b,I64 a->I64 b->left a b=false)/\(Instr.next (.pointer (some ⟨r,0,none⟩)) false ty).run P w= .ok (.tuple #[.bool false]) w)\/
  ∃ a b v w' O,I64 a/\I64 b/\left a b=true/\f a b=some v/\(Instr.next (.pointer (some ⟨r,0,none⟩)) false ty).run P w= .ok (.tuple #[.bool true,Zbo a b,v]) w'/\
   Xn P K w' B r n f (Zaz left a b) O/\O<cnt/\w.grownBy w' (some r)/\w'.heap.size=w.heap.size/\(Instr.entry (.pointer (some ⟨r,0,none⟩))).run P w'= .ok (.tuple #[Zbo a b,v]) w':=by
 obtain⟨D,L,h,k,l⟩:=h;rcases h.next X.law ty with ⟨h1,Z,Y⟩|⟨key,v,kx,y,w',O,h1,Z,Y,h4,h5,h6,h7,h8,h9,h10⟩
 ·exact .inl ⟨h1,fun a b J I=>by rw[<-l a b J I];exact Z _,Y⟩
 ·obtain⟨a,b,J,I,rfl,rfl⟩:=Zq6 X h1;refine .inr ⟨a,b,v,w',O,J,I,by rw[<-l a b J I];exact Z,?_,h5,⟨D,_,h6,k,fun x y hx hy=>?_⟩,h7,h8,h9,h10⟩
  ·have e:=k a b J I .nil;rw[h4] at e;simp only[RV,Option.some.injEq] at Y;rw[<-Y] at e;cases hf:f a b with
   | none=>rw[hf] at e;simp at e
   | some u=>rw[hf] at e;simp at e;rw[e]
  ·rw[l x y hx hy];unfold Zaz;congr 1;by_cases e:x=a/\y=b
   ·obtain⟨rfl,rfl⟩:=e;rw[WideAt.sameKey_self (Zmf X _ _ hx hy)];simp
   ·rw[sameKey_ne (fun q=>e (Zme X hx hy J I q))];simp[e]
theorem Zi.tight (h:Zi P K w B n f)(M:List (Int×Int))(hM:∀ a b,I64 a->I64 b->f a b≠none->(a,b)∈M):Zi P K w B M.length f:=by
 obtain⟨D,h,k⟩:=h;have ht:=h.tidy X.law;have hown:=h;obtain⟨I,clock,hb,F,hs,rfl⟩:=h;refine⟨_,⟨I,clock,hb,F,?_,rfl⟩,k⟩;have hnd:=Maps.fit_apart X.law F;have hl:I.size=(I.toList.map (WideElems.rg P K RV)).length:=by simp
 rw[hl];have Z:∀ p∈I.toList.map (WideElems.rg P K RV),∃ q∈M,p.1=kl q.1 q.2:=by
  intro p hp;obtain⟨x,hx,rfl⟩:=List.mem_map.1 hp;obtain⟨y,Y⟩:=F.reads x hx;have hkx:=WideElems.rd_key Y;obtain⟨a,b,ha,O,e1,J⟩:=Zq6 X hkx;refine⟨(a,b),hM a b ha O ?_,by rw[WideElems.rg_of Y];exact J⟩;intro hf;have hz:Maps.has (.map ((I.toList.map (WideElems.rg P K RV)).foldr DataW.insert [])) (kl a b)=true:=by
   rw[has_eq,List.any_eq_true];refine⟨WideElems.rg P K RV x,mem_sorted.2 hp,?_⟩;rw[WideElems.rg_of Y,J];exact WideAt.sameKey_self (Zmf X _ _ ha O)
  rw[k.has ha O,hf] at hz;cases hz
 generalize I.toList.map (WideElems.rg P K RV)=L at hnd Z;clear hl F hs hown ht k hb hM;induction L generalizing M with
 | nil=>simp
 | cons p L ih=>
  obtain⟨h1,h2⟩:=List.pairwise_cons.1 hnd;obtain⟨q,hq,e⟩:=Z p (by simp);have hq':(M.erase q).length=M.length-1:=List.length_erase_of_mem hq;have hpos:0<M.length:=List.length_pos_of_mem hq
  have := ih (M.erase q) h2 (fun p' hp' => by
    obtain ⟨q', hq', e'⟩ := Z p' (by simp [hp'])
    have hne : q' ≠ q := fun J => h1 p' hp' (by rw [e, e', J])
    exact ⟨q', (List.mem_erase_of_ne hne).2 hq', e'⟩)
  simp only[List.length_cons];omega
end
theorem Zbp:PairKey prog 165:=⟨⟨3,⟨underlying165,by kernel_rfl,by kernel_rfl,by kernel_rfl⟩,underlying3⟩,⟨prog.types.size-1,by have:0<prog.types.size:=of_decide_eq_true (by kernel_rfl);omega⟩⟩
end Go.Proofs.YtgpapegpdfonpaaGreatDoor
namespace Go.Proofs.YtgpapegpdfonpaaGreatDoor
open Go.RowKit Go.Maps Go.Proofs.Tryz
abbrev iv (a:Int):Value:=.int .i64 a
abbrev Yh (a b c:Int):Value:=.agg #[.int .i64 a,.int .i64 b,.int .i64 c]
def Zbq (a b c:Int):Int×Int×Int:=if a<=b/\a<=c then (a,b,c) else if b<=c/\b<=a then (b,c,a) else (c,a,b)
def Z6 (a b c:Int):Value:=Yh (Zbq a b c).1 (Zbq a b c).2.1 (Zbq a b c).2.2
theorem Zmg (a b:Int)(w:World) :
  Calls prog 107 #[Zbo a b] w fun e w'=>e= .returned (Zbo b a)/\Below w.heap.size w w':=by
 go_enter func107,ntmps107;go_wp2
 exact bodyPost_ret (v:=Zbo b a) (by simp[results,results107,go_sem]) rfl ⟨rfl,Yq _ _ _⟩
theorem Zzg (a b c:Int)(w:World)(h:a<=b/\a<=c) :
  Calls prog 131 #[Yh a b c] w fun e w'=>e= .returned (Yh a b c)/\Below w.heap.size w w':=by
 have D:¬ (min b c<a):=by omega
 go_enter func131,ntmps131;go_wp2
 refine wp_loop_rounds 1 ?_;rw[rounds_succ];go_wp2
 all_goals exact bodyPost_ret (v:=Yh a b c) (by simp[results,results131,go_sem]) rfl ⟨rfl,Yq _ _ _⟩
theorem Zzh (a b c:Int)(w:World)(h:b<a\/c<a)(J:b<=c/\b<=a) :
  Calls prog 131 #[Yh a b c] w fun e w'=>e= .returned (Yh b c a)/\Below w.heap.size w w':=by
 have O:min b c<a:=by omega
 have D:¬ (min c a<b):=by omega
 have Y:¬ (c<b):=by omega
 have I:¬ (a<b):=by omega
 go_enter func131,ntmps131;go_wp2
 refine wp_loop_rounds 2 ?_;rw[rounds_succ];go_wp2
 rw[rounds_succ];go_wp2
 all_goals exact bodyPost_ret (v:=Yh b c a) (by simp[results,results131,go_sem]) rfl ⟨rfl,Yq _ _ _⟩
theorem Zzi (a b c:Int)(w:World)(h:b<a\/c<a)(J:c<b\/a<b) :
  Calls prog 131 #[Yh a b c] w fun e w'=>e= .returned (Yh c a b)/\Below w.heap.size w w':=by
 have Y:min b c<a:=by omega
 have D:min c a<b:=by omega
 have Z:¬ (min a b<c):=by omega
 have I:c<b:=by omega
 have O:c<a:=by omega
 go_enter func131,ntmps131;go_wp2
 refine wp_loop_rounds 3 ?_;rw[rounds_succ];go_wp2
 rw[rounds_succ];go_wp2
 rw[rounds_succ];go_wp2
 all_goals exact bodyPost_ret (v:=Yh c a b) (by simp[results,results131,go_sem]) rfl ⟨rfl,Yq _ _ _⟩
theorem Zzj (a b c:Int)(w:World) :
  Calls prog 131 #[Yh a b c] w fun e w'=>e= .returned (Z6 a b c)/\Below w.heap.size w w':=by
 unfold Z6 Zbq;by_cases h:a<=b/\a<=c
 ·rw[if_pos h];exact Zzg a b c w h
 ·rw[if_neg h];by_cases D:b<=c/\b<=a
  ·rw[if_pos D];exact Zzh a b c w (by omega) D
  ·rw[if_neg D];exact Zzi a b c w (by omega) (by omega)
end Go.Proofs.YtgpapegpdfonpaaGreatDoor
namespace Go.Proofs.YtgpapegpdfonpaaGreatDoor
open Go.RowKit Go.Maps Go.Proofs.Tryz
open Go.Value(int)
open Go.IntKind(i64)
noncomputable def Zb9 (T A:Nat) (a b:Int) (v:Value) (w:World):World:=match (Instr.mapUpdate T (.map (some A)) (Zbo a b) v).run prog w with | .ok _ w'=>w' | .halt _ w'=>w'
theorem Zzk {A n:Nat}{a b:Int}{f:Int->Int->Option Value}{w:World}(v:Value)(ha:I64 a)(J:I64 b)(Z:n<maxLen){T E:TypeId}(Y:prog.underlying T=some (.map 165 E))(h:Zi prog 165 w A n f) :
  (Instr.mapUpdate T (.map (some A)) (Zbo a b) v).run prog w= .ok () (Zb9 T A a b v w)/\Zi prog 165 (Zb9 T A a b v w) A (n+1) (upd f a b (some v))/\w.grownBy (Zb9 T A a b v w) (some A):=by
 obtain⟨w',D,I,O⟩:=h.put Zbp Z Y ha J v;have e:Zb9 T A a b v w=w':=by unfold Zb9;rw[D]
 rw[e];exact⟨D,I,O⟩
theorem Yn {w:World}{b o:Nat}{v:Value}(h:w.cell? ⟨b,o,none⟩=some v):b<w.heap.size:=by
 rcases Nat.lt_or_ge b w.heap.size with k|k
 ·exact k
 ·have:w.heap[b]? =none:=by simp[k]
  simp[World.cell?,this] at h
theorem Zi.ne_cell {P:Program}{K:TypeId}{w:World}{A n:Nat}{f:Int->Int->Option Value}(h:Zi P K w A n f){b o:Nat}{v:Value}(I:w.cell? ⟨b,o,none⟩=some v):b≠A:=by
 obtain⟨D,⟨O,Y,J,_⟩,_⟩:=h;intro e;subst e;simp[World.cell?,J] at I
theorem Zjt {A n:Nat}{a b:Int}{f:Int->Int->Option Value}{w:World}(v:Value)(ha:I64 a)(Z:I64 b)(hn:n<maxLen){T E:TypeId}(ht:prog.underlying T=some (.map 165 E))(h:Zi prog 165 w A n f) :
  (Instr.mapUpdate T (.map (some A)) (Zbo a b) v).run prog w.drew= .ok () (Zb9 T A a b v w.drew)/\Zi prog 165 (Zb9 T A a b v w.drew) A (n+1) (upd f a b (some v))/\w.grownBy (Zb9 T A a b v w.drew) (some A)/\
   ∀ I o u,w.cell? ⟨I,o,none⟩=some u->(Zb9 T A a b v w.drew).cell? ⟨I,o,none⟩=some u:=by
 obtain⟨h1,Y,D⟩:=Zzk v ha Z hn ht (h.block (w':=w.drew) rfl);have O:w.grownBy (Zb9 T A a b v w.drew) (some A):=⟨D.os,D.tape,D.output,D.size,D.block⟩;exact⟨h1,Y,O,fun I o u J=>O.cell J (fun e=>h.ne_cell J (by simpa using e))⟩
theorem Zq7 (N A n:Nat) (a b c:Int) (f:Int->Int->Option Value) (w:World) (ha:I64 a) (hb:I64 b) (hc:I64 c) (hn:n+3<maxLen)
  (hA:w.cell? ⟨N,2,none⟩=some (.map (some A))) (hm:Zi prog 165 w A n f) :
  Calls prog 105 #[.pointer (some ⟨N,0,none⟩),iv a,iv b,iv c] w fun e w'=>
   e= .returned (.tuple #[])/\Zi prog 165 w' A (n+3) (upd (upd (upd f a b (some (Z6 a b c))) b c (some (Z6 a b c))) c a (some (Z6 a b c)))/\w.grownBy w' (some A):=by
 have hfl:=Zzj a b c w;obtain⟨D,J,I,hrot⟩:∃ D J I,Z6 a b c=Yh D J I:=⟨_,_,_,rfl⟩;rw[hrot] at hfl ⊢;clear hrot;have hNlt:N<w.heap.size:=Yn hA;go_enter func105,ntmps105;go_wp2_with (go_at_call 131;refine hfl.mono ?_;rintro e Z ⟨rfl,hb1⟩)
 generalize Y:Z.alloc (.cells #[int i64 D,int i64 J,int i64 I] 53)=W;have hbW:Below w.heap.size w W:=by rw[<-Y];exact hb1.alloc hb1.size _
 have hgW:w.grownBy W (some A):=(Zfj hbW (Nat.le_refl _)).but _;have c0:W.cell? ⟨Z.heap.size,0,none⟩=some (int i64 D):=by rw[<-Y];simp[go_sem]
 have c1:W.cell? ⟨Z.heap.size,1,none⟩=some (int i64 J):=by rw[<-Y];simp[go_sem]
 have c2:W.cell? ⟨Z.heap.size,2,none⟩=some (int i64 I):=by rw[<-Y];simp[go_sem]
 have cA:W.cell? ⟨N,2,none⟩=some (.map (some A)):=(hbW.cell (p:=⟨N,2,none⟩) hNlt).trans hA;have hmW:Zi prog 165 W A n f:=hm.below hbW hm.lt;clear Y hfl hbW hm hA;generalize Z.heap.size=O at *
 clear hb1;have P1:=Zjt (Yh D J I) ha hb (by omega) underlying159 hmW;generalize hW2:Zb9 159 A a b (Yh D J I) W.drew=W2 at P1;obtain⟨r1,m1,g1,k1⟩:=P1;have d0:=k1 _ _ _ c0;have d1:=k1 _ _ _ c1;have d2:=k1 _ _ _ c2;have dA:=k1 _ _ _ cA;go_region_held3 (fun w'=>w'.cell? ⟨N,2,none⟩=some (.map (some A))/\w'.cell? ⟨O,0,none⟩=some (int i64 D)/\w'.cell? ⟨O,1,none⟩=some (int i64 J)/\w'.cell? ⟨O,2,none⟩=some (int i64 I)) (first|exact⟨dA,d0,d1,d2⟩|go_keep) (fail)
 go_wp2_with fail
 clear r1 k1 c0 c1 c2 cA hmW hW2;have P2:=Zjt (Yh D J I) hb hc (by omega) underlying159 m1;generalize hW3:Zb9 159 A b c (Yh D J I) W2.drew=W3 at P2;obtain⟨r2,m2,g2,k2⟩:=P2;have e0:=k2 _ _ _ d0;have e1:=k2 _ _ _ d1;have e2:=k2 _ _ _ d2;have eA:=k2 _ _ _ dA;go_region_held3 (fun w'=>w'.cell? ⟨N,2,none⟩=some (.map (some A))/\w'.cell? ⟨O,0,none⟩=some (int i64 D)/\w'.cell? ⟨O,1,none⟩=some (int i64 J)/\w'.cell? ⟨O,2,none⟩=some (int i64 I)) (first|exact⟨eA,e0,e1,e2⟩|go_keep) (fail)
 go_wp2_with fail
 clear r2 k2 d0 d1 d2 dA m1 hW3;have P3:=Zjt (Yh D J I) hc ha (by omega) underlying159 m2;generalize hW4:Zb9 159 A c a (Yh D J I) W3.drew=W4 at P3;obtain⟨r3,m3,g3,k3⟩:=P3;have f0:=k3 _ _ _ e0;have f1:=k3 _ _ _ e1;have f2:=k3 _ _ _ e2;have fA:=k3 _ _ _ eA;go_region_held3 (fun w'=>w'.cell? ⟨N,2,none⟩=some (.map (some A))/\w'.cell? ⟨O,0,none⟩=some (int i64 D)/\w'.cell? ⟨O,1,none⟩=some (int i64 J)/\w'.cell? ⟨O,2,none⟩=some (int i64 I)) (first|exact⟨fA,f0,f1,f2⟩|go_keep) (fail)
 go_wp2_with fail
 go_end0
 exact⟨rfl,m3,hgW.andThen (g1.andThen (g2.andThen g3 (fun j hj=>.inr hj)) (fun j hj=>.inr hj)) (fun j hj=>.inr hj)⟩
structure NetAt (w:World)(N Bp A H:Nat):Prop where
 c0:w.cell? ⟨N,0,none⟩=some (.func (.func 34) #[] #[.pointer (some ⟨Bp,0,none⟩)])
 c1:w.cell? ⟨N,1,none⟩=some (.func (.func 36) #[] #[.pointer (some ⟨Bp,0,none⟩)])
 c2:w.cell? ⟨N,2,none⟩=some (.map (some A))
 c3:w.cell? ⟨N,3,none⟩=some (.map (some H))
theorem NetAt.lt {w:World}{N e A H:Nat}(h:NetAt w N e A H):N<w.heap.size:=Yn h.c0
theorem NetAt.below {w w':World}{M N I A H:Nat}(h:NetAt w N I A H)(D:Below M w w')(J:w.heap.size<=M):NetAt w' N I A H:=
 have e:=L3 h.lt J
 ⟨(D.cell (p:=⟨N,0,none⟩) e).trans h.c0,(D.cell (p:=⟨N,1,none⟩) e).trans h.c1,(D.cell (p:=⟨N,2,none⟩) e).trans h.c2,(D.cell (p:=⟨N,3,none⟩) e).trans h.c3⟩
theorem NetAt.grown {w w':World}{N I A H:Nat}{row:Option Nat}(h:NetAt w N I A H)(e:w.grownBy w' row)(D:some N≠row):NetAt w' N I A H:=
 ⟨e.cell h.c0 D,e.cell h.c1 D,e.cell h.c2 D,e.cell h.c3 D⟩
def Zd5 (l:List Pt)(i j k m:Nat):Int:=sg (Zk (px l i) (py l i) (px l j) (py l j) (px l k) (py l k))*sg (Zan (px l i) (py l i) (px l j) (py l j) (px l k) (py l k) (px l m) (py l m))
def Zo (l:List Pt)(i j k:Nat):Int:=sg (Zk (px l i) (py l i) (px l j) (py l j) (px l k) (py l k))
theorem Zmh (x:Int): -1<=sg x/\sg x<=1:=by unfold sg;split;omega;split <;> omega
theorem Zq8 (N J A H b off cap:Nat) (l:List Pt) (i j k p:Nat) (w:World) (hi:i<l.length) (hj:j<l.length) (hk:k<l.length) (hp:p<l.length) (hl:l.length<=60)
  (hN:NetAt w N J A H) (hA:AskAt w J b off cap l) (hn:Zv l) :
  Calls prog 106 #[.pointer (some ⟨N,0,none⟩),Yh i j k,iv p] w fun e w'=>e= .returned (.bool (decide (0<Zd5 l i j k p)))/\Below w.heap.size w w':=by
 have hne:((i:Nat):Int)≠ -1:=by omega
 have O:=Zb w (.cells #[int i64 i,int i64 j,int i64 k] 53);have I:=(hA.below O (Nat.le_refl _)).drew;have N2:=hN.below O (Nat.le_refl _);have hlt:=hN.lt;go_enter func106,ntmps106;go_wp2_with fail
 generalize Y:w.alloc (.cells #[int i64 i,int i64 j,int i64 k] 53)=W at *
 have Z:W.cell? ⟨w.heap.size,0,none⟩=some (int i64 i):=by rw[<-Y];simp[go_sem]
 have d1:W.cell? ⟨w.heap.size,1,none⟩=some (int i64 j):=by rw[<-Y];simp[go_sem]
 have d2:W.cell? ⟨w.heap.size,2,none⟩=some (int i64 k):=by rw[<-Y];simp[go_sem]
 have e1:=N2.c1;have aa:=Zo3 J b off cap l i j k p W.drew hi hj hk hp (by omega) I.hb I.hB I.cell I.pts hn;clear I N2 hA hN Y;rw[show sg (Zk (px l i) (py l i) (px l j) (py l j) (px l k) (py l k))*sg (Zan (px l i) (py l i) (px l j) (py l j) (px l k) (py l k) (px l p) (py l p))=Zd5 l i j k p from rfl] at aa;generalize hC:Zd5 l i j k p=C at aa;have hk:∀ w',Below W.drew.heap.size W.drew w'->w'.cell? ⟨N,1,none⟩=some (.func (.func 36) #[] #[.pointer (some ⟨J,0,none⟩)])/\w'.cell? ⟨w.heap.size,0,none⟩=some (int i64 i)/\w'.cell? ⟨w.heap.size,1,none⟩=some (int i64 j)/\w'.cell? ⟨w.heap.size,2,none⟩=some (int i64 k):=fun w' h=>
  ⟨(h.cell (p:=⟨N,1,none⟩) (Yn e1)).trans e1,(h.cell (p:=⟨w.heap.size,0,none⟩) (Yn Z)).trans Z,(h.cell (p:=⟨w.heap.size,1,none⟩) (Yn d1)).trans d1,(h.cell (p:=⟨w.heap.size,2,none⟩) (Yn d2)).trans d2⟩
 go_region_held3 (fun w'=>w'.cell? ⟨N,1,none⟩=some (.func (.func 36) #[] #[.pointer (some ⟨J,0,none⟩)])/\w'.cell? ⟨w.heap.size,0,none⟩=some (int i64 i)/\w'.cell? ⟨w.heap.size,1,none⟩=some (int i64 j)/\w'.cell? ⟨w.heap.size,2,none⟩=some (int i64 k)) (first|exact⟨e1,Z,d1,d2⟩|exact hk _ D)
  (first|(go_at_call 36;refine aa.mono ?_;rintro e w' ⟨rfl,D⟩))
 go_wp2
 go_ret;exact⟨by rw[hC];rfl,O.trans (Below.mono (w:=W) (w':=w') ⟨D.os,D.tape,D.output,D.size,D.block⟩ O.size)⟩
theorem Zq9 {N:Nat}{w w':World}(h:Below N w.drew w'):Below N w w':=⟨h.os,h.tape,h.output,h.size,h.block⟩
theorem Zzl (N I A H b off cap:Nat) (l:List Pt) (u v p:Nat) (w:World) (hu:u<l.length) (hv:v<l.length) (hp:p<l.length) (hl:l.length<=60)
  (hN:NetAt w N I A H) (hA:AskAt w I b off cap l) (hn:Zv l) (hs:Zo l u v p≠0) :
  Calls prog 106 #[.pointer (some ⟨N,0,none⟩),Yh (-1) u v,iv p] w fun e w'=>e= .returned (.bool (decide (0<Zo l u v p)))/\Below w.heap.size w w':=by
 have J:=Yq w (.cells #[int i64 (-1),int i64 u,int i64 v] 53) (.cells #[int i64 u,int i64 v] 165);have D:=(hA.below J (Nat.le_refl _)).drew;have N2:=hN.below J (Nat.le_refl _);have hlt:=hN.lt;go_enter func106,ntmps106;go_wp2_with fail
 generalize O:(w.alloc (.cells #[int i64 (-1),int i64 u,int i64 v] 53)).alloc (.cells #[int i64 u,int i64 v] 165)=W at *
 have Y:W.cell? ⟨w.heap.size+1,0,none⟩=some (int i64 u):=by rw[<-O];simp[go_sem]
 have d1:W.cell? ⟨w.heap.size+1,1,none⟩=some (int i64 v):=by rw[<-O];simp[go_sem]
 have e1:=N2.c0;have Z:=Zc3 I b off cap l u v p W.drew hu hv hp (by omega) D.hb D.hB D.cell D.pts hn;clear D N2 hA hN O;rw[show sg (Zk (px l u) (py l u) (px l v) (py l v) (px l p) (py l p))=Zo l u v p from rfl] at Z;generalize hC:Zo l u v p=C at Z hs;have hk:∀ w',Below W.drew.heap.size W.drew w'->w'.cell? ⟨N,0,none⟩=some (.func (.func 34) #[] #[.pointer (some ⟨I,0,none⟩)])/\w'.cell? ⟨w.heap.size+1,0,none⟩=some (int i64 u)/\w'.cell? ⟨w.heap.size+1,1,none⟩=some (int i64 v):=fun w' h=>
  ⟨(h.cell (p:=⟨N,0,none⟩) (Yn e1)).trans e1,(h.cell (p:=⟨w.heap.size+1,0,none⟩) (Yn Y)).trans Y,(h.cell (p:=⟨w.heap.size+1,1,none⟩) (Yn d1)).trans d1⟩
 go_region_held3 (fun w'=>w'.cell? ⟨N,0,none⟩=some (.func (.func 34) #[] #[.pointer (some ⟨I,0,none⟩)])/\w'.cell? ⟨w.heap.size+1,0,none⟩=some (int i64 u)/\w'.cell? ⟨w.heap.size+1,1,none⟩=some (int i64 v)) (first|exact⟨e1,Y,d1⟩|exact hk _ hb2)
  (first|(go_at_call 34;refine Z.mono ?_;rintro e w' ⟨rfl,hb2⟩))
 go_wp2
 go_ret;exact⟨by rw[hC];rfl,J.trans ((Zq9 hb2).mono J.size)⟩
theorem Zzm (w:World):(zeroValue 53).run prog w= .ok (Yh 0 0 0) w:=by kernel_rfl
theorem Zzn (N Z A H b off cap n:Nat) (l:List Pt) (f:Int->Int->Option Value) (u v p i j k:Nat) (w:World) (hu:u<l.length) (hv:v<l.length) (hp:p<l.length) (hl:l.length<=60)
  (hi:i<l.length) (hj:j<l.length) (hk:k<l.length)
  (hN:NetAt w N Z A H) (hA:AskAt w Z b off cap l) (hn:Zv l) (hs:Zo l u v p=0) (hm:Zi prog 165 w A n f) (hf:f v u=some (Yh i j k)) :
  Calls prog 106 #[.pointer (some ⟨N,0,none⟩),Yh (-1) u v,iv p] w fun e w'=>e= .returned (.bool (decide (0<Zd5 l i j k p)))/\Below w.heap.size w w':=by
 have aa:=Yq w (.cells #[int i64 (-1),int i64 u,int i64 v] 53) (.cells #[int i64 u,int i64 v] 165);have Y:=hA.below aa (Nat.le_refl _);have N2:=hN.below aa (Nat.le_refl _);have M2:=hm.below aa hm.lt;have hlt:=hN.lt;go_enter func106,ntmps106;go_wp2_with fail
 generalize hW:(w.alloc (.cells #[int i64 (-1),int i64 u,int i64 v] 53)).alloc (.cells #[int i64 u,int i64 v] 165)=W at *
 have I:W.cell? ⟨w.heap.size+1,0,none⟩=some (int i64 u):=by rw[<-hW];simp[go_sem]
 have J:W.cell? ⟨w.heap.size+1,1,none⟩=some (int i64 v):=by rw[<-hW];simp[go_sem]
 have e1:=N2.c0;have e2:=N2.c2;have hask:=Zc3 Z b off cap l u v p W.drew hu hv hp (by omega) Y.drew.hb Y.drew.hB Y.drew.cell Y.drew.pts hn;clear hA hN hW hm;rw[show sg (Zk (px l u) (py l u) (px l v) (py l v) (px l p) (py l p))=0 from hs] at hask;clear hs;have hk1:∀ w',Below W.drew.heap.size W.drew w'->w'.cell? ⟨N,0,none⟩=some (.func (.func 34) #[] #[.pointer (some ⟨Z,0,none⟩)])/\w'.cell? ⟨w.heap.size+1,0,none⟩=some (int i64 u)/\w'.cell? ⟨w.heap.size+1,1,none⟩=some (int i64 v):=fun w' h=>
  ⟨(h.cell (p:=⟨N,0,none⟩) (Yn e1)).trans e1,(h.cell (p:=⟨w.heap.size+1,0,none⟩) (Yn I)).trans I,(h.cell (p:=⟨w.heap.size+1,1,none⟩) (Yn J)).trans J⟩
 have hk2:∀ D O,(Below W.heap.size W D/\D.cell? ⟨N,2,none⟩=some (.map (some A))/\D.cell? ⟨w.heap.size+1,0,none⟩=some (int i64 u)/\D.cell? ⟨w.heap.size+1,1,none⟩=some (int i64 v)/\Zi prog 165 D A n f)->Below D.heap.size D O->(Below W.heap.size W O/\O.cell? ⟨N,2,none⟩=some (.map (some A))/\O.cell? ⟨w.heap.size+1,0,none⟩=some (int i64 u)/\O.cell? ⟨w.heap.size+1,1,none⟩=some (int i64 v)/\Zi prog 165 O A n f):=fun D O h hb=>
  have hbb:=h.1.trans (hb.mono h.1.size)
  ⟨hbb,(hbb.cell (p:=⟨N,2,none⟩) (Yn e2)).trans e2,(hbb.cell (p:=⟨w.heap.size+1,0,none⟩) (Yn I)).trans I,(hbb.cell (p:=⟨w.heap.size+1,1,none⟩) (Yn J)).trans J,M2.below hbb M2.lt⟩
 have hk3:∀ D,(Below W.heap.size W D/\D.cell? ⟨N,2,none⟩=some (.map (some A))/\D.cell? ⟨w.heap.size+1,0,none⟩=some (int i64 u)/\D.cell? ⟨w.heap.size+1,1,none⟩=some (int i64 v)/\Zi prog 165 D A n f)->(Below W.heap.size W D.drew/\D.drew.cell? ⟨N,2,none⟩=some (.map (some A))/\D.drew.cell? ⟨w.heap.size+1,0,none⟩=some (int i64 u)/\D.drew.cell? ⟨w.heap.size+1,1,none⟩=some (int i64 v)/\Zi prog 165 D.drew A n f):=fun D h=>⟨h.1.drew,h.2.1,h.2.2.1,h.2.2.2.1,h.2.2.2.2.block rfl⟩
 have hst:∀ w',Below W.drew.heap.size W.drew w'->(Below W.heap.size W w'/\w'.cell? ⟨N,2,none⟩=some (.map (some A))/\w'.cell? ⟨w.heap.size+1,0,none⟩=some (int i64 u)/\w'.cell? ⟨w.heap.size+1,1,none⟩=some (int i64 v)/\Zi prog 165 w' A n f):=fun w' h=>
  have h:=Zq9 h
  ⟨h,(h.cell (p:=⟨N,2,none⟩) (Yn e2)).trans e2,(h.cell (p:=⟨w.heap.size+1,0,none⟩) (Yn I)).trans I,(h.cell (p:=⟨w.heap.size+1,1,none⟩) (Yn J)).trans J,M2.below h M2.lt⟩
 have hlk:∀ w',Zi prog 165 w' A n f->(Instr.lookup 159 (.map (some A)) (.agg #[int i64 v,int i64 u]) false).run prog w'= .ok (.agg #[int i64 i,int i64 j,int i64 k]) w':=fun w' h=>by
  have:=h.look Zbp underlying159 (Zzm w') (a:=v) (b:=u) (Zcy (by omega) (by omega)) (Zcy (by omega) (by omega));rw[hf] at this;exact this
 have HR:∀ w',(Below W.heap.size W w'/\w'.cell? ⟨N,2,none⟩=some (.map (some A))/\w'.cell? ⟨w.heap.size+1,0,none⟩=some (int i64 u)/\w'.cell? ⟨w.heap.size+1,1,none⟩=some (int i64 v)/\Zi prog 165 w' A n f)->Calls prog 106 #[.pointer (some ⟨N,0,none⟩),.agg #[int i64 i,int i64 j,int i64 k],iv p] w' fun e w''=>e= .returned (.bool (decide (0<Zd5 l i j k p)))/\Below w'.heap.size w' w'':=fun w' h=>
  Zq8 N Z A H b off cap l i j k p w' hi hj hk hp hl (N2.below h.1 (Nat.le_refl _)) (Y.below h.1 (Nat.le_refl _)) hn
 clear Y N2 M2;generalize hC:Zd5 l i j k p=C at HR;go_region_held3 (fun w'=>w'.cell? ⟨N,0,none⟩=some (.func (.func 34) #[] #[.pointer (some ⟨Z,0,none⟩)])/\w'.cell? ⟨w.heap.size+1,0,none⟩=some (int i64 u)/\w'.cell? ⟨w.heap.size+1,1,none⟩=some (int i64 v)) (first|exact⟨e1,I,J⟩|exact hk1 _ hb2)
  (first|(go_at_call 34;refine hask.mono ?_;rintro e w' ⟨rfl,hb2⟩))
 go_wp2_with fail
 have hS0:=hst _ hb2;clear hk1 hask hb2 hst e1 e2 I J;generalize w'=V at *
 obtain⟨g0,g1,g2,g3,g4⟩:=id hS0;go_region_held3 (fun w'=>Below W.heap.size W w'/\w'.cell? ⟨N,2,none⟩=some (.map (some A))/\w'.cell? ⟨w.heap.size+1,0,none⟩=some (int i64 u)/\w'.cell? ⟨w.heap.size+1,1,none⟩=some (int i64 v)/\Zi prog 165 w' A n f) (first|exact hk3 _ hS0|exact hk2 _ _ (hk3 _ hS0) hb3|exact hk2 _ _ (by assumption) hb3)
  (first|(go_at_call 107;refine (Zmg _ _ _).mono ?_;rintro e w' ⟨rfl,hb3⟩)|(go_at_call 106;refine (HR _ (by assumption)).mono ?_;rintro e w' ⟨rfl,hb3⟩))
 have hS1:=(by assumption:Below W.heap.size W w'/\w'.cell? ⟨N,2,none⟩=some (.map (some A))/\w'.cell? ⟨w.heap.size+1,0,none⟩=some (int i64 u)/\w'.cell? ⟨w.heap.size+1,1,none⟩=some (int i64 v)/\Zi prog 165 w' A n f);go_wp2
 go_ret;exact⟨by rw[hC];rfl,aa.trans (hS1.1.mono aa.size)⟩
end Go.Proofs.YtgpapegpdfonpaaGreatDoor
namespace Go.Proofs.YtgpapegpdfonpaaGreatDoor
open Go.RowKit Go.Maps Go.Proofs.Tryz
open Classical in
noncomputable def fOf (T:Int->Int->Int->Prop) (x y:Int):Option Value:=if h:∃ z,T x y z then some (Z6 x y (Classical.choose h)) else none
def Fn (T:Int->Int->Int->Prop):Prop:=∀ x y z w,T x y z->T x y w->z=w
theorem NetOf.fnT {P:Int->Pt}{S:List Int}{a b c:Int}{Tr:Int->Int->Int->Prop}(N:NetOf P S a b c Tr):Fn Tr:=fun _ _ _ _ h e=>N.fn h e
theorem Zgm {T:Int->Int->Int->Prop}(D:Fn T){x y z:Int}(h:T x y z):fOf T x y=some (Z6 x y z):=by
 unfold fOf;have e:∃ z,T x y z:=⟨z,h⟩;rw[dif_pos e,D _ _ _ _ (Classical.choose_spec e) h]
theorem Zj5 {T:Int->Int->Int->Prop}{x y:Int}(h:∀ z,¬ T x y z):fOf T x y=none:=by
 unfold fOf;rw[dif_neg (fun ⟨z,hz⟩=>h z hz)]
theorem Zhx {T:Int->Int->Int->Prop}{x y:Int}{v:Value}(h:fOf T x y=some v):∃ z,T x y z/\v=Z6 x y z:=by
 unfold fOf at h;split at h
 ·rename_i e;simp only[Option.some.injEq] at h;exact⟨_,Classical.choose_spec e,h.symm⟩
 ·cases h
theorem Zmv {T:Int->Int->Int->Prop}{x y:Int}:(fOf T x y).isSome=true↔∃ z,T x y z:=by
 constructor
 ·intro h;obtain⟨v,D⟩:=Option.isSome_iff_exists.1 h;obtain⟨z,e,_⟩:=Zhx D;exact⟨z,e⟩
 ·rintro⟨z,e⟩;unfold fOf;rw[dif_pos ⟨z,e⟩];rfl
theorem Zz7 {T:Int->Int->Int->Prop}{x y:Int}:fOf T x y≠none↔∃ z,T x y z:=by
 rw[<-Zmv,Option.isSome_iff_ne_none]
theorem Zgn {T T':Int->Int->Int->Prop}(I:Fn T'){x y:Int}(h:∀ z,T x y z↔T' x y z):fOf T x y=fOf T' x y:=by
 by_cases D:∃ z,T x y z
 ·obtain⟨z,e⟩:=D;have J:∀ w,T x y w->w=z:=fun w O=>I _ _ _ _ ((h w).1 O) ((h z).1 e)
  rw[Zgm I ((h z).1 e)];unfold fOf;have D:∃ z,T x y z:=⟨z,e⟩;rw[dif_pos D,J _ (Classical.choose_spec D)]
 ·rw[Zj5 (fun z e=>D ⟨z,e⟩),Zj5 (fun z e=>D ⟨z,(h z).2 e⟩)]
theorem Zmw {a b c:Int}(D:a≠b)(e:b≠c)(I:c≠a):Z6 b c a=Z6 a b c:=by
 unfold Z6;have:Zbq b c a=Zbq a b c:=by
  unfold Zbq;repeat' split
  all_goals first|rfl|(exfalso;omega)
 rw[this]
theorem Zhy {T T':Int->Int->Int->Prop}(e:Fn T'){a b c:Int}(I:a≠b)(D:b≠c)(J:c≠a)(h:∀ x y z,T' x y z↔T x y z\/Z7 a b c x y z)(x y:Int) :
  upd (upd (upd (fOf T) a b (some (Z6 a b c))) b c (some (Z6 a b c))) c a (some (Z6 a b c)) x y=fOf T' x y:=by
 by_cases Z:x=c/\y=a
 ·obtain⟨rfl,rfl⟩:=Z;rw[Zfg,Zgm e ((h _ _ b).2 (.inr (.inr (.inr ⟨rfl,rfl,rfl⟩)))),<-Zmw I D J,<-Zmw D J I]
 ·rw[Zfh _ _ Z];by_cases O:x=b/\y=c
  ·obtain⟨rfl,rfl⟩:=O;rw[Zfg,Zgm e ((h _ _ a).2 (.inr (.inr (.inl ⟨rfl,rfl,rfl⟩)))),<-Zmw I D J]
  ·rw[Zfh _ _ O];by_cases Y:x=a/\y=b
   ·obtain⟨rfl,rfl⟩:=Y;rw[Zfg,Zgm e ((h _ _ c).2 (.inr (.inl ⟨rfl,rfl,rfl⟩)))]
   ·rw[Zfh _ _ Y];refine Zgn e (fun z=>?_);rw[h];constructor
    ·exact .inl
    ·rintro (r|r)
     ·exact r
     ·unfold Z7 at r;omega
theorem Zz8 {T T':Int->Int->Int->Prop}(D:Fn T'){a b:Int}(h:∀ x y z,T' x y z↔T x y z/\¬ (x=a/\y=b))(x y:Int):upd (fOf T) a b none x y=fOf T' x y:=by
 by_cases k:x=a/\y=b
 ·obtain⟨rfl,rfl⟩:=k;rw[Zfg,Zj5 (fun z e=>((h _ _ _).1 e).2 ⟨rfl,rfl⟩)]
 ·rw[Zfh _ _ k];refine Zgn D (fun z=>?_);rw[h];exact⟨fun r=>⟨r,k⟩,fun r=>r.1⟩
theorem Zi.congr {P:Program}{K:TypeId}{w:World}{B n:Nat}{f g:Int->Int->Option Value}(h:Zi P K w B n f)(e:∀ a b,I64 a->I64 b->f a b=g a b):Zi P K w B n g:=by
 obtain⟨D,h,k⟩:=h;exact⟨D,h,fun a b J I z=>by rw[<-e a b J I];exact k a b J I z⟩
def pOf (l:List Pt)(i:Int):Pt:=Za l i.toNat
theorem Zby (l:List Pt)(i:Nat):pOf l i=Za l i:=rfl
theorem Zj6 (l:List Pt)(i j k:Nat):Zo l i j k=sg (sd (Za l i) (Za l j) (Za l k)):=rfl
theorem Zrk (l:List Pt)(i j k m:Nat):Zd5 l i j k m=sg (sd (Za l i) (Za l j) (Za l k))*sg (cc (Za l i) (Za l j) (Za l k) (Za l m)):=rfl
theorem Zfq (x:Int):0<sg x↔0<x:=by unfold sg;constructor <;> intro h <;> (repeat' split at *) <;> omega
theorem Zmx {x:Int}(h:0<x):sg x=1:=by unfold sg;rw[if_pos h]
theorem Zdr (x:Int):sg x=0↔x=0:=by unfold sg;constructor <;> intro h <;> (repeat' split at *) <;> omega
theorem Zds {S:List Int}{l:List Pt}(e:∀ i∈S,0<=i/\i<l.length){x:Int}(h:x∈S):∃ i:Nat,x=i/\i<l.length:=by
 have:=e x h;exact⟨x.toNat,by omega,by omega⟩
theorem Zz9 {l:List Pt} {S:List Int} {a b c:Int} {Tr:Int->Int->Int->Prop} (I:NetOf (pOf l) S a b c Tr) (hS:∀ i∈S,0<=i/\i<l.length) (N Bp A H bb off cap n:Nat) (p:Nat) (w:World)
  (hp:p<l.length) (hpn:Yo (Za l p)) (hl:l.length<=60) (hN:NetAt w N Bp A H) (hA:AskAt w Bp bb off cap l) (hn:Zv l) (hm:Zi prog 165 w A n (fOf Tr)) {x y z:Int} (Z:Tr x y z) :
  Calls prog 106 #[.pointer (some ⟨N,0,none⟩),Z6 x y z,iv p] w fun e w'=>
   e= .returned (.bool (decide (0<kk (VV (pOf l) a b c x) (VV (pOf l) a b c y) (VV (pOf l) a b c z) (VV (pOf l) a b c p))))/\Below w.heap.size w w':=by
 have Vp:VV (pOf l) a b c p=Ze (Za l p):=Zew _ _ _ _ (by omega);have real:∀ {x y z:Int},Tr x y z->x∈S->y∈S->z∈S->Calls prog 106 #[.pointer (some ⟨N,0,none⟩),Yh x y z,iv p] w fun e w'=>
   e= .returned (.bool (decide (0<kk (VV (pOf l) a b c x) (VV (pOf l) a b c y) (VV (pOf l) a b c z) (VV (pOf l) a b c p))))/\Below w.heap.size w w':=by
  intro x y z Z J O Y;have hsd:=I.side Z J O Y;rw[I.vv J,I.vv O,I.vv Y,Vp,Zhu];obtain⟨i,rfl,hi⟩:=Zds hS J;obtain⟨j,rfl,hj⟩:=Zds hS O;obtain⟨k,rfl,hk⟩:=Zds hS Y;rw[Zby,Zby,Zby] at *
  refine (Zq8 N Bp A H bb off cap l i j k p w hi hj hk hp hl hN hA hn).mono fun e w' h=>?_
  refine⟨?_,h.2⟩;rw[h.1];have:decide (0<Zd5 l i j k p)=decide (0<cc (Za l i) (Za l j) (Za l k) (Za l p)):=by
   rw[Zrk,Zmx hsd,Int.one_mul];exact decide_eq_decide.2 (Zfq _)
  rw[this]
 have ghost:∀ {x y:Int},Tr x y (-1)->Calls prog 106 #[.pointer (some ⟨N,0,none⟩),Yh (-1) x y,iv p] w fun e w'=>
   e= .returned (.bool (decide (0<kk (VV (pOf l) a b c x) (VV (pOf l) a b c y) (VV (pOf l) a b c (-1)) (VV (pOf l) a b c p))))/\Below w.heap.size w w':=by
  intro x y Z;obtain⟨J,O⟩:=I.ghost_mem Z;have hD:=I.pos Z;obtain⟨z,Y,ht2⟩:=I.ghost_pair Z;have hsd:=I.side ht2 O J Y;have g:=Zrf (I.near x J) (I.near y O) (I.near a I.ma) (I.near b I.mb) (I.near c I.mc) (q:=Za l p) hpn;rw[I.vv J,I.vv O,Zdp] at hD ⊢;rw[Vp];by_cases h0:sd (pOf l x) (pOf l y) (Za l p)=0
  ·have hk:=g.2.2 h0;rw[hk];have hcc:=Zhv (pOf l y) (pOf l x) (pOf l z) (Za l p);have s1:sd (pOf l y) (pOf l x) (Za l p)=0:=by have:sd (pOf l y) (pOf l x) (Za l p)= - sd (pOf l x) (pOf l y) (Za l p):=by { unfold sd;grind };omega
   have s2:dt (pOf l y) (pOf l x) (Za l p)=dt (pOf l x) (pOf l y) (Za l p):=Zi1 _ _ _;rw[s1,s2,Int.zero_mul,Int.add_zero] at hcc;obtain⟨fv,hfv⟩:∃ fv,fOf Tr y x=some fv:=⟨_,Zgm I.fnT ht2⟩;have hrot:fOf Tr y x=some (Z6 y x z):=Zgm I.fnT ht2;have turn:∃ i j k:Int,Z6 y x z=Yh i j k/\Tr i j k/\i∈S/\j∈S/\k∈S/\0<sd (pOf l i) (pOf l j) (pOf l k)/\cc (pOf l i) (pOf l j) (pOf l k) (Za l p)=cc (pOf l y) (pOf l x) (pOf l z) (Za l p):=by
    have t2:=I.rot ht2;have t3:=I.rot t2;have r1:∀ u v w q:Pt,cc v w u q=cc u v w q:=by intro u v w q;unfold cc;grind
    unfold Z6 Zbq;split
    ·exact⟨y,x,z,rfl,ht2,O,J,Y,hsd,rfl⟩
    ·split
     ·exact⟨x,z,y,rfl,t2,J,Y,O,I.side t2 J Y O,r1 _ _ _ _⟩
     ·exact⟨z,y,x,rfl,t3,Y,O,J,I.side t3 Y O J,by rw[<-r1]⟩
   obtain⟨i,j,k,e,t,hi,hj,hk',hijk,hcc'⟩:=turn;rw[e] at hrot;obtain⟨u,rfl,hu⟩:=Zds hS J;obtain⟨v,rfl,hv⟩:=Zds hS O;obtain⟨i,rfl,hi2⟩:=Zds hS hi;obtain⟨j,rfl,hj2⟩:=Zds hS hj;obtain⟨k,rfl,hk''⟩:=Zds hS hk';refine (Zzn N Bp A H bb off cap n l (fOf Tr) u v p i j k w hu hv hp hl hi2 hj2 hk'' hN hA hn ((Zdr _).2 h0) hm hrot).mono fun e w' h=>⟨?_,h.2⟩
   rw[h.1];have:decide (0<Zd5 l i j k p)=decide (0 < -(d3 (Ze (pOf l u)) (Ze (pOf l v)) (Xd (pOf l a) (pOf l b) (pOf l c))*dt (pOf l u) (pOf l v) (Za l p))):=by
    rw[Zrk];rw[Zby,Zby,Zby] at hijk hcc';rw[Zmx hijk,Int.one_mul];refine decide_eq_decide.2 ((Zfq _).trans ?_);rw[hcc',hcc];generalize sd (pOf l v) (pOf l u) (pOf l z)=s at *
    generalize d3 (Ze (pOf l u)) (Ze (pOf l v)) (Xd (pOf l a) (pOf l b) (pOf l c))=D at *
    generalize dt (pOf l u) (pOf l v) (Za l p)=t at *
    have n1: -s*t=s*(-t):=by rw[Int.neg_mul,Int.mul_neg]
    have n2: -(D*t)=D*(-t):=by rw[Int.mul_neg]
    rw[n1,n2];exact⟨fun h=>mpp hD (Zeu hsd h),fun h=>mpp hsd (Zeu hD h)⟩
   rw[this]
  ·obtain⟨u,rfl,hu⟩:=Zds hS J;obtain⟨v,rfl,hv⟩:=Zds hS O;refine (Zzl N Bp A H bb off cap l u v p w hu hv hp hl hN hA hn (fun e=>h0 ((Zdr _).1 e))).mono fun e w' h=>⟨?_,h.2⟩
   rw[h.1];have:decide (0<Zo l u v p)=decide (0<kk (Ze (pOf l u)) (Ze (pOf l v)) (Xd (pOf l a) (pOf l b) (pOf l c)) (Ze (Za l p))):=by
    rw[Zj6];refine decide_eq_decide.2 ((Zfq _).trans ⟨fun h=>g.1 h,fun h=>?_⟩);rcases Int.lt_or_le 0 (sd (pOf l u) (pOf l v) (Za l p)) with k|k
    ·exact k
    ·have:=g.2.1 (by omega);omega
   rw[this]
 have t2:=I.rot Z;have t3:=I.rot t2;obtain⟨n1,n2,n3⟩:=I.ne3 Z;have lx:=I.lab Z;have ly:=I.lab t2;have lz:=I.lab t3;have nn:=I.nn;have kr1:=Zar (VV (pOf l) a b c x) (VV (pOf l) a b c y) (VV (pOf l) a b c z) (VV (pOf l) a b c p);have kr2:=Zar (VV (pOf l) a b c y) (VV (pOf l) a b c z) (VV (pOf l) a b c x) (VV (pOf l) a b c p);rcases lx with rfl|J
 ·have O:=ly.resolve_left (fun e=>n1 e.symm);have Y:=lz.resolve_left n3;have e:Z6 (-1) y z=Yh (-1) y z:=by unfold Z6 Zbq;rw[if_pos (by have:=nn y O;have:=nn z Y;omega)]
  rw[e,<-kr1];exact ghost t2
 ·rcases ly with rfl|O
  ·have Y:=lz.resolve_left (fun e=>n2 e.symm);have e:Z6 x (-1) z=Yh (-1) z x:=by
    unfold Z6 Zbq;rw[if_neg (by have:=nn x J;omega),if_pos (by have:=nn x J;have:=nn z Y;omega)]
   rw[e,<-kr1,<-kr2];exact ghost t3
  ·rcases lz with rfl|Y
   ·have e:Z6 x y (-1)=Yh (-1) x y:=by
     unfold Z6 Zbq;rw[if_neg (by have:=nn x J;omega),if_neg (by have:=nn y O;omega)]
    rw[e];exact ghost Z
   ·unfold Z6 Zbq;split
    ·exact real Z J O Y
    ·split
     ·rw[<-kr1];exact real t2 O Y J
     ·rw[<-kr1,<-kr2];exact real t3 Y J O
end Go.Proofs.YtgpapegpdfonpaaGreatDoor
namespace Go.Proofs.YtgpapegpdfonpaaGreatDoor
open Go.RowKit Go.Maps Go.Proofs.Tryz
open Go.Value(int)
open Go.IntKind(i64)
section
variable {P:Program} {K:TypeId} (X:PairKey P K) (w:World) {ops:Array Oper} {rest:List Oper} {o:Oper} {a:Act} {Q:Exit->Act->World->Prop}
include X
theorem Zrl (hg:o.guard=none) (O:Operand) (aa:o.op=Op.next O false) (B r n:Nat) (f:Int->Int->Option Value) (left:Int->Int->Bool) (cnt:Nat)
  (hit:a.eval O= .pointer (some ⟨r,0,none⟩)) (h:Xn P K w B r n f left cnt) (inv:∀ x y v,f x y=some v->∃ e I D,v=Yh e I D)
  (hDone:cnt=0->(∀ x y,I64 x->I64 y->left x y=false)->wpList P ops Q rest (a.put o.dst (.tuple #[.bool false])) w)
  (hMore : ∀ (x y e I D : Int) (w' : World) (J : Nat), I64 x → I64 y → left x y = true → f x y = some (Yh e I D) → Xn P K w' B r n f (Zaz left x y) J → J < cnt → w.grownBy w' (some r) → w'.heap.size = w.heap.size →
    (Instr.entry (.pointer (some ⟨r, 0, none⟩))).run P w' = .ok (.tuple #[.agg #[int i64 x, int i64 y], .agg #[int i64 e, int i64 I, int i64 D]]) w' →
    wpList P ops Q rest (a.put o.dst (.tuple #[.bool true, .agg #[int i64 x, int i64 y], .agg #[int i64 e, int i64 I, int i64 D]])) w') :
  wpList P ops Q (o :: rest) a w:=by
 refine wpList_plain hg fun K' Z=>?_
 unfold Oper.wp;rcases h.next X o.type with ⟨h1,h2,h3⟩|⟨x,y,v,w',J,hx,hy,hl,Y,hrun,hr,hc,hgr,hs,hen⟩
 ·simp[execOp,aa,hit,h3,Result.andThen];exact Z _ _ (hDone h1 h2)
 ·obtain⟨e,I,D,rfl⟩:=inv x y v Y;simp[execOp,aa,hit,hrun,Result.andThen];exact Z _ _ (hMore x y e I D w' J hx hy hl Y hr hc hgr hs hen)
theorem Zrm (hg:o.guard=none) (D:Operand) (O:o.op=Op.next D false) (B r n:Nat) (f:Int->Int->Option Value) (left:Int->Int->Bool) (cnt:Nat)
  (hit:a.eval D= .pointer (some ⟨r,0,none⟩)) (h:Xn P K w B r n f left cnt) (inv:∀ x y v,f x y=some v->v= .agg #[])
  (hDone:cnt=0->(∀ x y,I64 x->I64 y->left x y=false)->wpList P ops Q rest (a.put o.dst (.tuple #[.bool false])) w)
  (hMore : ∀ (x y : Int) (w' : World) (e : Nat), I64 x → I64 y → left x y = true → f x y = some (.agg #[]) → Xn P K w' B r n f (Zaz left x y) e → e < cnt → w.grownBy w' (some r) → w'.heap.size = w.heap.size →
    (Instr.entry (.pointer (some ⟨r, 0, none⟩))).run P w' = .ok (.tuple #[.agg #[int i64 x, int i64 y], .agg #[]]) w' →
    wpList P ops Q rest (a.put o.dst (.tuple #[.bool true, .agg #[int i64 x, int i64 y], .agg #[]])) w') :
  wpList P ops Q (o :: rest) a w:=by
 refine wpList_plain hg fun K' J=>?_
 unfold Oper.wp;rcases h.next X o.type with ⟨h1,Y,h3⟩|⟨x,y,v,w',e,hx,hy,hl,I,hrun,hr,hc,hgr,Z,hen⟩
 ·simp[execOp,O,hit,h3,Result.andThen];exact J _ _ (hDone h1 Y)
 ·obtain rfl:=inv x y v I;simp[execOp,O,hit,hrun,Result.andThen];exact J _ _ (hMore x y w' e hx hy hl I hr hc hgr Z hen)
end
structure G2 (w w':World)(A H:Nat):Prop where
 os:w'.os=w.os
 tape:w'.tape=w.tape
 output:w'.output=w.output
 size:w.heap.size<=w'.heap.size
 block:∀ i,i<w.heap.size->i≠A->i≠H->w'.heap[i]? =w.heap[i]?
theorem G2.refl (w:World)(A H:Nat):G2 w w A H:=⟨rfl,rfl,rfl,Nat.le_refl _,fun _ _ _ _=>rfl⟩
theorem G2.grown {w I J:World}{A H:Nat}{row:Option Nat}(h:G2 w I A H)(g:I.grownBy J row)(Y:∀ j,row=some j->j=A\/j=H\/w.heap.size<=j):G2 w J A H:=
 ⟨g.os.trans h.os, g.tape.trans h.tape, g.output.trans h.output, Nat.le_trans h.size g.size, fun i hi O D => (g.block i (L3 hi h.size) (fun e => by
   rcases Y i e.symm with r | r | r
   · exact O r
   · exact D r
   · omega)).trans (h.block i hi O D)⟩
theorem G2.below {w e D:World}{A H M:Nat}(h:G2 w e A H)(g:Below M e D)(J:e.heap.size<=M):G2 w D A H:=h.grown (Zfj g J) (fun j I=>by cases I)
theorem G2.cell {w w':World}{A H:Nat}(h:G2 w w' A H){b o:Nat}{v:Value}(e:w.cell? ⟨b,o,none⟩=some v)(I:b≠A)(D:b≠H):w'.cell? ⟨b,o,none⟩=some v:=by
 have:=World.cell?_of_block (w:=w) (w':=w') (a:=⟨b,o,none⟩) (h.block b (Yn e) I D);rw[this];exact e
theorem NetAt.g2 {w w':World}{N I A H:Nat}(h:NetAt w N I A H)(g:G2 w w' A H)(D:N≠A)(e:N≠H):NetAt w' N I A H:=
 ⟨g.cell h.c0 D e,g.cell h.c1 D e,g.cell h.c2 D e,g.cell h.c3 D e⟩
theorem AskAt.g2 {w w':World}{e b D cap A H:Nat}{l:List Pt}(h:AskAt w e b D cap l)(g:G2 w w' A H)(Y:e≠A)(O:e≠H)(J:b≠A)(I:b≠H):AskAt w' e b D cap l:=
 ⟨L3 h.hB g.size,L3 h.hb g.size,g.cell h.cell Y O,fun i hi=>⟨g.cell (h.pts i hi).1 J I,g.cell (h.pts i hi).2 J I⟩⟩
noncomputable def Zgo (T A:Nat) (a b:Int) (w:World):World:=match (Builtin.delete_ #[T,165] 0 #[.map (some A),Zbo a b]).run prog w with | .ok _ w'=>w' | .halt _ w'=>w'
theorem Z0a {A n:Nat}{a b:Int}{f:Int->Int->Option Value}{w:World}(O:I64 a)(J:I64 b){T E:TypeId}(Z:prog.underlying T=some (.map 165 E))(h:Zi prog 165 w A n f) :
  (∀ ty,(Builtin.delete_ #[T,165] ty #[.map (some A),Zbo a b]).run prog w= .ok (.tuple #[]) (Zgo T A a b w))/\Zi prog 165 (Zgo T A a b w) A n (upd f a b none)/\w.grownBy (Zgo T A a b w) (some A):=by
 obtain⟨w',D,I,Y⟩:=h.del Zbp Z O J 0;have e:Zgo T A a b w=w':=by unfold Zgo;rw[D]
 rw[e];exact⟨fun ty=>D,I,Y⟩
noncomputable def Zgp (T A:Nat) (w:World):World:=match (Builtin.clear_ #[T] 0 #[.map (some A)]).run prog w with | .ok _ w'=>w' | .halt _ w'=>w'
theorem Z0b {A n:Nat}{f:Int->Int->Option Value}{w:World}{T E:TypeId}(O:prog.underlying T=some (.map 165 E))(h:Zi prog 165 w A n f) :
  (∀ ty,(Builtin.clear_ #[T] ty #[.map (some A)]).run prog w= .ok (.tuple #[]) (Zgp T A w))/\Zi prog 165 (Zgp T A w) A 0 (fun _ _=>none)/\w.grownBy (Zgp T A w) (some A):=by
 obtain⟨w',D,I,J⟩:=h.clear Zbp O 0;have e:Zgp T A w=w':=by unfold Zgp;rw[D]
 rw[e];exact⟨fun ty=>D,I,J⟩
theorem Z0c (w:World):(zeroValue 166).run prog w= .ok (.agg #[]) w:=by kernel_rfl
section
variable (V:Int->Vec) (Tr:Int->Int->Int->Prop) (p:Int)
def Bad (x y:Int):Prop:=∃ z,Tr x y z/\0<kk (V x) (V y) (V z) (V p)
open Classical in
noncomputable def gOf (left:Int->Int->Bool) (x y:Int):Option Value:=if Bad V Tr p x y/\left x y=false then some (.agg #[]) else none
def TD (left:Int->Int->Bool)(x y z:Int):Prop:=Tr x y z/\¬ (0<kk (V x) (V y) (V z) (V p)/\left x y=false)
def TA (left:Int->Int->Bool)(x y z:Int):Prop:=(Tr x y z/\kk (V x) (V y) (V z) (V p)<=0)\/((Rim V Tr p x y/\left x y=false)/\z=p)\/((Rim V Tr p y z/\left y z=false)/\x=p)\/((Rim V Tr p z x/\left z x=false)/\y=p)
end
section
variable {V:Int->Vec} {Tr:Int->Int->Int->Prop} {p:Int} {left:Int->Int->Bool}
theorem Zmy {x y:Int}{v:Value}(h:gOf V Tr p left x y=some v):v= .agg #[]:=by
 unfold gOf at h;split at h
 ·simpa using h.symm
 ·cases h
theorem Zmz {x y:Int}(h:gOf V Tr p left x y≠none):Bad V Tr p x y:=by
 unfold gOf at h;split at h
 ·rename_i k;exact k.1
 ·exact absurd rfl h
theorem Zm0 {e:Int->Int->Bool}{s t:Int}(h:left s t=e s t):gOf V Tr p left s t=gOf V Tr p e s t:=by
 unfold gOf;by_cases k:Bad V Tr p s t/\left s t=false
 ·rw[if_pos k,if_pos ⟨k.1,h ▸ k.2⟩]
 ·rw[if_neg k,if_neg (fun r=>k ⟨r.1,h.symm ▸ r.2⟩)]
theorem Z0d {x y:Int}(e:Bad V Tr p x y)(D:left x y=true)(s t:Int) :
  upd (gOf V Tr p left) x y (some (.agg #[])) s t=gOf V Tr p (Zaz left x y) s t:=by
 by_cases k:s=x/\t=y
 ·obtain⟨rfl,rfl⟩:=k;rw[Zfg];unfold gOf;rw[if_pos ⟨e,Zjs _ _ _⟩]
 ·rw[Zfh _ _ k];exact Zm0 (Zfi _ k).symm
theorem Z0e {x y:Int}(e:¬ Bad V Tr p x y)(s t:Int):gOf V Tr p left s t=gOf V Tr p (Zaz left x y) s t:=by
 by_cases k:s=x/\t=y
 ·obtain⟨rfl,rfl⟩:=k;unfold gOf;rw[if_neg (fun h=>e h.1),if_neg (fun h=>e h.1)]
 ·exact Zm0 (Zfi _ k).symm
theorem Zgq {x y:Int}(e:left x y=false):(gOf V Tr p left x y).isSome=true↔Bad V Tr p x y:=by
 unfold gOf;by_cases h:Bad V Tr p x y
 ·rw[if_pos ⟨h,e⟩];simp[h]
 ·rw[if_neg (fun k=>h k.1)];simp[h]
theorem Z0f (D:Fn Tr){x y:Int}(I:Bad V Tr p x y)(s t z:Int):TD V Tr p (Zaz left x y) s t z↔TD V Tr p left s t z/\¬ (s=x/\t=y):=by
 unfold TD;by_cases k:s=x/\t=y
 ·obtain⟨rfl,rfl⟩:=k;obtain⟨Y,J,O⟩:=I;constructor
  ·rintro⟨h,e⟩;have:=D _ _ _ _ h J;subst this;exact absurd ⟨O,Zjs _ _ _⟩ e
  ·rintro⟨_,e⟩;exact absurd ⟨rfl,rfl⟩ e
 ·rw[Zfi _ k];simp[k]
theorem Zrn (D:Fn Tr):Fn (TD V Tr p left):=fun _ _ _ _ h e=>D _ _ _ _ h.1 e.1
theorem Zm1 {x y:Int}(h:Rim V Tr p x y):Bad V Tr p x y:=by obtain⟨c,d,D,e,_⟩:=h;exact⟨c,D,e⟩
theorem Z0g (D:Fn Tr){x y:Int}(h:Rim V Tr p x y):¬ Bad V Tr p y x:=by
 obtain⟨c,d,_,_,I,J⟩:=h;rintro⟨z,e,O⟩;have:=D _ _ _ _ e I;subst this;omega
theorem Zhz {x y z:Int}(h:TA V Tr p left x y z):Zbr V Tr p x y z:=by
 rcases h with h|⟨h,e⟩|⟨h,e⟩|⟨h,e⟩
 ·exact .inl h
 ·exact .inr (.inl ⟨h.1,e⟩)
 ·exact .inr (.inr (.inl ⟨h.1,e⟩))
 ·exact .inr (.inr (.inr ⟨h.1,e⟩))
theorem Z0h (I:Fn Tr){x y:Int}(D:¬ Rim V Tr p x y)(s t z:Int):TA V Tr p (Zaz left x y) s t z↔TA V Tr p left s t z:=by
 have e:∀ u v,(Rim V Tr p u v/\Zaz left x y u v=false)↔(Rim V Tr p u v/\left u v=false):=by
  intro u v;by_cases k:u=x/\v=y
  ·obtain⟨rfl,rfl⟩:=k;exact⟨fun h=>absurd h.1 D,fun h=>absurd h.1 D⟩
  ·rw[Zfi _ k]
 unfold TA;rw[e,e,e]
theorem Z0i {x y:Int}(Y:Rim V Tr p x y)(s t z:Int):TA V Tr p (Zaz left x y) s t z↔TA V Tr p left s t z\/Z7 x y p s t z:=by
 have O:∀ u v,(Rim V Tr p u v/\Zaz left x y u v=false)↔((Rim V Tr p u v/\left u v=false)\/(u=x/\v=y)):=by
  intro u v;by_cases k:u=x/\v=y
  ·obtain⟨rfl,rfl⟩:=k;exact⟨fun _=>.inr ⟨rfl,rfl⟩,fun _=>⟨Y,Zjs _ _ _⟩⟩
  ·rw[Zfi _ k];exact⟨.inl,fun h=>h.resolve_right k⟩
 unfold TA Z7;rw[O,O,O];constructor
 ·rintro (h|⟨h|h,e⟩|⟨h|h,e⟩|⟨h|h,e⟩)
  ·exact .inl (.inl h)
  ·exact .inl (.inr (.inl ⟨h,e⟩))
  ·exact .inr (.inl ⟨h.1,h.2,e⟩)
  ·exact .inl (.inr (.inr (.inl ⟨h,e⟩)))
  ·exact .inr (.inr (.inr ⟨e,h.1,h.2⟩))
  ·exact .inl (.inr (.inr (.inr ⟨h,e⟩)))
  ·exact .inr (.inr (.inl ⟨h.2,e,h.1⟩))
 ·rintro ((h|⟨h,e⟩|⟨h,e⟩|⟨h,e⟩)|⟨I,D,J⟩|⟨I,D,J⟩|⟨I,D,J⟩)
  ·exact .inl h
  ·exact .inr (.inl ⟨.inl h,e⟩)
  ·exact .inr (.inr (.inl ⟨.inl h,e⟩))
  ·exact .inr (.inr (.inr ⟨.inl h,e⟩))
  ·exact .inr (.inl ⟨.inr ⟨I,D⟩,J⟩)
  ·exact .inr (.inr (.inr ⟨.inr ⟨J,I⟩,D⟩))
  ·exact .inr (.inr (.inl ⟨.inr ⟨D,J⟩,I⟩))
end
structure AddAt (w:World)(N Bp A H bb off cap:Nat)(l:List Pt):Prop where
 net:NetAt w N Bp A H
 ask:AskAt w Bp bb off cap l
 nA:N≠A
 nH:N≠H
 bA:Bp≠A
 bH:Bp≠H
 pA:bb≠A
 pH:bb≠H
 AH:A≠H
theorem AddAt.g2 {w w':World}{N D A H I e cap:Nat}{l:List Pt}(h:AddAt w N D A H I e cap l)(g:G2 w w' A H):AddAt w' N D A H I e cap l:=
 ⟨h.net.g2 g h.nA h.nH,h.ask.g2 g h.bA h.bH h.pA h.pH,h.nA,h.nH,h.bA,h.bH,h.pA,h.pH,h.AH⟩
theorem Zro (B:List Int):∀ A:List Int,(A.flatMap fun a=>B.map fun b=>(a,b)).length=A.length*B.length
 | []=>by simp
 | a :: A=>by
  rw[List.flatMap_cons,List.length_append,Zro B A,List.length_map,List.length_cons,Nat.succ_mul];omega
theorem Zrp (S:List Int):(Zae S).length=S.length*S.length:=Zro S S
theorem Zrq (W:World)(x y J I D:Int)(e:World)(h:e=(W.alloc (.cells #[int i64 x,int i64 y] 165)).alloc (.cells #[int i64 J,int i64 I,int i64 D] 53)) :
  e.cell? ⟨W.heap.size,0,none⟩=some (int i64 x)/\e.cell? ⟨W.heap.size,1,none⟩=some (int i64 y)/\e.cell? ⟨W.heap.size+1,0,none⟩=some (int i64 J)/\e.cell? ⟨W.heap.size+1,1,none⟩=some (int i64 I)/\e.cell? ⟨W.heap.size+1,2,none⟩=some (int i64 D)/\e.heap.size=W.heap.size+2/\Below W.heap.size W e:=by
 subst h;refine⟨?_,?_,?_,?_,?_,by simp,Yq _ _ _⟩
 ·rw[World.cell?_alloc_past _ _ _ (by simp),World.cell?_alloc_at _ _ _ _ rfl];rfl
 ·rw[World.cell?_alloc_past _ _ _ (by simp),World.cell?_alloc_at _ _ _ _ rfl];rfl
 ·rw[World.cell?_alloc_at _ _ _ _ (by simp)];rfl
 ·rw[World.cell?_alloc_at _ _ _ _ (by simp)];rfl
 ·rw[World.cell?_alloc_at _ _ _ _ (by simp)];rfl
theorem Z0j {l:List Pt} {S:List Int} {a b c:Int} {Tr:Int->Int->Int->Prop} (Z:NetOf (pOf l) S a b c Tr) (hS:∀ i∈S,0<=i/\i<l.length) (hSl:S.length<=60) (N Bp A H bb off cap n m:Nat) (g0:Int->Int->Option Value) (p:Nat) (w:World)
  (hp:p<l.length) (hpS:(p:Int) ∉ S) (hpn:Yo (Za l p)) (hpd:∀ i∈S,pOf l i≠Za l p) (hl:l.length<=60) (hn:Zv l) (W0:AddAt w N Bp A H bb off cap l) (hmA:Zi prog 165 w A n (fOf Tr)) (hmH:Zi prog 165 w H m g0) (hnm:n<100000) :
  Calls prog 69 #[.pointer (some ⟨N,0,none⟩),iv p] w fun e w'=>
   e= .returned (.tuple #[])/\Zi prog 165 w' A 4000 (fOf (Zbr (VV (pOf l) a b c) Tr p))/\(∃ m' g',Zi prog 165 w' H m' g')/\G2 w w' A H:=by
 generalize hV:VV (pOf l) a b c=V;generalize hM:(Zae (-1 :: S)).length=M;have hM1:M<=3721:=by
  rw[<-hM,Zrp];have:=Nat.mul_le_mul (show (-1 :: S).length<=61 by simp;omega) (show (-1 :: S).length<=61 by simp;omega);omega
 have hinv:∀ x y v,fOf Tr x y=some v->∃ t0 t1 t2,v=Yh t0 t1 t2:=fun x y v h=>by obtain⟨z,_,e⟩:=Zhx h;exact⟨_,_,_,e⟩
 have hsup:∀ s t,Bad V Tr p s t->(s,t)∈Zae (-1 :: S):=by
  rintro s t ⟨z,h,_⟩;rw[Zd7];exact⟨by rcases Z.lab h with h|h <;> simp[h],by rcases Z.lab (Z.rot h) with h|h <;> simp[h]⟩
 have hAF:Fn (Zbr V Tr p):=by
  rw[<-hV];exact (Z.add hpS (by omega) hpn hpd).fnT
 have hTA:∀ left,Fn (TA V Tr p left):=fun left _ _ _ _ h h'=>hAF _ _ _ _ (Zhz h) (Zhz h')
 generalize hM2:(Zae ((p:Int) :: -1 :: S)).length=M2;have hM3:M2<=3844:=by
  rw[<-hM2,Zrp];have:=Nat.mul_le_mul (show ((p:Int) :: -1 :: S).length<=62 by simp;omega) (show ((p:Int) :: -1 :: S).length<=62 by simp;omega);omega
 have hlab:∀ {s t z:Int},Zbr V Tr p s t z->s∈(p:Int) :: -1 :: S:=by
  intro s t z h;rw[<-hV] at h;rcases (Z.add hpS (by omega) hpn hpd).lab h with k|k
  ·simp[k]
  ·rcases List.mem_cons.1 k with k|k
   ·simp[k]
   ·simp[k]
 have hArot:∀ {s t z:Int},Zbr V Tr p s t z->Zbr V Tr p t z s:=by
  intro s t z h;rw[<-hV] at h ⊢;exact (Z.add hpS (by omega) hpn hpd).rot h
 have hsup2:∀ left s t,fOf (TA V Tr p left) s t≠none->(s,t)∈Zae ((p:Int) :: -1 :: S):=by
  intro left s t h;obtain⟨z,hz⟩:=Zz7.1 h;exact Zd7.2 ⟨hlab (Zhz hz),hlab (hArot (Zhz hz))⟩
 have h64:∀ s∈(p:Int) :: -1 :: S,I64 s:=by
  intro s hs;rcases List.mem_cons.1 hs with rfl|hs
  ·exact Zcy (by omega) (by omega)
  ·rcases List.mem_cons.1 hs with rfl|hs
   ·exact Zcy (by omega) (by omega)
   ·have:=hS s hs;exact Zcy (by omega) (by omega)
 have hTAend:∀ left:Int->Int->Bool,(∀ x y,I64 x->I64 y->left x y=false)->∀ x y z,I64 x->I64 y->(TA V Tr p left x y z↔Zbr V Tr p x y z):=by
  intro left hl0 x y z hx hy;refine⟨Zhz,fun h=>?_⟩;have hz:I64 z:=h64 z (hlab (hArot (hArot h)));rcases h with h|⟨h,e⟩|⟨h,e⟩|⟨h,e⟩
  ·exact .inl h
  ·exact .inr (.inl ⟨⟨h,hl0 _ _ hx hy⟩,e⟩)
  ·exact .inr (.inr (.inl ⟨⟨h,hl0 _ _ hy hz⟩,e⟩))
  ·exact .inr (.inr (.inr ⟨⟨h,hl0 _ _ hz hx⟩,e⟩))
 have CL:=Z0b (T:=160) underlying160 hmH;generalize hW1:Zgp 160 H w=W1 at CL;obtain⟨hcl,hmH1,hg1⟩:=CL;have G1:G2 w W1 A H:=(G2.refl w A H).grown hg1 (fun j O=>.inr (.inl (by simpa using O.symm)));have W1a:=W0.g2 G1;have hmA1:=hmA.kept hg1 (fun e=>W0.AH (by simpa using e));obtain⟨W2,cnt0,hrun2,hrg2,hgr2,hsz2⟩:=hmA1.range Zbp underlying159;have c2:=W0.net.c2;have c3:=W0.net.c3;have d2:=W1a.net.c2;have hrow:∀ j,some W1.heap.size=some j->j=A\/j=H\/w.heap.size<=j:=fun j O=>.inr (.inr (by have:=G1.size;have e:W1.heap.size=j:=(by simpa using O);omega))
 have hHr:some H≠some W1.heap.size:=fun e=>by have:=hmH.lt;have:=G1.size;have e':H=W1.heap.size:=(by simpa using e);omega
 have hAr:some A≠some W1.heap.size:=fun e=>by have:=hmA.lt;have:=G1.size;have e':A=W1.heap.size:=(by simpa using e);omega
 go_enter func69,ntmps69;go_wp2
 clear hcl hrun2 c2 c3 d2;go_loopw [4] (fun _ wr=>∃ left cnt,Xn prog 165 wr A W1.heap.size n (fOf Tr) left cnt/\Zi prog 165 wr H M (gOf V Tr p left)/\G2 w wr A H) (fun _ wr=>wr.rangeLeft A W1.heap.size)
 case atStart=>
  refine⟨_,_,hrg2,?_,G1.grown hgr2 (fun j O=>by cases O)⟩;refine ((hmH1.kept hgr2 (by simp)).mono (Nat.zero_le _)).congr (fun x y hx hy=>?_);unfold gOf;rw[if_neg];rintro⟨⟨z,hz,_⟩,k⟩;have:=Zmv.2 ⟨z,hz⟩;dsimp only at k
  rw[this] at k;cases k
 case round=>
  clear hrg2 hgr2 hsz2 hmH1 hmA1 W1a hmA hmH;obtain⟨left,cnt,hrg,hmh,G⟩:=hrel;have Wr:=W0.g2 G;go_wp2_with (first|(at_next;refine Zrl Zbp _ rfl _ rfl A W1.heap.size n _ left cnt rfl hrg hinv ?_ ?_)|go_in)
  ·intro hc hl0;have hmA3:=hrg.map;have hgB:Zi prog 165 wr H M (gOf V Tr p (fun _ _=>false)):=hmh.congr (fun s t hs ht=>Zm0 (hl0 s t hs ht));clear hrg hmh hl0 hc left cnt;obtain⟨W5,c5,hrun5,hrg5,hgr5,hsz5⟩:=hgB.range Zbp underlying160;have hmA5:=hmA3.kept hgr5 (by simp);have G5:=G.grown hgr5 (fun j O=>by cases O);have f3:=Wr.net.c3;have hrow5:∀ j,some wr.heap.size=some j->j=A\/j=H\/w.heap.size<=j:=fun j O=>.inr (.inr (by have:=G.size;have e:wr.heap.size=j:=(by simpa using O);omega))
   have hHr5:some H≠some wr.heap.size:=fun e=>by have:=hgB.lt;have e':H=wr.heap.size:=(by simpa using e);omega
   have hAr5:some A≠some wr.heap.size:=fun e=>by have:=hmA3.lt;have e':A=wr.heap.size:=(by simpa using e);omega
   go_wp2
   clear hrun5 f3 hrow hHr hAr;generalize wr=Wx at *
   go_loopw [6] (fun _ wr2=>∃ left cnt,Xn prog 165 wr2 H Wx.heap.size M (gOf V Tr p (fun _ _=>false)) left cnt/\Zi prog 165 wr2 A n (fOf (TD V Tr p left))/\G2 w wr2 A H) (fun _ wr2=>wr2.rangeLeft H Wx.heap.size)
   case atStart=>
    refine⟨_,_,hrg5,?_,G5⟩;refine hmA5.congr (fun x y hx hy=>Zgn (Zrn Z.fnT) (fun z=>⟨fun h=>⟨h,?_⟩,fun h=>h.1⟩));rintro⟨h1,J⟩;dsimp only at J
    rw[(Zgq (left:=fun _ _=>false) rfl).2 ⟨z,h,h1⟩] at J;cases J
   case round=>
    clear hrg5 hgr5 hsz5 hmA5 G5 hgB hmA3;obtain⟨left,cnt,hrg,hmA6,G6⟩:=hrel;go_wp2_with (first|(at_next;refine Zrm Zbp _ rfl _ rfl H Wx.heap.size M _ left cnt rfl hrg (fun x y v h=>Zmy h) ?_ ?_)|go_in)
    ·intro hc hl0;have hgC:=hrg.map
     have hmT : Zi prog 165 wr A n (fOf (TA V Tr p (fun x y => (gOf V Tr p (fun _ _ => false) x y).isSome))) := hmA6.congr (fun x y hx hy => by
       refine Zgn (hTA _) (fun z => ?_)
       constructor
       · rintro ⟨h1, J⟩
         refine .inl ⟨h1, ?_⟩
         rcases Int.lt_or_le 0 (kk (V x) (V y) (V z) (V p)) with k | k
         · exact absurd ⟨k, hl0 x y hx hy⟩ J
         · exact k
       · rintro (⟨h1, J⟩ | ⟨h, e⟩ | ⟨h, e⟩ | ⟨h, e⟩)
         · exact ⟨h1, fun k => by omega⟩
         · have J := h.2; dsimp only at J; rw [(Zgq rfl).2 (Zm1 h.1)] at J; cases J
         · have J := h.2; dsimp only at J; rw [(Zgq rfl).2 (Zm1 h.1)] at J; cases J
         · have J := h.2; dsimp only at J; rw [(Zgq rfl).2 (Zm1 h.1)] at J; cases J)
     have hmT2:=hmT.tight Zbp (Zae ((p:Int) :: -1 :: S)) (fun s t _ _ h=>hsup2 _ s t h);rw[hM2] at hmT2;clear hrg hmA6 hl0 hc left cnt hmT;obtain⟨W8,c8,hrun8,hrg8,hgr8,hsz8⟩:=hgC.range Zbp underlying160;have hmA8:=hmT2.kept hgr8 (by simp);have G8:=G6.grown hgr8 (fun j O=>by cases O);have f3:=(W0.g2 G6).net.c3;have hrow8:∀ j,some wr.heap.size=some j->j=A\/j=H\/w.heap.size<=j:=fun j O=>.inr (.inr (by have:=G6.size;have e:wr.heap.size=j:=(by simpa using O);omega))
     have hHr8:some H≠some wr.heap.size:=fun e=>by have:=hgC.lt;have e':H=wr.heap.size:=(by simpa using e);omega
     have hAr8:some A≠some wr.heap.size:=fun e=>by have:=hmT2.lt;have e':A=wr.heap.size:=(by simpa using e);omega
     go_wp2
     clear hrun8 f3 hrow5 hHr5 hAr5;generalize wr=Wy at *
     go_loopw [7] (fun _ wr3=>∃ left cnt,Xn prog 165 wr3 H Wy.heap.size M (gOf V Tr p (fun _ _=>false)) left cnt/\Zi prog 165 wr3 A M2 (fOf (TA V Tr p left))/\G2 w wr3 A H) (fun _ wr3=>wr3.rangeLeft H Wy.heap.size)
     case atStart=>exact⟨_,_,hrg8,hmA8,G8⟩
     case round=>
      clear hrg8 hgr8 hsz8 hmA8 G8 hgC hmT2;obtain⟨left,cnt,hrg,hmA9,G9⟩:=hrel;go_wp2_with (first|(at_next;refine Zrm Zbp _ rfl _ rfl H Wy.heap.size M _ left cnt rfl hrg (fun x y v h=>Zmy h) ?_ ?_)|go_in)
      ·intro hc hl0;have hgD:=hrg.map;have hfin:=(hmA9.congr (fun x y hx hy=>Zgn hAF (fun z=>hTAend left hl0 x y z hx hy))).mono (show M2<=4000 by omega);go_wp2
       go_end0
       exact⟨rfl,hfin,⟨_,_,hgD⟩,G9⟩
      ·intro x y D cnt1 hx hy hlx hf hrg1 hlt hg hsz hen;have hbad:Bad V Tr p x y:=Zmz (by rw[hf];simp);have HB:Hid (Bad V Tr p x y):=hbad;have G':G2 w D A H:=G9.grown hg hrow8;have hmA7:=hmA9.kept hg hAr8;clear hf hsz hg hmA9 hbad;generalize hWn:D.alloc (.cells #[int i64 x,int i64 y] 165)=I;have hbn:Below D.heap.size D I:=by rw[<-hWn];exact Zb _ _
       have e0:I.cell? ⟨D.heap.size,0,none⟩=some (int i64 x):=by rw[<-hWn];simp[go_sem]
       have e1:I.cell? ⟨D.heap.size,1,none⟩=some (int i64 y):=by rw[<-hWn];simp[go_sem]
       have G'':=G'.below hbn (Nat.le_refl _);have f3:=(W0.g2 G'').net.c3;have hmH8:=hrg1.map.below hbn hrg1.map.lt;have hk2:∀ Y w2',(Below I.heap.size I Y/\Y.cell? ⟨N,3,none⟩=some (.map (some H))/\Y.cell? ⟨D.heap.size,0,none⟩=some (int i64 x)/\Y.cell? ⟨D.heap.size,1,none⟩=some (int i64 y)/\Zi prog 165 Y H M (gOf V Tr p (fun _ _=>false)))->Below Y.heap.size Y w2'->(Below I.heap.size I w2'/\w2'.cell? ⟨N,3,none⟩=some (.map (some H))/\w2'.cell? ⟨D.heap.size,0,none⟩=some (int i64 x)/\w2'.cell? ⟨D.heap.size,1,none⟩=some (int i64 y)/\Zi prog 165 w2' H M (gOf V Tr p (fun _ _=>false))):=fun Y w2' h hb=>
        have hbb:=h.1.trans (hb.mono h.1.size)
        ⟨hbb,(hbb.cell (p:=⟨N,3,none⟩) (Yn f3)).trans f3,(hbb.cell (p:=⟨D.heap.size,0,none⟩) (Yn e0)).trans e0,(hbb.cell (p:=⟨D.heap.size,1,none⟩) (Yn e1)).trans e1,hmH8.below hbb hmH8.lt⟩
       have hS0:(Below I.heap.size I I/\I.cell? ⟨N,3,none⟩=some (.map (some H))/\I.cell? ⟨D.heap.size,0,none⟩=some (int i64 x)/\I.cell? ⟨D.heap.size,1,none⟩=some (int i64 y)/\Zi prog 165 I H M (gOf V Tr p (fun _ _=>false))):=⟨Below.refl _ _,f3,e0,e1,hmH8⟩;have hdr:∀ Y:World,Below Y.heap.size Y Y.drew:=fun Y=>(Below.refl _ _).drew
       have hlk:∀ w',Zi prog 165 w' H M (gOf V Tr p (fun _ _=>false))->(Instr.lookup 160 (.map (some H)) (.agg #[int i64 y,int i64 x]) true).run prog w'= .ok (.tuple #[.agg #[],.bool (gOf V Tr p (fun _ _=>false) y x).isSome]) w':=fun w' h=>by
        have:=h.look_ok Zbp underlying160 (Z0c w') (a:=y) (b:=x) hy hx;rw[this];cases hg:gOf V Tr p (fun _ _=>false) y x with
        | none=>rfl
        | some v=>rw[Zmy hg];rfl
       generalize hbw:(gOf V Tr p (fun _ _=>false) y x).isSome=bw at hlk;have HBW:Hid ((gOf V Tr p (fun _ _=>false) y x).isSome=bw):=hbw;have hd:x≠y/\y≠(p:Int)/\(p:Int)≠x:=by
        obtain⟨z0,hz0,_⟩:=HB.out;have h1:=Z.lab hz0;have J:=Z.lab (Z.rot hz0);refine⟨Z.ne12 hz0,?_,?_⟩
        ·intro e;rcases J with J|J
         ·omega
         ·exact hpS (e ▸ J)
        ·intro e;rcases h1 with h1|h1
         ·omega
         ·exact hpS (e ▸ h1)
       have hrimOf:(gOf V Tr p (fun _ _=>false) y x).isSome=false->Rim V Tr p x y:=by
        intro h;obtain⟨z0,hz0,hk0⟩:=HB.out;obtain⟨d0,hd0⟩:=Z.pair hz0;refine⟨z0,d0,hz0,hk0,hd0,?_⟩;rcases Int.lt_or_le 0 (kk (V y) (V x) (V d0) (V p)) with k|k
        ·rw[(Zgq rfl).2 ⟨d0,hd0,k⟩] at h;cases h
        ·exact k
       clear hbw;go_wp2_with fail
       clear hWn;have hal:∀ (Y:World) (o:Obj),Below Y.heap.size Y (Y.drew.alloc o):=fun Y o=>((Below.refl _ _).drew).alloc (Nat.le_refl _) _
       have FIN:∀ Wf,(Below I.heap.size I Wf/\Wf.cell? ⟨N,3,none⟩=some (.map (some H))/\Wf.cell? ⟨D.heap.size,0,none⟩=some (int i64 x)/\Wf.cell? ⟨D.heap.size,1,none⟩=some (int i64 y)/\Zi prog 165 Wf H M (gOf V Tr p (fun _ _=>false)))->Xn prog 165 Wf H Wy.heap.size M (gOf V Tr p (fun _ _=>false)) (Zaz left x y) cnt1/\G2 w Wf A H/\Zi prog 165 Wf A M2 (fOf (TA V Tr p left)):=fun Wf hS=>
        have gg:=Zfj (hbn.trans (hS.1.mono hbn.size)) (Nat.le_refl _)
        ⟨hrg1.kept gg (by simp) (by simp),G''.below hS.1 (Nat.le_refl _),hmA7.kept gg (by simp)⟩
       cases bw with
       | true=>
        go_region_held3 (fun w'=>Below I.heap.size I w'/\w'.cell? ⟨N,3,none⟩=some (.map (some H))/\w'.cell? ⟨D.heap.size,0,none⟩=some (int i64 x)/\w'.cell? ⟨D.heap.size,1,none⟩=some (int i64 y)/\Zi prog 165 w' H M (gOf V Tr p (fun _ _=>false))) (first|assumption|exact hk2 _ _ hS0 (hdr _)|exact hk2 _ _ hS0 (hal _ _)|(refine hk2 _ _ ?_ hb3;first|assumption|exact hk2 _ _ hS0 (hdr _)|exact hk2 _ _ hS0 (hal _ _))|(refine hk2 _ _ ?_ (Zb _ _);first|assumption|exact hk2 _ _ hS0 (hdr _)))
         (first|(go_at_call 107;refine (Zmg _ _ _).mono ?_;rintro e w' ⟨rfl,hb3⟩))
        all_goals (
          rename_i hS
          obtain ⟨hrgF, GF, hmF⟩ := FIN _ hS
          go_wp2_with fail
          refine ⟨⟨_, cnt1, hrgF, hmF.congr (fun s t _ _ => Zgn (hTA _) (fun z => (Z0h Z.fnT (fun hr => Z0g Z.fnT hr ((Zgq rfl).1 HBW.out)) s t z).symm)), GF⟩, by rw [hrgF.left_eq, hrg.left_eq]; exact hlt⟩)
       | false=>
        go_region_held3 (fun w'=>Below I.heap.size I w'/\w'.cell? ⟨N,3,none⟩=some (.map (some H))/\w'.cell? ⟨D.heap.size,0,none⟩=some (int i64 x)/\w'.cell? ⟨D.heap.size,1,none⟩=some (int i64 y)/\Zi prog 165 w' H M (gOf V Tr p (fun _ _=>false))) (first|assumption|exact hk2 _ _ hS0 (hdr _)|exact hk2 _ _ hS0 (hal _ _)|(refine hk2 _ _ ?_ hb3;first|assumption|exact hk2 _ _ hS0 (hdr _)|exact hk2 _ _ hS0 (hal _ _))|(refine hk2 _ _ ?_ (Zb _ _);first|assumption|exact hk2 _ _ hS0 (hdr _)))
         (first|(go_at_call 107;refine (Zmg _ _ _).mono ?_;rintro e w' ⟨rfl,hb3⟩))
        all_goals (
          rename_i hS
          obtain ⟨hrgF, GF, hmF⟩ := FIN _ hS
          have c2 := (W0.g2 GF).net.c2
          have hput := Zq7 N A M2 x y p _ _ hx hy (Zcy (by omega) (by omega)) (by unfold maxLen; omega) c2 hmF
          go_wp2_with (go_at_call 105; refine hput.mono ?_; rintro e w5 ⟨rfl, hm5, hg5⟩)
          have hrg5 := hrgF.kept hg5 (fun e => W0.AH (by simpa using e.symm)) (fun e => hAr8 e.symm)
          have G5 := GF.grown hg5 (fun j O => .inl (by simpa using O.symm))
          have hm6 := (hm5.congr (fun s t _ _ => Zhy (hTA _) hd.1 hd.2.1 hd.2.2 (fun u v z => Z0i (hrimOf HBW.out) u v z) s t)).tight Zbp (Zae ((p : Int) :: -1 :: S)) (fun s t _ _ h => hsup2 _ s t h)
          rw [hM2] at hm6
          exact ⟨⟨_, cnt1, hrg5, hm6, G5⟩, by rw [hrg5.left_eq, hrg.left_eq]; exact hlt⟩)
    ·intro x y D cnt1 hx hy hlx hf hrg1 hlt hg hsz hen;have hbad:Bad V Tr p x y:=Zmz (by rw[hf];simp);have HB:Hid (Bad V Tr p x y):=hbad;have G':G2 w D A H:=G6.grown hg hrow5;have hmA7:=hmA6.kept hg hAr5;clear hf hsz hg hmA6 hbad;generalize hWn:D.alloc (.cells #[int i64 x,int i64 y] 165)=I;have hbn:Below D.heap.size D I:=by rw[<-hWn];exact Zb _ _
     have e0:I.cell? ⟨D.heap.size,0,none⟩=some (int i64 x):=by rw[<-hWn];simp[go_sem]
     have e1:I.cell? ⟨D.heap.size,1,none⟩=some (int i64 y):=by rw[<-hWn];simp[go_sem]
     have G'':=G'.below hbn (Nat.le_refl _);have f2:=(W0.g2 G'').net.c2;have hmA8:=(hmA7.below hbn hmA7.lt).block (w':=I.drew) rfl;have P1:=Z0a hx hy underlying159 hmA8;generalize hW3:Zgo 159 A x y I.drew=W3 at P1;obtain⟨r1,m1,g1⟩:=P1;have g1':I.grownBy W3 (some A):=⟨g1.os,g1.tape,g1.output,g1.size,g1.block⟩;have nz:=hmA8.ne_cell (w:=I.drew) f2;have d2:=g1'.cell f2 (fun e=>nz (by simpa using e));have d0:=g1'.cell e0 (fun e=>hmA8.ne_cell (w:=I.drew) e0 (by simpa using e));have d1:=g1'.cell e1 (fun e=>hmA8.ne_cell (w:=I.drew) e1 (by simpa using e));have hrg3:=(hrg1.kept (Zfj hbn (Nat.le_refl _)) (by simp) (by simp)).kept g1' (fun e=>W0.AH (by simpa using e.symm)) (fun e=>hAr5 e.symm);have hG3:=G''.grown g1' (fun j O=>.inl (by simpa using O.symm));have hmA9:=m1.congr (fun s t _ _=>Zz8 (Zrn Z.fnT) (Z0f Z.fnT HB.out) s t);clear m1 g1 g1' hmA7 hmA8 nz;go_wp2_with fail
     clear hWn hW3;go_region_held3 (fun w'=>w'.cell? ⟨N,2,none⟩=some (.map (some A))/\w'.cell? ⟨D.heap.size,0,none⟩=some (int i64 x)/\w'.cell? ⟨D.heap.size,1,none⟩=some (int i64 y)) (first|exact⟨d2,d0,d1⟩|go_keep) (fail)
     go_wp2_with fail
     exact⟨⟨_,cnt1,hrg3,hmA9,hG3⟩,by rw[hrg3.left_eq,hrg.left_eq];exact hlt⟩
  ·intro x y t0 t1 t2 D cnt1 hx hy hlx hf hrg1 hlt hg hsz hen;obtain⟨z,hz,hrot⟩:=Zhx hf;have G':G2 w D A H:=G.grown hg hrow;have hmh1:Zi prog 165 D H M (gOf V Tr p left):=hmh.kept hg hHr;have W1':=W0.g2 G';have HZ:Hid (Tr x y z/\Yh t0 t1 t2=Z6 x y z):=⟨hz,hrot⟩;have HS1:Hid (D.heap.size=wr.heap.size):=hsz;clear hrot hf hsz hg hmh G Wr;generalize hWn:(D.alloc (.cells #[int i64 x,int i64 y] 165)).alloc (.cells #[int i64 t0,int i64 t1,int i64 t2] 53)=I;have hWn':=Zrq D x y t0 t1 t2 I hWn.symm;obtain⟨e0,e1,e2,e3,e4,hsn,hbn⟩:=hWn';have G'':=G'.below hbn (Nat.le_refl _);have Wa:=W0.g2 G'';have hmA2:=hrg1.map.below hbn hrg1.map.lt;have hh:=Zz9 Z hS N Bp A H bb off cap n p I hp hpn hl Wa.net Wa.ask hn hmA2 hz;rw[<-HZ.out.2,hV] at hh;clear hz;generalize hbv:decide (0<kk (V x) (V y) (V z) (V p))=bv at hh;have HBV:Hid (decide (0<kk (V x) (V y) (V z) (V p))=bv):=hbv;have HSN:Hid (I.heap.size=D.heap.size+2):=hsn;clear hbv hsn hmA2 Wa;have hnd:∀ z',Tr x y z'->z'=z:=fun z' h=>Z.fn h HZ.out.1
   have HND:Hid (∀ z',Tr x y z'->z'=z):=hnd;clear hnd;have g12:∀ w2,Below I.heap.size I w2->D.grownBy w2 none:=fun w2 hb2=>Zfj (hbn.trans (hb2.mono (by rw[HSN.out];omega))) (Nat.le_refl _)
   have GG:∀ w2,Below I.heap.size I w2->G2 w w2 A H:=fun w2 hb2=>G''.below hb2 (Nat.le_refl _)
   cases bv with
   | false=>
    go_wp2_with (go_at_call 106;refine hh.mono ?_;rintro e w2 ⟨rfl,hb2⟩)
    have hrg3:=hrg1.kept (g12 _ hb2) (by simp) (by simp);refine⟨⟨_,cnt1,hrg3,?_,GG _ hb2⟩,by rw[hrg3.left_eq,hrg.left_eq];exact hlt⟩;refine (hmh1.kept (g12 _ hb2) (by simp)).congr (fun s t _ _=>Z0e ?_ s t);rintro⟨z',h1,J⟩;have e:=HND.out z' h1;subst e;have:=HBV.out;simp at this;omega
   | true=>
    go_wp2_with (go_at_call 106;refine hh.mono ?_;rintro e w2 ⟨rfl,hb2⟩)
    have hmh2:=hmh1.kept (g12 _ hb2) (by simp);have f3:=(W0.g2 (GG _ hb2)).net.c3;have f0:=(hb2.cell (p:=⟨D.heap.size,0,none⟩) (Yn e0)).trans e0;have f1:=(hb2.cell (p:=⟨D.heap.size,1,none⟩) (Yn e1)).trans e1;have P1:=Zjt (.agg #[]) hx hy (by unfold maxLen;omega) underlying160 hmh2;generalize hW3:Zb9 160 H x y (.agg #[]) w2.drew=W3 at P1;obtain⟨r1,m1,g1,k1⟩:=P1;have d3:=k1 _ _ _ f3;have d0:=k1 _ _ _ f0;have d1:=k1 _ _ _ f1;have hrg3:=(hrg1.kept (g12 _ hb2) (by simp) (by simp)).kept g1 (fun e=>W0.AH (by simpa using e)) (fun e=>hHr e.symm);have hG3:=(GG _ hb2).grown g1 (fun j O=>.inr (.inl (by simpa using O.symm)));have hbad:Bad V Tr p x y:=⟨z,HZ.out.1,by have:=HBV.out;simpa using this⟩;have hmh3:=(m1.congr (fun s t _ _=>Z0d hbad hlx s t)).tight Zbp (Zae (-1 :: S)) (fun s t _ _ h=>hsup s t (Zmz h));rw[hM] at hmh3;clear e0 e1 e2 e3 e4 hh hmh2 hmh1 k1 m1 g1 hbad hWn hW3;go_region_held3 (fun w'=>w'.cell? ⟨N,3,none⟩=some (.map (some H))/\w'.cell? ⟨D.heap.size,0,none⟩=some (int i64 x)/\w'.cell? ⟨D.heap.size,1,none⟩=some (int i64 y)) (first|exact⟨d3,d0,d1⟩|go_keep) (fail)
    go_wp2_with fail
    exact⟨⟨_,cnt1,hrg3,hmh3,hG3⟩,by rw[hrg3.left_eq,hrg.left_eq];exact hlt⟩
end Go.Proofs.YtgpapegpdfonpaaGreatDoor
