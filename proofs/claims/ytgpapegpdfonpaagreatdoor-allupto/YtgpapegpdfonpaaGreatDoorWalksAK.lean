/- Part. -/
import Derived.Test.YtgpapegpdfonpaaGreatDoorRows
import Derived.WalkKit
import Derived.WalkSpells
import Derived.WalkLawsBesides
import Derived.Laws.EntriesVeiled
import Derived.Deep.RegionHeld3
import Derived.Deep.DrawnRows
import Derived.Orders
import Derived.Tactics
import Derived.Below
import Derived.KernelRfl
import Derived.Test.YtgpapegpdfonpaaGreatDoorShelf
import Derived.Shelf.SlSortCmp.NoneTotal
import Derived.Deep.OwnRows
import Derived.Lib.RowBridge
import Derived.Lib.SortBridge
import Derived.Deep.AppendLies
import Derived.Deep.QuietTactic
import Derived.BigQuiet
set_option linter.unusedVariables false
set_option linter.unusedSimpArgs false
set_option maxHeartbeats 16000000
set_option maxRecDepth 100000
namespace Go.Proofs.YtgpapegpdfonpaaGreatDoor
open Go.RowKit Go.Proofs.Tryz
open Go.Value(int)
open Go.IntKind(i64)
attribute [local go_sem ↓] Go.wp_at_zero Go.wp_at_succ
theorem L3{a b c:Nat}(h:a<b)(k:b<=c):a<c:=Nat.lt_of_lt_of_le h k
def pk (c n:Int):Int:=if c<0 then (-(c+1)) % n else c % n
theorem Zoh (c n:Int)(e:0<n):0<=pk c n/\pk c n<n:=by
 unfold pk;split
 ·exact⟨Int.emod_nonneg _ (by omega),Int.emod_lt_of_pos _ e⟩
 ·exact⟨Int.emod_nonneg _ (by omega),Int.emod_lt_of_pos _ e⟩
theorem Zg8 {k:IntKind}{a b:Int}(h:a=b):Ending.returned (.int k a)= .returned (.int k b):=by rw[h]
theorem Zoi (c n:Int)(e:c<0): -(c+1).tmod n=pk c n:=by
 unfold pk;rw[if_pos e,<-Int.neg_tmod,Int.tmod_eq_emod_of_nonneg (by omega)]
theorem Z76 (c n:Int)(w:World)(Y: -9223372036854775808<=c)(I:c<=9223372036854775807)(J:0<n)(O:n<=1000000) :
  Calls prog 15 #[int i64 c,int i64 n] w fun e w'=>e= .returned (int i64 (pk c n))/\w'=w:=by
 by_cases D:c<0
 ·go_enter func15,ntmps15;go_wp2
  go_ret;exact⟨Zg8 (by simpa using Zoi c n D),rfl⟩
 ·go_enter func15,ntmps15;go_wp2
  go_ret;exact⟨Zg8 (by unfold pk;rw[if_neg (by omega)]),rfl⟩
def Zk (D e Y I J O:Int):Int:=(Y-D)*(O-e)-(I-e)*(J-D)
theorem Zb (w:World)(o:Obj):Below w.heap.size w (w.alloc o):=(Below.refl _ _).alloc (Nat.le_refl _) _
theorem Yq (w:World)(o p:Obj):Below w.heap.size w ((w.alloc o).alloc p):=(Zb w o).alloc (by simp) _
theorem Zd0 (w:World)(o p q:Obj):Below w.heap.size w (((w.alloc o).alloc p).alloc q):=(Yq w o p).alloc (by simp;omega) _
theorem Zfy (w:World)(o p q r:Obj):Below w.heap.size w ((((w.alloc o).alloc p).alloc q).alloc r):=(Zd0 w o p q).alloc (by simp;omega) _
theorem Yw (W:World):Below W.heap.size W W.drew/\∀ b o,b<W.heap.size->W.drew.cell? ⟨b,o,none⟩=W.cell? ⟨b,o,none⟩:=⟨(Below.refl _ _).drew,fun _ _ _=>rfl⟩
theorem Yx {W e D:World}(h:Below W.heap.size W e/\∀ b o,b<W.heap.size->e.cell? ⟨b,o,none⟩=W.cell? ⟨b,o,none⟩)(J:Below e.heap.size e D) :
  Below W.heap.size W D/\∀ b o,b<W.heap.size->D.cell? ⟨b,o,none⟩=W.cell? ⟨b,o,none⟩:=
 have I:=h.1.trans (J.mono h.1.size)
 ⟨I,fun b o O=>I.cell (p:=⟨b,o,none⟩) O⟩
theorem Zub {w W e:World}(h:Below W.heap.size W e/\∀ b o,b<W.heap.size->e.cell? ⟨b,o,none⟩=W.cell? ⟨b,o,none⟩)(D:Below w.heap.size w W):Below w.heap.size w e:=
 D.trans (h.1.mono D.size)
structure Near (x y:Int):Prop where
 x1: -8000<=x
 x2:x<=8000
 y1: -8000<=y
 y2:y<=8000
theorem Zag {a b A B:Int}(h1: -A<=a)(O:a<=A)(h3: -B<=b)(Z:b<=B): -(A*B)<=a*b/\a*b<=A*B:=by
 have hA:0<=A:=by omega
 have Y:0<=B:=by omega
 have e:=Int.mul_nonneg (show 0<=A-a by omega) (show 0<=B-b by omega);have I:=Int.mul_nonneg (show 0<=A+a by omega) (show 0<=B-b by omega);have J:=Int.mul_nonneg (show 0<=A-a by omega) (show 0<=B+b by omega);have D:=Int.mul_nonneg (show 0<=A+a by omega) (show 0<=B+b by omega);simp only[Int.sub_mul,Int.mul_sub,Int.add_mul,Int.mul_add] at e I J D;omega
theorem Zg9 (J I O D:Int)(w:World)(a:Near J I)(b:Near O D) :
  Calls prog 84 #[.agg #[int i64 J,int i64 I],.agg #[int i64 O,int i64 D]] w fun e w'=>
   e= .returned (.agg #[int i64 (O-J),int i64 (D-I)])/\Below w.heap.size w w':=by
 obtain⟨a1,a2,Z,a4⟩:=a;obtain⟨Y,b2,b3,b4⟩:=b;go_enter func84,ntmps84;go_wp2
 exact bodyPost_ret (v:=.agg #[int i64 (O-J),int i64 (D-I)]) (by simp[results,results84,go_sem]) rfl ⟨rfl,Zd0 _ _ _ _⟩
theorem Zoj (J I O D:Int)(w:World)(a1: -16000<=J)(a2:J<=16000)(Z: -16000<=I)(a4:I<=16000)(Y: -16000<=O)(b2:O<=16000)(b3: -16000<=D)(b4:D<=16000) :
  Calls prog 85 #[.agg #[int i64 J,int i64 I],.agg #[int i64 O,int i64 D]] w fun e w'=>
   e= .returned (int i64 (J*D-I*O))/\Below w.heap.size w w':=by
 have m1:=@Zag J D 16000 16000 (by omega) (by omega) (by omega) (by omega);have m2:=@Zag I O 16000 16000 (by omega) (by omega) (by omega) (by omega);go_enter func85,ntmps85;go_wp2
 go_ret;exact⟨rfl,Yq _ _ _⟩
theorem Zok (I D:Int)(w:World)(O: -16000<=I)(a2:I<=16000)(J: -16000<=D)(Y:D<=16000) :
  Calls prog 86 #[.agg #[int i64 I,int i64 D]] w fun e w'=>
   e= .returned (int i64 (I*I+D*D))/\Below w.heap.size w w':=by
 have Z:=@Zag I I 16000 16000 (by omega) (by omega) (by omega) (by omega);have m2:=@Zag D D 16000 16000 (by omega) (by omega) (by omega) (by omega);go_enter func86,ntmps86;go_wp2
 go_ret;exact⟨rfl,Zb _ _⟩
def sg (n:Int):Int:=if 0<n then 1 else if n<0 then -1 else 0
theorem Zir (n:Int): -1<=sg n/\sg n<=1:=by unfold sg;split <;> (try split) <;> omega
theorem Zol (n:Int)(w:World) :
  Calls prog 83 #[int i64 n] w fun e w'=>e= .returned (int i64 (sg n))/\w'=w:=by
 unfold sg;by_cases I:0<n
 ·rw[if_pos I];go_enter func83,ntmps83;go_wp2
  go_ret;exact⟨rfl,rfl⟩
 ·rw[if_neg I];by_cases D:n<0
  ·rw[if_pos D];go_enter func83,ntmps83;go_wp2
   go_ret;exact⟨rfl,rfl⟩
  ·rw[if_neg D];go_enter func83,ntmps83;go_wp2
   go_ret;exact⟨rfl,rfl⟩
theorem Zom (n:Int)(w:World) :
  Calls prog 82 #[int i64 n] w fun e w'=>e= .returned (.bool (decide (8000<n) || decide (n < -8000)))/\w'=w:=by
 by_cases D:8000<n
 ·go_enter func82,ntmps82;go_wp2
  go_ret;exact⟨by rw[decide_eq_true D];rfl,rfl⟩
 ·go_enter func82,ntmps82;go_wp2
  go_ret;exact⟨by rw[decide_eq_false (by omega:¬ 8000<n)];rfl,rfl⟩
def Zc (x y:Int):Bool:=(decide (8000<x) || decide (x < -8000)) || (decide (8000<y) || decide (y < -8000))
theorem Xp {x y:Int}(h:Zc x y=false):Near x y:=by
 simp only[Zc,Bool.or_eq_false_iff,decide_eq_false_iff_not] at h;exact⟨by omega,by omega,by omega,by omega⟩
theorem Zd1 {x y:Int}(h:Near x y):Zc x y=false:=by
 obtain⟨a,b,c,d⟩:=h;simp only[Zc,Bool.or_eq_false_iff,decide_eq_false_iff_not];omega
theorem Zuc (x y:Int)(w:World) :
  Calls prog 33 #[.agg #[int i64 x,int i64 y]] w fun e w'=>e= .returned (.bool (Zc x y))/\Below w.heap.size w w':=by
 unfold Zc;by_cases D:(decide (8000<x) || decide (x < -8000))=true
 ·rw[D];go_enter func33,ntmps33;go_wp2_with (go_at_call 82;refine (Zom _ _).mono ?_;rintro e w' ⟨rfl,rfl⟩;rw[D])
  go_ret;exact⟨rfl,Zb _ _⟩
 ·have I:(decide (8000<x) || decide (x < -8000))=false:=by simpa using D
  clear D;rw[I];go_enter func33,ntmps33;go_wp2_with (go_at_call 82;refine (Zom _ _).mono ?_;rintro e w' ⟨rfl,rfl⟩;try rw[I])
  go_ret;exact⟨rfl,Zb _ _⟩
def Zp (w:World)(b e:Nat)(l:List (Int×Int)):Prop:=
 ∀ j,j<l.length->w.cell? ⟨b,e+j*2,none⟩=some (int i64 (l.getD j (0,0)).1)/\w.cell? ⟨b,e+j*2+1,none⟩=some (int i64 (l.getD j (0,0)).2)
def Ya (l:List (Int×Int)):Bool:=l.any fun p=>Zc p.1 p.2
theorem Zon (l:List (Int×Int))(k:Nat)(h:k<l.length):Ya (l.take (k+1))=(Ya (l.take k) || Zc l[k].1 l[k].2):=by
 unfold Ya;rw[List.take_succ_eq_append_getElem h,List.any_append];simp only[List.any_cons,List.any_nil,Bool.or_false]
theorem Zoo (l:List (Int×Int))(k:Nat)(h:k<l.length)(e:Zc l[k].1 l[k].2=true):Ya l=true:=by
 unfold Ya;rw[List.any_eq_true];exact⟨l[k],List.getElem_mem h,e⟩
theorem Zud (b I:Nat)(cap:Nat)(l:List (Int×Int))(w:World)(hl:l.length<=1000000000)(Z:b<w.heap.size)(hp:Zp w b I l) :
  Calls prog 81 #[.slice (some ⟨b,I,none⟩) l.length cap,.func (.func 33) #[] #[]] w fun e w'=>
   (∃ r:Int,e= .returned (int i64 r)/\decide (0<=r)=Ya l)/\Below w.heap.size w w':=by
 go_enter func81,ntmps81;go_wp2
 go_loopw [8] (fun i wr=>∃ k:Nat,k<=l.length/\i=int i64 k/\Ya (l.take k)=false/\Below w.heap.size w wr)
  (fun i _=>l.length-(intOf i).toNat)
 case atStart=>exact⟨0,Nat.zero_le _,rfl,rfl,Below.refl _ _⟩
 case round=>
  obtain⟨k,hk,rfl,Y,D⟩:=hrel;by_cases J:k<l.length
  ·obtain⟨c0,c1⟩:=hp k J;have hc0:=(D.cell (p:=⟨b,I+k*2,none⟩) Z).trans c0;have hc1:=(D.cell (p:=⟨b,I+k*2+1,none⟩) Z).trans c1;clear c0 c1;go_wp2_with (go_at_call 33;refine (Zuc _ _ _).mono ?_;rintro e w' ⟨rfl,aa⟩)
   ·have O:Zc l[k].1 l[k].2=true:=by assumption
    go_ret;exact⟨⟨k,rfl,by rw[Zoo l k J O];simp⟩,D.trans (aa.mono D.size)⟩
   ·have O:Zc l[k].1 l[k].2=false:=by assumption
    go_roundw;case rel=>exact⟨k+1,by omega,by go_num,by rw[Zon l k J,Y,O];rfl,D.trans (aa.mono D.size)⟩
    case measure=>simp[intOf];omega
  ·go_wp2
   go_ret;rw[List.take_of_length_le (by omega)] at Y;exact⟨⟨-1,rfl,by rw[Y];rfl⟩,D⟩
theorem Zue (b D:Nat)(cap:Nat)(l:List (Int×Int))(w:World)(Z:l.length<=1000000000)(J:b<w.heap.size)(Y:Zp w b D l) :
  Calls prog 32 #[.slice (some ⟨b,D,none⟩) l.length cap,.func (.func 33) #[] #[]] w fun e w'=>
   e= .returned (.bool (Ya l))/\Below w.heap.size w w':=by
 go_enter func32,ntmps32;go_wp2_with (go_at_call 81;refine (Zud _ _ _ l _ Z J Y).mono ?_;rintro e w' ⟨⟨r,rfl,I⟩,O⟩)
 go_ret;exact⟨by rw[<-I];rfl,O⟩
theorem Zc1 (b D:Nat)(cap:Nat)(l:List (Int×Int))(w:World)(Y:l.length<=1000000000)(I:b<w.heap.size)(O:Zp w b D l) :
  Calls prog 16 #[.slice (some ⟨b,D,none⟩) l.length cap] w fun e w'=>
   e= .returned (.bool (Ya l))/\Below w.heap.size w w':=by
 go_enter func16,ntmps16;go_wp2_with (go_at_call 32;refine (Zue _ _ _ l _ Y I O).mono ?_;rintro e w' ⟨rfl,J⟩)
 go_ret;exact⟨rfl,J⟩
theorem Zc2 (a:Option Addr)(n c:Nat)(w:World) :
  Calls prog 17 #[.slice a n c] w fun e w'=>∃ B,w.heap.size<=B/\B<w'.heap.size/\w'.cell? ⟨B,0,none⟩=some (.slice a n c)/\
   e= .returned (.agg #[.func (.func 34) #[] #[.pointer (some ⟨B,0,none⟩)],.func (.func 36) #[] #[.pointer (some ⟨B,0,none⟩)]])/\Below w.heap.size w w':=by
 go_enter func17,ntmps17;go_wp2
 refine bodyPost_ret (v:=.agg #[.func (.func 34) #[] #[.pointer (some ⟨w.heap.size,0,none⟩)],.func (.func 36) #[] #[.pointer (some ⟨w.heap.size,0,none⟩)]]) (by simp[results,results17,go_sem]) rfl ⟨w.heap.size,Nat.le_refl _,by simp;omega,?_,rfl,Yq _ _ _⟩;simp
theorem Zop (J Y O aa I Z:Int)(w:World)(a:Near J Y)(b:Near O aa)(c:Near I Z) :
  Calls prog 35 #[.agg #[int i64 J,int i64 Y],.agg #[int i64 O,int i64 aa],.agg #[int i64 I,int i64 Z]] w fun e w'=>
   e= .returned (int i64 (sg (Zk J Y O aa I Z)))/\Below w.heap.size w w':=by
 have ha:=a;have hb:=b;have hc:=c;obtain⟨a1,a2,a3,a4⟩:=a;obtain⟨b1,b2,b3,b4⟩:=b;obtain⟨c1,c2,c3,c4⟩:=c;unfold Zk;go_enter func35,ntmps35;go_wp2_with fail
 have ac:Below w.heap.size w (((w.alloc (.cells #[int i64 J,int i64 Y] 37)).alloc (.cells #[int i64 O,int i64 aa] 37)).alloc (.cells #[int i64 I,int i64 Z] 37)):=Zd0 _ _ _ _;generalize D:(((w.alloc (.cells #[int i64 J,int i64 Y] 37)).alloc (.cells #[int i64 O,int i64 aa] 37)).alloc (.cells #[int i64 I,int i64 Z] 37))=W at *
 have hsz:W.heap.size=w.heap.size+1+1+1:=by rw[<-D];simp
 have k0:W.cell? ⟨w.heap.size,0,none⟩=some (int i64 J):=by rw[<-D];simp[go_sem]
 have k1:W.cell? ⟨w.heap.size,1,none⟩=some (int i64 Y):=by rw[<-D];simp[go_sem]
 have k2:W.cell? ⟨w.heap.size+1,0,none⟩=some (int i64 O):=by rw[<-D];simp[go_sem]
 have k3:W.cell? ⟨w.heap.size+1,1,none⟩=some (int i64 aa):=by rw[<-D];simp[go_sem]
 have k4:W.cell? ⟨w.heap.size+1+1,0,none⟩=some (int i64 I):=by rw[<-D,World.cell?_alloc_at _ _ _ _ (by simp)];rfl
 have k5:W.cell? ⟨w.heap.size+1+1,1,none⟩=some (int i64 Z):=by rw[<-D,World.cell?_alloc_at _ _ _ _ (by simp)];rfl
 clear D;go_region_held3 (fun w'=>Below W.heap.size W w'/\∀ b o,b<W.heap.size->w'.cell? ⟨b,o,none⟩=W.cell? ⟨b,o,none⟩) (first|exact Yw _|exact Yx (by assumption) ab)
  (first
    | (go_at_call 84; refine (Zg9 _ _ _ _ _ (by assumption) (by assumption)).mono ?_; rintro e w' ⟨rfl, ab⟩)
    | (go_at_call 85; refine (Zoj _ _ _ _ _ (by omega) (by omega) (by omega) (by omega) (by omega) (by omega) (by omega) (by omega)).mono ?_; rintro e w' ⟨rfl, ab⟩)
    | (go_at_call 83; refine (Zol _ _).mono ?_; rintro e w' ⟨rfl, rfl⟩; have ab := Below.refl w'.heap.size w'))
 go_wp2
 go_ret;exact⟨rfl,Zub (by assumption) ac⟩
end Go.Proofs.YtgpapegpdfonpaaGreatDoor
namespace Go.Proofs.YtgpapegpdfonpaaGreatDoor
open Go.RowKit
def Zfz (P:Program)(o:Oper)(ρ:Operand->Value)(w:World)(R:Value->World->Prop):Prop:=
 match (execOp ρ o).run P w with
 | .ok (.value v) w'=>R v w'
 | .ok (.enter f args) w'=>Calls P f args w' fun e D=>∃ v,e= .returned v/\R v D
 | _=>False
structure Gives (P:Program)(o:Oper)(ρ:Operand->Value)(w:World)(R:Value->World->Prop):Prop where
 out:Zfz P o ρ w R
structure Rest (P:Program)(ops:Array Oper)(Q:Exit->Act->World->Prop)(l:List Oper)(a:Act)(w:World):Prop where
 out:wpList P ops Q l a w
theorem Gives.value {P:Program} {o:Oper} {ρ:Operand->Value} {w:World} {R:Value->World->Prop} (v:Value) (w':World)
  (h:(execOp ρ o).run P w= .ok (.value v) w') (hR:R v w'):Gives P o ρ w R:=by
 refine⟨?_⟩;unfold Zfz;rw[h];exact hR
theorem Gives.call {P:Program} {o:Oper} {ρ:Operand->Value} {w:World} {R:Value->World->Prop} (f:FuncId) (args:Array Value)
  (h:(execOp ρ o).run P w= .ok (.enter f args) w) (hR:Calls P f args w fun e D=>∃ v,e= .returned v/\R v D):Gives P o ρ w R:=by
 refine⟨?_⟩;unfold Zfz;rw[h];exact hR
theorem Gives.wp {P:Program} {o:Oper} {a:Act} {ρ:Operand->Value} {w:World} {R:Value->World->Prop} {K:Act->World->Prop} {Q:Exit->Act->World->Prop}
  (h:Gives P o ρ w R) (D:execOp a.eval o=execOp ρ o) (hK:∀ v w',R v w'->K (a.put o.dst v) w'):Oper.wp P o a w K Q:=by
 have h:=h.out;unfold Zfz at h;unfold Oper.wp;rw[D];generalize (execOp ρ o).run P w=r at h;cases r with
 | ok n w'=>
  cases n <;> simp only[Oper.upon] at h ⊢
  case value v=>exact hK _ _ h
  case enter f args=>
   refine Calls.mono h fun e J D=>?_
   obtain⟨v,rfl,I⟩:=D;exact hK _ _ I
 | halt x w'=>simp at h
section
variable {P:Program} {ops:Array Oper} {Q:Exit->Act->World->Prop}
def Zcg (ops:Array Oper)(i:Nat):Oper:=(ops[i]?).getD default
def X5 (ops:Array Oper)(i j:Nat):Bool:=
 match ops[i]? with
 | some o=>o.after.toList.any fun e=>Region.binds .any e && e.on == j
 | none=>false
def Zah (ops:Array Oper)(i:Nat):Option Tmp:=(ops[i]?).bind (·.dst)
def Zaa (n k:Nat):Array Bool:=((List.range n).map fun i=>decide (i<k)).toArray
def Zis (f:Bool)(ops:Array Oper)(m:Nat):Bool:=
 decide (m<=ops.size) && Region.noSelect ops &&
 ((List.range ops.size).all fun i => match ops[i]? with
   | some o => o.after.all fun e => !Region.binds .any e || decide (e.on < i)
   | none => true) &&
 ((List.range m).all fun i => match ops[i]? with
   | some o => (f || o.guard.isNone) && ((List.range m).all fun j => (i == j || (match Zah ops j with
     | some d => o.dst != some d && (X5 ops i j || !(o.looksAt ops).contains d)
     | none => true)) && (i != j || (match o.dst with
     | some d => !(o.looksAt ops).contains d
     | none => true)))
   | none => false) &&
 (decide (m=ops.size) || (List.range m).all fun j=>(List.range' (j+1) (m-j)).any fun D=>X5 ops D j) &&
 ((List.range' (m+1) (ops.size-(m+1))).all fun i=>(List.range' m (i-m)).any fun j=>X5 ops i j) &&
 ((List.range' m (ops.size-m)).all fun k=>Region.ready .any ops (Zaa ops.size k) == [k])
def Zf0 (ops:Array Oper)(m:Nat):Bool:=Zis false ops m
def Zab (ops:Array Oper)(σ:Nat->Value):Nat->Act->Act
 | 0,a=>a
 | k+1,a=>(Zab ops σ k a).put (Zah ops k) (σ k)
theorem Zk8 (a:Act)(d:Option Tmp)(v:Value):(a.put d v).tmps.size=a.tmps.size:=by
 cases d <;> simp[Act.put]
theorem Zoq (a:Act)(d:Option Tmp)(v:Value):(a.put d v).defers=a.defers:=by
 cases d <;> simp[Act.put]
theorem Zk9 (a:Act)(d:Tmp)(v:Value)(h:d<a.tmps.size):(a.put (some d) v).tmps[d]? =some v:=by
 simp[Act.put,h]
theorem Zha (a:Act)(x:Option Tmp)(t:Tmp)(v:Value)(h:x≠some t):(a.put x v).tmps[t]? =a.tmps[t]? :=by
 cases x with
 | none=>rfl
 | some d=>simp only[Act.put];rw[Array.getElem?_setIfInBounds_ne (fun e=>h (by rw[e]))]
theorem Zla (ops:Array Oper)(σ:Nat->Value)(k:Nat)(a:Act):(Zab ops σ k a).tmps.size=a.tmps.size:=by
 induction k with
 | zero=>rfl
 | succ k ih=>simp only[Zab,Zk8,ih]
theorem Zuf (ops:Array Oper)(σ:Nat->Value)(k:Nat)(a:Act):(Zab ops σ k a).defers=a.defers:=by
 induction k with
 | zero=>rfl
 | succ k ih=>simp only[Zab,Zoq,ih]
theorem Zor (ops:Array Oper)(σ:Nat->Value)(k:Nat)(a:Act)(t:Tmp)(h:∀ j,j<k->Zah ops j≠some t):(Zab ops σ k a).tmps[t]? =a.tmps[t]? :=by
 induction k with
 | zero=>rfl
 | succ k ih=>simp only[Zab];rw[Zha _ _ _ _ (h k (by omega)),ih fun j e=>h j (by omega)]
theorem Zos (ops:Array Oper) (σ:Nat->Value) (k:Nat) (a:Act) (t:Tmp) (j:Nat) (O:j<k) (D:Zah ops j=some t) (I:t<a.tmps.size)
  (h:∀ i,i<k->i≠j->Zah ops i≠some t):(Zab ops σ k a).tmps[t]? =some (σ j):=by
 induction k with
 | zero=>omega
 | succ k ih=>
  simp only[Zab];by_cases e:j=k
  ·subst e;rw[D];exact Zk9 _ _ _ (by rw[Zla];exact I)
  ·rw[Zha _ _ _ _ (h k (by omega) (fun x=>e x.symm))];exact ih (by omega) fun i hi J=>h i (by omega) J
structure Laid (ops:Array Oper)(m:Nat)(a0:Act)(σ:Nat->Value)(listed:Array Bool)(a:Act):Prop where
 size:a.tmps.size=a0.tmps.size
 defers:a.defers=a0.defers
 at':∀ j,j<m->listed.getD j false=true->∀ t,Zah ops j=some t->t<a0.tmps.size->a.tmps[t]? =some (σ j)
 other:∀ t,(∀ j,j<m->listed.getD j false=true->Zah ops j≠some t)->a.tmps[t]? =a0.tmps[t]?
theorem Act.ext' {a b:Act}(h:a.tmps=b.tmps)(e:a.defers=b.defers):a=b:=by
 cases a;cases b;simp_all
structure GrowOk (ops:Array Oper)(m:Nat):Prop where
 le:m<=ops.size
 sel:Region.noSelect ops=true
 back:∀ i o,ops[i]? =some o->∀ e∈o.after,Region.binds .any e=true->e.on<i
 apart:∀ i j,i<m->j<m->i≠j->∀ d,Zah ops j=some d->Zah ops i≠some d
 looks:∀ i j o,i<m->j<m->ops[i]? =some o->∀ d,Zah ops j=some d->d∈o.looksAt ops->X5 ops i j=true
 gate:m=ops.size\/∀ j,j<m->∃ j',j<j'/\j'<=m/\X5 ops j' j=true
 late:∀ i,m<i->i<ops.size->∃ j,m<=j/\X5 ops i j=true
 tail:∀ k,m<=k->k<ops.size->Region.ready .any ops (Zaa ops.size k)=[k]
theorem Zug {f:Bool}{m:Nat}(h:Zis f ops m=true):GrowOk ops m:=by
 simp only[Zis,Bool.and_eq_true,decide_eq_true_eq,List.all_eq_true,List.mem_range,Bool.or_eq_true,List.mem_range'_1] at h;obtain⟨⟨⟨⟨⟨⟨h1,h2⟩,h3⟩,h4⟩,h5⟩,h6⟩,h7⟩:=h;refine⟨h1,h2,?_,?_,?_,?_,?_,?_⟩
 ·intro i o D e he hb;have hi:i<ops.size:=(Array.getElem?_eq_some_iff.1 D).1;have:=h3 i hi;rw[D] at this;simp only[Array.all_eq_true_iff_forall_mem] at this;have:=this e he;simp only[hb,Bool.not_true,Bool.false_or,decide_eq_true_eq] at this;exact this
 ·intro i j hi I O d J hid;have:=h4 i hi;cases D:ops[i]? with
  | none=>rw[D] at this;simp at this
  | some o=>
   rw[D] at this;simp only[Bool.and_eq_true,List.all_eq_true,List.mem_range] at this;have:=(this.2 j I).1;rw[J] at this;simp only[Bool.or_eq_true,beq_iff_eq,O,false_or,Bool.and_eq_true,bne_iff_ne] at this;exact this.1 (by simpa [Zah,D] using hid)
 ·intro i j o hi I D d J hl;have:=h4 i hi;rw[D] at this;simp only[Bool.and_eq_true,List.all_eq_true,List.mem_range] at this;have:=this.2 j I;by_cases O:i=j
  ·have:=this.2;subst O;have hod:o.dst=some d:=by simpa [Zah,D] using J
   rw[hod] at this;simp[hl] at this
  ·have:=this.1;rw[J] at this;simp only[Bool.or_eq_true,beq_iff_eq,O,false_or,Bool.and_eq_true,Bool.not_eq_true'] at this;rcases this.2 with h|h
   ·exact h
   ·simp[hl] at h
 ·rcases h5 with h|h
  ·exact .inl h
  ·refine .inr fun j I=>?_
   obtain⟨j',Y,Z⟩:=List.any_eq_true.1 (h j I);rw[List.mem_range'_1] at Y;exact⟨j',by omega,by omega,Z⟩
 ·intro i hi hn;obtain⟨j,Y,Z⟩:=List.any_eq_true.1 (h6 i ⟨by omega,by omega⟩);rw[List.mem_range'_1] at Y;exact⟨j,by omega,Z⟩
 ·intro k hk hn;simpa using h7 k ⟨by omega,by omega⟩
theorem Zot {m:Nat}(h:Zf0 ops m=true):GrowOk ops m:=Zug h
theorem Zou {m:Nat}(h:Zf0 ops m=true):∀ i o,i<m->ops[i]? =some o->o.guard=none:=by
 simp only[Zf0,Zis,Bool.false_or,Bool.and_eq_true,decide_eq_true_eq,List.all_eq_true,List.mem_range,Bool.or_eq_true,List.mem_range'_1] at h;obtain⟨⟨⟨⟨⟨⟨Z,I⟩,h3⟩,e⟩,J⟩,Y⟩,O⟩:=h;intro i o hi D;have:=e i hi;rw[D] at this;simp only[Bool.and_eq_true,Option.isNone_iff_eq_none] at this;exact this.1
theorem Zf1 {i j:Nat}{o:Oper}(J:ops[i]? =some o)(h:X5 ops i j=true):∃ e∈o.after,Region.binds .any e=true/\e.on=j:=by
 simp only[X5,J] at h;obtain⟨e,I,D⟩:=List.any_eq_true.1 h;simp only[Bool.and_eq_true,beq_iff_eq] at D;exact⟨e,Array.mem_toList_iff.1 I,D.1,D.2⟩
theorem Laid.exec {m:Nat} {I a:Act} {σ:Nat->Value} {listed:Array Bool} (L:Laid ops m I σ listed a) (g:GrowOk ops m) {i:Nat} {o:Oper} (hi:i<m)
  (ho:ops[i]? =some o) (hp:∀ j,X5 ops i j=true->listed.getD j false=true):execOp a.eval o=execOp (Zab ops σ i I).eval o:=by
 refine execOp_congr o (fun cs b=>Region.noSelect_spec g.sel i o cs b ho) fun x hx=>?_
 cases x with
 | tmp t=>
  have hl:t∈o.looksAt ops:=List.mem_append_left _ (List.mem_filterMap.2 ⟨.tmp t,by simpa using hx,rfl⟩);have key:a.tmps[t]? =(Zab ops σ i I).tmps[t]? :=by
   by_cases Z:∃ j,j<m/\Zah ops j=some t
   ·obtain⟨j,D,J⟩:=Z;have Y:=g.looks i j o hi D ho t J hl;have hlj:=hp j Y;obtain⟨e,he,hb,hon⟩:=Zf1 ho Y;have hji:j<i:=hon ▸ g.back i o ho e he hb;by_cases O:t<I.tmps.size
    ·rw[L.at' j D hlj t J O];rw[Zos ops σ i I t j hji J O fun k hk hne=>g.apart k j (by omega) D hne t J]
    ·rw[Array.getElem?_eq_none (by rw[L.size];exact Nat.le_of_not_lt O),Array.getElem?_eq_none (by rw[Zla];exact Nat.le_of_not_lt O)]
   ·have aa:∀ j,j<m->Zah ops j≠some t:=fun j D J=>Z ⟨j,D,J⟩
    rw[L.other t fun j D _=>aa j D,Zor ops σ i I t fun j D=>aa j (by omega)]
  simp only[Act.eval,Array.getD_eq_getD_getElem?,key]
 | _=>rfl
theorem Laid.put {m:Nat} {Y a:Act} {σ:Nat->Value} {listed:Array Bool} (L:Laid ops m Y σ listed a) (g:GrowOk ops m) {i:Nat} {o:Oper} (hi:i<m)
  (ho:ops[i]? =some o) (hun:listed.getD i false=false) (hsz:listed.size=ops.size) (v:Value) :
  Laid ops m Y (fun j=>if j=i then v else σ j) (listed.setIfInBounds i true) (a.put o.dst v):=by
 have O:Zah ops i=o.dst:=by simp[Zah,ho]
 have hin:i<listed.size:=by rw[hsz];exact (Array.getElem?_eq_some_iff.1 ho).1
 have hset:(listed.setIfInBounds i true).getD i false=true:=by simp[hin]
 have Z:∀ j,j≠i->(listed.setIfInBounds i true).getD j false=listed.getD j false:=fun j D=>getD_set_ne false (Ne.symm D)
 refine⟨by rw[Zk8];exact L.size,by rw[Zoq];exact L.defers,?_,?_⟩
 ·intro j D I t J ht;by_cases e:j=i
  ·subst e;rw[O] at J;rw[J,if_pos rfl];exact Zk9 _ _ _ (by rw[L.size];exact ht)
  ·rw[if_neg e,Zha _ _ _ _ (by rw[<-O];exact g.apart i j hi D (Ne.symm e) t J)];exact L.at' j D (by rw[<-Z j e];exact I) t J ht
 ·intro t h;rw[Zha _ _ _ _ (by rw[<-O];exact h i hi hset)];refine L.other t fun j D I=>?_
  have e:j≠i:=fun e=>by subst e;rw[hun] at I;cases I
  exact h j D (by rw[Z j e];exact I)
theorem Laid.all {m:Nat}{D a:Act}{σ:Nat->Value}{listed:Array Bool}(L:Laid ops m D σ listed a)(g:GrowOk ops m)(h:∀ j,j<m->listed.getD j false=true) :
  a=Zab ops σ m D:=by
 refine Act.ext' (Array.ext_getElem? fun t=>?_) (by rw[L.defers,Zuf]);by_cases O:∃ j,j<m/\Zah ops j=some t
 ·obtain⟨j,e,I⟩:=O;by_cases J:t<D.tmps.size
  ·rw[L.at' j e (h j e) t I J,Zos ops σ m D t j e I J fun k Z aa=>g.apart k j Z e aa t I]
  ·rw[Array.getElem?_eq_none (by rw[L.size];omega),Array.getElem?_eq_none (by rw[Zla];omega)]
 ·have Y:∀ j,j<m->Zah ops j≠some t:=fun j e I=>O ⟨j,e,I⟩
  rw[L.other t fun j e _=>Y j e,Zor ops σ m D t Y]
theorem Zuh (n k j:Nat)(d:Bool)(h:j<n):(Zaa n k).getD j d=decide (j<k):=by
 simp[Zaa,h]
theorem Zov (n k:Nat):(Zaa n k).size=n:=by simp[Zaa]
theorem Zui (n k:Nat):(Zaa n k).setIfInBounds k true=Zaa n (k+1):=by
 apply Array.ext_getElem?;intro j;by_cases D:j<n
 ·by_cases e:k=j
  ·subst e;simp[Zaa,D]
  ·rw[Array.getElem?_setIfInBounds_ne e];simp[Zaa,D];omega
 ·rw[Array.getElem?_eq_none (by simp[Zaa];omega),Array.getElem?_eq_none (by simp[Zaa];omega)]
theorem Zuj (n:Nat)(I:n=ops.size):Region.ready .any ops (Zaa n n)=[]:=by
 subst I;refine List.eq_nil_iff_forall_not_mem.2 fun j J=>?_
 obtain⟨D,o,O,_⟩:=mem_ready.1 J;have e:j<ops.size:=(Array.getElem?_eq_some_iff.1 O).1;rw[Zuh _ _ _ _ e] at D;simp[e] at D
theorem Zow {m:Nat}(g:GrowOk ops m):∀ (r k:Nat) (a:Act) (w:World),r=ops.size-k->m<=k->k<=ops.size->wpList P ops Q (ops.toList.drop k) a w->
  wpAny P .any ops Q r (Zaa ops.size k) a w:=by
 intro r;induction r with
 | zero=>
  intro k a w Z D hk h;have:k=ops.size:=by omega
  subst this;rw[List.drop_eq_nil_of_le (by simp)] at h;exact⟨Zuj _ rfl,h⟩
 | succ r ih=>
  intro k a w Z D hk h;have e:k<ops.size:=by omega
  refine⟨fun O=>(by rw[g.tail k D e] at O;cases O),fun i hi=>?_⟩;rw[g.tail k D e,List.mem_singleton] at hi;subst hi;have Y:ops[i]? =some ops[i]:=by simp[e]
  rw[List.drop_eq_getElem_cons (by simpa using e)] at h;simp only[Array.getElem_toList,wpList] at h;simp only[wpOp,Y];rw[Zui];have J:∀ a w,wpList P ops Q (ops.toList.drop (i+1)) a w->wpAny P .any ops Q r (Zaa ops.size (i+1)) a w:=fun a w h=>ih (i+1) a w (by omega) (by omega) (by omega) h
  split
  ·rename_i I;rw[if_pos I] at h;exact h.imp (Oper.wp_mono J) id
  ·rename_i I;rw[if_neg I] at h;exact J _ _ h
def left (m:Nat)(listed:Array Bool):Nat:=((List.range m).filter fun j=> !listed.getD j false).length
theorem Zox {m:Nat}{listed:Array Bool}(h:left m listed=0):∀ j,j<m->listed.getD j false=true:=by
 intro j D;have:=List.eq_nil_of_length_eq_zero h;have e:=List.filter_eq_nil_iff.1 this j (List.mem_range.2 D);simpa using e
theorem Zoy {m:Nat}{listed:Array Bool}(h:left m listed≠0):∃ j,j<m/\listed.getD j false=false:=by
 have:((List.range m).filter fun j=> !listed.getD j false)≠ []:=fun e=>h (by unfold left;rw[e];rfl)
 obtain⟨j,D⟩:=List.exists_mem_of_ne_nil _ this;have:=List.mem_filter.1 D;exact⟨j,List.mem_range.1 this.1,by simpa using this.2⟩
theorem Zoz {m:Nat}{listed:Array Bool}{i:Nat}(hi:i<m)(Z:i<listed.size)(I:listed.getD i false=false) :
  left m listed=left m (listed.setIfInBounds i true)+1:=by
 unfold left;induction m with
 | zero=>omega
 | succ m ih=>
  rw[List.range_succ,List.filter_append,List.filter_append,List.length_append,List.length_append];by_cases e:i=m
  ·subst e;have D:([i].filter fun j=> !listed.getD j false).length=1:=by rw[List.filter_cons,I];rfl
   have J:([i].filter fun j=> !(listed.setIfInBounds i true).getD j false).length=0:=by
    rw[List.filter_cons];simp[Z]
   have Y:((List.range i).filter fun j=> !(listed.setIfInBounds i true).getD j false)=(List.range i).filter fun j=> !listed.getD j false:=by
    refine List.filter_congr fun j O=>?_
    have:i≠j:=by have:=List.mem_range.1 O;omega
    rw[getD_set_ne false this]
   rw[D,J,Y]
  ·have D:([m].filter fun j=> !(listed.setIfInBounds i true).getD j false)=[m].filter fun j=> !listed.getD j false:=by
    simp only[List.filter_cons,getD_set_ne false e,List.filter_nil]
   rw[D,ih (by omega)];omega
theorem Zo0 {m:Nat}(g:GrowOk ops m){listed:Array Bool}(hsz:listed.size=ops.size):∀ j,j<m->listed.getD j false=false->Region.ready .any ops listed≠ []:=by
 intro j;induction j using Nat.strongRecOn with
 | ind j ih=>
  intro hj I;by_cases J:∃ k,k<j/\listed.getD k false=false
  ·obtain⟨k,hk,hu⟩:=J;exact ih k hk (by omega) hu
  ·intro Z;have ab:j<ops.size:=L3 hj g.le;have D:ops[j]? =some ops[j]:=by simp[ab]
   have:j∈Region.ready .any ops listed:=by
    refine mem_ready.2 ⟨?_,_,D,fun e he Y=>?_⟩
    ·have:j<listed.size:=by omega
     simp[this] at I ⊢;exact I
    ·have aa:=g.back j _ D e he Y;cases O:listed.getD e.on false with
     | true=>rfl
     | false=>exact absurd ⟨e.on,aa,O⟩ J
   rw[Z] at this;cases this
structure GrowAt (ops:Array Oper)(m:Nat)(a0:Act)(W:World)(F:Nat->Value->Nat->Nat->World->Prop)(σ:Nat->Value)(s e:Nat->Nat)(listed:Array Bool)(a:Act)(w:World):Prop where
 size:listed.size=ops.size
 late:∀ j,m<=j->listed.getD j false=false
 down:∀ j o,ops[j]? =some o->listed.getD j false=true->∀ ed∈o.after,Region.binds .any ed=true->listed.getD ed.on false=true
 laid:Laid ops m a0 σ listed a
 below:Below W.heap.size W w
 fact:∀ j,listed.getD j false=true->F j (σ j) (s j) (e j) w/\e j<=w.heap.size/\W.heap.size<=s j
 disj:∀ i j,i≠j->listed.getD i false=true->listed.getD j false=true->e i<=s j\/e j<=s i
theorem Zuk {m:Nat} (g:GrowOk ops m) (hgd:∀ i o,i<m->ops[i]? =some o->o.guard=none) {a0:Act} {W:World} (F:Nat->Value->Nat->Nat->World->Prop)
  (hF:∀ i v s e w w',F i v s e w->Below w.heap.size w w'->F i v s e w')
  (hop : ∀ i, i < m → ∀ (σ : Nat → Value) (s e : Nat → Nat) (w : World), Below W.heap.size W w → (∀ j, X5 ops i j = true → F j (σ j) (s j) (e j) w) →
    Gives P (Zcg ops i) (Zab ops σ i a0).eval w fun v w' => Below w.heap.size w w' ∧ F i v w.heap.size w'.heap.size w')
  (hend : ∀ (σ : Nat → Value) (s e : Nat → Nat) (w : World), Below W.heap.size W w → (∀ j, j < m → F j (σ j) (s j) (e j) w) → (∀ j, j < m → W.heap.size ≤ s j) → (∀ i j, i ≠ j → i < m → j < m → e i ≤ s j ∨ e j ≤ s i) →
    Rest P ops Q (ops.toList.drop m) (Zab ops σ m a0) w) :
  ∀ (r:Nat) (σ:Nat->Value) (s e:Nat->Nat) (listed:Array Bool) (a:Act) (w:World),r=left m listed->GrowAt ops m a0 W F σ s e listed a w->
   wpAny P .any ops Q (ops.size-m+r) listed a w:=by
 intro r;induction r with
 | zero=>
  intro σ s e listed a w hr G;have J:=Zox hr.symm;have I:listed=Zaa ops.size m:=by
   apply Array.ext_getElem?;intro j;by_cases D:j<ops.size
   ·have h1:listed[j]? =some (listed.getD j false):=by
     have:j<listed.size:=by rw[G.size];exact D
     simp[this]
    have h2:(Zaa ops.size m)[j]? =some (decide (j<m)):=by simp[Zaa,D]
    rw[h1,h2];by_cases hjm:j<m
    ·rw[J j hjm];simp[hjm]
    ·rw[G.late j (by omega)];simp[hjm]
   ·rw[Array.getElem?_eq_none (by rw[G.size];omega),Array.getElem?_eq_none (by rw[Zov];omega)]
  rw[G.laid.all g J,I];exact Zow g _ m _ _ (by omega) (Nat.le_refl _) g.le (hend σ s e w G.below (fun j D=>(G.fact j (J j D)).1) (fun j D=>(G.fact j (J j D)).2.2) (fun i j Y hi D=>G.disj i j Y (J i hi) (J j D))).out
 | succ r ih=>
  intro σ s e listed a w hr G;obtain⟨j0,hj0,hun0⟩:=Zoy (m:=m) (listed:=listed) (by omega);refine⟨fun h0=>absurd h0 (Zo0 g G.size j0 hj0 hun0),fun i hi=>?_⟩;obtain⟨hun,o,O,J⟩:=mem_ready.1 hi;have hlt:i<ops.size:=(Array.getElem?_eq_some_iff.1 O).1;have hin:i<listed.size:=by rw[G.size];exact hlt
  have hun':listed.getD i false=false:=by simp[hin] at hun ⊢;exact hun
  have hp:∀ j,X5 ops i j=true->listed.getD j false=true:=fun j Z=>by
   obtain⟨ed,hed,hb,hon⟩:=Zf1 O Z;exact hon ▸ J ed hed hb
  have him:i<m:=by
   rcases Nat.lt_or_ge i m with h|h
   ·exact h
   ·exfalso;rcases Nat.lt_or_eq_of_le h with h'|h'
    ·obtain⟨j,D,Z⟩:=g.late i h' hlt;have:=hp j Z;rw[G.late j D] at this;cases this
    ·subst h';rcases g.gate with hg|hg
     ·omega
     ·-- all of the first m have come up
      have allup:∀ d j,j<m->m-j<=d->listed.getD j false=true:=by
       intro d;induction d with
       | zero=>intro j D hd;omega
       | succ d ihd=>
        intro j D hd;obtain⟨j',h1,h2,Z⟩:=hg j D;rcases Nat.lt_or_eq_of_le h2 with h3|h3
        ·have hl':=ihd j' h3 (by omega);have hget:ops[j']? =some (ops[j']'(L3 h3 g.le)):=by simp[L3 h3 g.le]
         obtain⟨ed,hed,hb,hon⟩:=Zf1 hget Z;exact hon ▸ G.down j' _ hget hl' ed hed hb
        ·subst h3;exact hp j Z
      rw[allup (m-j0) j0 hj0 (Nat.le_refl _)] at hun0;cases hun0
  have hgv:=hop i him σ s e w G.below fun j Z=>(G.fact j (hp j Z)).1
  rw[show Zcg ops i=o by simp[Zcg,O]] at hgv;simp only[wpOp,O];rw[if_pos (by simp[Region.wanted,hgd i o him O])];refine .inl (hgv.wp (G.laid.exec g him O hp) fun v w' hvw=>?_);obtain⟨hbw,hFi⟩:=hvw;have hset:(listed.setIfInBounds i true).getD i false=true:=by simp[hin]
  have Y:∀ j,j≠i->(listed.setIfInBounds i true).getD j false=listed.getD j false:=fun j D=>getD_set_ne false (Ne.symm D)
  refine ih (fun j=>if j=i then v else σ j) (fun j=>if j=i then w.heap.size else s j) (fun j=>if j=i then w'.heap.size else e j) _ _ _
   (by have:=Zoz him hin hun';omega) ⟨?_,?_,?_,G.laid.put g him O hun' G.size v,G.below.trans (hbw.mono G.below.size),?_,?_⟩
  ·simp[G.size]
  ·intro j D;rw[Y j (by omega)];exact G.late j D
  ·intro j oj hoj I ed hed hb;by_cases hji:j=i
   ·subst hji;rw[O] at hoj;cases hoj;exact getD_set_true (J ed hed hb)
   ·rw[Y j hji] at I;exact getD_set_true (G.down j oj hoj I ed hed hb)
  ·intro j I;by_cases hji:j=i
   ·subst hji;simp only[if_true];exact⟨hFi,Nat.le_refl _,G.below.size⟩
   ·rw[Y j hji] at I;simp only[if_neg hji];exact⟨hF _ _ _ _ _ _ (G.fact j I).1 hbw,Nat.le_trans (G.fact j I).2.1 hbw.size,(G.fact j I).2.2⟩
  ·intro x y hxy hx hy;by_cases hxi:x=i
   ·subst hxi;have aa:y≠x:=Ne.symm hxy;rw[Y y aa] at hy;simp only[if_true,if_neg aa];exact .inr (G.fact y hy).2.1
   ·rw[Y x hxi] at hx;by_cases aa:y=i
    ·subst aa;simp only[if_true,if_neg hxi];exact .inl (G.fact x hx).2.1
    ·rw[Y y aa] at hy;simp only[if_neg hxi,if_neg aa];exact G.disj x y hxy hx hy
def lay:List (Option Tmp)->(Nat->Value)->Nat->Act->Act
 | [],_,_,a=>a
 | d :: ds,σ,k,a=>lay ds σ (k+1) (a.put d (σ k))
theorem Zul (ds:List (Option Tmp))(d:Option Tmp)(σ:Nat->Value):∀ (k:Nat) (a:Act),lay (ds ++ [d]) σ k a=(lay ds σ k a).put d (σ (k+ds.length)):=by
 induction ds with
 | nil=>intro k a;rfl
 | cons x ds ih=>intro k a;simp only[List.cons_append,lay,ih,List.length_cons];rw[Nat.add_right_comm,Nat.add_assoc]
theorem Zlb (σ:Nat->Value)(a:Act):∀ k,k<=ops.size->Zab ops σ k a=lay ((ops.toList.take k).map (·.dst)) σ 0 a:=by
 intro k;induction k with
 | zero=>intro _;simp[Zab,lay]
 | succ k ih=>
  intro J;have e:k<ops.size:=J;rw[List.take_succ_eq_append_getElem (by simpa using e),List.map_append,List.map_cons,List.map_nil,Zul,Zab,ih (by omega)];have I:Zah ops k=ops.toList[k].dst:=by simp[Zah,e]
  have D:0+((ops.toList.take k).map (·.dst)).length=k:=by simp;omega
  rw[I,D]
def Zhb:List (Option Tmp)->(Nat->Value)->Nat->Tmp->Value->Value
 | [],_,_,_,d=>d
 | x :: xs,σ,k,t,d=>Zhb xs σ (k+1) t (if x == some t then σ k else d)
def env (dsts:List (Option Tmp))(σ:Nat->Value)(i:Nat)(e:Act):Operand->Value
 | .tmp t=>Zhb (dsts.take i) σ 0 t (e.tmps.getD t undef)
 | .const v=>v
 | .global g=>.pointer (some ⟨g,0,none⟩)
 | .func f=>.func (.func f) #[] #[]
def Ze5 (dsts:List (Option Tmp))(n:Nat):Bool:=dsts.all fun d=>match d with
 | some t=>decide (t<n)
 | none=>true
theorem Zum (a:Act)(x:Option Tmp)(v:Value)(t:Tmp)(h:∀ d,x=some d->d<a.tmps.size):(a.put x v).tmps.getD t undef=if x == some t then v else a.tmps.getD t undef:=by
 by_cases e:x=some t
 ·subst e;rw[if_pos (by simp),Array.getD_eq_getD_getElem?,Zk9 a t v (h t rfl)];rfl
 ·rw[if_neg (by simpa using e),Array.getD_eq_getD_getElem?,Zha a x t v e,<-Array.getD_eq_getD_getElem?]
theorem Zun (ds:List (Option Tmp))(σ:Nat->Value)(t:Tmp):∀ (k:Nat) (a:Act),Ze5 ds a.tmps.size=true->(lay ds σ k a).tmps.getD t undef=Zhb ds σ k t (a.tmps.getD t undef):=by
 induction ds with
 | nil=>intro k a _;rfl
 | cons x ds ih=>
  intro k a h;simp only[Ze5,List.all_cons,Bool.and_eq_true] at h;simp only[lay,Zhb];rw[ih (k+1) (a.put x (σ k)) (by rw[Zk8];exact h.2),Zum];intro d e;subst e;simpa using h.1
theorem Zo1 (σ:Nat->Value)(a:Act)(m:Nat)(D:m<=ops.size){dsts:List (Option Tmp)}(I:(ops.toList.take m).map (·.dst)=dsts)(J:Ze5 dsts a.tmps.size=true)(i:Nat)(hi:i<=m) :
  (Zab ops σ i a).eval=env dsts σ i a:=by
 have e:(ops.toList.take i).map (·.dst)=dsts.take i:=by rw[<-I,<-List.map_take,List.take_take,Nat.min_eq_left hi]
 funext x;cases x with
 | tmp t=>
  show (Zab ops σ i a).tmps.getD t undef=Zhb (dsts.take i) σ 0 t (a.tmps.getD t undef)
  rw[Zlb σ a i (Nat.le_trans hi D),e,Zun];unfold Ze5 at *
  rw[List.all_eq_true] at *
  exact fun x O=>J x (List.mem_of_mem_take O)
 | _=>rfl
theorem Zo2 (n m:Nat):left m (Array.replicate n false)=m:=by
 unfold left;rw[List.filter_eq_self.2 (by intro j _;simp[Array.getElem?_replicate];split <;> rfl),List.length_range]
theorem Zuo {id m:Nat} {D:Act} {W:World} (Z:P.follows .mixedOrders=true) (g:Zf0 ops m=true) {dsts:List (Option Tmp)} (Y:(ops.toList.take m).map (·.dst)=dsts)
  (hb:Ze5 dsts D.tmps.size=true) {l:List Oper} (hl:ops.toList.drop m=l) (F:Nat->Value->Nat->Nat->World->Prop)
  (hF:∀ i v s e w w',F i v s e w->Below w.heap.size w w'->F i v s e w')
  (hop : ∀ i, i < m → ∀ (σ : Nat → Value) (s e : Nat → Nat) (w : World), Below W.heap.size W w → (∀ j, X5 ops i j = true → F j (σ j) (s j) (e j) w) →
    Gives P (Zcg ops i) (env dsts σ i D) w fun v w' => Below w.heap.size w w' ∧ F i v w.heap.size w'.heap.size w')
  (hend : ∀ (σ : Nat → Value) (s e : Nat → Nat) (w : World), Below W.heap.size W w → (∀ j, j < m → F j (σ j) (s j) (e j) w) → (∀ j, j < m → W.heap.size ≤ s j) → (∀ i j, i ≠ j → i < m → j < m → e i ≤ s j ∨ e j ≤ s i) →
    Rest P ops Q l (lay dsts σ 0 D) w) : (Code.region id ops true).wp P Q D W := by
 have I:=Zot g;refine wp_region_any Z ?_;have:=Zuk I (Zou g) F hF (fun i hi σ s e w O J=>by rw[Zo1 σ D m I.le Y hb i (Nat.le_of_lt hi)];exact hop i hi σ s e w O J) (fun σ s e w O J h3 h4=>by rw[Zlb σ D m I.le,Y,hl];exact hend σ s e w O J h3 h4) m (fun _=>undef) (fun _=>0) (fun _=>0) (Array.replicate ops.size false) D W.drew (Zo2 _ _).symm
  ⟨by simp, fun j _ => by simp [Array.getElem?_replicate]; split <;> rfl, fun j o _ h => absurd h (by simp [Array.getElem?_replicate]; split <;> simp),
   ⟨rfl, rfl, fun j _ h => absurd h (by simp [Array.getElem?_replicate]; split <;> simp), fun _ _ => rfl⟩, (Below.refl _ _).drew,
   fun j h => absurd h (by simp [Array.getElem?_replicate]; split <;> simp), fun i j _ h => absurd h (by simp [Array.getElem?_replicate]; split <;> simp)⟩
 have e:ops.size-m+m=ops.size:=by have:=I.le;omega
 rw[e] at this;exact this
theorem Yr {o:Oper} {ρ:Operand->Value} {w:World} {R:Value->World->Prop} {T:TypeId} {x:Operand} {ad:Addr} {v:Value} (e:o.op= .load T x)
  (hx:ρ x= .pointer (some ad)) (hrun:(Instr.loadAt T (.pointer (some ad))).run P w= .ok v w) (hR:R v w):Gives P o ρ w R:=by
 refine Gives.value v w ?_ hR;simp only[execOp,e,hx,Sem.run_bind,hrun,Result.andThen_ok,Sem.run_pure]
theorem Z8 {o:Oper} {ρ:Operand->Value} {w:World} {R:Value->World->Prop} {x:Operand} {v:Value} (e:o.op= .move x)
  (hx:ρ x=v) (hR:R v w):Gives P o ρ w R:=by
 refine Gives.value v w ?_ hR;simp only[execOp,e,hx];rfl
theorem Zeh {o:Oper} {ρ:Operand->Value} {w w':World} {R:Value->World->Prop} {T:TypeId} {v:Value} (e:o.op= .alloc T)
  (hrun:(Instr.alloc T true (.tuple #[])).run P w= .ok v w') (hR:R v w'):Gives P o ρ w R:=by
 refine Gives.value v w' ?_ hR;simp only[execOp,e,Sem.run_bind,hrun,Result.andThen_ok,Sem.run_pure]
theorem Zei {o:Oper} {ρ:Operand->Value} {w:World} {R:Value->World->Prop} {f:FuncId} {xs:Array Operand} {D:Array TypeId} {args:List Value}
  (hop:o.op= .call { callee:=.value (.func f),args:=xs,argTypes:=D }) (hρ:ρ (.func f)= .func (.func f) #[] #[]) (hx0:xs.toList.map ρ=args) (hrun:(callFunc f args.toArray).run P w= .ok (.enter f args.toArray) w)
  (hR:Calls P f args.toArray w fun e J=>∃ v,e= .returned v/\R v J):Gives P o ρ w R:=by
 refine Gives.call f args.toArray ?_ hR;have I:xs.map ρ=args.toArray:=by apply Array.ext';rw[Array.toList_map,hx0]
 have:execOp ρ o=callFunc f (#[] ++ xs.map ρ ++ #[]):=by
  obtain⟨dst,O,ty,pos,after,Y⟩:=o;simp only at hop;subst hop;simp only[execOp,resolve,hρ];rfl
 rw[this,I,<-hrun];simp
theorem fl0 {p:Nat->Prop}:∀ i,i<0->p i:=fun _ h=>by omega
theorem flS {p:Nat->Prop}{n:Nat}(h:∀ i,i<n->p i)(D:p n):∀ i,i<n+1->p i:=fun i hi=>by
 by_cases e:i=n
 ·subst e;exact D
 ·exact h i (by omega)
end
end Go.Proofs.YtgpapegpdfonpaaGreatDoor
namespace Go.Proofs.YtgpapegpdfonpaaGreatDoor
open Go.RowKit Go.Proofs.Tryz
open Go.Value(int)
open Go.IntKind(i64)
attribute [local go_sem ↓] Go.wp_at_zero Go.wp_at_succ
def Zbu (z:Array Value)(T:TypeId)(v:Value)(s e:Nat)(w:World):Prop:=
 ∃ b,v= .pointer (some ⟨b,0,none⟩)/\s<=b/\b<e/\b<w.heap.size/\w.heap[b]? =some (.cells z T)
theorem Zbu.keep {z:Array Value}{T:TypeId}{v:Value}{s e:Nat}{w w':World}(h:Zbu z T v s e w)(I:Below w.heap.size w w'):Zbu z T v s e w':=by
 obtain⟨b,Y,J,Z,D,O⟩:=h;exact⟨b,Y,J,Z,L3 D I.size,by rw[I.block b D];exact O⟩
theorem Zbu.new (z:Array Value)(T:TypeId)(w:World):Zbu z T (.pointer (some ⟨w.heap.size,0,none⟩)) w.heap.size (w.alloc (.cells z T)).heap.size (w.alloc (.cells z T)):=
 ⟨w.heap.size,rfl,Nat.le_refl _,by simp,by simp,by simp only[World.alloc,Array.getElem?_push_size]⟩
theorem Ys {w:World}{b:Nat}{z:Array Value}{T:TypeId}(h:w.heap[b]? =some (.cells z T))(i:Nat):w.cell? ⟨b,i,none⟩=z[i]? :=by
 simp[World.cell?,h]
theorem Zch {w:World}{b:Nat}{z:Array Value}{T:TypeId}(h:w.heap[b]? =some (.cells z T))(i:Nat):w.frozen? ⟨b,i,none⟩=false:=by
 simp[World.frozen?,h]
theorem Zlc {w:World}{b:Nat}{z:Array Value}{T:TypeId}(h:w.heap[b]? =some (.cells z T))(e:z.size=2)(x y:Value) :
  ((w.setCell ⟨b,0,none⟩ x).setCell ⟨b,1,none⟩ y).heap[b]? =some (.cells #[x,y] T):=by
 simp only[World.setCell,Array.getElem?_modify,if_true,h,Option.map_some];simp only[Option.isSome_none,Bool.false_eq_true,if_false];obtain⟨l⟩:=z;match l,e with
 | [p,q],_=>simp
theorem Zf2 (w:World){b c:Nat}(h:c≠b)(x y:Value):((w.setCell ⟨b,0,none⟩ x).setCell ⟨b,1,none⟩ y).heap[c]? =w.heap[c]? :=by
 rw[Below.heap_setCell _ _ _ _ h,Below.heap_setCell _ _ _ _ h]
theorem Zld (w:World)(b:Nat)(x y:Value):((w.setCell ⟨b,0,none⟩ x).setCell ⟨b,1,none⟩ y).heap.size=w.heap.size:=by
 simp[World.setCell]
theorem Zle {N:Nat}{W w:World}{b:Nat}(h:Below N W w)(e:N<=b)(x y:Value):Below N W ((w.setCell ⟨b,0,none⟩ x).setCell ⟨b,1,none⟩ y):=
 (h.setCell (p:=⟨b,0,none⟩) e x).setCell (p:=⟨b,1,none⟩) e y
theorem Zup {W J V1 V2 O:World} {D e I:Nat} {T:TypeId} {x1 Y x2 y2 Z y3:Value} (h:Below W.heap.size W J) (g9:W.heap.size<=D) (g10:W.heap.size<=e) (g11:W.heap.size<=I)
  (n1:D≠e) (n2:D≠I) (n3:e≠I) (h9:J.heap[D]? =some (.cells #[int i64 0,int i64 0] T)) (h10:J.heap[e]? =some (.cells #[int i64 0,int i64 0] T)) (h11:J.heap[I]? =some (.cells #[int i64 0,int i64 0] T))
  (e1:(J.setCell ⟨D,0,none⟩ x1).setCell ⟨D,1,none⟩ Y=V1) (e2:(V1.setCell ⟨e,0,none⟩ x2).setCell ⟨e,1,none⟩ y2=V2) (e3:(V2.setCell ⟨I,0,none⟩ Z).setCell ⟨I,1,none⟩ y3=O) :
  Below W.heap.size W O/\O.heap[D]? =some (.cells #[x1,Y] T)/\O.heap[e]? =some (.cells #[x2,y2] T)/\O.heap[I]? =some (.cells #[Z,y3] T)/\O.heap.size=J.heap.size:=by
 subst e1;subst e2;subst e3;refine⟨Zle (Zle (Zle h g9 _ _) g10 _ _) g11 _ _,?_,?_,?_,by rw[Zld,Zld,Zld]⟩
 ·rw[Zf2 _ n2,Zf2 _ n1,Zlc h9 rfl]
 ·rw[Zf2 _ n3,Zlc (by rw[Zf2 _ (Ne.symm n1)];exact h10) rfl]
 ·rw[Zlc (by rw[Zf2 _ (Ne.symm n3),Zf2 _ (Ne.symm n2)];exact h11) rfl]
theorem Zf3 (s1 s2 I D J e:Int)(Z: -16000<=s1/\s1<=16000)(B2: -16000<=s2/\s2<=16000)(B3: -16000<=I/\I<=16000)(B4: -16000<=D/\D<=16000)(B5: -16000<=J/\J<=16000)(O: -16000<=e/\e<=16000) :
  -262144000000000000<=(s1*s1+s2*s2)*(I*e-D*J)/\(s1*s1+s2*s2)*(I*e-D*J)<=262144000000000000:=by
 have m1:=@Zag s1 s1 16000 16000 (by omega) (by omega) (by omega) (by omega);have m2:=@Zag s2 s2 16000 16000 (by omega) (by omega) (by omega) (by omega);have m3:=@Zag I e 16000 16000 (by omega) (by omega) (by omega) (by omega);have Y:=@Zag D J 16000 16000 (by omega) (by omega) (by omega) (by omega);have:=@Zag (s1*s1+s2*s2) (I*e-D*J) 512000000 512000000 (by omega) (by omega) (by omega) (by omega);omega
def Zan (Y O bx I J Z D e:Int):Int:=
 ((Y-D)*(Y-D)+(O-e)*(O-e))*((bx-D)*(Z-e)-(I-e)*(J-D)) +
 ((bx-D)*(bx-D)+(I-e)*(I-e))*((J-D)*(O-e)-(Z-e)*(Y-D)) +
 ((J-D)*(J-D)+(Z-e)*(Z-e))*((Y-D)*(I-e)-(O-e)*(bx-D))
theorem Zb2 (w:World)(b e:Nat)(x y:Int)(D:w.cell? ⟨b,e,none⟩=some (int i64 x))(I:w.cell? ⟨b,e+1,none⟩=some (int i64 y)) :
  (Instr.loadAt 37 (.pointer (some ⟨b,e,none⟩))).run prog w= .ok (.agg #[int i64 x,int i64 y]) w:=by go_simp
theorem Zlf (w:World):(Instr.alloc 37 true (.tuple #[])).run prog w= .ok (.pointer (some ⟨w.heap.size,0,none⟩)) (w.alloc (.cells #[int i64 0,int i64 0] 37)):=by go_simp
theorem Zlg (w:World):(Instr.alloc 136 true (.tuple #[])).run prog w= .ok (.pointer (some ⟨w.heap.size,0,none⟩)) (w.alloc (.cells #[int i64 0,int i64 0] 136)):=by go_simp
abbrev pv (x y:Int):Value:=.agg #[int i64 x,int i64 y]
theorem Zuq (ax ay bx by' cx cy I D:Int)(w:World)(a:Near ax ay)(b:Near bx by')(c:Near cx cy)(d:Near I D) :
  Calls prog 37 #[.agg #[int i64 ax,int i64 ay],.agg #[int i64 bx,int i64 by'],.agg #[int i64 cx,int i64 cy],.agg #[int i64 I,int i64 D]] w fun e w'=>
   e= .returned (int i64 (sg (Zk ax ay bx by' cx cy)*sg (Zan ax ay bx by' cx cy I D)))/\Below w.heap.size w w':=by
 have ha:=a;have hb:=b;have hc:=c;have hd:=d;obtain⟨a1,a2,a3,a4⟩:=a;obtain⟨b1,b2,b3,b4⟩:=b;obtain⟨c1,c2,c3,c4⟩:=c;obtain⟨d1,d2,d3,d4⟩:=d;go_enter func37,ntmps37;go_wp2_with fail
 generalize hW:((((w.alloc (.cells #[int i64 ax,int i64 ay] 37)).alloc (.cells #[int i64 bx,int i64 by'] 37)).alloc (.cells #[int i64 cx,int i64 cy] 37)).alloc (.cells #[int i64 I,int i64 D] 37))=W;have hb0:Below w.heap.size w W:=by rw[<-hW];exact Zfy _ _ _ _ _
 have hsz:W.heap.size=w.heap.size+1+1+1+1:=by rw[<-hW];simp
 have k0:W.cell? ⟨w.heap.size,0,none⟩=some (int i64 ax):=by rw[<-hW];simp[go_sem]
 have k1:W.cell? ⟨w.heap.size,1,none⟩=some (int i64 ay):=by rw[<-hW];simp[go_sem]
 have k2:W.cell? ⟨w.heap.size+1,0,none⟩=some (int i64 bx):=by rw[<-hW];simp[go_sem]
 have k3:W.cell? ⟨w.heap.size+1,1,none⟩=some (int i64 by'):=by rw[<-hW];simp[go_sem]
 have k4:W.cell? ⟨w.heap.size+1+1,0,none⟩=some (int i64 cx):=by rw[<-hW,World.cell?_alloc_past _ _ _ (by simp),World.cell?_alloc_at _ _ _ _ (by simp)];rfl
 have k5:W.cell? ⟨w.heap.size+1+1,1,none⟩=some (int i64 cy):=by rw[<-hW,World.cell?_alloc_past _ _ _ (by simp),World.cell?_alloc_at _ _ _ _ (by simp)];rfl
 have k6:W.cell? ⟨w.heap.size+1+1+1,0,none⟩=some (int i64 I):=by rw[<-hW,World.cell?_alloc_at _ _ _ _ (by simp)];rfl
 have k7:W.cell? ⟨w.heap.size+1+1+1,1,none⟩=some (int i64 D):=by rw[<-hW,World.cell?_alloc_at _ _ _ _ (by simp)];rfl
 clear hW
 refine Zuo (m := 12) (by kernel_rfl) (by kernel_rfl) (dsts := [some 13, some 14, some 15, some 16, some 17, some 18, some 19, some 20, some 21, some 9, some 10, some 11]) rfl (by kernel_rfl) rfl (fun i v s e w => match i with
   | 0 => v = pv I D | 1 => v = pv ax ay | 2 => v = pv (ax - I) (ay - D)
   | 3 => v = pv I D | 4 => v = pv bx by' | 5 => v = pv (bx - I) (by' - D)
   | 6 => v = pv I D | 7 => v = pv cx cy | 8 => v = pv (cx - I) (cy - D)
   | 9 => Zbu #[int i64 0, int i64 0] 136 v s e w
   | 10 => Zbu #[int i64 0, int i64 0] 136 v s e w
   | 11 => Zbu #[int i64 0, int i64 0] 136 v s e w
   | _ => True) ?_ ?_ ?_
 ·intro i v s e w w' h hb;rcases i with _|_|_|_|_|_|_|_|_|_|_|_|_ <;> first|exact h|exact Zbu.keep h hb|trivial
 ·refine flS (flS (flS (flS (flS (flS (flS (flS (flS (flS (flS (flS fl0 ?_) ?_) ?_) ?_) ?_) ?_) ?_) ?_) ?_) ?_) ?_) ?_;all_goals intro σ s e wx aa hp
  ·exact Yr (T:=37) (x:=.tmp 7) rfl rfl (Zb2 _ _ _ I D ((aa.cell (by simp;omega)).trans k6) ((aa.cell (by simp;omega)).trans k7)) ⟨Below.refl _ _,rfl⟩
  ·exact Yr (T:=37) (x:=.tmp 4) rfl rfl (Zb2 _ _ _ ax ay ((aa.cell (by simp;omega)).trans k0) ((aa.cell (by simp;omega)).trans k1)) ⟨Below.refl _ _,rfl⟩
  ·have h0:σ 0=pv I D:=hp 0 rfl;have h1:σ 1=pv ax ay:=hp 1 rfl;exact Zei (f:=84) (args:=[pv I D,pv ax ay]) rfl rfl (by show [σ 0,σ 1]=_;rw[h0,h1]) (by go_simp) ((Zg9 _ _ _ _ _ hd ha).mono fun e w' h=>⟨_,h.1,h.2,rfl⟩)
  ·exact Yr (T:=37) (x:=.tmp 7) rfl rfl (Zb2 _ _ _ I D ((aa.cell (by simp;omega)).trans k6) ((aa.cell (by simp;omega)).trans k7)) ⟨Below.refl _ _,rfl⟩
  ·exact Yr (T:=37) (x:=.tmp 5) rfl rfl (Zb2 _ _ _ bx by' ((aa.cell (by simp;omega)).trans k2) ((aa.cell (by simp;omega)).trans k3)) ⟨Below.refl _ _,rfl⟩
  ·have h0:σ 3=pv I D:=hp 3 rfl;have h1:σ 4=pv bx by':=hp 4 rfl
   exact Zei (f:=84) (args:=[pv I D,pv bx by']) rfl rfl (by show [σ 3,σ 4]=_;rw[h0,h1]) (by go_simp) ((Zg9 _ _ _ _ _ hd hb).mono fun e w' h=>⟨_,h.1,h.2,rfl⟩)
  ·exact Yr (T:=37) (x:=.tmp 7) rfl rfl (Zb2 _ _ _ I D ((aa.cell (by simp;omega)).trans k6) ((aa.cell (by simp;omega)).trans k7)) ⟨Below.refl _ _,rfl⟩
  ·exact Yr (T:=37) (x:=.tmp 6) rfl rfl (Zb2 _ _ _ cx cy ((aa.cell (by simp;omega)).trans k4) ((aa.cell (by simp;omega)).trans k5)) ⟨Below.refl _ _,rfl⟩
  ·have h0:σ 6=pv I D:=hp 6 rfl;have h1:σ 7=pv cx cy:=hp 7 rfl;exact Zei (f:=84) (args:=[pv I D,pv cx cy]) rfl rfl (by show [σ 6,σ 7]=_;rw[h0,h1]) (by go_simp) ((Zg9 _ _ _ _ _ hd hc).mono fun e w' h=>⟨_,h.1,h.2,rfl⟩)
  ·exact Zeh (T:=136) rfl (Zlg _) ⟨Zb _ _,Zbu.new _ _ _⟩
  ·exact Zeh (T:=136) rfl (Zlg _) ⟨Zb _ _,Zbu.new _ _ _⟩
  ·exact Zeh (T:=136) rfl (Zlg _) ⟨Zb _ _,Zbu.new _ _ _⟩
 ·intro σ s e wx aa hF hge hdis;have e2:σ 2=pv (ax-I) (ay-D):=hF 2 (by omega);have e5:σ 5=pv (bx-I) (by'-D):=hF 5 (by omega);have e8:σ 8=pv (cx-I) (cy-D):=hF 8 (by omega);obtain⟨b9,e9,s9,t9,z9,hh9⟩:Zbu #[int i64 0,int i64 0] 136 (σ 9) (s 9) (e 9) wx:=hF 9 (by omega);obtain⟨b10,e10,s10,t10,z10,hh10⟩:Zbu #[int i64 0,int i64 0] 136 (σ 10) (s 10) (e 10) wx:=hF 10 (by omega);obtain⟨b11,e11,s11,t11,z11,hh11⟩:Zbu #[int i64 0,int i64 0] 136 (σ 11) (s 11) (e 11) wx:=hF 11 (by omega);have g9:=hge 9 (by omega);have g10:=hge 10 (by omega);have g11:=hge 11 (by omega);have n1:b9≠b10:=by have:=hdis 9 10 (by omega) (by omega) (by omega);omega
  have n2:b9≠b11:=by have:=hdis 9 11 (by omega) (by omega) (by omega);omega
  have n3:b10≠b11:=by have:=hdis 10 11 (by omega) (by omega) (by omega);omega
  refine⟨?_⟩;simp only[lay,Act.put,List.drop_succ_cons,List.drop_zero,List.setIfInBounds_toArray,List.set_cons_succ,List.set_cons_zero,e2,e5,e8,e9,e10,e11];clear hF hge hdis;have q0:=Ys hh9;have q1:=Ys hh10;have q2:=Ys hh11;have r0:=Zch hh9;have r1:=Zch hh10;have r2:=Zch hh11;go_wp2_with fail
  clear q0 q1 q2 r0 r1 r2;generalize hs1:ax-I=s1 at *
  generalize hs2:ay-D=s2 at *
  generalize ht1:bx-I=O at *
  generalize ht2:by'-D=J at *
  generalize hu1:cx-I=Y at *
  generalize hu2:cy-D=Z at *
  generalize hV1:(wx.setCell ⟨b9,0,none⟩ (int i64 s1)).setCell ⟨b9,1,none⟩ (int i64 s2)=V1;generalize hV2:(V1.setCell ⟨b10,0,none⟩ (int i64 O)).setCell ⟨b10,1,none⟩ (int i64 J)=V2;generalize hV3:(V2.setCell ⟨b11,0,none⟩ (int i64 Y)).setCell ⟨b11,1,none⟩ (int i64 Z)=V3;obtain⟨hbV,hc9,hc10,hc11,hvs⟩:=Zup aa (by omega) (by omega) (by omega) n1 n2 n3 hh9 hh10 hh11 hV1 hV2 hV3;have q0:=Ys hc9 0;have q1:=Ys hc9 1;have q2:=Ys hc10 0;have q3:=Ys hc10 1;have q4:=Ys hc11 0;have q5:=Ys hc11 1;simp only[List.getElem?_toArray,List.getElem?_cons_zero,List.getElem?_cons_succ] at q0 q1 q2 q3 q4 q5;have j0:=(hbV.cell (p:=⟨w.heap.size,0,none⟩) (by simp;omega)).trans k0;have j1:=(hbV.cell (p:=⟨w.heap.size,1,none⟩) (by simp;omega)).trans k1;have j2:=(hbV.cell (p:=⟨w.heap.size+1,0,none⟩) (by simp;omega)).trans k2;have j3:=(hbV.cell (p:=⟨w.heap.size+1,1,none⟩) (by simp;omega)).trans k3;have j4:=(hbV.cell (p:=⟨w.heap.size+1+1,0,none⟩) (by simp;omega)).trans k4;have j5:=(hbV.cell (p:=⟨w.heap.size+1+1,1,none⟩) (by simp;omega)).trans k5;have y9:b9<V3.heap.size:=by omega
  have y10:b10<V3.heap.size:=by omega
  have y11:b11<V3.heap.size:=by omega
  have y0:w.heap.size<V3.heap.size:=by have:=aa.size;omega
  have y1:w.heap.size+1<V3.heap.size:=by have:=aa.size;omega
  have y2:w.heap.size+1+1<V3.heap.size:=by have:=aa.size;omega
  have hb3:Below w.heap.size w V3:=hb0.trans (hbV.mono hb0.size);have B1: -16000<=s1/\s1<=16000:=by omega
  have B2: -16000<=s2/\s2<=16000:=by omega
  have B3: -16000<=O/\O<=16000:=by omega
  have B4: -16000<=J/\J<=16000:=by omega
  have B5: -16000<=Y/\Y<=16000:=by omega
  have B6: -16000<=Z/\Z<=16000:=by omega
  have C1:=Zf3 s1 s2 O J Y Z B1 B2 B3 B4 B5 B6;have C2:=Zf3 O J Y Z s1 s2 B3 B4 B5 B6 B1 B2;have C3:=Zf3 Y Z s1 s2 O J B5 B6 B1 B2 B3 B4;have res:(s1*s1+s2*s2)*(O*Z-J*Y)+(O*O+J*J)*(Y*s2-Z*s1)+(Y*Y+Z*Z)*(s1*J-s2*O)=Zan ax ay bx by' cx cy I D:=by
   unfold Zan;rw[hs1,hs2,ht1,ht2,hu1,hu2]
  have Hres:Hid ((s1*s1+s2*s2)*(O*Z-J*Y)+(O*O+J*J)*(Y*s2-Z*s1)+(Y*Y+Z*Z)*(s1*J-s2*O)=Zan ax ay bx by' cx cy I D):=res;clear res hs1 hs2 ht1 ht2 hu1 hu2 hV1 hV2 hV3 hbV hc9 hc10 hc11 hh9 hh10 hh11 hvs k0 k1 k2 k3 k4 k5 k6 k7 aa hb0 hsz e2 e5 e8 e9 e10 e11 g9 g10 g11 s9 s10 s11 t9 t10 t11 z9 z10 z11 n1 n2 n3 hd;clear a1 a2 a3 a4 b1 b2 b3 b4 c1 c2 c3 c4 d1 d2 d3 d4;go_region_held3 (fun w'=>Below V3.heap.size V3 w'/\∀ b o,b<V3.heap.size->w'.cell? ⟨b,o,none⟩=V3.cell? ⟨b,o,none⟩) (first|exact Yw _|exact Yx (by assumption) hb1)
   (first
     | (go_at_call 86; refine (Zok _ _ _ (by omega) (by omega) (by omega) (by omega)).mono ?_; rintro e w' ⟨rfl, hb1⟩)
     | (go_at_call 85; refine (Zoj _ _ _ _ _ (by omega) (by omega) (by omega) (by omega) (by omega) (by omega) (by omega) (by omega)).mono ?_; rintro e w' ⟨rfl, hb1⟩))
  obtain⟨hbw,hcw⟩:=(by assumption:Below V3.heap.size V3 w'/\∀ b o,b<V3.heap.size->w'.cell? ⟨b,o,none⟩=V3.cell? ⟨b,o,none⟩);have G1:=Zir (Zk ax ay bx by' cx cy);have G2:=Zir ((s1*s1+s2*s2)*(O*Z-J*Y)+(O*O+J*J)*(Y*s2-Z*s1)+(Y*Y+Z*Z)*(s1*J-s2*O));have G3:=@Zag (sg (Zk ax ay bx by' cx cy)) (sg ((s1*s1+s2*s2)*(O*Z-J*Y)+(O*O+J*J)*(Y*s2-Z*s1)+(Y*Y+Z*Z)*(s1*J-s2*O))) 1 1 G1.1 G1.2 G2.1 G2.2
  go_wp2_with (first
      | (go_at_call 35; refine (Zop _ _ _ _ _ _ _ ha hb hc).mono ?_; rintro e w2 ⟨rfl, hb2⟩)
      | (go_at_call 83; refine (Zol _ _).mono ?_; rintro e w3 ⟨rfl, rfl⟩))
  go_ret;exact⟨Zg8 (by rw[<-Hres.out]),hb3.trans ((hbw.trans (hb2.mono hbw.size)).mono hb3.size)⟩
def px (l:List (Int×Int))(i:Nat):Int:=(l.getD i (0,0)).1
def py (l:List (Int×Int))(i:Nat):Int:=(l.getD i (0,0)).2
def Zv (l:List (Int×Int)):Prop:=∀ i,i<l.length->Near (px l i) (py l i)
theorem Zc3 (B b D cap:Nat) (l:List (Int×Int)) (i j k:Nat) (w:World) (hi:i<l.length) (J:j<l.length) (I:k<l.length) (hl:l.length<=1000000000)
  (hb:b<w.heap.size) (hB:B<w.heap.size) (hs:w.cell? ⟨B,0,none⟩=some (.slice (some ⟨b,D,none⟩) l.length cap)) (hp:Zp w b D l) (hn:Zv l) :
  Calls prog 34 #[int i64 i,int i64 j,int i64 k,.pointer (some ⟨B,0,none⟩)] w fun e w'=>
   e= .returned (int i64 (sg (Zk (px l i) (py l i) (px l j) (py l j) (px l k) (py l k))))/\Below w.heap.size w w':=by
 have i1:(0:Int)<=(i:Int):=by omega
 have i2:(i:Int)<(l.length:Int):=by omega
 have j1:(0:Int)<=(j:Int):=by omega
 have j2:(j:Int)<(l.length:Int):=by omega
 have k1:(0:Int)<=(k:Int):=by omega
 have k2:(k:Int)<(l.length:Int):=by omega
 obtain⟨c0,c1⟩:=hp i hi;obtain⟨c2,c3⟩:=hp j J;obtain⟨c4,c5⟩:=hp k I;have O:=hn i hi;have Z:=hn j J;have nk:=hn k I;change w.cell? _=some (int i64 (px l i)) at c0;change w.cell? _=some (int i64 (py l i)) at c1;change w.cell? _=some (int i64 (px l j)) at c2;change w.cell? _=some (int i64 (py l j)) at c3;change w.cell? _=some (int i64 (px l k)) at c4;change w.cell? _=some (int i64 (py l k)) at c5;generalize px l i=xi at *;generalize py l i=yi at *
 generalize px l j=xj at *;generalize py l j=yj at *
 generalize px l k=xk at *;generalize py l k=yk at *
 clear hp hn;go_enter func34,ntmps34;go_wp2_with fail
 go_region_held3 (fun w'=>Below w.heap.size w w'/\∀ b o,b<w.heap.size->w'.cell? ⟨b,o,none⟩=w.cell? ⟨b,o,none⟩) (first|exact Yw _|exact Yx (by assumption) Y)
  (first
    | (go_at_call 35; refine (Zop _ _ _ _ _ _ _ O Z nk).mono ?_; rintro e w' ⟨rfl, Y⟩))
 go_wp2
 go_ret;exact⟨rfl,(by assumption:Below w.heap.size w w'/\∀ b o,b<w.heap.size->w'.cell? ⟨b,o,none⟩=w.cell? ⟨b,o,none⟩).1⟩
theorem Zo3 (B b D cap:Nat) (l:List (Int×Int)) (i j k m:Nat) (w:World) (hi:i<l.length) (O:j<l.length) (J:k<l.length) (I:m<l.length) (hl:l.length<=1000000000)
  (hb:b<w.heap.size) (hB:B<w.heap.size) (hs:w.cell? ⟨B,0,none⟩=some (.slice (some ⟨b,D,none⟩) l.length cap)) (hp:Zp w b D l) (hn:Zv l) :
  Calls prog 36 #[int i64 i,int i64 j,int i64 k,int i64 m,.pointer (some ⟨B,0,none⟩)] w fun e w'=>
   e= .returned (int i64 (sg (Zk (px l i) (py l i) (px l j) (py l j) (px l k) (py l k))*sg (Zan (px l i) (py l i) (px l j) (py l j) (px l k) (py l k) (px l m) (py l m))))/\Below w.heap.size w w':=by
 have i1:(0:Int)<=(i:Int):=by omega
 have i2:(i:Int)<(l.length:Int):=by omega
 have j1:(0:Int)<=(j:Int):=by omega
 have j2:(j:Int)<(l.length:Int):=by omega
 have k1:(0:Int)<=(k:Int):=by omega
 have k2:(k:Int)<(l.length:Int):=by omega
 have m1:(0:Int)<=(m:Int):=by omega
 have m2:(m:Int)<(l.length:Int):=by omega
 obtain⟨c0,c1⟩:=hp i hi;obtain⟨c2,c3⟩:=hp j O;obtain⟨c4,c5⟩:=hp k J;obtain⟨c6,Y⟩:=hp m I;have Z:=hn i hi;have nj:=hn j O;have nk:=hn k J;have nm:=hn m I;change w.cell? _=some (int i64 (px l i)) at c0;change w.cell? _=some (int i64 (py l i)) at c1;change w.cell? _=some (int i64 (px l j)) at c2;change w.cell? _=some (int i64 (py l j)) at c3;change w.cell? _=some (int i64 (px l k)) at c4;change w.cell? _=some (int i64 (py l k)) at c5;change w.cell? _=some (int i64 (px l m)) at c6;change w.cell? _=some (int i64 (py l m)) at Y;generalize px l i=xi at *;generalize py l i=yi at *
 generalize px l j=xj at *;generalize py l j=yj at *
 generalize px l k=xk at *;generalize py l k=yk at *
 generalize px l m=xm at *;generalize py l m=ym at *
 clear hp hn;go_enter func36,ntmps36;go_wp2_with fail
 go_region_held3 (fun w'=>Below w.heap.size w w'/\∀ b o,b<w.heap.size->w'.cell? ⟨b,o,none⟩=w.cell? ⟨b,o,none⟩) (first|exact Yw _|exact Yx (by assumption) aa)
  (first
    | (go_at_call 37; refine (Zuq _ _ _ _ _ _ _ _ _ Z nj nk nm).mono ?_; rintro e w' ⟨rfl, aa⟩))
 go_wp2
 go_ret;exact⟨rfl,(by assumption:Below w.heap.size w w'/\∀ b o,b<w.heap.size->w'.cell? ⟨b,o,none⟩=w.cell? ⟨b,o,none⟩).1⟩
end Go.Proofs.YtgpapegpdfonpaaGreatDoor
namespace Go.Proofs.YtgpapegpdfonpaaGreatDoor
open Go.RowKit Go.Proofs.Tryz
open Go.Value(int)
open Go.IntKind(i64)
theorem Zlh (w:World)(o p q:Obj)(O I Z D J Y:Int)(T:TypeId) :
  Zp ((((w.alloc o).alloc p).alloc q).alloc (.cells #[int i64 O,int i64 I,int i64 Z,int i64 D,int i64 J,int i64 Y] T)) (w.heap.size+1+1+1) 0 [(O,I),(Z,D),(J,Y)]:=by
 intro j e;have e:j<3:=e;rw[World.cell?_alloc_at _ _ _ _ (by simp),World.cell?_alloc_at _ _ _ _ (by simp)];match j,e with
 | 0,_=>exact⟨rfl,rfl⟩
 | 1,_=>exact⟨rfl,rfl⟩
 | 2,_=>exact⟨rfl,rfl⟩
theorem Zp.below {N:Nat}{w w':World}{b e:Nat}{l:List (Int×Int)}(h:Zp w b e l)(J:Below N w w')(I:b<N):Zp w' b e l:=fun j D=>
 ⟨(J.cell (p:=⟨b,e+j*2,none⟩) I).trans (h j D).1,(J.cell (p:=⟨b,e+j*2+1,none⟩) I).trans (h j D).2⟩
theorem Zur (f g:Fn)(a b:Array Value)(w:World):(Instr.field 60 (.agg #[.func f #[] a,.func g #[] b]) 0).run prog w= .ok (.func f #[] a) w:=by kernel_rfl
theorem Zus (f g:Fn)(a b:Array Value)(w:World):(Instr.field 60 (.agg #[.func f #[] a,.func g #[] b]) 1).run prog w= .ok (.func g #[] b) w:=by kernel_rfl
attribute [local go_sem] Zur Zus
theorem Zo4 (J I Y e D O:Int):Ya [(J,I),(Y,e),(D,O)]=(Zc J I || Zc Y e || Zc D O):=by
 simp[Ya,Bool.or_assoc]
theorem Zo5 (J I bx e D O Z Y:Int):Ya [(J,I),(bx,e),(D,O),(Z,Y)]=(Zc J I || Zc bx e || Zc D O || Zc Z Y):=by
 simp[Ya,Bool.or_assoc]
theorem Zut (O J Z D I Y:Int)(w:World)(hf:(Zc O J || Zc Z D || Zc I Y)=true) :
  Calls prog 8 #[.agg #[int i64 O,int i64 J],.agg #[int i64 Z,int i64 D],.agg #[int i64 I,int i64 Y]] w fun e w'=>
   e= .returned (.tuple #[int i64 0,int i64 1])/\Below w.heap.size w w':=by
 go_enter func8,ntmps8;go_wp2_with (go_at_call 16;refine (Zc1 _ 0 3 [(O,J),(Z,D),(I,Y)] _ (by simp) (by simp) (Zlh _ _ _ _ _ _ _ _ _ _ _)).mono ?_;rintro e w1 ⟨rfl,aa⟩;rw[Zo4,hf])
 go_ret2;exact⟨rfl,(Zfy _ _ _ _ _).trans (aa.mono (by simp;omega))⟩
theorem Zuu (I O J Z D Y:Int)(w:World)(a:Near I O)(b:Near J Z)(c:Near D Y) :
  Calls prog 8 #[.agg #[int i64 I,int i64 O],.agg #[int i64 J,int i64 Z],.agg #[int i64 D,int i64 Y]] w fun e w'=>
   e= .returned (.tuple #[int i64 (sg (Zk I O J Z D Y)),int i64 0])/\Below w.heap.size w w':=by
 have hf:(Zc I O || Zc J Z || Zc D Y)=false:=by rw[Zd1 a,Zd1 b,Zd1 c];rfl
 have hn:Zv [(I,O),(J,Z),(D,Y)]:=by
  intro j hj;have hj:j<3:=hj;match j,hj with
  | 0,_=>exact a
  | 1,_=>exact b
  | 2,_=>exact c
 go_enter func8,ntmps8;go_wp2_with (go_at_call 16;refine (Zc1 _ 0 3 [(I,O),(J,Z),(D,Y)] _ (by simp) (by simp) (Zlh _ _ _ _ _ _ _ _ _ _ _)).mono ?_;rintro e w1 ⟨rfl,aa⟩;rw[Zo4,hf])
 have hp1:=(Zlh w (.cells #[int i64 I,int i64 O] 37) (.cells #[int i64 J,int i64 Z] 37) (.cells #[int i64 D,int i64 Y] 37) I O J Z D Y 37).below aa (by simp);have hw1:Below w.heap.size w w1:=(Zfy _ _ _ _ _).trans (aa.mono (by simp;omega));have ac:w.heap.size+1+1+1<w1.heap.size:=by have:=aa.size;simp at this;omega
 clear aa hf;refine (Zc2 _ 3 3 w1).mono ?_;rintro e w2 ⟨B,hB1,hB2,hcB,rfl,ab⟩;have hp2:=hp1.below ab ac;have hw2:Below w.heap.size w w2:=hw1.trans (ab.mono hw1.size);have hz2:w.heap.size+1+1+1<w2.heap.size:=L3 ac ab.size;clear hp1 hw1 ac ab hB1;go_wp2_with (go_at_call 34;refine (Zc3 B _ 0 3 [(I,O),(J,Z),(D,Y)] 0 1 2 w2 (by simp) (by simp) (by simp) (by simp) hz2 hB2 hcB hp2 hn).mono ?_;rintro e w3 ⟨rfl,hb3⟩)
 go_ret2;exact⟨rfl,hw2.trans (hb3.mono hw2.size)⟩
theorem Zli (w:World)(o p q r:Obj)(O I bx D J Y dx Z:Int)(T:TypeId) :
  Zp (((((w.alloc o).alloc p).alloc q).alloc r).alloc (.cells #[int i64 O,int i64 I,int i64 bx,int i64 D,int i64 J,int i64 Y,int i64 dx,int i64 Z] T)) (w.heap.size+1+1+1+1) 0 [(O,I),(bx,D),(J,Y),(dx,Z)]:=by
 intro j e;have e:j<4:=e;rw[World.cell?_alloc_at _ _ _ _ (by simp),World.cell?_alloc_at _ _ _ _ (by simp)];match j,e with
 | 0,_=>exact⟨rfl,rfl⟩
 | 1,_=>exact⟨rfl,rfl⟩
 | 2,_=>exact⟨rfl,rfl⟩
 | 3,_=>exact⟨rfl,rfl⟩
theorem Zo6 (w:World)(o p q r s:Obj):Below w.heap.size w (((((w.alloc o).alloc p).alloc q).alloc r).alloc s):=(Zfy w o p q r).alloc (by simp;omega) _
theorem Zuv (O J bx D I Y dx Z:Int)(w:World)(hf:(Zc O J || Zc bx D || Zc I Y || Zc dx Z)=true) :
  Calls prog 40 #[.agg #[int i64 O,int i64 J],.agg #[int i64 bx,int i64 D],.agg #[int i64 I,int i64 Y],.agg #[int i64 dx,int i64 Z]] w fun e w'=>
   e= .returned (.tuple #[int i64 0,int i64 1])/\Below w.heap.size w w':=by
 go_enter func40,ntmps40;go_wp2_with (go_at_call 16;refine (Zc1 _ 0 4 [(O,J),(bx,D),(I,Y),(dx,Z)] _ (by simp) (by simp) (Zli _ _ _ _ _ _ _ _ _ _ _ _ _ _)).mono ?_;rintro e w1 ⟨rfl,hb1⟩;rw[Zo5,hf])
 go_ret2;exact⟨rfl,(Zo6 _ _ _ _ _ _).trans (hb1.mono (by simp;omega))⟩
theorem Zuw (I O J Z D Y dx dy:Int)(w:World)(a:Near I O)(b:Near J Z)(c:Near D Y)(d:Near dx dy) :
  Calls prog 40 #[.agg #[int i64 I,int i64 O],.agg #[int i64 J,int i64 Z],.agg #[int i64 D,int i64 Y],.agg #[int i64 dx,int i64 dy]] w fun e w'=>
   e= .returned (.tuple #[int i64 (sg (Zk I O J Z D Y)*sg (Zan I O J Z D Y dx dy)),int i64 0])/\Below w.heap.size w w':=by
 have hf:(Zc I O || Zc J Z || Zc D Y || Zc dx dy)=false:=by rw[Zd1 a,Zd1 b,Zd1 c,Zd1 d];rfl
 have hn:Zv [(I,O),(J,Z),(D,Y),(dx,dy)]:=by
  intro j hj;have hj:j<4:=hj;match j,hj with
  | 0,_=>exact a
  | 1,_=>exact b
  | 2,_=>exact c
  | 3,_=>exact d
 go_enter func40,ntmps40;go_wp2_with (go_at_call 16;refine (Zc1 _ 0 4 [(I,O),(J,Z),(D,Y),(dx,dy)] _ (by simp) (by simp) (Zli _ _ _ _ _ _ _ _ _ _ _ _ _ _)).mono ?_;rintro e w1 ⟨rfl,hb1⟩;rw[Zo5,hf])
 have hp1:=(Zli w (.cells #[int i64 I,int i64 O] 37) (.cells #[int i64 J,int i64 Z] 37) (.cells #[int i64 D,int i64 Y] 37) (.cells #[int i64 dx,int i64 dy] 37) I O J Z D Y dx dy 37).below hb1 (by simp);have hw1:Below w.heap.size w w1:=(Zo6 _ _ _ _ _ _).trans (hb1.mono (by simp;omega));have hz1:w.heap.size+1+1+1+1<w1.heap.size:=by have:=hb1.size;simp at this;omega
 clear hb1 hf;refine (Zc2 _ 4 4 w1).mono ?_;rintro e w2 ⟨B,hB1,hB2,hcB,rfl,hb2⟩;have hp2:=hp1.below hb2 hz1;have hw2:Below w.heap.size w w2:=hw1.trans (hb2.mono hw1.size);have hz2:w.heap.size+1+1+1+1<w2.heap.size:=L3 hz1 hb2.size;clear hp1 hw1 hz1 hb2 hB1;go_wp2_with (go_at_call 36;refine (Zo3 B _ 0 4 [(I,O),(J,Z),(D,Y),(dx,dy)] 0 1 2 3 w2 (by simp) (by simp) (by simp) (by simp) (by simp) hz2 hB2 hcB hp2 hn).mono ?_;rintro e w3 ⟨rfl,hb3⟩)
 go_ret2;exact⟨rfl,hw2.trans (hb3.mono hw2.size)⟩
end Go.Proofs.YtgpapegpdfonpaaGreatDoor
namespace Go.Proofs.YtgpapegpdfonpaaGreatDoor
abbrev Pt:=Int×Int
def sd (a b c:Pt):Int:=(b.1-a.1)*(c.2-a.2)-(b.2-a.2)*(c.1-a.1)
def plt (a b:Pt):Prop:=a.1<b.1\/(a.1=b.1/\a.2<b.2)
def ple (a b:Pt):Prop:=plt a b\/a=b
def fw (x y:Int):Prop:=0<x\/(x=0/\0<y)
theorem Xs (a:Pt):¬ plt a a:=by unfold plt;omega
theorem Zai {a b c:Pt}(h:plt a b)(k:plt b c):plt a c:=by unfold plt at *;omega
theorem Zej (a b:Pt):plt a b\/a=b\/plt b a:=by
 unfold plt;by_cases h:a.1=b.1
 ·by_cases k:a.2=b.2
  ·exact .inr (.inl (Prod.ext h k))
  ·omega
 ·omega
theorem X6 {a b:Pt}(h:plt a b):fw (b.1-a.1) (b.2-a.2):=by unfold plt at h;unfold fw;omega
theorem Zdf (a:Pt):ple a a:=.inr rfl
theorem Zit {a b:Pt}(h:plt a b):ple a b:=.inl h
theorem Zo7 {a b c:Pt}(h:ple a b)(k:ple b c):ple a c:=by
 rcases h with h|rfl
 ·rcases k with k|rfl
  ·exact .inl (Zai h k)
  ·exact .inl h
 ·exact k
theorem Zek {a b:Pt}(h:ple a b)(k:ple b a):a=b:=by
 rcases h with h|h
 ·rcases k with k|k
  ·exact absurd (Zai h k) (Xs a)
  ·exact k.symm
 ·exact h
theorem Zdg (a b:Int):a<b\/b<=a:=by omega
theorem Ziu {c x:Int}(e:0<c)(h:c*x<0):x<0:=by
 rcases Zdg x 0 with k|k
 ·exact k
 ·have:=Int.mul_nonneg (Int.le_of_lt e) k;omega
theorem Ziv {c x:Int}(e:0<c)(h:0<c*x):0<x:=by
 rcases Zdg 0 x with k|k
 ·exact k
 ·have:=Int.mul_nonneg (Int.le_of_lt e) (show 0<= -x by omega);rw[Int.mul_neg] at this;omega
theorem Zux {c x:Int}(e:0<c)(h:0<=c*x):0<=x:=by
 rcases Zdg x 0 with k|k
 ·have:=Int.mul_pos e (show 0 < -x by omega);rw[Int.mul_neg] at this;omega
 ·exact k
theorem Zhc {x y:Int}(h:fw x y):0<=x:=by unfold fw at h;omega
theorem Zo8 {Y Z I J D O:Int}(hn:fw Y Z)(hc:fw I J)(hq:fw D O)(h1:0<=Y*J-Z*I)(h2:0<=I*O-J*D):0<=Y*O-Z*D:=by
 have hnx:=Zhc hn;have hqx:=Zhc hq;rcases hc with hc|⟨rfl,hc⟩
 ·have e:I*(Y*O-Z*D)=D*(Y*J-Z*I)+Y*(I*O-J*D):=by grind
  have:=Int.mul_nonneg hqx h1;have:=Int.mul_nonneg hnx h2;exact Zux hc (by omega)
 ·have h3:J*D<=0:=by omega
  have hq0:D=0:=by
   rcases Zdg 0 D with k|k
   ·have:=Int.mul_pos hc k;omega
   ·omega
  subst hq0;have hqy:0<O:=by unfold fw at hq;omega
  have:=Int.mul_nonneg hnx (Int.le_of_lt hqy);omega
theorem Zo9 {J Z I cy O qy:Int}(Y:fw J Z)(D:fw I cy)(hq:fw O qy)(h1:0<=J*cy-Z*I)(h2:0<I*qy-cy*O):0<J*qy-Z*O:=by
 have hqx:=Zhc hq;rcases D with D|⟨rfl,D⟩
 ·have e:I*(J*qy-Z*O)=O*(J*cy-Z*I)+J*(I*qy-cy*O):=by grind
  rcases Y with Y|⟨rfl,Y⟩
  ·have:=Int.mul_nonneg hqx h1;have:=Int.mul_pos Y h2;exact Ziv D (by omega)
  ·have:=Int.mul_pos Y D;omega
 ·have:=Int.mul_nonneg (Int.le_of_lt D) hqx;omega
theorem Zuy {z a b n:Pt}(I:plt z a)(e:plt a b)(Y:plt b n)(t1:0<sd z a b)(Z:0<sd a b n):0<sd z a n:=by
 have D:=X6 I;have J:=X6 e;have O:=X6 Y;have c1:0<(a.1-z.1)*(b.2-a.2)-(a.2-z.2)*(b.1-a.1):=by
  have:sd z a b=(a.1-z.1)*(b.2-a.2)-(a.2-z.2)*(b.1-a.1):=by unfold sd;grind
  omega
 have c2:0<(b.1-a.1)*(n.2-b.2)-(b.2-a.2)*(n.1-b.1):=by
  have:sd a b n=(b.1-a.1)*(n.2-b.2)-(b.2-a.2)*(n.1-b.1):=by unfold sd;grind
  omega
 have c3:=Zo9 D J O (by omega) c2;have:sd z a n=((a.1-z.1)*(b.2-a.2)-(a.2-z.2)*(b.1-a.1))+((a.1-z.1)*(n.2-b.2)-(a.2-z.2)*(n.1-b.1)):=by unfold sd;grind
 omega
theorem Zuz {a b n q:Pt}(I:plt a b)(e:plt b n)(Y:plt q b)(t1:0<=sd a b q)(Z:0<sd a b n):0<sd b n q:=by
 have D:=X6 I;have J:=X6 e;have O:=X6 Y;have c1:0<=(b.1-q.1)*(b.2-a.2)-(b.2-q.2)*(b.1-a.1):=by
  have:sd a b q=(b.1-q.1)*(b.2-a.2)-(b.2-q.2)*(b.1-a.1):=by unfold sd;grind
  omega
 have c2:0<(b.1-a.1)*(n.2-b.2)-(b.2-a.2)*(n.1-b.1):=by
  have:sd a b n=(b.1-a.1)*(n.2-b.2)-(b.2-a.2)*(n.1-b.1):=by unfold sd;grind
  omega
 have c3:=Zo9 O D J c1 c2;have:sd b n q=(b.1-q.1)*(n.2-b.2)-(b.2-q.2)*(n.1-b.1):=by unfold sd;grind
 omega
theorem Zu0 {a b n q:Pt}(O:plt a b)(e:plt a n)(Z:plt a q)(Y:0<=sd a b q)(t2:sd a b n<=0):0<=sd a n q:=by
 have D:=X6 O;have I:=X6 e;have J:=X6 Z;have c1:0<=(n.1-a.1)*(b.2-a.2)-(n.2-a.2)*(b.1-a.1):=by
  have:sd a b n= - ((n.1-a.1)*(b.2-a.2)-(n.2-a.2)*(b.1-a.1)):=by unfold sd;grind
  omega
 exact Zo8 I D J c1 Y
def Lf (a b q:Pt):Prop:=0<sd a b q\/(sd a b q=0/\ple a q/\ple q b)
theorem Lf.nonneg {a b q:Pt}(h:Lf a b q):0<=sd a b q:=by rcases h with h|h <;> omega
def Xt (n:Pt):List Pt->List Pt
 | b :: a :: t=>if sd a b n<=0 then Xt n (a :: t) else b :: a :: t
 | l=>l
def Zdh (ps:List Pt):List Pt:=ps.foldl (fun e n=>n :: Xt n e) []
def Ze6 (S:List Pt):List Pt->Prop
 | b :: a :: t=>(∀ q∈S,Lf a b q)/\plt a b/\Ze6 S (a :: t)
 | _=>True
def Zf4:List Pt->Prop
 | c :: b :: a :: t=>0<sd a b c/\Zf4 (b :: a :: t)
 | _=>True
def Bot (S:List Pt):List Pt->Prop
 | []=>True
 | [z]=>∀ q∈S,ple z q
 | _ :: b :: t=>Bot S (b :: t)
theorem Zu1 (S:List Pt)(n:Pt):∀ (D:List Pt),Ze6 S D->(∀ b a t,D=b :: a :: t->0<sd a b n)->Zf4 D->(∀ b t,D=b :: t->plt b n)->Ze6 (S ++ [n]) D:=by
 intro D;induction D with
 | nil=>intros;trivial
 | cons b t ih=>
  intro hE h1 O hn;cases t with
  | nil=>trivial
  | cons a t=>
   obtain⟨e1,J,Z⟩:=hE;have aa:=hn b _ rfl;have Y:=h1 b a t rfl;refine⟨fun q I=>?_,J,ih Z ?_ ?_ ?_⟩
   ·rcases List.mem_append.1 I with I|I
    ·exact e1 q I
    ·rw[List.mem_singleton] at I;subst I;exact .inl Y
   ·intro b' a' t' e;cases e;exact Zuy Z.2.1 J aa O.1 Y
   ·cases t with
    | nil=>trivial
    | cons=>exact O.2
   ·intro b' t' e;cases e;exact Zai J aa
structure Popped (S:List Pt)(n:Pt)(st':List Pt):Prop where
 ne:st'≠ []
 edges:Ze6 S st'
 turns:Zf4 st'
 bot:Bot S st'
 top:∀ b t,st'=b :: t->plt b n/\∀ q∈S,Lf b n q
 last:∀ b a t,st'=b :: a :: t->0<sd a b n
theorem Zu2 (S:List Pt)(n:Pt)(hn:∀ q∈S,plt q n):∀ (I:List Pt),I≠ []->Ze6 S I->Zf4 I->Bot S I->(∀ b t,I=b :: t->plt b n/\∀ q∈S,plt b q->0<=sd b n q)->Popped S n (Xt n I):=by
 intro I;induction I with
 | nil=>intro h;exact absurd rfl h
 | cons b t ih=>
  intro _ hE hT Y hQ;obtain⟨J,hQ'⟩:=hQ b t rfl;cases t with
  | nil=>
   refine⟨by simp[Xt],trivial,trivial,Y,?_,?_⟩
   ·intro Z t' e;cases e;refine⟨J,fun q D=>?_⟩;rcases Y q D with h|h
    ·have:=hQ' q D h;rcases Zdg 0 (sd b n q) with k|k
     ·exact .inl k
     ·exact .inr ⟨by omega,.inl h,.inl (hn q D)⟩
    ·subst h;exact .inr ⟨by unfold sd;grind,Zdf _,.inl J⟩
   ·intro Z a' t' e;cases e
  | cons a t=>
   obtain⟨e1,O,e3⟩:=hE;unfold Xt;by_cases hp:sd a b n<=0
   ·rw[if_pos hp];refine ih (by simp) e3 ?_ Y ?_
    ·cases t with
     | nil=>trivial
     | cons=>exact hT.2
    ·intro Z t' e;cases e;exact⟨Zai O J,fun q D haq=>Zu0 O (Zai O J) haq (e1 q D).nonneg hp⟩
   ·rw[if_neg hp];refine⟨by simp,⟨e1,O,e3⟩,hT,Y,?_,?_⟩
    ·intro Z t' e;cases e;refine⟨J,fun q D=>?_⟩;rcases Zej b q with h|h|h
     ·have:=hQ' q D h;rcases Zdg 0 (sd b n q) with k|k
      ·exact .inl k
      ·exact .inr ⟨by omega,.inl h,.inl (hn q D)⟩
     ·subst h;exact .inr ⟨by unfold sd;grind,Zdf _,.inl J⟩
     ·exact .inl (Zuz O J h (e1 q D).nonneg (by omega))
    ·intro Z a' t' e;cases e;omega
structure Chain (S st:List Pt):Prop where
 edges:Ze6 S st
 turns:Zf4 st
 bot:Bot S st
 ne:S≠ []->st≠ []
 top:∀ b t,st=b :: t->∀ q∈S,ple q b
 sub:∀ p∈st,p∈S
theorem Zu3 (n:Pt):∀ (D:List Pt),∀ p∈Xt n D,p∈D:=by
 intro D;induction D with
 | nil=>intro p e;simp[Xt] at e
 | cons b t ih=>
  intro p e;cases t with
  | nil=>simpa [Xt] using e
  | cons a t=>
   unfold Xt at e;split at e
   ·exact List.mem_cons_of_mem _ (ih p e)
   ·exact e
theorem Zu4 {S I:List Pt}(C:Chain S I)(n:Pt)(Y:∀ q∈S,plt q n):Chain (S ++ [n]) (n :: Xt n I):=by
 by_cases hS:S=[]
 ·subst hS;have hst:I=[]:=by
   cases I with
   | nil=>rfl
   | cons b t=>exact absurd (C.sub b (by simp)) (by simp)
  subst hst;refine⟨trivial,trivial,?_,fun _=>by simp,?_,?_⟩
  ·intro q D;simp at D;subst D;exact Zdf _
  ·intro b t e q D;cases e;simp at D;subst D;exact Zdf _
  ·intro p J;simpa [Xt] using J
 ·have P:=Zu2 S n Y I (C.ne hS) C.edges C.turns C.bot fun b t e=>by
   refine⟨Y b (C.sub b (by rw[e];simp)),fun q D hbq=>?_⟩;have:=C.top b t e q D;exact absurd (Zek this (.inl hbq)) (fun e=>by subst e;exact Xs _ hbq)
  have O:∀ p∈Xt n I,p∈S:=fun p J=>C.sub p (Zu3 n I p J)
  revert P O
  generalize Xt n I=st';intro P O;cases st' with
  | nil=>exact absurd rfl P.ne
  | cons b t=>
   obtain⟨Z,hL⟩:=P.top b t rfl;refine⟨⟨fun q D=>?_,Z,Zu1 S n _ P.edges P.last P.turns fun b' t' e=>by cases e;exact Z⟩,?_,?_,fun _=>by simp,?_,?_⟩
   ·rcases List.mem_append.1 D with D|D
    ·exact hL q D
    ·rw[List.mem_singleton] at D;subst D;exact .inr ⟨by unfold sd;grind,.inl Z,Zdf _⟩
   ·cases t with
    | nil=>trivial
    | cons a t=>exact⟨P.last b a t rfl,P.turns⟩
   ·have:∀ I:List Pt,I≠ []->(∀ p∈I,p∈S)->Bot S I->Bot (S ++ [n]) I:=by
     intro I;induction I with
     | nil=>intro h;exact absurd rfl h
     | cons x t ih=>
      intro _ hs hB;cases t with
      | nil=>
       intro q D;rcases List.mem_append.1 D with D|D
       ·exact hB q D
       ·rw[List.mem_singleton] at D;subst D;exact .inl (Y x (hs x (by simp)))
      | cons y t=>exact ih (by simp) (fun p J=>hs p (List.mem_cons_of_mem _ J)) hB
    exact this (b :: t) (by simp) O P.bot
   ·intro b' t' e q D;cases e;rcases List.mem_append.1 D with D|D
    ·exact .inl (Y q D)
    ·rw[List.mem_singleton] at D;subst D;exact Zdf _
   ·intro p J;rcases List.mem_cons.1 J with J|J
    ·subst J;simp
    ·exact List.mem_append_left _ (O p J)
def Zb3:List Pt->Prop:=List.Pairwise plt
theorem Zpa (ps:List Pt)(h:Zb3 ps):Chain ps (Zdh ps):=by
 have aa:∀ (ps S I:List Pt),Chain S I->(∀ q∈S,∀ p∈ps,plt q p)->Zb3 ps->Chain (S ++ ps) (ps.foldl (fun I n=>n :: Xt n I) I):=by
  intro ps;induction ps with
  | nil=>intro S I C _ _;simpa using C
  | cons p ps ih=>
   intro S I C O Z;have J:=List.pairwise_cons.1 Z
   have := ih (S ++ [p]) _ (Zu4 C p fun q D => O q D p (by simp)) (fun q D r Y => by
     rcases List.mem_append.1 D with D | D
     · exact O q D r (List.mem_cons_of_mem _ Y)
     · rw [List.mem_singleton] at D; subst D; exact J.1 r Y) J.2
   simpa using this
 have:=aa ps [] [] ⟨trivial,trivial,trivial,fun h=>absurd rfl h,fun b t e=>(by cases e),fun p hp=>(by cases hp)⟩ (fun q D=>(by cases D)) h;simpa [Zdh] using this
end Go.Proofs.YtgpapegpdfonpaaGreatDoor
namespace Go.Proofs.YtgpapegpdfonpaaGreatDoor
open Go.RowKit Go.Shelf Go.Sort Go.Proofs.Tryz
open Go.Value(int)
open Go.IntKind(i64)
attribute [local go_sem ↓] Go.wp_at_zero Go.wp_at_succ
def Zbh (x y:Int):Int:=if x<y then -1 else if y<x then 1 else 0
theorem Zlj (x:Int)(w:World):Calls prog 113 #[int i64 x] w fun e w'=>e= .returned (.bool false)/\w'=w:=by
 go_enter func113,ntmps113;go_wp2
 go_ret;exact⟨by simp,rfl⟩
theorem Ziw (x y:Int)(w:World):Calls prog 74 #[int i64 x,int i64 y] w fun e w'=>e= .returned (int i64 (Zbh x y))/\w'=w:=by
 unfold Zbh;by_cases I:x<y
 ·rw[if_pos I];go_enter func74,ntmps74;go_wp2_with (go_at_call 113;refine (Zlj _ _).mono ?_;rintro e w' ⟨rfl,rfl⟩)
  go_ret;exact⟨rfl,rfl⟩
 ·rw[if_neg I];by_cases D:y<x
  ·rw[if_pos D];go_enter func74,ntmps74;go_wp2_with (go_at_call 113;refine (Zlj _ _).mono ?_;rintro e w' ⟨rfl,rfl⟩)
   go_ret;exact⟨rfl,rfl⟩
  ·rw[if_neg D];go_enter func74,ntmps74;go_wp2_with (go_at_call 113;refine (Zlj _ _).mono ?_;rintro e w' ⟨rfl,rfl⟩)
   go_ret;exact⟨rfl,rfl⟩
def orI (x y:Int):Int:=if x=0 then y else x
theorem Zu5 (b:Nat)(x y:Int)(w:World)(Y:w.cell? ⟨b,0,none⟩=some (int i64 x))(J:w.cell? ⟨b,1,none⟩=some (int i64 y)) :
  Calls prog 73 #[.slice (some ⟨b,0,none⟩) 2 2] w fun e w'=>e= .returned (int i64 (orI x y))/\w'=w:=by
 unfold orI;by_cases D:x=0
 ·subst D;rw[if_pos rfl];by_cases I:y=0
  ·subst I;go_enter func73,ntmps73;go_wp2
   refine wp_loop_rounds 3 ?_;rw[rounds_succ];go_wp2
   rw[rounds_succ];go_wp2
   rw[rounds_succ];go_wp2
   go_ret;exact⟨rfl,rfl⟩
  ·have O:(y != 0)=true:=by simpa using I
   go_enter func73,ntmps73;go_wp2
   refine wp_loop_rounds 2 ?_;rw[rounds_succ];go_wp2
   rw[rounds_succ];go_wp2
   go_ret;exact⟨rfl,rfl⟩
 ·rw[if_neg D];have Z:(x != 0)=true:=by simpa using D
  go_enter func73,ntmps73;go_wp2
  refine wp_loop_rounds 1 ?_;rw[rounds_succ];go_wp2
  go_ret;exact⟨rfl,rfl⟩
def Zhd (p q:Pt):Int:=orI (Zbh p.1 q.1) (Zbh p.2 q.2)
theorem Zpb (B b D cap:Nat) (l:List (Int×Int)) (i j:Nat) (w:World) (hi:i<l.length) (Z:j<l.length) (hB:B<w.heap.size) (hb:b<w.heap.size)
  (hs:w.cell? ⟨B,0,none⟩=some (.slice (some ⟨b,D,none⟩) l.length cap)) (hp:Zp w b D l) :
  Calls prog 72 #[int i64 i,int i64 j,.pointer (some ⟨B,0,none⟩)] w fun e w'=>
   e= .returned (int i64 (Zhd (px l i,py l i) (px l j,py l j)))/\∃ o,w'=(w.alloc o).drew:=by
 have i1:(0:Int)<=(i:Int):=by omega
 have i2:(i:Int)<(l.length:Int):=by omega
 have j1:(0:Int)<=(j:Int):=by omega
 have j2:(j:Int)<(l.length:Int):=by omega
 obtain⟨c0,c1⟩:=hp i hi;obtain⟨c2,c3⟩:=hp j Z;change w.cell? _=some (int i64 (px l i)) at c0;change w.cell? _=some (int i64 (py l i)) at c1;change w.cell? _=some (int i64 (px l j)) at c2;change w.cell? _=some (int i64 (py l j)) at c3;unfold Zhd;generalize px l i=xi at *;generalize py l i=Y at *
 generalize px l j=O at *;generalize py l j=J at *
 clear hp;go_enter func72,ntmps72;go_wp2_with fail
 go_region_held3 (fun w'=>∀ b o,b<w.heap.size->w'.cell? ⟨b,o,none⟩=w.cell? ⟨b,o,none⟩) (first|exact fun _ _ _=>rfl|(intro b o I;simp only[World.cell?_drew];exact World.cell?_alloc_past _ _ _ I))
  (first
    | (go_at_call 74; refine (Ziw _ _ _).mono ?_; rintro e w' ⟨rfl, rfl⟩)
    | (go_at_call 73; refine (Zu5 _ (Zbh xi O) (Zbh Y J) _ ?_ ?_).mono ?_; (simp [go_sem]); (simp [go_sem]); rintro e w' ⟨rfl, rfl⟩))
 go_wp2
 go_ret;exact⟨rfl,_,rfl⟩
theorem Zhe (x y:Int):Zbh x y<0↔x<y:=by
 unfold Zbh;split
 ·simp[*]
 ·split <;> omega
theorem Zlk (x y:Int):Zbh x y=0↔x=y:=by
 unfold Zbh;split
 ·omega
 ·split <;> omega
theorem Zu6 (p q:Pt):Zhd p q<0↔plt p q:=by
 unfold Zhd orI plt;have D:=Zlk p.1 q.1;have I:=Zhe p.1 q.1;have J:=Zhe p.2 q.2;split
 ·rename_i h;rw[J];have:=D.1 h;omega
 ·rename_i h;rw[I];have:¬ p.1=q.1:=fun e=>h (D.2 e)
  omega
def Za (l:List Pt)(i:Nat):Pt:=(px l i,py l i)
end Go.Proofs.YtgpapegpdfonpaaGreatDoor
namespace Go.Proofs.YtgpapegpdfonpaaGreatDoor
open Go.RowKit Go.Shelf Go.Sort Go.Proofs.Tryz
open Go.Value(int)
open Go.IntKind(i64)
def cfO (l:List Pt)(n:Nat)(x y:Fin (n+1)):Int:=Zhd (Za l x.val) (Za l y.val)
def Zaj (n:Nat)(x:Fin (n+1)):Value:=int i64 (x.val:Int)
theorem ltO (l:List Pt)(n:Nat)(x y:Fin (n+1)):ltOf (cfO l n) x y=true↔plt (Za l x.val) (Za l y.val):=by
 unfold ltOf cfO;rw[decide_eq_true_iff,Zu6]
theorem Zf5 (l:List Pt)(n:Nat)(x y:Fin (n+1)):ltOf (cfO l n) x y=false↔¬ plt (Za l x.val) (Za l y.val):=by
 rw[<-ltO,Bool.not_eq_true]
theorem Zpc (l : List Pt) (n : Nat) : SWO (ltOf (cfO l n)) := {
  irrefl := fun x => (Zf5 l n x x).2 (Xs _)
  trans := fun x y z D e => (ltO l n x z).2 (Zai ((ltO l n x y).1 D) ((ltO l n y z).1 e))
  ntrans := fun x y z D e => by
    have J := (Zf5 l n x y).1 D; have I := (Zf5 l n y z).1 e
    refine (Zf5 l n x z).2 fun h => ?_
    unfold plt at *
    omega }
def Zao (n k:Nat):Array Value:=((List.range n).map fun j=>Value.int .i64 (if j<k then (j:Int) else 0)).toArray
theorem Zll (n:Nat):madeCells #[Value.int .i64 0] n=Zao n 0:=by
 apply Array.ext_getElem?;intro j;unfold madeCells Zao;by_cases h:j<n
 ·simp[h,Nat.mod_one]
 ·simp[h]
theorem Zpd (n k:Nat)(h:k<n):(Zao n k).setIfInBounds k (int i64 (k:Int))=Zao n (k+1):=by
 apply Array.ext_getElem?;intro j;by_cases D:j<n
 ·by_cases e:k=j
  ·subst e;simp[Zao,D]
  ·rw[Array.getElem?_setIfInBounds_ne e];simp[Zao,D];have:(j<k)=(j<k+1):=by simp;omega
   simp[this]
 ·rw[Array.getElem?_eq_none (by simp[Zao];omega),Array.getElem?_eq_none (by simp[Zao];omega)]
theorem Zbi:(prog.info? 3).map (fun i=>(i.zero,i.size,i.bytes))=some (some (int i64 0),1,8):=by kernel_rfl
theorem Zpe (w:World)(n:Nat)(T:TypeId):Holds (Zaj n) (w.alloc (.cells (Zao (n+1) (n+1)) T)) w.heap.size 0 (Array.ofFn fun i:Fin (n+1)=>i):=by
 intro j e;have D:j<n+1:=by simpa using e
 refine⟨?_,?_⟩
 ·rw[World.cell?_alloc_at _ _ _ _ rfl];simp[Zao,Zaj,D]
 ·rw[World.frozen?_alloc_at _ _ _ _ rfl]
def Xc (w:World)(g e:Nat)(is:List Nat):Prop:=∀ j,j<is.length->w.cell? ⟨g,e+j,none⟩=some (int i64 (is.getD j 0:Nat))
structure InOrder (l:List Pt)(is:List Nat):Prop where
 perm:is.Perm (List.range l.length)
 sorted:∀ i j,i<j->j<is.length->¬ plt (Za l (is.getD j 0)) (Za l (is.getD i 0))
theorem Zix {α:Type}[Inhabited α](enc:α->Value)(w:World)(g n:Nat)(d:Array α)(e:Array Obj)(k:Nat)(h:k<w.heap.size)(D:k≠g) :
  (sortWorld enc w g 0 n d e).heap[k]? =w.heap[k]? :=by
 unfold sortWorld;rw[heap_grow_old _ _ (by rw[Sort.size_putRow];exact h)];unfold putRow mapBlock;simp only[Array.getElem?_modify];rw[if_neg (Ne.symm D)];rfl
theorem Zpf {n:Nat}{d d':Array (Fin (n+1))}(O:PermIn 0 d.size d d'):d'.size=d.size/\d'.toList.Perm d.toList:=by
 obtain⟨e,_,D⟩:=O;refine⟨e,?_⟩;have I:d'.extract 0 d.size=d':=by rw[<-e];simp
 have J:d.extract 0 d.size=d:=by simp
 rw[I,J] at D;exact D
theorem Zu7 (b I cap:Nat) (l:List (Int×Int)) (n:Nat) (w W:World) (hn:l.length=n+1) (hl:l.length<=60) (hb:b<w.heap.size) (hp:Zp w b I l)
  (hW:W=(w.alloc (.cells #[.slice (some ⟨b,I,none⟩) l.length cap] 41)).alloc (.cells (Zao l.length l.length) 3)) :
  Calls prog 71 #[.slice (some ⟨w.heap.size+1,0,none⟩) l.length l.length,.func (.func 72) #[] #[.pointer (some ⟨w.heap.size,0,none⟩)]] W fun e w'=>
   e= .returned (.tuple #[])/\∃ is,w.heap.size+1<w'.heap.size/\RowKit.Below (w.heap.size+1) W w'/\Xc w' (w.heap.size+1) 0 is/\(∀ j,w'.frozen? ⟨w.heap.size+1,j,none⟩=false)/\InOrder l is:=by
 have hWs:W.heap.size=w.heap.size+1+1:=by rw[hW];simp
 have hH:Holds (Zaj n) W (w.heap.size+1) 0 (Array.ofFn fun i:Fin (n+1)=>i):=by
  have:=Zpe (w.alloc (.cells #[.slice (some ⟨b,I,none⟩) l.length cap] 41)) n 3;rw[hn] at hW;rw[hn] at this;simp only[World.size_alloc] at this;rw[hW];exact this
 have hfz:∀ j,W.frozen? ⟨w.heap.size+1,j,none⟩=false:=fun j=>by rw[hW];exact World.frozen?_alloc_at _ _ _ _ (by simp)
 have hcB:W.cell? ⟨w.heap.size,0,none⟩=some (.slice (some ⟨b,I,none⟩) l.length cap):=by
  rw[hW,World.cell?_alloc_past _ _ _ (by simp),World.cell?_alloc_at _ _ _ _ rfl];rfl
 have hpW:Zp W b I l:=by
  have Z:RowKit.Below w.heap.size w W:=by rw[hW];exact Yq _ _ _
  exact hp.below Z hb
 have hcmp:CmpLays1 prog 72 #[.pointer (some ⟨w.heap.size,0,none⟩)] (Zaj n) (cfO l n) (w.heap.size+1) 0 (Array.ofFn fun i:Fin (n+1)=>i).size W:=by
  intro m O dk hs x y;have hV:∀ a:Addr,a.block≠w.heap.size+1->a.block<W.heap.size->(sortWorld (Zaj n) W (w.heap.size+1) 0 m dk O).cell? a=W.cell? a:=fun a h1 Z=>
   World.cell?_of_block (w:=W) (Zix (Zaj n) W (w.heap.size+1) m dk O a.block Z h1)
  have hVs:W.heap.size<=(sortWorld (Zaj n) W (w.heap.size+1) 0 m dk O).heap.size:=by
   unfold sortWorld;rw[Sort.size_grow,Sort.size_putRow];exact Nat.le_add_right _ _
  refine (Zpb w.heap.size b I cap l x.val y.val _ (by have:=x.isLt;omega) (by have:=y.isLt;omega) (by omega) (by omega) ?_ ?_).mono ?_
  ·rw[hV _ (by simp) (by simp;omega)];exact hcB
  ·intro j Y;have:=hpW j Y;rw[hV _ (by simp;omega) (by simp;omega),hV _ (by simp;omega) (by simp;omega)];exact this
  ·rintro e w' ⟨he,o,J⟩;refine⟨he,1,#[o],?_⟩;rw[J,alloc_eq_grow];rfl
 have eg:∀ args w,(callFunc 72 args).run prog w= .ok (.enter 72 args) w:=call72;have hS:=Any.slices_SortFunc laySort (Zaj n) (fun _=>rfl) (cfO l n) (Zpc l n) 72 #[.pointer (some ⟨w.heap.size,0,none⟩)] (w.heap.size+1) 0 l.length (Array.ofFn fun i:Fin (n+1)=>i) W eg hcmp hH (by omega) (by simp;omega);have hsz:(Array.ofFn fun i:Fin (n+1)=>i).size=l.length:=by simp[hn]
 rw[hsz] at hS;refine hS.mono ?_;rintro e w' ⟨he,d',q,O,hperm,hsorted,J⟩;rw[<-hsz] at hperm hsorted;obtain⟨ds,dp⟩:=Zpf hperm;refine⟨he,d'.toList.map (·.val),?_,?_,?_,?_,?_,?_⟩
 ·rw[J];unfold sortWorld;rw[Sort.size_grow,Sort.size_putRow];show w.heap.size+1<W.heap.size+_;omega
 ·subst J;refine⟨rfl,rfl,rfl,?_,fun k hk=>?_⟩
  ·unfold sortWorld;rw[Sort.size_grow,Sort.size_putRow];exact Nat.le_add_right _ _
  ·exact Zix (Zaj n) W (w.heap.size+1) q d' O k (by omega) (by omega)
 ·intro j Y;have D:j<d'.size:=by simpa using Y
  rw[J];unfold sortWorld;rw[Sort.cell?_grow _ _ _ (by rw[Sort.size_putRow];show w.heap.size+1<W.heap.size;omega)];rw[Sort.cell?_putRow (Zaj n) _ (w.heap.size+1) 0 _ d' (Sort.holds_ahead _ _ _ _ _ _ hH) ds j D];have:d'[j]! =d'[j]:=getElem!_pos d' j D;rw[this];simp[Zaj,D]
 ·intro j;rw[J];unfold sortWorld;rw[Sort.frozen?_grow _ _ _ (by rw[Sort.size_putRow];show w.heap.size+1<W.heap.size;omega),Sort.frozen?_putRow];exact hfz j
 ·have:=dp.map (fun x:Fin (n+1)=>x.val);refine this.trans ?_;rw[hn];apply List.Perm.of_eq;apply List.ext_getElem
  ·simp
  ·intro i h1 Z;rw[List.getElem_map,Array.getElem_toList,Array.getElem_ofFn,List.getElem_range]
 ·intro i j hij Y;have D:j<d'.size:=by simpa using Y
  have:=hsorted i j (Nat.zero_le _) hij (by rw[<-ds];exact D);rw[Zf5] at this;have a1:d'[j]! =d'[j]:=getElem!_pos d' j D;have a2:d'[i]! =d'[i]'(by omega):=getElem!_pos d' i (by omega);rw[a1,a2] at this;have hi':i<d'.size:=by omega
  simpa [D,hi'] using this
theorem Zhf (b D cap:Nat)(l:List (Int×Int))(n:Nat)(w:World)(J:l.length=n+1)(Z:l.length<=60)(Y:b<w.heap.size)(hp:Zp w b D l) :
  Calls prog 28 #[.slice (some ⟨b,D,none⟩) l.length cap] w fun e w'=>
   ∃ g is,e= .returned (.slice (some ⟨g,0,none⟩) l.length l.length)/\w.heap.size<=g/\g<w'.heap.size/\RowKit.Below w.heap.size w w'/\Xc w' g 0 is/\(∀ j,w'.frozen? ⟨g,j,none⟩=false)/\InOrder l is:=by
 have hmk:=run_make_row' (P:=prog) 26 3 (int i64 0) 8 underlying26 Zbi rfl .i64 .i64 l.length (by omega) (by omega);have HN:Hid (l.length=n+1):=J;clear J;go_enter func28,ntmps28;go_wp2
 go_loopw [10] (fun i wr=>∃ k:Nat,k<=l.length/\i=int i64 k/\wr=(w.alloc (.cells #[.slice (some ⟨b,D,none⟩) l.length cap] 41)).alloc (.cells (Zao l.length k) 3))
  (fun i _=>l.length-(intOf i).toNat)
 case atStart=>exact⟨0,Nat.zero_le _,rfl,by rw[Zll]⟩
 case round=>
  obtain⟨k,hk,rfl,rfl⟩:=hrel;by_cases I:k<l.length
  ·have hc:((w.alloc (.cells #[.slice (some ⟨b,D,none⟩) l.length cap] 41)).alloc (.cells (Zao l.length k) 3)).cell? ⟨w.heap.size+1,k,none⟩=some (int i64 0):=by
    rw[World.cell?_alloc_at _ _ _ _ (by simp)];simp[Zao,I]
   have hs:=Zpd l.length k I;go_wp2
   go_roundw;case rel=>exact⟨k+1,by omega,by go_num,rfl⟩
   case measure=>simp[intOf];omega
  ·have ek:k=l.length:=by omega
   subst ek;go_wp2_with fail
   refine (Zu7 b D cap l n w _ HN.out Z Y hp rfl).mono ?_;rintro e w' ⟨rfl,is,h1,O,h3,h4,h5⟩;go_wp2
   go_ret;refine⟨w.heap.size+1,is,rfl,by omega,h1,?_,h3,h4,h5⟩;exact (Yq _ _ _).trans (O.mono (by omega))
end Go.Proofs.YtgpapegpdfonpaaGreatDoor
namespace Go.Proofs.YtgpapegpdfonpaaGreatDoor
open Go.RowKit
attribute [local go_sem ↓] Go.wp_at_zero Go.wp_at_succ
theorem Zd {n:Int}(D: -9223372036854775808<=n)(e:n<=9223372036854775807):IntKind.i64.wrap n=n:=by
 simp[IntKind.wrap,IntKind.bits,IntKind.signed];omega
end Go.Proofs.YtgpapegpdfonpaaGreatDoor
namespace Go.Proofs.YtgpapegpdfonpaaGreatDoor
open Go.RowKit Go.Proofs.Tryz
open Go.Value(int)
open Go.IntKind(i64)
def Xq (l:List Pt)(n:Nat):List Nat->List Nat
 | b :: a :: t=>if sd (Za l a) (Za l b) (Za l n)<=0 then Xq l n (a :: t) else b :: a :: t
 | s=>s
def Yk (l:List Pt)(is:List Nat):List Nat:=is.foldl (fun e n=>n :: Xq l n e) []
def toV (i:Nat):Value:=int i64 (i:Int)
theorem Zu8 (l:List Pt)(n:Nat):∀ e,(Xq l n e).map (Za l)=Xt (Za l n) (e.map (Za l)):=by
 intro e;induction e with
 | nil=>rfl
 | cons b t ih=>
  cases t with
  | nil=>rfl
  | cons a t=>
   simp only[Xq,List.map_cons,Xt];split
   ·exact ih
   ·rfl
theorem Zpg (l:List Pt)(is:List Nat):(Yk l is).map (Za l)=Zdh (is.map (Za l)):=by
 unfold Yk Zdh;have D:∀ (is e:List Nat),(is.foldl (fun e n=>n :: Xq l n e) e).map (Za l)=(is.map (Za l)).foldl (fun e n=>n :: Xt n e) (e.map (Za l)):=by
  intro is;induction is with
  | nil=>intro e;rfl
  | cons i is ih=>intro e;simp only[List.foldl_cons,List.map_cons,ih,Zu8]
 exact D is []
theorem Zu9 (l:List Pt)(n:Nat):∀ e,(Xq l n e).length<=e.length:=by
 intro e;induction e with
 | nil=>exact Nat.le_refl _
 | cons b t ih=>
  cases t with
  | nil=>exact Nat.le_refl _
  | cons a t=>
   simp only[Xq];split
   ·exact Nat.le_trans ih (by simp)
   ·exact Nat.le_refl _
theorem Zva (l:List Pt)(is:List Nat)(n:Nat):Yk l (is ++ [n])=n :: Xq l n (Yk l is):=by simp[Yk]
theorem Zlm (l:List Pt)(is:List Nat):(Yk l is).length<=is.length:=by
 have D:∀ (is e:List Nat),(is.foldl (fun e n=>n :: Xq l n e) e).length<=e.length+is.length:=by
  intro is;induction is with
  | nil=>intro e;exact Nat.le_refl _
  | cons i is ih=>
   intro e;refine Nat.le_trans (ih _) ?_;have:=Zu9 l i e;simp;omega
 have:=D is [];unfold Yk;simpa using this
theorem Zvb (l:List Pt)(n:Nat):∀ D,∀ p∈Xq l n D,p∈D:=by
 intro D;induction D with
 | nil=>intro p e;exact e
 | cons b t ih=>
  cases t with
  | nil=>intro p e;exact e
  | cons a t=>
   intro p e;simp only[Xq] at e;split at e
   ·exact List.mem_cons_of_mem _ (ih p e)
   ·exact e
theorem Zln (l:List Pt)(is:List Nat):∀ p∈Yk l is,p∈is:=by
 have Y:∀ (is D S:List Nat),(∀ p∈D,p∈S)->(∀ p∈is,p∈S)->∀ p∈is.foldl (fun D n=>n :: Xq l n D) D,p∈S:=by
  intro is;induction is with
  | nil=>intro D S h _;exact h
  | cons i is ih=>
   intro D S O J;refine ih _ S ?_ (fun p I=>J p (List.mem_cons_of_mem _ I));intro p I;rcases List.mem_cons.1 I with e|I
   ·subst e;exact J _ (by simp)
   ·exact O p (Zvb l i D p I)
 exact Y is [] is (by simp) (fun p I=>I)
theorem Ziy {w:World}{Y g n cap:Nat}{e:TypeId}{xs:List Value}(h:w.ownsRow Y e 1 (.slice (some ⟨g,0,none⟩) n cap) n xs)(j:Nat)(u:Value)(D:xs[j]? =some u):w.cell? ⟨g,j,none⟩=some u:=by
 obtain⟨hl,I⟩:=h;rcases I with ⟨I,_⟩|⟨g',cap',O,hv,hg,J,h1,h2,h3,Z⟩
 ·cases I
 ·cases hv;have:O[j]? =some u:=by
   rw[<-Z,List.getElem?_take] at D;split at D
   ·simpa using D
   ·cases D
  simp[World.cell?,J,this]
theorem Zf6 {w:World}{I g n cap:Nat}{e:TypeId}{xs:List Value}(h:w.ownsRow I e 1 (.slice (some ⟨g,0,none⟩) n cap) n xs):g<w.heap.size/\I<=g/\n<=cap:=by
 obtain⟨hl,D⟩:=h;rcases D with ⟨D,_⟩|⟨g',cap',cur,Z,O,J,Y,h2,h3,h4⟩
 ·cases D
 ·cases Z;exact⟨(Array.getElem?_eq_some_iff.1 J).1,O,Y⟩
theorem Zdi {w:World}{O n:Nat}{e:TypeId}{xs:List Value}{v:Value}(h:w.ownsRow O e 1 v n xs):(v= .slice none 0 0/\n=0)\/∃ g cap,v= .slice (some ⟨g,0,none⟩) n cap:=by
 obtain⟨hl,D⟩:=h;rcases D with ⟨D,I⟩|⟨Y,J,cur,Z,hg,hh,h1,h2,h3,h4⟩
 ·exact .inl ⟨D,I⟩
 ·exact .inr ⟨Y,J,Z⟩
theorem Zbv {w w':World}{I n:Nat}{e:TypeId}{xs:List Value}{v:Value}(h:w.ownsRow I e 1 v n xs)(hb:Below w.heap.size w w'):w'.ownsRow I e 1 v n xs:=by
 obtain⟨hl,D⟩:=h;refine⟨hl,?_⟩;rcases D with D|⟨O,Y,cur,hv,Z,J,r⟩
 ·exact .inl D
 ·refine .inr ⟨O,Y,cur,hv,Z,?_,r⟩;rw[hb.block O (Array.getElem?_eq_some_iff.1 J).1];exact J
theorem Zlo {w:World}{D n m:Nat}{e:TypeId}{I:Nat}{xs:List Value}{v:Value}(h:w.ownsRow D e I v n xs):(w.drewN m).ownsRow D e I v n xs:=h
theorem Zt {N m:Nat}{a w:World}(h:Below N a w):Below N a (w.drewN m):=⟨h.os,h.tape,h.output,h.size,h.block⟩
theorem Zhg {toB:Nat} {W D w3:World} {e:TypeId} {v J:Value} {n m:Nat} {xs Y:List Value} {o:Obj} (I:D.ownsRow toB e 1 v n xs) (Z:Below toB W D)
  (hown3:w3.ownsRow toB e 1 J m Y) (hgrow:(D.alloc o).grownBy w3 v.ownBlock) (hB:toB<=D.heap.size):w3.ownsRow toB e 1 J m Y/\Below toB W w3:=by
 refine⟨hown3,(Z.alloc hB o).grown hgrow (by simp;omega) fun k O=>?_⟩;rcases Zdi I with ⟨rfl,_⟩|⟨g,cap,rfl⟩
 ·cases O
 ·cases O;exact (Zf6 I).2.1
theorem Zvc {w:World}{I n:Nat}{e:TypeId}{xs:List Value}{v:Value}(h:w.ownsRow (I+1) e 1 v n xs):w.ownsRow I e 1 v n xs:=by
 obtain⟨Z,D⟩:=h;refine⟨Z,?_⟩;rcases D with D|⟨O,J,aa,Y,hg,r⟩
 ·exact .inl D
 ·exact .inr ⟨O,J,aa,Y,by omega,r⟩
def Zc4:Value->Nat
 | .slice _ n _=>n
 | _=>0
structure AskAt (w:World)(B b off cap:Nat)(l:List Pt):Prop where
 hB:B<w.heap.size
 hb:b<w.heap.size
 cell:w.cell? ⟨B,0,none⟩=some (.slice (some ⟨b,off,none⟩) l.length cap)
 pts:Zp w b off l
theorem AskAt.below {w w':World}{N B b e cap:Nat}{l:List Pt}(A:AskAt w B b e cap l)(h:Below N w w')(D:w.heap.size<=N):AskAt w' B b e cap l:=
 ⟨L3 A.hB h.size,L3 A.hb h.size,(h.cell (p:=⟨B,0,none⟩) (L3 A.hB D)).trans A.cell,A.pts.below h (L3 A.hb D)⟩
theorem AskAt.drew {w:World}{B b e cap:Nat}{l:List Pt}(A:AskAt w B b e cap l):AskAt w.drew B b e cap l:=⟨A.hB,A.hb,A.cell,A.pts⟩
theorem Zvd {x:Int}(h:x<=0):sg x<=0:=by unfold sg;rw[if_neg (by omega)];split <;> omega
theorem Zve {x:Int}(h:0<x):0<sg x:=by unfold sg;rw[if_pos h];omega
abbrev Zaw (B:Nat):Value:=.agg #[.func (.func 34) #[] #[.pointer (some ⟨B,0,none⟩)],.func (.func 36) #[] #[.pointer (some ⟨B,0,none⟩)]]
theorem Zph (B b off cap g ocap:Nat) (l:List Pt) (is:List Nat) (w:World) (hl:l.length<=60) (hi:∀ i∈is,i<l.length) (hlen:is.length<=60) (A:AskAt w B b off cap l) (hn:Zv l)
  (hg:g<w.heap.size) (his:Xc w g 0 is) :
  Calls prog 121 #[.slice (some ⟨g,0,none⟩) is.length ocap,Zaw B] w fun e w'=>
   ∃ v,e= .returned v/\w'.ownsRow w.heap.size 3 1 v (Yk l is).length ((Yk l is).reverse.map toV)/\Below w.heap.size w w':=by
 obtain⟨i0,hi0,hz0,hz1,hz2⟩:=info_parts Zbi;go_enter func121,ntmps121;go_wp2
 go_loopw [5, 10] (fun v i wr => ∃ k : Nat, k ≤ is.length ∧ i = int i64 k ∧ wr.ownsRow (w.heap.size + 1) 3 1 v (Yk l (is.take k)).length ((Yk l (is.take k)).reverse.map toV) ∧
     Below (w.heap.size + 1) (w.alloc (.cells #[.func (.func 34) #[] #[.pointer (some ⟨B, 0, none⟩)], .func (.func 36) #[] #[.pointer (some ⟨B, 0, none⟩)]] 60)) wr)
  (fun _ i _=>is.length-(intOf i).toNat)
 case atStart=>exact⟨0,Nat.zero_le _,rfl,World.ownsRow_nil _ _ _ _,Below.refl _ _⟩
 case round=>
  obtain⟨k,hk,rfl,D,J⟩:=hrel;by_cases hlt:k<is.length
  ·have hcx:wr.cell? ⟨g,k,none⟩=some (int i64 (is.getD k 0:Nat)):=by
    have h1:=his k hlt;rw[Nat.zero_add] at h1;rw[J.cell (p:=⟨g,k,none⟩) (by simp;omega),World.cell?_alloc_past _ _ _ hg];exact h1
   go_wp2
   have hnn:is[k]<l.length:=hi _ (List.getElem_mem hlt);have htk:Yk l (is.take (k+1))=is[k] :: Xq l is[k] (Yk l (is.take k)):=by rw[List.take_succ_eq_append_getElem hlt,Zva]
   have hst0:∀ p∈Yk l (is.take k),p<l.length:=fun p hp=>hi p (List.mem_of_mem_take (Zln l _ p hp))
   have Y:(Yk l (is.take k)).length<=60:=Nat.le_trans (Zlm l _) (by simp;omega);have HTK:Hid (Yk l (is.take (k+1))=is[k] :: Xq l is[k] (Yk l (is.take k))):=htk;clear htk hcx;generalize is[k]=I at *
   generalize Yk l (is.take k)=st0 at *
   go_loopw [5] (fun v w2 => ∃ st, Xq l I st = Xq l I st0 ∧ w2.ownsRow (w.heap.size + 1) 3 1 v st.length (st.reverse.map toV) ∧
       Below (w.heap.size + 1) (w.alloc (.cells #[.func (.func 34) #[] #[.pointer (some ⟨B, 0, none⟩)], .func (.func 36) #[] #[.pointer (some ⟨B, 0, none⟩)]] 60)) w2 ∧
       (∀ p ∈ st, p < l.length) ∧ st.length ≤ 60) (fun v _ => Zc4 v)
   case atStart=>exact⟨st0,rfl,D,J,hst0,Y⟩
   case round=>
    clear D J hst0 Y;obtain⟨st,hpop,D,J,hst,Y⟩:=hrel;have Z:Hid (Xq l I st=Xq l I st0):=hpop;clear hpop;match st,D,hst,Y,Z with
    | b' :: a' :: t,D,hst,Y,Z=>
     have ha':a'<l.length:=hst a' (by simp);have hb':b'<l.length:=hst b' (by simp);rcases Zdi D with ⟨_,h0⟩|⟨gg,cap',rfl⟩
     ·simp at h0
     obtain⟨hgg,hgb,hcl⟩:=Zf6 D;have e1:(List.map toV (b' :: a' :: t).reverse)[t.length]? =some (toV a'):=by simp[toV]
     have e2:(List.map toV (b' :: a' :: t).reverse)[t.length+1]? =some (toV b'):=by simp[toV]
     have q1:=Ziy D _ _ e1;have q2:=Ziy D _ _ e2;clear e1 e2;have q3:wr.cell? ⟨w.heap.size,0,none⟩=some (.func (.func 34) #[] #[.pointer (some ⟨B,0,none⟩)]):=by
      rw[J.cell (p:=⟨w.heap.size,0,none⟩) (by simp),World.cell?_alloc_at _ _ _ _ rfl];rfl
     have A2:AskAt wr.drew B b off cap l:=(A.below ((Zb _ _).trans (J.mono (by omega)):Below w.heap.size w wr) (Nat.le_refl _)).drew;have hq4:w.heap.size<wr.heap.size:=by have:=J.size;simp at this;omega
     simp only[List.length_cons] at D Y hcl;unfold toV at q1 q2;generalize hm:t.length=m at *
     have m0:(0:Int)<=(m:Int):=by omega
     have m1:decide ((2:Int)<=(m:Int)+1+1)=true:=decide_eq_true (by omega);have m2:IntKind.i64.wrap ((m:Int)+1+1-2)=(m:Int):=by rw[Zd (by omega) (by omega)];omega
     have m3:IntKind.i64.wrap ((m:Int)+1+1-1)=(m:Int)+1:=by rw[Zd (by omega) (by omega)];omega
     have m3':IntKind.i64.wrap ((m:Int)+1)=(m:Int)+1:=Zd (by omega) (by omega);have m4:(m:Int)<(m:Int)+1+1:=by omega
     have m5:(m:Int)+1<(m:Int)+1+1:=by omega
     have m6:(0:Int)<=(m:Int)+1:=by omega
     have hres:Zk (px l a') (py l a') (px l b') (py l b') (px l I) (py l I)=sd (Za l a') (Za l b') (Za l I):=rfl;by_cases hs:sd (Za l a') (Za l b') (Za l I)<=0
     ·have hsg:sg (Zk (px l a') (py l a') (px l b') (py l b') (px l I) (py l I))<=0:=Zvd (by rw[hres];exact hs);have HS:Hid (sd (Za l a') (Za l b') (Za l I)<=0):=hs;clear hs hres;generalize hG:sg (Zk (px l a') (py l a') (px l b') (py l b') (px l I) (py l I))=G at *
      go_wp2_with fail
      go_region_held3 (fun w'=>Below wr.heap.size wr w'/\∀ b o,b<wr.heap.size->w'.cell? ⟨b,o,none⟩=wr.cell? ⟨b,o,none⟩) (first|exact Yw _|exact Yx (by assumption) hb1)
       (first|(go_at_call 34;refine (Zc3 B b off cap l a' b' I _ ha' hb' hnn (by omega) A2.hb A2.hB A2.cell A2.pts hn).mono ?_;rintro e w' ⟨rfl,hb1⟩;rw[hG]))
      have hS:=(by assumption:Below wr.heap.size wr w'/\∀ b o,b<wr.heap.size->w'.cell? ⟨b,o,none⟩=wr.cell? ⟨b,o,none⟩);replace D:=Zbv D hS.1;replace J:=J.trans (hS.1.mono (by omega));clear hS q1 q2 q3 A2 hb1 hgg hq4;have hcap:((m:Int)+1)<=(cap':Int):=by omega
      go_wp2
      go_roundw
      case rel=>
       refine⟨a' :: t,?_,?_,J,fun p hp=>hst p (List.mem_cons_of_mem _ hp),by simp only[List.length_cons];omega⟩
       ·rw[<-Z.out];simp only[Xq];rw[if_pos HS.out]
       ·have hx:(List.map toV (a' :: t).reverse).length=(m+1)*1:=by simp[hm]
        have:=ownsRow_pop (last:=[toV b']) hx (by simpa using D);simpa [hm] using this
      case measure=>simp[Zc4];omega
     ·have hsg:0<sg (Zk (px l a') (py l a') (px l b') (py l b') (px l I) (py l I)):=Zve (by rw[hres];omega);have HS:Hid (¬ sd (Za l a') (Za l b') (Za l I)<=0):=hs;clear hs hres;generalize hG:sg (Zk (px l a') (py l a') (px l b') (py l b') (px l I) (py l I))=G at *
      go_wp2_with fail
      go_region_held3 (fun w'=>Below wr.heap.size wr w'/\∀ b o,b<wr.heap.size->w'.cell? ⟨b,o,none⟩=wr.cell? ⟨b,o,none⟩) (first|exact Yw _|exact Yx (by assumption) hb1)
       (first|(go_at_call 34;refine (Zc3 B b off cap l a' b' I _ ha' hb' hnn (by omega) A2.hb A2.hB A2.cell A2.pts hn).mono ?_;rintro e w' ⟨rfl,hb1⟩;rw[hG]))
      have hS:=(by assumption:Below wr.heap.size wr w'/\∀ b o,b<wr.heap.size->w'.cell? ⟨b,o,none⟩=wr.cell? ⟨b,o,none⟩);replace D:=Zbv D hS.1;replace J:=J.trans (hS.1.mono (by omega));have HM:Hid (t.length=m):=hm;clear hS hm q1 q2 q3 A2 hb1 hgg hq4;generalize w'=wq at *
      have aa:Xq l I (b' :: a' :: t)=b' :: a' :: t:=by simp only[Xq];rw[if_neg (by have:=HS.out;omega)]
      have hcn:Yk l (is.take (k+1))=I :: b' :: a' :: t:=by rw[HTK.out,<-Z.out,aa]
      have HCN:Hid (Yk l (is.take (k+1))=I :: b' :: a' :: t):=hcn;clear hcn aa Z HTK hst;go_wp2_with (at_builtin;refine wpList_append_lies _ (by rfl) (.tmp 41) (.tmp 43) 26 (by rfl) (w.heap.size+1) 3 i0 (int i64 0) 1 8 underlying26 hi0 hz0 hz1 hz2 rfl (by decide) _ _ _ (by rfl) (D.alloc _) ⟨wq.heap.size,0,none⟩ 1 1 [int i64 I] (by rfl) rfl ?c1 ?c2 (by decide) ?c3 ?c4 ?c5 (wq.heap.size+1) ?c6 ?_)
      case c1=>
       intro j u O;match j,O with
       | 0,O=>simp at O;subst O;simp[Addr.add]
      case c2=>intro u hu;simp at hu;subst hu;rfl
      case c3=>unfold maxLen;omega
      case c4=>omega
      case c5=>have:=J.size;simp at this ⊢;omega
      case c6=>simp
      ·intro g2 cap2 w3 hown3 hgrow hat hlt3;have R:=Zhg (toB:=w.heap.size+1) D J hown3 hgrow (by have:=J.size;simp at this;omega);clear hown3 hgrow D hat;go_wp2
       go_roundw;case rel=>exact⟨k+1,by omega,by go_num,by rw[HCN.out];simpa [toV,HM.out] using R.1,R.2⟩
       case measure=>simp[intOf];omega
    | [x],D,hst,Y,Z=>
     rcases Zdi D with ⟨_,h0⟩|⟨gg,cap',rfl⟩
     ·simp at h0
     ·have h1:((1:Nat):Int)<2:=by omega
      simp only[List.length_cons,List.length_nil,Nat.zero_add] at D;skip
      go_wp2_with fail
      go_quiet (fail);replace D:=Zlo (m:=nq) D;replace J:=Zt (m:=nq) J;generalize wr.drewN nq=wq at *
      have aa:Xq l I [x]=[x]:=rfl;have hcn:Yk l (is.take (k+1))=I :: [x]:=by rw[HTK.out,<-Z.out,aa]
      have HCN:Hid (Yk l (is.take (k+1))=I :: [x]):=hcn;clear hcn aa Z HTK hst;go_wp2_with (at_builtin;refine wpList_append_lies _ (by rfl) (.tmp 41) (.tmp 43) 26 (by rfl) (w.heap.size+1) 3 i0 (int i64 0) 1 8 underlying26 hi0 hz0 hz1 hz2 rfl (by decide) _ _ _ (by rfl) (D.alloc _) ⟨wq.heap.size,0,none⟩ 1 1 [int i64 I] (by rfl) rfl ?c1 ?c2 (by decide) ?c3 ?c4 ?c5 (wq.heap.size+1) ?c6 ?_)
      case c1=>
       intro j u O;match j,O with
       | 0,O=>simp at O;subst O;simp[Addr.add]
      case c2=>intro u hu;simp at hu;subst hu;rfl
      case c3=>simp only[List.length_cons,List.length_nil] at Y ⊢;unfold maxLen;omega
      case c4=>simp only[List.length_cons,List.length_nil] at Y ⊢;omega
      case c5=>have:=J.size;simp at this ⊢;omega
      case c6=>simp
      ·intro g2 cap2 w3 hown3 hgrow hat hlt3;have R:=Zhg (toB:=w.heap.size+1) D J hown3 hgrow (by have:=J.size;simp at this;omega);clear hown3 hgrow D hat;go_wp2
       go_roundw;case rel=>exact⟨k+1,by omega,by go_num,by rw[HCN.out];simpa [toV] using R.1,R.2⟩
       case measure=>simp[intOf];omega
    | [],D,hst,Y,Z=>
     rcases Zdi D with ⟨rfl,_⟩|⟨gg,cap',rfl⟩
     ·skip
      go_wp2_with fail
      go_quiet (fail);replace D:=Zlo (m:=nq) D;replace J:=Zt (m:=nq) J;generalize wr.drewN nq=wq at *
      have aa:Xq l I []=[]:=rfl;have hcn:Yk l (is.take (k+1))=I :: []:=by rw[HTK.out,<-Z.out,aa]
      have HCN:Hid (Yk l (is.take (k+1))=I :: []):=hcn;clear hcn aa Z HTK hst;go_wp2_with (at_builtin;refine wpList_append_lies _ (by rfl) (.tmp 41) (.tmp 43) 26 (by rfl) (w.heap.size+1) 3 i0 (int i64 0) 1 8 underlying26 hi0 hz0 hz1 hz2 rfl (by decide) _ _ _ (by rfl) (D.alloc _) ⟨wq.heap.size,0,none⟩ 1 1 [int i64 I] (by rfl) rfl ?c1 ?c2 (by decide) ?c3 ?c4 ?c5 (wq.heap.size+1) ?c6 ?_)
      case c1=>
       intro j u O;match j,O with
       | 0,O=>simp at O;subst O;simp[Addr.add]
      case c2=>intro u hu;simp at hu;subst hu;rfl
      case c3=>simp only[List.length_cons,List.length_nil] at Y ⊢;unfold maxLen;omega
      case c4=>simp only[List.length_cons,List.length_nil] at Y ⊢;omega
      case c5=>have:=J.size;simp at this ⊢;omega
      case c6=>simp
      ·intro g2 cap2 w3 hown3 hgrow hat hlt3;have R:=Zhg (toB:=w.heap.size+1) D J hown3 hgrow (by have:=J.size;simp at this;omega);clear hown3 hgrow D hat;go_wp2
       go_roundw;case rel=>exact⟨k+1,by omega,by go_num,by rw[HCN.out];simpa [toV] using R.1,R.2⟩
       case measure=>simp[intOf];omega
     ·skip
      go_wp2_with fail
      go_quiet (fail);replace D:=Zlo (m:=nq) D;replace J:=Zt (m:=nq) J;generalize wr.drewN nq=wq at *
      have aa:Xq l I []=[]:=rfl;have hcn:Yk l (is.take (k+1))=I :: []:=by rw[HTK.out,<-Z.out,aa]
      have HCN:Hid (Yk l (is.take (k+1))=I :: []):=hcn;clear hcn aa Z HTK hst;go_wp2_with (at_builtin;refine wpList_append_lies _ (by rfl) (.tmp 41) (.tmp 43) 26 (by rfl) (w.heap.size+1) 3 i0 (int i64 0) 1 8 underlying26 hi0 hz0 hz1 hz2 rfl (by decide) _ _ _ (by rfl) (D.alloc _) ⟨wq.heap.size,0,none⟩ 1 1 [int i64 I] (by rfl) rfl ?c1 ?c2 (by decide) ?c3 ?c4 ?c5 (wq.heap.size+1) ?c6 ?_)
      case c1=>
       intro j u O;match j,O with
       | 0,O=>simp at O;subst O;simp[Addr.add]
      case c2=>intro u hu;simp at hu;subst hu;rfl
      case c3=>simp only[List.length_cons,List.length_nil] at Y ⊢;unfold maxLen;omega
      case c4=>simp only[List.length_cons,List.length_nil] at Y ⊢;omega
      case c5=>have:=J.size;simp at this ⊢;omega
      case c6=>simp
      ·intro g2 cap2 w3 hown3 hgrow hat hlt3;have R:=Zhg (toB:=w.heap.size+1) D J hown3 hgrow (by have:=J.size;simp at this;omega);clear hown3 hgrow D hat;go_wp2
       go_roundw;case rel=>exact⟨k+1,by omega,by go_num,by rw[HCN.out];simpa [toV] using R.1,R.2⟩
       case measure=>simp[intOf];omega
  ·go_wp2
   go_ret;have:is.take k=is:=List.take_of_length_le (by omega);rw[this] at D;exact⟨_,rfl,Zvc D,(Zb _ _).trans (J.mono (by omega))⟩
end Go.Proofs.YtgpapegpdfonpaaGreatDoor
namespace Go.Proofs.YtgpapegpdfonpaaGreatDoor
theorem Zvf {S:List Pt}:∀ {e:List Pt},Ze6 S e->∀ j (h:j+1<e.length),(∀ q∈S,Lf (e[j+1]'h) (e[j]'(by omega)) q)/\plt (e[j+1]'h) (e[j]'(by omega)):=by
 intro e;induction e with
 | nil=>intro _ j h;simp at h
 | cons b t ih=>
  intro D j h;cases t with
  | nil=>simp at h
  | cons a t=>
   cases j with
   | zero=>exact⟨D.1,D.2.1⟩
   | succ j=>exact ih D.2.2 j (by simpa using h)
theorem Zvg:∀ {e:List Pt},Zf4 e->∀ j (h:j+2<e.length),0<sd (e[j+2]'h) (e[j+1]'(by omega)) (e[j]'(by omega)):=by
 intro e;induction e with
 | nil=>intro _ j h;simp at h
 | cons c t ih=>
  intro D j h;cases t with
  | nil=>simp at h
  | cons b t=>
   cases t with
   | nil=>simp at h;omega
   | cons a t=>
    cases j with
    | zero=>exact D.1
    | succ j=>exact ih D.2 j (by simpa using h)
theorem Zvh {S:List Pt}:∀ {e:List Pt} (h:e≠ []),Bot S e->∀ q∈S,ple (e.getLast h) q:=by
 intro e;induction e with
 | nil=>intro h;exact absurd rfl h
 | cons b t ih=>
  intro h D;cases t with
  | nil=>exact D
  | cons a t=>rw[List.getLast_cons (by simp)];exact ih (by simp) D
structure Way (S F:List Pt):Prop where
 edge:∀ i (h:i+1<F.length),(∀ q∈S,Lf (F[i]'(by omega)) (F[i+1]'h) q)/\plt (F[i]'(by omega)) (F[i+1]'h)
 turn:∀ i (h:i+2<F.length),0<sd (F[i]'(by omega)) (F[i+1]'(by omega)) (F[i+2]'h)
 first:∀ (h:0<F.length),∀ q∈S,ple (F[0]'h) q
 last:∀ (h:F.length-1<F.length),∀ q∈S,ple q (F[F.length-1]'h)
 ne:S≠ []->F≠ []
 sub:∀ p∈F,p∈S
theorem Zpi {S D:List Pt}(C:Chain S D):Way S D.reverse:=by
 refine⟨fun i h=>?_,fun i h=>?_,fun h q I=>?_,fun h q I=>?_,fun h e=>C.ne h (by simpa using e),fun p Y=>C.sub p (by simpa using Y)⟩
 ·simp only[List.length_reverse] at h;have:=Zvf C.edges (D.length-1-(i+1)) (by omega);simp only[List.getElem_reverse];have e:D.length-1-(i+1)+1=D.length-1-i:=by omega
  simp only[e] at this;exact this
 ·simp only[List.length_reverse] at h;have:=Zvg C.turns (D.length-1-(i+2)) (by omega);simp only[List.getElem_reverse];have J:D.length-1-(i+2)+1=D.length-1-(i+1):=by omega
  have O:D.length-1-(i+2)+2=D.length-1-i:=by omega
  simp only[J,O] at this;exact this
 ·simp only[List.length_reverse] at h;have Z:D≠ []:=by intro e;subst e;simp at h
  have:=Zvh Z C.bot q I;simp only[List.getElem_reverse];rw[List.getLast_eq_getElem] at this;simpa using this
 ·simp only[List.length_reverse] at h;cases D with
  | nil=>simp at h
  | cons b t=>
   have:=C.top b t rfl q I;simp only[List.getElem_reverse];have e:(b :: t).length-1-((b :: t).length-1)=0:=by omega
   simpa [e] using this
def ng (p:Pt):Pt:=(-p.1,-p.2)
theorem Ziz (p:Pt):ng (ng p)=p:=by simp[ng]
theorem Zlp (a b c:Pt):sd (ng a) (ng b) (ng c)=sd a b c:=by unfold sd ng;grind
theorem Zlq (a b:Pt):plt (ng a) (ng b)↔plt b a:=by unfold plt ng;simp only;omega
theorem Zlr (a b:Pt):ple (ng a) (ng b)↔ple b a:=by
 unfold ple;rw[Zlq];constructor
 ·rintro (h|h)
  ·exact .inl h
  ·right;rw[<-Ziz b,<-Ziz a,h]
 ·rintro (h|h)
  ·exact .inl h
  ·right;rw[h]
theorem Zvi (n:Pt):∀ e:List Pt,Xt (ng n) (e.map ng)=(Xt n e).map ng:=by
 intro e;induction e with
 | nil=>rfl
 | cons b t ih=>
  cases t with
  | nil=>rfl
  | cons a t=>
   simp only[List.map_cons,Xt,Zlp];split
   ·exact ih
   ·rfl
theorem Zvj (ps:List Pt):Zdh (ps.map ng)=(Zdh ps).map ng:=by
 unfold Zdh;have D:∀ (ps e:List Pt),(ps.map ng).foldl (fun e n=>n :: Xt n e) (e.map ng)=(ps.foldl (fun e n=>n :: Xt n e) e).map ng:=by
  intro ps;induction ps with
  | nil=>intro e;rfl
  | cons p ps ih=>
   intro e;simp only[List.map_cons,List.foldl_cons,Zvi];exact ih (p :: Xt p e)
 exact D ps []
structure Back (S F:List Pt):Prop where
 edge:∀ i (h:i+1<F.length),(∀ q∈S,0<sd (F[i]'(by omega)) (F[i+1]'h) q\/(sd (F[i]'(by omega)) (F[i+1]'h) q=0/\ple q (F[i]'(by omega))/\ple (F[i+1]'h) q))/\plt (F[i+1]'h) (F[i]'(by omega))
 turn:∀ i (h:i+2<F.length),0<sd (F[i]'(by omega)) (F[i+1]'(by omega)) (F[i+2]'h)
 first:∀ (h:0<F.length),∀ q∈S,ple q (F[0]'h)
 last:∀ (h:F.length-1<F.length),∀ q∈S,ple (F[F.length-1]'h) q
 ne:S≠ []->F≠ []
 sub:∀ p∈F,p∈S
theorem Zvk {S F:List Pt}(W:Way (S.map ng) (F.map ng)):Back S F:=by
 refine⟨fun i h=>⟨fun q D=>?_,?_⟩,fun i h=>?_,fun h q D=>?_,fun h q D=>?_,fun h e=>W.ne (by simpa using h) (by simp[e]),fun p J=>?_⟩
 ·have:=(W.edge i (by simpa using h)).1 (ng q) (List.mem_map_of_mem D);unfold Lf at this;simpa only[List.getElem_map,Zlp,Zlr] using this
 ·have:=(W.edge i (by simpa using h)).2;simpa only[List.getElem_map,Zlq] using this
 ·have:=W.turn i (by simpa using h);simpa only[List.getElem_map,Zlp] using this
 ·have:=W.first (by simpa using h) (ng q) (List.mem_map_of_mem D)
  simpa only[List.getElem_map,Zlr] using this
 ·have:=W.last (by simpa using h) (ng q) (List.mem_map_of_mem D);simpa only[List.getElem_map,List.length_map,Zlr] using this
 ·have:=W.sub (ng p) (List.mem_map_of_mem J);obtain⟨r,I,e⟩:=List.mem_map.1 this;rw[<-Ziz p,<-e,Ziz];exact I
def Zax (ps:List Pt):List Pt:=(Zdh ps).reverse
def Zbj (ps:List Pt):List Pt:=(Zdh ps.reverse).reverse
theorem Zvl {ps:List Pt}(h:Zb3 ps):Way ps (Zax ps):=Zpi (Zpa ps h)
theorem Zvm {ps:List Pt}(h:Zb3 ps):Back ps (Zbj ps):=by
 apply Zvk;have I:Zb3 (ps.reverse.map ng):=by
  unfold Zb3 at *
  rw[List.pairwise_map,List.pairwise_reverse];exact h.imp fun O=>(Zlq _ _).2 O
 have W:=Zpi (Zpa _ I);rw[Zvj] at W;have e:(Zbj ps).map ng=(List.map ng (Zdh ps.reverse)).reverse:=by unfold Zbj;rw[List.map_reverse]
 rw[e];refine⟨fun i h=>⟨fun q D=>(W.edge i h).1 q (by simpa using D),(W.edge i h).2⟩,W.turn,fun h q D=>W.first h q (by simpa using D),fun h q D=>W.last h q (by simpa using D),fun h=>W.ne (by simpa using h),fun p J=>by simpa using W.sub p J⟩
def Zi0 (ps:List Pt):List Pt:=if ps.length<2 then ps else (Zax ps).dropLast ++ (Zbj ps).dropLast
theorem Zdj (a b c:Pt):sd b c a=sd a b c:=by unfold sd;grind
theorem Zls (a b c:Pt):sd b a c= - sd a b c:=by unfold sd;grind
structure Two (S Lw U:List Pt)(m k:Nat):Prop where
 way:Way S Lw
 back:Back S U
 lm:Lw.length=m+1
 lk:U.length=k+1
 m1:1<=m
 k1:1<=k
 top:Lw[m]? =U[0]?
 bot:Lw[0]? =U[k]?
theorem Zpj {ps:List Pt}(h:Zb3 ps)(h2:2<=ps.length):∃ m k,Two ps (Zax ps) (Zbj ps) m k:=by
 have W:=Zvl h;have B:=Zvm h;have ac:ps≠ []:=by intro e;subst e;simp at h2
 have D:0<(Zax ps).length:=List.length_pos_iff.2 (W.ne ac);have J:0<(Zbj ps).length:=List.length_pos_iff.2 (B.ne ac);have aa:plt ps[0] ps[1]:=List.pairwise_iff_getElem.1 h 0 1 (by omega) (by omega) (by omega);have O:=W.first D;have I:=W.last (by omega);have max2:=B.first J;have min2:=B.last (by omega)
 have ab:(Zax ps)[(Zax ps).length-1]'(by omega)=(Zbj ps)[0]'J:=Zek (max2 _ (W.sub _ (List.getElem_mem _))) (I _ (B.sub _ (List.getElem_mem _)));have Y:(Zax ps)[0]'D=(Zbj ps)[(Zbj ps).length-1]'(by omega):=Zek (O _ (B.sub _ (List.getElem_mem _))) (min2 _ (W.sub _ (List.getElem_mem _)));have ae:(Zax ps)[0]'D≠(Zax ps)[(Zax ps).length-1]'(by omega):=by
  intro e;have Z:=O _ (List.getElem_mem (n:=1) (l:=ps) (by omega));have a2:=I _ (List.getElem_mem (n:=0) (l:=ps) (by omega));have b1:=I _ (List.getElem_mem (n:=1) (l:=ps) (by omega));have b2:=O _ (List.getElem_mem (n:=0) (l:=ps) (by omega));rw[e] at Z b2;have e1:=Zek Z b1;have e2:=Zek b2 a2;rw[<-e1,<-e2] at aa;exact Xs _ aa
 have lm:2<=(Zax ps).length:=by
  rcases Nat.lt_or_ge 1 (Zax ps).length with k|k
  ·exact k
  ·exfalso;apply ae;congr 1;omega
 have lk:2<=(Zbj ps).length:=by
  rcases Nat.lt_or_ge 1 (Zbj ps).length with k|k
  ·exact k
  ·exfalso;apply ae;rw[Y,ab];congr 1;omega
 refine⟨(Zax ps).length-1,(Zbj ps).length-1,W,B,by omega,by omega,by omega,by omega,?_,?_⟩
 ·rw[List.getElem?_eq_getElem (by omega),List.getElem?_eq_getElem J,ab]
 ·rw[List.getElem?_eq_getElem D,List.getElem?_eq_getElem (by omega),Y]
section
variable {S Lw U:List Pt} {m k:Nat}
def cyc (Lw U:List Pt):List Pt:=Lw.dropLast ++ U.dropLast
def at' (H:List Pt)(i:Nat):Pt:=H.getD i (0,0)
theorem Two.len (T:Two S Lw U m k):(cyc Lw U).length=m+k:=by simp[cyc,T.lm,T.lk]
theorem Two.atL (T:Two S Lw U m k){i:Nat}(h:i<m):(cyc Lw U)[i]? =Lw[i]? :=by
 have:=T.lm;unfold cyc;rw[List.getElem?_append_left (by simp;omega),List.getElem?_dropLast,if_pos (by omega)]
theorem Two.atU (T:Two S Lw U m k){i:Nat}(h:m<=i)(e:i<m+k):(cyc Lw U)[i]? =U[i-m]? :=by
 have:=T.lm;have:=T.lk;unfold cyc;rw[List.getElem?_append_right (by simp;omega)];simp only[List.length_dropLast,T.lm,Nat.add_sub_cancel];rw[List.getElem?_dropLast,if_pos (by omega)]
theorem Two.next (T:Two S Lw U m k){i:Nat}(h:i<m+k) :
  (i<m/\(cyc Lw U)[i]? =Lw[i]? /\(cyc Lw U)[(i+1) % (m+k)]? =Lw[i+1]?)\/(m<=i/\(cyc Lw U)[i]? =U[i-m]? /\(cyc Lw U)[(i+1) % (m+k)]? =U[i-m+1]?):=by
 have J:=T.m1;have I:=T.k1;rcases Nat.lt_or_ge i m with hi|hi
 ·refine .inl ⟨hi,T.atL hi,?_⟩;rw[Nat.mod_eq_of_lt (by omega)];rcases Nat.lt_or_ge (i+1) m with D|D
  ·exact T.atL D
  ·have e:i+1=m:=by omega
   rw[e,T.atU (Nat.le_refl _) (by omega),Nat.sub_self,T.top]
 ·refine .inr ⟨hi,T.atU hi h,?_⟩;rcases Nat.lt_or_ge (i+1) (m+k) with D|D
  ·rw[Nat.mod_eq_of_lt D,T.atU (by omega) D];congr 1;omega
  ·have e:i+1=m+k:=by omega
   rw[e,Nat.mod_self,T.atL (by omega),T.bot];congr 1;omega
theorem Zci {l:List Pt}{i:Nat}{p:Pt}(h:l[i]? =some p):at' l i=p:=by simp[at',h]
theorem Two.edge (T:Two S Lw U m k){i:Nat}(h:i<m+k){q:Pt}(I:q∈S) :
  0 < sd (at' (cyc Lw U) i) (at' (cyc Lw U) ((i + 1) % (m + k))) q ∨ (sd (at' (cyc Lw U) i) (at' (cyc Lw U) ((i + 1) % (m + k))) q = 0 ∧
    ((ple (at' (cyc Lw U) i) q ∧ ple q (at' (cyc Lw U) ((i + 1) % (m + k)))) ∨ (ple (at' (cyc Lw U) ((i + 1) % (m + k))) q ∧ ple q (at' (cyc Lw U) i)))) := by
 have J:=T.lm;have O:=T.lk;rcases T.next h with ⟨hi,e,D⟩|⟨hi,e,D⟩
 ·replace e:=e.trans (List.getElem?_eq_getElem (by omega:i<Lw.length));replace D:=D.trans (List.getElem?_eq_getElem (by omega:i+1<Lw.length));rw[Zci e,Zci D];rcases (T.way.edge i (by omega)).1 q I with c|⟨c0,c1,c2⟩
  ·exact .inl c
  ·exact .inr ⟨c0,.inl ⟨c1,c2⟩⟩
 ·replace e:=e.trans (List.getElem?_eq_getElem (by omega:i-m<U.length));replace D:=D.trans (List.getElem?_eq_getElem (by omega:i-m+1<U.length));rw[Zci e,Zci D];rcases (T.back.edge (i-m) (by omega)).1 q I with c|⟨c0,c1,c2⟩
  ·exact .inl c
  ·exact .inr ⟨c0,.inr ⟨c2,c1⟩⟩
theorem Two.flat (T:Two S Lw U m k)(A M:Pt)(h:∀ q∈S,sd A M q=0)(hA:A∈S)(hM:M∈S)(hne:plt A M\/plt M A):m=1/\k=1:=by
 have m1:=T.m1;have k1:=T.k1;have lm:=T.lm;have lk:=T.lk;have aa:∀ p∈S,∀ q∈S,∀ r∈S,sd p q r=0:=by
  intro p hp q hq r hr;have e1:=h p hp;have e2:=h q hq;have e3:=h r hr;unfold sd at *
  have ab:∀ D e:Int,(D≠0\/e≠0)->∀ J Y O I:Int,D*Y-e*J=0->D*I-e*O=0->J*I-Y*O=0:=by
   intro D e Z J Y O I a b;rcases Z with Z|Z
   ·have:D*(J*I-Y*O)=J*(D*I-e*O)-O*(D*Y-e*J):=by grind
    rw[a,b,Int.mul_zero,Int.mul_zero,Int.sub_zero] at this;rcases Int.mul_eq_zero.1 this with h|h
    ·exact absurd h Z
    ·exact h
   ·have:e*(J*I-Y*O)=Y*(D*I-e*O)-I*(D*Y-e*J):=by grind
    rw[a,b,Int.mul_zero,Int.mul_zero,Int.sub_zero] at this;rcases Int.mul_eq_zero.1 this with h|h
    ·exact absurd h Z
    ·exact h
  refine ab (M.1-A.1) (M.2-A.2) (by rcases hne with k|k <;> unfold plt at k <;> omega) (q.1-p.1) (q.2-p.2) (r.1-p.1) (r.2-p.2) ?_ ?_
  ·have:(M.1-A.1)*(q.2-p.2)-(M.2-A.2)*(q.1-p.1)=((M.1-A.1)*(q.2-A.2)-(M.2-A.2)*(q.1-A.1))-((M.1-A.1)*(p.2-A.2)-(M.2-A.2)*(p.1-A.1)):=by grind
   omega
  ·have:(M.1-A.1)*(r.2-p.2)-(M.2-A.2)*(r.1-p.1)=((M.1-A.1)*(r.2-A.2)-(M.2-A.2)*(r.1-A.1))-((M.1-A.1)*(p.2-A.2)-(M.2-A.2)*(p.1-A.1)):=by grind
   omega
 constructor
 ·rcases Nat.lt_or_ge 1 m with c|c
  ·exfalso;have t:=T.way.turn 0 (by omega);have:=aa _ (T.way.sub _ (List.getElem_mem (n:=0) (by omega))) _ (T.way.sub _ (List.getElem_mem (n:=0+1) (by omega))) _ (T.way.sub _ (List.getElem_mem (n:=0+2) (by omega)));omega
  ·omega
 ·rcases Nat.lt_or_ge 1 k with c|c
  ·exfalso;have t:=T.back.turn 0 (by omega);have:=aa _ (T.back.sub _ (List.getElem_mem (n:=0) (by omega))) _ (T.back.sub _ (List.getElem_mem (n:=0+1) (by omega))) _ (T.back.sub _ (List.getElem_mem (n:=0+2) (by omega)));omega
  ·omega
theorem Two.joinTop (T:Two S Lw U m k)(h2:2<m+k)(O:m<Lw.length)(hu:1<U.length):0<sd (Lw[m-1]'(by omega)) (Lw[m]'O) (U[1]'hu):=by
 have m1:=T.m1;have k1:=T.k1;have lm:=T.lm;have lk:=T.lk;have D:=T.top;rw[List.getElem?_eq_getElem (by omega),List.getElem?_eq_getElem (by omega),Option.some.injEq] at D;have J:=T.way.sub _ (List.getElem_mem (l:=Lw) (n:=m-1) (by omega));have hM:=T.way.sub _ (List.getElem_mem (l:=Lw) (n:=m) (by omega));have Z:=T.back.sub _ (List.getElem_mem (l:=U) (n:=1) (by omega));have E:=T.way.edge (m-1) (by omega);have e:m-1+1=m:=by omega
 simp only[e] at E;have F:=T.back.edge 0 (by omega);simp only[Nat.zero_add] at F;rw[<-D] at F;generalize Lw[m-1]=A at *;generalize Lw[m]=M at *;generalize U[1]=B at *
 rcases E.1 B Z with c|⟨c0,c1,c2⟩
 ·exact c
 ·exfalso;rcases F.1 A J with d|⟨d0,d1,d2⟩
  ·rw[Zdj] at d;omega
  ·have Y:=Zek c1 d2;subst Y;have all:∀ q∈S,sd A M q=0:=fun q I=>by
    have a:=(E.1 q I).nonneg;have b:=F.1 q I;rw[Zls] at b;rcases b with b|b <;> omega
   have:=T.flat A M all J hM (.inl E.2);omega
theorem Two.joinBot (T:Two S Lw U m k)(h2:2<m+k)(Z:k<U.length)(O:1<Lw.length):0<sd (U[k-1]'(by omega)) (U[k]'Z) (Lw[1]'O):=by
 have m1:=T.m1;have k1:=T.k1;have lm:=T.lm;have lk:=T.lk;have D:=T.bot;rw[List.getElem?_eq_getElem (by omega),List.getElem?_eq_getElem (by omega),Option.some.injEq] at D;have hA:=T.back.sub _ (List.getElem_mem (l:=U) (n:=k-1) (by omega));have hM:=T.back.sub _ (List.getElem_mem (l:=U) (n:=k) (by omega));have I:=T.way.sub _ (List.getElem_mem (l:=Lw) (n:=1) (by omega));have E:=T.back.edge (k-1) (by omega);have e:k-1+1=k:=by omega
 simp only[e] at E;have F:=T.way.edge 0 (by omega);simp only[Nat.zero_add] at F;rw[D] at F;generalize U[k-1]=A at *;generalize U[k]=M at *;generalize Lw[1]=B at *
 rcases E.1 B I with c|⟨c0,c1,c2⟩
 ·exact c
 ·exfalso;rcases F.1 A hA with d|⟨d0,d1,d2⟩
  ·rw[Zdj] at d;omega
  ·have Y:=Zek c1 d2;subst Y;have all:∀ q∈S,sd M B q=0:=fun q J=>by
    have a:=(F.1 q J).nonneg;have b:=E.1 q J;rw[Zls] at b;rcases b with b|b <;> omega
   have:=T.flat M B all hM I (.inl F.2);omega
theorem Two.turn (T:Two S Lw U m k)(h2:2<m+k){i:Nat}(h:i<m+k) :
  0<sd (at' (cyc Lw U) i) (at' (cyc Lw U) ((i+1) % (m+k))) (at' (cyc Lw U) ((i+2) % (m+k))):=by
 have m1:=T.m1;have k1:=T.k1;have lm:=T.lm;have lk:=T.lk;have hj:(i+1) % (m+k)<m+k:=Nat.mod_lt _ (by omega);have e3:(i+2) % (m+k)=((i+1) % (m+k)+1) % (m+k):=by rw[Nat.mod_add_mod]
 have O:=T.next hj;rw[<-e3] at O;rcases T.next h with ⟨hi,I,D⟩|⟨hi,I,D⟩
 ·replace I:=I.trans (List.getElem?_eq_getElem (by omega:i<Lw.length));replace D:=D.trans (List.getElem?_eq_getElem (by omega:i+1<Lw.length));rw[Zci I,Zci D];have Z:(i+1) % (m+k)=i+1:=Nat.mod_eq_of_lt (by omega);rw[Z] at O;rcases O with ⟨Y,_,e⟩|⟨Y,_,e⟩
  ·replace e:=e.trans (List.getElem?_eq_getElem (by omega:i+1+1<Lw.length));rw[Zci e];exact T.way.turn i (by omega)
  ·have em:i+1=m:=by omega
   have f3:=e.trans (List.getElem?_eq_getElem (by omega:i+1-m+1<U.length));rw[Zci f3];have J:=T.joinTop h2 (by omega) (by omega);have a1:m-1=i:=by omega
   have a2:i+1-m+1=1:=by omega
   simp only[em,Nat.sub_self,Nat.zero_add,a1] at J ⊢;exact J
 ·replace I:=I.trans (List.getElem?_eq_getElem (by omega:i-m<U.length));replace D:=D.trans (List.getElem?_eq_getElem (by omega:i-m+1<U.length));rw[Zci I,Zci D];rcases Nat.lt_or_ge (i+1) (m+k) with hj'|hj'
  ·have Z:(i+1) % (m+k)=i+1:=Nat.mod_eq_of_lt hj';rw[Z] at O;rcases O with ⟨Y,_,e⟩|⟨Y,_,e⟩
   ·omega
   ·replace e:=e.trans (List.getElem?_eq_getElem (by omega:i+1-m+1<U.length));rw[Zci e];have J:=T.back.turn (i-m) (by omega);have a2:i+1-m+1=i-m+2:=by omega
    simp only[a2];exact J
  ·have ei:i=m+k-1:=by omega
   have Z:(i+1) % (m+k)=0:=by rw[show i+1=m+k by omega,Nat.mod_self]
   rw[Z] at O;rcases O with ⟨Y,_,e⟩|⟨Y,_,e⟩
   ·replace e:=e.trans (List.getElem?_eq_getElem (by omega:0+1<Lw.length));rw[Zci e];have J:=T.joinBot h2 (by omega) (by omega);have a1:i-m=k-1:=by omega
    have a2:k-1+1=k:=by omega
    simp only[a1,a2,Nat.zero_add];exact J
   ·omega
end
theorem Zpk {D ny Y cy I Z:Int}(hn:fw D ny)(O:fw Y cy)(J:fw I Z)(h1:0<D*cy-ny*Y)(h2:0<=Y*Z-cy*I):0<D*Z-ny*I:=by
 have hnx:=Zhc hn;have hqx:=Zhc J;rcases O with O|⟨rfl,O⟩
 ·have e:Y*(D*Z-ny*I)=I*(D*cy-ny*Y)+D*(Y*Z-cy*I):=by grind
  have hn':0<D:=by
   rcases hn with hn|⟨rfl,hn⟩
   ·exact hn
   ·have:=Int.mul_pos hn O;omega
  rcases J with J|⟨rfl,J⟩
  ·have:=Int.mul_pos J h1;have:=Int.mul_nonneg hnx h2;exact Ziv O (by omega)
  ·have:=Int.mul_pos hn' J;omega
 ·have hn':0<D:=Ziv O (by rw[Int.mul_comm];omega);have hq0:I=0:=by
   rcases Zdg 0 I with k|k
   ·have:=Int.mul_pos O k;omega
   ·omega
  subst hq0;have hqy:0<Z:=by unfold fw at J;omega
  have:=Int.mul_pos hn' hqy;omega
theorem Zvn {A x B C:Pt}(J:plt A x)(e:plt x B)(Z:plt x C)(t:0<sd A x B)(D:0<=sd x B C)(e2:0<=sd A x C)(e3:0<=sd C x A):False:=by
 have I:=X6 J;have O:=X6 e;have Y:=X6 Z;have c0:sd C x A= - sd A x C:=by unfold sd;grind
 have c1:sd A x B=(x.1-A.1)*(B.2-x.2)-(x.2-A.2)*(B.1-x.1):=by unfold sd;grind
 have c2:sd A x C=(x.1-A.1)*(C.2-x.2)-(x.2-A.2)*(C.1-x.1):=by unfold sd;grind
 have:=Zpk I O Y (by omega) D;omega
theorem Way.mono {S F:List Pt}(W:Way S F):∀ (d i:Nat) (h:i+d+1<F.length),plt (F[i]'(by omega)) (F[i+d+1]'h):=by
 intro d;induction d with
 | zero=>intro i h;exact (W.edge i (by omega)).2
 | succ d ih=>intro i h;exact Zai (ih i (by omega)) (W.edge (i+d+1) (by omega)).2
theorem Back.mono {S F:List Pt}(W:Back S F):∀ (d i:Nat) (h:i+d+1<F.length),plt (F[i+d+1]'h) (F[i]'(by omega)):=by
 intro d;induction d with
 | zero=>intro i h;exact (W.edge i (by omega)).2
 | succ d ih=>intro i h;exact Zai (W.edge (i+d+1) (by omega)).2 (ih i (by omega))
theorem Way.lt {S F:List Pt}(W:Way S F){i j:Nat}(D:i<j)(h:j<F.length):plt (F[i]'(by omega)) (F[j]'h):=by
 have:=W.mono (j-i-1) i (by omega);have e:i+(j-i-1)+1=j:=by omega
 simp only[e] at this;exact this
theorem Back.lt {S F:List Pt}(W:Back S F){i j:Nat}(D:i<j)(h:j<F.length):plt (F[j]'h) (F[i]'(by omega)):=by
 have:=W.mono (j-i-1) i (by omega);have e:i+(j-i-1)+1=j:=by omega
 simp only[e] at this;exact this
section
variable {S Lw U:List Pt} {m k:Nat}
theorem Two.inj (T:Two S Lw U m k){i j:Nat}(hij:i<j)(hj:j<m+k):(cyc Lw U)[i]? ≠(cyc Lw U)[j]? :=by
 have m1:=T.m1;have k1:=T.k1;have lm:=T.lm;have lk:=T.lk;intro e;rcases Nat.lt_or_ge j m with h|h
 ·rw[T.atL h,T.atL (by omega),List.getElem?_eq_getElem (by omega),List.getElem?_eq_getElem (by omega),Option.some.injEq] at e;have:=T.way.lt hij (by omega:j<Lw.length);rw[e] at this;exact Xs _ this
 ·rcases Nat.lt_or_ge i m with D|D
  ·rw[T.atU h hj,T.atL D,List.getElem?_eq_getElem (by omega),List.getElem?_eq_getElem (by omega),Option.some.injEq] at e;have Z:=T.top;have eB:=T.bot;rw[List.getElem?_eq_getElem (by omega),List.getElem?_eq_getElem (by omega),Option.some.injEq] at Z eB;rcases Nat.eq_zero_or_pos i with hi|hi
   ·subst hi;have:=T.back.lt (by omega:j-m<k) (by omega);rw[<-e,<-eB] at this;exact Xs _ this
   rcases Nat.eq_zero_or_pos (j-m) with Y|Y
   ·have:=T.way.lt D (by omega:m<Lw.length);simp only[Y] at e;rw[e,<-Z] at this;exact Xs _ this
   have O:=T.way.edge (i-1) (by omega);have J:=T.way.edge i (by omega);have I:=T.back.edge (j-m-1) (by omega);have t:=T.way.turn (i-1) (by omega);have a1:i-1+1=i:=by omega
   have a2:i-1+2=i+1:=by omega
   have a3:j-m-1+1=j-m:=by omega
   simp only[a1,a2,a3] at O J I t;have sA:=T.way.sub _ (List.getElem_mem (l:=Lw) (n:=i-1) (by omega));have sC:=T.back.sub _ (List.getElem_mem (l:=U) (n:=j-m-1) (by omega));rw[<-e] at I;generalize Lw[i-1]=A at *;generalize Lw[i]=x at *;generalize Lw[i+1]=B at *;generalize U[j-m-1]=C at *
   have g3:0<=sd C x A:=by rcases I.1 A sA with b|b <;> omega
   exact Zvn O.2 J.2 I.2 t (J.1 C sC).nonneg (O.1 C sC).nonneg g3
  ·rw[T.atU h hj,T.atU D (by omega),List.getElem?_eq_getElem (by omega),List.getElem?_eq_getElem (by omega),Option.some.injEq] at e;have:=T.back.lt (by omega:i-m<j-m) (by omega);rw[e] at this;exact Xs _ this
theorem Two.sub (T:Two S Lw U m k):∀ p∈cyc Lw U,p∈S:=by
 intro p e;rcases List.mem_append.1 e with e|e
 ·exact T.way.sub p (List.dropLast_subset _ e)
 ·exact T.back.sub p (List.dropLast_subset _ e)
end
theorem Zvo:∀ (H S:List Pt),H.Nodup->(∀ p∈H,p∈S)->H.length<=S.length:=by
 intro H;induction H with
 | nil=>intros;exact Nat.zero_le _
 | cons p H ih=>
  intro S Y D;have O:=List.nodup_cons.1 Y;have J:=D p (by simp);have:=ih (S.erase p) O.2 fun q I=>by
   have:q≠p:=fun e=>O.1 (e ▸ I)
   exact (List.mem_erase_of_ne this).2 (D q (List.mem_cons_of_mem _ I))
  rw[List.length_erase_of_mem J] at this;have:=List.length_pos_of_mem J;simp only[List.length_cons];omega
def dt (a b q:Pt):Int:=(q.1-a.1)*(q.1-b.1)+(q.2-a.2)*(q.2-b.2)
theorem Zvp {c x:Int}(e:0<c)(h:c*c*x<=0):x<=0:=by
 rcases Zdg 0 x with k|k
 ·have:=Int.mul_pos (Int.mul_pos e e) k;omega
 ·exact k
theorem Zpl {a b q:Int}(I:a<=q)(D:q<=b):(q-a)*(q-b)<=0:=by
 have:=Int.mul_nonneg (show 0<=q-a by omega) (show 0<=b-q by omega);have e:(q-a)*(q-b)= - ((q-a)*(b-q)):=by grind
 omega
theorem Zlt {a b q:Pt}(J:sd a b q=0)(I:ple a q)(D:ple q b):dt a b q<=0:=by
 have aa:a.1<=q.1:=by
  rcases I with h|h
  ·unfold plt at h;omega
  ·rw[h];exact Int.le_refl _
 have ab:q.1<=b.1:=by
  rcases D with h|h
  ·unfold plt at h;omega
  ·rw[h];exact Int.le_refl _
 have m1:=Zpl aa ab;unfold dt;rcases Zdg a.1 b.1 with hlt|hge
 ·have e:(b.1-a.1)*(b.1-a.1)*((q.2-a.2)*(q.2-b.2))=(b.2-a.2)*(b.2-a.2)*((q.1-a.1)*(q.1-b.1)):=by
   have Z:(b.1-a.1)*(q.2-a.2)=(b.2-a.2)*(q.1-a.1):=by unfold sd at J;omega
   have Y:(b.1-a.1)*(q.2-b.2)=(b.2-a.2)*(q.1-b.1):=by
    have:(b.1-a.1)*(q.2-b.2)-(b.2-a.2)*(q.1-b.1)=(b.1-a.1)*(q.2-a.2)-(b.2-a.2)*(q.1-a.1):=by grind
    omega
   have:(b.1-a.1)*(b.1-a.1)*((q.2-a.2)*(q.2-b.2))=((b.1-a.1)*(q.2-a.2))*((b.1-a.1)*(q.2-b.2)):=by grind
   rw[this,Z,Y];grind
  have n:(b.2-a.2)*(b.2-a.2)*((q.1-a.1)*(q.1-b.1))<=0:=by
   have s:0<=(b.2-a.2)*(b.2-a.2):=by
    rcases Zdg (b.2-a.2) 0 with k|k
    ·have:=Int.mul_pos (show 0 < -(b.2-a.2) by omega) (show 0 < -(b.2-a.2) by omega);rw[Int.neg_mul_neg] at this;omega
    ·exact Int.mul_nonneg k k
   have:=Int.mul_nonneg s (show 0<= -((q.1-a.1)*(q.1-b.1)) by omega);rw[Int.mul_neg] at this;omega
  have:=Zvp (show 0<b.1-a.1 by omega) (e ▸ n);omega
 ·have e1:q.1=a.1:=by omega
  have e2:q.1=b.1:=by omega
  have O:a.2<=q.2:=by
   rcases I with h|h
   ·unfold plt at h;omega
   ·rw[h];exact Int.le_refl _
  have ac:q.2<=b.2:=by
   rcases D with h|h
   ·unfold plt at h;omega
   ·rw[h];exact Int.le_refl _
  have:=Zpl O ac;omega
theorem Zi1 (a b q:Pt):dt a b q=dt b a q:=by unfold dt;grind
structure HullOk (S H:List Pt):Prop where
 edge:1<H.length->∀ i,i<H.length->∀ q∈S,0<=sd (at' H i) (at' H ((i+1) % H.length)) q/\(sd (at' H i) (at' H ((i+1) % H.length)) q=0->dt (at' H i) (at' H ((i+1) % H.length)) q<=0)
 turn:2<H.length->∀ i,i<H.length->0<sd (at' H i) (at' H ((i+1) % H.length)) (at' H ((i+2) % H.length))
 first:∀ q∈S,ple (at' H 0) q
 sub:∀ p∈H,p∈S
 le:H.length<=S.length
 two:1<S.length->1<H.length
 one:S≠ []->H≠ []
 nodup:H.Nodup
theorem Zpm {ps:List Pt}(h:Zb3 ps):HullOk ps (Zi0 ps):=by
 unfold Zi0;by_cases I:ps.length<2
 ·rw[if_pos I];refine⟨fun k=>by omega,fun k=>by omega,fun q D=>?_,fun p Z=>Z,Nat.le_refl _,fun k=>k,fun k=>k,?_⟩
  ·match ps,I with
   | [p],_=>simp at D;subst D;exact Zdf _
  ·match ps,I with
   | [],_=>exact List.nodup_nil
   | [p],_=>simp
 ·rw[if_neg I];obtain⟨m,k,T⟩:=Zpj h (by omega);have m1:=T.m1;have k1:=T.k1;have lm:=T.lm;have lk:=T.lk;have L:=T.len;change HullOk ps (cyc (Zax ps) (Zbj ps));have O:(cyc (Zax ps) (Zbj ps)).Nodup:=by
   refine List.pairwise_iff_getElem.2 fun i j hi hj Y e=>T.inj Y (by omega) ?_
   rw[List.getElem?_eq_getElem hi,List.getElem?_eq_getElem hj,e]
  refine⟨fun _ i hi q D=>?_,fun J i hi=>?_,fun q D=>?_,T.sub,Zvo _ _ O T.sub,fun _=>by omega,fun _ e=>by rw[e] at L;simp at L;omega,O⟩
  ·rw[L] at hi ⊢;rcases T.edge hi D with c|⟨c0,c|c⟩
   ·exact⟨by omega,fun e=>by omega⟩
   ·exact⟨by omega,fun e=>Zlt c0 c.1 c.2⟩
   ·refine⟨by omega,fun e=>?_⟩;rw[Zi1];exact Zlt (by rw[Zls];omega) c.1 c.2
  ·rw[L] at hi J ⊢;exact T.turn J hi
  ·have e:=T.atL (i:=0) (by omega);replace e:=e.trans (List.getElem?_eq_getElem (by omega:0<(Zax ps).length));rw[Zci e];exact T.way.first (by omega) q D
end Go.Proofs.YtgpapegpdfonpaaGreatDoor
namespace Go.Proofs.YtgpapegpdfonpaaGreatDoor
open Go.RowKit Go.Proofs.Tryz
attribute [local go_sem ↓] Go.wp_at_zero Go.wp_at_succ
def Zcj (l:List Pt)(is:List Nat):List Nat:=(Yk l is).reverse
def upN (l:List Pt)(is:List Nat):List Nat:=(Yk l is.reverse).reverse
def Xg (l:List Pt)(is:List Nat):List Nat:=if is.length<2 then is else (Zcj l is).dropLast ++ (upN l is).dropLast
theorem Zpn (l:List Pt)(is:List Nat):(Zcj l is).map (Za l)=Zax (is.map (Za l)):=by unfold Zcj Zax;rw[List.map_reverse,Zpg]
theorem Zpo (l:List Pt)(is:List Nat):(upN l is).map (Za l)=Zbj (is.map (Za l)):=by unfold upN Zbj;rw[List.map_reverse,Zpg,List.map_reverse]
theorem Zpp (l:List Pt)(is:List Nat):(Xg l is).map (Za l)=Zi0 (is.map (Za l)):=by
 unfold Xg Zi0;simp only[List.length_map];split
 ·rfl
 ·rw[List.map_append,<-Zpn,<-Zpo,List.map_dropLast,List.map_dropLast]
theorem Xc.below {N:Nat}{w w':World}{g:Nat}{is:List Nat}(h:Xc w g 0 is)(I:Below N w w')(D:g<N):Xc w' g 0 is:=fun j e=>
 (I.cell (p:=⟨g,0+j,none⟩) D).trans (h j e)
theorem Zi2 {N:Nat}{w w':World}(h:Below N w.drew w'):Below N w w':=⟨h.os,h.tape,h.output,h.size,h.block⟩
theorem Ze7 {w:World}{a b n:Nat}{e:TypeId}{xs:List Value}{v:Value}(h:w.ownsRow a e 1 v n xs)(hb:b<=a):w.ownsRow b e 1 v n xs:=by
 obtain⟨Y,D⟩:=h;refine⟨Y,?_⟩;rcases D with D|⟨J,I,Z,O,hg,r⟩
 ·exact .inl D
 ·exact .inr ⟨J,I,Z,O,by omega,r⟩
theorem Zvq {w:World}{D g cap m:Nat}{e:TypeId}{is:List Nat}(h:w.ownsRow D e 1 (.slice (some ⟨g,0,none⟩) (m+1) cap) (m+1) (is.map toV))(I:is.length=m+1) :
  w.ownsRow D e 1 (.slice (some ⟨g,0,none⟩) m cap) m (is.dropLast.map toV):=by
 have J:is≠ []:=by intro e;subst e;simp at I
 have e:is.map toV=is.dropLast.map toV ++ [toV (is.getLast J)]:=by
  rw[<-List.map_singleton,<-List.map_append,List.dropLast_concat_getLast]
 rw[e] at h;exact ownsRow_pop (by simp[I]) h
theorem Zpq (g Y:Nat)(is:List Nat)(w:World)(hlen:is.length<=60)(his:Xc w g 0 is)(h1:1<=is.length) :
  Calls prog 119 #[.slice (some ⟨g,0,none⟩) is.length Y] w fun e w'=>
   ∃ I J,e= .returned (.slice (some ⟨I,0,none⟩) is.length J)/\w'.ownsRow w.heap.size 3 1 (.slice (some ⟨I,0,none⟩) is.length J) is.length (is.map toV)/\Below w.heap.size w w':=by
 have h := Any.slices_Clone_int layClone g 0 is.length Y (is.map fun i : Nat => (i : Int)) w (by simp) (by omega) (fun j hj => by
   have O : j < is.length := by simpa using hj
   have := his j O
   rw [this]
   simp [O])
 change Calls prog 119 _ _ _ at h;refine h.mono ?_;rintro e w' ⟨Z,he,D,hne,hb⟩;have hxs:(List.take is.length (is.map fun i:Nat=>(i:Int))).map (Value.int .i64)=is.map toV:=by
  rw[List.take_of_length_le (by simp)];simp[toV]
 rw[hxs] at D;change w'.ownsRow w.heap.size 3 1 Z is.length (is.map toV) at D;rcases Zdi D with ⟨h0,_⟩|⟨I,J,hv⟩
 ·exact absurd h0 hne
 ·subst hv;exact⟨I,J,he,D,hb⟩
theorem Zvr (D cb base:Nat)(is:List Nat)(w:World)(hlen:is.length<=60)(J:w.ownsRow base 3 1 (.slice (some ⟨D,0,none⟩) is.length cb) is.length (is.map toV)) :
  Calls prog 120 #[.slice (some ⟨D,0,none⟩) is.length cb] w fun e w'=>
   e= .returned (.tuple #[])/\Below base w w'/\Xc w' D 0 is.reverse/\w'.heap.size=w.heap.size:=by
 obtain⟨hgb,hbase,hcl⟩:=Zf6 J;have hH:Sort.Holds (Value.int .i64) w D 0 (is.map fun i:Nat=>(i:Int)).toArray:=by
  intro j O;have I:j<is.length:=by simpa using O
  have hc:=Ziy J j (toV is[j]) (by simp[I]);refine⟨by rw[Nat.zero_add,hc];simp[toV,I],?_⟩;obtain⟨_,Y⟩:=J;rcases Y with ⟨Y,_⟩|⟨g',cap',cur,hv,hg,hh,r⟩
  ·cases Y
  ·cases hv;simp[World.frozen?,hh]
 have h:=Any.slices_Reverse_int layReverse D 0 cb (is.map fun i:Nat=>(i:Int)) w hH (by simp;omega);change Calls prog 120 _ _ _ at h;rw[List.length_map] at h;refine h.mono ?_;rintro e w' ⟨he,n,Z⟩;refine⟨he,?_,?_,?_⟩
 ·subst Z;refine⟨rfl,rfl,rfl,?_,fun k hk=>?_⟩
  ·rw[Sort.size_putRow];exact Nat.le_refl _
  ·unfold Sort.putRow Sort.mapBlock;simp only[Array.getElem?_modify];rw[if_neg (by omega)];rfl
 ·intro j O;have I:j<is.length:=by simpa using O
  rw[Z,Sort.cell?_putRow (Value.int .i64) _ D 0 _ _ (Sort.holds_ahead _ _ _ _ _ _ hH) (by simp) j (by simpa using I)];have:(is.map fun i:Nat=>(i:Int)).reverse.toArray[j]! =((is.reverse.getD j 0:Nat):Int):=by
   rw[<-List.map_reverse];simp[I]
  rw[this]
 ·rw[Z,Sort.size_putRow];rfl
theorem Zvs (B b aa cap g ocap:Nat) (l:List Pt) (is:List Nat) (w:World) (hl:l.length<=60) (hi:∀ i∈is,i<l.length) (hlen:is.length<=60) (A:AskAt w B b aa cap l) (hn:Zv l)
  (hg:g<w.heap.size) (his:Xc w g 0 is) (h2:2<=is.length) (hord:Zb3 (is.map (Za l))) :
  Calls prog 89 #[.slice (some ⟨g,0,none⟩) is.length ocap,Zaw B] w fun e w'=>
   ∃ v,e= .returned v/\w'.ownsRow w.heap.size 3 1 v (Xg l is).length ((Xg l is).map toV)/\Below w.heap.size w w':=by
 obtain⟨m,k,T⟩:=Zpj hord (by simpa using h2);have lm:(Yk l is).length=m+1:=by have:=T.lm;rw[<-Zpn] at this;simpa [Zcj] using this
 have lk:(Yk l is.reverse).length=k+1:=by have:=T.lk;rw[<-Zpo] at this;simpa [upN] using this
 have m1:=T.m1;have k1:=T.k1;have hcor:Xg l is=(Zcj l is).dropLast ++ (upN l is).dropLast:=by unfold Xg;rw[if_neg (by omega)]
 have mb:m+1<=60:=by have:=Zlm l is;omega
 have kb:k+1<=60:=by have:=Zlm l is.reverse;simp at this;omega
 obtain⟨i0,hi0,hz0,hz1,hz2⟩:=info_parts Zbi;clear T hord;have hlt2:¬ ((is.length:Int)<2):=by omega
 go_enter func89,ntmps89;go_wp2_with fail
 refine (Zpq g ocap is _ hlen (his.below (Zb _ _) hg) (by omega)).mono ?_;rintro e w1 ⟨Z,cb,rfl,ab,I⟩;obtain⟨hgb,hgb2,_⟩:=Zf6 ab;go_wp2_with (go_at_call 120;refine (Zvr Z cb _ is _ hlen ab).mono ?_;rintro e D ⟨rfl,hb2,hnb,hz2'⟩)
 have ac:Below (w.heap.size+1) (w.alloc (.cells #[.func (.func 34) #[] #[.pointer (some ⟨B,0,none⟩)],.func (.func 36) #[] #[.pointer (some ⟨B,0,none⟩)]] 60)) D:=by
  simp only[World.size_alloc] at I hb2;exact I.trans hb2
 have J:Below w.heap.size w D:=(Zb _ _).trans (ac.mono (by omega));have A2:AskAt D B b aa cap l:=A.below J (Nat.le_refl _);have his2:Xc D g 0 is:=his.below J hg;have q0:D.cell? ⟨w.heap.size,0,none⟩=some (.func (.func 34) #[] #[.pointer (some ⟨B,0,none⟩)]):=by
  rw[ac.cell (p:=⟨w.heap.size,0,none⟩) (by simp),World.cell?_alloc_at _ _ _ _ rfl];rfl
 have q1:D.cell? ⟨w.heap.size,1,none⟩=some (.func (.func 36) #[] #[.pointer (some ⟨B,0,none⟩)]):=by
  rw[ac.cell (p:=⟨w.heap.size,1,none⟩) (by simp),World.cell?_alloc_at _ _ _ _ rfl];rfl
 have y0:w.heap.size<D.heap.size:=by have:=ac.size;simp at this;omega
 have y1:g<D.heap.size:=by omega
 have y2:Z<D.heap.size:=by omega
 have hir:∀ i∈is.reverse,i<l.length:=fun i h=>hi i (by simpa using h)
 have hlr:is.reverse.length<=60:=by simpa using hlen
 have elr:is.reverse.length=is.length:=by simp
 have HC1:=fun W (A:AskAt W B b aa cap l) (hn':Xc W g 0 is) (hgW:g<W.heap.size)=>Zph B b aa cap g ocap l is W hl hi hlen A hn hgW hn'
 have HC2:=fun W (A:AskAt W B b aa cap l) (hn':Xc W Z 0 is.reverse) (hgW:Z<W.heap.size)=>Zph B b aa cap Z cb l is.reverse W hl hir hlr A hn hgW hn'
 rw[elr] at HC2;have HL:Hid ((Yk l is).length=m+1):=lm;have HK:Hid ((Yk l is.reverse).length=k+1):=lk;have HCOR:Hid (Xg l is=(Zcj l is).dropLast ++ (upN l is).dropLast):=hcor;clear I hb2 ac his A ab hz2' hgb hgb2 lm lk hcor elr hir hlr;go_region_held3 (fun w'=>Below D.heap.size D w'/\∀ b o,b<D.heap.size->w'.cell? ⟨b,o,none⟩=D.cell? ⟨b,o,none⟩) (first|exact Yw _|exact Yx (by assumption) I)
  (first
    | (go_at_call_of 121 (Value.slice (some ⟨g, 0, none⟩) is.length ocap); refine (HC1 _ A2.drew his2 y1).mono ?_; rintro e w3 ⟨v1, rfl, ab, I⟩; have Y : Below D.heap.size D w3 := Zi2 I; have A3 := A2.below Y (Nat.le_refl _); have hnb3 := hnb.below Y y2; have y3 := L3 y2 Y.size)
    | (go_at_call_of 121 (Value.slice (some ⟨Z, 0, none⟩) is.length cb); refine (HC2 _ A3 hnb3 y3).mono ?_; rintro e w4 ⟨v2, rfl, hown2, I⟩; have hb2' : Below w3.heap.size w3 w4 := I))
 go_wp2_with fail
 have hb24:Below D.heap.size D w4:=Y.trans (hb2'.mono Y.size);have O:=Zbv ab hb2';rw[HL.out] at O;rw[HK.out] at hown2;have o2:=hown2;rcases Zdi O with ⟨_,h0⟩|⟨g1,c1,rfl⟩
 ·omega
 rcases Zdi o2 with ⟨_,h0⟩|⟨g2,c2,rfl⟩
 ·omega
 obtain⟨hg1,hgb1,hc1⟩:=Zf6 O;obtain⟨hg2,hgb2,hc2⟩:=Zf6 o2;replace O:=Ze7 (b:=w.heap.size) O (by have:=J.size;simp;exact this);have o1p:=Zvq O (show (Zcj l is).length=m+1 by simpa [Zcj] using HL.out);have hnews:∀ j u,((upN l is).dropLast.map toV)[j]? =some u->w4.cell? ((⟨g2,0,none⟩:Addr).add j)=some u:=by
  intro j u hj;have:(List.map toV (Yk l is.reverse).reverse)[j]? =some u:=by
   rw[List.getElem?_map] at hj ⊢;rw[List.getElem?_dropLast] at hj;split at hj
   ·exact hj
   ·simp at hj
  have:=Ziy o2 j u this;have hadd:(⟨g2,0,none⟩:Addr).add j=⟨g2,j,none⟩:=by unfold Addr.add;split <;> simp_all
  rw[hadd];exact this
 have hnl:((upN l is).dropLast.map toV).length=k*1:=by simp[upN,HK.out]
 have hone:∀ u∈(upN l is).dropLast.map toV,u.oneCell'=true:=by
  intro u hu;obtain⟨x,_,rfl⟩:=List.mem_map.1 hu;rfl
 have hbase:w.heap.size<=w4.heap.size:=Nat.le_trans J.size hb24.size;have hW4:Below w.heap.size w w4:=J.trans (hb24.mono J.size);have hcl:(Xg l is).map toV=(Zcj l is).dropLast.map toV ++ (upN l is).dropLast.map toV:=by rw[HCOR.out,List.map_append]
 have hcn:(Xg l is).length=m+k:=by rw[HCOR.out];simp[Zcj,upN,HL.out,HK.out]
 have HCL:Hid ((Xg l is).map toV=(Zcj l is).dropLast.map toV ++ (upN l is).dropLast.map toV):=hcl;have HCN:Hid ((Xg l is).length=m+k):=hcn;have x0:(0:Int)<=(m:Int):=by omega
 have x1:(m:Int)<=(c1:Int):=by omega
 have x2:(0:Int)<=(k:Int):=by omega
 have x3:(k:Int)<=(c2:Int):=by omega
 have x4:IntKind.i64.wrap (m:Int)=(m:Int):=Zd (by omega) (by omega);have x5:IntKind.i64.wrap (k:Int)=(k:Int):=Zd (by omega) (by omega);have hHH:w4.drew.heap.size=w4.heap.size:=rfl;clear hcl hcn HC1 HC2 ab hown2 O o2 A2 A3 hnb hnb3 his2 q0 q1 I Y hb2' HL HK;go_region_held3 (fun w'=>True) (trivial)
  ((refine step_append_lies _ (by rfl) (.tmp 27) (.tmp 32) 26 (by rfl) w.heap.size 3 i0 (.int .i64 0) 1 8 underlying26 hi0 hz0 hz1 hz2 rfl (by decide) (.slice (some ⟨g1,0,none⟩) m c1) m ((Zcj l is).dropLast.map toV) (by rfl) (World.ownsRow.drew o1p) ⟨g2,0,none⟩ k c2 ((upN l is).dropLast.map toV) (by rfl) hnl hnews hone (by omega) (by unfold maxLen;omega) (by omega) hbase w4.heap.size hHH ?_;intro g3 c3 w5 hown5 hgrow hat hlt5))
 go_wp2
 go_ret;refine⟨_,rfl,by rw[HCN.out,HCL.out];exact hown5,hW4.drew.grown hgrow hbase fun k hk=>?_⟩;cases hk;have:D.heap.size<=g1:=hgb1;have:=J.size;show w.heap.size<=g1
 omega
theorem Zvt (B b J cap g D:Nat)(l:List Pt)(i:Nat)(w:World)(A:AskAt w B b J cap l)(O:g<w.heap.size)(aa:Xc w g 0 [i]) :
  Calls prog 89 #[.slice (some ⟨g,0,none⟩) 1 D,Zaw B] w fun e w'=>
   ∃ v,e= .returned v/\w'.ownsRow w.heap.size 3 1 v (Xg l [i]).length ((Xg l [i]).map toV)/\Below w.heap.size w w':=by
 have I:=Zpq g D [i] _ (by simp) (aa.below (Zb _ (.cells #[.func (.func 34) #[] #[.pointer (some ⟨B,0,none⟩)],.func (.func 36) #[] #[.pointer (some ⟨B,0,none⟩)]] 60)) O) (by simp);go_enter func89,ntmps89;go_wp2_with (go_at_call 119;refine I.mono ?_;rintro e w1 ⟨gb,cb,rfl,Z,Y⟩)
 go_ret;refine⟨_,rfl,Ze7 Z (by simp),(Zb _ _).trans (Y.mono (by simp))⟩
end Go.Proofs.YtgpapegpdfonpaaGreatDoor
namespace Go.Proofs.YtgpapegpdfonpaaGreatDoor
open Go.RowKit Go.Proofs.Tryz
open Go.Value(int)
open Go.IntKind(i64)
attribute [local go_sem ↓] Go.wp_at_zero Go.wp_at_succ
theorem Zi3 (l:List Pt)(i:Nat):Za l i=l.getD i (0,0):=rfl
theorem Zvu (l:List Pt):(List.range l.length).map (Za l)=l:=by
 apply List.ext_getElem
 ·simp
 ·intro i D e;have:i<l.length:=e;simp[Zi3,this]
theorem InOrder.len {l:List Pt}{is:List Nat}(h:InOrder l is):is.length=l.length:=by simpa using h.perm.length_eq
theorem InOrder.lt {l:List Pt}{is:List Nat}(h:InOrder l is):∀ i∈is,i<l.length:=fun i hi=>by simpa using h.perm.mem_iff.1 hi
theorem InOrder.nodup {l:List Pt}{is:List Nat}(h:InOrder l is):is.Nodup:=h.perm.symm.nodup List.nodup_range
theorem InOrder.pts {l:List Pt}{is:List Nat}(h:InOrder l is):(is.map (Za l)).Perm l:=by
 have:=h.perm.map (Za l);rwa [Zvu] at this
theorem InOrder.ordered {l:List Pt}{is:List Nat}(h:InOrder l is)(I:∀ i,i+1<is.length->Za l (is.getD i 0)≠Za l (is.getD (i+1) 0)):Zb3 (is.map (Za l)):=by
 have step:∀ i,i+1<is.length->plt (Za l (is.getD i 0)) (Za l (is.getD (i+1) 0)):=fun i hi=>by
  rcases Zej (Za l (is.getD i 0)) (Za l (is.getD (i+1) 0)) with k|k|k
  ·exact k
  ·exact absurd k (I i hi)
  ·exact absurd k (h.sorted i (i+1) (by omega) hi)
 have O:∀ d i,i+d+1<is.length->plt (Za l (is.getD i 0)) (Za l (is.getD (i+d+1) 0)):=by
  intro d;induction d with
  | zero=>intro i hi;exact step i hi
  | succ d ih=>intro i hi;exact Zai (ih i (by omega)) (step (i+d+1) hi)
 refine List.pairwise_iff_getElem.2 fun i j hi e Y=>?_
 have D:i<is.length:=by simpa using hi
 have J:j<is.length:=by simpa using e
 have:=O (j-i-1) i (by omega);rw[show i+(j-i-1)+1=j by omega] at this;simpa [D,J] using this
theorem Zvv {ps:List Pt}(h:Zb3 ps):ps.Nodup:=h.imp fun D e=>by subst e;exact Xs _ D
theorem InOrder.nodup_of {l:List Pt}{is:List Nat}(h:InOrder l is)(e:∀ i,i+1<is.length->Za l (is.getD i 0)≠Za l (is.getD (i+1) 0)):l.Nodup:=
 h.pts.nodup (Zvv (h.ordered e))
theorem InOrder.twice {l:List Pt}{is:List Nat}(h:InOrder l is){i:Nat}(hi:i+1<is.length)(e:Za l (is.getD i 0)=Za l (is.getD (i+1) 0)):¬ l.Nodup:=by
 intro D;have J:(is.map (Za l)).Nodup:=h.pts.symm.nodup D;have:=List.pairwise_iff_getElem.1 J i (i+1) (by simp;omega) (by simpa using hi) (by omega);apply this;have I:i<is.length:=by omega
 simpa [hi,I] using e
theorem InOrder.ordered_of {l:List Pt}{is:List Nat}(h:InOrder l is)(D:l.Nodup):Zb3 (is.map (Za l)):=
 h.ordered fun i hi e=>h.twice hi e D
theorem Xu {is:List Nat}{k:Nat}(h:k<is.length):is.getD k 0∈is:=by
 have:is.getD k 0=is[k]:=by simp[h]
 rw[this];exact List.getElem_mem h
def Zcv (l:List Pt):Bool:= !decide l.Nodup
theorem Zvw (b Z cap:Nat)(l:List Pt)(n:Nat)(w:World)(hn:l.length=n+1)(hl:l.length<=60)(hb:b<w.heap.size)(hp:Zp w b Z l) :
  Calls prog 66 #[.slice (some ⟨b,Z,none⟩) l.length cap] w fun e w'=>e= .returned (.bool (Zcv l))/\Below w.heap.size w w':=by
 have HO:=Zhf b Z cap l n w hn hl hb hp;clear hn;go_enter func66,ntmps66;go_wp2_with (go_at_call 28;refine HO.mono ?_;rintro e w1 ⟨g,is,rfl,hg,hgs,Y,ab,hfz,O⟩)
 have hp1:=hp.below Y hb;have il:=O.len;have J:Hid (is.length=l.length):=il;clear HO hp hfz il;go_loopw [4] (fun i wr=>∃ k:Nat,1<=k/\k<=l.length+1/\i=int i64 k/\Below w1.heap.size w1 wr/\∀ j,j+1<k->j+1<is.length->Za l (is.getD j 0)≠Za l (is.getD (j+1) 0))
  (fun i _=>l.length+1-(intOf i).toNat)
 case atStart=>exact⟨1,by omega,by omega,rfl,Below.refl _ _,fun j h=>by omega⟩
 case round=>
  obtain⟨k,hk1,hk,rfl,I,hall⟩:=hrel;by_cases hlt:k<l.length
  ·obtain⟨D,rfl⟩:∃ D,k=D+1:=⟨k-1,by omega⟩;have c1:=(ab.below I hgs) D (by rw[J.out];omega);have c2:=(ab.below I hgs) (D+1) (by rw[J.out];omega);rw[Nat.zero_add] at c1 c2;have i1:=O.lt (is.getD D 0) (Xu (by rw[J.out];omega));have i2:=O.lt (is.getD (D+1) 0) (Xu (by rw[J.out];omega));have ac:=hp1.below I (by omega:b<w1.heap.size);obtain⟨d0,d1⟩:=ac _ i1;obtain⟨d2,d3⟩:=ac _ i2;have e1:Za l (is.getD D 0)=((l.getD (is.getD D 0) (0,0)).1,(l.getD (is.getD D 0) (0,0)).2):=rfl;have e2:Za l (is.getD (D+1) 0)=((l.getD (is.getD (D+1) 0) (0,0)).1,(l.getD (is.getD (D+1) 0) (0,0)).2):=rfl;have tw:∀ e:Za l (is.getD D 0)=Za l (is.getD (D+1) 0),¬ l.Nodup:=fun e=>O.twice (by rw[J.out];omega) e
   have aa:∀ (h:Za l (is.getD D 0)≠Za l (is.getD (D+1) 0)),∀ j,j+1<D+1+1->j+1<is.length->Za l (is.getD j 0)≠Za l (is.getD (j+1) 0):=fun h j h1 h2=>by
    by_cases e:j=D
    ·subst e;exact h
    ·exact hall j (by omega) h2
   clear hall O;generalize is.getD D 0=x at *
   generalize is.getD (D+1) 0=y at *
   rw[e1,e2] at tw aa;clear e1 e2 ac hp1 ab;generalize (l.getD x (0,0)).1=xa at *;generalize (l.getD x (0,0)).2=xb at *
   generalize (l.getD y (0,0)).1=ya at *;generalize (l.getD y (0,0)).2=yb at *
   have z1:(0:Int)<=(D:Int):=by omega
   have z2:(D:Int)<(l.length:Int):=by omega
   have z3:(0:Int)<=(D:Int)+1:=by omega
   have z4:(D:Int)+1<(l.length:Int):=by omega
   have z5:(0:Int)<=(x:Int):=by omega
   have z6:(x:Int)<(l.length:Int):=by omega
   have z7:(0:Int)<=(y:Int):=by omega
   have z8:(y:Int)<(l.length:Int):=by omega
   have z9:IntKind.i64.wrap (D:Int)=(D:Int):=Zd (by omega) (by omega);by_cases ea:xa=ya
   ·subst ea;by_cases eb:xb=yb
    ·subst eb;have TW:Hid (¬ l.Nodup):=tw rfl;clear tw;go_wp2_with fail
     go_region_held3 (fun w'=>∀ b o,w'.cell? ⟨b,o,none⟩=wr.cell? ⟨b,o,none⟩) (exact fun _ _=>rfl) (first|fail)
     go_wp2
     go_ret;refine⟨?_,Y.trans ((I.drew).mono Y.size)⟩;have:Zcv l=true:=by unfold Zcv;rw[decide_eq_false TW.out];rfl
     rw[this];rfl
    ·go_wp2_with fail
     go_region_held3 (fun w'=>∀ b o,w'.cell? ⟨b,o,none⟩=wr.cell? ⟨b,o,none⟩) (exact fun _ _=>rfl) (first|fail)
     go_wp2
     go_roundw;case rel=>exact⟨D+1+1,by omega,by omega,by go_num,I.drew,aa fun e=>eb (Prod.mk.inj e).2⟩
     case measure=>simp[intOf];omega
   ·go_wp2_with fail
    go_region_held3 (fun w'=>∀ b o,w'.cell? ⟨b,o,none⟩=wr.cell? ⟨b,o,none⟩) (exact fun _ _=>rfl) (first|fail)
    go_wp2
    go_roundw;case rel=>exact⟨D+1+1,by omega,by omega,by go_num,I.drew,aa fun e=>ea (Prod.mk.inj e).1⟩
    case measure=>simp[intOf];omega
  ·go_wp2
   go_ret;refine⟨?_,Y.trans (I.mono Y.size)⟩;have:Zcv l=false:=by
    unfold Zcv;rw[decide_eq_true (O.nodup_of fun j hj=>hall j (by rw[J.out] at hj;omega) hj)];rfl
   rw[this];rfl
def Zw (l:List Pt):Int:=if 60<l.length then 2 else if Ya l=true then 1 else if Zcv l=true then 3 else 0
theorem Zpr (a:Option Addr)(n cap:Nat)(w:World)(h:60<n) :
  Calls prog 65 #[.slice a n cap] w fun e w'=>e= .returned (int i64 2)/\w'=w:=by
 have D:(60:Int)<(n:Int):=by omega
 go_enter func65,ntmps65;go_wp2
 go_ret;exact⟨rfl,rfl⟩
theorem Zps (b I cap:Nat)(l:List Pt)(w:World)(hl:l.length<=60)(hb:b<w.heap.size)(hp:Zp w b I l) :
  Calls prog 65 #[.slice (some ⟨b,I,none⟩) l.length cap] w fun e w'=>e= .returned (int i64 (if Ya l=true then 1 else 0))/\Below w.heap.size w w':=by
 have O:=Zc1 b I cap l w (by omega) hb hp;have hc:¬ ((60:Int)<(l.length:Int)):=by omega
 by_cases D:Ya l=true
 ·rw[if_pos D];go_enter func65,ntmps65;go_wp2_with (go_at_call 16;refine O.mono ?_;rintro e Z ⟨rfl,J⟩;rw[D])
  go_ret;exact⟨rfl,J⟩
 ·have Y:Ya l=false:=by simpa using D
  clear D;rw[Y,if_neg (by simp)];go_enter func65,ntmps65;go_wp2_with (go_at_call 16;refine O.mono ?_;rintro e Z ⟨rfl,J⟩;rw[Y])
  go_ret;exact⟨rfl,J⟩
theorem Zpt (a:Option Addr)(n cap:Nat)(w:World)(h:60<n) :
  Calls prog 26 #[.slice a n cap] w fun e w'=>e= .returned (int i64 2)/\w'=w:=by
 go_enter func26,ntmps26;go_wp2_with (go_at_call 65;refine (Zpr a n cap _ h).mono ?_;rintro e D ⟨rfl,rfl⟩)
 go_ret;exact⟨rfl,rfl⟩
theorem Zi4 (b I cap:Nat)(l:List Pt)(n:Nat)(w:World)(hn:l.length=n+1)(hl:l.length<=60)(J:b<w.heap.size)(hp:Zp w b I l) :
  Calls prog 26 #[.slice (some ⟨b,I,none⟩) l.length cap] w fun e w'=>e= .returned (int i64 (Zw l))/\Below w.heap.size w w':=by
 have O:=Zps b I cap l w hl J hp;have HT:=fun W (hb':b<W.heap.size) (hp':Zp W b I l)=>Zvw b I cap l n W hn hl hb' hp'
 unfold Zw;rw[if_neg (by omega)];clear hn;by_cases Y:Ya l=true
 ·rw[if_pos Y];rw[if_pos Y] at O;go_enter func26,ntmps26;go_wp2_with (go_at_call 65;refine O.mono ?_;rintro e w1 ⟨rfl,D⟩)
  go_ret;exact⟨rfl,D⟩
 ·have hf':Ya l=false:=by simpa using Y
  clear Y;rw[hf',if_neg (by simp)];rw[hf',if_neg (by simp)] at O;by_cases Z:Zcv l=true
  ·rw[if_pos Z];go_enter func26,ntmps26
   go_wp2_with (first
     | (go_at_call 65; refine O.mono ?_; rintro e w1 ⟨rfl, D⟩)
     | (go_at_call 66; refine (HT _ (L3 J D.size) (hp.below D J)).mono ?_; rintro e w2 ⟨rfl, aa⟩; rw [Z]))
   go_ret;exact⟨rfl,D.trans (aa.mono D.size)⟩
  ·have ht':Zcv l=false:=by simpa using Z
   clear Z;rw[ht',if_neg (by simp)];go_enter func26,ntmps26
   go_wp2_with (first
     | (go_at_call 65; refine O.mono ?_; rintro e w1 ⟨rfl, D⟩)
     | (go_at_call 66; refine (HT _ (L3 J D.size) (hp.below D J)).mono ?_; rintro e w2 ⟨rfl, aa⟩; rw [ht']))
   go_ret;exact⟨rfl,D.trans (aa.mono D.size)⟩
theorem Zhh {l:List Pt}(h:Ya l=false):Zv l:=by
 intro i hi;unfold Ya at h;rw[List.any_eq_false] at h;have:=h l[i] (List.getElem_mem hi);have e:px l i=l[i].1:=by simp[px,hi]
 have D:py l i=l[i].2:=by simp[py,hi]
 rw[e,D];exact Xp (by simpa using this)
theorem Zvx (a:Option Addr)(n cap:Nat)(w:World)(h:60<n) :
  Calls prog 43 #[.slice a n cap] w fun e w'=>e= .returned (.tuple #[.slice none 0 0,int i64 2])/\Below w.heap.size w w':=by
 go_enter func43,ntmps43;go_wp2_with (go_at_call 26;refine (Zpt a n cap _ h).mono ?_;rintro e D ⟨rfl,rfl⟩)
 go_ret2;exact⟨rfl,Below.refl _ _⟩
theorem Zvy (b D cap:Nat)(l:List Pt)(n:Nat)(w:World)(J:l.length=n+1)(Z:l.length<=60)(O:b<w.heap.size)(hp:Zp w b D l)(I:Zw l≠0) :
  Calls prog 43 #[.slice (some ⟨b,D,none⟩) l.length cap] w fun e w'=>e= .returned (.tuple #[.slice none 0 0,int i64 (Zw l)])/\Below w.heap.size w w':=by
 have HF:=Zi4 b D cap l n w J Z O hp;have hf':(Zw l != 0)=true:=by simpa using I
 clear J I;generalize Zw l=f at *
 go_enter func43,ntmps43;go_wp2_with (go_at_call 26;refine HF.mono ?_;rintro e w1 ⟨rfl,Y⟩)
 go_ret2;exact⟨rfl,Y⟩
theorem Zf7 {l:List Pt}(h:Zw l=0):l.length<=60/\Ya l=false/\l.Nodup:=by
 unfold Zw at h;split at h
 ·omega
 ·split at h
  ·omega
  ·rename_i e;split at h
   ·omega
   ·rename_i D;exact⟨by omega,by simpa using e,by simpa [Zcv] using D⟩
theorem Zvz (B b D cap g:Nat) (l:List Pt) (is:List Nat) (w:World) (n:Nat) (hn:l.length=n+1) (Z:l.length<=60) (I:InOrder l is) (A:AskAt w B b D cap l) (hnear:Zv l) (J:l.Nodup)
  (hg:g<w.heap.size) (his:Xc w g 0 is) :
  Calls prog 89 #[.slice (some ⟨g,0,none⟩) l.length l.length,Zaw B] w fun e w'=>
   ∃ v,e= .returned v/\w'.ownsRow w.heap.size 3 1 v (Xg l is).length ((Xg l is).map toV)/\Below w.heap.size w w':=by
 have il:=I.len;have Y:=I.ordered_of J;have aa:=I.lt;by_cases O:2<=is.length
 ·have:=Zvs B b D cap g l.length l is w Z aa (by omega) A hnear hg his O Y;rw[il] at this;exact this
 ·have h1:is.length=1:=by omega
  have h1':l.length=1:=by omega
  obtain⟨i,rfl⟩:=List.length_eq_one_iff.1 h1;have:=Zvt B b D cap g l.length l i w A hg his;rw[show (Value.slice (some ⟨g,0,none⟩) l.length l.length)=Value.slice (some ⟨g,0,none⟩) 1 l.length by rw[h1']];exact this
theorem Zv0 (b D cap:Nat)(l:List Pt)(n:Nat)(w:World)(Y:l.length=n+1)(J:b<w.heap.size)(hp:Zp w b D l)(hf:Zw l=0) :
  Calls prog 43 #[.slice (some ⟨b,D,none⟩) l.length cap] w fun e w'=>
   ∃ v is,e= .returned (.tuple #[v,int i64 0])/\InOrder l is/\w'.ownsRow w.heap.size 3 1 v (Xg l is).length ((Xg l is).map toV)/\Below w.heap.size w w':=by
 obtain⟨Z,hfar,hnd⟩:=Zf7 hf;have hnear:=Zhh hfar;have HF:=Zi4 b D cap l n w Y Z J hp;rw[hf] at HF;have HO:=fun W (hb':b<W.heap.size) (hp':Zp W b D l)=>Zhf b D cap l n W Y Z hb' hp'
 have HC:=fun B g is W=>Zvz B b D cap g l is W n Y Z
 clear Y hf hfar;go_enter func43,ntmps43
 go_wp2_with (first
   | (go_at_call 26; refine HF.mono ?_; rintro e w1 ⟨rfl, I⟩)
   | (go_at_call 28; refine (HO _ (L3 J I.size) (hp.below I J)).mono ?_; rintro e w2 ⟨g, is, rfl, hg, hgs, hb2, hns, hfz, hio⟩)
   | (go_at_call 17; refine (Zc2 _ _ _ _).mono ?_; rintro e w3 ⟨B, hB1, hB2, hcB, rfl, aa⟩
      have O : Below w.heap.size w w3 := (I.trans (hb2.mono I.size)).trans (aa.mono (I.trans (hb2.mono I.size)).size)
      have A : AskAt w3 B b D cap l := ⟨hB2, L3 J O.size, hcB, hp.below O J⟩
      have hns3 := hns.below aa hgs
      have hg3 : g < w3.heap.size := L3 hgs aa.size)
   | (go_at_call 89; refine (HC B g is _ hio A hnear hnd hg3 hns3).mono ?_; rintro e w4 ⟨v, rfl, hown, hb4⟩))
 go_ret2;exact⟨v,is,rfl,hio,Ze7 hown O.size,O.trans (hb4.mono O.size)⟩
end Go.Proofs.YtgpapegpdfonpaaGreatDoor
namespace Go.Proofs.YtgpapegpdfonpaaGreatDoor
open Go.RowKit Go.Shelf Go.Proofs.Tryz
open Go.Value(int)
open Go.IntKind(i64)
attribute [local go_sem ↓] Go.wp_at_zero Go.wp_at_succ
theorem Zv1 (a:Option Addr)(cap:Nat)(D:Value)(w:World) :
  Calls prog 81 #[.slice a 0 cap,D] w fun e w'=>e= .returned (int i64 (-1))/\w'=w:=by
 go_enter func81,ntmps81;go_wp2
 go_loopw [8] (fun i wr=>i=int i64 0/\wr=w) (fun i _=>0)
 case atStart=>exact⟨rfl,rfl⟩
 case round=>
  obtain⟨rfl,rfl⟩:=hrel;go_wp2
  go_ret;exact⟨rfl,rfl⟩
theorem Zv2 (a:Option Addr)(cap:Nat)(D:Value)(w:World) :
  Calls prog 32 #[.slice a 0 cap,D] w fun e w'=>e= .returned (.bool false)/\w'=w:=by
 go_enter func32,ntmps32;go_wp2_with (go_at_call 81;refine (Zv1 _ _ _ _).mono ?_;rintro e w' ⟨rfl,rfl⟩)
 go_ret;exact⟨rfl,rfl⟩
theorem Zv3 (a:Option Addr)(cap:Nat)(w:World) :
  Calls prog 16 #[.slice a 0 cap] w fun e w'=>e= .returned (.bool false)/\w'=w:=by
 go_enter func16,ntmps16;go_wp2_with (go_at_call 32;refine (Zv2 _ _ _ _).mono ?_;rintro e w' ⟨rfl,rfl⟩)
 go_ret;exact⟨rfl,rfl⟩
theorem Zv4 (p:Option Addr)(cap:Nat)(D:Value)(w:World) :
  Calls prog 71 #[.slice p 0 cap,D] w fun e w'=>e= .returned (.tuple #[])/\w'=w:=
 AnyF.slices_SortFunc_none { laySort with } p cap D w
theorem Zi5 (a:Option Addr)(cap:Nat)(w:World) :
  Calls prog 28 #[.slice a 0 cap] w fun e w'=>
   ∃ g,e= .returned (.slice (some ⟨g,0,none⟩) 0 0)/\w.heap.size<=g/\g<w'.heap.size/\RowKit.Below w.heap.size w w':=by
 have D:=run_make_row' (P:=prog) 26 3 (int i64 0) 8 underlying26 Zbi rfl .i64 .i64 0 (by omega) (by omega);simp only[Int.natCast_zero] at D;go_enter func28,ntmps28;go_wp2
 go_loopw [10] (fun i wr=>i=int i64 0/\wr=(w.alloc (.cells #[.slice a 0 cap] 41)).alloc (.cells (madeCells #[int i64 0] 0) 3))
  (fun i _=>0)
 case atStart=>exact⟨rfl,rfl⟩
 case round=>
  obtain⟨rfl,rfl⟩:=hrel;go_wp2_with fail
  refine (Zv4 _ _ _ _).mono ?_;rintro e w' ⟨rfl,rfl⟩;go_wp2
  go_ret;exact⟨w.heap.size+1,rfl,by omega,by simp,Yq _ _ _⟩
theorem Zv5 (a:Option Addr)(cap:Nat)(w:World) :
  Calls prog 66 #[.slice a 0 cap] w fun e w'=>e= .returned (.bool false)/\RowKit.Below w.heap.size w w':=by
 go_enter func66,ntmps66;go_wp2_with (go_at_call 28;refine (Zi5 a cap _).mono ?_;rintro e D ⟨g,rfl,O,J,I⟩)
 go_loopw [4] (fun i wr=>i=int i64 1/\wr=D) (fun i _=>0)
 case atStart=>exact⟨rfl,rfl⟩
 case round=>
  obtain⟨rfl,rfl⟩:=hrel;go_wp2
  go_ret;exact⟨rfl,I⟩
theorem Zpu (a:Option Addr)(cap:Nat)(w:World) :
  Calls prog 65 #[.slice a 0 cap] w fun e w'=>e= .returned (int i64 0)/\w'=w:=by
 go_enter func65,ntmps65;go_wp2_with (go_at_call 16;refine (Zv3 a cap _).mono ?_;rintro e D ⟨rfl,rfl⟩)
 go_ret;exact⟨rfl,rfl⟩
theorem Zpv (a:Option Addr)(cap:Nat)(w:World) :
  Calls prog 26 #[.slice a 0 cap] w fun e w'=>e= .returned (int i64 0)/\RowKit.Below w.heap.size w w':=by
 go_enter func26,ntmps26
 go_wp2_with (first
   | (go_at_call 65; refine (Zpu a cap _).mono ?_; rintro e I ⟨rfl, rfl⟩)
   | (go_at_call 66; refine (Zv5 a cap _).mono ?_; rintro e J ⟨rfl, D⟩))
 go_ret;exact⟨rfl,D⟩
theorem Zv6 (a:Addr)(c:Nat)(w:World) :
  Calls prog 119 #[.slice (some a) 0 c] w fun e w'=>∃ D,e= .returned D/\w'.ownsRow w.heap.size 3 1 D 0 []/\RowKit.Below w.heap.size w w':=
 (Any.slices_Clone_int_zero layClone a c w).mono fun _ _ ⟨D,he,ho,_,hb⟩=>⟨D,he,ho,hb⟩
theorem Zv7 (B g I:Nat)(w:World) :
  Calls prog 89 #[.slice (some ⟨g,0,none⟩) 0 I,Zaw B] w fun e w'=>
   ∃ v,e= .returned v/\w'.ownsRow w.heap.size 3 1 v 0 []/\RowKit.Below w.heap.size w w':=by
 go_enter func89,ntmps89;go_wp2_with (go_at_call 119;refine (Zv6 _ _ _).mono ?_;rintro e O ⟨v,rfl,D,J⟩)
 go_ret;refine⟨_,rfl,Ze7 D (by simp),(Zb _ _).trans (J.mono (by simp))⟩
theorem Zv8 (a:Option Addr)(cap:Nat)(w:World) :
  Calls prog 43 #[.slice a 0 cap] w fun e w'=>
   ∃ v,e= .returned (.tuple #[v,int i64 0])/\w'.ownsRow w.heap.size 3 1 v 0 []/\RowKit.Below w.heap.size w w':=by
 go_enter func43,ntmps43
 go_wp2_with (first
   | (go_at_call 26; refine (Zpv a cap _).mono ?_; rintro e w1 ⟨rfl, D⟩)
   | (go_at_call 28; refine (Zi5 a cap _).mono ?_; rintro e w2 ⟨g, rfl, hg, aa, J⟩)
   | (go_at_call 17; refine (Zc2 _ _ _ _).mono ?_; rintro e w3 ⟨B, hB1, ab, hcB, rfl, Z⟩
      have I : RowKit.Below w.heap.size w w3 := (D.trans (J.mono D.size)).trans (Z.mono (D.trans (J.mono D.size)).size))
   | (go_at_call 89; refine (Zv7 B g _ _).mono ?_; rintro e w4 ⟨v, rfl, O, Y⟩))
 go_ret2;exact⟨v,rfl,Ze7 O I.size,I.trans (Y.mono I.size)⟩
end Go.Proofs.YtgpapegpdfonpaaGreatDoor
namespace Go.Proofs.YtgpapegpdfonpaaGreatDoor
open Go.RowKit Go.Proofs.Tryz
open Go.Value(int)
open Go.IntKind(i64)
attribute [local go_sem ↓] Go.wp_at_zero Go.wp_at_succ
def Zg (l:List Pt):List Value:=l.flatMap fun p=>[int i64 p.1,int i64 p.2]
theorem Zbw (l:List Pt):(Zg l).length=l.length*2:=by
 induction l with
 | nil=>rfl
 | cons p l ih=>simp only[Zg,List.flatMap_cons,List.length_append,List.length_cons,List.length_nil] at ih ⊢;omega
theorem Zel (l m:List Pt):Zg (l ++ m)=Zg l ++ Zg m:=by simp[Zg]
theorem Zhi (l:List Pt):∀ j,j<l.length->(Zg l)[j*2]? =some (int i64 (l.getD j (0,0)).1)/\(Zg l)[j*2+1]? =some (int i64 (l.getD j (0,0)).2):=by
 induction l with
 | nil=>intro j h;simp at h
 | cons p l ih=>
  intro j h;have e:Zg (p :: l)=int i64 p.1 :: int i64 p.2 :: Zg l:=by simp[Zg]
  rw[e];match j with
  | 0=>simp
  | j+1=>
   have:=ih j (by simpa using h);rw[show (j+1)*2=j*2+1+1 by omega];simpa using this
theorem Zv9 (l:List Pt):∀ u∈Zg l,u.oneCell'=true:=by
 intro u e;simp only[Zg,List.mem_flatMap] at e;obtain⟨p,_,e⟩:=e;simp at e;rcases e with rfl|rfl <;> rfl
theorem Zdk:(prog.info? 37).map (fun i=>(i.zero,i.size,i.bytes))=some (some (.agg #[int i64 0,int i64 0]),2,16):=by kernel_rfl
def Z0 (w:World)(a:Option Addr)(D:List Pt):Prop:=
 D=[]\/∃ b e,a=some ⟨b,e,none⟩/\b<w.heap.size/\Zp w b e D
end Go.Proofs.YtgpapegpdfonpaaGreatDoor
namespace Go.Proofs.YtgpapegpdfonpaaGreatDoor
open Go.RowKit Go.Shelf Go.Sort Go.Proofs.Tryz
theorem Z69 (b I cap:Nat) (l:List (Int×Int)) (n:Nat) (w W:World) (hn:l.length=n+1) (hl:l.length<=61) (hb:b<w.heap.size) (hp:Zp w b I l)
  (hW:W=(w.alloc (.cells #[.slice (some ⟨b,I,none⟩) l.length cap] 41)).alloc (.cells (Zao l.length l.length) 3)) :
  Calls prog 71 #[.slice (some ⟨w.heap.size+1,0,none⟩) l.length l.length,.func (.func 72) #[] #[.pointer (some ⟨w.heap.size,0,none⟩)]] W fun e w'=>
   e= .returned (.tuple #[])/\∃ is,w.heap.size+1<w'.heap.size/\RowKit.Below (w.heap.size+1) W w'/\Xc w' (w.heap.size+1) 0 is/\(∀ j,w'.frozen? ⟨w.heap.size+1,j,none⟩=false)/\InOrder l is:=by
 have hWs:W.heap.size=w.heap.size+1+1:=by rw[hW];simp
 have hH:Holds (Zaj n) W (w.heap.size+1) 0 (Array.ofFn fun i:Fin (n+1)=>i):=by
  have:=Zpe (w.alloc (.cells #[.slice (some ⟨b,I,none⟩) l.length cap] 41)) n 3;rw[hn] at hW;rw[hn] at this;simp only[World.size_alloc] at this;rw[hW];exact this
 have hfz:∀ j,W.frozen? ⟨w.heap.size+1,j,none⟩=false:=fun j=>by rw[hW];exact World.frozen?_alloc_at _ _ _ _ (by simp)
 have hcB:W.cell? ⟨w.heap.size,0,none⟩=some (.slice (some ⟨b,I,none⟩) l.length cap):=by
  rw[hW,World.cell?_alloc_past _ _ _ (by simp),World.cell?_alloc_at _ _ _ _ rfl];rfl
 have hpW:Zp W b I l:=by
  have Z:RowKit.Below w.heap.size w W:=by rw[hW];exact Yq _ _ _
  exact hp.below Z hb
 have hcmp:CmpLays1 prog 72 #[.pointer (some ⟨w.heap.size,0,none⟩)] (Zaj n) (cfO l n) (w.heap.size+1) 0 (Array.ofFn fun i:Fin (n+1)=>i).size W:=by
  intro m O dk hs x y;have hV:∀ a:Addr,a.block≠w.heap.size+1->a.block<W.heap.size->(sortWorld (Zaj n) W (w.heap.size+1) 0 m dk O).cell? a=W.cell? a:=fun a h1 Z=>
   World.cell?_of_block (w:=W) (Zix (Zaj n) W (w.heap.size+1) m dk O a.block Z h1)
  have hVs:W.heap.size<=(sortWorld (Zaj n) W (w.heap.size+1) 0 m dk O).heap.size:=by
   unfold sortWorld;rw[Sort.size_grow,Sort.size_putRow];exact Nat.le_add_right _ _
  refine (Zpb w.heap.size b I cap l x.val y.val _ (by have:=x.isLt;omega) (by have:=y.isLt;omega) (by omega) (by omega) ?_ ?_).mono ?_
  ·rw[hV _ (by simp) (by simp;omega)];exact hcB
  ·intro j Y;have:=hpW j Y;rw[hV _ (by simp;omega) (by simp;omega),hV _ (by simp;omega) (by simp;omega)];exact this
  ·rintro e w' ⟨he,o,J⟩;refine⟨he,1,#[o],?_⟩;rw[J,alloc_eq_grow];rfl
 have eg:∀ args w,(callFunc 72 args).run prog w= .ok (.enter 72 args) w:=call72;have hS:=Any.slices_SortFunc laySort (Zaj n) (fun _=>rfl) (cfO l n) (Zpc l n) 72 #[.pointer (some ⟨w.heap.size,0,none⟩)] (w.heap.size+1) 0 l.length (Array.ofFn fun i:Fin (n+1)=>i) W eg hcmp hH (by omega) (by simp;omega);have hsz:(Array.ofFn fun i:Fin (n+1)=>i).size=l.length:=by simp[hn]
 rw[hsz] at hS;refine hS.mono ?_;rintro e w' ⟨he,d',q,O,hperm,hsorted,J⟩;rw[<-hsz] at hperm hsorted;obtain⟨ds,dp⟩:=Zpf hperm;refine⟨he,d'.toList.map (·.val),?_,?_,?_,?_,?_,?_⟩
 ·rw[J];unfold sortWorld;rw[Sort.size_grow,Sort.size_putRow];show w.heap.size+1<W.heap.size+_;omega
 ·subst J;refine⟨rfl,rfl,rfl,?_,fun k hk=>?_⟩
  ·unfold sortWorld;rw[Sort.size_grow,Sort.size_putRow];exact Nat.le_add_right _ _
  ·exact Zix (Zaj n) W (w.heap.size+1) q d' O k (by omega) (by omega)
 ·intro j Y;have D:j<d'.size:=by simpa using Y
  rw[J];unfold sortWorld;rw[Sort.cell?_grow _ _ _ (by rw[Sort.size_putRow];show w.heap.size+1<W.heap.size;omega)];rw[Sort.cell?_putRow (Zaj n) _ (w.heap.size+1) 0 _ d' (Sort.holds_ahead _ _ _ _ _ _ hH) ds j D];have:d'[j]! =d'[j]:=getElem!_pos d' j D;rw[this];simp[Zaj,D]
 ·intro j;rw[J];unfold sortWorld;rw[Sort.frozen?_grow _ _ _ (by rw[Sort.size_putRow];show w.heap.size+1<W.heap.size;omega),Sort.frozen?_putRow];exact hfz j
 ·have:=dp.map (fun x:Fin (n+1)=>x.val);refine this.trans ?_;rw[hn];apply List.Perm.of_eq;apply List.ext_getElem
  ·simp
  ·intro i h1 Z;rw[List.getElem_map,Array.getElem_toList,Array.getElem_ofFn,List.getElem_range]
 ·intro i j hij Y;have D:j<d'.size:=by simpa using Y
  have:=hsorted i j (Nat.zero_le _) hij (by rw[<-ds];exact D);rw[Zf5] at this;have a1:d'[j]! =d'[j]:=getElem!_pos d' j D;have a2:d'[i]! =d'[i]'(by omega):=getElem!_pos d' i (by omega);rw[a1,a2] at this;have hi':i<d'.size:=by omega
  simpa [D,hi'] using this
theorem Z7a (b D cap:Nat)(l:List (Int×Int))(n:Nat)(w:World)(J:l.length=n+1)(Z:l.length<=61)(Y:b<w.heap.size)(hp:Zp w b D l) :
  Calls prog 28 #[.slice (some ⟨b,D,none⟩) l.length cap] w fun e w'=>
   ∃ g is,e= .returned (.slice (some ⟨g,0,none⟩) l.length l.length)/\w.heap.size<=g/\g<w'.heap.size/\RowKit.Below w.heap.size w w'/\Xc w' g 0 is/\(∀ j,w'.frozen? ⟨g,j,none⟩=false)/\InOrder l is:=by
 have hmk:=run_make_row' (P:=prog) 26 3 (.int .i64 0) 8 underlying26 Zbi rfl .i64 .i64 l.length (by omega) (by omega);have HN:Hid (l.length=n+1):=J;clear J;go_enter func28,ntmps28;go_wp2
 go_loopw [10] (fun i wr=>∃ k:Nat,k<=l.length/\i= .int .i64 k/\wr=(w.alloc (.cells #[.slice (some ⟨b,D,none⟩) l.length cap] 41)).alloc (.cells (Zao l.length k) 3))
  (fun i _=>l.length-(intOf i).toNat)
 case atStart=>exact⟨0,Nat.zero_le _,rfl,by rw[Zll]⟩
 case round=>
  obtain⟨k,hk,rfl,rfl⟩:=hrel;by_cases I:k<l.length
  ·have hc:((w.alloc (.cells #[.slice (some ⟨b,D,none⟩) l.length cap] 41)).alloc (.cells (Zao l.length k) 3)).cell? ⟨w.heap.size+1,k,none⟩=some (.int .i64 0):=by
    rw[World.cell?_alloc_at _ _ _ _ (by simp)];simp[Zao,I]
   have hs:=Zpd l.length k I;go_wp2
   go_roundw;case rel=>exact⟨k+1,by omega,by go_num,rfl⟩
   case measure=>simp[intOf];omega
  ·have ek:k=l.length:=by omega
   subst ek;go_wp2_with fail
   refine (Z69 b D cap l n w _ HN.out Z Y hp rfl).mono ?_;rintro e w' ⟨rfl,is,h1,O,h3,h4,h5⟩;go_wp2
   go_ret;refine⟨w.heap.size+1,is,rfl,by omega,h1,?_,h3,h4,h5⟩;exact (Yq _ _ _).trans (O.mono (by omega))
end Go.Proofs.YtgpapegpdfonpaaGreatDoor
