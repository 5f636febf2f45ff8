/- Part. -/
import Derived.Lib.ItoaLen
import Derived.Lib.ParseIntB
import Derived.Test.YtgpapegpdfonpaaGreatDoorShelfS
import Derived.Test.YtgpapegpdfonpaaGreatDoorGOwn
import Derived.Lib.AppendIntMem
import Derived.Lib.Hide
import Derived.Deep.CutRange
import Derived.Deep.DeepCutAuto
import Derived.Deep.CutBlock
set_option linter.unusedVariables false
set_option linter.unusedSimpArgs false
set_option maxHeartbeats 16000000
set_option maxRecDepth 100000
namespace Go.Proofs.YtgpapegpdfonpaaGreatDoor
open Go.Lib
theorem Zg6 {d:Nat}(h:d<10):(UInt8.ofNat (48+d)).toNat=48+d:=by
 rw[UInt8.toNat_ofNat'];omega
theorem Ze3 (u:Nat):∀ c∈decDigits u,48<=c.toNat/\c.toNat<=57:=by
 induction u using Nat.strongRecOn with
 | ind u ih=>
  intro c e;rw[decDigits] at e;by_cases h:u<10
  ·rw[dif_pos h] at e;simp only[List.mem_singleton] at e;subst e;rw[Zg6 h];omega
  ·rw[dif_neg h] at e;rcases List.mem_append.1 e with e|e
   ·exact ih (u / 10) (by omega) c e
   ·simp only[List.mem_singleton] at e;subst e;rw[Zg6 (by omega)];omega
theorem Zio (u:Nat):decDigits u≠ []:=by
 rw[decDigits];split <;> simp
theorem Zoa (M:Nat)(b:List UInt8):∀ (a:List UInt8) (e v:Nat),parseUintM M e a= .ok v->parseUintM M e (a ++ b)=parseUintM M v b
 | [],e,v,h=>by simp only[parseUintM] at h;cases h;rfl
 | c :: r,e,v,h=>by
  simp only[parseUintM,List.cons_append] at h ⊢;split at h
  ·rename_i I;rw[if_pos I];split at h
   ·cases h
   ·rename_i D;rw[if_neg D];split at h
    ·cases h
    ·rename_i J;rw[if_neg J];exact Zoa M b r _ _ h
  ·cases h
theorem Zob (M:Nat)(D:M<18446744073709551616)(u:Nat):u<=M->parseUintM M 0 (decDigits u)= .ok u:=by
 induction u using Nat.strongRecOn with
 | ind u ih=>
  intro e;rw[decDigits];by_cases h:u<10
  ·rw[dif_pos h];simp only[parseUintM,Zg6 h];rw[if_pos (by omega),if_neg (by omega),if_neg (by omega)];congr 1;omega
  ·rw[dif_neg h,Zoa M _ _ _ _ (ih (u / 10) (by omega) (by omega))];simp only[parseUintM,Zg6 (show u % 10<10 by omega)];rw[if_pos (by omega),if_neg (by omega),if_neg (by omega)];congr 1;omega
theorem Zt7 {n:Int}(Y: -9223372036854775808<=n)(Z:n<=9223372036854775807):parseIntB 64 (itoa n)= .ok n:=by
 unfold itoa;by_cases J:n<0
 ·rw[if_pos J];have e:=Zob (2 ^ 64-1) (by omega) n.natAbs (by omega);have D:parseUintB 64 (decDigits n.natAbs)= .ok n.natAbs:=by unfold parseUintB;rw[if_neg (Zio _)];exact e
  unfold parseIntB;simp only[show (45:UInt8).toNat=45 from rfl];rw[if_pos (by simp),D];simp only[not_true_eq_false,false_and,if_false,true_and];rw[if_neg (by omega)];simp only[if_true];congr 1;omega
 ·rw[if_neg J];have e:=Zob (2 ^ 64-1) (by omega) n.toNat (by omega);have D:parseUintB 64 (decDigits n.toNat)= .ok n.toNat:=by unfold parseUintB;rw[if_neg (Zio _)];exact e
  cases I:decDigits n.toNat with
  | nil=>exact absurd I (Zio _)
  | cons c r=>
   have O:=Ze3 n.toNat c (by rw[I];exact List.mem_cons_self);rw[I] at D;unfold parseIntB;simp only;rw[if_neg (by omega),D];simp only;rw[if_neg (by omega),if_neg (by omega),if_neg (by omega)];congr 1;omega
theorem Zoc {l:List UInt8}{v:Int}(h:parseIntB 64 l= .ok v): -9223372036854775808<=v/\v<=9223372036854775807:=by
 unfold parseIntB at h;split at h
 ·cases h
 ·simp only at h;split at h
  ·cases h
  ·cases h
  ·split at h
   ·cases h
   ·split at h
    ·cases h
    ·cases h;split <;> omega
def Zbe (w:List UInt8):Option Int:=match parseIntB 64 w with
 | .ok n=>if itoa n=w then some n else none
 | _=>none
def J64 (n:Int):Prop:= -9223372036854775808<=n/\n<=9223372036854775807
theorem Zod {w:List UInt8}{n:Int}:Zbe w=some n↔w=itoa n/\J64 n:=by
 constructor
 ·intro h;unfold Zbe at h;split at h
  ·rename_i m D;split at h
   ·rename_i e;cases h;exact⟨e.symm,Zoc D⟩
   ·cases h
  ·cases h
 ·rintro⟨rfl,I,J⟩;unfold Zbe;rw[Zt7 I J];simp
theorem Zg7 {n:Int}{c:UInt8}(h:c∈itoa n):c≠10/\c≠32:=by
 have e:48<=c.toNat/\c.toNat<=57\/c=45:=by
  unfold itoa at h;split at h
  ·rcases List.mem_cons.1 h with h|h
   ·exact .inr h
   ·exact .inl (Ze3 _ c h)
  ·exact .inl (Ze3 _ c h)
 constructor
 ·rintro rfl;rcases e with k|k
  ·simp at k
  ·cases k
 ·rintro rfl;rcases e with k|k
  ·simp at k
  ·cases k
def Xf (c:UInt8):List UInt8->Option (List UInt8×List UInt8)
 | []=>none
 | x :: r=>if x=c then some ([],r) else (Xf c r).map fun q=>(x :: q.1,q.2)
theorem Zip {c:UInt8}{b:List UInt8}:∀ {a:List UInt8},c ∉ a->Xf c (a ++ c :: b)=some (a,b)
 | [],_=>by simp[Xf]
 | x :: r,h=>by
  simp only[List.mem_cons,not_or] at h;simp only[List.cons_append,Xf];rw[if_neg (Ne.symm h.1),Zip h.2];rfl
theorem Zfv {c:UInt8}:∀ {s a b:List UInt8},Xf c s=some (a,b)->s=a ++ c :: b/\c ∉ a
 | [],a,b,h=>by cases h
 | x :: r,a,b,h=>by
  simp only[Xf] at h;split at h
  ·rename_i e;cases h;subst e;exact⟨rfl,by simp⟩
  ·rename_i e;cases D:Xf c r with
   | none=>rw[D] at h;cases h
   | some q=>
    rw[D] at h;cases h;obtain⟨O,I⟩:=Zfv D;refine⟨by rw[O];rfl,?_⟩;simp only[List.mem_cons,not_or];exact⟨fun J=>e J.symm,I⟩
theorem Zoe {c:UInt8}:∀ {s:List UInt8},Xf c s=none->c ∉ s
 | [],_=>by simp
 | x :: r,h=>by
  simp only[Xf] at h;split at h
  ·cases h
  ·rename_i e;cases D:Xf c r with
   | none=>simp only[List.mem_cons,not_or];exact⟨fun I=>e I.symm,Zoe D⟩
   | some q=>rw[D] at h;cases h
def Y3 (c:UInt8)(s:List UInt8):List UInt8×List UInt8:=(Xf c s).getD (s,[])
def Zbf (lo hi:Int)(w:List UInt8):Option Int:=match Zbe w with
 | none=>none
 | some n=>if n<lo\/hi<n then none else some n
theorem Zfw {lo hi n:Int}{w:List UInt8}:Zbf lo hi w=some n↔w=itoa n/\J64 n/\lo<=n/\n<=hi:=by
 unfold Zbf;constructor
 ·intro h;split at h
  ·cases h
  ·rename_i m I;split at h
   ·cases h
   ·cases h;obtain⟨D,e⟩:=Zod.1 I;exact⟨D,e,by omega,by omega⟩
 ·rintro⟨D,e,O,J⟩;rw[Zod.2 ⟨D,e⟩];simp only;rw[if_neg (by omega)]
def Xo (lo hi:Int):Nat->List UInt8->Option (List Int)
 | 0,_=>some []
 | 1,l=>match Zbf lo hi l with
  | none=>none
  | some n=>some [n]
 | k+2,l=>match Zbf lo hi (Y3 32 l).1 with
  | none=>none
  | some n=>match Xo lo hi (k+1) (Y3 32 l).2 with
   | none=>none
   | some r=>some (n :: r)
def Zq:List Int->List UInt8
 | []=>[]
 | [n]=>itoa n
 | n :: m :: r=>itoa n ++ 32 :: Zq (m :: r)
def InL (lo hi:Int)(e:List Int):Prop:=∀ n∈e,J64 n/\lo<=n/\n<=hi
theorem Zof:∀ {ns:List Int} {c:UInt8},c∈Zq ns->c≠10
 | [],c,h=>by cases h
 | [n],c,h=>(Zg7 h).1
 | n :: m :: r,c,h=>by
  simp only[Zq] at h;rcases List.mem_append.1 h with h|h
  ·exact (Zg7 h).1
  ·rcases List.mem_cons.1 h with h|h
   ·subst h;decide
   ·exact Zof h
theorem Zt8 {lo hi:Int}:∀ k,Xo lo hi (k+1) []=none
 | 0=>rfl
 | k+1=>rfl
theorem Ziq {lo hi:Int}:∀ (k:Nat) (l:List UInt8) (I:List Int),Xo lo hi (k+1) l=some I↔I.length=k+1/\InL lo hi I/\l=Zq I
 | 0,l,I=>by
  simp only[Xo];constructor
  ·intro h;split at h
   ·cases h
   ·rename_i n hn;cases h;obtain⟨J,O⟩:=Zfw.1 hn;refine⟨rfl,fun m D=>?_,J⟩;simp only[List.mem_singleton] at D;subst D;exact O
  ·rintro⟨J,O,h3⟩;match I,J with
   | [n],_=>
    rw[Zfw.2 ⟨h3,O n (by simp)⟩]
 | k+1,l,I=>by
  simp only[Xo];constructor
  ·intro h;split at h
   ·cases h
   ·rename_i n hn;split at h
    ·cases h
    ·rename_i r Z;cases h;cases Y:Xf 32 l with
     | none=>
      have:Y3 32 l=(l,[]):=by unfold Y3;rw[Y];rfl
      rw[this] at Z;rw[Zt8] at Z;cases Z
     | some q=>
      obtain⟨a,b⟩:=q;have e:Y3 32 l=(a,b):=by unfold Y3;rw[Y];rfl
      rw[e] at hn Z;obtain⟨e1,_⟩:=Zfv Y;obtain⟨f1,f2⟩:=Zfw.1 hn;obtain⟨g1,g2,g3⟩:=(Ziq k b r).1 Z;refine⟨by simp[g1],fun m D=>?_,?_⟩
      ·rcases List.mem_cons.1 D with D|D
       ·subst D;exact f2
       ·exact g2 m D
      ·match r,g1 with
       | m :: r',_=>
        simp only[Zq];rw[e1,<-g3,show a=itoa n from f1]
  ·rintro⟨J,O,h3⟩;match I,J with
   | n :: m :: r,J=>
    simp only[Zq] at h3;have Y:=Zip (c:=32) (b:=Zq (m :: r)) (a:=itoa n) (fun h=>(Zg7 h).2 rfl);have e:Y3 32 l=(itoa n,Zq (m :: r)):=by unfold Y3;rw[h3,Y];rfl
    rw[e];simp only;rw[Zfw.2 ⟨rfl,O n (by simp)⟩];simp only;rw[(Ziq k _ (m :: r)).2 ⟨by simpa using J,fun x hx=>O x (List.mem_cons_of_mem _ hx),rfl⟩]
def Z3 (lo hi:Int)(k:Nat)(s:List UInt8):Option (List Int×List UInt8):=match Xf 10 s with
 | none=>none
 | some q=>match Xo lo hi k q.1 with
  | none=>none
  | some ns=>some (ns,q.2)
theorem Zbg {lo hi:Int}{k:Nat}{s b:List UInt8}{e:List Int}:Z3 lo hi (k+1) s=some (e,b)↔e.length=k+1/\InL lo hi e/\s=Zq e ++ 10 :: b:=by
 unfold Z3;constructor
 ·intro h;split at h
  ·cases h
  ·rename_i q Z;split at h
   ·cases h
   ·rename_i r J;cases h;obtain⟨O,g2,D⟩:=(Ziq k _ _).1 J;refine⟨O,g2,?_⟩;rw[<-D];exact (Zfv Z).1
 ·rintro⟨Y,I,rfl⟩;rw[Zip fun h=>Zof h rfl];simp only;rw[(Ziq k _ e).2 ⟨Y,I,rfl⟩]
def Zr (lo hi:Int)(k:Nat):Nat->List UInt8->List (List Int)×List UInt8×Bool
 | 0,s=>([],s,true)
 | m+1,s=>match Z3 lo hi k s with
  | none=>([],s,false)
  | some q=>(q.1 :: (Zr lo hi k m q.2).1,(Zr lo hi k m q.2).2)
def Zs (e:List (List Int)):List UInt8:=e.flatMap fun r=>Zq r ++ [10]
theorem Ze4 {lo hi:Int}{k:Nat}:∀ (m:Nat) (s b:List UInt8) (rs:List (List Int)),Zr lo hi (k+1) m s=(rs,b,true)↔rs.length=m/\(∀ r∈rs,r.length=k+1/\InL lo hi r)/\s=Zs rs ++ b
 | 0,s,b,rs=>by
  simp only[Zr];constructor
  ·intro h;cases h;exact⟨rfl,by simp,rfl⟩
  ·rintro⟨D,I,J⟩;rw[List.length_eq_zero_iff.1 D] at J ⊢;rw[show s=b from J]
 | m+1,s,b,rs=>by
  simp only[Zr];constructor
  ·intro h;split at h
   ·cases h
   ·rename_i q hq;obtain⟨ns,c⟩:=q;simp only at h;obtain⟨f1,f2,Y⟩:=Zbg.1 hq;cases e:Zr lo hi (k+1) m c with
    | mk rs' bb=>
     rw[e] at h;cases h;obtain⟨g1,g2,O⟩:=(Ze4 m c b rs').1 e;refine⟨by simp[g1],fun r e=>?_,?_⟩
     ·rcases List.mem_cons.1 e with e|e
      ·subst e;exact⟨f1,f2⟩
      ·exact g2 r e
     ·rw[Y,O];simp[Zs]
  ·rintro⟨D,I,J⟩;match rs,D with
   | r :: rs',D=>
    have hl:Z3 lo hi (k+1) s=some (r,Zs rs' ++ b):=Zbg.2 ⟨(I r (by simp)).1,(I r (by simp)).2,by rw[J];simp[Zs]⟩;rw[hl];simp only;rw[(Ze4 m (Zs rs' ++ b) b rs').2 ⟨by simpa using D,fun x Z=>I x (by simp[Z]),rfl⟩]
def Zav (ps ts:List (List Int)):List UInt8:=Zq [(ps.length:Int)] ++ 10 :: (Zs ps ++ (Zq [(ts.length:Int)] ++ 10 :: Zs ts))
inductive ReadR where
 | bad (line:Nat)
 | good (ps ts:List (List Int)) (rest:List UInt8)
def Y7 (n:Nat):Int:=if n=0 then 0 else 9223372036854775807
def Zfx (ps:List (List Int))(s:List UInt8):ReadR:=match Z3 0 (Y7 ps.length) 1 s with
 | none=>.bad (ps.length+2)
 | some q=>match Zr 0 ((ps.length:Int)-1) 3 (q.1.getD 0 0).toNat q.2 with
  | (ts,b,true)=>.good ps ts b
  | (ts,_,false)=>.bad (ps.length+ts.length+3)
def Zde (s:List UInt8):ReadR:=match Z3 0 60 1 s with
 | none=>.bad 1
 | some q=>match Zr (-8000) 8000 2 (q.1.getD 0 0).toNat q.2 with
  | (ps,b,true)=>Zfx ps b
  | (ps,_,false)=>.bad (ps.length+2)
def Xb (s:List UInt8):(List (List Int)×List (List Int)) ⊕ Nat:=match Zde s with
 | .bad n=>.inr n
 | .good ps ts []=>.inl (ps,ts)
 | .good ps ts (_ :: _)=>.inr (ps.length+ts.length+3)
structure TextOk (ps ts:List (List Int)):Prop where
 few:ps.length<=60
 pts:∀ r∈ps,r.length=2/\InL (-8000) 8000 r
 tri:∀ r∈ts,r.length=3/\InL 0 ((ps.length:Int)-1) r
 many:(ts.length:Int)<=9223372036854775807
theorem Zog {s b:List UInt8}{ps ts:List (List Int)}:Zde s= .good ps ts b↔TextOk ps ts/\s=Zav ps ts ++ b:=by
 constructor
 ·intro h;unfold Zde at h;split at h
  ·cases h
  ·rename_i q hq;obtain⟨ns,c⟩:=q;obtain⟨f1,f2,f3⟩:=Zbg.1 hq;match ns,f1 with
   | [n],_=>
    have e:=f2 n (by simp);simp only[List.getD_cons_zero] at h;split at h
    ·rename_i ps' b' hr;obtain⟨g1,g2,Y⟩:=(Ze4 _ _ _ _).1 hr;unfold Zfx at h;split at h
     ·cases h
     ·rename_i q' hq';obtain⟨ms,c'⟩:=q';obtain⟨J,I,k3⟩:=Zbg.1 hq';match ms,J with
      | [m],_=>
       have hm:=I m (by simp);simp only[List.getD_cons_zero] at h;split at h
       ·rename_i ts' b'' hr';cases h;obtain⟨l1,l2,l3⟩:=(Ze4 _ _ _ _).1 hr';have e1:n=ps.length:=by omega
        have e2:m=ts.length:=by omega
        refine⟨⟨by omega,g2,l2,by have:=hm.1.2;omega⟩,?_⟩;rw[f3,Y,k3,l3,e1,e2];simp[Zav]
       ·cases h
    ·cases h
 ·rintro⟨⟨h1,Z,O,h4⟩,rfl⟩;have A:Z3 0 60 1 (Zav ps ts ++ b)=some ([(ps.length:Int)],Zs ps ++ (Zq [(ts.length:Int)] ++ 10 :: (Zs ts ++ b))):=
   Zbg.2 ⟨rfl,fun n e=>by simp only[List.mem_singleton] at e;subst e;exact⟨⟨by omega,by omega⟩,by omega,by omega⟩,by simp[Zav]⟩
  have B:Zr (-8000) 8000 2 ps.length (Zs ps ++ (Zq [(ts.length:Int)] ++ 10 :: (Zs ts ++ b)))=(ps,Zq [(ts.length:Int)] ++ 10 :: (Zs ts ++ b),true):=(Ze4 _ _ _ _).2 ⟨rfl,Z,rfl⟩;have h5:ps.length=0->ts.length=0:=fun h0=>by
   cases ts with
   | nil=>rfl
   | cons t r=>
    obtain⟨J,I⟩:=O t (by simp);match t,J with
    | a :: _,_=>have:=I a (by simp);omega
  have C:Z3 0 (Y7 ps.length) 1 (Zq [(ts.length:Int)] ++ 10 :: (Zs ts ++ b))=some ([(ts.length:Int)],Zs ts ++ b):=
   Zbg.2 ⟨rfl, fun n e => by
     simp only [List.mem_singleton] at e; subst e
     refine ⟨⟨by omega, by omega⟩, by omega, ?_⟩
     unfold Y7
     split
     · have := h5 (by assumption); omega
     · omega, rfl⟩
  have D:Zr 0 ((ps.length:Int)-1) 3 ts.length (Zs ts ++ b)=(ts,b,true):=(Ze4 _ _ _ _).2 ⟨rfl,O,rfl⟩;unfold Zde;rw[A];simp only[List.getD_cons_zero,Int.toNat_natCast];rw[B];simp only;unfold Zfx;rw[C];simp only[List.getD_cons_zero,Int.toNat_natCast];rw[D]
theorem Zt9 {s:List UInt8}{ps ts:List (List Int)}:Xb s= .inl (ps,ts)↔TextOk ps ts/\s=Zav ps ts:=by
 have:=Zog (s:=s) (b:=[]) (ps:=ps) (ts:=ts);rw[List.append_nil] at this;rw[<-this];unfold Xb;split
 ·rename_i h;rw[h];simp
 ·rename_i h;rw[h];simp
 ·rename_i h;rw[h];simp
theorem Zua (ps ts:List (List Int)):Zav ps ts≠ []:=by
 unfold Zav;simp
end Go.Proofs.YtgpapegpdfonpaaGreatDoor
namespace Go.Proofs.YtgpapegpdfonpaaGreatDoor
open Go.RowKit Go.Proofs.Tryz
abbrev bs (l:List UInt8):Value:=.string ⟨l.toArray⟩
theorem Zi6 (l:List UInt8):(⟨l.toArray⟩:ByteArray).data.toList=l:=by simp
theorem Zem (l:List UInt8):(⟨l.toArray⟩:ByteArray).size=l.length:=by simp[ByteArray.size]
theorem Zpw {c:UInt8}{b:List UInt8}:∀ {a:List UInt8},c ∉ a->Lib.indexByte (a ++ c :: b) c=a.length
 | [],_=>by simp[Lib.indexByte]
 | x :: r,h=>by
  simp only[List.mem_cons,not_or] at h;have e:=Zpw (b:=b) h.2;simp only[List.cons_append,Lib.indexByte];rw[if_neg (by simpa using Ne.symm h.1),e];rw[if_neg (by simp)];rfl
theorem Zpx {c:UInt8}:∀ {s:List UInt8},c ∉ s->Lib.indexByte s c= -1
 | [],_=>rfl
 | x :: r,h=>by
  simp only[List.mem_cons,not_or] at h;simp only[Lib.indexByte];rw[if_neg (by simpa using Ne.symm h.1),Zpx h.2];rfl
theorem Zwb (a b:List UInt8)(c:UInt8):(⟨(a ++ c :: b).toArray⟩:ByteArray).extract 0 a.length=⟨a.toArray⟩:=by
 rw[Lib.extract_eq];simp
theorem Zwc (a b:List UInt8)(c:UInt8)(n:Nat)(D:n=(⟨(a ++ c :: b).toArray⟩:ByteArray).size):(⟨(a ++ c :: b).toArray⟩:ByteArray).extract (a.length+1) n=⟨b.toArray⟩:=by
 subst D;rw[Lib.extract_eq,Zem];congr 2;have e:((⟨(a ++ c :: b).toArray⟩:ByteArray).data.toList.drop (a.length+1))=b:=by simp
 rw[e];exact List.take_of_length_le (by simp;omega)
theorem Zpy (s:ByteArray)(c:UInt8)(w:World):Calls prog 185 #[.string s,.string ⟨#[c]⟩] w fun e w'=>e= .returned (.int .i64 (Lib.indexByte s.data.toList c))/\w'=w:=
 Any.stringslite_Index_one layIndex s c w
theorem Zwd (s:ByteArray)(c:UInt8)(n:Nat)(J:Lib.indexByte s.data.toList c=n)(D:n+1<=s.size)(I:s.size<=4611686018427387904)(w:World) :
  Calls prog 169 #[.string s,.string ⟨#[c]⟩] w fun e w'=>e= .returned (.tuple #[.string (s.extract 0 n),.string (s.extract (n+1) s.size),.bool true])/\∃ n,w'=w.drewN n:=by
 have c1:(0:Int)<=(n:Int):=by omega
 have c2:(n:Int)<=(s.size:Int):=by omega
 have c3:(0:Int)<=(n:Int)+1:=by omega
 have c4:(n:Int)+1<=(s.size:Int):=by omega
 have c5:IntKind.i64.wrap ((n:Int)+1)=(n:Int)+1:=Zd (by omega) (by omega);clear D I;go_enter func169,ntmps169;go_wp2_with (go_at_call 185;refine (Zpy s c _).mono ?_;rintro e w' ⟨rfl,rfl⟩;rw[J])
 go_region;go_wp2
 go_ret3;exact⟨rfl,1,rfl⟩
theorem Zwe (s:ByteArray)(c:UInt8)(D:Lib.indexByte s.data.toList c= -1)(w:World) :
  Calls prog 169 #[.string s,.string ⟨#[c]⟩] w fun e w'=>e= .returned (.tuple #[.string s,.string ⟨#[]⟩,.bool false])/\∃ n,w'=w.drewN n:=by
 go_enter func169,ntmps169;go_wp2_with (go_at_call 185;refine (Zpy s c _).mono ?_;rintro e w' ⟨rfl,rfl⟩;rw[D])
 go_ret3;exact⟨rfl,0,rfl⟩
def Zf8 (c:UInt8)(l:List UInt8):Value:=match Xf c l with
 | some q=>.tuple #[bs q.1,bs q.2,.bool true]
 | none=>.tuple #[bs l,bs [],.bool false]
theorem Zwf (c:UInt8)(l:List UInt8)(J:l.length<=4611686018427387904)(w:World) :
  Calls prog 169 #[bs l,.string ⟨#[c]⟩] w fun e w'=>e= .returned (Zf8 c l)/\∃ n,w'=w.drewN n:=by
 unfold Zf8;cases h:Xf c l with
 | none=>
  exact Zwe ⟨l.toArray⟩ c (by rw[Zi6];exact Zpx (Zoe h)) w
 | some q=>
  obtain⟨a,b⟩:=q;obtain⟨rfl,D⟩:=Zfv h;have I:(⟨(a ++ c :: b).toArray⟩:ByteArray).size=a.length+b.length+1:=by rw[Zem];simp;omega
  have:=Zwd ⟨(a ++ c :: b).toArray⟩ c a.length (by rw[Zi6];exact Zpw D) (by rw[I];omega) (by rw[Zem];exact J) w;rw[Zwb,Zwc a b c _ rfl] at this;exact this
theorem Zpz (c:UInt8)(l:List UInt8)(D:l.length<=4611686018427387904)(w:World) :
  Calls prog 144 #[bs l,.string ⟨#[c]⟩] w fun e w'=>e= .returned (Zf8 c l)/\∃ n,w'=w.drewN n:=by
 have H:=fun W=>Zwf c l D W
 unfold Zf8 at H ⊢;clear D;cases h:Xf c l with
 | none=>
  simp only[h] at H;clear h;go_enter func144,ntmps144;go_wp2_with (go_at_call 169;refine (H _).mono ?_;rintro e w' ⟨rfl,n,rfl⟩)
  go_ret3;exact⟨rfl,n,rfl⟩
 | some q=>
  obtain⟨a,b⟩:=q;simp only[h] at H;clear h;go_enter func144,ntmps144;go_wp2_with (go_at_call 169;refine (H _).mono ?_;rintro e w' ⟨rfl,n,rfl⟩)
  go_ret3;exact⟨rfl,n,rfl⟩
structure Vars (w:World):Prop where
 tab:Lib.TabIs prog w "internal/strconv.uint64pow10" .u64 Lib.pow10Tab
 syn:∃ ev,w.cell? ⟨4,0,none⟩=some ev/\(ev= .nilIface\/∃ te pe,ev= .iface te pe)
 ran:∃ ev,w.cell? ⟨5,0,none⟩=some ev/\(ev= .nilIface\/∃ te pe,ev= .iface te pe)
theorem Vars.below {w w':World}(h:Vars w)(D:Below w.heap.size w w'):Vars w':=by
 obtain⟨Y,⟨e,I,Z⟩,⟨f,J,O⟩⟩:=h;exact⟨Lib.tabBelow_of_tabIs Y w' D,⟨e,(D.cell (World.block_lt_of_cell? w _ I)).trans I,Z⟩,⟨f,(D.cell (World.block_lt_of_cell? w _ J)).trans J,O⟩⟩
end Go.Proofs.YtgpapegpdfonpaaGreatDoor
namespace Go.Proofs.YtgpapegpdfonpaaGreatDoor
open Go.RowKit Go.Proofs.Tryz
open Go.Value(int)
open Go.IntKind(i64)
theorem Zwg (s:ByteArray)(D:s.size<=9223372036854775806)(v:Int)(h:Lib.parseIntB 64 s.data.toList= .ok v)(w:World):Calls prog 186 #[.string s,int i64 10,int i64 64] w fun e w'=>e= .returned (.tuple #[int i64 v,.nilIface])/\Below w.heap.size w w':=
 (Any.strconv_ParseInt_10_at64_ok layParse s D v h w).mono fun e w' ⟨I, hw⟩ => ⟨I, by
   rcases hw with rfl | ⟨t, rfl⟩
   · exact Below.refl _ _
   · exact Lib.bytesWorld_below _ _ _⟩
theorem Zwh (s:ByteArray)(Y:s.size<=281474976710656)(h:∀ v,Lib.parseIntB 64 s.data.toList≠ .ok v)(w:World)(V:Vars w):Calls prog 186 #[.string s,int i64 10,int i64 64] w fun e w'=>∃ n N,e= .returned (.tuple #[int i64 n,.iface 260 (.pointer (some ⟨N,0,none⟩))])/\Below w.heap.size w w':=by
 cases O:Lib.parseIntB 64 s.data.toList with
 | ok v=>exact absurd O (h v)
 | «syntax» =>
  obtain⟨J,I,D⟩:=V.syn;exact (Any.strconv_ParseInt_10_at64_syntax layParse s Y O J w I D).mono fun e w' ⟨N,he,_,_,hb⟩=>⟨0,N,he,hb⟩
 | range=>
  obtain⟨J,I,D⟩:=V.ran;exact (Any.strconv_ParseInt_10_at64_range layParse s Y O J w I D).mono fun e w' ⟨N,he,_,_,hb⟩=>⟨_,N,he,hb⟩
theorem Zwi (n:Int)(h:J64 n)(w:World)(V:Vars w):Calls prog 187 #[int i64 n,int i64 10] w fun e w'=>e= .returned (bs (Lib.itoa n))/\Below w.heap.size w w':=
 (Any.strconv_FormatInt_10 layFormat n h.1 h.2 w V.tab).mono fun e w' ⟨D, k, os, hw⟩ => ⟨D, by
   rw [hw]
   exact Lib.below_grow _ _ (Nat.le_refl _) _ _⟩
def Zwj (l:List UInt8)(n:Int):Prop:=∀ m,Zbe l=some m->n=m
theorem Zwk (l:List UInt8)(hl:l.length<=281474976710656)(w:World)(V:Vars w) :
  Calls prog 170 #[bs l] w fun e w'=>∃ n,e= .returned (.tuple #[int i64 n,.bool (Zbe l).isSome])/\Zwj l n/\Below w.heap.size w w':=by
 have Z:(⟨l.toArray⟩:ByteArray).size<=281474976710656:=by rw[Zem];exact hl
 cases I:Lib.parseIntB 64 l with
 | ok v=>
  have HP:=fun W=>Zwg ⟨l.toArray⟩ (by omega) v (by rw[Zi6];exact I) W
  have HF:=fun W (hb:Below w.heap.size w W)=>Zwi v (Zoc I) W (V.below hb)
  by_cases Y:Lib.itoa v=l
  ·have O:Hid (Zbe l=some v):=by unfold Hid Zbe;rw[I];simp[Y]
   rw[Y] at HF;clear I Y Z hl V;go_enter func170,ntmps170
   go_wp2_with (first
     | (go_at_call 186; refine (HP _).mono ?_; rintro e w1 ⟨rfl, D⟩)
     | (go_at_call 187; refine (HF _ D).mono ?_; rintro e w2 ⟨rfl, hb2⟩))
   go_ret2;refine⟨v,?_,fun m J=>?_,D.trans (hb2.mono D.size)⟩
   ·rw[O.out];rfl
   ·rw[O.out] at J;cases J;rfl
  ·have O:Hid (Zbe l=none):=by unfold Hid Zbe;rw[I];simp[Y]
   generalize Lib.itoa v=a at *
   have f1:(a == l)=false:=beq_eq_false_iff_ne.2 Y;clear I Y Z hl V;go_enter func170,ntmps170
   go_wp2_with (first
     | (go_at_call 186; refine (HP _).mono ?_; rintro e w1 ⟨rfl, D⟩)
     | (go_at_call 187; refine (HF _ D).mono ?_; rintro e w2 ⟨rfl, hb2⟩))
   go_ret2;refine⟨v,?_,fun m J=>?_,D.trans (hb2.mono D.size)⟩
   ·rw[O.out];rfl
   ·rw[O.out] at J;cases J
 | _=>
  have O:Hid (Zbe l=none):=by unfold Hid Zbe;rw[I]
  have HP:=Zwh ⟨l.toArray⟩ Z (by rw[Zi6,I];simp) w V;clear I Z hl V;go_enter func170,ntmps170
  go_wp2_with (first
    | (go_at_call 186; refine HP.mono ?_; rintro e w1 ⟨n, N, rfl, D⟩))
  go_ret2;refine⟨n,?_,fun m J=>?_,D⟩
  ·rw[O.out];rfl
  ·rw[O.out] at J;cases J
theorem Zp0 (c:UInt8)(l:List UInt8):Zf8 c l= .tuple #[bs (Y3 c l).1,bs (Y3 c l).2,.bool (Xf c l).isSome]:=by
 unfold Zf8 Y3;cases Xf c l <;> rfl
theorem Zp1 (c:UInt8)(l:List UInt8):(Y3 c l).1.length<=l.length/\(Y3 c l).2.length<=l.length:=by
 unfold Y3;cases h:Xf c l with
 | none=>simp
 | some q=>
  obtain⟨a,b⟩:=q;obtain⟨rfl,_⟩:=Zfv h;simp;omega
theorem Zp2 {lo hi:Int}{l:List UInt8}:Xo lo hi 1 l=(Zbf lo hi l).map ([·]):=by
 simp only[Xo];cases Zbf lo hi l <;> rfl
theorem Zp3 {lo hi:Int}{j:Nat}{l:List UInt8}:Xo lo hi (j+2) l=(Zbf lo hi (Y3 32 l).1).bind fun n=>(Xo lo hi (j+1) (Y3 32 l).2).map (n :: ·):=by
 simp only[Xo];cases Zbf lo hi (Y3 32 l).1 with
 | none=>rfl
 | some n=>cases Xo lo hi (j+1) (Y3 32 l).2 <;> rfl
def F3 (w:World)(F:Nat)(e:List Int):Prop:=w.heap[F]? =some (.cells #[int i64 (e.getD 0 0),int i64 (e.getD 1 0),int i64 (e.getD 2 0)] 178 (0,0))
theorem F3.put {w:World}{F:Nat}{e:List Int}(h:F3 w F e)(D:e.length<3)(n:Int):F3 (w.setCell ⟨F,e.length,none⟩ (int i64 n)) F (e ++ [n]):=by
 unfold F3 at *
 have:=heap_setCell_same w F e.length _ _ (int i64 n) h;rw[this];match e,D with
 | [],_=>rfl
 | [a],_=>rfl
 | [a,b],_=>rfl
end Go.Proofs.YtgpapegpdfonpaaGreatDoor
namespace Go.Proofs.YtgpapegpdfonpaaGreatDoor
open Go.RowKit Go.Proofs.Tryz
open Go.Value(int)
open Go.IntKind(i64)
attribute [local go_sem ↓] Go.wp_at_zero Go.wp_at_succ
theorem F3.below {w w':World}{F:Nat}{e:List Int}(h:F3 w F e)(D:Below w.heap.size w w'):F3 w' F e:=(D.block F (Zh h)).trans h
theorem F3.cells {w:World}{F:Nat}{e:List Int}(h:F3 w F e):w.cell? ⟨F,0,none⟩=some (int i64 (e.getD 0 0))/\w.cell? ⟨F,1,none⟩=some (int i64 (e.getD 1 0))/\w.cell? ⟨F,2,none⟩=some (int i64 (e.getD 2 0))/\∀ j,w.frozen? ⟨F,j,none⟩=false:=
 ⟨Ys h 0,Ys h 1,Ys h 2,fun j=>Zch h j⟩
def Zwl (lo hi:Int)(k:Nat)(l:List UInt8)(x y z:Int):Prop:=∀ e,Xo lo hi k l=some e->x=e.getD 0 0/\y=e.getD 1 0/\z=e.getD 2 0
def Zp4 (lo hi:Int)(k:Nat)(l:List UInt8)(i:Nat)(D:List UInt8)(e:List Int):Prop:=
 e.length=i/\D.length<=l.length/\((i=k/\Xo lo hi k l=some e)\/(i<k/\Xo lo hi k l=(Xo lo hi (k-i) D).map (e ++ ·)))
theorem Zwm (l:List UInt8)(hl:l.length<=281474976710656)(k:Nat)(hk0:0<k)(hk:k<=3)(lo hi:Int)(w:World)(V:Vars w) :
  Calls prog 145 #[bs l,int i64 k,int i64 lo,int i64 hi] w fun e w'=>∃ x y z,e= .returned (.tuple #[.agg #[int i64 x,int i64 y,int i64 z],.bool (Xo lo hi k l).isSome])/\Zwl lo hi k l x y z/\Below w.heap.size w w':=by
 have HV:=Lib.hid V;have HK:=Lib.hid (And.intro hk0 hk);have HL:=Lib.hid hl;have yk:IntKind.i64.wrap ((k:Int)-1)=(k:Int)-1:=Zd (by omega) (by omega);clear V hk0 hk hl;go_enter func145,ntmps145;go_wp2_with fail
 generalize hW:(w.alloc (.cells #[int i64 0,int i64 0,int i64 0] 178)).alloc (.cells #[int i64 0,int i64 0,int i64 0] 178)=W;have hb0:Below w.heap.size w W:=by rw[<-hW];exact Yq _ _ _
 have hF0:F3 W (w.heap.size+1) []:=by
  rw[<-hW];unfold F3;have:=heap_alloc_new (w.alloc (.cells #[int i64 0,int i64 0,int i64 0] 178)) (.cells #[int i64 0,int i64 0,int i64 0] 178);simpa using this
 have hR0:F3 W w.heap.size []:=by
  rw[<-hW];unfold F3;rw[Below.heap_alloc _ _ _ (by simp)];exact heap_alloc_new _ _
 have HB0:=Lib.hid hb0;have HF0:=Lib.hid (And.intro hF0 hR0);clear hW hb0 hF0 hR0;generalize hR:w.heap.size=R at *
 have HR:=Lib.hid hR;clear hR;generalize hF:R+1=F at *
 have HF:=Lib.hid hF;clear hF;go_loopw [0,11,12,13,14,16] (fun s0 _ _ _ _ s16 wr=>∃ (i:Nat) (D:List UInt8) (J:List Int),i<=k/\s0=bs D/\s16=int i64 i/\Zp4 lo hi k l i D J/\F3 wr F J/\F3 wr R []/\Below R w wr) (fun _ _ _ _ _ s16 _=>k-(intOf s16).toNat)
 case atStart=>exact⟨0,l,[],Nat.zero_le _,rfl,rfl,⟨rfl,Nat.le_refl _,.inr ⟨HK.out.1,by simp⟩⟩,HF0.out.1,HF0.out.2,HB0.out⟩
 case round=>
  obtain⟨i,D,J,hik,rfl,rfl,Z,hF3,hR3,hbr⟩:=hrel;by_cases hlt:i<k
  ·obtain⟨n1,n2,n3⟩:=Z;have y1:(i:Int)<(k:Int):=by omega
   have hk3:=HK.out.2;have hlL:=HL.out;have hS:Hid (Xo lo hi k l=(Xo lo hi (k-i) D).map (J ++ ·)):=by
    rcases n3 with ⟨h,_⟩|⟨_,h⟩
    ·omega
    ·exact h
   have HLI:=Lib.hid n2;have HNS:=Lib.hid n1;have yi:IntKind.i64.wrap ((i:Int)+1)=(i:Int)+1:=Zd (by omega) (by omega);have VR:Hid (Vars wr):=HV.out.below (by rw[HR.out];exact hbr);have HF3:=Lib.hid hF3;have HR3:=Lib.hid hR3;clear n1 n2 n3 hF3 hR3;go_upto_if 23 with fail;go_cut [0,12] (fun s0 s12 wx=>∃ O rest,s12=bs O/\s0=bs rest/\((i+1<k/\O=(Y3 32 D).1/\rest=(Y3 32 D).2)\/(i+1=k/\O=D/\rest=D))/\∃ q,wx=wr.drewN q)
   case first=>
    as_aux_lemma=>
    by_cases hj:i+1<k
    ·have y2:(i:Int)<(k:Int)-1:=by omega
     have HC:=fun W=>Zpz 32 D (by have:=HLI.out;omega) W
     rw[Zp0] at HC;have HD:Hid (∃ p,Y3 32 D=p):=⟨_,rfl⟩;generalize (Xf 32 D).isSome=fnd at *
     obtain⟨p1,e1⟩:∃ p1,(Y3 32 D).1=p1:=⟨_,rfl⟩;obtain⟨p2,e2⟩:∃ p2,(Y3 32 D).2=p2:=⟨_,rfl⟩;rw[e1,e2] at HC;have H1:Hid ((Y3 32 D).1=p1/\(Y3 32 D).2=p2):=⟨e1,e2⟩;have HCH:=Lib.hid HC;clear e1 e2 HD hlL HC;go_wp2_with (first|(go_at_call 144;refine (HCH.out _).mono ?_;rintro e w' ⟨rfl,q,rfl⟩))
     go_meet;exact⟨p1,p2,rfl,rfl,.inl ⟨hj,H1.out.1.symm,H1.out.2.symm⟩,q,rfl⟩
    ·have y2:¬ (i:Int)<(k:Int)-1:=by omega
     clear hlL;go_wp2_with fail
     go_meet;exact⟨D,D,rfl,rfl,.inr ⟨by omega,rfl,rfl⟩,0,rfl⟩
   case rest=>
   as_aux_lemma=>
   obtain⟨O,rest,rfl,rfl,hWP,q,rfl⟩:=hcut;have hwl:O.length<=281474976710656/\rest.length<=l.length:=by
    have:=HLI.out;have:=Zp1 32 D;rcases hWP with ⟨_,rfl,rfl⟩|⟨_,rfl,rfl⟩ <;> omega
   have HWP:=Lib.hid hWP;have HWL:=Lib.hid hwl.2;have hbq:Below wr.heap.size wr (wr.drewN q):=Zt (Below.refl _ _);have HNU':=Zwk O hwl.1 (wr.drewN q) (VR.out.below hbq);obtain⟨ok,hok⟩:∃ ok,(Zbe O).isSome=ok:=⟨_,rfl⟩;rw[hok] at HNU';have HNU:=Lib.hid HNU';have HOK:=Lib.hid hok;clear HNU' hok;have hbr2:Below R w (wr.drewN q):=Zt hbr;have HF4:=Lib.hid (HF3.out.below hbq);have HR4:=Lib.hid (HR3.out.below hbq);clear hWP hwl hlL VR HF3 HR3 hbr hbq;generalize wr.drewN q=V at *
   go_upto_region 9 with (first|(go_at_call 170;refine HNU.out.mono ?_;rintro e w2 ⟨n,rfl,hnv,hb2⟩));have HF5:=Lib.hid (HF4.out.below hb2);have HR5:=Lib.hid (HR4.out.below hb2);have hbr3:=hbr2.trans (hb2.mono (by have:=hbr2.size;have:=HR.out;omega));have HNV:=Lib.hid hnv;clear HF4 HR4 hb2 hbr2 HNU hnv;generalize w2=V2 at *
   go_cut [46] (fun s46 wx=>s46= .bool (Zbf lo hi O).isNone/\wx=V2)
   case first=>
    as_aux_lemma=>
    cases ok with
    | false=>
     have H1:Hid ((Zbf lo hi O).isNone=true):=by
      have I:Zbe O=none:=by have:=HOK.out;cases h:Zbe O <;> simp_all
      unfold Hid Zbf;rw[I];rfl
     clear HOK;go_wp2_with fail
     go_meet;exact⟨by rw[H1.out],rfl⟩
    | true=>
     have H0:Hid ((Zbf lo hi O).isNone=(decide (n<lo) || decide (hi<n))):=by
      obtain⟨m,I⟩:=Option.isSome_iff_exists.1 HOK.out;have em:=HNV.out m I;unfold Hid Zbf;rw[I,<-em];by_cases a1:n<lo <;> by_cases a2:hi<n <;> simp[a1,a2]
     clear HNV HOK;by_cases a1:n<lo
     ·have f1:decide (n<lo)=true:=decide_eq_true a1;go_wp2_with fail
      go_meet;exact⟨by rw[H0.out,f1];rfl,rfl⟩
     ·have f1:decide (n<lo)=false:=decide_eq_false a1;by_cases a2:hi<n
      ·have f2:decide (hi<n)=true:=decide_eq_true a2;go_wp2_with fail
       go_meet;exact⟨by rw[H0.out,f1,f2];rfl,rfl⟩
      ·have f2:decide (hi<n)=false:=decide_eq_false a2;go_wp2_with fail
       go_meet;exact⟨by rw[H0.out,f1,f2];rfl,rfl⟩
   case rest=>
   as_aux_lemma=>
   obtain⟨rfl,rfl⟩:=hcut;cases I:Zbf lo hi O with
   | none=>
    have Z:Hid (Xo lo hi k l=none):=by
     unfold Hid;rw[hS.out];rcases HWP.out with ⟨h1,rfl,rfl⟩|⟨h1,rfl,rfl⟩
     ·obtain⟨j,ej⟩:∃ j,k-i=j+2:=⟨k-i-2,by omega⟩;rw[ej,Zp3,I];rfl
     ·have ej:k-i=1:=by omega
      rw[ej,Zp2,I];rfl
    obtain⟨f0,f1,f2,ff⟩:=HF5.out.cells;obtain⟨r0,r1,r2,Y⟩:=HR5.out.cells;have g0:=Y 0;have g1:=Y 1;have g2:=Y 2;clear hS HWP HNV I ff Y;generalize J.getD 0 0=x at *
    generalize J.getD 1 0=y at *
    generalize J.getD 2 0=z at *
    go_wp2
    refine bodyPost_ret (v:=.tuple #[.agg #[int i64 x,int i64 y,int i64 z],.bool false]) (by simp[results,results145,go_sem,r0,r1,r2]) rfl ⟨x,y,z,?_,?_,?_⟩
    ·rw[Z.out];rfl
    ·intro ms hms;rw[Z.out] at hms;cases hms
    ·rw[HR.out];exact ((hbr3.setCell (p:=⟨R,0,none⟩) (Nat.le_refl _) _).setCell (p:=⟨R,1,none⟩) (Nat.le_refl _) _).setCell (p:=⟨R,2,none⟩) (Nat.le_refl _) _
   | some m=>
    have hwm:Zbe O=some m:=by
     unfold Zbf at I;split at I
     ·cases I
     ·rename_i m' hm';split at I
      ·cases I
      ·cases I;exact hm'
    obtain rfl:=HNV.out m hwm;have Z:Hid (Zp4 lo hi k l (i+1) rest (J ++ [n])):=by
     refine⟨by simp[HNS.out],HWL.out,?_⟩;rw[hS.out];rcases HWP.out with ⟨h1,rfl,rfl⟩|⟨h1,rfl,rfl⟩
     ·refine .inr ⟨h1,?_⟩;obtain⟨j,ej⟩:∃ j,k-i=j+2:=⟨k-i-2,by omega⟩;rw[ej,Zp3,I,show k-(i+1)=j+1 by omega];simp only[Option.bind_some,Option.map_map];congr 1;funext r;simp
     ·refine .inl ⟨h1,?_⟩;have ej:k-i=1:=by omega
      rw[ej,Zp2,I];rfl
    have hl3:J.length<3:=by rw[HNS.out];omega
    have HP:=Lib.hid (HF5.out.put hl3 n);rw[HNS.out] at HP;have HPR:Hid (F3 (wc.setCell ⟨F,i,none⟩ (int i64 n)) R []):=by
     have hne:R≠F:=by have:=HF.out;omega
     unfold Hid F3;rw[Below.heap_setCell _ _ _ _ hne];exact HR5.out
    have HBF:Hid (Below R w (wc.setCell ⟨F,i,none⟩ (int i64 n))):=hbr3.setCell (p:=⟨F,i,none⟩) (by have:=HF.out;show R<=F;omega) _;have fc:(wc.cell? ⟨F,i,none⟩).isSome=true:=by
     have h:=HF5.out;unfold F3 at h;rw[Ys h i];have h3:=HK.out.2;match i,hlt with
     | 0,_=>rfl
     | 1,_=>rfl
     | 2,_=>rfl
     | (i+3),h=>exfalso;omega
    obtain⟨u,hu⟩:=Option.isSome_iff_exists.1 fc;have ffz:wc.frozen? ⟨F,i,none⟩=false:=Zch HF5.out i;have y0:(0:Int)<=(i:Int):=by omega
    have y3:(i:Int)<3:=by have:=HK.out.2;omega
    clear I hwm hS HWP HNV HF5 HR5 hbr3 fc hl3;go_wp2
    go_roundw;case rel=>exact⟨i+1,rest,J ++ [n],by omega,rfl,by go_num,Z.out,HP.out,HPR.out,HBF.out⟩
    case measure=>simp[intOf];omega
  ·have y1:¬ (i:Int)<(k:Int):=by omega
   obtain⟨n1,n2,n3⟩:=Z;have hS:Hid (Xo lo hi k l=some J):=by
    rcases n3 with ⟨_,h⟩|⟨h,_⟩
    ·exact h
    ·omega
   obtain⟨f0,f1,f2,ff⟩:=hF3.cells;obtain⟨r0,r1,r2,Y⟩:=hR3.cells;have g0:=Y 0;have g1:=Y 1;have g2:=Y 2;clear n1 n2 n3 ff Y;obtain⟨x,ex⟩:∃ x,J.getD 0 0=x:=⟨_,rfl⟩;obtain⟨y,ey⟩:∃ y,J.getD 1 0=y:=⟨_,rfl⟩;obtain⟨z,ez⟩:∃ z,J.getD 2 0=z:=⟨_,rfl⟩;rw[ex] at f0;rw[ey] at f1;rw[ez] at f2;have HX:Hid (x=J.getD 0 0/\y=J.getD 1 0/\z=J.getD 2 0):=⟨ex.symm,ey.symm,ez.symm⟩;clear ex ey ez;go_wp2
   refine bodyPost_ret (v:=.tuple #[.agg #[int i64 x,int i64 y,int i64 z],.bool true]) (by simp[results,results145,go_sem,r0,r1,r2]) rfl ⟨x,y,z,?_,?_,?_⟩
   ·rw[hS.out];rfl
   ·intro ms hms;rw[hS.out] at hms;cases hms;exact HX.out
   ·have hs:=hbr.size;rw[HR.out];exact ((hbr.setCell (p:=⟨R,0,none⟩) (Nat.le_refl _) _).setCell (p:=⟨R,1,none⟩) (Nat.le_refl _) _).setCell (p:=⟨R,2,none⟩) (Nat.le_refl _) _
def LAt (w:World)(R:Nat)(s:List UInt8)(n:Int):Prop:=w.heap[R]? =some (.cells #[bs s,int i64 n] 129 (0,0))
theorem LAt.below {w w':World}{R:Nat}{s:List UInt8}{n:Int}(h:LAt w R s n)(e:Below w.heap.size w w'):LAt w' R s n:=(e.block R (Zh h)).trans h
theorem LAt.cells {w:World}{R:Nat}{s:List UInt8}{n:Int}(h:LAt w R s n):w.cell? ⟨R,0,none⟩=some (bs s)/\w.cell? ⟨R,1,none⟩=some (int i64 n)/\∀ j,w.frozen? ⟨R,j,none⟩=false:=
 ⟨Ys h 0,Ys h 1,fun j=>Zch h j⟩
theorem LAt.put0 {w:World}{R:Nat}{s:List UInt8}{n:Int}(h:LAt w R s n)(e:List UInt8):LAt (w.setCell ⟨R,0,none⟩ (bs e)) R e n:=by
 unfold LAt at *
 rw[heap_setCell_same w R 0 _ _ (bs e) h];rfl
theorem LAt.put1 {w:World}{R:Nat}{s:List UInt8}{n:Int}(h:LAt w R s n)(e:Int):LAt (w.setCell ⟨R,1,none⟩ (int i64 e)) R s e:=by
 unfold LAt at *
 rw[heap_setCell_same w R 1 _ _ (int i64 e) h];rfl
theorem Chg.setAt {F:Nat->Prop}{w w':World}(h:Chg F w w'){R o:Nat}(e:F R\/w.heap.size<=R)(v:Value):Chg F w (w'.setCell ⟨R,o,none⟩ v):=
 ⟨h.os, h.tape, h.output, by simpa using h.size, fun k I D => by
   have J : k ≠ R := by
     rintro rfl
     rcases e with e | e
     · exact D e
     · omega
   rw [Below.heap_setCell _ _ _ _ J]; exact h.far k I D⟩
theorem Zwn:prog.globalNamed "internal/strconv.uint64pow10" =some 0:=by kernel_rfl
theorem Vars.below6 {w w':World}(h:Vars w)(D:Below 6 w w'):Vars w':=by
 obtain⟨I,⟨e,J,h3⟩,⟨f,Y,O⟩⟩:=h;refine⟨?_,⟨e,(D.cell (p:=⟨4,0,none⟩) (by decide)).trans J,h3⟩,⟨f,(D.cell (p:=⟨5,0,none⟩) (by decide)).trans Y,O⟩⟩;have Z:=D.block 0 (by decide);unfold Lib.TabIs World.var? at *
 rw[Zwn] at I ⊢;simp only[Option.bind_some] at I ⊢;rw[Z];exact I
def Zwo (lo hi:Int)(k:Nat)(s:List UInt8)(x y z:Int)(D:List UInt8):Prop:=∀ e b,Z3 lo hi k s=some (e,b)->x=e.getD 0 0/\y=e.getD 1 0/\z=e.getD 2 0/\D=b
structure NextPost (w w':World)(R:Nat)(lo hi:Int)(k:Nat)(s:List UInt8)(n x y z:Int)(s':List UInt8):Prop where
 val:Zwo lo hi k s x y z s'
 len:s'.length<=s.length
 at':LAt w' R s' (n+1)
 chg:Chg (fun k=>k=R) w w'
theorem Zi7 (R:Nat)(s:List UInt8)(n:Int)(k:Nat)(lo hi:Int)(w:World)(V:Vars w)(hR:LAt w R s n)(hR6:6<=R)(hs:s.length<=281474976710656)(hn0:0<=n)(hn:n<=281474976710656)(hk0:0<k)(hk:k<=3) :
  Calls prog 116 #[.pointer (some ⟨R,0,none⟩),int i64 k,int i64 lo,int i64 hi] w fun e w'=>∃ x y z s',e= .returned (.tuple #[.agg #[int i64 x,int i64 y,int i64 z],.bool (Z3 lo hi k s).isSome])/\NextPost w w' R lo hi k s n x y z s':=by
 have hRl:=Zh hR;have hb0:=Zb w (.cells #[int i64 0,int i64 0,int i64 0] 178);have yn:IntKind.i64.wrap (n+1)=n+1:=Zd (by omega) (by omega);generalize hW:w.alloc (.cells #[int i64 0,int i64 0,int i64 0] 178)=W at *
 have hQ:F3 W w.heap.size []:=by rw[<-hW];exact heap_alloc_new _ _
 have hR1:=hR.below hb0;obtain⟨r0,r1,O⟩:=hR1.cells;have rf1:=O 1;have HR2:=Lib.hid (hR1.put1 (n+1));have hC2:Chg (fun k=>k=R) w (W.setCell ⟨R,1,none⟩ (int i64 (n+1))):=Chg.setAt (F:=fun k=>k=R) (Chg.of_below hb0) (.inl rfl) _;have HC2:=Lib.hid hC2;have hQ2:F3 (W.setCell ⟨R,1,none⟩ (int i64 (n+1))) w.heap.size []:=by unfold F3;rw[Below.heap_setCell _ _ _ _ (show w.heap.size≠R by omega)];exact hQ
 have HQ2:=Lib.hid hQ2;have HV2:Hid (Vars (W.setCell ⟨R,1,none⟩ (int i64 (n+1)))):=V.below6 (hC2.below (by omega) fun k hk hF=>by omega);have HCU:=Lib.hid (fun W=>Zpz 10 s (by omega) W);have HS:=Lib.hid hs;have HK:=Lib.hid (And.intro hk0 hk);have HN:=Lib.hid (And.intro hRl hR6);clear hQ hR1 O hC2 hQ2 V hs hk0 hk hb0 hR;go_enter func116,ntmps116;go_upto_region 1 with fail;clear hW;go_upto_region 2 with fail;clear r0 r1 rf1 yn;generalize W.setCell ⟨R,1,none⟩ (int i64 (n+1))=W2 at *
 obtain⟨r0,r1,O⟩:=HR2.out.cells;have hcd:=Zp1 10 s;have HCU2:Hid (∀ W,Calls prog 144 #[bs s,.string ⟨#[10]⟩] W fun e w'=>e= .returned (.tuple #[bs (Y3 10 s).1,bs (Y3 10 s).2,.bool (Xf 10 s).isSome])/\∃ n,w'=W.drewN n):=fun W=>by have:=HCU.out W;rw[Zp0] at this;exact this
 have HD:Hid (∀ q,Xf 10 s=some q->Y3 10 s=q):=fun q hq=>by unfold Y3;rw[hq];rfl
 obtain⟨Y,e1⟩:∃ Y,(Y3 10 s).1=Y:=⟨_,rfl⟩;obtain⟨J,e2⟩:∃ J,(Y3 10 s).2=J:=⟨_,rfl⟩;obtain⟨fnd,e3⟩:∃ fnd,(Xf 10 s).isSome=fnd:=⟨_,rfl⟩;rw[e1,e2,e3] at HCU2;rw[e1,e2] at hcd;have HE:=Lib.hid (And.intro e1 (And.intro e2 e3));have HCD:=Lib.hid hcd;have rf0:=O 0;clear e1 e2 e3 HCU hcd O;go_upto_region 3 with (first|(go_at_call 144;refine (HCU2.out _).mono ?_;rintro e w' ⟨rfl,q,rfl⟩));have hbq:Below W2.heap.size W2 (W2.drewN q):=Zt (Below.refl _ _);have HR3:=Lib.hid (HR2.out.below hbq);have HQ3:=Lib.hid (HQ2.out.below hbq);have HV3:=Lib.hid (HV2.out.below hbq);have HC3:Hid (Chg (fun k=>k=R) w (W2.drewN q)):=HC2.out.drewN;clear HR2 HQ2 HV2 HC2 hbq HCU2 r0 r1 rf0;generalize W2.drewN q=W3 at *
 cases fnd with
 | false=>
  have hL:Hid (Z3 lo hi k s=none):=by
   have:Xf 10 s=none:=by have:=HE.out.2.2;cases h:Xf 10 s <;> simp_all
   unfold Hid Z3;rw[this]
  obtain⟨z0,z1,z2,I⟩:=HQ3.out.cells;have g0:=I 0;have g1:=I 1;have g2:=I 2;clear I;have HR4:Hid (LAt (((W3.setCell ⟨w.heap.size,0,none⟩ (int i64 0)).setCell ⟨w.heap.size,1,none⟩ (int i64 0)).setCell ⟨w.heap.size,2,none⟩ (int i64 0)) R s (n+1)):=by
   have D:R≠w.heap.size:=by have:=HN.out.1;omega
   unfold Hid LAt;rw[Below.heap_setCell _ _ _ _ D,Below.heap_setCell _ _ _ _ D,Below.heap_setCell _ _ _ _ D];exact HR3.out
  have HC4:Hid (Chg (fun k=>k=R) w (((W3.setCell ⟨w.heap.size,0,none⟩ (int i64 0)).setCell ⟨w.heap.size,1,none⟩ (int i64 0)).setCell ⟨w.heap.size,2,none⟩ (int i64 0))):=
   ((HC3.out.setAt (.inr (Nat.le_refl _)) _).setAt (.inr (Nat.le_refl _)) _).setAt (.inr (Nat.le_refl _)) _
  go_wp2
  refine bodyPost_ret (v:=.tuple #[.agg #[int i64 0,int i64 0,int i64 0],.bool false]) (by simp[results,results116,go_sem,z0,z1,z2]) rfl ⟨0,0,0,s,?_,?_,Nat.le_refl _,HR4.out,HC4.out⟩
  ·rw[hL.out];rfl
  ·intro ns b h;rw[hL.out] at h;cases h
 | true=>
  have hCut:Hid (Xf 10 s=some (Y,J)):=by
   obtain⟨h1,h2,h3⟩:=HE.out;obtain⟨qq,hq⟩:=Option.isSome_iff_exists.1 h3;have:=HD.out qq hq;rw[this] at h1 h2;unfold Hid;rw[hq,<-h1,<-h2]
  have HR4:=Lib.hid (HR3.out.put0 J);obtain⟨r0,r1,O⟩:=HR3.out.cells;have rf0:=O 0;have hC4:Chg (fun k=>k=R) w (W3.setCell ⟨R,0,none⟩ (bs J)):=HC3.out.setAt (.inl rfl) _;have HC4:=Lib.hid hC4;have HQ4:Hid (F3 (W3.setCell ⟨R,0,none⟩ (bs J)) w.heap.size []):=by
   have D:w.heap.size≠R:=by have:=HN.out.1;omega
   unfold Hid F3;rw[Below.heap_setCell _ _ _ _ D];exact HQ3.out
  have hV4:Vars (W3.setCell ⟨R,0,none⟩ (bs J)):=HV3.out.below6 ⟨rfl,rfl,rfl,by simp,fun j hj=>Below.heap_setCell _ _ _ _ (by have:=HN.out.2;show j≠R;omega)⟩;have HNU:=Lib.hid (Zwm Y (by have:=HCD.out;have:=HS.out;omega) k HK.out.1 HK.out.2 lo hi _ hV4);obtain⟨okB,eo⟩:∃ okB,(Xo lo hi k Y).isSome=okB:=⟨_,rfl⟩;rw[eo] at HNU;have HO:=Lib.hid eo;clear O eo hC4 hV4 HV3 HC3 HR3 HQ3;go_upto_region 6 with fail;clear r0 r1 rf0;generalize W3.setCell ⟨R,0,none⟩ (bs J)=W4 at *
  obtain⟨z0,z1,z2,I⟩:=HQ4.out.cells;have g0:=I 0;have g1:=I 1;have g2:=I 2;have hQl:=Zh HQ4.out;clear I
  go_wp2_with (first | (go_at_call 145; refine HNU.out.mono ?_; rintro e w5 ⟨x, y, z, rfl, hnp, Z⟩
                        have z0 := (Z.cell (p := ⟨w.heap.size, 0, none⟩) hQl).trans z0
                        have z1 := (Z.cell (p := ⟨w.heap.size, 1, none⟩) hQl).trans z1
                        have z2 := (Z.cell (p := ⟨w.heap.size, 2, none⟩) hQl).trans z2
                        have fz : ∀ j, w5.frozen? ⟨w.heap.size, j, none⟩ = false := fun j => Zch (HQ4.out.below Z) j
                        have g0 := fz 0
                        have g1 := fz 1
                        have g2 := fz 2))
  refine bodyPost_ret (v:=.tuple #[.agg #[int i64 x,int i64 y,int i64 z],.bool okB]) (by simp[results,results116,go_sem,z0,z1,z2]) rfl ⟨x,y,z,J,?_,?_,HCD.out.2,?_,?_⟩
  ·have:(Z3 lo hi k s).isSome=okB:=by
    rw[<-HO.out];unfold Z3;rw[hCut.out];simp only;cases Xo lo hi k Y <;> rfl
   rw[this]
  ·intro ns b h;unfold Z3 at h;rw[hCut.out] at h;simp only at h;cases hms:Xo lo hi k Y with
   | none=>rw[hms] at h;cases h
   | some ms=>
    rw[hms] at h;cases h;obtain⟨a1,a2,a3⟩:=hnp _ hms;exact⟨a1,a2,a3,rfl⟩
  ·have D:R≠w.heap.size:=by have:=HN.out.1;omega
   unfold LAt;rw[Below.heap_setCell _ _ _ _ D,Below.heap_setCell _ _ _ _ D,Below.heap_setCell _ _ _ _ D];exact HR4.out.below Z
  ·exact ((((HC4.out.trans (Chg.of_below Z) fun _ _ h=>h).setAt (.inr (Nat.le_refl _)) _).setAt (.inr (Nat.le_refl _)) _).setAt (.inr (Nat.le_refl _)) _)
end Go.Proofs.YtgpapegpdfonpaaGreatDoor
namespace Go.Proofs.YtgpapegpdfonpaaGreatDoor
open Go.Lib
theorem Zqs {u:Nat}:∀ {k:Nat},0<k->u<10 ^ k->(decDigits u).length<=k:=by
 induction u using Nat.strongRecOn with
 | ind u ih=>
  intro k D e;rw[decDigits];by_cases h:u<10
  ·rw[dif_pos h];simp;omega
  ·rw[dif_neg h];match k,D with
   | 1,_=>omega
   | k+2,_=>
    have:=ih (u / 10) (by omega) (k:=k+1) (by omega) (by rw[Nat.pow_succ] at e;omega);simp;omega
theorem Zd3 {n:Int}(h:J64 n):(itoa n).length<=20:=by
 unfold J64 at h;unfold itoa;split
 ·have:=Zqs (u:=n.natAbs) (k:=19) (by omega) (by omega);simp;omega
 ·have:=Zqs (u:=n.toNat) (k:=19) (by omega) (by omega);omega
theorem Zl5 {u:Nat}(h:¬ u<10):decDigits u=decDigits (u / 10) ++ [UInt8.ofNat (48+u % 10)]:=by
 rw[decDigits,dif_neg h]
theorem Zl6 {u:Nat}(h:u<10):decDigits u=[UInt8.ofNat (48+u)]:=by
 rw[decDigits,dif_pos h]
theorem Zyn {n:Int}(e:0<=n)(D:n<10):itoa n=[UInt8.ofNat (48+n.toNat)]:=by
 rw[itoa,if_neg (by omega),Zl6 (by omega)]
theorem Zyo {n:Int}(e:n<0)(D: -10<n):itoa n=[45,UInt8.ofNat (48+n.natAbs)]:=by
 rw[itoa,if_pos e,Zl6 (by omega)]
theorem Zyp {n:Int}(h:n<= -10\/10<=n):itoa n=itoa (n.tdiv 10) ++ [UInt8.ofNat (48+(n.tmod 10).natAbs)]:=by
 rcases h with h|h
 ·have D:(n.tdiv 10)= -((n.natAbs / 10:Nat):Int):=by
   obtain⟨u,rfl⟩:∃ u:Nat,n= -(u:Int):=⟨n.natAbs,by omega⟩;rw[Int.neg_tdiv];simp
  have e:(n.tmod 10).natAbs=n.natAbs % 10:=by
   obtain⟨u,rfl⟩:∃ u:Nat,n= -(u:Int):=⟨n.natAbs,by omega⟩;rw[Int.neg_tmod];simp
  rw[e,itoa,if_pos (by omega),itoa,if_pos (by omega),Zl5 (by omega)];rw[show (n.tdiv 10).natAbs=n.natAbs / 10 by omega];rfl
 ·have D:(n.tdiv 10)=((n.toNat / 10:Nat):Int):=by
   obtain⟨u,rfl⟩:∃ u:Nat,n=(u:Int):=⟨n.toNat,by omega⟩;simp
  have e:(n.tmod 10).natAbs=n.toNat % 10:=by
   obtain⟨u,rfl⟩:∃ u:Nat,n=(u:Int):=⟨n.toNat,by omega⟩;simp
  rw[e,itoa,if_neg (by omega),itoa,if_neg (by omega),Zl5 (by omega)];rw[show (n.tdiv 10).toNat=n.toNat / 10 by omega]
def Zdn (x:Int):Int:=(x+9223372036854775808) % 18446744073709551616-9223372036854775808
theorem Zjm {x:Int}(h:J64 x):Zdn x=x:=by unfold J64 at h;unfold Zdn;omega
theorem Zyq (x:Int):J64 (Zdn x):=by unfold J64 Zdn;omega
theorem Zyr (x d:Int):Zdn (Zdn (x*10)+d)=Zdn (x*10+d):=by unfold Zdn;omega
def Zge (c:UInt8):Int:=((c-48).toNat:Int)
theorem Zqt {d:Nat}(h:d<10):Zge (UInt8.ofNat (48+d))=d:=by
 unfold Zge;have:(UInt8.ofNat (48+d)-48).toNat=d:=by
  rw[UInt8.toNat_sub,Zg6 h];simp;omega
 rw[this]
def stepV (m:Bool)(n:Int)(c:UInt8):Int:=Zdn (n*10+(if m then-Zge c else Zge c))
def Zcx (m:Bool)(n:Int)(s:List UInt8):Int:=s.foldl (stepV m) n
def Xz:List UInt8->Bool
 | 45 :: _=>true
 | _=>false
def Zbn (s:List UInt8):Int:=if Xz s then Zcx true 0 s.tail else Zcx false 0 s
theorem Zl7 (m:Bool):∀ (s:List UInt8) (n:Int),J64 n->J64 (Zcx m n s)
 | [],n,h=>h
 | c :: r,n,h=>Zl7 m r _ (Zyq _)
theorem Zqu (s:List UInt8):J64 (Zbn s):=by
 unfold Zbn;split
 ·exact Zl7 _ _ _ (by unfold J64;omega)
 ·exact Zl7 _ _ _ (by unfold J64;omega)
theorem Zqv (m:Bool)(u:Nat):u<=9223372036854775807+(if m then 1 else 0)->Zcx m 0 (decDigits u)=if m then -(u:Int) else u:=by
 induction u using Nat.strongRecOn with
 | ind u ih=>
  intro e;by_cases h:u<10
  ·rw[Zl6 h];show stepV m 0 _=_
   unfold stepV;rw[Zqt h];cases m
   ·simp only[Bool.false_eq_true,if_false];rw[Zjm (by unfold J64;omega)];omega
   ·simp only[if_true];rw[Zjm (by unfold J64;omega)];omega
  ·rw[Zl5 h];unfold Zcx;rw[List.foldl_append];show stepV m (Zcx m 0 (decDigits (u / 10))) _=_
   rw[ih (u / 10) (by omega) (by omega)];unfold stepV;rw[Zqt (by omega)];cases m
   ·simp only[Bool.false_eq_true,if_false] at e ⊢;rw[Zjm (by unfold J64;omega)];omega
   ·simp only[if_true] at e ⊢;rw[Zjm (by unfold J64;omega)];omega
theorem Zys (u:Nat):Xz (decDigits u)=false:=by
 cases e:decDigits u with
 | nil=>rfl
 | cons c r=>
  have:=Ze3 u c (by rw[e];simp);unfold Xz;split
  ·rename_i h;cases h;revert this;decide
  ·rfl
theorem Zyt {n:Int}(h:J64 n):Zbn (itoa n)=n:=by
 unfold J64 at h;unfold itoa;split
 ·rename_i e;unfold Zbn;rw[show Xz (45 :: decDigits n.natAbs)=true from rfl];simp only[if_true,List.tail_cons];rw[Zqv true _ (by simp;omega)];simp;omega
 ·rename_i e;unfold Zbn;rw[Zys];simp only[Bool.false_eq_true,if_false];rw[Zqv false _ (by simp;omega)];simp;omega
def Zaq (lo hi:Int)(e:UInt8)(s:List UInt8):Option (Int×List UInt8):=match Xf e s with
 | none=>none
 | some q=>match Zbf lo hi q.1 with
  | none=>none
  | some n=>some (n,q.2)
theorem Zet {lo hi n:Int}{e:UInt8}{s b:List UInt8}(O:e=10\/e=32):Zaq lo hi e s=some (n,b)↔s=itoa n ++ e :: b/\J64 n/\lo<=n/\n<=hi:=by
 unfold Zaq;constructor
 ·intro h;split at h
  ·cases h
  ·rename_i q Y;split at h
   ·cases h
   ·rename_i r I;cases h;obtain⟨J,g2⟩:=Zfw.1 I;refine⟨?_,g2⟩;rw[<-J];exact (Zfv Y).1
 ·rintro⟨rfl,D⟩;rw[Zip fun h=>by rcases O with rfl|rfl;exact (Zg7 h).1 rfl;exact (Zg7 h).2 rfl];simp only;rw[Zfw.2 ⟨rfl,D⟩]
def X0 (lo hi:Int):Nat->List UInt8->Option (List Int×List UInt8)
 | 0,s=>some ([],s)
 | 1,s=>match Zaq lo hi 10 s with
  | none=>none
  | some q=>some ([q.1],q.2)
 | k+2,s=>match Zaq lo hi 32 s with
  | none=>none
  | some q=>match X0 lo hi (k+1) q.2 with
   | none=>none
   | some r=>some (q.1 :: r.1,r.2)
theorem Zjn {lo hi:Int}:∀ (k:Nat) (s b:List UInt8) (J:List Int),X0 lo hi (k+1) s=some (J,b)↔J.length=k+1/\InL lo hi J/\s=Zq J ++ 10 :: b
 | 0,s,b,J=>by
  simp only[X0];constructor
  ·intro h;split at h
   ·cases h
   ·rename_i q Y;cases h;obtain⟨e,D⟩:=(Zet (Or.inl rfl)).1 Y;refine⟨rfl,fun m I=>?_,e⟩;simp only[List.mem_singleton] at I;subst I;exact D
  ·rintro⟨e,D,O⟩;match J,e with
   | [n],_=>rw[(Zet (Or.inl rfl)).2 ⟨O,D n (by simp)⟩]
 | k+1,s,b,J=>by
  simp only[X0];constructor
  ·intro h;split at h
   ·cases h
   ·rename_i q Y;split at h
    ·cases h
    ·rename_i r hr;cases h;obtain⟨e,D⟩:=(Zet (Or.inr rfl)).1 Y;obtain⟨Z,g2,g3⟩:=(Zjn k _ _ _).1 hr;refine⟨by simp[Z],fun m I=>?_,?_⟩
     ·rcases List.mem_cons.1 I with I|I
      ·subst I;exact D
      ·exact g2 m I
     ·match hr1:r.1,Z with
      | m :: r',_=>
       simp only[Zq];rw[e,g3,hr1];simp
  ·rintro⟨e,D,O⟩;match J,e with
   | n :: m :: r,e=>
    simp only[Zq] at O;rw[(Zet (n:=n) (b:=Zq (m :: r) ++ 10 :: b) (Or.inr rfl)).2 ⟨by rw[O];simp,D n (by simp)⟩];simp only;rw[(Zjn k _ b (m :: r)).2 ⟨by simpa using e,fun x hx=>D x (List.mem_cons_of_mem _ hx),rfl⟩]
theorem Zjo (lo hi:Int)(k:Nat)(s:List UInt8):X0 lo hi (k+1) s=Z3 lo hi (k+1) s:=by
 cases h:X0 lo hi (k+1) s with
 | some q=>
  obtain⟨e,b⟩:=q;exact ((Zbg).2 ((Zjn k s b e).1 h)).symm
 | none=>
  cases g:Z3 lo hi (k+1) s with
  | none=>rfl
  | some q=>
   obtain⟨e,b⟩:=q;rw[(Zjn k s b e).2 (Zbg.1 g)] at h;cases h
def Zb7 (c:UInt8):Prop:=48<=c.toNat/\c.toNat<=57
structure ScanAt (s:List UInt8)(i:Nat):Prop where
 lo:(if Xz s then 1 else 0)<=i
 hi:i<=s.length
 digs:∀ j c,(if Xz s then 1 else 0)<=j->j<i->s[j]? =some c->Zb7 c
theorem Zyu (n:Int):∃ c r,itoa n=c :: r/\(∀ d∈r,Zb7 d)/\(c=45\/Zb7 c):=by
 unfold itoa;split
 ·exact⟨45,_,rfl,fun d e=>Ze3 _ d e,Or.inl rfl⟩
 ·cases e:decDigits n.toNat with
  | nil=>exact absurd e (Zio _)
  | cons c r=>
   refine⟨c,r,rfl,fun d D=>Ze3 n.toNat d (by rw[e];exact List.mem_cons_of_mem _ D),Or.inr (Ze3 n.toNat c (by rw[e];simp))⟩
theorem Zqw {s b:List UInt8}{n:Int}{e:UInt8}{i:Nat}(he:e=10\/e=32)(hn:J64 n)(J:s=itoa n ++ e :: b)(h:ScanAt s i)(D:i=s.length\/(∀ c,s[i]? =some c->¬ Zb7 c)\/20<=i):i=(itoa n).length:=by
 obtain⟨c,r,O,hr,I⟩:=Zyu n;have hl:=Zd3 hn;have hlo:=h.lo;have hdig:=h.digs;have hsl:s.length=(itoa n).length+1+b.length:=by rw[J];simp;omega
 have ab:(itoa n).length=r.length+1:=by rw[O];simp
 have hm:(if Xz s then 1 else 0:Nat)<=1:=by split <;> omega
 have hat:∀ j,j<(itoa n).length->s[j]? =(itoa n)[j]? :=fun j hj=>by rw[J,List.getElem?_append_left hj]
 have aa:s[(itoa n).length]? =some e:=by rw[J,List.getElem?_append_right (by omega)];simp
 have hne:¬ Zb7 e:=by unfold Zb7;rcases he with rfl|rfl <;> decide
 have hd:∀ j,(if Xz s then 1 else 0:Nat)<=j->j<(itoa n).length->∃ d,s[j]? =some d/\Zb7 d:=by
  intro j Z Y;rw[hat j Y,O];match j with
  | 0=>
   refine⟨c,rfl,?_⟩;rcases I with I|I
   ·exfalso;have:Xz s=true:=by rw[J,O,I];rfl
    rw[this] at Z;simp at Z
   ·exact I
  | j+1=>
   rw[ab] at Y;refine⟨r[j]'(by omega),by simp,hr _ (List.getElem_mem _)⟩
 rcases Nat.lt_trichotomy i (itoa n).length with hlt|ac|hgt
 ·exfalso;obtain⟨d,g1,g2⟩:=hd i hlo hlt;rcases D with D|D|D
  ·omega
  ·exact D d g1 g2
  ·omega
 ·exact ac
 ·exfalso;exact hne (hdig _ e (by omega) hgt aa)
theorem Zqx {s b:List UInt8}{n:Int}{e:UInt8}(D:s=itoa n ++ e :: b):s.take (itoa n).length=itoa n/\s.drop ((itoa n).length+1)=b/\s[(itoa n).length]? =some e/\(itoa n).length<s.length:=by
 subst D;refine⟨by simp,?_,by rw[List.getElem?_append_right (by omega)];simp,by simp⟩;rw[show itoa n ++ e :: b=(itoa n ++ [e]) ++ b by simp,List.drop_left' (by simp)]
theorem Zqy {s:List UInt8}{lo hi:Int}{e:UInt8}{i:Nat}(D:e=10\/e=32)(h:ScanAt s i)(Y:i=s.length\/(∀ c,s[i]? =some c->¬ Zb7 c)\/20<=i)(J:s[i]? ≠some e):Zaq lo hi e s=none:=by
 cases O:Zaq lo hi e s with
 | none=>rfl
 | some q=>
  obtain⟨n,b⟩:=q;obtain⟨I,g2,_⟩:=(Zet D).1 O;rw[Zqw D g2 I h Y] at J;exact absurd (Zqx I).2.2.1 J
theorem Zyv {s:List UInt8}{lo hi:Int}{e:UInt8}{i:Nat}(J:e=10\/e=32)(h:ScanAt s i)(hx:i=s.length\/(∀ c,s[i]? =some c->¬ Zb7 c)\/20<=i)(D:s[i]? =some e) :
  Zaq lo hi e s=if itoa (Zbn (s.take i))=s.take i/\lo<=Zbn (s.take i)/\Zbn (s.take i)<=hi then some (Zbn (s.take i),s.drop (i+1)) else none:=by
 have Z:i<s.length:=by
  rcases Nat.lt_or_ge i s.length with O|O
  ·exact O
  ·rw[List.getElem?_eq_none O] at D;cases D
 split
 ·rename_i I;refine (Zet J).2 ⟨?_,Zqu _,I.2⟩;rw[I.1];have:s[i]=e:=by rw[List.getElem?_eq_getElem Z] at D;exact Option.some.inj D
  rw[<-this,<-List.drop_eq_getElem_cons Z,List.take_append_drop]
 ·rename_i I;cases hn:Zaq lo hi e s with
  | none=>rfl
  | some q=>
   obtain⟨n,b⟩:=q;obtain⟨Y,g2,g3⟩:=(Zet J).1 hn;exfalso;apply I;rw[Zqw J g2 Y h hx,(Zqx Y).1,Zyt g2];exact⟨rfl,g3⟩
end Go.Proofs.YtgpapegpdfonpaaGreatDoor
