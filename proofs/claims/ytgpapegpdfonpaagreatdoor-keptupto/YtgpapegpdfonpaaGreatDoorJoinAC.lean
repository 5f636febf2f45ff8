/-
  A map whose keys are two numbers, as what it holds at each two.
  The small functions of the package join.
  Triangles are put into the map.
-/
import Derived.Test.YtgpapegpdfonpaaGreatDoorWalksC
import Derived.Maps.RangeWalk
import Derived.Maps.OwnSet
import Derived.WideKeyPair
import Derived.Test.YtgpapegpdfonpaaGreatDoorGrow
import Derived.Deep.RegionHeld3
namespace Go.Proofs.YtgpapegpdfonpaaGreatDoor
set_option linter.unusedVariables false
set_option linter.unusedSimpArgs false
open Go.RowKit Go.Maps
open Go.MapKept Go.ChangeMaps

def I64 (a : Int) : Prop := (Lit.int .i64 a).wf = true
theorem i64_of {a : Int} (h : -9223372036854775808 ≤ a) (k : a ≤ 9223372036854775807) : I64 a := WalkArith.wf_i64 ⟨by omega, by omega⟩

abbrev keyv (a b : Int) : Value := .agg #[.int .i64 a, .int .i64 b]
def kl (a b : Int) : Lit := .string (keyBytes [.int .i64 a, .int .i64 b])

/-- a type of keys: an array of two numbers -/
structure PairKey (P : Program) (K : TypeId) : Prop where
  ex : ∃ e, WideMaps.ArrKey P K e 2 ∧ P.underlying e = some (.int .i64)
  sz : ∃ m, P.types.size = m + 1

section
variable {P : Program} {K : TypeId} (X : PairKey P K)
include X
theorem PairKey.law : Keyed P K := by obtain ⟨e, A, _⟩ := X.ex; exact Keyed.of_law A.law
theorem key_mk {a b : Int} (ha : I64 a) (hb : I64 b) : keyOf P K (keyv a b) = some (kl a b) := by obtain ⟨e, A, he⟩ := X.ex; exact WideMaps.keyOf_pair A he X.sz ha hb
theorem kl_inj {a b a' b' : Int} (ha : I64 a) (hb : I64 b) (ha' : I64 a') (hb' : I64 b') (e : kl a b = kl a' b') : a = a' ∧ b = b' := by
  have h1 := key_mk X ha hb
  have h2 := key_mk X ha' hb'
  rw [← e] at h2
  have := X.law.inj h1 h2
  simpa using this
theorem key_inv {v : Value} {l : Lit} (h : keyOf P K v = some l) : ∃ a b, I64 a ∧ I64 b ∧ v = keyv a b ∧ l = kl a b := by
  obtain ⟨e, arrK, he⟩ := X.ex
  unfold keyOf at h
  simp only [arrK.hu] at h
  split at h
  · rename_i hc
    simp only [Bool.and_eq_true] at hc
    have hf := hc.2
    cases v with
    | agg cs =>
      simp only [Value.formed, arrK.hu, arrK.size, beq_iff_eq] at hf
      obtain ⟨cl⟩ := cs
      match cl, hf with
      | [c0, c1], _ =>
        obtain ⟨m, hm⟩ := X.sz
        rw [hm] at h
        unfold Program.keyLits at h
        simp only [arrK.hu, Value.cells] at h
        rw [if_pos (by rw [arrK.size]; rfl), show List.range 2 = [0, 1] from rfl, List.mapM_cons, List.mapM_cons, List.mapM_nil] at h
        simp only [Option.map_eq_some_iff, bind, Option.bind_eq_some_iff, pure, Option.some.injEq, arrK.one] at h
        obtain ⟨ls, ⟨_, ⟨l0, h0', _, ⟨l1, h1', _, rfl, rfl⟩, rfl⟩, rfl⟩, rfl⟩ := h
        have key : ∀ (c : Value) (lx : List Lit), Program.keyLits P (m + 1) e [c] = some lx → ∃ x, c = .int .i64 x ∧ I64 x ∧ lx = [.int .i64 x] := by
          intro c lx hx
          unfold Program.keyLits at hx
          simp only [he] at hx
          cases c <;> simp at hx
          obtain ⟨⟨rfl, hw⟩, rfl⟩ := hx
          exact ⟨_, rfl, hw, rfl⟩
        obtain ⟨a, rfl, ha, rfl⟩ := key c0 l0 (by simpa using h0')
        obtain ⟨b, rfl, hb, rfl⟩ := key c1 l1 (by simpa using h1')
        exact ⟨a, b, ha, hb, rfl, rfl⟩
    | _ => simp [Value.formed, arrK.hu] at hf
  · cases h
end

/-- a value, as it stands -/
def RV (v : Value) : Option (DataW Value × List MemPlace) := some (.held v, [])

/-- what D holds at each two numbers -/
def HoldsAt (D : DataW Value) (f : Int → Int → Option Value) : Prop := ∀ a b, I64 a → I64 b → ∀ z, D.atKey (kl a b) z = (match f a b with | some v => .held v | none => z)

theorem HoldsAt.has {D : DataW Value} {f : Int → Int → Option Value} (h : HoldsAt D f) {a b : Int} (ha : I64 a) (hb : I64 b) : Maps.has D (kl a b) = (f a b).isSome := by
  have := h a b ha hb
  cases hf : f a b with
  | none => rw [hf] at this; exact has_false_of_atKey this
  | some v => rw [hf] at this; exact has_true_of_atKey this

def MapIs (P : Program) (K : TypeId) (w : World) (B n : Nat) (f : Int → Int → Option Value) : Prop := ∃ D, w.ownsMap P K RV B n D ∧ HoldsAt D f

def upd (f : Int → Int → Option Value) (a b : Int) (v : Option Value) : Int → Int → Option Value := fun x y => if x = a ∧ y = b then v else f x y
theorem upd_same (f : Int → Int → Option Value) (a b : Int) (v : Option Value) : upd f a b v a b = v := by simp [upd]
theorem upd_other (f : Int → Int → Option Value) {a b x y : Int} (v : Option Value) (h : ¬ (x = a ∧ y = b)) : upd f a b v x y = f x y := by simp [upd, h]

theorem isKey_kl {P : Program} {K : TypeId} (X : PairKey P K) (a b : Int) (ha : I64 a) (hb : I64 b) : WideAt.IsKeyLit (kl a b) := X.law.key (key_mk X ha hb)

theorem HoldsAt.put {P : Program} {K : TypeId} (X : PairKey P K) {D : DataW Value} {f : Int → Int → Option Value} (h : HoldsAt D f) (hD : IsMap D) {a b : Int} (ha : I64 a) (hb : I64 b) (v : Value) : HoldsAt (D.put (kl a b) (.held v)) (upd f a b (some v)) := by
  intro x y hx hy z
  by_cases e : x = a ∧ y = b
  · obtain ⟨rfl, rfl⟩ := e
    rw [upd_same, atKey_put_same hD (isKey_kl X _ _ ha hb)]
  · rw [upd_other f _ e, atKey_put_other (fun k => e (kl_inj X hx hy ha hb k))]
    exact h x y hx hy z
theorem HoldsAt.del {P : Program} {K : TypeId} (X : PairKey P K) {D : DataW Value} {f : Int → Int → Option Value} (h : HoldsAt D f) {a b : Int} (ha : I64 a) (hb : I64 b) : HoldsAt (D.del (kl a b)) (upd f a b none) := by
  intro x y hx hy z
  by_cases e : x = a ∧ y = b
  · obtain ⟨rfl, rfl⟩ := e
    rw [upd_same, atKey_del_same]
  · rw [upd_other f _ e, atKey_del_other (fun k => e (kl_inj X hx hy ha hb k))]
    exact h x y hx hy z

section
variable {P : Program} {K : TypeId} {w : World} {B n : Nat} {f : Int → Int → Option Value}

theorem MapIs.lt (h : MapIs P K w B n f) : B < w.heap.size := by obtain ⟨D, h, _⟩ := h; exact h.lt
theorem MapIs.mono (h : MapIs P K w B n f) {n' : Nat} (hn : n ≤ n') : MapIs P K w B n' f := by obtain ⟨D, h, k⟩ := h; exact ⟨D, h.mono hn, k⟩
theorem MapIs.kept {w' : World} {row : Option Nat} (h : MapIs P K w B n f) (hg : w.grownBy w' row) (hne : some B ≠ row) : MapIs P K w' B n f := by obtain ⟨D, h, k⟩ := h; exact ⟨D, h.kept hg hne, k⟩
theorem MapIs.block {w' : World} (h : MapIs P K w B n f) (hb : w'.heap[B]? = w.heap[B]?) : MapIs P K w' B n f := by
  obtain ⟨D, ⟨es, clock, h1, h2⟩, k⟩ := h; exact ⟨D, ⟨es, clock, hb.trans h1, h2⟩, k⟩
theorem MapIs.below {w' : World} {N : Nat} (h : MapIs P K w B n f) (hb : Below N w w') (hN : B < N) : MapIs P K w' B n f := h.block (hb.block B hN)
theorem MapIs.made (P : Program) (K : TypeId) (w : World) : MapIs P K (w.alloc (.map #[] 0)) w.heap.size 0 (fun _ _ => none) :=
  ⟨_, World.ownsMap_made _ _ _ _, fun a b _ _ z => rfl⟩

theorem MapIs.put (X : PairKey P K) (h : MapIs P K w B n f) (hn : n < maxLen) {T E : TypeId} (ht : P.underlying T = some (.map K E)) {a b : Int} (ha : I64 a) (hb : I64 b) (v : Value) :
    ∃ w', (Instr.mapUpdate T (.map (some B)) (keyv a b) v).run P w = .ok () w' ∧ MapIs P K w' B (n + 1) (upd f a b (some v)) ∧ w.grownBy w' (some B) := by
  obtain ⟨D, h, k⟩ := h
  obtain ⟨w', h1, h2, h3⟩ := h.update X.law ht hn (key_mk X ha hb) (val := v) (d := .held v) (ps := []) rfl
  exact ⟨w', h1, ⟨_, h2, k.put X h.isMap ha hb v⟩, h3⟩

theorem MapIs.look (X : PairKey P K) (h : MapIs P K w B n f) {T E : TypeId} (ht : P.underlying T = some (.map K E)) {z : Value} (hz : (zeroValue E).run P w = .ok z w) {a b : Int} (ha : I64 a) (hb : I64 b) :
    (Instr.lookup T (.map (some B)) (keyv a b) false).run P w = .ok ((f a b).getD z) w := by
  obtain ⟨D, h, k⟩ := h
  obtain ⟨v, ps, hrun, hv⟩ := h.lookup X.law ht hz (zd := .held z) (zp := []) rfl (key_mk X ha hb)
  rw [hrun]
  congr 1
  have := k a b ha hb (.held z)
  rw [this] at hv
  simp only [RV, Option.some.injEq, Prod.mk.injEq] at hv
  cases hf : f a b with
  | none => rw [hf] at hv; simpa using hv.1
  | some u => rw [hf] at hv; simpa using hv.1

theorem MapIs.look_ok (X : PairKey P K) (h : MapIs P K w B n f) {T E : TypeId} (ht : P.underlying T = some (.map K E)) {z : Value} (hz : (zeroValue E).run P w = .ok z w) {a b : Int} (ha : I64 a) (hb : I64 b) :
    (Instr.lookup T (.map (some B)) (keyv a b) true).run P w = .ok (.tuple #[(f a b).getD z, .bool (f a b).isSome]) w := by
  obtain ⟨D, h, k⟩ := h
  obtain ⟨v, ps, hrun, hv⟩ := h.look_ok X.law ht hz (zd := .held z) (zp := []) rfl (key_mk X ha hb)
  rw [hrun, k.has ha hb]
  congr 1
  have := k a b ha hb (.held z)
  rw [this] at hv
  simp only [RV, Option.some.injEq, Prod.mk.injEq] at hv
  cases hf : f a b with
  | none => rw [hf] at hv; simpa using hv.1
  | some u => rw [hf] at hv; simpa using hv.1

theorem MapIs.del (X : PairKey P K) (h : MapIs P K w B n f) {T E : TypeId} (ht : P.underlying T = some (.map K E)) {a b : Int} (ha : I64 a) (hb : I64 b) (ty : TypeId) :
    ∃ w', (Builtin.delete_ #[T, K] ty #[.map (some B), keyv a b]).run P w = .ok (.tuple #[]) w' ∧ MapIs P K w' B n (upd f a b none) ∧ w.grownBy w' (some B) := by
  obtain ⟨D, h, k⟩ := h
  obtain ⟨w', h1, h2, h3⟩ := h.drop X.law ht (key_mk X ha hb) ty
  exact ⟨w', h1, ⟨_, h2, k.del X ha hb⟩, h3.grown⟩

theorem MapIs.clear (X : PairKey P K) (h : MapIs P K w B n f) {T E : TypeId} (ht : P.underlying T = some (.map K E)) (ty : TypeId) :
    ∃ w', (Builtin.clear_ #[T] ty #[.map (some B)]).run P w = .ok (.tuple #[]) w' ∧ MapIs P K w' B 0 (fun _ _ => none) ∧ w.grownBy w' (some B) := by
  obtain ⟨D, ⟨es, clock, hb, F, hs, hD⟩, k⟩ := h
  refine ⟨ChangeMaps.setBlock w B (.map #[] clock), ?_, ⟨.map [], ⟨#[], clock, ChangeMaps.heap_setBlock_same hb _, ⟨by simp, stamped_empty clock, by simp⟩, Nat.le_refl _, rfl⟩, fun a b _ _ z => rfl⟩, ⟨rfl, rfl, rfl, by simp [ChangeMaps.setBlock], fun i _ hi => ChangeMaps.heap_setBlock_other hb _ (fun e => hi (by rw [e]))⟩⟩
  simp [Builtin.clear_, run_underlying ht, MapKept.run_getObj_map hb, MapKept.run_setObj_map _ hb, Result.andThen, ChangeMaps.setBlock]

/-- what is still to come behind a step -/
def strike (left : Int → Int → Bool) (a b : Int) : Int → Int → Bool := fun x y => left x y && !(decide (x = a ∧ y = b))
theorem strike_same (left : Int → Int → Bool) (a b : Int) : strike left a b a b = false := by simp [strike]
theorem strike_other (left : Int → Int → Bool) {a b x y : Int} (h : ¬ (x = a ∧ y = b)) : strike left a b x y = left x y := by simp [strike, h]
/-- a loop over such a map: 'left': what is still to come -/
def RangeIs (P : Program) (K : TypeId) (w : World) (B r n : Nat) (f : Int → Int → Option Value) (left : Int → Int → Bool) (cnt : Nat) : Prop :=
  ∃ D L, w.ranges P K RV B r n D L cnt ∧ HoldsAt D f ∧ ∀ a b, I64 a → I64 b → L (kl a b) = left a b
end
theorem RangeIs.map {P : Program} {K : TypeId} {w : World} {B r n : Nat} {f : Int → Int → Option Value} {left : Int → Int → Bool} {cnt : Nat} (h : RangeIs P K w B r n f left cnt) : MapIs P K w B n f := by
  obtain ⟨D, L, h, k, _⟩ := h; exact ⟨D, h.owns, k⟩
theorem RangeIs.left_eq {P : Program} {K : TypeId} {w : World} {B r n : Nat} {f : Int → Int → Option Value} {left : Int → Int → Bool} {cnt : Nat} (h : RangeIs P K w B r n f left cnt) : w.rangeLeft B r = cnt := by
  obtain ⟨D, L, h, k, _⟩ := h; exact h.left_eq
theorem RangeIs.lt {P : Program} {K : TypeId} {w : World} {B r n : Nat} {f : Int → Int → Option Value} {left : Int → Int → Bool} {cnt : Nat} (h : RangeIs P K w B r n f left cnt) : r < w.heap.size := by
  obtain ⟨D, L, h, k, _⟩ := h; exact h.lt
theorem RangeIs.ne {P : Program} {K : TypeId} {w : World} {B r n : Nat} {f : Int → Int → Option Value} {left : Int → Int → Bool} {cnt : Nat} (h : RangeIs P K w B r n f left cnt) : r ≠ B := by
  obtain ⟨D, L, h, k, _⟩ := h; exact h.ne
theorem RangeIs.kept {P : Program} {K : TypeId} {w w' : World} {B r n : Nat} {f : Int → Int → Option Value} {left : Int → Int → Bool} {cnt : Nat} {row : Option Nat} (h : RangeIs P K w B r n f left cnt) (hg : w.grownBy w' row) (h1 : some B ≠ row) (h2 : some r ≠ row) : RangeIs P K w' B r n f left cnt := by
  obtain ⟨D, L, h, k, l⟩ := h; exact ⟨D, L, h.kept hg h1 h2, k, l⟩
theorem below_grown {N : Nat} {w w' : World} (h : Below N w w') (hN : w.heap.size ≤ N) : w.grownBy w' none := ⟨h.os, h.tape, h.output, h.size, fun i hi _ => h.block i (Nat.lt_of_lt_of_le hi hN)⟩

section
variable {P : Program} {K : TypeId} (X : PairKey P K) {w : World} {B r n : Nat} {f : Int → Int → Option Value} {left : Int → Int → Bool} {cnt : Nat}
include X
theorem MapIs.range {T E : TypeId} (h : MapIs P K w B n f) (ht : P.underlying T = some (.map K E)) :
    ∃ w' cnt, (Instr.range T (.map (some B))).run P w = .ok (.pointer (some ⟨w.heap.size, 0, none⟩)) w' ∧ RangeIs P K w' B w.heap.size n f (fun a b => (f a b).isSome) cnt ∧ w.grownBy w' none ∧ w'.heap.size = w.heap.size + 1 := by
  obtain ⟨D, h, k⟩ := h
  obtain ⟨w', h1, h2, h3, h4⟩ := h.range X.law ht
  exact ⟨w', _, h1, ⟨D, _, h2, k, fun a b ha hb => k.has ha hb⟩, h3, h4⟩

theorem RangeIs.next (h : RangeIs P K w B r n f left cnt) (ty : TypeId) :
    (cnt = 0 ∧ (∀ a b, I64 a → I64 b → left a b = false) ∧ (Instr.next (.pointer (some ⟨r, 0, none⟩)) false ty).run P w = .ok (.tuple #[.bool false]) w) ∨
    ∃ a b v w' cnt', I64 a ∧ I64 b ∧ left a b = true ∧ f a b = some v ∧ (Instr.next (.pointer (some ⟨r, 0, none⟩)) false ty).run P w = .ok (.tuple #[.bool true, keyv a b, v]) w' ∧
      RangeIs P K w' B r n f (strike left a b) cnt' ∧ cnt' < cnt ∧ w.grownBy w' (some r) ∧ w'.heap.size = w.heap.size ∧ (Instr.entry (.pointer (some ⟨r, 0, none⟩))).run P w' = .ok (.tuple #[keyv a b, v]) w' := by
  obtain ⟨D, L, h, k, l⟩ := h
  rcases h.next X.law ty with ⟨h1, h2, h3⟩ | ⟨key, v, kx, y, w', cnt', h1, h2, h3, h4, h5, h6, h7, h8, h9, h10⟩
  · exact .inl ⟨h1, fun a b ha hb => by rw [← l a b ha hb]; exact h2 _, h3⟩
  · obtain ⟨a, b, ha, hb, rfl, rfl⟩ := key_inv X h1
    refine .inr ⟨a, b, v, w', cnt', ha, hb, by rw [← l a b ha hb]; exact h2, ?_, h5, ⟨D, _, h6, k, fun x y hx hy => ?_⟩, h7, h8, h9, h10⟩
    · have e := k a b ha hb .nil
      rw [h4] at e
      simp only [RV, Option.some.injEq] at h3
      rw [← h3] at e
      cases hf : f a b with
      | none => rw [hf] at e; simp at e
      | some u => rw [hf] at e; simp at e; rw [e]
    · rw [l x y hx hy]
      unfold strike
      congr 1
      by_cases e : x = a ∧ y = b
      · obtain ⟨rfl, rfl⟩ := e
        rw [WideAt.sameKey_self (isKey_kl X _ _ hx hy)]; simp
      · rw [sameKey_ne (fun q => e (kl_inj X hx hy ha hb q))]; simp [e]

/-- how many entries there are at most: as many as there may be keys -/
theorem MapIs.tight (h : MapIs P K w B n f) (M : List (Int × Int)) (hM : ∀ a b, I64 a → I64 b → f a b ≠ none → (a, b) ∈ M) : MapIs P K w B M.length f := by
  obtain ⟨D, h, k⟩ := h
  have ht := h.tidy X.law
  have hown := h
  obtain ⟨es, clock, hb, F, hs, rfl⟩ := h
  refine ⟨_, ⟨es, clock, hb, F, ?_, rfl⟩, k⟩
  have hnd := Maps.fit_apart X.law F
  have hl : es.size = (es.toList.map (WideElems.rg P K RV)).length := by simp
  rw [hl]
  have hkeys : ∀ p ∈ es.toList.map (WideElems.rg P K RV), ∃ q ∈ M, p.1 = kl q.1 q.2 := by
    intro p hp
    obtain ⟨x, hx, rfl⟩ := List.mem_map.1 hp
    obtain ⟨y, hy⟩ := F.reads x hx
    have hkx := WideElems.rd_key hy
    obtain ⟨a, b, ha, hb', e1, e2⟩ := key_inv X hkx
    refine ⟨(a, b), hM a b ha hb' ?_, by rw [WideElems.rg_of hy]; exact e2⟩
    intro hf
    have hz : Maps.has (.map ((es.toList.map (WideElems.rg P K RV)).foldr DataW.insert [])) (kl a b) = true := by
      rw [has_eq, List.any_eq_true]
      refine ⟨WideElems.rg P K RV x, mem_sorted.2 hp, ?_⟩
      rw [WideElems.rg_of hy, e2]
      exact WideAt.sameKey_self (isKey_kl X _ _ ha hb')
    rw [k.has ha hb', hf] at hz
    cases hz
  generalize es.toList.map (WideElems.rg P K RV) = L at hnd hkeys
  clear hl F hs hown ht k hb hM
  induction L generalizing M with
  | nil => simp
  | cons p L ih =>
    obtain ⟨h1, h2⟩ := List.pairwise_cons.1 hnd
    obtain ⟨q, hq, e⟩ := hkeys p (by simp)
    have hq' : (M.erase q).length = M.length - 1 := List.length_erase_of_mem hq
    have hpos : 0 < M.length := List.length_pos_of_mem hq
    have := ih (M.erase q) h2 (fun p' hp' => by
      obtain ⟨q', hq', e'⟩ := hkeys p' (by simp [hp'])
      have hne : q' ≠ q := fun e2 => h1 p' hp' (by rw [e, e', e2])
      exact ⟨q', (List.mem_erase_of_ne hne).2 hq', e'⟩)
    simp only [List.length_cons]
    omega
end
theorem pairK : PairKey Tryz.prog 165 := ⟨⟨3, ⟨Tryz.underlying165, by kernel_rfl, by kernel_rfl, by kernel_rfl⟩, Tryz.underlying3⟩, ⟨Tryz.prog.types.size - 1, by have : 0 < Tryz.prog.types.size := of_decide_eq_true (by kernel_rfl); omega⟩⟩
end Go.Proofs.YtgpapegpdfonpaaGreatDoor

namespace Go.Proofs.YtgpapegpdfonpaaGreatDoor
set_option linter.unusedVariables false
set_option linter.unusedSimpArgs false
open Go.RowKit Go.Maps

abbrev iv (a : Int) : Value := .int .i64 a
abbrev triV (a b c : Int) : Value := .agg #[.int .i64 a, .int .i64 b, .int .i64 c]
/-- the turn that begins with the least number -/
def rotL (a b c : Int) : Int × Int × Int := if a ≤ b ∧ a ≤ c then (a, b, c) else if b ≤ c ∧ b ≤ a then (b, c, a) else (c, a, b)
def rotV (a b c : Int) : Value := triV (rotL a b c).1 (rotL a b c).2.1 (rotL a b c).2.2

theorem turned_any (a b : Int) (w : World) :
    Calls Tryz.prog 107 #[keyv a b] w fun e w' => e = .returned (keyv b a) ∧ Below w.heap.size w w' := by
  go_enter Tryz.func107, Tryz.ntmps107
  go_wp2
  exact bodyPost_ret (v := keyv b a) (by simp [results, Tryz.results107, go_sem]) rfl ⟨rfl, below2 _ _ _⟩

set_option maxHeartbeats 1000000 in
theorem fromLeast0 (a b c : Int) (w : World) (h : a ≤ b ∧ a ≤ c) :
    Calls Tryz.prog 131 #[triV a b c] w fun e w' => e = .returned (triV a b c) ∧ Below w.heap.size w w' := by
  have h1 : ¬ (min b c < a) := by omega
  go_enter Tryz.func131, Tryz.ntmps131
  go_wp2
  refine wp_loop_rounds 1 ?_
  rw [rounds_succ]
  go_wp2
  all_goals exact bodyPost_ret (v := triV a b c) (by simp [results, Tryz.results131, go_sem]) rfl ⟨rfl, below2 _ _ _⟩

set_option maxHeartbeats 1000000 in
theorem fromLeast1 (a b c : Int) (w : World) (h : b < a ∨ c < a) (h' : b ≤ c ∧ b ≤ a) :
    Calls Tryz.prog 131 #[triV a b c] w fun e w' => e = .returned (triV b c a) ∧ Below w.heap.size w w' := by
  have h1 : min b c < a := by omega
  have h2 : ¬ (min c a < b) := by omega
  have h3 : ¬ (c < b) := by omega
  have h4 : ¬ (a < b) := by omega
  go_enter Tryz.func131, Tryz.ntmps131
  go_wp2
  refine wp_loop_rounds 2 ?_
  rw [rounds_succ]
  go_wp2
  rw [rounds_succ]
  go_wp2
  all_goals exact bodyPost_ret (v := triV b c a) (by simp [results, Tryz.results131, go_sem]) rfl ⟨rfl, below2 _ _ _⟩

set_option maxHeartbeats 1000000 in
theorem fromLeast2 (a b c : Int) (w : World) (h : b < a ∨ c < a) (h' : c < b ∨ a < b) :
    Calls Tryz.prog 131 #[triV a b c] w fun e w' => e = .returned (triV c a b) ∧ Below w.heap.size w w' := by
  have h1 : min b c < a := by omega
  have h2 : min c a < b := by omega
  have h3 : ¬ (min a b < c) := by omega
  have h5 : c < b := by omega
  have h6 : c < a := by omega
  go_enter Tryz.func131, Tryz.ntmps131
  go_wp2
  refine wp_loop_rounds 3 ?_
  rw [rounds_succ]
  go_wp2
  rw [rounds_succ]
  go_wp2
  rw [rounds_succ]
  go_wp2
  all_goals exact bodyPost_ret (v := triV c a b) (by simp [results, Tryz.results131, go_sem]) rfl ⟨rfl, below2 _ _ _⟩

theorem fromLeast_any (a b c : Int) (w : World) :
    Calls Tryz.prog 131 #[triV a b c] w fun e w' => e = .returned (rotV a b c) ∧ Below w.heap.size w w' := by
  unfold rotV rotL
  by_cases h : a ≤ b ∧ a ≤ c
  · rw [if_pos h]; exact fromLeast0 a b c w h
  · rw [if_neg h]
    by_cases h' : b ≤ c ∧ b ≤ a
    · rw [if_pos h']; exact fromLeast1 a b c w (by omega) h'
    · rw [if_neg h']; exact fromLeast2 a b c w (by omega) (by omega)
end Go.Proofs.YtgpapegpdfonpaaGreatDoor

namespace Go.Proofs.YtgpapegpdfonpaaGreatDoor
set_option linter.unusedVariables false
set_option linter.unusedSimpArgs false
open Go.RowKit Go.Maps

/-- the world behind a store into a map -/
noncomputable def putW (T A : Nat) (a b : Int) (v : Value) (w : World) : World := match (Instr.mapUpdate T (.map (some A)) (keyv a b) v).run Tryz.prog w with | .ok _ w' => w' | .halt _ w' => w'
theorem put_run {A n : Nat} {a b : Int} {f : Int → Int → Option Value} {w : World} (v : Value) (ha : I64 a) (hb : I64 b) (hn : n < maxLen) {T E : TypeId} (ht : Tryz.prog.underlying T = some (.map 165 E)) (h : MapIs Tryz.prog 165 w A n f) :
    (Instr.mapUpdate T (.map (some A)) (keyv a b) v).run Tryz.prog w = .ok () (putW T A a b v w) ∧ MapIs Tryz.prog 165 (putW T A a b v w) A (n + 1) (upd f a b (some v)) ∧ w.grownBy (putW T A a b v w) (some A) := by
  obtain ⟨w', h1, h2, h3⟩ := h.put pairK hn ht ha hb v
  have e : putW T A a b v w = w' := by unfold putW; rw [h1]
  rw [e]; exact ⟨h1, h2, h3⟩

theorem cell_blk {w : World} {b o : Nat} {v : Value} (h : w.cell? ⟨b, o, none⟩ = some v) : b < w.heap.size := by
  rcases Nat.lt_or_ge b w.heap.size with k | k
  · exact k
  · have : w.heap[b]? = none := by simp [k]
    simp [World.cell?, this] at h
theorem MapIs.ne_cell {P : Program} {K : TypeId} {w : World} {A n : Nat} {f : Int → Int → Option Value} (h : MapIs P K w A n f) {b o : Nat} {v : Value} (hc : w.cell? ⟨b, o, none⟩ = some v) : b ≠ A := by
  obtain ⟨D, ⟨es, clock, hb, _⟩, _⟩ := h
  intro e; subst e
  simp [World.cell?, hb] at hc

theorem put_drew {A n : Nat} {a b : Int} {f : Int → Int → Option Value} {w : World} (v : Value) (ha : I64 a) (hb : I64 b) (hn : n < maxLen) {T E : TypeId} (ht : Tryz.prog.underlying T = some (.map 165 E)) (h : MapIs Tryz.prog 165 w A n f) :
    (Instr.mapUpdate T (.map (some A)) (keyv a b) v).run Tryz.prog w.drew = .ok () (putW T A a b v w.drew) ∧ MapIs Tryz.prog 165 (putW T A a b v w.drew) A (n + 1) (upd f a b (some v)) ∧ w.grownBy (putW T A a b v w.drew) (some A) ∧
      ∀ b' o u, w.cell? ⟨b', o, none⟩ = some u → (putW T A a b v w.drew).cell? ⟨b', o, none⟩ = some u := by
  obtain ⟨h1, h2, h3⟩ := put_run v ha hb hn ht (h.block (w' := w.drew) rfl)
  have h3' : w.grownBy (putW T A a b v w.drew) (some A) := ⟨h3.os, h3.tape, h3.output, h3.size, h3.block⟩
  exact ⟨h1, h2, h3', fun b' o u hc => h3'.cell hc (fun e => h.ne_cell hc (by simpa using e))⟩

set_option maxRecDepth 100000 in
set_option maxHeartbeats 1000000 in
theorem put_any (N A n : Nat) (a b c : Int) (f : Int → Int → Option Value) (w : World) (ha : I64 a) (hb : I64 b) (hc : I64 c) (hn : n + 3 < maxLen)
    (hA : w.cell? ⟨N, 2, none⟩ = some (.map (some A))) (hm : MapIs Tryz.prog 165 w A n f) :
    Calls Tryz.prog 105 #[.pointer (some ⟨N, 0, none⟩), iv a, iv b, iv c] w fun e w' =>
      e = .returned (.tuple #[]) ∧ MapIs Tryz.prog 165 w' A (n + 3) (upd (upd (upd f a b (some (rotV a b c))) b c (some (rotV a b c))) c a (some (rotV a b c))) ∧ w.grownBy w' (some A) := by
  have hfl := fromLeast_any a b c w
  obtain ⟨t0, t1, t2, hrot⟩ : ∃ t0 t1 t2, rotV a b c = triV t0 t1 t2 := ⟨_, _, _, rfl⟩
  rw [hrot] at hfl ⊢
  clear hrot
  have hNlt : N < w.heap.size := cell_blk hA
  go_enter Tryz.func105, Tryz.ntmps105
  go_wp2_with (go_at_call 131; refine hfl.mono ?_; rintro e w1 ⟨rfl, hb1⟩)
  generalize hW : w1.alloc (.cells #[.int .i64 t0, .int .i64 t1, .int .i64 t2] 53) = W
  have hbW : Below w.heap.size w W := by rw [← hW]; exact hb1.alloc hb1.size _
  have hgW : w.grownBy W (some A) := (below_grown hbW (Nat.le_refl _)).but _
  have c0 : W.cell? ⟨w1.heap.size, 0, none⟩ = some (.int .i64 t0) := by rw [← hW]; simp [go_sem]
  have c1 : W.cell? ⟨w1.heap.size, 1, none⟩ = some (.int .i64 t1) := by rw [← hW]; simp [go_sem]
  have c2 : W.cell? ⟨w1.heap.size, 2, none⟩ = some (.int .i64 t2) := by rw [← hW]; simp [go_sem]
  have cA : W.cell? ⟨N, 2, none⟩ = some (.map (some A)) := (hbW.cell (p := ⟨N, 2, none⟩) hNlt).trans hA
  have hmW : MapIs Tryz.prog 165 W A n f := hm.below hbW hm.lt
  clear hW hfl hbW hm hA
  generalize w1.heap.size = B8 at *
  clear hb1
  -- the first
  have P1 := put_drew (triV t0 t1 t2) ha hb (by omega) Tryz.underlying159 hmW
  generalize hW2 : putW 159 A a b (triV t0 t1 t2) W.drew = W2 at P1
  obtain ⟨r1, m1, g1, k1⟩ := P1
  have d0 := k1 _ _ _ c0; have d1 := k1 _ _ _ c1; have d2 := k1 _ _ _ c2; have dA := k1 _ _ _ cA
  go_region_held3 (fun w' => w'.cell? ⟨N, 2, none⟩ = some (.map (some A)) ∧ w'.cell? ⟨B8, 0, none⟩ = some (.int .i64 t0) ∧ w'.cell? ⟨B8, 1, none⟩ = some (.int .i64 t1) ∧ w'.cell? ⟨B8, 2, none⟩ = some (.int .i64 t2)) (first | exact ⟨dA, d0, d1, d2⟩ | go_keep) (fail)
  go_wp2_with fail
  clear r1 k1 c0 c1 c2 cA hmW hW2
  -- the second
  have P2 := put_drew (triV t0 t1 t2) hb hc (by omega) Tryz.underlying159 m1
  generalize hW3 : putW 159 A b c (triV t0 t1 t2) W2.drew = W3 at P2
  obtain ⟨r2, m2, g2, k2⟩ := P2
  have e0 := k2 _ _ _ d0; have e1 := k2 _ _ _ d1; have e2 := k2 _ _ _ d2; have eA := k2 _ _ _ dA
  go_region_held3 (fun w' => w'.cell? ⟨N, 2, none⟩ = some (.map (some A)) ∧ w'.cell? ⟨B8, 0, none⟩ = some (.int .i64 t0) ∧ w'.cell? ⟨B8, 1, none⟩ = some (.int .i64 t1) ∧ w'.cell? ⟨B8, 2, none⟩ = some (.int .i64 t2)) (first | exact ⟨eA, e0, e1, e2⟩ | go_keep) (fail)
  go_wp2_with fail
  clear r2 k2 d0 d1 d2 dA m1 hW3
  -- the third
  have P3 := put_drew (triV t0 t1 t2) hc ha (by omega) Tryz.underlying159 m2
  generalize hW4 : putW 159 A c a (triV t0 t1 t2) W3.drew = W4 at P3
  obtain ⟨r3, m3, g3, k3⟩ := P3
  have f0 := k3 _ _ _ e0; have f1 := k3 _ _ _ e1; have f2 := k3 _ _ _ e2; have fA := k3 _ _ _ eA
  go_region_held3 (fun w' => w'.cell? ⟨N, 2, none⟩ = some (.map (some A)) ∧ w'.cell? ⟨B8, 0, none⟩ = some (.int .i64 t0) ∧ w'.cell? ⟨B8, 1, none⟩ = some (.int .i64 t1) ∧ w'.cell? ⟨B8, 2, none⟩ = some (.int .i64 t2)) (first | exact ⟨fA, f0, f1, f2⟩ | go_keep) (fail)
  go_wp2_with fail
  go_end0
  exact ⟨rfl, m3, hgW.andThen (g1.andThen (g2.andThen g3 (fun j hj => .inr hj)) (fun j hj => .inr hj)) (fun j hj => .inr hj)⟩
end Go.Proofs.YtgpapegpdfonpaaGreatDoor
