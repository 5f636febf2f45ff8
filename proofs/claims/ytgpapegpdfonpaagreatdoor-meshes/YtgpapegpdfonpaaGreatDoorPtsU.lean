/-
  Runs of single operations on rows of points and of numbers; which blocks a step keeps, by their type.
  A mesh of the program in memory; that points have triangles; rows out of which an element is taken.
  What the mesh calls of package slices: Index, Contains, BinarySearch, Delete; the distance; the lesser first.
  slices.Delete of one element: of points, of numbers.
-/
import Derived.Test.YtgpapegpdfonpaaGreatDoorOwnSow
import Derived.Test.YtgpapegpdfonpaaGreatDoorNetJL
import Derived.Test.YtgpapegpdfonpaaGreatDoorAroundMath
import Derived.Lib.SliceRun
import Derived.Deep.LoopGhost
import Derived.Deep.Draws
import Derived.Deep.RegionLaw
import Derived.Shelf.RegionOpenPlain
set_option linter.unusedVariables false
set_option linter.unusedSimpArgs false
namespace Go.Proofs.YtgpapegpdfonpaaGreatDoor
open Go.RowKit
attribute [local go_sem ↓] Go.wp_at_zero Go.wp_at_succ
theorem run_load_pts (w : World) (K j : Nat) (v : Value) (h : w.cell? ⟨K, j, none⟩ = some v) : (Instr.loadAt 41 (.pointer (some ⟨K, j, none⟩))).run Tryz.prog w = .ok v w := by go_simp
theorem run_load_nums (w : World) (K j : Nat) (v : Value) (h : w.cell? ⟨K, j, none⟩ = some v) : (Instr.loadAt 26 (.pointer (some ⟨K, j, none⟩))).run Tryz.prog w = .ok v w := by go_simp
theorem run_build_pt (w : World) (x y : Int) : (Instr.buildSlice 41 1 #[(0, pv x y)]).run Tryz.prog w = .ok (.slice (some ⟨w.heap.size, 0, none⟩) 1 1) (w.alloc (.cells #[.int .i64 x, .int .i64 y] 37)) := by go_simp
theorem run_build_int (w : World) (x : Int) : (Instr.buildSlice 26 1 #[(0, .int .i64 x)]).run Tryz.prog w = .ok (.slice (some ⟨w.heap.size, 0, none⟩) 1 1) (w.alloc (.cells #[.int .i64 x] 3)) := by go_simp
theorem run_store_pts (w : World) (K j : Nat) (v : Value) (a : Option Addr) (n c : Nat) (h : w.cell? ⟨K, j, none⟩ = some v) (hf : w.frozen? ⟨K, j, none⟩ = false) : (Instr.storeAt 41 (.pointer (some ⟨K, j, none⟩)) (.slice a n c)).run Tryz.prog w = .ok () (w.setCell ⟨K, j, none⟩ (.slice a n c)) := by go_simp
theorem run_store_nums (w : World) (K j : Nat) (v : Value) (a : Option Addr) (n c : Nat) (h : w.cell? ⟨K, j, none⟩ = some v) (hf : w.frozen? ⟨K, j, none⟩ = false) : (Instr.storeAt 26 (.pointer (some ⟨K, j, none⟩)) (.slice a n c)).run Tryz.prog w = .ok () (w.setCell ⟨K, j, none⟩ (.slice a n c)) := by go_simp
theorem heap_last (w : World) (o : Obj) : (w.alloc o).heap[w.heap.size]? = some o := by
 show (w.heap.push o)[w.heap.size]? = some o
 simp
def KeepsT (T : TypeId) (w w' : World) : Prop := ∀ (k : Nat) (cur : Array Value), w.heap[k]? = some (.cells cur T (0, 0)) → w'.heap[k]? = some (.cells cur T (0, 0))
theorem KeepsT.own {T : TypeId} {w w' : World} {base s n : Nat} {v : Value} {xs : List Value} (h : KeepsT T w w') (ho : w.ownsRow base T s v n xs) : w'.ownsRow base T s v n xs := by
 refine ⟨ho.1, ?_⟩
 rcases ho.2 with hn | ⟨g, cap, cur, rfl, hb, hg, r⟩
 ·exact .inl hn
 ·exact .inr ⟨g, cap, cur, rfl, hb, h g cur hg, r⟩
theorem keepsT_alloc (T : TypeId) (w : World) (o : Obj) : KeepsT T w (w.alloc o) := fun k cur h => by
 rw [Below.heap_alloc w o k (lt_some h)]; exact h
theorem keepsT_grown {T T' : TypeId} {w w' : World} {g : Nat} {c : Array Value} (hg : w.grownBy w' (some g)) (hc : w.heap[g]? = some (.cells c T' (0, 0))) (hT : T ≠ T') : KeepsT T w w' := fun k cur h => by
 rw [hg.block k (lt_some h) (fun e => by cases e; exact typ_ne h hc hT rfl)]; exact h
theorem keepsT_grown0 {T : TypeId} {w w' : World} (hg : w.grownBy w' none) : KeepsT T w w' := fun k cur h => by
 rw [hg.block k (lt_some h) (fun e => by cases e)]; exact h
theorem keepsT_set {T T' : TypeId} {w : World} {m i : Nat} {c : Array Value} {v : Value} (hc : w.heap[m]? = some (.cells c T' (0, 0))) (hT : T ≠ T') : KeepsT T w (w.setCell ⟨m, i, none⟩ v) := fun k cur h => by
 rw [Below.heap_setCell _ _ _ _ (typ_ne h hc hT)]; exact h
theorem keepsT_chg {T T' : TypeId} {w w' : World} {g : Nat} {c : Array Value} (h : Chg (fun k => k = g) w w') (hc : w.heap[g]? = some (.cells c T' (0, 0))) (hT : T ≠ T') : KeepsT T w w' := fun k cur hk => by
 rw [h.far k (lt_some hk) (typ_ne hk hc hT)]; exact hk
def Fap (V : World) (T : TypeId) (s : Nat) (v : Value) (n : Nat) (xs news : List Value) (bB bA : Bool) (xB xA : Value) (w : World) : Prop :=
 (bA = true → ∃ g cap, xA = .slice (some ⟨g, 0, none⟩) (n + 1) cap ∧ w.ownsRow 0 T s xA (n + 1) (xs ++ news) ∧ (v.ownBlock = some g ∨ V.heap.size ≤ g)) ∧
 (bA = false → w.ownsRow 0 T s v n xs ∧ (bB = true → ∃ g, xB = .slice (some ⟨g, 0, none⟩) 1 1 ∧ V.heap.size ≤ g ∧ w.heap[g]? = some (.cells news.toArray T (0, 0))))
section
variable {V w w' : World} {T : TypeId} {s n : Nat} {v xB xA : Value} {xs news : List Value} {bB bA : Bool}
theorem Fap.keep (h : Fap V T s v n xs news bB bA xB xA w) (k : KeepsT T w w') : Fap V T s v n xs news bB bA xB xA w' := by
 refine ⟨fun e => ?_, fun e => ?_⟩
 ·obtain ⟨g, cap, h1, h2, h3⟩ := h.1 e
  exact ⟨g, cap, h1, k.own h2, h3⟩
 ·obtain ⟨h1, h2⟩ := h.2 e
  refine ⟨k.own h1, fun e' => ?_⟩
  obtain ⟨g, g1, g2, g3⟩ := h2 e'
  exact ⟨g, g1, g2, k g _ g3⟩
theorem Fap.build (h : Fap V T s v n xs news false false xB xA w) (hs : V.heap.size ≤ w.heap.size) : Fap V T s v n xs news true false (.slice (some ⟨w.heap.size, 0, none⟩) 1 1) xA (w.alloc (.cells news.toArray T)) := by
 refine ⟨(fun e => by cases e), fun _ => ⟨(keepsT_alloc T w _).own (h.2 rfl).1, fun _ => ⟨w.heap.size, rfl, hs, heap_last _ _⟩⟩⟩
theorem Fap.append {P : Program} {t ty : TypeId} {i : TypeInfo} {z : Value} {bytes : Nat} (h : Fap V T s v n xs news true false xB xA w) (ht : P.underlying t = some (.slice T)) (hi : P.info? T = some i) (hz : i.zero = some z)
  (hsize : i.size = s) (hby : i.bytes = bytes) (hzs : z.cells.size = s) (hsz : 0 < s) (hl : news.length = s) (h1 : ∀ u ∈ news, u.oneCell' = true) (hn : n ≤ 1000) (hbb : bytes ≤ 100) (hV : V.heap.size ≤ w.heap.size) :
  ∃ g cap w', (Builtin.append_ #[t, t] ty #[v, xB]).run P w = .ok (.slice (some ⟨g, 0, none⟩) (n + 1) cap) w' ∧ Fap V T s v n xs news true true xB (.slice (some ⟨g, 0, none⟩) (n + 1) cap) w' ∧
   (∀ T', T' ≠ T → KeepsT T' w w') ∧ Chg (fun k => v.ownBlock = some k) w w' := by
 obtain ⟨ho, hB⟩ := h.2 rfl
 obtain ⟨g0, rfl, hg0, hb0⟩ := hB rfl
 have hnews : ∀ j u, news[j]? = some u → w.cell? ((⟨g0, 0, none⟩ : Addr).add j) = some u := fun j u hu => by
  rw [Addr.add_lit, Nat.zero_add]
  simp [World.cell?, hb0, hu]
 obtain ⟨g, cap, w', hr, h2, h3, h4⟩ := run_append_where (P := P) w t ty 0 T i z s bytes ht hi hz hsize hby hzs hsz v n xs ho ⟨g0, 0, none⟩ 1 1 news (by omega) hnews h1 (by omega) (by simp only [maxLen]; omega)
  (by
    have : (n + 1) * bytes ≤ 1001 * 100 := Nat.mul_le_mul (by omega) hbb
    omega) (Nat.zero_le _) w.heap.size rfl
 refine ⟨g, cap, w', hr, ⟨fun _ => ⟨g, cap, rfl, h2, ?_⟩, fun e => by cases e⟩, ?_, ?_⟩
 ·rcases h3 with ⟨e, _⟩ | ⟨e, _⟩
  ·exact .inl e
  ·exact .inr (by omega)
 ·intro T' hT'
  rcases h3 with ⟨e, hgr⟩ | ⟨e, hgr⟩
  ·obtain ⟨cur, hc⟩ := ownS_typ ho e
   exact keepsT_grown hgr hc hT'
  ·exact keepsT_grown0 hgr
 ·rcases h3 with ⟨e, hgr⟩ | ⟨e, hgr⟩
  ·exact Chg.of_grown hgr fun k hk => by cases hk; exact e
  ·exact Chg.of_grown hgr fun k hk => by cases hk
end
end Go.Proofs.YtgpapegpdfonpaaGreatDoor

namespace Go.Proofs.YtgpapegpdfonpaaGreatDoor
open Go.RowKit
attribute [local go_sem ↓] Go.wp_at_zero Go.wp_at_succ
theorem setCells_block {g : Nat} {e : TypeId} : ∀ (vs : List Value) (o : Nat) (w : World) (cur : Array Value), w.heap[g]? = some (.cells cur e (0, 0)) → o + vs.length ≤ cur.size →
  (w.setCells g o vs).heap[g]? = some (.cells (cur.toList.take o ++ vs ++ cur.toList.drop (o + vs.length)).toArray e (0, 0))
 | [], o, w, cur, h, _ => by
  rw [World.setCells, h]
  simp
 | v :: r, o, w, cur, h, hl => by
  simp only [List.length_cons] at hl
  have s := heap_setCell_same w g o _ _ v h
  rw [World.setCells, setCells_block r (o + 1) _ _ s (by simp; omega)]
  congr 2
  have ho : o < cur.toList.length := by simp; omega
  have e1 : ((cur.setIfInBounds o v).toList.take (o + 1)) = cur.toList.take o ++ [v] := by
   rw [Array.toList_setIfInBounds, List.take_add_one, List.take_set_of_le (Nat.le_refl _), List.getElem?_set_self ho]
   rfl
  have e2 : ((cur.setIfInBounds o v).toList.drop (o + 1 + r.length)) = cur.toList.drop (o + (r.length + 1)) := by
   rw [Array.toList_setIfInBounds, List.drop_set_of_lt (by omega), show o + 1 + r.length = o + (r.length + 1) by omega]
  show (((cur.setIfInBounds o v).toList.take (o + 1)) ++ r ++ ((cur.setIfInBounds o v).toList.drop (o + 1 + r.length))).toArray = _
  rw [e1, e2]
  simp
theorem setCells_far {g k : Nat} (hk : k ≠ g) : ∀ (vs : List Value) (o : Nat) (w : World), (w.setCells g o vs).heap[k]? = w.heap[k]?
 | [], _, _ => rfl
 | v :: r, o, w => by rw [World.setCells, setCells_far hk r, Below.heap_setCell _ _ _ _ hk]
theorem setCells_plain {g : Nat} : ∀ (vs : List Value) (o : Nat) (w : World), (w.setCells g o vs).os = w.os ∧ (w.setCells g o vs).tape = w.tape ∧ (w.setCells g o vs).output = w.output ∧ (w.setCells g o vs).heap.size = w.heap.size
 | [], _, _ => ⟨rfl, rfl, rfl, rfl⟩
 | v :: r, o, w => by
  obtain ⟨h1, h2, h3, h4⟩ := setCells_plain (g := g) r (o + 1) (w.setCell ⟨g, o, none⟩ v)
  rw [World.setCells]
  exact ⟨h1, h2, h3, by rw [h4]; simp [World.setCell]⟩
theorem setCells_chg {g : Nat} (vs : List Value) (o : Nat) (w : World) : Chg (fun k => k = g) w (w.setCells g o vs) := by
 obtain ⟨h1, h2, h3, h4⟩ := setCells_plain (g := g) vs o w
 exact ⟨h1, h2, h3, Nat.le_of_eq h4.symm, fun k _ hk => setCells_far hk vs o w⟩
theorem raw_below {w w' : World} {a : Option Addr} {l : List Pt} (h : RawAt w a l) (hb : Below w.heap.size w w') : RawAt w' a l := by
 rcases h with h | ⟨b, off, e, hlt, hp⟩
 ·exact .inl h
 ·exact .inr ⟨b, off, e, Nat.lt_of_lt_of_le hlt hb.size, hp.below hb hlt⟩
theorem cellsP_take (l : List Pt) (i : Nat) : cellsP (l.take i) = (cellsP l).take (i * 2) := by
 by_cases h : i ≤ l.length
 ·have e : cellsP l = cellsP (l.take i) ++ cellsP (l.drop i) := by rw [← cellsP_append, List.take_append_drop]
  rw [e, List.take_left' (by rw [cellsP_len, List.length_take, Nat.min_eq_left h])]
 ·rw [List.take_of_length_le (by omega), List.take_of_length_le (by rw [cellsP_len]; omega)]
theorem cellsP_drop (l : List Pt) (i : Nat) : cellsP (l.drop i) = (cellsP l).drop (i * 2) := by
 by_cases h : i ≤ l.length
 ·have e : cellsP l = cellsP (l.take i) ++ cellsP (l.drop i) := by rw [← cellsP_append, List.take_append_drop]
  rw [e, List.drop_left' (by rw [cellsP_len, List.length_take, Nat.min_eq_left h])]
 ·rw [List.drop_of_length_le (by omega), List.drop_of_length_le (by rw [cellsP_len]; omega)]; rfl
theorem cellsP_erase (l : List Pt) (i : Nat) : cellsP (l.eraseIdx i) = (cellsP l).take (i * 2) ++ (cellsP l).drop ((i + 1) * 2) := by
 rw [List.eraseIdx_eq_take_drop_succ, cellsP_append, cellsP_take, cellsP_drop]
theorem ptsAt_alloc (w : World) (l : List Pt) : PtsAt (w.alloc (.cells (cellsP l).toArray 37)) w.heap.size 0 l := by
 intro j hj
 obtain ⟨f0, f1⟩ := cellsP_get l j hj
 have e : l.getD j (0, 0) = l[j] := by simp [hj]
 have hl := cellsP_len l
 rw [Nat.zero_add]
 rw [World.cell?_alloc_at _ _ _ _ (by simp), World.cell?_alloc_at _ _ _ _ (by simp)]
 rw [List.getElem?_toArray, List.getElem?_toArray, f0, f1]
 exact ⟨rfl, rfl⟩
theorem tri_ex (w : World) (l : List Pt) (hl : l.length ≤ 60) (hn : AllNear l) (hnd : l.Nodup) : ∃ ts, TriSpec l ts ∧ ts.length ≤ 4000 := by
 by_cases h0 : l = []
 ·subst h0
  exact ⟨[], ⟨[], ⟨List.Perm.refl _, (fun i j _ h => by cases h)⟩, .inl ⟨(fun j _ h => by cases h), rfl⟩⟩, by simp⟩
 ·obtain ⟨n, hn'⟩ : ∃ n, l.length = n + 1 := ⟨l.length - 1, by have := List.length_pos_iff.2 h0; omega⟩
  generalize hW : w.alloc (.cells (cellsP l).toArray 37) = W
  have hb : w.heap.size < W.heap.size := by rw [← hW]; simp
  have hp : PtsAt W w.heap.size 0 l := by rw [← hW]; exact ptsAt_alloc w l
  clear hW
  generalize w.heap.size = b at *
  obtain ⟨_, w2, _, ⟨g, is, _, _, hgs, hb2, hns, _, hio⟩, _⟩ := order_any b 0 l.length l n W hn' hl hb hp []
  obtain ⟨_, w3, _, ⟨B, _, hB2, hcB, _, hb3⟩, _⟩ := askOf_any (some ⟨b, 0, none⟩) l.length l.length w2 []
  have hW3 : RowKit.Below W.heap.size W w3 := hb2.trans (hb3.mono hb2.size)
  have A : AskAt w3 B b 0 l.length l := ⟨hB2, Nat.lt_of_lt_of_le hb hW3.size, hcB, hp.below hW3 hb⟩
  obtain ⟨_, w4, _, ⟨v, ts, _, _, hS, hlen, _⟩, _⟩ := tris_any B b 0 l.length g l.length l is w3 hl hio hnd A hn (Nat.lt_of_lt_of_le hgs hb3.size) (hns.below hb3 hgs) []
  exact ⟨ts, hS, hlen⟩
structure PRow (w : World) (m : Nat) (pts : List Pt) (nums : List Int) (ever : Nat) (vA vN : Value) : Prop where
 blk : w.heap[m]? = some (.cells #[vA, vN, .int .i64 (ever : Int)] 101 (0, 0))
 ownA : w.ownsRow 0 37 2 vA pts.length (cellsP pts)
 ownN : w.ownsRow 0 3 1 vN nums.length (nums.map (.int .i64))
structure MOk (pts : List Pt) (nums : List Int) (ever : Nat) : Prop where
 len : pts.length = nums.length
 le : pts.length ≤ 60
 near : AllNear pts
 nd : pts.Nodup
 inc : nums.Pairwise (· < ·)
 rng : ∀ n ∈ nums, 0 ≤ n ∧ n < ever
section
variable {w w' : World} {m : Nat} {pts : List Pt} {nums : List Int} {ever : Nat} {vA vN : Value}
theorem PRow.keep (h : PRow w m pts nums ever vA vN) (hm : w'.heap[m]? = w.heap[m]?) (hA : ∀ g, vA.ownBlock = some g → w'.heap[g]? = w.heap[g]?) (hN : ∀ g, vN.ownBlock = some g → w'.heap[g]? = w.heap[g]?) : PRow w' m pts nums ever vA vN :=
 ⟨by rw [hm]; exact h.blk, ownS_keep h.ownA hA, ownS_keep h.ownN hN⟩
theorem PRow.below (h : PRow w m pts nums ever vA vN) (hb : Below w.heap.size w w') : PRow w' m pts nums ever vA vN :=
 h.keep (hb.block _ (lt_some h.blk)) (fun g hg => hb.block g (ownS_lt h.ownA hg)) (fun g hg => hb.block g (ownS_lt h.ownN hg))
theorem PRow.lt (h : PRow w m pts nums ever vA vN) : m < w.heap.size := lt_some h.blk
theorem PRow.cells (h : PRow w m pts nums ever vA vN) : w.cell? ⟨m, 0, none⟩ = some vA ∧ w.cell? ⟨m, 1, none⟩ = some vN ∧ w.cell? ⟨m, 2, none⟩ = some (.int .i64 (ever : Int)) ∧ ∀ j, w.frozen? ⟨m, j, none⟩ = false := by
 have hb := h.blk
 simp [World.cell?, World.frozen?, hb]
end
end Go.Proofs.YtgpapegpdfonpaaGreatDoor

namespace Go.Proofs.YtgpapegpdfonpaaGreatDoor
open Go.RowKit
attribute [local go_sem ↓] Go.wp_at_zero Go.wp_at_succ
def IdxP (l : List Pt) (p : Pt) (n : Int) : Prop := (∃ i : Nat, i < l.length ∧ ptAt l i = p ∧ n = i) ∨ ((∀ i, i < l.length → ptAt l i ≠ p) ∧ n = -1)
set_option maxRecDepth 100000 in
set_option maxHeartbeats 2000000 in
theorem pidx_any (a : Option Addr) (cap : Nat) (l : List Pt) (px py : Int) (w : World) (hl : l.length ≤ 60) (hr : RawAt w a l) :
  Calls Tryz.prog 171 #[.slice a l.length cap, .agg #[.int .i64 px, .int .i64 py]] w fun e w' => ∃ n, e = .returned (.int .i64 n) ∧ IdxP l (px, py) n ∧ Below w.heap.size w w' := by
 go_enter Tryz.func171, Tryz.ntmps171
 go_wp2
 have hb0 := below1 w (.cells #[.int .i64 px, .int .i64 py] 37)
 have x0 : (w.alloc (.cells #[.int .i64 px, .int .i64 py] 37)).cell? ⟨w.heap.size, 0, none⟩ = some (.int .i64 px) := by rw [World.cell?_alloc_at _ _ _ _ (by simp)]; rfl
 have x1 : (w.alloc (.cells #[.int .i64 px, .int .i64 py] 37)).cell? ⟨w.heap.size, 1, none⟩ = some (.int .i64 py) := by rw [World.cell?_alloc_at _ _ _ _ (by simp)]; rfl
 have hs0 : (w.alloc (.cells #[.int .i64 px, .int .i64 py] 37)).heap.size = w.heap.size + 1 := by simp
 generalize w.alloc (.cells #[.int .i64 px, .int .i64 py] 37) = W at *
 have HRA : Hid (RawAt W a l) := raw_below hr hb0
 have hxW : w.heap.size < W.heap.size := by omega
 have HB0 : Hid (Below w.heap.size w W) := hb0
 clear hr hs0 hb0
 generalize hBX : w.heap.size = BX at *
 go_loopw [8] (fun s8 wr => ∃ k : Nat, k ≤ l.length ∧ s8 = .int .i64 k ∧ (∀ j, j < k → ptAt l j ≠ (px, py)) ∧ Below W.heap.size W wr) (fun i _ => l.length - (intOf i).toNat)
 case atStart => exact ⟨0, Nat.zero_le _, rfl, fun j hj => by omega, Below.refl _ _⟩
 case round =>
  obtain ⟨k, hk, rfl, hno, hbr⟩ := hrel
  have HNO : Hid (∀ j, j < k → ptAt l j ≠ (px, py)) := hno
  clear hno
  by_cases hkl : k < l.length
  ·rcases raw_below HRA.out hbr with h | ⟨b, off, rfl, hb, hp⟩
   ·rw [h] at hkl; simp at hkl
   obtain ⟨c0, c1⟩ := hp k hkl
   have q0 := (hbr.cell (p := ⟨BX, 0, none⟩) hxW).trans x0
   have q1 := (hbr.cell (p := ⟨BX, 1, none⟩) hxW).trans x1
   have y0 : (0 : Int) ≤ (k : Int) := by omega
   have y1 : (k : Int) < (l.length : Int) := by omega
   have y4 : IntKind.i64.wrap ((k : Int) + 1) = (k : Int) + 1 := wrap_id (by omega) (by omega)
   have HP : Hid (ptAt l k = ((l.getD k (0, 0)).1, (l.getD k (0, 0)).2)) := rfl
   clear hp
   generalize (l.getD k (0, 0)).1 = qx at *
   generalize (l.getD k (0, 0)).2 = qy at *
   by_cases e1 : px = qx
   ·by_cases e2 : py = qy
    ·subst e1 e2
     have HI : Hid (IdxP l (px, py) k) := .inl ⟨k, hkl, HP.out, rfl⟩
     clear HNO HP
     go_wp2_with fail
     go_quiet (fail)
     go_wp2
     go_ret
     rw [hBX]
     exact ⟨k, rfl, HI.out, below_drewN (HB0.out.trans (hbr.mono (by omega)))⟩
    ·have HN : Hid (∀ j, j < k + 1 → ptAt l j ≠ (px, py)) := fun j hj => by
      by_cases e : j = k
      ·subst e; rw [HP.out]; intro h; exact e2 (Prod.mk.inj h).2.symm
      ·exact HNO.out j (by omega)
     clear HNO HP
     go_wp2_with fail
     go_quiet (fail)
     go_wp2
     go_roundw
     case rel => exact ⟨k + 1, by omega, by go_num, HN.out, below_drewN hbr⟩
     case measure => simp [intOf]; omega
   ·have HN : Hid (∀ j, j < k + 1 → ptAt l j ≠ (px, py)) := fun j hj => by
     by_cases e : j = k
     ·subst e; rw [HP.out]; intro h; exact e1 (Prod.mk.inj h).1.symm
     ·exact HNO.out j (by omega)
    clear HNO HP
    go_wp2_with fail
    go_quiet (fail)
    go_wp2
    go_roundw
    case rel => exact ⟨k + 1, by omega, by go_num, HN.out, below_drewN hbr⟩
    case measure => simp [intOf]; omega
  ·have ek : k = l.length := by omega
   subst ek
   have HI : Hid (IdxP l (px, py) (-1)) := .inr ⟨HNO.out, rfl⟩
   clear HNO
   go_wp2
   go_ret
   rw [hBX]
   exact ⟨-1, rfl, HI.out, HB0.out.trans (hbr.mono (by omega))⟩
theorem IdxP.dec {l : List Pt} {p : Pt} {n : Int} (h : IdxP l p n) : decide (0 ≤ n) = decide (p ∈ l) := by
 rcases h with ⟨i, hi, e, rfl⟩ | ⟨hno, rfl⟩
 ·have : p ∈ l := by rw [← e]; exact ptAt_mem hi
  rw [decide_eq_true this, decide_eq_true (by omega)]
 ·have : p ∉ l := fun hm => by
   obtain ⟨i, hi, e⟩ := List.getElem_of_mem hm
   exact hno i hi (by unfold ptAt px py; simp [hi, e])
  rw [decide_eq_false this]; rfl
set_option maxHeartbeats 800000 in
theorem pcont_any (a : Option Addr) (cap : Nat) (l : List Pt) (px py : Int) (w : World) (hl : l.length ≤ 60) (hr : RawAt w a l) :
  Calls Tryz.prog 147 #[.slice a l.length cap, .agg #[.int .i64 px, .int .i64 py]] w fun e w' => e = .returned (.bool (decide ((px, py) ∈ l))) ∧ Below w.heap.size w w' := by
 have hb0 := below1 w (.cells #[.int .i64 px, .int .i64 py] 37)
 have hr1 : RawAt (w.alloc (.cells #[.int .i64 px, .int .i64 py] 37)) a l := raw_below hr hb0
 go_enter Tryz.func147, Tryz.ntmps147
 go_wp2_with (go_at_call 171; refine (pidx_any _ _ l _ _ _ hl hr1).mono ?_; rintro e w' ⟨n, rfl, hn, hb1⟩)
 go_ret
 exact ⟨by rw [← hn.dec]; rfl, hb0.trans (hb1.mono hb0.size)⟩
set_option maxHeartbeats 2000000 in
theorem nidx_any (g cap : Nat) (is : List Nat) (n : Nat) (w : World) (hl : is.length ≤ 1000) (hg : g < w.heap.size) (hn : NatsAt w g 0 is) (i : Nat) (hi : i < is.length) (he : is.getD i 0 = n) (hnd : ∀ j, j < i → is.getD j 0 ≠ n) :
  Calls Tryz.prog 188 #[.slice (some ⟨g, 0, none⟩) is.length cap, .int .i64 (n : Int)] w fun e w' => e = .returned (.int .i64 (i : Int)) ∧ w' = w := by
 go_enter Tryz.func188, Tryz.ntmps188
 go_wp2
 go_loopw [8] (fun s8 wr => ∃ k : Nat, k ≤ i ∧ s8 = .int .i64 k ∧ wr = w) (fun s _ => is.length - (intOf s).toNat)
 case atStart => exact ⟨0, Nat.zero_le _, rfl, rfl⟩
 case round =>
  obtain ⟨k, hk, rfl, rfl⟩ := hrel
  have c0 := hn k (by omega)
  rw [Nat.zero_add] at c0
  have y0 : (0 : Int) ≤ (k : Int) := by omega
  have y1 : (k : Int) < (is.length : Int) := by omega
  have y4 : IntKind.i64.wrap ((k : Int) + 1) = (k : Int) + 1 := wrap_id (by omega) (by omega)
  by_cases e : k = i
  ·subst e
   rw [he] at c0
   have hq : ((n : Int) == (n : Int)) = true := by simp
   clear hnd hn
   go_wp2
   go_ret
   exact ⟨rfl, rfl⟩
  ·have hne := hnd k (by omega)
   have hq : ((n : Int) == ((is.getD k 0 : Nat) : Int)) = false := beq_eq_false_iff_ne.2 (by omega)
   generalize is.getD k 0 = v at *
   clear hnd hn
   go_wp2
   go_roundw
   case rel => exact ⟨k + 1, by omega, by go_num, by first | rfl | trivial⟩
   case measure => simp [intOf]; omega
set_option maxHeartbeats 1000000 in
theorem isnan_cmp (x : Int) (w : World) : Calls Tryz.prog 113 #[.int .i64 x] w fun e w' => e = .returned (.bool false) ∧ w' = w := by
 go_enter Tryz.func113, Tryz.ntmps113
 go_wp2
 go_ret
 exact ⟨by simp, rfl⟩
set_option maxHeartbeats 1000000 in
theorem isnan_sl (x : Int) (w : World) : Calls Tryz.prog 173 #[.int .i64 x] w fun e w' => e = .returned (.bool false) ∧ w' = w := by
 go_enter Tryz.func173, Tryz.ntmps173
 go_wp2
 go_ret
 exact ⟨by simp, rfl⟩
set_option maxHeartbeats 1000000 in
theorem less_any (x y : Int) (w : World) : Calls Tryz.prog 172 #[.int .i64 x, .int .i64 y] w fun e w' => e = .returned (.bool (decide (x < y))) ∧ w' = w := by
 go_enter Tryz.func172, Tryz.ntmps172
 go_wp2_with (go_at_call 113; refine (isnan_cmp _ _).mono ?_; rintro e w' ⟨rfl, rfl⟩)
 go_ret
 exact ⟨by simp, rfl⟩
set_option maxHeartbeats 4000000 in
set_option maxRecDepth 1000000 in
theorem bsearch_any (a : Option Addr) (c : Nat) (ns : List Int) (x : Int) (w : World) (hl : ns.length ≤ 60) (hn : NumsAt w a ns) (hinc : ns.Pairwise (· < ·)) :
  Calls Tryz.prog 148 #[.slice a ns.length c, .int .i64 x] w fun e w' => ∃ i : Nat, e = .returned (.tuple #[.int .i64 (i : Int), .bool (decide (x ∈ ns))]) ∧ (x ∈ ns → i < ns.length ∧ ns.getD i 0 = x) ∧ Below w.heap.size w w' := by
 have S : Hid (∀ a b, a ≤ b → b < ns.length → ns.getD a 0 ≤ ns.getD b 0) := fun i j hij hj => by
  rcases Nat.lt_or_ge i j with h | h
  ·have := List.pairwise_iff_getElem.1 hinc i j (by omega) hj h
   have e1 : ns.getD i 0 = ns[i] := by simp [show i < ns.length by omega]
   have e2 : ns.getD j 0 = ns[j] := by simp [hj]
   omega
  ·have : i = j := by omega
   subst this; exact Int.le_refl _
 have HN : Hid (NumsAt w a ns) := hn
 clear hinc hn
 go_enter Tryz.func148, Tryz.ntmps148
 go_wp2
 go_loopg [7, 8] ns.length (fun g s7 s8 wr => ∃ lo hi q : Nat, s7 = .int .i64 lo ∧ s8 = .int .i64 hi ∧ lo ≤ hi ∧ hi ≤ ns.length ∧ hi - lo ≤ g ∧ wr = w.drewN q ∧ (∀ t, t < lo → ns.getD t 0 < x) ∧ (∀ t, hi ≤ t → t < ns.length → x ≤ ns.getD t 0))
 case atStart => exact ⟨0, ns.length, 0, rfl, rfl, Nat.zero_le _, Nat.le_refl _, by omega, rfl, fun t ht => absurd ht (Nat.not_lt_zero _), fun t h1 h2 => by omega⟩
 case round =>
  obtain ⟨lo, hi, q, rfl, rfl, hlh, hin, hg, rfl, h1, h2⟩ := hrel
  have I : Hid ((∀ t, t < lo → ns.getD t 0 < x) ∧ (∀ t, hi ≤ t → t < ns.length → x ≤ ns.getD t 0)) := ⟨h1, h2⟩
  clear h1 h2
  by_cases hlt : lo < hi
  ·obtain ⟨G, rfl, cm⟩ := HN.out ((lo + hi) / 2) (by omega)
   generalize hy : ns.getD ((lo + hi) / 2) 0 = y at cm
   have Y : Hid (ns.getD ((lo + hi) / 2) 0 = y) := hy
   clear hy
   by_cases hyx : y < x
   ·go_wp2_with (first | (go_at_call 172; refine (less_any _ _ _).mono ?_; rintro e w' ⟨rfl, rfl⟩) | (go_at_call 173; refine (isnan_sl _ _).mono ?_; rintro e w' ⟨rfl, rfl⟩))
    go_roundg (hi - ((lo + hi) / 2 + 1))
    case measure => omega
    case rel =>
     refine ⟨(lo + hi) / 2 + 1, hi, _, by rw [show ((lo : Int) + (hi : Int)) / 2 + 1 = (((lo + hi) / 2 + 1 : Nat) : Int) by omega], rfl, by omega, hin, Nat.le_refl _, rfl, fun t ht => ?_, I.out.2⟩
     have := S.out t ((lo + hi) / 2) (by omega) (by omega)
     rw [Y.out] at this
     omega
   ·go_wp2_with (first | (go_at_call 172; refine (less_any _ _ _).mono ?_; rintro e w' ⟨rfl, rfl⟩) | (go_at_call 173; refine (isnan_sl _ _).mono ?_; rintro e w' ⟨rfl, rfl⟩))
    go_roundg ((lo + hi) / 2 - lo)
    case measure => omega
    case rel =>
     refine ⟨lo, (lo + hi) / 2, _, rfl, by rw [show ((lo : Int) + (hi : Int)) / 2 = (((lo + hi) / 2 : Nat) : Int) by omega], by omega, by omega, Nat.le_refl _, rfl, I.out.1, fun t ht htn => ?_⟩
     have := S.out ((lo + hi) / 2) t ht htn
     rw [Y.out] at this
     omega
  ·have : hi = lo := by omega
   subst this
   have hmem : x ∈ ns → hi < ns.length ∧ ns.getD hi 0 = x := fun hm => by
    obtain ⟨j, hj, e⟩ := List.getElem_of_mem hm
    have ej : ns.getD j 0 = x := by simp [hj, e]
    have j1 : hi ≤ j := by
     rcases Nat.lt_or_ge j hi with h | h
     ·have := I.out.1 j h; omega
     ·exact h
    have j2 := I.out.2 hi (Nat.le_refl _) (by omega)
    have j3 := S.out hi j j1 hj
    exact ⟨by omega, by omega⟩
   have HM : Hid (x ∈ ns → hi < ns.length ∧ ns.getD hi 0 = x) := hmem
   clear hmem
   by_cases hn : hi < ns.length
   ·obtain ⟨G, rfl, cl⟩ := HN.out hi hn
    generalize hy : ns.getD hi 0 = y at cl
    have Y : Hid (ns.getD hi 0 = y) := hy
    clear hy
    by_cases hyx : y = x
    ·have HX : Hid (x ∈ ns) := by unfold Hid; rw [← hyx, ← Y.out]; exact getD_mem hn
     go_wp2_with (first | (go_at_call 172; refine (less_any _ _ _).mono ?_; rintro e w' ⟨rfl, rfl⟩) | (go_at_call 173; refine (isnan_sl _ _).mono ?_; rintro e w' ⟨rfl, rfl⟩))
     go_ret2
     refine ⟨hi, ?_, HM.out, below_drewN (Below.refl _ _)⟩
     rw [decide_eq_true HX.out]
     first | rfl | simp [*]
    ·have HX : Hid (x ∉ ns) := fun hm => by
      have := HM.out hm
      rw [Y.out] at this
      exact hyx this.2
     go_wp2_with (first | (go_at_call 172; refine (less_any _ _ _).mono ?_; rintro e w' ⟨rfl, rfl⟩) | (go_at_call 173; refine (isnan_sl _ _).mono ?_; rintro e w' ⟨rfl, rfl⟩))
     go_ret2
     refine ⟨hi, ?_, HM.out, below_drewN (Below.refl _ _)⟩
     rw [decide_eq_false HX.out]
     first | rfl | simp [*]
   ·have HX : Hid (x ∉ ns) := fun hm => by
     have := HM.out hm
     omega
    go_wp2_with (first | (go_at_call 172; refine (less_any _ _ _).mono ?_; rintro e w' ⟨rfl, rfl⟩) | (go_at_call 173; refine (isnan_sl _ _).mono ?_; rintro e w' ⟨rfl, rfl⟩))
    go_ret2
    refine ⟨hi, ?_, HM.out, below_drewN (Below.refl _ _)⟩
    rw [decide_eq_false HX.out]
    first | rfl | simp [*]
set_option maxHeartbeats 1000000 in
theorem apart_any (ax ay bx by' : Int) (w : World) (ha : Near ax ay) (hb : Near bx by') :
  Calls Tryz.prog 130 #[.agg #[.int .i64 ax, .int .i64 ay], .agg #[.int .i64 bx, .int .i64 by']] w fun e w' => e = .returned (.int .i64 (dst (bx, by') (ax, ay))) ∧ Below w.heap.size w w' := by
 have HN : Hid (Near ax ay ∧ Near bx by') := ⟨ha, hb⟩
 have s1 : -16000 ≤ bx - ax ∧ bx - ax ≤ 16000 ∧ -16000 ≤ by' - ay ∧ by' - ay ≤ 16000 := by
  obtain ⟨a1, a2, a3, a4⟩ := ha; obtain ⟨b1, b2, b3, b4⟩ := hb; omega
 have hb0 := below2 w (.cells #[.int .i64 ax, .int .i64 ay] 37) (.cells #[.int .i64 bx, .int .i64 by'] 37)
 clear ha hb
 go_enter Tryz.func130, Tryz.ntmps130
 go_wp2_with (first
   | (go_at_call 84; refine (stepFrom_any _ _ _ _ _ HN.out.1 HN.out.2).mono ?_; rintro e w1 ⟨rfl, hb1⟩)
   | (go_at_call 86; refine (square_any _ _ _ s1.1 s1.2.1 s1.2.2.1 s1.2.2.2).mono ?_; rintro e w2 ⟨rfl, hb2⟩))
 go_ret
 have h01 := hb0.trans (hb1.mono hb0.size)
 exact ⟨rfl, h01.trans (hb2.mono h01.size)⟩
set_option maxHeartbeats 1000000 in
theorem lesser_any (a b : Int) (w : World) :
  Calls Tryz.prog 189 #[.int .i64 a, .int .i64 b] w fun e w' => e = .returned (.slice (some ⟨w.heap.size, 0, none⟩) 2 2) ∧ w'.ownsRow w.heap.size 3 1 (.slice (some ⟨w.heap.size, 0, none⟩) 2 2) 2 [.int .i64 (min a b), .int .i64 (max a b)] ∧ Below w.heap.size w w' := by
 go_enter Tryz.func189, Tryz.ntmps189
 go_wp2
 go_ret
 exact ⟨rfl, ⟨rfl, .inr ⟨w.heap.size, 2, _, rfl, Nat.le_refl _, heap_last _ _, by omega, by decide, rfl, rfl⟩⟩, below1 _ _⟩
end Go.Proofs.YtgpapegpdfonpaaGreatDoor

namespace Go.Proofs.YtgpapegpdfonpaaGreatDoor
open Go.RowKit
attribute [local go_sem ↓] Go.wp_at_zero Go.wp_at_succ
theorem run_clear_pt (w : World) (b o c : Nat) (ty : TypeId) (h0 : (w.cell? ⟨b, o, none⟩).isSome = true) (h1 : (w.cell? ⟨b, o + 1, none⟩).isSome = true) (f0 : w.frozen? ⟨b, o, none⟩ = false) (f1 : w.frozen? ⟨b, o + 1, none⟩ = false) :
  (Builtin.clear_ #[41] ty #[.slice (some ⟨b, o, none⟩) 1 c]).run Tryz.prog w = .ok (.tuple #[]) (w.setCells b o [.int .i64 0, .int .i64 0]) := by
 obtain ⟨iP, hiP, hzP, hsP, hbP⟩ := info_parts infoPt
 have hv : ∀ w, (zeroValue 37).run Tryz.prog w = .ok (.agg #[.int .i64 0, .int .i64 0]) w := fun w => by go_simp
 have hz : (Builtin.zeroCells (Value.agg #[.int .i64 0, .int .i64 0]).cells 1).toList = [.int .i64 0, .int .i64 0] := by kernel_rfl
 have hst := run_storeCells_cells (P := Tryz.prog) b o [.int .i64 0, .int .i64 0] 0 w (fun j hj => by
   have : j = 0 ∨ j = 1 := by simp at hj; omega
   rcases this with rfl | rfl
   · exact h0
   · exact h1) (fun j hj => by
   have : j = 0 ∨ j = 1 := by simp at hj; omega
   rcases this with rfl | rfl
   · exact f0
   · exact f1) (by intro v hv'; simp at hv'; rw [hv']; rfl)
 simp only [Nat.add_zero] at hst
 simp [Builtin.clear_, run_underlying Tryz.underlying41, hv, hz, hst]
theorem run_clear_int (w : World) (b o c : Nat) (ty : TypeId) (h0 : (w.cell? ⟨b, o, none⟩).isSome = true) (f0 : w.frozen? ⟨b, o, none⟩ = false) :
  (Builtin.clear_ #[26] ty #[.slice (some ⟨b, o, none⟩) 1 c]).run Tryz.prog w = .ok (.tuple #[]) (w.setCells b o [.int .i64 0]) := by
 obtain ⟨i0, hi0, hz0, hs0, hb0⟩ := info_parts info3
 have hv : ∀ w, (zeroValue 3).run Tryz.prog w = .ok (.int .i64 0) w := fun w => by go_simp
 have hz : (Builtin.zeroCells (Value.int .i64 0).cells 1).toList = [.int .i64 0] := by kernel_rfl
 have hst := run_storeCells_cells (P := Tryz.prog) b o [.int .i64 0] 0 w (fun j hj => by
   have : j = 0 := by simp at hj; omega
   subst this; exact h0) (fun j hj => by
   have : j = 0 := by simp at hj; omega
   subst this; exact f0) (by intro v hv'; simp at hv'; rw [hv']; rfl)
 simp only [Nat.add_zero] at hst
 simp [Builtin.clear_, run_underlying Tryz.underlying26, hv, hz, hst]
theorem row_less {w : World} {g cap n s i : Nat} {e : TypeId} {cur : Array Value} {xs : List Value} {z : Value} (hg : w.heap[g]? = some (.cells cur e (0, 0))) (hcs : cur.size = cap * s) (hnc : n ≤ cap) (htk : cur.toList.take (n * s) = xs) (hi : i < n) (hcm : cap ≤ maxLen) (m : Nat) :
  (((w.drewN m).setCells g (i * s) (xs.drop ((i + 1) * s))).setCells g ((n - 1) * s) (List.replicate s z)).ownsRow 0 e s (.slice (some ⟨g, 0, none⟩) (n - 1) cap) (n - 1) (xs.take (i * s) ++ xs.drop ((i + 1) * s)) ∧
  Chg (fun k => k = g) w (((w.drewN m).setCells g (i * s) (xs.drop ((i + 1) * s))).setCells g ((n - 1) * s) (List.replicate s z)) := by
 have m1 : i * s ≤ n * s := Nat.mul_le_mul_right _ (by omega)
 have m2 : (i + 1) * s ≤ n * s := Nat.mul_le_mul_right _ (by omega)
 have m3 : n * s ≤ cap * s := Nat.mul_le_mul_right _ hnc
 have m4 : (n - 1) * s + s = n * s := by rw [← Nat.succ_mul]; congr 1; omega
 have m5 : (i + 1) * s = i * s + s := Nat.succ_mul _ _
 have hxl : xs.length = n * s := by rw [← htk]; simp; omega
 have hdl : (xs.drop ((i + 1) * s)).length = n * s - (i + 1) * s := by rw [List.length_drop, hxl]
 have b1 := setCells_block (g := g) (xs.drop ((i + 1) * s)) (i * s) (w.drewN m) cur hg (by omega)
 have b2 := setCells_block (g := g) (List.replicate s z) ((n - 1) * s) _ _ b1 (by simp; omega)
 refine ⟨⟨?_, .inr ⟨g, cap, _, rfl, Nat.zero_le _, b2, by omega, hcm, ?_, ?_⟩⟩, ?_⟩
 ·simp only [List.length_append, List.length_take, hdl, hxl]; omega
 ·simp only [List.size_toArray, List.length_append, List.length_take, List.length_drop, List.length_replicate, Array.length_toList, hcs, hxl]; omega
 ·have e0 : cur.toList.take (i * s) = xs.take (i * s) := by rw [← htk, List.take_take, Nat.min_eq_left m1]
  have l1 : (xs.take (i * s) ++ xs.drop ((i + 1) * s)).length = (n - 1) * s := by
   rw [List.length_append, hdl, List.length_take, hxl, Nat.min_eq_left m1]; omega
  have e1 : (cur.toList.take (i * s) ++ xs.drop ((i + 1) * s) ++ cur.toList.drop (i * s + (xs.drop ((i + 1) * s)).length)).toArray.toList.take ((n - 1) * s) = xs.take (i * s) ++ xs.drop ((i + 1) * s) := by
   rw [e0, List.toList_toArray, List.take_left' l1]
  rw [e1, List.toList_toArray, List.append_assoc, List.take_left' l1]
 ·have c1 := setCells_chg (g := g) (xs.drop ((i + 1) * s)) (i * s) (w.drewN m)
  have c2 := setCells_chg (g := g) (List.replicate s z) ((n - 1) * s) ((w.drewN m).setCells g (i * s) (xs.drop ((i + 1) * s)))
  have c := c1.trans c2 fun _ _ h => h
  exact ⟨c.os, c.tape, c.output, c.size, c.far⟩
set_option maxHeartbeats 4000000 in
set_option maxRecDepth 1000000 in
theorem delP_any (g cap i : Nat) (pts : List Pt) (w : World) (h : w.ownsRow 0 37 2 (.slice (some ⟨g, 0, none⟩) pts.length cap) pts.length (cellsP pts)) (hl : pts.length ≤ 60) (hi : i < pts.length) :
  Calls Tryz.prog 149 #[.slice (some ⟨g, 0, none⟩) pts.length cap, .int .i64 (i : Int), .int .i64 ((i : Int) + 1)] w fun e w' =>
   e = .returned (.slice (some ⟨g, 0, none⟩) (pts.length - 1) cap) ∧ w'.ownsRow 0 37 2 (.slice (some ⟨g, 0, none⟩) (pts.length - 1) cap) (pts.eraseIdx i).length (cellsP (pts.eraseIdx i)) ∧ Chg (fun k => k = g) w w' := by
 obtain ⟨iP, hiP, hzP, hsP, hbP⟩ := info_parts infoPt
 obtain ⟨cur, hg, hnc, hcm, hcs, htk⟩ : ∃ cur, w.heap[g]? = some (.cells cur 37 (0, 0)) ∧ pts.length ≤ cap ∧ cap ≤ maxLen ∧ cur.size = cap * 2 ∧ cur.toList.take (pts.length * 2) = cellsP pts := by
  rcases h.2 with ⟨e, _⟩ | ⟨g', cap', cur, e, _, r⟩
  ·cases e
  ·cases e; exact ⟨cur, r⟩
 have hcm' : cap ≤ 9223372036854775807 := hcm
 have HR := row_less (z := .int .i64 0) hg hcs hnc htk hi hcm
 have hel : (pts.eraseIdx i).length = pts.length - 1 := by rw [List.length_eraseIdx, if_pos hi]
 have hce := cellsP_erase pts i
 generalize hn : pts.length = n at *
 have hxl : (cellsP pts).length = n * 2 := by rw [cellsP_len, hn]
 obtain ⟨j, hj⟩ : ∃ j, j = i + 1 := ⟨_, rfl⟩
 obtain ⟨news, hnews⟩ : ∃ news, news = (cellsP pts).drop ((i + 1) * 2) := ⟨_, rfl⟩
 have hlen : news.length = (n - j) * 2 := by rw [hnews, List.length_drop, hxl]; omega
 have hcell : ∀ j, j < cap * 2 → w.cell? ⟨g, j, none⟩ = cur[j]? := fun j hj => by simp [World.cell?, hg]
 have hfz : ∀ j, w.frozen? ⟨g, j, none⟩ = false := fun j => by simp [World.frozen?, hg]
 have hget : ∀ t u, news[t]? = some u → cur[j * 2 + t]? = some u := fun t u hu => by
  rw [hj]
  rw [hnews, List.getElem?_drop, ← htk] at hu
  rw [← Array.getElem?_toList]
  have := (List.getElem?_eq_some_iff.1 hu).1
  rw [List.getElem?_take_of_lt (by simp at this; omega)] at hu
  exact hu
 obtain ⟨A, hA, hsrc⟩ : ∃ A : Addr, (if cap = j then some (⟨g, 0, none⟩ : Addr) else some ⟨g, j * 2, none⟩) = some A ∧ Hid (∀ t u, news[t]? = some u → w.drew.cell? (A.add t) = some u) := by
  by_cases hc : cap = j
  ·refine ⟨⟨g, 0, none⟩, by simp [hc], fun t u hu => ?_⟩
   have h0 : news.length = 0 := by rw [hlen]; omega
   rw [List.length_eq_zero_iff.1 h0] at hu
   simp at hu
  ·refine ⟨⟨g, j * 2, none⟩, by simp [hc], fun t u hu => ?_⟩
   have ht := (List.getElem?_eq_some_iff.1 hu).1
   rw [Addr.add_lit]
   show w.cell? _ = _
   rw [hcell _ (by omega)]
   exact hget t u hu
 have s1 : Hid (news.length = (n - j) * 2) := hlen
 have s2 : Hid (∀ u ∈ news, u.oneCell' = true) := by
  intro u hu
  rw [hnews] at hu
  have := List.mem_of_mem_drop hu
  unfold cellsP at this
  obtain ⟨p, _, hp⟩ := List.mem_flatMap.1 this
  simp at hp
  rcases hp with rfl | rfl <;> rfl
 have s3 : Hid (∀ t, t < news.length → (w.drew.cell? ⟨g, 0 + i * 2 + t, none⟩).isSome = true ∧ w.drew.frozen? ⟨g, 0 + i * 2 + t, none⟩ = false) := by
  intro t ht
  refine ⟨?_, hfz _⟩
  show (w.cell? _).isSome = true
  rw [hcell _ (by omega), Array.getElem?_eq_getElem (by omega)]
  rfl
 obtain ⟨W1, hW1⟩ : ∃ W1, W1 = w.drew.setCells g (0 + i * 2) news := ⟨_, rfl⟩
 have hb1 : W1.heap[g]? = some (.cells (cur.toList.take (0 + i * 2) ++ news ++ cur.toList.drop (0 + i * 2 + news.length)).toArray 37 (0, 0)) := by
  rw [hW1]; exact setCells_block news (0 + i * 2) w.drew cur hg (by omega)
 have hc1 : ∀ j, j < cap * 2 → (W1.cell? ⟨g, j, none⟩).isSome = true := fun j hj => by
  simp only [World.cell?, hb1]
  rw [Array.getElem?_eq_getElem (by simp; omega)]
  rfl
 have hf1 : ∀ j, W1.frozen? ⟨g, j, none⟩ = false := fun j => by simp [World.frozen?, hb1]
 have e1 : i + (n - j) = n - 1 := by omega
 have hcl : ∀ ty, (Builtin.clear_ #[41] ty #[.slice (some ⟨g, (i + (n - j)) * 2, none⟩) (n - (i + (n - j))) (cap - (i + (n - j)))]).run Tryz.prog W1 = .ok (.tuple #[]) (W1.setCells g ((i + (n - j)) * 2) [.int .i64 0, .int .i64 0]) := by
  intro ty
  rw [e1, show n - (n - 1) = 1 by omega]
  exact run_clear_pt W1 g _ _ ty (hc1 _ (by omega)) (hc1 _ (by omega)) (hf1 _) (hf1 _)
 have hW : Hid (W1 = w.drew.setCells g (0 + i * 2) news) := hW1
 have HFIN : Hid ((W1.setCells g ((i + (n - j)) * 2) [.int .i64 0, .int .i64 0]).ownsRow 0 37 2 (.slice (some ⟨g, 0, none⟩) (n - 1) cap) (pts.eraseIdx i).length (cellsP (pts.eraseIdx i)) ∧ Chg (fun k => k = g) w (W1.setCells g ((i + (n - j)) * 2) [.int .i64 0, .int .i64 0])) := by
  have := HR 1
  rw [e1, hW1, hnews, hce, hel, Nat.zero_add]
  exact this
 have E1 : Hid (i + (n - j) = n - 1) := e1
 have hlt : i < j := by omega
 have q1 : (i : Int) + 1 = (j : Int) := by omega
 rw [q1]
 have hic : i ≤ cap := by omega
 have hij : i ≤ j := by omega
 have hjc : j ≤ cap := by omega
 have hin : j ≤ n := by omega
 have hne : ((i : Int) == (j : Int)) = false := beq_eq_false_iff_ne.2 (by omega)
 clear hW1 hb1 hc1 hf1 hget hnews hlen hcell hfz HR h hg hcs htk hce hxl hel hcm q1 hj hn e1
 go_enter Tryz.func149, Tryz.ntmps149
 go_wp2_with fail
 go_region_law (refine step_append_room rfl (.tmp 22) (.tmp 25) 41 rfl 37 iP 2 Tryz.underlying41 hiP hsP g 0 i cap (by simp [Act.eval, Act.put]) A (n - j) (cap - j) news (by simp [Act.eval, Act.put, hA]) s1.out hsrc.out s2.out (by omega) s3.out ?_; rw [← hW.out])
 go_wp2
 go_ret
 refine ⟨?_, HFIN.out⟩
 rw [E1.out]; rfl
set_option maxHeartbeats 4000000 in
set_option maxRecDepth 1000000 in
theorem delN_any (g cap i : Nat) (pts : List Int) (w : World) (h : w.ownsRow 0 3 1 (.slice (some ⟨g, 0, none⟩) pts.length cap) pts.length (pts.map (Value.int .i64))) (hl : pts.length ≤ 60) (hi : i < pts.length) :
  Calls Tryz.prog 150 #[.slice (some ⟨g, 0, none⟩) pts.length cap, .int .i64 (i : Int), .int .i64 ((i : Int) + 1)] w fun e w' =>
   e = .returned (.slice (some ⟨g, 0, none⟩) (pts.length - 1) cap) ∧ w'.ownsRow 0 3 1 (.slice (some ⟨g, 0, none⟩) (pts.length - 1) cap) (pts.eraseIdx i).length ((pts.eraseIdx i).map (Value.int .i64)) ∧ Chg (fun k => k = g) w w' := by
 obtain ⟨iP, hiP, hzP, hsP, hbP⟩ := info_parts info3
 obtain ⟨cur, hg, hnc, hcm, hcs, htk⟩ : ∃ cur, w.heap[g]? = some (.cells cur 3 (0, 0)) ∧ pts.length ≤ cap ∧ cap ≤ maxLen ∧ cur.size = cap * 1 ∧ cur.toList.take (pts.length * 1) = pts.map (Value.int .i64) := by
  rcases h.2 with ⟨e, _⟩ | ⟨g', cap', cur, e, _, r⟩
  ·cases e
  ·cases e; exact ⟨cur, r⟩
 have hcm' : cap ≤ 9223372036854775807 := hcm
 have HR := row_less (z := .int .i64 0) hg hcs hnc htk hi hcm
 have hel : (pts.eraseIdx i).length = pts.length - 1 := by rw [List.length_eraseIdx, if_pos hi]
 have hce : (pts.eraseIdx i).map (Value.int .i64) = (pts.map (Value.int .i64)).take (i * 1) ++ (pts.map (Value.int .i64)).drop ((i + 1) * 1) := by rw [List.eraseIdx_eq_take_drop_succ, List.map_append, Nat.mul_one, Nat.mul_one, List.map_take, List.map_drop]
 generalize hn : pts.length = n at *
 have hxl : (pts.map (Value.int .i64)).length = n * 1 := by rw [List.length_map, hn]; omega
 obtain ⟨j, hj⟩ : ∃ j, j = i + 1 := ⟨_, rfl⟩
 obtain ⟨news, hnews⟩ : ∃ news, news = (pts.map (Value.int .i64)).drop ((i + 1) * 1) := ⟨_, rfl⟩
 have hlen : news.length = (n - j) * 1 := by rw [hnews, List.length_drop, hxl]; omega
 have hcell : ∀ j, j < cap * 1 → w.cell? ⟨g, j, none⟩ = cur[j]? := fun j hj => by simp [World.cell?, hg]
 have hfz : ∀ j, w.frozen? ⟨g, j, none⟩ = false := fun j => by simp [World.frozen?, hg]
 have hget : ∀ t u, news[t]? = some u → cur[j + t]? = some u := fun t u hu => by
  rw [hj]
  rw [Nat.mul_one] at hnews
  rw [hnews, List.getElem?_drop, ← htk] at hu
  rw [← Array.getElem?_toList]
  have := (List.getElem?_eq_some_iff.1 hu).1
  rw [List.getElem?_take_of_lt (by simp at this; omega)] at hu
  exact hu
 obtain ⟨A, hA, hsrc⟩ : ∃ A : Addr, (if cap = j then some (⟨g, 0, none⟩ : Addr) else some ⟨g, j, none⟩) = some A ∧ Hid (∀ t u, news[t]? = some u → w.drew.cell? (A.add t) = some u) := by
  by_cases hc : cap = j
  ·refine ⟨⟨g, 0, none⟩, by simp [hc], fun t u hu => ?_⟩
   have h0 : news.length = 0 := by rw [hlen]; omega
   rw [List.length_eq_zero_iff.1 h0] at hu
   simp at hu
  ·refine ⟨⟨g, j, none⟩, by simp [hc], fun t u hu => ?_⟩
   have ht := (List.getElem?_eq_some_iff.1 hu).1
   rw [Addr.add_lit]
   show w.cell? _ = _
   rw [hcell _ (by omega)]
   exact hget t u hu
 have s1 : Hid (news.length = (n - j) * 1) := hlen
 have s2 : Hid (∀ u ∈ news, u.oneCell' = true) := by
  intro u hu
  rw [hnews] at hu
  obtain ⟨p, _, rfl⟩ := List.mem_map.1 (List.mem_of_mem_drop hu)
  rfl
 have s3 : Hid (∀ t, t < news.length → (w.drew.cell? ⟨g, 0 + i * 1 + t, none⟩).isSome = true ∧ w.drew.frozen? ⟨g, 0 + i * 1 + t, none⟩ = false) := by
  intro t ht
  refine ⟨?_, hfz _⟩
  show (w.cell? _).isSome = true
  rw [hcell _ (by omega), Array.getElem?_eq_getElem (by omega)]
  rfl
 obtain ⟨W1, hW1⟩ : ∃ W1, W1 = w.drew.setCells g (0 + i * 1) news := ⟨_, rfl⟩
 have hb1 : W1.heap[g]? = some (.cells (cur.toList.take (0 + i * 1) ++ news ++ cur.toList.drop (0 + i * 1 + news.length)).toArray 3 (0, 0)) := by
  rw [hW1]; exact setCells_block news (0 + i * 1) w.drew cur hg (by omega)
 have hc1 : ∀ j, j < cap * 1 → (W1.cell? ⟨g, j, none⟩).isSome = true := fun j hj => by
  simp only [World.cell?, hb1]
  rw [Array.getElem?_eq_getElem (by simp; omega)]
  rfl
 have hf1 : ∀ j, W1.frozen? ⟨g, j, none⟩ = false := fun j => by simp [World.frozen?, hb1]
 have e1 : i + (n - j) = n - 1 := by omega
 have hcl : ∀ ty, (Builtin.clear_ #[26] ty #[.slice (some ⟨g, (i + (n - j)), none⟩) (n - (i + (n - j))) (cap - (i + (n - j)))]).run Tryz.prog W1 = .ok (.tuple #[]) (W1.setCells g ((i + (n - j))) [.int .i64 0]) := by
  intro ty
  rw [e1, show n - (n - 1) = 1 by omega]
  exact run_clear_int W1 g _ _ ty (hc1 _ (by omega)) (hf1 _)
 have hW : Hid (W1 = w.drew.setCells g (0 + i * 1) news) := hW1
 have HFIN : Hid ((W1.setCells g ((i + (n - j))) [.int .i64 0]).ownsRow 0 3 1 (.slice (some ⟨g, 0, none⟩) (n - 1) cap) (pts.eraseIdx i).length ((pts.eraseIdx i).map (Value.int .i64)) ∧ Chg (fun k => k = g) w (W1.setCells g ((i + (n - j))) [.int .i64 0])) := by
  have := HR 1
  rw [e1, hW1, hnews, hce, hel, Nat.zero_add]
  simp only [Nat.mul_one] at this ⊢
  exact this
 have E1 : Hid (i + (n - j) = n - 1) := e1
 have hlt : i < j := by omega
 have q1 : (i : Int) + 1 = (j : Int) := by omega
 rw [q1]
 have hic : i ≤ cap := by omega
 have hij : i ≤ j := by omega
 have hjc : j ≤ cap := by omega
 have hin : j ≤ n := by omega
 have hne : ((i : Int) == (j : Int)) = false := beq_eq_false_iff_ne.2 (by omega)
 clear hW1 hb1 hc1 hf1 hget hnews hlen hcell hfz HR h hg hcs htk hce hxl hel hcm q1 hj hn e1
 go_enter Tryz.func150, Tryz.ntmps150
 go_wp2_with fail
 go_region_law (refine step_append_room rfl (.tmp 22) (.tmp 25) 26 rfl 3 iP 1 Tryz.underlying26 hiP hsP g 0 i cap (by simp [Act.eval, Act.put]) A (n - j) (cap - j) news (by simp [Act.eval, Act.put, hA]) s1.out hsrc.out s2.out (by omega) s3.out ?_; rw [← hW.out])
 go_wp2
 go_ret
 refine ⟨?_, HFIN.out⟩
 rw [E1.out]; rfl
end Go.Proofs.YtgpapegpdfonpaaGreatDoor
