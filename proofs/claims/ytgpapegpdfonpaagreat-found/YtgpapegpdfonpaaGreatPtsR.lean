/-
  Runs of single operations on rows of points and of numbers; which blocks a step keeps, by their type.
-/
import Derived.Test.YtgpapegpdfonpaaGreatOwnA
import Derived.Test.YtgpapegpdfonpaaGreatSowAll
namespace Go.Proofs.YtgpapegpdfonpaaGreat
set_option linter.unusedVariables false
set_option linter.unusedSimpArgs false
open Go.RowKit
attribute [local go_sem ↓] Go.wp_at_zero Go.wp_at_succ

theorem run_load_pts (w : World) (K j : Nat) (v : Value) (h : w.cell? ⟨K, j, none⟩ = some v) : (Instr.loadAt 22 (.pointer (some ⟨K, j, none⟩))).run Tryz.prog w = .ok v w := by go_simp
theorem run_load_nums (w : World) (K j : Nat) (v : Value) (h : w.cell? ⟨K, j, none⟩ = some v) : (Instr.loadAt 26 (.pointer (some ⟨K, j, none⟩))).run Tryz.prog w = .ok v w := by go_simp
theorem run_build_pt (w : World) (x y : Int) : (Instr.buildSlice 22 1 #[(0, pv x y)]).run Tryz.prog w = .ok (.slice (some ⟨w.heap.size, 0, none⟩) 1 1) (w.alloc (.cells #[.int .i64 x, .int .i64 y] 32)) := by go_simp
theorem run_build_int (w : World) (x : Int) : (Instr.buildSlice 26 1 #[(0, .int .i64 x)]).run Tryz.prog w = .ok (.slice (some ⟨w.heap.size, 0, none⟩) 1 1) (w.alloc (.cells #[.int .i64 x] 3)) := by go_simp
theorem run_store_pts (w : World) (K j : Nat) (v : Value) (a : Option Addr) (n c : Nat) (h : w.cell? ⟨K, j, none⟩ = some v) (hf : w.frozen? ⟨K, j, none⟩ = false) : (Instr.storeAt 22 (.pointer (some ⟨K, j, none⟩)) (.slice a n c)).run Tryz.prog w = .ok () (w.setCell ⟨K, j, none⟩ (.slice a n c)) := by go_simp
theorem run_store_nums (w : World) (K j : Nat) (v : Value) (a : Option Addr) (n c : Nat) (h : w.cell? ⟨K, j, none⟩ = some v) (hf : w.frozen? ⟨K, j, none⟩ = false) : (Instr.storeAt 26 (.pointer (some ⟨K, j, none⟩)) (.slice a n c)).run Tryz.prog w = .ok () (w.setCell ⟨K, j, none⟩ (.slice a n c)) := by go_simp

/-! ### blocks of a type are kept -/
theorem heap_last (w : World) (o : Obj) : (w.alloc o).heap[w.heap.size]? = some o := by
  show (w.heap.push o)[w.heap.size]? = some o
  simp
def KeepsT (T : TypeId) (w w' : World) : Prop := ∀ (k : Nat) (cur : Array Value), w.heap[k]? = some (.cells cur T (0, 0)) → w'.heap[k]? = some (.cells cur T (0, 0))
theorem KeepsT.own {T : TypeId} {w w' : World} {base s n : Nat} {v : Value} {xs : List Value} (h : KeepsT T w w') (ho : w.ownsRow base T s v n xs) : w'.ownsRow base T s v n xs := by
  refine ⟨ho.1, ?_⟩
  rcases ho.2 with hn | ⟨g, cap, cur, rfl, hb, hg, r⟩
  · exact .inl hn
  · exact .inr ⟨g, cap, cur, rfl, hb, h g cur hg, r⟩
theorem keepsT_alloc (T : TypeId) (w : World) (o : Obj) : KeepsT T w (w.alloc o) := fun k cur h => by
  rw [Below.heap_alloc w o k (lt_some h)]; exact h
theorem keepsT_grown {T T' : TypeId} {w w' : World} {g : Nat} {c : Array Value} (hg : w.grownBy w' (some g)) (hc : w.heap[g]? = some (.cells c T' (0, 0))) (hT : T ≠ T') : KeepsT T w w' := fun k cur h => by
  rw [hg.block k (lt_some h) (fun e => by cases e; exact typ_ne h hc hT rfl)]; exact h
theorem keepsT_grown0 {T : TypeId} {w w' : World} (hg : w.grownBy w' none) : KeepsT T w w' := fun k cur h => by
  rw [hg.block k (lt_some h) (fun e => by cases e)]; exact h
theorem keepsT_set {T T' : TypeId} {w : World} {m i : Nat} {c : Array Value} {v : Value} (hc : w.heap[m]? = some (.cells c T' (0, 0))) (hT : T ≠ T') : KeepsT T w (w.setCell ⟨m, i, none⟩ v) := fun k cur h => by
  rw [Below.heap_setCell _ _ _ _ (typ_ne h hc hT)]; exact h
theorem keepsT_chg {T T' : TypeId} {w w' : World} {g : Nat} {c : Array Value} (h : Chg (fun k => k = g) w w') (hc : w.heap[g]? = some (.cells c T' (0, 0))) (hT : T ≠ T') : KeepsT T w w' := fun k cur hk => by
  rw [h.far k (lt_some hk) (typ_ne hk hc hT)]; exact hk

/-! ### a row that gets one more: built, and appended -/
def Fap (V : World) (T : TypeId) (s : Nat) (v : Value) (n : Nat) (xs news : List Value) (bB bA : Bool) (xB xA : Value) (w : World) : Prop :=
  (bA = true → ∃ g cap, xA = .slice (some ⟨g, 0, none⟩) (n + 1) cap ∧ w.ownsRow 0 T s xA (n + 1) (xs ++ news) ∧ (v.ownBlock = some g ∨ V.heap.size ≤ g)) ∧
  (bA = false → w.ownsRow 0 T s v n xs ∧ (bB = true → ∃ g, xB = .slice (some ⟨g, 0, none⟩) 1 1 ∧ V.heap.size ≤ g ∧ w.heap[g]? = some (.cells news.toArray T (0, 0))))
section
variable {V w w' : World} {T : TypeId} {s n : Nat} {v xB xA : Value} {xs news : List Value} {bB bA : Bool}
theorem Fap.keep (h : Fap V T s v n xs news bB bA xB xA w) (k : KeepsT T w w') : Fap V T s v n xs news bB bA xB xA w' := by
  refine ⟨fun e => ?_, fun e => ?_⟩
  · obtain ⟨g, cap, h1, h2, h3⟩ := h.1 e
    exact ⟨g, cap, h1, k.own h2, h3⟩
  · obtain ⟨h1, h2⟩ := h.2 e
    refine ⟨k.own h1, fun e' => ?_⟩
    obtain ⟨g, g1, g2, g3⟩ := h2 e'
    exact ⟨g, g1, g2, k g _ g3⟩
theorem Fap.build (h : Fap V T s v n xs news false false xB xA w) (hs : V.heap.size ≤ w.heap.size) : Fap V T s v n xs news true false (.slice (some ⟨w.heap.size, 0, none⟩) 1 1) xA (w.alloc (.cells news.toArray T)) := by
  refine ⟨(fun e => by cases e), fun _ => ⟨(keepsT_alloc T w _).own (h.2 rfl).1, fun _ => ⟨w.heap.size, rfl, hs, heap_last _ _⟩⟩⟩
theorem Fap.append {P : Program} {t ty : TypeId} {i : TypeInfo} {z : Value} {bytes : Nat} (h : Fap V T s v n xs news true false xB xA w) (ht : P.underlying t = some (.slice T)) (hi : P.info? T = some i) (hz : i.zero = some z)
    (hsize : i.size = s) (hby : i.bytes = bytes) (hzs : z.cells.size = s) (hsz : 0 < s) (hl : news.length = s) (h1 : ∀ u ∈ news, u.oneCell' = true) (hn : n ≤ 1000) (hbb : bytes ≤ 100) (hV : V.heap.size ≤ w.heap.size) :
    ∃ g cap w', (Builtin.append_ #[t, t] ty #[v, xB]).run P w = .ok (.slice (some ⟨g, 0, none⟩) (n + 1) cap) w' ∧ Fap V T s v n xs news true true xB (.slice (some ⟨g, 0, none⟩) (n + 1) cap) w' ∧
      (∀ T', T' ≠ T → KeepsT T' w w') ∧ Chg (fun k => v.ownBlock = some k) w w' := by
  obtain ⟨ho, hB⟩ := h.2 rfl
  obtain ⟨g0, rfl, hg0, hb0⟩ := hB rfl
  have hnews : ∀ j u, news[j]? = some u → w.cell? ((⟨g0, 0, none⟩ : Addr).add j) = some u := fun j u hu => by
    rw [Addr.add_lit, Nat.zero_add]
    simp [World.cell?, hb0, hu]
  obtain ⟨g, cap, w', hr, h2, h3, h4⟩ := run_append_where (P := P) w t ty 0 T i z s bytes ht hi hz hsize hby hzs hsz v n xs ho ⟨g0, 0, none⟩ 1 1 news (by omega) hnews h1 (by omega) (by simp only [maxLen]; omega)
    (by
      have : (n + 1) * bytes ≤ 1001 * 100 := Nat.mul_le_mul (by omega) hbb
      omega) (Nat.zero_le _) w.heap.size rfl
  refine ⟨g, cap, w', hr, ⟨fun _ => ⟨g, cap, rfl, h2, ?_⟩, fun e => by cases e⟩, ?_, ?_⟩
  · rcases h3 with ⟨e, _⟩ | ⟨e, _⟩
    · exact .inl e
    · exact .inr (by omega)
  · intro T' hT'
    rcases h3 with ⟨e, hgr⟩ | ⟨e, hgr⟩
    · obtain ⟨cur, hc⟩ := ownS_typ ho e
      exact keepsT_grown hgr hc hT'
    · exact keepsT_grown0 hgr
  · rcases h3 with ⟨e, hgr⟩ | ⟨e, hgr⟩
    · exact Chg.of_grown hgr fun k hk => by cases hk; exact e
    · exact Chg.of_grown hgr fun k hk => by cases hk
end
end Go.Proofs.YtgpapegpdfonpaaGreat
