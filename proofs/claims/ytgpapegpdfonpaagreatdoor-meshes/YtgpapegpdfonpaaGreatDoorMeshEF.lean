/-
  What a mesh is, by the document: numbers there and back.
  What is asked of a mesh's calls, by the document; what the statement knows of a mesh.
-/
import Derived.Test.YtgpapegpdfonpaaGreatDoorMeshCD
import Derived.Test.YtgpapegpdfonpaaGreatDoorJoinsC
set_option linter.unusedVariables false
set_option linter.unusedSimpArgs false
namespace Go.Proofs.YtgpapegpdfonpaaGreatDoor
open Go.RowKit
theorem plT_numT {ns : List Int} (h : ns.Pairwise (· < ·)) {t : T3} (h1 : 0 ≤ t.1 ∧ t.1 < ns.length) (h2 : 0 ≤ t.2.1 ∧ t.2.1 < ns.length) (h3 : 0 ≤ t.2.2 ∧ t.2.2 < ns.length) : plT ns (numT ns t) = t := by
 obtain ⟨x, y, z⟩ := t
 simp only at h1 h2 h3
 unfold plT numT
 simp only
 rw [place_num h (by omega), place_num h (by omega), place_num h (by omega)]
 simp only [Prod.mk.injEq]
 omega
theorem MS.Ok.back {s : MS} (h : s.Ok) : (s.ts.map (numT s.nums)).map (plT s.nums) = s.ts := by
 rw [List.map_map]
 have : ∀ t ∈ s.ts, (plT s.nums ∘ numT s.nums) t = t := fun t ht => by
  obtain ⟨h1, h2, h3, h4, h5, h6⟩ := h.good.nums t ht
  have := h.len
  exact plT_numT h.inc ⟨h1, by omega⟩ ⟨h3, by omega⟩ ⟨h5, by omega⟩
 rw [List.map_congr_left this, List.map_id']
theorem MS.Ok.mem {s : MS} (h : s.Ok) : ∀ t ∈ s.ts.map (numT s.nums), t.1 ∈ s.nums ∧ t.2.1 ∈ s.nums ∧ t.2.2 ∈ s.nums := by
 intro t ht
 obtain ⟨u, hu, rfl⟩ := List.mem_map.1 ht
 obtain ⟨h1, h2, h3, h4, h5, h6⟩ := h.good.nums u hu
 have := h.len
 exact ⟨getD_mem (by omega), getD_mem (by omega), getD_mem (by omega)⟩
end Go.Proofs.YtgpapegpdfonpaaGreatDoor

namespace Go.Proofs.YtgpapegpdfonpaaGreatDoor
open Go.RowKit
attribute [local go_sem ↓] Go.wp_at_zero Go.wp_at_succ
def Tagged (w : World) (tag : Nat → Nat) : Prop := ∀ k, tag k ≠ 0 → k < w.heap.size
abbrev MeshPred := World → (Nat → Nat) → Nat → Nat → MS → Prop
def MPost (MAt : MeshPred) (w w' : World) (tag : Nat → Nat) (i m : Nat) (s' : MS) (v : Value) : Prop :=
 ∃ tag', Agree w tag tag' ∧ Tagged w' tag' ∧ MAt w' tag' i m s' ∧ Chg (fun k => tag k = i) w w' ∧ ∀ g, v.ownBlock = some g → tag' g = 0
def insErr (s : MS) (p : Pt) : Int := if farB p.1 p.2 = true then 1 else if p ∈ s.pts then 3 else if s.pts.length = 60 then 2 else 0
def InsR (s : MS) (p : Pt) (n : Int) (s' : MS) : Prop :=
 (insErr s p ≠ 0 ∧ n = 0 ∧ s' = s) ∨ (insErr s p = 0 ∧ n = s.ever ∧ s'.pts = s.pts ++ [p] ∧ s'.nums = s.nums ++ [(s.ever : Int)] ∧ s'.ever = s.ever + 1)
def RemR (s : MS) (n e : Int) (s' : MS) : Prop :=
 (n ∉ s.nums ∧ e = 4 ∧ s' = s) ∨ (n ∈ s.nums ∧ e = 0 ∧ s'.pts = s.pts.eraseIdx (placeN s.nums n).toNat ∧ s'.nums = s.nums.eraseIdx (placeN s.nums n).toNat ∧ s'.ever = s.ever)
def LocR (s : MS) (p : Pt) (k a b c e : Int) : Prop :=
 (farB p.1 p.2 = true ∧ k = 0 ∧ a = 0 ∧ b = 0 ∧ c = 0 ∧ e = 1) ∨ (farB p.1 p.2 = false ∧ e = 0 ∧ ∃ a' b' c', LocP s.pts s.ts (allJ s.pts s.ts (flB s.pts) s.pts.length) p k a' b' c' ∧ a = numO s.nums a' ∧ b = numO s.nums b' ∧ c = numO s.nums c')
def NearR (s : MS) (p : Pt) (n e : Int) : Prop :=
 (farB p.1 p.2 = true ∧ n = 0 ∧ e = 1) ∨ (farB p.1 p.2 = false ∧ s.pts = [] ∧ n = 0 ∧ e = 4) ∨ (farB p.1 p.2 = false ∧ s.pts ≠ [] ∧ e = 0 ∧ n = numO s.nums (bestW s.pts p s.pts.length))
structure MeshLaw (MAt : MeshPred) : Prop where
 frame : ∀ (w w' : World) (tag tag' : Nat → Nat) (i m : Nat) (s : MS), MAt w tag i m s → w.heap.size ≤ w'.heap.size → (∀ k, k < w.heap.size → tag k = i → w'.heap[k]? = w.heap[k]? ∧ tag' k = i) → MAt w' tag' i m s
 ok : ∀ (w : World) (tag : Nat → Nat) (i m : Nat) (s : MS), MAt w tag i m s → s.Ok
 new : ∀ (w : World) (tag : Nat → Nat) (i : Nat), i ≠ 0 → Tagged w tag → Calls Tryz.prog 21 #[] w fun e w' => ∃ m, e = .returned (.pointer (some ⟨m, 0, none⟩)) ∧ MPost MAt w w' tag i m ⟨[], [], 0, []⟩ (.slice none 0 0) ∧ Below w.heap.size w w'
 insert : ∀ (w : World) (tag : Nat → Nat) (i m : Nat) (s : MS) (px py : Int), i ≠ 0 → MAt w tag i m s → Tagged w tag → s.ever ≤ 2000000000000 →
  Calls Tryz.prog 97 #[.pointer (some ⟨m, 0, none⟩), pv px py] w fun e w' => ∃ n s', e = .returned (.tuple #[.int .i64 n, .int .i64 (insErr s (px, py))]) ∧ InsR s (px, py) n s' ∧ MPost MAt w w' tag i m s' (.slice none 0 0)
 remove : ∀ (w : World) (tag : Nat → Nat) (i m : Nat) (s : MS) (n : Int), i ≠ 0 → MAt w tag i m s → Tagged w tag →
  Calls Tryz.prog 98 #[.pointer (some ⟨m, 0, none⟩), .int .i64 n] w fun e w' => ∃ r s', e = .returned (.int .i64 r) ∧ RemR s n r s' ∧ MPost MAt w w' tag i m s' (.slice none 0 0)
 triangles : ∀ (w : World) (tag : Nat → Nat) (i m : Nat) (s : MS), i ≠ 0 → MAt w tag i m s → Tagged w tag →
  Calls Tryz.prog 100 #[.pointer (some ⟨m, 0, none⟩)] w fun e w' => ∃ v, e = .returned v ∧ w'.ownsRow w.heap.size 53 3 v s.ts.length (flatT (s.ts.map (numT s.nums))) ∧ MPost MAt w w' tag i m s v
 locate : ∀ (w : World) (tag : Nat → Nat) (i m : Nat) (s : MS) (px py : Int), i ≠ 0 → MAt w tag i m s → Tagged w tag →
  Calls Tryz.prog 102 #[.pointer (some ⟨m, 0, none⟩), pv px py] w fun e w' => ∃ k a b c r, e = .returned (.tuple #[.agg #[.int .i64 k, .int .i64 a, .int .i64 b, .int .i64 c], .int .i64 r]) ∧ LocR s (px, py) k a b c r ∧ MPost MAt w w' tag i m s (.slice none 0 0)
 nearest : ∀ (w : World) (tag : Nat → Nat) (i m : Nat) (s : MS) (px py : Int), i ≠ 0 → MAt w tag i m s → Tagged w tag →
  Calls Tryz.prog 62 #[.pointer (some ⟨m, 0, none⟩), pv px py] w fun e w' => ∃ n r, e = .returned (.tuple #[.int .i64 n, .int .i64 r]) ∧ NearR s (px, py) n r ∧ MPost MAt w w' tag i m s (.slice none 0 0)
structure KD where
 K : Nat
 mp : Nat
 s : MS
 told : Bool
 tl : List T3
def kCells (d : KD) (vP vN vT : Value) : Array Value := #[.pointer (some ⟨d.mp, 0, none⟩), vP, vN, .int .i64 (d.s.ever : Int), .bool d.told, vT]
structure KAt (w : World) (tag : Nat → Nat) (i : Nat) (d : KD) (vP vN vT : Value) : Prop where
 blk : w.heap[d.K]? = some (.cells (kCells d vP vN vT) 67 (0, 0))
 tK : tag d.K = i
 ownP : w.ownsRow 0 37 2 vP d.s.pts.length (cellsP d.s.pts)
 ownN : w.ownsRow 0 3 1 vN d.s.nums.length (d.s.nums.map (.int .i64))
 ownT : w.ownsRow 0 53 3 vT d.tl.length (flatT d.tl)
 tP : ∀ g, vP.ownBlock = some g → tag g = i
 tN : ∀ g, vN.ownBlock = some g → tag g = i
 tT : ∀ g, vT.ownBlock = some g → tag g = i
 tol : d.told = true → d.tl = d.s.ts.map (numT d.s.nums)
def KnownAt (w : World) (tag : Nat → Nat) (i : Nat) (d : KD) : Prop := ∃ vP vN vT, KAt w tag i d vP vN vT
section
variable {w w' : World} {tag tag' : Nat → Nat} {i : Nat} {d : KD} {vP vN vT : Value}
theorem KAt.keep (h : KAt w tag i d vP vN vT) (hk : ∀ k, k < w.heap.size → tag k = i → w'.heap[k]? = w.heap[k]? ∧ tag' k = i) : KAt w' tag' i d vP vN vT := by
 obtain ⟨e1, e2⟩ := hk d.K (lt_some h.blk) h.tK
 have kp := fun g hg => hk g (ownS_lt h.ownP hg) (h.tP g hg)
 have kn := fun g hg => hk g (ownS_lt h.ownN hg) (h.tN g hg)
 have kt := fun g hg => hk g (ownS_lt h.ownT hg) (h.tT g hg)
 exact ⟨by rw [e1]; exact h.blk, e2, ownS_keep h.ownP fun g hg => (kp g hg).1, ownS_keep h.ownN fun g hg => (kn g hg).1, ownS_keep h.ownT fun g hg => (kt g hg).1, fun g hg => (kp g hg).2, fun g hg => (kn g hg).2, fun g hg => (kt g hg).2, h.tol⟩
theorem KAt.below (h : KAt w tag i d vP vN vT) (hb : Below w.heap.size w w') : KAt w' tag i d vP vN vT := h.keep fun k hk ht => ⟨hb.block k hk, ht⟩
theorem KAt.cells (h : KAt w tag i d vP vN vT) : w.cell? ⟨d.K, 0, none⟩ = some (.pointer (some ⟨d.mp, 0, none⟩)) ∧ w.cell? ⟨d.K, 1, none⟩ = some vP ∧ w.cell? ⟨d.K, 2, none⟩ = some vN ∧ w.cell? ⟨d.K, 3, none⟩ = some (.int .i64 (d.s.ever : Int)) ∧ w.cell? ⟨d.K, 4, none⟩ = some (.bool d.told) ∧ w.cell? ⟨d.K, 5, none⟩ = some vT ∧ ∀ j, w.frozen? ⟨d.K, j, none⟩ = false := by
 have hb := h.blk
 simp [World.cell?, World.frozen?, hb, kCells]
theorem KAt.lt (h : KAt w tag i d vP vN vT) : d.K < w.heap.size := lt_some h.blk
end
def KM (MAt : MeshPred) (w : World) (tag : Nat → Nat) (iK iM : Nat) (d : KD) : Prop := KnownAt w tag iK d ∧ MAt w tag iM d.mp d.s
def KPost (MAt : MeshPred) (w w' : World) (tag : Nat → Nat) (iK iM : Nat) (d : KD) : Prop :=
 ∃ tag' d', KM MAt w' tag' iK iM d' ∧ d'.K = d.K ∧ d'.s.ever ≤ d.s.ever + 1 ∧ Agree w tag tag' ∧ Tagged w' tag' ∧ Chg (fun k => tag k = iK ∨ tag k = iM) w w'
end Go.Proofs.YtgpapegpdfonpaaGreatDoor
