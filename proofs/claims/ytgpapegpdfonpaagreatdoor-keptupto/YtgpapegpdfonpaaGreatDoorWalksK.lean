/-
  trigonkeep.cloud: sixty points at most, none twice.
-/
import Derived.Test.YtgpapegpdfonpaaGreatDoorWalksJ
namespace Go.Proofs.YtgpapegpdfonpaaGreatDoor
set_option linter.unusedVariables false
set_option linter.unusedSimpArgs false
open Go.RowKit
attribute [local go_sem ↓] Go.wp_at_zero Go.wp_at_succ

/-- a list's points as cells, one behind the other -/
def cellsP (l : List Pt) : List Value := l.flatMap fun p => [.int .i64 p.1, .int .i64 p.2]
theorem cellsP_len (l : List Pt) : (cellsP l).length = l.length * 2 := by
  induction l with
  | nil => rfl
  | cons p l ih => simp only [cellsP, List.flatMap_cons, List.length_append, List.length_cons, List.length_nil] at ih ⊢; omega
theorem cellsP_append (l m : List Pt) : cellsP (l ++ m) = cellsP l ++ cellsP m := by simp [cellsP]
theorem cellsP_get (l : List Pt) : ∀ j, j < l.length → (cellsP l)[j * 2]? = some (.int .i64 (l.getD j (0, 0)).1) ∧ (cellsP l)[j * 2 + 1]? = some (.int .i64 (l.getD j (0, 0)).2) := by
  induction l with
  | nil => intro j h; simp at h
  | cons p l ih =>
    intro j h
    have e : cellsP (p :: l) = .int .i64 p.1 :: .int .i64 p.2 :: cellsP l := by simp [cellsP]
    rw [e]
    match j with
    | 0 => simp
    | j + 1 =>
      have := ih j (by simpa using h)
      rw [show (j + 1) * 2 = j * 2 + 1 + 1 by omega]
      simpa using this
theorem cellsP_one (l : List Pt) : ∀ u ∈ cellsP l, u.oneCell' = true := by
  intro u hu
  simp only [cellsP, List.mem_flatMap] at hu
  obtain ⟨p, _, hu⟩ := hu
  simp at hu
  rcases hu with rfl | rfl <;> rfl

/-- points of one's own -/
abbrev OwnP (w : World) (base : Nat) (v : Value) (l : List Pt) : Prop := w.ownsRow base 37 2 v l.length (cellsP l)

theorem OwnP.pts {w : World} {base g n cap : Nat} {l : List Pt} (h : OwnP w base (.slice (some ⟨g, 0, none⟩) n cap) l) : PtsAt w g 0 l := by
  obtain ⟨hl, hn⟩ := h
  rcases hn with ⟨hn, _⟩ | ⟨g', cap', cur, hv, hg, hh, h1, h2, h3, h4⟩
  · cases hn
  · cases hv
    have key : ∀ j u, (cellsP l)[j]? = some u → w.cell? ⟨g, j, none⟩ = some u := by
      intro j u hj
      have : cur[j]? = some u := by
        rw [← h4, List.getElem?_take] at hj
        split at hj
        · simpa using hj
        · cases hj
      simp [World.cell?, hh, this]
    intro j hj
    obtain ⟨a, b⟩ := cellsP_get l j hj
    rw [Nat.zero_add]
    exact ⟨key _ _ a, key _ _ b⟩
theorem OwnP.lt {w : World} {base g n cap : Nat} {l : List Pt} (h : OwnP w base (.slice (some ⟨g, 0, none⟩) n cap) l) : g < w.heap.size ∧ base ≤ g ∧ n ≤ cap ∧ cap ≤ maxLen ∧ n = l.length := by
  obtain ⟨hl, hn⟩ := h
  rcases hn with ⟨hn, _⟩ | ⟨g', cap', cur, hv, hg, hh, h1, h2, h3, h4⟩
  · cases hn
  · cases hv
    exact ⟨(Array.getElem?_eq_some_iff.1 hh).1, hg, h1, h2, rfl⟩
theorem OwnP.shape {w : World} {base : Nat} {v : Value} {l : List Pt} (h : OwnP w base v l) : (v = .slice none 0 0 ∧ l = []) ∨ ∃ g cap, v = .slice (some ⟨g, 0, none⟩) l.length cap := by
  obtain ⟨hl, hn⟩ := h
  rcases hn with ⟨hn, h0⟩ | ⟨g', cap', cur, hv, hg, hh, h1, h2, h3, h4⟩
  · exact .inl ⟨hn, List.length_eq_zero_iff.1 h0⟩
  · exact .inr ⟨g', cap', hv⟩
theorem OwnP.any {w : World} {base : Nat} {v : Value} {l : List Pt} (h : OwnP w base v l) : ∃ va vc, v = .slice va l.length vc := by
  rcases OwnP.shape h with ⟨rfl, rfl⟩ | ⟨g, gc, rfl⟩
  · exact ⟨none, 0, rfl⟩
  · exact ⟨_, _, rfl⟩
theorem OwnP.below {w w' : World} {base : Nat} {v : Value} {l : List Pt} (h : OwnP w base v l) (hb : Below w.heap.size w w') : OwnP w' base v l := by
  obtain ⟨hl, hn⟩ := h
  refine ⟨hl, ?_⟩
  rcases hn with hn | ⟨g', cap', cur, hv, hg, hh, r⟩
  · exact .inl hn
  · refine .inr ⟨g', cap', cur, hv, hg, ?_, r⟩
    rw [hb.block g' (Array.getElem?_eq_some_iff.1 hh).1]; exact hh
theorem OwnP.mono {w : World} {a b : Nat} {v : Value} {l : List Pt} (h : OwnP w a v l) (hb : b ≤ a) : OwnP w b v l := by
  obtain ⟨hl, hn⟩ := h
  refine ⟨hl, ?_⟩
  rcases hn with hn | ⟨g', cap', cur, hv, hg, r⟩
  · exact .inl hn
  · exact .inr ⟨g', cap', cur, hv, by omega, r⟩
theorem OwnP.grown {w w' : World} {base : Nat} {v v' : Value} {l l' : List Pt} {o : Obj} {W : World} (h : OwnP w base v l) (hnx : Below base W w) (hg : (w.alloc o).grownBy w' v.ownBlock) (hB : base ≤ w.heap.size) : Below base W w' := by
  refine (hnx.alloc hB o).grown hg (by simp; omega) fun k hk => ?_
  rcases OwnP.shape h with ⟨rfl, _⟩ | ⟨g, cap, rfl⟩
  · cases hk
  · cases hk
    exact (OwnP.lt h).2.1

theorem infoPt : (Tryz.prog.info? 37).map (fun i => (i.zero, i.size, i.bytes)) = some (some (.agg #[.int .i64 0, .int .i64 0]), 2, 16) := by kernel_rfl

theorem mem_take_succ (l : List Pt) (n : Nat) (h : n < l.length) (p : Pt) : decide (p ∈ l.take (n + 1)) = (decide (p ∈ l.take n) || decide (p = l[n])) := by
  have k : p ∈ l.take (n + 1) ↔ p ∈ l.take n ∨ p = l[n] := by rw [List.take_succ_eq_append_getElem h, List.mem_append, List.mem_singleton]
  by_cases h1 : p ∈ l.take n
  · rw [decide_eq_true (k.2 (.inl h1)), decide_eq_true h1]; rfl
  · by_cases h2 : p = l[n]
    · rw [decide_eq_true (k.2 (.inr h2)), decide_eq_true h2, Bool.or_true]
    · rw [decide_eq_false (fun x => (k.1 x).elim h1 h2), decide_eq_false h1, decide_eq_false h2]; rfl

/-- raw points: a slice of them -/
def RawAt (w : World) (a : Option Addr) (rs : List Pt) : Prop :=
  rs = [] ∨ ∃ b off, a = some ⟨b, off, none⟩ ∧ b < w.heap.size ∧ PtsAt w b off rs
def Fits (rs : List Pt) : Prop := ∀ p ∈ rs, (-9223372036854775808 ≤ p.1 ∧ p.1 ≤ 9223372036854775807) ∧ (-9223372036854775808 ≤ p.2 ∧ p.2 ≤ 9223372036854775807)

theorem near_of_mem {l : List Pt} (h : ∀ p ∈ l, Near p.1 p.2) : AllNear l := by
  intro i hi
  have := h l[i] (List.getElem_mem hi)
  have e1 : px l i = l[i].1 := by simp [px, hi]
  have e2 : py l i = l[i].2 := by simp [py, hi]
  rw [e1, e2]; exact this

set_option maxHeartbeats 2000000 in
theorem cloud_any (a : Option Addr) (cap : Nat) (rs : List Pt) (step : Int) (w : World) (hm : rs.length ≤ maxLen) (hr : RawAt w a rs) (hfit : Fits rs) (t1 : -9223372036854775808 ≤ step) (t2 : step ≤ 9223372036854775807) :
    Calls Tryz.prog 11 #[.slice a rs.length cap, .int .i64 step] w fun e w' =>
      ∃ v l, e = .returned v ∧ l.length ≤ 60 ∧ l.Nodup ∧ AllNear l ∧ OwnP w' w.heap.size v l ∧ Below w.heap.size w w' := by
  obtain ⟨i0, hi0, hz0, hz1, hz2⟩ := info_parts infoPt
  have HM : Hid (rs.length ≤ maxLen) := hm
  have hm2 : (rs.length : Int) ≤ 9223372036854775807 := by unfold maxLen at hm; omega
  clear hm
  go_enter Tryz.func11, Tryz.ntmps11
  go_wp2
  go_loopw [5, 6] (fun v i wr => ∃ (k : Nat) (l : List Pt), k ≤ rs.length ∧ i = .int .i64 k ∧ OwnP wr w.heap.size v l ∧ Below w.heap.size w wr ∧ l.length ≤ 60 ∧ l.Nodup ∧ ∀ p ∈ l, Near p.1 p.2)
    (fun _ i _ => rs.length - (intOf i).toNat)
  case atStart => exact ⟨0, [], Nat.zero_le _, rfl, World.ownsRow_nil _ _ _ _, Below.refl _ _, by simp, List.nodup_nil, by simp⟩
  case round =>
    obtain ⟨k, l, hk, rfl, hown, hnx, hl, hnd, hnear⟩ := hrel
    have HND : Hid (l.Nodup ∧ ∀ p ∈ l, Near p.1 p.2) := ⟨hnd, hnear⟩
    clear hnd hnear
    have done : ∀ wr' v, OwnP wr' w.heap.size v l → Below w.heap.size w wr' → ∃ v' l, Ending.returned v = .returned v' ∧ l.length ≤ 60 ∧ l.Nodup ∧ AllNear l ∧ OwnP wr' w.heap.size v' l ∧ Below w.heap.size w wr' :=
      fun wr' v h1 h2 => ⟨v, l, rfl, hl, HND.out.1, near_of_mem HND.out.2, h1, h2⟩
    by_cases hlt : k < rs.length
    · rcases hr with rfl | ⟨b, off, rfl, hb, hp⟩
      · simp at hlt
      · by_cases h60 : l.length < 60
        · obtain ⟨c0, c1⟩ := hp k hlt
          have hc0 := (hnx.cell (p := ⟨b, off + k * 2, none⟩) hb).trans c0
          have hc1 := (hnx.cell (p := ⟨b, off + k * 2 + 1, none⟩) hb).trans c1
          have hf := hfit rs[k] (List.getElem_mem hlt)
          have eg : rs.getD k (0, 0) = rs[k] := by simp [hlt]
          rw [eg] at hc0 hc1
          clear c0 c1 eg done
          generalize rs[k] = q at *
          obtain ⟨qx, qy⟩ := q
          obtain ⟨⟨f1, f2⟩, f3, f4⟩ := hf
          simp only at f1 f2 f3 f4 hc0 hc1
          have hlen60 : (l.length : Int) < 60 := by omega
          obtain ⟨va, vc, rfl⟩ := OwnP.any hown
          have HB : Hid (b < w.heap.size) := hb
          go_wp2_with (go_at_call 25; refine (point_any qx qy step _ f1 f2 f3 f4 t1 t2).mono ?_; rintro e w1 ⟨rfl, hb1⟩)
          have hnear : Near (ptX qx step) (ptY qy step) := near_pt _ _ _
          have hown1 := hown.below hb1
          have hnx1 := hnx.trans (hb1.mono hnx.size)
          have HN : Hid (Near (ptX qx step) (ptY qy step)) := hnear
          clear hnear hb1 hown hnx hc0 hc1
          generalize ptX qx step = X at *
          generalize ptY qy step = Y at *
          generalize hWW : (w1.alloc (.cells #[.int .i64 X, .int .i64 Y] 37)) = W1 at *
          have hP0 : W1.cell? ⟨w1.heap.size, 0, none⟩ = some (.int .i64 X) := by rw [← hWW]; simp [go_sem]
          have hP1 : W1.cell? ⟨w1.heap.size, 1, none⟩ = some (.int .i64 Y) := by rw [← hWW]; simp [go_sem]
          have hPs : w1.heap.size < W1.heap.size := by rw [← hWW]; simp
          have hownW : OwnP W1 w.heap.size (.slice va l.length vc) l := by rw [← hWW]; exact hown1.below (below1 _ _)
          have hnxW : Below w.heap.size w W1 := by rw [← hWW]; exact hnx1.alloc hnx1.size _
          have HSH : Hid (Value.slice va l.length vc = .slice none 0 0 ∧ l = [] ∨ ∃ g cap, Value.slice va l.length vc = .slice (some ⟨g, 0, none⟩) l.length cap) := hown1.shape
          clear hWW hown1 hnx1
          generalize w1.heap.size = P at *
          clear w1
          go_loopw [8, 9] (fun o j w2 => ∃ n : Nat, n ≤ l.length ∧ j = .int .i64 n ∧ o = .bool (decide ((X, Y) ∈ l.take n)) ∧ Below W1.heap.size W1 w2)
            (fun _ j _ => l.length - (intOf j).toNat)
          case atStart => exact ⟨0, Nat.zero_le _, rfl, by simp, Below.refl _ _⟩
          case round =>
            obtain ⟨n, hn, rfl, rfl, hb2⟩ := hrel
            by_cases hnl : n < l.length
            · rcases HSH.out with ⟨_, rfl⟩ | ⟨g, gc, he⟩
              · simp at hnl
              · cases he
                have hgl := OwnP.lt hownW
                obtain ⟨d0, d1⟩ := (OwnP.pts hownW) n hnl
                rw [Nat.zero_add] at d0 d1
                rw [← hb2.cell (p := ⟨g, n * 2, none⟩) hgl.1] at d0
                rw [← hb2.cell (p := ⟨g, n * 2 + 1, none⟩) hgl.1] at d1
                rw [← hb2.cell (p := ⟨P, 0, none⟩) hPs] at hP0
                rw [← hb2.cell (p := ⟨P, 1, none⟩) hPs] at hP1
                have htk : decide ((X, Y) ∈ l.take (n + 1)) = (decide ((X, Y) ∈ l.take n) || decide ((X, Y) = l[n])) := mem_take_succ l n hnl _
                have eg : l.getD n (0, 0) = l[n] := by simp [hnl]
                rw [eg] at d0 d1
                clear eg
                have HTK : Hid (decide ((X, Y) ∈ l.take (n + 1)) = (decide ((X, Y) ∈ l.take n) || decide ((X, Y) = l[n]))) := htk
                clear htk hownW hnxW hgl hlen60
                generalize hqq : l[n] = q at *
                obtain ⟨lx, ly⟩ := q
                simp only at d0 d1
                have x0 : (0 : Int) ≤ (n : Int) := by omega
                have x1 : (n : Int) < (l.length : Int) := by omega
                have x2 : IntKind.i64.wrap ((n : Int) + 1) = (n : Int) + 1 := wrap_id (by omega) (by omega)
                cases hold : decide ((X, Y) ∈ l.take n) with
                | true =>
                  go_wp2_with fail
                  go_quiet (fail)
                  go_wp2
                  go_roundw
                  case rel => exact ⟨n + 1, by omega, by go_num, by rw [HTK.out, hold]; rfl, below_drewN hb2⟩
                  case measure => simp [intOf]; omega
                | false =>
                  by_cases e1 : lx = X
                  · by_cases e2 : ly = Y
                    · subst e1 e2
                      go_wp2_with fail
                      go_quiet (fail)
                      go_wp2
                      go_roundw
                      case rel => exact ⟨n + 1, by omega, by go_num, by rw [HTK.out, hold]; simp, below_drewN hb2⟩
                      case measure => simp [intOf]; omega
                    · go_wp2_with fail
                      go_quiet (fail)
                      go_wp2
                      go_roundw
                      case rel => exact ⟨n + 1, by omega, by go_num, by rw [HTK.out, hold]; simp [Ne.symm e2], below_drewN hb2⟩
                      case measure => simp [intOf]; omega
                  · go_wp2_with fail
                    go_quiet (fail)
                    go_wp2
                    go_roundw
                    case rel => exact ⟨n + 1, by omega, by go_num, by rw [HTK.out, hold]; simp [Ne.symm e1], below_drewN hb2⟩
                    case measure => simp [intOf]; omega
            · have en : n = l.length := by omega
              subst en
              have hownR := hownW.below hb2
              have hnxR := hnxW.trans (hb2.mono hnxW.size)
              rw [← hb2.cell (p := ⟨P, 0, none⟩) hPs] at hP0
              rw [← hb2.cell (p := ⟨P, 1, none⟩) hPs] at hP1
              rw [List.take_length]
              clear hownW hnxW hb2 HSH
              cases hold : decide ((X, Y) ∈ l) with
              | true =>
                go_wp2
                go_roundw
                case rel => exact ⟨k + 1, l, by omega, by go_num, hownR, hnxR, hl, HND.out.1, HND.out.2⟩
                case measure => simp [intOf]; omega
              | false =>
                have hnm : (X, Y) ∉ l := by simpa using hold
                have HNM : Hid ((X, Y) ∉ l) := hnm
                clear hold hnm
                have hwl := hnxR.size
                go_wp2_with (at_builtin; refine wpList_append_lies _ (by rfl) (.tmp 44) (.tmp 46) 41 (by rfl) w.heap.size 37 i0 (.agg #[.int .i64 0, .int .i64 0]) 2 16 Tryz.underlying41 hi0 hz0 hz1 hz2 rfl (by decide) _ _ _ (by rfl) (OwnP.below hownR (below1 _ _)) ⟨wr.heap.size, 0, none⟩ 1 1 [.int .i64 X, .int .i64 Y] (by rfl) rfl ?c1 ?c2 (by decide) ?c3 ?c4 ?c5 (wr.heap.size + 1) ?c6 ?_)
                case c1 =>
                  intro j u hj
                  match j, hj with
                  | 0, hj => simp at hj; subst hj; simp [Addr.add]
                  | 1, hj => simp at hj; subst hj; simp [Addr.add]
                case c2 => intro u hu; simp at hu; rcases hu with rfl | rfl <;> rfl
                case c3 => unfold maxLen; omega
                case c4 => omega
                case c5 => simp; omega
                case c6 => simp
                · intro g2 cap2 w3 hown3 hgrow hat hlt3
                  have hR := OwnP.grown (v' := .slice none 0 0) (l' := []) hownR hnxR hgrow hwl
                  clear hgrow hownR hat
                  go_wp2
                  go_roundw
                  case rel =>
                    refine ⟨k + 1, l ++ [(X, Y)], by omega, by go_num, ?_, hR, by simp; omega, ?_, ?_⟩
                    · have : cellsP (l ++ [(X, Y)]) = cellsP l ++ [.int .i64 X, .int .i64 Y] := by rw [cellsP_append]; rfl
                      unfold OwnP
                      rw [this, List.length_append]
                      exact hown3
                    · rw [List.nodup_append]
                      exact ⟨HND.out.1, by simp, fun a ha b hb e => by simp at hb; subst hb e; exact HNM.out ha⟩
                    · intro p hp
                      rcases List.mem_append.1 hp with hp | hp
                      · exact HND.out.2 p hp
                      · simp at hp; subst hp; exact HN.out
                  case measure => simp [intOf]; omega
        · obtain ⟨va, vc, rfl⟩ := OwnP.any hown
          have e60 : l.length = 60 := by omega
          have h6 : (60 : Int) ≤ (l.length : Int) := by omega
          go_wp2
          go_ret
          exact done _ _ hown hnx
    · obtain ⟨va, vc, rfl⟩ := OwnP.any hown
      go_wp2
      go_ret
      exact done _ _ hown hnx

end Go.Proofs.YtgpapegpdfonpaaGreatDoor
