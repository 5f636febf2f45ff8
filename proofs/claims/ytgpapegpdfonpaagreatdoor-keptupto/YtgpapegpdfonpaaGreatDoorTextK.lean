/-
  Package text: a line is written.
-/
import Derived.Test.YtgpapegpdfonpaaGreatDoorTextJ
import Derived.Lib.OthersKept
import Derived.Lib.BufferKept
namespace Go.Proofs.YtgpapegpdfonpaaGreatDoor
set_option linter.unusedVariables false
set_option linter.unusedSimpArgs false
open Go.RowKit
attribute [local go_sem ↓] Go.wp_at_zero Go.wp_at_succ

abbrev Tab (B : Nat) (w : World) : Prop := Lib.TabBelow Tryz.prog B w "internal/strconv.uint64pow10" .u64 Lib.pow10Tab
/-- bytes of one's own -/
abbrev OwnB (w : World) (B : Nat) (v : Value) (l : List UInt8) : Prop := w.ownsRow B 5 1 v l.length (Lib.byteCells l)
set_option maxRecDepth 100000 in
theorem appendInt_any (B : Nat) (sv : Value) (acc : List UInt8) (i : Int) (hi : J64 i) (w : World) (ho : OwnB w B sv acc) (hB : B ≤ w.heap.size) (hlim : acc.length + 21 ≤ 140737488355328) (T : Tab B w) :
    Calls Tryz.prog 115 #[sv, .int .i64 i, .int .i64 10] w fun e w' => ∃ v', e = .returned v' ∧ OwnB w' B v' (acc ++ Lib.itoa i) ∧ Below B w w' ∧ Lib.OthersKept 5 none w w' :=
  (Any.strconv_AppendInt_10 Tryz.layAppendI B acc.length i hi.1 hi.2 sv (Lib.byteCells acc) w ho hB hlim T).mono fun e w' ⟨v', he, h1, h2, h3⟩ => ⟨v', he, by
    unfold OwnB
    rw [Lib.byteCells_append, List.length_append]
    exact h1, h2, h3⟩
theorem infoB : (Tryz.prog.info? 5).map (fun i => (i.zero, i.size, i.bytes)) = some (some (.int .u8 0), 1, 1) := by kernel_rfl
theorem lineB_snoc : ∀ (l : List Int) (n : Int), l ≠ [] → lineB (l ++ [n]) = lineB l ++ 32 :: Lib.itoa n
  | [], n, h => absurd rfl h
  | [a], n, _ => rfl
  | a :: b :: r, n, _ => by
    have := lineB_snoc (b :: r) n (by simp)
    simp only [List.cons_append, lineB] at *
    rw [this]
    simp
theorem itoa_le {n : Int} (h : J64 n) : (Lib.itoa n).length ≤ 21 := Lib.itoa_length_le n h.1 h.2
def MoreAt (w : World) (ma : Option Addr) (more : List Int) : Prop := more = [] ∨ ∃ M, ma = some ⟨M, 0, none⟩ ∧ w.heap[M]? = some (.cells (more.map (.int .i64)).toArray 3 (0, 0))
theorem MoreAt.kept {w w' : World} {ma : Option Addr} {more : List Int} (h : MoreAt w ma more) (hk : Lib.OthersKept 5 none w w') : MoreAt w' ma more := by
  rcases h with h | ⟨M, e, hM⟩
  · exact .inl h
  · exact .inr ⟨M, e, hk M _ hM (by simp) (fun c fz hc => by cases hc)⟩

structure LineP (w w' : World) (B : Nat) (v : Value) (acc : List UInt8) : Prop where
  own : OwnB w' B v acc
  bel : Below B w w'
  kept : Lib.OthersKept 5 none w w'
theorem LineP.tab {w w' : World} {B : Nat} {v : Value} {acc : List UInt8} (h : LineP w w' B v acc) (T : Tab B w) : Tab B w' := T.on h.bel
theorem cell_oneT (w : World) (v : Value) (t : TypeId) : ∀ j x, [v][j]? = some x → (w.alloc (.cells #[v] t)).cell? ((⟨w.heap.size, 0, none⟩ : Addr).add j) = some x := by
  intro j x h
  match j, h with
  | 0, h => simp at h; subst h; simp [Addr.add, go_sem]
/-- behind an append of one byte -/
theorem LineP.byte {w w1 w3 : World} {B g cap : Nat} {v : Value} {acc : List UInt8} {c : UInt8} (h : LineP w w1 B v acc) (hB : B ≤ w.heap.size)
    (hown : w3.ownsRow B 5 1 (.slice (some ⟨g, 0, none⟩) (acc.length + 1) cap) (acc.length + 1) (Lib.byteCells acc ++ [.int .u8 (c.toNat : Int)]))
    (hat : (v.ownBlock = some g ∧ (w1.alloc (.cells #[.int .u8 (c.toNat : Int)] 5)).grownBy w3 (some g)) ∨ (g = w1.heap.size + 1 ∧ (w1.alloc (.cells #[.int .u8 (c.toNat : Int)] 5)).grownBy w3 none)) :
    LineP w w3 B (.slice (some ⟨g, 0, none⟩) (acc.length + 1) cap) (acc ++ [c]) := by
  have hs := h.bel.size
  have hk1 := h.bel.trans ((below1 w1 (.cells #[.int .u8 (c.toNat : Int)] 5)).mono (show B ≤ w1.heap.size by omega))
  have ho1 := h.kept.alloc (.cells #[.int .u8 (c.toNat : Int)] 5)
  refine ⟨?_, ?_, ?_⟩
  · unfold OwnB
    rw [Lib.byteCells_append, List.length_append]
    exact hown
  · rcases hat with ⟨hv, hg⟩ | ⟨hv, hg⟩
    · exact hk1.grown hg (by simp; omega) fun k hk => by cases hk; exact (hown.lt _ rfl).1
    · exact hk1.grown hg (by simp; omega) fun k hk => by cases hk
  · rcases hat with ⟨hv, hg⟩ | ⟨hv, hg⟩
    · refine ho1.grown hg fun k hk => ?_
      cases hk
      obtain ⟨cur, hc⟩ := ownS_typ h.own hv
      exact ⟨cur, _, by rw [Below.heap_alloc _ _ _ (lt_some hc)]; exact hc⟩
    · exact ho1.grown hg fun k hk => by cases hk
set_option maxRecDepth 100000 in
set_option maxHeartbeats 4000000 in
theorem line_any (B : Nat) (sv : Value) (acc : List UInt8) (first : Int) (ma : Option Addr) (mc : Nat) (more : List Int) (w : World) (T : Tab B w) (hB : B ≤ w.heap.size) (ho : OwnB w B sv acc) (hlim : acc.length + 1000 ≤ 140737488355328) (hm : more.length ≤ 3) (hM : MoreAt w ma more) (hf : J64 first) (hms : ∀ n ∈ more, J64 n) :
    Calls Tryz.prog 78 #[sv, .int .i64 first, .slice ma more.length mc] w fun e w' => ∃ v', e = .returned v' ∧ LineP w w' B v' (acc ++ (lineB (first :: more) ++ [10])) := by
  obtain ⟨iB, hiB, hzB, hsB, hbB⟩ := info_parts infoB
  have HA := Lib.hid (appendInt_any B sv acc first hf w ho hB (by omega) T)
  have HT := Lib.hid T
  have HF := Lib.hid (And.intro hf hms)
  have HM := Lib.hid hM
  have HL := Lib.hid (And.intro hlim hm)
  have hlf := itoa_le hf
  have HLF := Lib.hid hlf
  clear T ho hlim hm hM hf hms hlf
  go_enter Tryz.func78, Tryz.ntmps78
  go_wp2_with (first | (go_at_call 115; refine HA.out.mono ?_; rintro e w1 ⟨v1, rfl, ho1, hb1, hk1⟩))
  have HP1 : Hid (LineP w w1 B v1 (acc ++ lineB [first])) := ⟨ho1, hb1, hk1⟩
  clear ho1 hb1 hk1 HA
  go_loopw [0, 8, 14] (fun s0 _ s14 wr => ∃ i : Nat, i ≤ more.length ∧ s14 = .int .i64 i ∧ LineP w wr B s0 (acc ++ lineB (first :: more.take i))) (fun _ _ s14 _ => more.length - (intOf s14).toNat)
  case atStart => exact ⟨0, Nat.zero_le _, rfl, HP1.out⟩
  case round =>
    obtain ⟨i, hi, rfl, hP⟩ := hrel
    obtain ⟨al, eal⟩ : ∃ al, (acc ++ lineB (first :: more.take i)) = al := ⟨_, rfl⟩
    rw [eal] at hP
    have HP := Lib.hid hP
    obtain ⟨va, vc, rfl⟩ := ownS_any hP.own
    have hlen : Hid (al.length ≤ acc.length + 100) := by
      rw [← eal]; unfold Hid
      have h3 := HL.out.2
      have hm : ∀ l : List Int, l.length ≤ 4 → (∀ n ∈ l, J64 n) → (lineB l).length ≤ l.length * 22 := by
        intro l hl hI
        induction l with
        | nil => simp [lineB]
        | cons a r ih =>
          cases r with
          | nil => have := itoa_le (hI a (by simp)); simp [lineB]; omega
          | cons b r =>
            have h1 := itoa_le (hI a (by simp))
            have h2 := ih (by simp at hl ⊢; omega) (fun n hn => hI n (List.mem_cons_of_mem _ hn))
            simp only [lineB, List.length_append, List.length_cons] at *
            omega
      have := hm (first :: more.take i) (by simp; omega) (fun n hn => by
        rcases List.mem_cons.1 hn with rfl | hn
        · exact HF.out.1
        · exact HF.out.2 n (List.mem_of_mem_take hn))
      simp only [List.length_append, List.length_cons, List.length_take] at *
      omega
    have HEA := Lib.hid eal
    have hsz : B ≤ wr.heap.size := by have := hP.bel.size; omega
    have HTR : Hid (Tab B wr) := HT.out.on hP.bel
    have HMR : Hid (MoreAt wr ma more) := HM.out.kept hP.kept
    clear hP eal
    by_cases hlt : i < more.length
    · have y0 : (0 : Int) ≤ (i : Int) := by omega
      have y1 : (i : Int) < (more.length : Int) := by omega
      have yi : IntKind.i64.wrap ((i : Int) + 1) = (i : Int) + 1 := wrap_id (by omega) (by have := HL.out.2; omega)
      obtain ⟨M, rfl, hMb⟩ : ∃ M, ma = some ⟨M, 0, none⟩ ∧ wr.heap[M]? = some (.cells (more.map (.int .i64)).toArray 3 (0, 0)) := by
        rcases HMR.out with h | h
        · rw [h] at hlt; simp at hlt
        · exact h
      have cm : wr.cell? ⟨M, i, none⟩ = some (.int .i64 (more.getD i 0)) := by
        rw [cell_of_heap hMb i]
        simp [hlt]
      have hI : J64 (more.getD i 0) := HF.out.2 _ (by
        have : more.getD i 0 = more[i] := by simp [hlt]
        rw [this]; exact List.getElem_mem hlt)
      have HJ : Hid (lineB (first :: more.take (i + 1)) = lineB (first :: more.take i) ++ 32 :: Lib.itoa (more.getD i 0)) := by
        unfold Hid
        have : more.take (i + 1) = more.take i ++ [more.getD i 0] := by
          rw [List.take_add_one, List.getElem?_eq_getElem hlt]
          simp [hlt]
        rw [this, ← List.cons_append, lineB_snoc _ _ (by simp)]
      have HI := Lib.hid hI
      clear hI hMb
      generalize more.getD i 0 = m at *
      have HN3 : Hid (∀ j u, [Value.int .u8 32][j]? = some u → (wr.alloc (.cells #[.int .u8 32] 5)).cell? ((⟨wr.heap.size, 0, none⟩ : Addr).add j) = some u) := cell_oneT _ _ _
      have hlA := hlen.out
      have hlB := HL.out.1
      go_wp2_with (at_builtin; refine wpList_append_where _ (by rfl) (.tmp 18) (.tmp 19) 126 (by rfl) B 5 iB (.int .u8 0) 1 1 Tryz.underlying126 hiB hzB hsB hbB rfl (by decide) _ _ _ (by rfl) (ownB_below HP.out.own (below1 _ _)) ⟨wr.heap.size, 0, none⟩ 1 1 [.int .u8 32] (by rfl) rfl HN3.out ?c2 (by decide) ?c3 ?c4 ?c5 (wr.heap.size + 1) ?c6 ?_)
      case c2 => intro u hu; simp at hu; subst hu; rfl
      case c3 => unfold maxLen; omega
      case c4 => omega
      case c5 => simp; omega
      case c6 => simp
      · intro g2 cap2 w3 hown3 hat3 hlt3
        have HP3 := Lib.hid (HP.out.byte (c := 32) hB hown3 hat3)
        have hs3 : B ≤ w3.heap.size := by have := HP3.out.bel.size; omega
        have HA3 := Lib.hid (appendInt_any B _ _ m HI.out w3 HP3.out.own hs3 (by simp; omega) (HT.out.on HP3.out.bel))
        clear hown3 hat3 HN3 HP hlA hlB
        go_wp2_with (first | (go_at_call 115; refine HA3.out.mono ?_; rintro e w4 ⟨v4, rfl, ho4, hb4, hk4⟩))
        have HP4 : Hid (LineP w w4 B v4 (acc ++ lineB (first :: more.take (i + 1)))) := by
          refine ⟨?_, HP3.out.bel.trans hb4, HP3.out.kept.trans hk4⟩
          rw [HJ.out, ← List.append_assoc, HEA.out]
          simpa using ho4
        clear ho4 hb4 hk4 HP3 HA3
        go_roundw
        case rel => exact ⟨i + 1, by omega, by go_num, HP4.out⟩
        case measure => simp [intOf]; omega
    · have y1 : ¬ (i : Int) < (more.length : Int) := by omega
      have ei : more.take i = more := List.take_of_length_le (by omega)
      have HEB : Hid (acc ++ lineB (first :: more) = al) := by rw [← HEA.out, ei]; rfl
      have HN3 : Hid (∀ j u, [Value.int .u8 10][j]? = some u → (wr.alloc (.cells #[.int .u8 10] 5)).cell? ((⟨wr.heap.size, 0, none⟩ : Addr).add j) = some u) := cell_oneT _ _ _
      have hlA := hlen.out
      have hlB := HL.out.1
      clear ei
      go_wp2_with (at_builtin; refine wpList_append_where _ (by rfl) (.tmp 25) (.tmp 26) 126 (by rfl) B 5 iB (.int .u8 0) 1 1 Tryz.underlying126 hiB hzB hsB hbB rfl (by decide) _ _ _ (by rfl) (ownB_below HP.out.own (below1 _ _)) ⟨wr.heap.size, 0, none⟩ 1 1 [.int .u8 10] (by rfl) rfl HN3.out (by intro u hu; simp at hu; subst hu; rfl) (by decide) (by unfold maxLen; omega) (by omega) (by simp; omega) (wr.heap.size + 1) (by simp) ?_)
      · intro g2 cap2 w3 hown3 hat3 hlt3
        have HP3 := Lib.hid (HP.out.byte (c := 10) hB hown3 hat3)
        clear hown3 hat3 HN3 HP hlA hlB
        go_wp2
        go_ret
        refine ⟨_, rfl, ?_⟩
        rw [← List.append_assoc, HEB.out]
        exact HP3.out
end Go.Proofs.YtgpapegpdfonpaaGreatDoor
