/-
  The document's own answer: Check and Hull.
-/
import Derived.Test.YtgpapegpdfonpaaGreatDoorRefA
namespace Go.Proofs.YtgpapegpdfonpaaGreatDoor
set_option linter.unusedVariables false
set_option linter.unusedSimpArgs false
open Go.RowKit
attribute [local go_sem ↓] Go.wp_at_zero Go.wp_at_succ

theorem take_succ_nodup {l : List Pt} {i : Nat} (hi : i < l.length) (h : (l.take i).Nodup) (hn : l[i] ∉ l.take i) : (l.take (i + 1)).Nodup := by
  rw [List.take_succ_eq_append_getElem hi, List.nodup_append]
  exact ⟨h, by simp, fun a ha b hb e => by simp at hb; subst hb e; exact hn ha⟩
theorem mem_take_succ' {l : List Pt} {n : Nat} (h : n < l.length) {p : Pt} (h1 : p ∉ l.take n) (h2 : p ≠ l[n]) : p ∉ l.take (n + 1) := by
  rw [List.take_succ_eq_append_getElem h, List.mem_append, List.mem_singleton]
  exact fun x => x.elim h1 h2
theorem not_nodup_at {l : List Pt} {i j : Nat} (hi : i < l.length) (hj : j < i) (h : l[i] = l[j]'(by omega)) : ¬ l.Nodup := fun hn => by
  have := nodup_inj hn hi (by omega) h; omega

theorem fault_many' {l : List Pt} (h : 60 < l.length) : faultN l = 2 := by unfold faultN; rw [if_pos h]
theorem fault_far' {l : List Pt} (h : ¬ 60 < l.length) (hf : anyFarB l = true) : faultN l = 1 := by unfold faultN; rw [if_neg h, if_pos hf]
theorem fault_twice' {l : List Pt} (h : ¬ 60 < l.length) (hf : anyFarB l = false) (hd : ¬ l.Nodup) : faultN l = 3 := by
  unfold faultN twiceB; rw [if_neg h, hf, if_neg (by simp), decide_eq_false hd, if_pos (by simp)]
theorem fault_none' {l : List Pt} (h : ¬ 60 < l.length) (hf : anyFarB l = false) (hd : l.Nodup) : faultN l = 0 := by
  unfold faultN twiceB; rw [if_neg h, hf, if_neg (by simp), decide_eq_true hd, if_neg (by simp)]

set_option maxHeartbeats 2000000 in
theorem check_any (a : Option Addr) (cap : Nat) (l : List Pt) (w : World) (hr : RawAt w a l) :
    Calls Tryz.prog 48 #[.slice a l.length cap] w fun e w' => e = .returned (.int .i64 (faultN l)) ∧ Below w.heap.size w w' := by
  by_cases h60 : 60 < l.length
  · rw [fault_many' h60]
    have hc : (60 : Int) < (l.length : Int) := by omega
    go_enter Tryz.func48, Tryz.ntmps48
    go_wp2
    go_ret
    exact ⟨rfl, Below.refl _ _⟩
  · have hc : ¬ ((60 : Int) < (l.length : Int)) := by omega
    have l60 : (l.length : Int) ≤ 60 := by omega
    have key : ∀ k, k < l.length → ∃ b off, a = some ⟨b, off, none⟩ ∧ b < w.heap.size ∧ PtsAt w b off l := fun k hk => by
      rcases hr with rfl | h
      · simp at hk
      · exact h
    have KEY : Hid (∀ k, k < l.length → ∃ b off, a = some ⟨b, off, none⟩ ∧ b < w.heap.size ∧ PtsAt w b off l) := key
    clear key hr
    go_enter Tryz.func48, Tryz.ntmps48
    go_wp2
    go_loopw [3] (fun i wr => ∃ k : Nat, k ≤ l.length ∧ i = .int .i64 k ∧ anyFarB (l.take k) = false ∧ Below w.heap.size w wr) (fun i _ => l.length - (intOf i).toNat)
    case atStart => exact ⟨0, Nat.zero_le _, rfl, rfl, Below.refl _ _⟩
    case round =>
      obtain ⟨k, hk, rfl, hno, hnx⟩ := hrel
      by_cases hlt : k < l.length
      · obtain ⟨b, off, rfl, hb, hp⟩ := KEY.out k hlt
        obtain ⟨c0, c1⟩ := (hp.below hnx hb) k hlt
        have eg : l.getD k (0, 0) = l[k] := by simp [hlt]
        rw [eg] at c0 c1
        have HNO : Hid (anyFarB (l.take k) = false) := hno
        clear hno hp
        have x0 : (0 : Int) ≤ (k : Int) := by omega
        have x1 : (k : Int) < (l.length : Int) := by omega
        cases hf : farB l[k].1 l[k].2 with
        | true =>
          have HF : Hid (farB l[k].1 l[k].2 = true) := hf
          have F := fun W => rfar_any l[k].1 l[k].2 W
          rw [hf] at F
          clear hf
          generalize l[k].1 = lx at c0 F
          generalize l[k].2 = ly at c1 F
          go_wp2_with (go_at_call 63; refine (F _).mono ?_; rintro e w' ⟨rfl, hb1⟩)
          go_ret
          exact ⟨by rw [fault_far' h60 (anyFarB_hit l k hlt HF.out)]; rfl, hnx.trans (hb1.mono hnx.size)⟩
        | false =>
          have HF : Hid (farB l[k].1 l[k].2 = false) := hf
          have F := fun W => rfar_any l[k].1 l[k].2 W
          rw [hf] at F
          clear hf
          generalize l[k].1 = lx at c0 F
          generalize l[k].2 = ly at c1 F
          go_wp2_with (go_at_call 63; refine (F _).mono ?_; rintro e w' ⟨rfl, hb1⟩)
          go_roundw
          case rel => exact ⟨k + 1, by omega, by go_num, by rw [anyFarB_succ l k hlt, HNO.out, HF.out]; rfl, hnx.trans (hb1.mono hnx.size)⟩
          case measure => simp [intOf]; omega
      · rw [List.take_of_length_le (by omega)] at hno
        have HNO : Hid (anyFarB l = false) := hno
        clear hno
        go_wp2
        go_loopw [5] (fun i wr => ∃ k : Nat, k ≤ l.length ∧ i = .int .i64 k ∧ (l.take k).Nodup ∧ Below w.heap.size w wr) (fun i _ => l.length - (intOf i).toNat)
        case atStart => exact ⟨0, Nat.zero_le _, rfl, by simp, hnx⟩
        case round =>
          clear hnx
          obtain ⟨i, hi, rfl, hnd, hnx⟩ := hrel
          have HND : Hid ((l.take i).Nodup) := hnd
          clear hnd
          by_cases hil : i < l.length
          · obtain ⟨b, off, rfl, hb, hp⟩ := KEY.out i hil
            go_wp2
            go_loopw [6] (fun j wr => ∃ n : Nat, n ≤ i ∧ j = .int .i64 n ∧ l[i] ∉ l.take n ∧ Below w.heap.size w wr) (fun j _ => i - (intOf j).toNat)
            case atStart => exact ⟨0, Nat.zero_le _, rfl, by simp, hnx⟩
            case round =>
              clear hnx
              obtain ⟨n, hn, rfl, hnm, hnx⟩ := hrel
              have HNM : Hid (l[i] ∉ l.take n) := hnm
              clear hnm
              by_cases hni : n < i
              · have hnl : n < l.length := by omega
                obtain ⟨c0, c1⟩ := (hp.below hnx hb) i hil
                obtain ⟨c2, c3⟩ := (hp.below hnx hb) n hnl
                have eg : l.getD i (0, 0) = l[i] := by simp [hil]
                have eh : l.getD n (0, 0) = l[n] := by simp [hnl]
                rw [eg] at c0 c1
                rw [eh] at c2 c3
                clear eg eh
                have hne : ∀ h : ¬ (l[i].1 = l[n].1 ∧ l[i].2 = l[n].2), l[i] ∉ l.take (n + 1) := fun h => mem_take_succ' hnl HNM.out fun e => h ⟨by rw [e], by rw [e]⟩
                have heq : ∀ h : l[i].1 = l[n].1 ∧ l[i].2 = l[n].2, ¬ l.Nodup := fun h => not_nodup_at hil hni (Prod.ext h.1 h.2)
                generalize l[i].1 = ix at c0 hne heq
                generalize l[i].2 = iy at c1 hne heq
                generalize l[n].1 = nx at c2 hne heq
                generalize l[n].2 = ny at c3 hne heq
                have x0 : (0 : Int) ≤ (i : Int) := by omega
                have x1 : (i : Int) < (l.length : Int) := by omega
                have x2 : (0 : Int) ≤ (n : Int) := by omega
                have x3 : (n : Int) < (l.length : Int) := by omega
                have x4 : IntKind.i64.wrap ((n : Int) + 1) = (n : Int) + 1 := wrap_id (by omega) (by omega)
                clear hp
                by_cases e1 : ix = nx
                · by_cases e2 : iy = ny
                  · subst e1 e2
                    have HD : Hid (¬ l.Nodup) := heq ⟨rfl, rfl⟩
                    clear heq hne
                    go_wp2_with fail
                    go_quiet (fail)
                    go_wp2
                    go_ret
                    exact ⟨by rw [fault_twice' h60 HNO.out HD.out]; rfl, below_drewN hnx⟩
                  · have HD : Hid (l[i] ∉ l.take (n + 1)) := hne fun h => e2 h.2
                    clear heq hne
                    go_wp2_with fail
                    go_quiet (fail)
                    go_wp2
                    go_roundw
                    case rel => exact ⟨n + 1, by omega, by go_num, HD.out, below_drewN hnx⟩
                    case measure => simp [intOf]; omega
                · have HD : Hid (l[i] ∉ l.take (n + 1)) := hne fun h => e1 h.1
                  clear heq hne
                  go_wp2_with fail
                  go_quiet (fail)
                  go_wp2
                  go_roundw
                  case rel => exact ⟨n + 1, by omega, by go_num, HD.out, below_drewN hnx⟩
                  case measure => simp [intOf]; omega
              · have en : n = i := by omega
                subst en
                go_wp2
                go_roundw
                case rel => exact ⟨n + 1, by omega, by go_num, take_succ_nodup hil HND.out HNM.out, hnx⟩
                case measure => simp [intOf]; omega
          · have HD : Hid (l.Nodup) := by have := HND.out; rwa [List.take_of_length_le (by omega)] at this
            go_wp2
            go_ret
            exact ⟨by rw [fault_none' h60 HNO.out HD.out]; rfl, hnx⟩

end Go.Proofs.YtgpapegpdfonpaaGreatDoor
