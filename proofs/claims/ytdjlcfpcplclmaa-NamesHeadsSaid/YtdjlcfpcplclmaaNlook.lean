/- Names: Right, Hash and Length, of the program and of the document's answer: one contract each. -/
import Derived.Test.YtdjlcfpcplclmaaCell
import Derived.Test.YtdjlcfpcplclmaaNmath
import Derived.Lib.Strings
import Derived.LoopTactic
import Derived.Laws.BitsAllLaws
namespace Go.Proofs.Ytdjlcfpcplclmaa
open Go.RowKit T9
set_option linter.unusedVariables false
theorem byte_get (l : Str) (k : Nat) (h : k < (⟨l.toArray⟩ : ByteArray).size) : (⟨l.toArray⟩ : ByteArray)[k]'h = l[k]?.getD 0 := by
  have h' : k < l.length := h
  show l.toArray[k] = _
  simp [h']
attribute [local go_sem] byte_get
theorem num_any (e : Int) (w : World) (h0 : 0 ≤ e) (h1 : e ≤ 1000) : Calls Try.prog 19 #[.int .i64 e] w fun e' w' => e' = .returned (.int .i64 e) ∧ w = w' := by
  go_enter Try.func19, Try.ntmps19
  go_wp2
  go_ret
  exact ⟨rfl, rfl⟩
theorem length_any (s : Str) (w : World) (hs : s.length ≤ maxLen) : Calls Try.prog 12 #[.string ⟨s.toArray⟩] w fun e w' => e = .returned (.int .i64 (lenN s : Int)) ∧ w = w' := by
  unfold maxLen at hs
  unfold lenN
  by_cases h : 31 < s.length
  · rw [if_pos h]
    go_enter Try.func12, Try.ntmps12
    go_wp2
    go_ret
    exact ⟨rfl, rfl⟩
  · rw [if_neg h]
    go_enter Try.func12, Try.ntmps12
    go_wp2
    go_ret
    exact ⟨ret_int (by omega), rfl⟩
theorem rlength_any (s : Str) (w : World) (hs : s.length ≤ maxLen) : Calls Try.prog 13 #[.string ⟨s.toArray⟩] w fun e w' => e = .returned (.int .i64 (lenN s : Int)) ∧ w = w' := by
  unfold maxLen at hs
  unfold lenN
  by_cases h : 31 < s.length
  · rw [if_pos h]
    go_enter Try.func13, Try.ntmps13
    go_wp2
    go_ret
    exact ⟨rfl, rfl⟩
  · rw [if_neg h]
    go_enter Try.func13, Try.ntmps13
    go_wp2
    go_ret
    exact ⟨ret_int (by omega), rfl⟩
theorem okB_iff (b : UInt8) : okB b = true ↔ 33 ≤ (b.toNat : Int) ∧ (b.toNat : Int) ≤ 126 := by
  simp only [okB, Bool.and_eq_true, decide_eq_true_eq]
  omega
theorem all_take (s : Str) (k : Nat) (h : k < s.length) : (s.take (k + 1)).all okB = ((s.take k).all okB && okB (s[k]'h)) := by
  rw [List.take_succ_eq_append_getElem h, List.all_append]
  simp
theorem all_at (s : Str) (k : Nat) (h : k < s.length) (hb : okB (s[k]'h) = false) : s.all okB = false := by
  rw [List.all_eq_false]
  exact ⟨s[k], List.getElem_mem h, by simpa using hb⟩
set_option maxHeartbeats 400000 in
theorem right_any (s : Str) (w : World) (hs : s.length ≤ maxLen) : Calls Try.prog 8 #[.string ⟨s.toArray⟩] w fun e w' => e = .returned (.bool (rightB s)) ∧ w = w' := by
  unfold maxLen at hs
  by_cases h1 : s.length < 1
  · have e : rightB s = false := by simp [rightB]; omega
    rw [e]
    clear e
    go_enter Try.func8, Try.ntmps8
    go_wp2
    go_ret
    exact ⟨rfl, rfl⟩
  · by_cases h2 : 31 < s.length
    · have e : rightB s = false := by simp [rightB]; omega
      rw [e]
      clear e
      go_enter Try.func8, Try.ntmps8
      go_wp2
      go_ret
      exact ⟨rfl, rfl⟩
    · have e : rightB s = s.all okB := by
        have a : 0 < s.length := by omega
        have b : s.length ≤ 31 := by omega
        simp [rightB, a, b]
      rw [e]
      clear e
      go_enter Try.func8, Try.ntmps8
      go_wp2
      go_loop [3, 14] (fun _ i => ∃ k : Nat, k ≤ s.length ∧ i = .int .i64 k ∧ (s.take k).all okB = true) (fun _ i => s.length - (intOf i).toNat)
      case atStart => exact ⟨0, Nat.zero_le _, rfl, rfl⟩
      case round =>
        obtain ⟨k, hk, rfl, hall⟩ := hrel
        have H := Lib.hid hall
        clear hall
        by_cases hlt : k < s.length
        · cases hb : okB (s[k]'hlt) with
          | true =>
            obtain ⟨b1, b2⟩ := (okB_iff _).1 hb
            have B := Lib.hid hb
            clear hb
            go_wp2
            go_round
            case rel => exact ⟨k + 1, by omega, by go_num, by rw [all_take s k hlt, H.out, B.out]; rfl⟩
            case measure => simp [intOf]; omega
          | false =>
            have E := Lib.hid (all_at s k hlt hb)
            have b1 : ¬ (33 ≤ ((s[k]'hlt).toNat : Int) ∧ ((s[k]'hlt).toNat : Int) ≤ 126) := fun q => by rw [(okB_iff _).2 q] at hb; cases hb
            clear hb
            by_cases c1 : 33 ≤ ((s[k]'hlt).toNat : Int)
            · have c2 : 126 < ((s[k]'hlt).toNat : Int) := by omega
              clear b1
              go_wp2
              go_ret
              exact ⟨ret_bool E.out.symm, rfl⟩
            · clear b1
              go_wp2
              go_ret
              exact ⟨ret_bool E.out.symm, rfl⟩
        · go_wp2
          go_ret
          refine ⟨ret_bool ?_, rfl⟩
          have := H.out
          rw [List.take_of_length_le (by omega)] at this
          exact this.symm
set_option maxHeartbeats 400000 in
theorem rright_any (s : Str) (w : World) (hs : s.length ≤ maxLen) : Calls Try.prog 9 #[.string ⟨s.toArray⟩] w fun e w' => e = .returned (.bool (rightB s)) ∧ w = w' := by
  unfold maxLen at hs
  go_enter Try.func9, Try.ntmps9
  go_wp2
  go_loop [3] (fun i => ∃ k : Nat, k ≤ s.length ∧ i = .int .i64 k ∧ (s.take k).all okB = true) (fun i => s.length - (intOf i).toNat)
  case atStart => exact ⟨0, Nat.zero_le _, rfl, rfl⟩
  case round =>
    obtain ⟨k, hk, rfl, hall⟩ := hrel
    have H := Lib.hid hall
    clear hall
    by_cases hlt : k < s.length
    · cases hb : okB (s[k]'hlt) with
      | true =>
        obtain ⟨b1, b2⟩ := (okB_iff _).1 hb
        have B := Lib.hid hb
        clear hb
        go_wp2
        go_round
        case rel => exact ⟨k + 1, by omega, by go_num, by rw [all_take s k hlt, H.out, B.out]; rfl⟩
        case measure => simp [intOf]; omega
      | false =>
        have E := Lib.hid (show rightB s = false by simp only [rightB, all_at s k hlt hb, Bool.and_false])
        have b1 : ¬ (33 ≤ ((s[k]'hlt).toNat : Int) ∧ ((s[k]'hlt).toNat : Int) ≤ 126) := fun q => by rw [(okB_iff _).2 q] at hb; cases hb
        clear hb
        by_cases c1 : 33 ≤ ((s[k]'hlt).toNat : Int)
        · have c2 : 126 < ((s[k]'hlt).toNat : Int) := by omega
          clear b1
          go_wp2
          go_ret
          exact ⟨ret_bool E.out.symm, rfl⟩
        · clear b1
          go_wp2
          go_ret
          exact ⟨ret_bool E.out.symm, rfl⟩
    · have E := Lib.hid (show rightB s = (decide (0 < s.length) && decide (s.length ≤ 31)) by
        have := H.out
        rw [List.take_of_length_le (by omega)] at this
        simp [rightB, this])
      by_cases h0 : 0 < s.length
      · by_cases h1 : s.length ≤ 31
        · go_wp2
          go_ret
          exact ⟨ret_bool (by rw [E.out]; simp [h0, h1]; omega), rfl⟩
        · go_wp2
          go_ret
          exact ⟨ret_bool (by rw [E.out]; simp [h0, h1]; omega), rfl⟩
      · go_wp2
        go_ret
        exact ⟨ret_bool (by rw [E.out]; simp [h0]), rfl⟩
end Go.Proofs.Ytdjlcfpcplclmaa
