/- Names: Hash, of the program and of the document's answer: the same number of any text. -/
import Derived.Test.YtdjlcfpcplclmaaNlook
namespace Go.Proofs.Ytdjlcfpcplclmaa
open Go.RowKit T9
set_option linter.unusedVariables false
attribute [local go_sem] byte_get
theorem step_eq (s : Str) (k : Nat) (h : k < s.length) : ((hshN (s.take (k + 1)) : Nat) : Int) = (31 * (hshN (s.take k) : Int) + ((s[k]'h).toNat : Int)) % 4294967296 := by
  rw [hshN_take s k h]
  unfold stepN
  omega
theorem xor16 (a b : Nat) (ha : a < 16) (hb : b < 16) : bits .xor .u32 (a : Int) (b : Int) = ((a ^^^ b : Nat) : Int) := u32_xor_nat a b (by omega) (by omega)
theorem dig_eq (v g : Nat) : ((v : Int) / 2 ^ (4 * g)).tmod 16 = ((v / 16 ^ g % 16 : Nat) : Int) := by
  have e : ((v : Int) / 2 ^ (4 * g)) = ((v / 16 ^ g : Nat) : Int) := by
    rw [show (16 : Nat) ^ g = 2 ^ (4 * g) by rw [Nat.pow_mul]]
    simp
  rw [e, Int.tmod_eq_emod_of_nonneg (Int.natCast_nonneg _)]
  omega
theorem grp_step (v g : Nat) (h : grpN v g < 16) : bits .xor .u32 (grpN v g : Int) ((v / 16 ^ g % 16 : Nat) : Int) = ((grpN v (g + 1) : Nat) : Int) := by
  rw [xor16 _ _ h (Nat.mod_lt _ (by decide))]
  rfl
set_option maxHeartbeats 1000000 in
theorem hash_any (s : Str) (w : World) (hs : s.length ≤ maxLen) : Calls Try.prog 10 #[.string ⟨s.toArray⟩] w fun e w' => e = .returned (.int .i64 (hashN s : Int)) ∧ w = w' := by
  unfold maxLen at hs
  go_enter Try.func10, Try.ntmps10
  go_wp2
  go_loop [3, 4, 9] (fun v _ i => ∃ k : Nat, k ≤ s.length ∧ i = .int .i64 k ∧ v = .int .u32 (hshN (s.take k) : Int)) (fun _ _ i => s.length - (intOf i).toNat)
  case atStart => exact ⟨0, Nat.zero_le _, rfl, rfl⟩
  case round =>
    obtain ⟨k, hk, rfl, rfl⟩ := hrel
    by_cases hlt : k < s.length
    · have H := Lib.hid (step_eq s k hlt)
      have hv := hshN_lt (s.take k)
      have hb := (s[k]'hlt).toNat_lt
      go_wp2
      go_round
      case rel => exact ⟨k + 1, by omega, by go_num, congrArg (Value.int .u32) (by rw [H.out]; omega)⟩
      case measure => simp [intOf]; omega
    · have hv := hshN_lt s
      have e : s.take k = s := List.take_of_length_le (by omega)
      rw [e]
      clear e
      go_wp2
      go_loop [5, 6, 20] (fun h _ g => ∃ k : Nat, k ≤ 8 ∧ g = .int .i64 k ∧ h = .int .u32 (grpN (hshN s) k : Int)) (fun _ _ g => 8 - (intOf g).toNat)
      case atStart => exact ⟨0, Nat.zero_le _, rfl, rfl⟩
      case round =>
        obtain ⟨g, hg, rfl, rfl⟩ := hrel
        have hgl := grpN_lt (hshN s) g
        by_cases hlt8 : g < 8
        · go_wp2
          go_round
          case rel => exact ⟨g + 1, by omega, by go_num, by rw [dig_eq, grp_step _ _ hgl]⟩
          case measure => simp [intOf]; omega
        · obtain rfl : g = 8 := by omega
          go_wp2
          go_ret
          exact ⟨rfl, rfl⟩
theorem grp_step2 (v g q : Nat) (h : grpN v g < 16) (e : v / 16 ^ g = q) : bits .xor .u32 (grpN v g : Int) ((q : Int) % 16) = ((grpN v (g + 1) : Nat) : Int) := by
  subst e
  rw [show (((v / 16 ^ g : Nat) : Int) % 16) = ((v / 16 ^ g % 16 : Nat) : Int) from rfl]
  exact grp_step v g h
theorem div16 (v g : Nat) : v / 16 ^ g / 16 = v / 16 ^ (g + 1) := by rw [Nat.div_div_eq_div_mul, Nat.pow_succ]
set_option maxHeartbeats 1000000 in
theorem rhash_any (s : Str) (w : World) (hs : s.length ≤ maxLen) : Calls Try.prog 11 #[.string ⟨s.toArray⟩] w fun e w' => e = .returned (.int .i64 (hashN s : Int)) ∧ w = w' := by
  unfold maxLen at hs
  go_enter Try.func11, Try.ntmps11
  go_wp2
  go_loop [3, 4] (fun v i => ∃ k : Nat, k ≤ s.length ∧ i = .int .i64 k ∧ v = .int .u32 (hshN (s.take k) : Int)) (fun _ i => s.length - (intOf i).toNat)
  case atStart => exact ⟨0, Nat.zero_le _, rfl, rfl⟩
  case round =>
    obtain ⟨k, hk, rfl, rfl⟩ := hrel
    by_cases hlt : k < s.length
    · have H := Lib.hid (step_eq s k hlt)
      have hv := hshN_lt (s.take k)
      have hb := (s[k]'hlt).toNat_lt
      go_wp2
      go_round
      case rel => exact ⟨k + 1, by omega, by go_num, congrArg (Value.int .u32) (by rw [H.out]; omega)⟩
      case measure => simp [intOf]; omega
    · have hv := hshN_lt s
      have e : s.take k = s := List.take_of_length_le (by omega)
      rw [e]
      clear e
      go_wp2
      go_loop [3, 5, 6] (fun v h g => ∃ k : Nat, k ≤ 8 ∧ g = .int .i64 k ∧ h = .int .u32 (grpN (hshN s) k : Int) ∧ v = .int .u32 ((hshN s / 16 ^ k : Nat) : Int)) (fun _ _ g => 8 - (intOf g).toNat)
      case atStart => exact ⟨0, Nat.zero_le _, rfl, rfl, by rw [Nat.pow_zero, Nat.div_one]⟩
      case round =>
        obtain ⟨g, hg, rfl, rfl, rfl⟩ := hrel
        have hgl := grpN_lt (hshN s) g
        have hdl : hshN s / 16 ^ g < 4294967296 := Nat.lt_of_le_of_lt (Nat.div_le_self _ _) hv
        obtain ⟨q, hq⟩ : ∃ q, hshN s / 16 ^ g = q := ⟨_, rfl⟩
        have G := Lib.hid (grp_step2 (hshN s) g q hgl hq)
        have D := Lib.hid (div16 (hshN s) g)
        have Q := Lib.hid hq
        rw [hq] at hdl ⊢
        clear hq
        by_cases hlt8 : g < 8
        · go_wp2
          go_round
          case rel => exact ⟨g + 1, by omega, by go_num, congrArg (Value.int .u32) G.out, congrArg (Value.int .u32) (by rw [← D.out, Q.out]; omega)⟩
          case measure => simp [intOf]; omega
        · obtain rfl : g = 8 := by omega
          go_wp2
          go_ret
          exact ⟨rfl, rfl⟩
end Go.Proofs.Ytdjlcfpcplclmaa
