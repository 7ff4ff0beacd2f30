/- The six laws' walks: each law of layer 1 returns true, whatever words come in. -/
import Derived.Test.YtgdfekmfgoaihaaQuotsB
import Derived.OpenShut
import Derived.RowKit3
import Derived.Lib.Hide
namespace Go.Proofs.Ytgdfekmfgoaihaa
open Go.RowKit
set_option linter.unusedVariables false

theorem grown_drewN {W w' : World} (h : Grown W w') (n : Nat) : Grown W (w'.drewN n) := h
def Yes (w : World) (e : Ending) (w' : World) : Prop := e = .returned (.bool true) ∧ ∃ n, w' = w.drewN n
theorem Yes.same (w : World) : Yes w (.returned (.bool true)) w := ⟨rfl, 0, rfl⟩
theorem Yes.grown {w : World} {e : Ending} {w' : World} (h : Yes w e w') : e = .returned (.bool true) ∧ Grown w w' := by
  obtain ⟨h1, n, rfl⟩ := h
  exact ⟨h1, grown_drewN (Grown.refl _) n⟩

theorem fm_known : fmQ 18446744073709551609 2 = 4294967292 ∧ fmR 18446744073709551609 2 = 1 ∧ fmBad 18446744073709551609 2 = false := ⟨by kernel_rfl, by kernel_rfl, by kernel_rfl⟩
theorem sext_known : sextV 4095 12 = 4294967295 := by kernel_rfl
theorem less_known : decide (sg 4294967295 < sg 0) = true := by kernel_rfl

theorem fmmod_known (w : World) : Calls Try.prog 38 #[.int .u64 18446744073709551609, .int .u32 2] w (Ret3 4294967292 1 true w) := by
  have h := fmmod_any 18446744073709551609 2 (by decide) (by decide) (by decide) (by decide) w
  rw [fm_known.1, fm_known.2.1, fm_known.2.2] at h
  exact h
theorem sext_known_any (w : World) : Calls Try.prog 9 #[.int .u32 4095, .int .i64 12] w fun e w' => e = .returned (.int .u32 4294967295) ∧ w = w' := by
  have h := sext_any 4095 12 (by decide) (by decide) w
  rw [sext_known] at h
  exact h
theorem div_known_any (w : World) : Calls Try.prog 26 #[.int .u32 7, .int .u32 0] w fun e w' => e = .returned (.int .u32 4294967295) ∧ w = w' :=
  div_any 7 0 (by decide) (by decide) (by decide) (by decide) w
theorem less_known_any (w : World) : Calls Try.prog 15 #[.int .u32 4294967295, .int .u32 0] w fun e w' => e = .returned (.bool true) ∧ w = w' := by
  have h := less_any 4294967295 0 (by decide) (by decide) (by decide) (by decide) w
  rw [less_known] at h
  exact h
theorem knows_any (w : World) : Calls Try.prog 17 #[] w (Yes w) := by
  go_enter Try.func17, Try.ntmps17
  go_wp2_with (first | (go_at_call 38; refine (fmmod_known _).mono ?_; rintro e w' ⟨rfl, n, rfl⟩) | (go_at_call 9; refine (sext_known_any _).mono ?_; rintro e w' ⟨rfl, rfl⟩) | (go_at_call 26; refine (div_known_any _).mono ?_; rintro e w' ⟨rfl, rfl⟩) | (go_at_call 15; refine (less_known_any _).mono ?_; rintro e w' ⟨rfl, rfl⟩))
  go_ret
  exact ⟨rfl, _, rfl⟩
theorem words_any (v c n f : Int) (h0 : 0 ≤ v) (h1 : v < 4294967296) (g0 : 0 ≤ c) (g1 : c < 4294967296) (hn0 : -9223372036854775808 ≤ n) (hn1 : n ≤ 9223372036854775807) (hf0 : -9223372036854775808 ≤ f) (hf1 : f ≤ 9223372036854775807) (w : World) :
    Calls Try.prog 3 #[.int .u32 v, .int .u32 c, .int .i64 n, .int .i64 f] w (Yes w) := by
  go_enter Try.func3, Try.ntmps3
  go_wp2_with (first | (go_at_call 9; refine (sext_any v n h0 h1 _).mono ?_; rintro e w' ⟨rfl, rfl⟩) | (go_at_call 10; refine (rsext_any v n h0 h1 _).mono ?_; rintro e w' ⟨rfl, rfl⟩) | (go_at_call 11; refine (field_any v f n h0 h1 ⟨hn0, hn1⟩ _).mono ?_; rintro e w' ⟨rfl, rfl⟩) | (go_at_call 12; refine (rfield_any v f n h0 h1 hf1 hn1 _).mono ?_; rintro e w' ⟨rfl, rfl⟩) | (go_at_call 13; refine (shift_any v c n h0 h1 g0 g1 _).mono ?_; rintro e w' ⟨rfl, rfl⟩) | (go_at_call 14; refine (rshift_any v c n h0 h1 g0 g1 _).mono ?_; rintro e w' ⟨rfl, rfl⟩) | (go_at_call 15; refine (less_any v c h0 h1 g0 g1 _).mono ?_; rintro e w' ⟨rfl, rfl⟩) | (go_at_call 16; refine (rsigned_any _ (by assumption) (by assumption) _).mono ?_; rintro e w' ⟨rfl, rfl⟩) | (go_at_call 17; refine (knows_any _).mono ?_; rintro e w' ⟨rfl, n, rfl⟩))
  go_ret
  exact ⟨rfl, _, rfl⟩
theorem products_any (a b : Int) (h0 : 0 ≤ a) (h1 : a < 4294967296) (g0 : 0 ≤ b) (g1 : b < 4294967296) (w : World) :
    Calls Try.prog 4 #[.int .u32 a, .int .u32 b] w (Yes w) := by
  go_enter Try.func4, Try.ntmps4
  go_wp2_with (first | (go_at_call 18; refine (mulh_any a b h0 h1 g0 g1 _).mono ?_; rintro e w' ⟨rfl, rfl⟩) | (go_at_call 19; refine (rmulh_any a b h0 h1 g0 g1 _).mono ?_; rintro e w' ⟨rfl, rfl⟩) | (go_at_call 20; refine (mulhsu_any a b h0 h1 g0 g1 _).mono ?_; rintro e w' ⟨rfl, rfl⟩) | (go_at_call 21; refine (rmulhsu_any a b h0 h1 g0 g1 _).mono ?_; rintro e w' ⟨rfl, rfl⟩) | (go_at_call 22; refine (mulhu_any a b h0 h1 g0 g1 _).mono ?_; rintro e w' ⟨rfl, rfl⟩) | (go_at_call 23; refine (rmulhu_any a b h0 h1 g0 g1 _).mono ?_; rintro e w' ⟨rfl, rfl⟩) | (go_at_call 24; refine (double_any a b h0 h1 g0 g1 _).mono ?_; rintro e w' ⟨rfl, rfl⟩) | (go_at_call 25; refine (rdouble_any a b h0 h1 g0 g1 _).mono ?_; rintro e w' ⟨rfl, rfl⟩) | (go_at_call 26; refine (div_any a b h0 h1 g0 g1 _).mono ?_; rintro e w' ⟨rfl, rfl⟩) | (go_at_call 27; refine (rdiv_any a b h0 h1 g0 g1 _).mono ?_; rintro e w' ⟨rfl, rfl⟩) | (go_at_call 28; refine (divu_any a b h0 h1 g0 g1 _).mono ?_; rintro e w' ⟨rfl, rfl⟩) | (go_at_call 29; refine (rdivu_any a b h0 h1 g0 g1 _).mono ?_; rintro e w' ⟨rfl, rfl⟩) | (go_at_call 30; refine (rem_any a b h0 h1 g0 g1 _).mono ?_; rintro e w' ⟨rfl, rfl⟩) | (go_at_call 31; refine (rrem_any a b h0 h1 g0 g1 _).mono ?_; rintro e w' ⟨rfl, rfl⟩) | (go_at_call 32; refine (remu_any a b h0 h1 g0 g1 _).mono ?_; rintro e w' ⟨rfl, rfl⟩) | (go_at_call 33; refine (rremu_any a b h0 h1 g0 g1 _).mono ?_; rintro e w' ⟨rfl, rfl⟩) | (go_at_call 17; refine (knows_any  _).mono ?_; rintro e w' ⟨rfl, n, rfl⟩))
  go_ret
  exact ⟨rfl, _, rfl⟩
theorem doubles_any (v d : Int) (h0 : 0 ≤ v) (h1 : v ≤ 18446744073709551615) (g0 : 0 ≤ d) (g1 : d < 4294967296) (w : World) :
    Calls Try.prog 5 #[.int .u64 v, .int .u32 d] w (Yes w) := by
  go_enter Try.func5, Try.ntmps5
  go_wp2_with (first | (go_at_call 34; refine (ummod_any v d h0 h1 g0 g1 _).mono ?_; rintro e w' ⟨rfl, n, rfl⟩) | (go_at_call 35; refine (rummod_any v d h0 h1 g0 g1 _).mono ?_; rintro e w' ⟨rfl, n, rfl⟩) | (go_at_call 36; refine (smrem_any v d h0 h1 g0 g1 _).mono ?_; rintro e w' ⟨rfl, n, rfl⟩) | (go_at_call 37; refine (rsmrem_any v d h0 h1 g0 g1 _).mono ?_; rintro e w' ⟨rfl, n, rfl⟩) | (go_at_call 38; refine (fmmod_any v d h0 h1 g0 g1 _).mono ?_; rintro e w' ⟨rfl, n, rfl⟩) | (go_at_call 39; refine (rfmmod_any v d h0 h1 g0 g1 _).mono ?_; rintro e w' ⟨rfl, n, rfl⟩) | (go_at_call 17; refine (knows_any  _).mono ?_; rintro e w' ⟨rfl, n, rfl⟩))
  go_ret
  exact ⟨rfl, _, rfl⟩
theorem halves_any (a b : Int) (h0 : 0 ≤ a) (h1 : a < 4294967296) (g0 : 0 ≤ b) (g1 : b < 4294967296) (w : World) :
    Calls Try.prog 7 #[.int .u32 a, .int .u32 b] w (Yes w) := by
  have e1 := halves_u a b
  have e2 := halves_s a b
  have e3 := halves_su a b
  have b1 : 0 ≤ mulhV a b := (upper_bd _).1
  have b2 : mulhV a b < 4294967296 := (upper_bd _).2
  have b3 : 0 ≤ mulhuV a b := (upper_bd _).1
  have b4 : mulhuV a b < 4294967296 := (upper_bd _).2
  have b5 : 0 ≤ mulhsuV a b := (upper_bd _).1
  have b6 : mulhsuV a b < 4294967296 := (upper_bd _).2
  go_enter Try.func7, Try.ntmps7
  go_wp2_with (first | (go_at_call 18; refine (mulh_any a b h0 h1 g0 g1 _).mono ?_; rintro e w' ⟨rfl, rfl⟩) | (go_at_call 20; refine (mulhsu_any a b h0 h1 g0 g1 _).mono ?_; rintro e w' ⟨rfl, rfl⟩) | (go_at_call 22; refine (mulhu_any a b h0 h1 g0 g1 _).mono ?_; rintro e w' ⟨rfl, rfl⟩) | (go_at_call 24; refine (double_any _ _ (by omega) (by omega) (by assumption) (by assumption) _).mono ?_; rintro e w' ⟨rfl, rfl⟩) | (go_at_call 16; refine (rsigned_any _ (by assumption) (by assumption) _).mono ?_; rintro e w' ⟨rfl, rfl⟩) | (go_at_call 17; refine (knows_any  _).mono ?_; rintro e w' ⟨rfl, n, rfl⟩))
  go_ret
  exact ⟨rfl, _, rfl⟩
theorem signs_math (v m : Int) (h0 : 0 ≤ v) (h1 : v < 4294967296) (a1 : 1 ≤ m) (a2 : m ≤ 32) :
    fieldV (sextV v m) 0 m = fieldV v 0 m ∧ sextV (sextV v m) m = sextV v m ∧ decide (sg (sextV v m) < sg 0) = (fieldV v (m - 1) 1 == 1) := by
  have hm : m = 1 ∨ m = 2 ∨ m = 3 ∨ m = 4 ∨ m = 5 ∨ m = 6 ∨ m = 7 ∨ m = 8 ∨ m = 9 ∨ m = 10 ∨ m = 11 ∨ m = 12 ∨ m = 13 ∨ m = 14 ∨ m = 15 ∨ m = 16 ∨ m = 17 ∨ m = 18 ∨ m = 19 ∨ m = 20 ∨ m = 21 ∨ m = 22 ∨ m = 23 ∨ m = 24 ∨ m = 25 ∨ m = 26 ∨ m = 27 ∨ m = 28 ∨ m = 29 ∨ m = 30 ∨ m = 31 ∨ m = 32 := by omega
  clear a1 a2
  refine ⟨?_, ?_, ?_⟩
  · rcases hm with rfl | rfl | rfl | rfl | rfl | rfl | rfl | rfl | rfl | rfl | rfl | rfl | rfl | rfl | rfl | rfl | rfl | rfl | rfl | rfl | rfl | rfl | rfl | rfl | rfl | rfl | rfl | rfl | rfl | rfl | rfl | rfl <;> simp [sextV, low, fieldV] <;> omega
  · rcases hm with rfl | rfl | rfl | rfl | rfl | rfl | rfl | rfl | rfl | rfl | rfl | rfl | rfl | rfl | rfl | rfl | rfl | rfl | rfl | rfl | rfl | rfl | rfl | rfl | rfl | rfl | rfl | rfl | rfl | rfl | rfl | rfl <;> simp [sextV, low] <;> omega
  · rw [Bool.eq_iff_iff, decide_eq_true_eq, beq_iff_eq]
    rcases hm with rfl | rfl | rfl | rfl | rfl | rfl | rfl | rfl | rfl | rfl | rfl | rfl | rfl | rfl | rfl | rfl | rfl | rfl | rfl | rfl | rfl | rfl | rfl | rfl | rfl | rfl | rfl | rfl | rfl | rfl | rfl | rfl <;> simp [sextV, low, fieldV, sg] <;> omega
theorem signs_any (v n : Int) (h0 : 0 ≤ v) (h1 : v < 4294967296) (w : World) :
    Calls Try.prog 8 #[.int .u32 v, .int .i64 n] w (Yes w) := by
  obtain ⟨m, hm⟩ : ∃ m, wrap64 (1 + (wrap64 (n.tmod 32 + 32)).tmod 32) = m := ⟨_, rfl⟩
  have hb : 1 ≤ m ∧ m ≤ 32 := by
    have t1 := tmod_bd n 32 (by decide)
    have t2 := tmod_bd (wrap64 (n.tmod 32 + 32)) 32 (by decide)
    have e : wrap64 (n.tmod 32 + 32) = n.tmod 32 + 32 := IntWalk.wrap64_in _ (by omega)
    have t3 := tmod_pos (wrap64 (n.tmod 32 + 32)) 32 (by rw [e]; omega)
    rw [IntWalk.wrap64_in _ (by omega)] at hm
    omega
  obtain ⟨a1, a2⟩ := hb
  obtain ⟨s1, s2, s3⟩ := signs_math v m h0 h1 a1 a2
  have s4 := sext_bd v m
  obtain ⟨s, hs⟩ : ∃ s, sextV v m = s := ⟨_, rfl⟩
  rw [hs] at s1 s2 s3 s4
  have c1 := fun w => sext_any v m h0 h1 w
  have c2 := fun w => sext_any s m s4.1 s4.2 w
  have c3 := fun w => field_any s 0 m s4.1 s4.2 (by omega) w
  have c4 := fun w => field_any v 0 m h0 h1 (by omega) w
  have c5 := fun w => field_any v (m - 1) 1 h0 h1 (by omega) w
  have c6 := fun w => less_any s 0 s4.1 s4.2 (by decide) (by decide) w
  rw [hs] at c1
  rw [s1] at c3
  rw [s2] at c2
  rw [s3] at c6
  clear s1 s2 s3 s4 hs h0 h1
  have C1 := Lib.hid c1
  have C2 := Lib.hid c2
  have C3 := Lib.hid c3
  have C4 := Lib.hid c4
  have C5 := Lib.hid c5
  have C6 := Lib.hid c6
  clear c1 c2 c3 c4 c5 c6
  go_enter Try.func8, Try.ntmps8
  go_wp2_with (first | (go_at_call 9; (first | (with_reducible refine (C1.out _).mono ?_) | (with_reducible refine (C2.out _).mono ?_)); rintro e w' ⟨rfl, rfl⟩) | (go_at_call 11; (first | (with_reducible refine (C3.out _).mono ?_) | (with_reducible refine (C4.out _).mono ?_) | (with_reducible refine (C5.out _).mono ?_)); rintro e w' ⟨rfl, rfl⟩) | (go_at_call 15; (with_reducible refine (C6.out _).mono ?_); rintro e w' ⟨rfl, rfl⟩) | (go_at_call 17; refine (knows_any  _).mono ?_; rintro e w' ⟨rfl, n, rfl⟩))

  go_ret
  exact ⟨rfl, _, rfl⟩
end Go.Proofs.Ytgdfekmfgoaihaa
