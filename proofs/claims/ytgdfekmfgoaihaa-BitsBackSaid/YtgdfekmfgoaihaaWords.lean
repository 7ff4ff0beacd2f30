/- What each function of layer 1 and of its reference answers (words within their bounds), and that both answer the same. -/
import Derived.Test.YtgdfekmfgoaihaaProg
import Derived.Test.YtgdfekmfgoaihaaMath
import Derived.WalkKit
import Derived.Below
import Derived.WalkSmall
import Derived.Deep.QuietTactic
import Derived.BigQuiet
namespace Go.Proofs.Ytgdfekmfgoaihaa
open Go.RowKit
set_option linter.unusedVariables false

theorem ret_int {k : IntKind} {a b : Int} (h : a = b) : Ending.returned (.int k a) = .returned (.int k b) := by rw [h]
theorem ret_bool {a b : Bool} (h : a = b) : Ending.returned (.bool a) = .returned (.bool b) := by rw [h]
theorem ret_three {a b a' b' : Int} {c c' : Bool} (h1 : a = a') (h2 : b = b') (h3 : c = c') : Ending.returned (.tuple #[.int .u32 a, .int .u32 b, .bool c]) = Ending.returned (.tuple #[.int .u32 a', .int .u32 b', .bool c']) := by rw [h1, h2, h3]

theorem signed_any (a : Int) (h0 : 0 ≤ a) (h1 : a < 4294967296) (w : World) :
    Calls Try.prog 40 #[.int .u32 a] w fun e w' => e = .returned (.int .i64 (sg a)) ∧ w = w' := by
  go_enter Try.func40, Try.ntmps40
  go_wp2
  go_ret
  refine ⟨ret_int ?_, rfl⟩
  rw [sg_wrap32 a h0 h1, sg_wrap64 a h0 h1]
theorem rsigned_any (a : Int) (h0 : 0 ≤ a) (h1 : a < 4294967296) (w : World) :
    Calls Try.prog 16 #[.int .u32 a] w fun e w' => e = .returned (.int .i64 (sg a)) ∧ w = w' := by
  go_enter Try.func16, Try.ntmps16
  go_wp2
  go_ret
  refine ⟨ret_int ?_, rfl⟩
  rw [sg_wrap32 a h0 h1, sg_wrap64 a h0 h1]
theorem less_any (a b : Int) (h0 : 0 ≤ a) (h1 : a < 4294967296) (g0 : 0 ≤ b) (g1 : b < 4294967296) (w : World) :
    Calls Try.prog 15 #[.int .u32 a, .int .u32 b] w fun e w' => e = .returned (.bool (decide (sg a < sg b))) ∧ w = w' := by
  go_enter Try.func15, Try.ntmps15
  go_wp2
  go_ret
  refine ⟨ret_bool ?_, rfl⟩
  rw [sg_wrap32 a h0 h1, sg_wrap32 b g0 g1]

/-! Sext, Field, Shift -/
theorem sext_any (v n : Int) (h0 : 0 ≤ v) (h1 : v < 4294967296) (w : World) :
    Calls Try.prog 9 #[.int .u32 v, .int .i64 n] w fun e w' => e = .returned (.int .u32 (sextV v n)) ∧ w = w' := by
  by_cases hn1 : n < 1
  · go_enter Try.func9, Try.ntmps9
    go_wp2
    go_ret
    exact ⟨ret_int (by simp [sextV, hn1]), rfl⟩
  by_cases hn2 : 32 < n
  · go_enter Try.func9, Try.ntmps9
    go_wp2
    go_ret
    exact ⟨ret_int (by simp [sextV, hn2]), rfl⟩
  · have a1 : 1 ≤ n := by omega
    have a2 : n ≤ 32 := by omega
    clear hn1 hn2
    go_enter Try.func9, Try.ntmps9
    go_wp2
    go_ret
    exact ⟨ret_int (sext_code v n a1 a2), rfl⟩
theorem rsext_any (v n : Int) (h0 : 0 ≤ v) (h1 : v < 4294967296) (w : World) :
    Calls Try.prog 10 #[.int .u32 v, .int .i64 n] w fun e w' => e = .returned (.int .u32 (sextV v n)) ∧ w = w' := by
  by_cases hn1 : n < 1
  · go_enter Try.func10, Try.ntmps10
    go_wp2
    go_ret
    exact ⟨ret_int (by simp [sextV, hn1]), rfl⟩
  by_cases hn2 : 32 < n
  · go_enter Try.func10, Try.ntmps10
    go_wp2
    go_ret
    exact ⟨ret_int (by simp [sextV, hn2]), rfl⟩
  · have a1 : 1 ≤ n := by omega
    have a2 : n ≤ 32 := by omega
    clear hn1 hn2
    go_enter Try.func10, Try.ntmps10
    go_wp2
    · go_ret
      exact ⟨ret_int (sext_ref_yes v n h0 h1 a1 a2 (by assumption)), rfl⟩
    · go_ret
      exact ⟨ret_int (sext_ref_no v n h0 h1 a1 a2 (by assumption)), rfl⟩
theorem field_any (v f n : Int) (h0 : 0 ≤ v) (h1 : v < 4294967296) (hn : -9223372036854775808 ≤ n ∧ n ≤ 9223372036854775807) (w : World) :
    Calls Try.prog 11 #[.int .u32 v, .int .i64 f, .int .i64 n] w fun e w' => e = .returned (.int .u32 (fieldV v f n)) ∧ w = w' := by
  by_cases hf : f < 0
  · go_enter Try.func11, Try.ntmps11
    go_wp2
    go_ret
    exact ⟨ret_int (by simp [fieldV, hf]), rfl⟩
  by_cases hn1 : n < 1
  · go_enter Try.func11, Try.ntmps11
    go_wp2
    go_ret
    exact ⟨ret_int (by simp [fieldV, hn1]), rfl⟩
  by_cases hn2 : 32 - n < f
  · go_enter Try.func11, Try.ntmps11
    go_wp2
    go_ret
    exact ⟨ret_int (by simp [fieldV, hn2]), rfl⟩
  · have a0 : 0 ≤ f := by omega
    have a1 : 1 ≤ n := by omega
    have a2 : f ≤ 32 - n := by omega
    clear hf hn1 hn2
    go_enter Try.func11, Try.ntmps11
    go_wp2
    go_ret
    exact ⟨ret_int (field_code v f n h0 h1 a0 a1 a2), rfl⟩
theorem rfield_any (v f n : Int) (h0 : 0 ≤ v) (h1 : v < 4294967296) (hf2 : f ≤ 9223372036854775807) (hn3 : n ≤ 9223372036854775807) (w : World) :
    Calls Try.prog 12 #[.int .u32 v, .int .i64 f, .int .i64 n] w fun e w' => e = .returned (.int .u32 (fieldV v f n)) ∧ w = w' := by
  by_cases hf : f < 0
  · go_enter Try.func12, Try.ntmps12
    go_wp2
    go_ret
    exact ⟨ret_int (by simp [fieldV, hf]), rfl⟩
  by_cases hn1 : n < 1
  · go_enter Try.func12, Try.ntmps12
    go_wp2
    go_ret
    exact ⟨ret_int (by simp [fieldV, hn1]), rfl⟩
  by_cases hf3 : 32 < f
  · go_enter Try.func12, Try.ntmps12
    go_wp2
    go_ret
    exact ⟨ret_int (by simp only [fieldV]; rw [if_pos (by omega)]), rfl⟩
  by_cases hn2 : 32 - f < n
  · go_enter Try.func12, Try.ntmps12
    go_wp2
    go_ret
    exact ⟨ret_int (by simp only [fieldV]; rw [if_pos (by omega)]), rfl⟩
  · have a0 : 0 ≤ f := by omega
    have a1 : 1 ≤ n := by omega
    have a2 : f ≤ 32 - n := by omega
    clear hf hn1 hn2 hf3
    go_enter Try.func12, Try.ntmps12
    go_wp2
    go_ret
    exact ⟨ret_int (field_ref v f n h0 h1 a0 a1 a2), rfl⟩
theorem shift_any (v c k : Int) (h0 : 0 ≤ v) (h1 : v < 4294967296) (g0 : 0 ≤ c) (g1 : c < 4294967296) (w : World) :
    Calls Try.prog 13 #[.int .u32 v, .int .u32 c, .int .i64 k] w fun e w' => e = .returned (.int .u32 (shiftV v c k)) ∧ w = w' := by
  have e1 := u32_31 c g0 g1
  have e2 := sg_wrap32 v h0 h1
  by_cases k0 : k = 0
  · subst k0
    go_enter Try.func13, Try.ntmps13
    go_wp2
    go_ret
    exact ⟨ret_int rfl, rfl⟩
  by_cases k1 : k = 1
  · subst k1
    go_enter Try.func13, Try.ntmps13
    go_wp2
    go_ret
    exact ⟨ret_int rfl, rfl⟩
  by_cases k2 : k = 2
  · subst k2
    go_enter Try.func13, Try.ntmps13
    go_wp2
    go_ret
    exact ⟨ret_int rfl, rfl⟩
  · have f0 : (k == 0) = false := by simpa using k0
    have f1 : (k == 1) = false := by simpa using k1
    have f2 : (k == 2) = false := by simpa using k2
    have e3 : shiftV v c k = 0 := by simp [shiftV, k0, k1, k2]
    rw [e3]
    clear k0 k1 k2 e3
    go_enter Try.func13, Try.ntmps13
    go_wp2
    go_ret
    exact ⟨ret_int rfl, rfl⟩
theorem rshift_any (v c k : Int) (h0 : 0 ≤ v) (h1 : v < 4294967296) (g0 : 0 ≤ c) (g1 : c < 4294967296) (w : World) :
    Calls Try.prog 14 #[.int .u32 v, .int .u32 c, .int .i64 k] w fun e w' => e = .returned (.int .u32 (shiftV v c k)) ∧ w = w' := by
  by_cases k0 : k = 0
  · subst k0
    go_enter Try.func14, Try.ntmps14
    go_wp2
    go_ret
    exact ⟨ret_int (shift_zero v c), rfl⟩
  by_cases k1 : k = 1
  · subst k1
    go_enter Try.func14, Try.ntmps14
    go_wp2
    go_ret
    exact ⟨ret_int (shift_one v c h0 h1), rfl⟩
  by_cases k2 : k = 2
  · subst k2
    go_enter Try.func14, Try.ntmps14
    go_wp2_with (go_at_call 16; refine (rsigned_any _ (by omega) (by omega) _).mono ?_; rintro e w' ⟨rfl, rfl⟩)
    go_ret
    exact ⟨ret_int rfl, rfl⟩
  · have f0 : (k == 0) = false := by simpa using k0
    have f1 : (k == 1) = false := by simpa using k1
    have f2 : (k == 2) = false := by simpa using k2
    have e3 : shiftV v c k = 0 := by simp [shiftV, k0, k1, k2]
    rw [e3]
    clear k0 k1 k2 e3
    go_enter Try.func14, Try.ntmps14
    go_wp2
    go_ret
    exact ⟨ret_int rfl, rfl⟩

/-! products -/
theorem upper_any (a b : Int) (w : World) :
    Calls Try.prog 41 #[.int .i64 a, .int .i64 b] w fun e w' => e = .returned (.int .u32 (a * b / 4294967296 % 4294967296)) ∧ w = w' := by
  go_enter Try.func41, Try.ntmps41
  go_wp2
  go_ret
  exact ⟨ret_int (upper_code _), rfl⟩
theorem mulh_any (a b : Int) (h0 : 0 ≤ a) (h1 : a < 4294967296) (g0 : 0 ≤ b) (g1 : b < 4294967296) (w : World) :
    Calls Try.prog 18 #[.int .u32 a, .int .u32 b] w fun e w' => e = .returned (.int .u32 (mulhV a b)) ∧ w = w' := by
  go_enter Try.func18, Try.ntmps18
  go_wp2_with (go_at_call 40; refine (signed_any _ (by omega) (by omega) _).mono ?_; rintro e w' ⟨rfl, rfl⟩)
  go_ret
  exact ⟨ret_int (upper_code _), rfl⟩
theorem rmulh_any (a b : Int) (h0 : 0 ≤ a) (h1 : a < 4294967296) (g0 : 0 ≤ b) (g1 : b < 4294967296) (w : World) :
    Calls Try.prog 19 #[.int .u32 a, .int .u32 b] w fun e w' => e = .returned (.int .u32 (mulhV a b)) ∧ w = w' := by
  go_enter Try.func19, Try.ntmps19
  go_wp2_with (first | (go_at_call 16; refine (rsigned_any _ (by omega) (by omega) _).mono ?_; rintro e w' ⟨rfl, rfl⟩) | (go_at_call 41; refine (upper_any _ _ _).mono ?_; rintro e w' ⟨rfl, rfl⟩))
  go_ret
  exact ⟨ret_int rfl, rfl⟩
theorem mulhsu_any (a b : Int) (h0 : 0 ≤ a) (h1 : a < 4294967296) (g0 : 0 ≤ b) (g1 : b < 4294967296) (w : World) :
    Calls Try.prog 20 #[.int .u32 a, .int .u32 b] w fun e w' => e = .returned (.int .u32 (mulhsuV a b)) ∧ w = w' := by
  go_enter Try.func20, Try.ntmps20
  go_wp2_with (go_at_call 40; refine (signed_any _ (by omega) (by omega) _).mono ?_; rintro e w' ⟨rfl, rfl⟩)
  go_ret
  exact ⟨ret_int (upper_code _), rfl⟩
theorem rmulhsu_any (a b : Int) (h0 : 0 ≤ a) (h1 : a < 4294967296) (g0 : 0 ≤ b) (g1 : b < 4294967296) (w : World) :
    Calls Try.prog 21 #[.int .u32 a, .int .u32 b] w fun e w' => e = .returned (.int .u32 (mulhsuV a b)) ∧ w = w' := by
  go_enter Try.func21, Try.ntmps21
  go_wp2_with (first | (go_at_call 16; refine (rsigned_any _ (by omega) (by omega) _).mono ?_; rintro e w' ⟨rfl, rfl⟩) | (go_at_call 41; refine (upper_any _ _ _).mono ?_; rintro e w' ⟨rfl, rfl⟩))
  go_ret
  exact ⟨ret_int rfl, rfl⟩
theorem mulhu_any (a b : Int) (h0 : 0 ≤ a) (h1 : a < 4294967296) (g0 : 0 ≤ b) (g1 : b < 4294967296) (w : World) :
    Calls Try.prog 22 #[.int .u32 a, .int .u32 b] w fun e w' => e = .returned (.int .u32 (mulhuV a b)) ∧ w = w' := by
  go_enter Try.func22, Try.ntmps22
  go_wp2
  go_ret
  exact ⟨ret_int (upper_u _), rfl⟩
theorem rmulhu_any (a b : Int) (h0 : 0 ≤ a) (h1 : a < 4294967296) (g0 : 0 ≤ b) (g1 : b < 4294967296) (w : World) :
    Calls Try.prog 23 #[.int .u32 a, .int .u32 b] w fun e w' => e = .returned (.int .u32 (mulhuV a b)) ∧ w = w' := by
  go_enter Try.func23, Try.ntmps23
  go_wp2
  go_ret
  exact ⟨ret_int (upper_u _), rfl⟩
theorem double_any (a b : Int) (h0 : 0 ≤ a) (h1 : a < 4294967296) (g0 : 0 ≤ b) (g1 : b < 4294967296) (w : World) :
    Calls Try.prog 24 #[.int .u32 a, .int .u32 b] w fun e w' => e = .returned (.int .u64 (doubleV a b)) ∧ w = w' := by
  go_enter Try.func24, Try.ntmps24
  go_wp2
  go_ret
  exact ⟨ret_int (u64_join a b h0 h1 g0 g1), rfl⟩
theorem rdouble_any (a b : Int) (h0 : 0 ≤ a) (h1 : a < 4294967296) (g0 : 0 ≤ b) (g1 : b < 4294967296) (w : World) :
    Calls Try.prog 25 #[.int .u32 a, .int .u32 b] w fun e w' => e = .returned (.int .u64 (doubleV a b)) ∧ w = w' := by
  go_enter Try.func25, Try.ntmps25
  go_wp2
  go_ret
  exact ⟨ret_int rfl, rfl⟩

/-! quotients of words -/
theorem div_any (a b : Int) (h0 : 0 ≤ a) (h1 : a < 4294967296) (g0 : 0 ≤ b) (g1 : b < 4294967296) (w : World) :
    Calls Try.prog 26 #[.int .u32 a, .int .u32 b] w fun e w' => e = .returned (.int .u32 (divV a b)) ∧ w = w' := by
  by_cases hb : b = 0
  · subst hb
    go_enter Try.func26, Try.ntmps26
    go_wp2
    go_ret
    exact ⟨ret_int rfl, rfl⟩
  · have hb0 : (b == 0) = false := by simpa using hb
    have hV : divV a b = (sg a).tdiv (sg b) % 4294967296 := by simp [divV, hb]
    have e1 := sg_wrap32 a h0 h1
    have e2 := sg_wrap32 b g0 g1
    have hs := sg_zero b g0 g1 hb
    clear hb
    rw [hV]
    clear hV
    go_enter Try.func26, Try.ntmps26
    go_wp2
    go_ret
    exact ⟨ret_int (wrap32_mod _), rfl⟩
theorem rdiv_any (a b : Int) (h0 : 0 ≤ a) (h1 : a < 4294967296) (g0 : 0 ≤ b) (g1 : b < 4294967296) (w : World) :
    Calls Try.prog 27 #[.int .u32 a, .int .u32 b] w fun e w' => e = .returned (.int .u32 (divV a b)) ∧ w = w' := by
  by_cases hb : b = 0
  · subst hb
    go_enter Try.func27, Try.ntmps27
    go_wp2
    go_ret
    exact ⟨ret_int rfl, rfl⟩
  · have hb0 : (b == 0) = false := by simpa using hb
    have hV : divV a b = (sg a).tdiv (sg b) % 4294967296 := by simp [divV, hb]
    have hs := sg_zero b g0 g1 hb
    clear hb
    rw [hV]
    clear hV
    go_enter Try.func27, Try.ntmps27
    go_wp2_with (go_at_call 16; refine (rsigned_any _ (by omega) (by omega) _).mono ?_; rintro e w' ⟨rfl, rfl⟩)
    go_ret
    exact ⟨ret_int (wrap64_mod _), rfl⟩
theorem rem_any (a b : Int) (h0 : 0 ≤ a) (h1 : a < 4294967296) (g0 : 0 ≤ b) (g1 : b < 4294967296) (w : World) :
    Calls Try.prog 30 #[.int .u32 a, .int .u32 b] w fun e w' => e = .returned (.int .u32 (remV a b)) ∧ w = w' := by
  by_cases hb : b = 0
  · subst hb
    go_enter Try.func30, Try.ntmps30
    go_wp2
    go_ret
    exact ⟨ret_int rfl, rfl⟩
  · have hb0 : (b == 0) = false := by simpa using hb
    have hV : remV a b = (sg a).tmod (sg b) % 4294967296 := by simp [remV, hb]
    have e1 := sg_wrap32 a h0 h1
    have e2 := sg_wrap32 b g0 g1
    have hs := sg_zero b g0 g1 hb
    clear hb
    rw [hV]
    clear hV
    go_enter Try.func30, Try.ntmps30
    go_wp2
    go_ret
    exact ⟨ret_int rfl, rfl⟩
theorem rrem_any (a b : Int) (h0 : 0 ≤ a) (h1 : a < 4294967296) (g0 : 0 ≤ b) (g1 : b < 4294967296) (w : World) :
    Calls Try.prog 31 #[.int .u32 a, .int .u32 b] w fun e w' => e = .returned (.int .u32 (remV a b)) ∧ w = w' := by
  by_cases hb : b = 0
  · subst hb
    go_enter Try.func31, Try.ntmps31
    go_wp2
    go_ret
    exact ⟨ret_int rfl, rfl⟩
  · have hb0 : (b == 0) = false := by simpa using hb
    have hV : remV a b = (sg a).tmod (sg b) % 4294967296 := by simp [remV, hb]
    have hs := sg_zero b g0 g1 hb
    clear hb
    rw [hV]
    clear hV
    go_enter Try.func31, Try.ntmps31
    go_wp2_with (go_at_call 16; refine (rsigned_any _ (by omega) (by omega) _).mono ?_; rintro e w' ⟨rfl, rfl⟩)
    go_ret
    exact ⟨ret_int rfl, rfl⟩
theorem divu_any (a b : Int) (h0 : 0 ≤ a) (h1 : a < 4294967296) (g0 : 0 ≤ b) (g1 : b < 4294967296) (w : World) :
    Calls Try.prog 28 #[.int .u32 a, .int .u32 b] w fun e w' => e = .returned (.int .u32 (divuV a b)) ∧ w = w' := by
  by_cases hb : b = 0
  · subst hb
    go_enter Try.func28, Try.ntmps28
    go_wp2
    go_ret
    exact ⟨ret_int rfl, rfl⟩
  · have hb0 : (b == 0) = false := by simpa using hb
    have hV : divuV a b = a / b := by simp [divuV, hb]
    rw [hV]
    clear hV
    go_enter Try.func28, Try.ntmps28
    go_wp2
    go_ret
    exact ⟨ret_int rfl, rfl⟩
theorem rdivu_any (a b : Int) (h0 : 0 ≤ a) (h1 : a < 4294967296) (g0 : 0 ≤ b) (g1 : b < 4294967296) (w : World) :
    Calls Try.prog 29 #[.int .u32 a, .int .u32 b] w fun e w' => e = .returned (.int .u32 (divuV a b)) ∧ w = w' := by
  by_cases hb : b = 0
  · subst hb
    go_enter Try.func29, Try.ntmps29
    go_wp2
    go_ret
    exact ⟨ret_int rfl, rfl⟩
  · have hb0 : (b == 0) = false := by simpa using hb
    have hV : divuV a b = a / b := by simp [divuV, hb]
    rw [hV]
    clear hV
    go_enter Try.func29, Try.ntmps29
    go_wp2
    go_ret
    exact ⟨ret_int rfl, rfl⟩
theorem remu_any (a b : Int) (h0 : 0 ≤ a) (h1 : a < 4294967296) (g0 : 0 ≤ b) (g1 : b < 4294967296) (w : World) :
    Calls Try.prog 32 #[.int .u32 a, .int .u32 b] w fun e w' => e = .returned (.int .u32 (remuV a b)) ∧ w = w' := by
  by_cases hb : b = 0
  · subst hb
    go_enter Try.func32, Try.ntmps32
    go_wp2
    go_ret
    exact ⟨ret_int rfl, rfl⟩
  · have hb0 : (b == 0) = false := by simpa using hb
    have hV : remuV a b = a % b := by simp [remuV, hb]
    rw [hV]
    clear hV
    go_enter Try.func32, Try.ntmps32
    go_wp2
    go_ret
    exact ⟨ret_int rfl, rfl⟩
theorem rremu_any (a b : Int) (h0 : 0 ≤ a) (h1 : a < 4294967296) (g0 : 0 ≤ b) (g1 : b < 4294967296) (w : World) :
    Calls Try.prog 33 #[.int .u32 a, .int .u32 b] w fun e w' => e = .returned (.int .u32 (remuV a b)) ∧ w = w' := by
  by_cases hb : b = 0
  · subst hb
    go_enter Try.func33, Try.ntmps33
    go_wp2
    go_ret
    exact ⟨ret_int rfl, rfl⟩
  · have hb0 : (b == 0) = false := by simpa using hb
    have hV : remuV a b = a % b := by simp [remuV, hb]
    rw [hV]
    clear hV
    go_enter Try.func33, Try.ntmps33
    go_wp2
    go_ret
    exact ⟨ret_int rfl, rfl⟩
end Go.Proofs.Ytgdfekmfgoaihaa
