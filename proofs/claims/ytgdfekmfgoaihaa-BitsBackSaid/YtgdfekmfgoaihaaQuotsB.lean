/- The quotients of double words: code and reference answer the same, for every double word and every divisor. -/
import Derived.Test.YtgdfekmfgoaihaaQuots
namespace Go.Proofs.Ytgdfekmfgoaihaa
open Go.RowKit
set_option linter.unusedVariables false

theorem neg_min (n : Int) (h : n = -9223372036854775808) : (n == wrap64 (-n)) = true := by subst h; rw [beq_iff_eq]; unfold wrap64; omega
theorem neg_not (n : Int) (h0 : ¬ n = 0) (h1 : -9223372036854775808 < n) (h2 : n ≤ 9223372036854775807) : (n == wrap64 (-n)) = false := by
  rw [beq_eq_false_iff_ne]; unfold wrap64; omega
theorem sm_good (v d : Int) (hd : ¬ d = 0) (a : -2147483648 ≤ (wrap64 v).tdiv (sg d)) (b : (wrap64 v).tdiv (sg d) ≤ 2147483647) : smQ v d = (wrap64 v).tdiv (sg d) % 4294967296 ∧ smR v d = (wrap64 v).tmod (sg d) % 4294967296 ∧ smBad v d = false := by
  have h : smBad v d = false := by simp only [smBad, decide_eq_false_iff_not]; omega
  exact ⟨by simp only [smQ, h]; simp, by simp only [smR, h]; simp, h⟩
theorem sm_none (v d : Int) (a : d = 0 ∨ (wrap64 v).tdiv (sg d) < -2147483648 ∨ 2147483647 < (wrap64 v).tdiv (sg d)) : smQ v d = 0 ∧ smR v d = 0 ∧ smBad v d = true := by
  have h : smBad v d = true := by simp only [smBad, decide_eq_true_eq]; exact a
  exact ⟨by simp only [smQ, h]; simp, by simp only [smR, h]; simp, h⟩
theorem fm_good (v d t : Int) (hd : ¬ d = 0) (ht : down (wrap64 v) (sg d) = t) (a : -2147483648 ≤ (wrap64 v).tdiv (sg d) - t) (b : (wrap64 v).tdiv (sg d) - t ≤ 2147483647) :
    fmQ v d = ((wrap64 v).tdiv (sg d) - t) % 4294967296 ∧ fmR v d = ((wrap64 v).tmod (sg d) + t * sg d) % 4294967296 ∧ fmBad v d = false := by
  have h : fmBad v d = false := by simp only [fmBad, decide_eq_false_iff_not, ht]; omega
  exact ⟨by simp only [fmQ, h, ht]; simp, by simp only [fmR, h, ht]; simp, h⟩
theorem fm_none (v d t : Int) (ht : down (wrap64 v) (sg d) = t) (a : d = 0 ∨ (wrap64 v).tdiv (sg d) - t < -2147483648 ∨ 2147483647 < (wrap64 v).tdiv (sg d) - t) : fmQ v d = 0 ∧ fmR v d = 0 ∧ fmBad v d = true := by
  have h : fmBad v d = true := by simp only [fmBad, decide_eq_true_eq, ht]; exact a
  exact ⟨by simp only [fmQ, h]; simp, by simp only [fmR, h]; simp, h⟩
theorem down_z (n s : Int) (h : n.tmod s = 0) : down n s = 0 := by simp [down, h]
theorem down_same (n s : Int) (h : n < 0 ↔ s < 0) : down n s = 0 := by
  unfold down; rw [if_neg]; intro hh; exact hh.2 h
theorem down_one (n s : Int) (h0 : ¬ n.tmod s = 0) (h : ¬(n < 0 ↔ s < 0)) : down n s = 1 := by
  unfold down; rw [if_pos]; exact ⟨h0, h⟩
/-! the reference, symmetric -/
theorem rsm_xn (v d n s q r : Int) (h0 : 0 ≤ v) (h1 : v ≤ 18446744073709551615) (g0 : 0 ≤ d) (g1 : d < 4294967296) (hd0 : (d == 0) = false) (hn : wrap64 v = n) (hs : sg d = s) (hs0 : ¬ s = 0)
    (hs1 : -2147483648 ≤ s) (hs2 : s ≤ 2147483647) (hq : wrap64 (n.tdiv s) = q) (hr : n.tmod s = r) (q0 : -2147483648 ≤ q) (q1 : q ≤ 2147483647) (hx : n < 0) (hxb : decide (n < 0) = true) (hb : (n == wrap64 (-n)) = false) (w : World) :
    Calls Try.prog 37 #[.int .u64 v, .int .u32 d] w (Ret3 (q % 4294967296) (r % 4294967296) true w) := by
  go_enter Try.func37, Try.ntmps37
  go_wp2_with (go_at_call 16; refine (rsigned_any _ (by omega) (by omega) _).mono ?_; rintro e w' ⟨rfl, rfl⟩)
  go_quiet ((go_at_call 16; exact Calls.quiet_of_same ((rsigned_any _ (by omega) (by omega) _).mono fun _ _ ⟨a, b⟩ => ⟨a, b.symm⟩)))
  go_wp2
  go_ret3
  exact ⟨ret_three rfl rfl rfl, nq, rfl⟩
theorem rsm_xp (v d n s q r : Int) (h0 : 0 ≤ v) (h1 : v ≤ 18446744073709551615) (g0 : 0 ≤ d) (g1 : d < 4294967296) (hd0 : (d == 0) = false) (hn : wrap64 v = n) (hs : sg d = s) (hs0 : ¬ s = 0)
    (hs1 : -2147483648 ≤ s) (hs2 : s ≤ 2147483647) (hq : wrap64 (n.tdiv s) = q) (hr : n.tmod s = r) (q0 : -2147483648 ≤ q) (q1 : q ≤ 2147483647) (hx : 0 < n) (hxb : decide (n < 0) = false) (hb : (n == wrap64 (-n)) = false) (w : World) :
    Calls Try.prog 37 #[.int .u64 v, .int .u32 d] w (Ret3 (q % 4294967296) (r % 4294967296) true w) := by
  go_enter Try.func37, Try.ntmps37
  go_wp2_with (go_at_call 16; refine (rsigned_any _ (by omega) (by omega) _).mono ?_; rintro e w' ⟨rfl, rfl⟩)
  go_quiet ((go_at_call 16; exact Calls.quiet_of_same ((rsigned_any _ (by omega) (by omega) _).mono fun _ _ ⟨a, b⟩ => ⟨a, b.symm⟩)))
  go_wp2
  go_ret3
  exact ⟨ret_three rfl rfl rfl, nq, rfl⟩
theorem rsm_xm (v d n s q r : Int) (h0 : 0 ≤ v) (h1 : v ≤ 18446744073709551615) (g0 : 0 ≤ d) (g1 : d < 4294967296) (hd0 : (d == 0) = false) (hn : wrap64 v = n) (hs : sg d = s) (hs0 : ¬ s = 0)
    (hs1 : -2147483648 ≤ s) (hs2 : s ≤ 2147483647) (hq : wrap64 (n.tdiv s) = q) (hr : n.tmod s = r) (q0 : -2147483648 ≤ q) (q1 : q ≤ 2147483647) (hx : n < 0) (hxb : decide (n < 0) = true) (hb : (n == wrap64 (-n)) = true) (hm : (s == -1) = false) (w : World) :
    Calls Try.prog 37 #[.int .u64 v, .int .u32 d] w (Ret3 (q % 4294967296) (r % 4294967296) true w) := by
  go_enter Try.func37, Try.ntmps37
  go_wp2_with (go_at_call 16; refine (rsigned_any _ (by omega) (by omega) _).mono ?_; rintro e w' ⟨rfl, rfl⟩)
  go_quiet ((go_at_call 16; exact Calls.quiet_of_same ((rsigned_any _ (by omega) (by omega) _).mono fun _ _ ⟨a, b⟩ => ⟨a, b.symm⟩)))
  go_wp2
  go_ret3
  exact ⟨ret_three rfl rfl rfl, nq, rfl⟩
theorem rsm_x0 (v d s : Int) (h0 : 0 ≤ v) (h1 : v ≤ 18446744073709551615) (g0 : 0 ≤ d) (g1 : d < 4294967296) (hd0 : (d == 0) = false) (hn : wrap64 v = 0) (hs : sg d = s) (hs0 : ¬ s = 0) (w : World) :
    Calls Try.prog 37 #[.int .u64 v, .int .u32 d] w (Ret3 0 0 true w) := by
  go_enter Try.func37, Try.ntmps37
  go_wp2_with (go_at_call 16; refine (rsigned_any _ (by omega) (by omega) _).mono ?_; rintro e w' ⟨rfl, rfl⟩)
  go_quiet ((go_at_call 16; exact Calls.quiet_of_same ((rsigned_any _ (by omega) (by omega) _).mono fun _ _ ⟨a, b⟩ => ⟨a, b.symm⟩)))
  go_wp2
  go_ret3
  exact ⟨ret_three rfl rfl rfl, nq, rfl⟩
theorem rsm_lo (v d n s q : Int) (h0 : 0 ≤ v) (h1 : v ≤ 18446744073709551615) (g0 : 0 ≤ d) (g1 : d < 4294967296) (hd0 : (d == 0) = false) (hn : wrap64 v = n) (hs : sg d = s) (hs0 : ¬ s = 0)
    (hs1 : -2147483648 ≤ s) (hs2 : s ≤ 2147483647) (hq : wrap64 (n.tdiv s) = q) (q0 : q < -2147483648) (w : World) :
    Calls Try.prog 37 #[.int .u64 v, .int .u32 d] w (Ret3 0 0 false w) := by
  go_enter Try.func37, Try.ntmps37
  go_wp2_with (go_at_call 16; refine (rsigned_any _ (by omega) (by omega) _).mono ?_; rintro e w' ⟨rfl, rfl⟩)
  go_ret3
  exact Ret3.same rfl
theorem rsm_hi (v d n s q : Int) (h0 : 0 ≤ v) (h1 : v ≤ 18446744073709551615) (g0 : 0 ≤ d) (g1 : d < 4294967296) (hd0 : (d == 0) = false) (hn : wrap64 v = n) (hs : sg d = s) (hs0 : ¬ s = 0)
    (hs1 : -2147483648 ≤ s) (hs2 : s ≤ 2147483647) (hq : wrap64 (n.tdiv s) = q) (q0 : 2147483647 < q) (w : World) :
    Calls Try.prog 37 #[.int .u64 v, .int .u32 d] w (Ret3 0 0 false w) := by
  go_enter Try.func37, Try.ntmps37
  go_wp2_with (go_at_call 16; refine (rsigned_any _ (by omega) (by omega) _).mono ?_; rintro e w' ⟨rfl, rfl⟩)
  go_ret3
  exact Ret3.same rfl
/-! the reference, floored -/
theorem rfm_x0 (v d s : Int) (h0 : 0 ≤ v) (h1 : v ≤ 18446744073709551615) (g0 : 0 ≤ d) (g1 : d < 4294967296) (hd0 : (d == 0) = false) (hn : wrap64 v = 0) (hs : sg d = s) (hs0 : ¬ s = 0) (w : World) :
    Calls Try.prog 39 #[.int .u64 v, .int .u32 d] w (Ret3 0 0 true w) := by
  go_enter Try.func39, Try.ntmps39
  go_wp2_with (go_at_call 16; refine (rsigned_any _ (by omega) (by omega) _).mono ?_; rintro e w' ⟨rfl, rfl⟩)
  go_ret3
  exact Ret3.same (ret_three rfl (by first | rfl | omega) rfl)
theorem rfm_bad (v d n s : Int) (h0 : 0 ≤ v) (h1 : v ≤ 18446744073709551615) (g0 : 0 ≤ d) (g1 : d < 4294967296) (hd0 : (d == 0) = false) (hn : wrap64 v = n) (hs : sg d = s) (hs0 : ¬ s = 0) (hx : n < 0) (hxb : decide (n < 0) = true) (hb : (n == wrap64 (-n)) = true) (hm : (s == -1) = true) (w : World) :
    Calls Try.prog 39 #[.int .u64 v, .int .u32 d] w (Ret3 0 0 false w) := by
  go_enter Try.func39, Try.ntmps39
  go_wp2_with (go_at_call 16; refine (rsigned_any _ (by omega) (by omega) _).mono ?_; rintro e w' ⟨rfl, rfl⟩)
  go_ret3
  exact Ret3.same rfl
theorem rfm_xn_z (v d n s q : Int) (h0 : 0 ≤ v) (h1 : v ≤ 18446744073709551615) (g0 : 0 ≤ d) (g1 : d < 4294967296) (hd0 : (d == 0) = false) (hn : wrap64 v = n) (hs : sg d = s) (hs0 : ¬ s = 0)
    (hs1 : -2147483648 ≤ s) (hs2 : s ≤ 2147483647) (hq : wrap64 (n.tdiv s) = q) (hx : n < 0) (hxb : decide (n < 0) = true) (hb : (n == wrap64 (-n)) = false) (hr : n.tmod s = 0) (q0 : -2147483648 ≤ q) (q1 : q ≤ 2147483647) (w : World) :
    Calls Try.prog 39 #[.int .u64 v, .int .u32 d] w (Ret3 (q % 4294967296) 0 true w) := by
  go_enter Try.func39, Try.ntmps39
  go_wp2_with (go_at_call 16; refine (rsigned_any _ (by omega) (by omega) _).mono ?_; rintro e w' ⟨rfl, rfl⟩)
  go_ret3
  exact Ret3.same (ret_three rfl (by first | rfl | omega) rfl)
theorem rfm_xn_z_lo (v d n s q : Int) (h0 : 0 ≤ v) (h1 : v ≤ 18446744073709551615) (g0 : 0 ≤ d) (g1 : d < 4294967296) (hd0 : (d == 0) = false) (hn : wrap64 v = n) (hs : sg d = s) (hs0 : ¬ s = 0)
    (hs1 : -2147483648 ≤ s) (hs2 : s ≤ 2147483647) (hq : wrap64 (n.tdiv s) = q) (hx : n < 0) (hxb : decide (n < 0) = true) (hb : (n == wrap64 (-n)) = false) (hr : n.tmod s = 0) (q2 : -9223372036854775808 ≤ q) (q0 : q < -2147483648) (w : World) :
    Calls Try.prog 39 #[.int .u64 v, .int .u32 d] w (Ret3 0 0 false w) := by
  go_enter Try.func39, Try.ntmps39
  go_wp2_with (go_at_call 16; refine (rsigned_any _ (by omega) (by omega) _).mono ?_; rintro e w' ⟨rfl, rfl⟩)
  go_ret3
  exact Ret3.same (ret_three rfl (by first | rfl | omega) rfl)
theorem rfm_xn_z_hi (v d n s q : Int) (h0 : 0 ≤ v) (h1 : v ≤ 18446744073709551615) (g0 : 0 ≤ d) (g1 : d < 4294967296) (hd0 : (d == 0) = false) (hn : wrap64 v = n) (hs : sg d = s) (hs0 : ¬ s = 0)
    (hs1 : -2147483648 ≤ s) (hs2 : s ≤ 2147483647) (hq : wrap64 (n.tdiv s) = q) (hx : n < 0) (hxb : decide (n < 0) = true) (hb : (n == wrap64 (-n)) = false) (hr : n.tmod s = 0) (q3 : q ≤ 9223372036854775807) (q0 : 2147483647 < q) (w : World) :
    Calls Try.prog 39 #[.int .u64 v, .int .u32 d] w (Ret3 0 0 false w) := by
  go_enter Try.func39, Try.ntmps39
  go_wp2_with (go_at_call 16; refine (rsigned_any _ (by omega) (by omega) _).mono ?_; rintro e w' ⟨rfl, rfl⟩)
  go_ret3
  exact Ret3.same (ret_three rfl (by first | rfl | omega) rfl)
theorem rfm_xn_n (v d n s q r : Int) (h0 : 0 ≤ v) (h1 : v ≤ 18446744073709551615) (g0 : 0 ≤ d) (g1 : d < 4294967296) (hd0 : (d == 0) = false) (hn : wrap64 v = n) (hs : sg d = s) (hs0 : ¬ s = 0)
    (hs1 : -2147483648 ≤ s) (hs2 : s ≤ 2147483647) (hq : wrap64 (n.tdiv s) = q) (hr1 : -2147483648 ≤ r) (hr2 : r ≤ 2147483648) (hx : n < 0) (hxb : decide (n < 0) = true) (hb : (n == wrap64 (-n)) = false) (hr : n.tmod s = r) (hr0 : (r != 0) = true) (hry : r < 0) (hrb : decide (r < 0) = true) (hy : s < 0) (hyb : decide (s < 0) = true) (q0 : -2147483648 ≤ q) (q1 : q ≤ 2147483647) (w : World) :
    Calls Try.prog 39 #[.int .u64 v, .int .u32 d] w (Ret3 (q % 4294967296) (r % 4294967296) true w) := by
  go_enter Try.func39, Try.ntmps39
  go_wp2_with (go_at_call 16; refine (rsigned_any _ (by omega) (by omega) _).mono ?_; rintro e w' ⟨rfl, rfl⟩)
  go_ret3
  exact Ret3.same (ret_three rfl (by first | rfl | omega) rfl)
theorem rfm_xn_n_lo (v d n s q r : Int) (h0 : 0 ≤ v) (h1 : v ≤ 18446744073709551615) (g0 : 0 ≤ d) (g1 : d < 4294967296) (hd0 : (d == 0) = false) (hn : wrap64 v = n) (hs : sg d = s) (hs0 : ¬ s = 0)
    (hs1 : -2147483648 ≤ s) (hs2 : s ≤ 2147483647) (hq : wrap64 (n.tdiv s) = q) (hr1 : -2147483648 ≤ r) (hr2 : r ≤ 2147483648) (hx : n < 0) (hxb : decide (n < 0) = true) (hb : (n == wrap64 (-n)) = false) (hr : n.tmod s = r) (hr0 : (r != 0) = true) (hry : r < 0) (hrb : decide (r < 0) = true) (hy : s < 0) (hyb : decide (s < 0) = true) (q2 : -9223372036854775808 ≤ q) (q0 : q < -2147483648) (w : World) :
    Calls Try.prog 39 #[.int .u64 v, .int .u32 d] w (Ret3 0 0 false w) := by
  go_enter Try.func39, Try.ntmps39
  go_wp2_with (go_at_call 16; refine (rsigned_any _ (by omega) (by omega) _).mono ?_; rintro e w' ⟨rfl, rfl⟩)
  go_ret3
  exact Ret3.same (ret_three rfl (by first | rfl | omega) rfl)
theorem rfm_xn_n_hi (v d n s q r : Int) (h0 : 0 ≤ v) (h1 : v ≤ 18446744073709551615) (g0 : 0 ≤ d) (g1 : d < 4294967296) (hd0 : (d == 0) = false) (hn : wrap64 v = n) (hs : sg d = s) (hs0 : ¬ s = 0)
    (hs1 : -2147483648 ≤ s) (hs2 : s ≤ 2147483647) (hq : wrap64 (n.tdiv s) = q) (hr1 : -2147483648 ≤ r) (hr2 : r ≤ 2147483648) (hx : n < 0) (hxb : decide (n < 0) = true) (hb : (n == wrap64 (-n)) = false) (hr : n.tmod s = r) (hr0 : (r != 0) = true) (hry : r < 0) (hrb : decide (r < 0) = true) (hy : s < 0) (hyb : decide (s < 0) = true) (q3 : q ≤ 9223372036854775807) (q0 : 2147483647 < q) (w : World) :
    Calls Try.prog 39 #[.int .u64 v, .int .u32 d] w (Ret3 0 0 false w) := by
  go_enter Try.func39, Try.ntmps39
  go_wp2_with (go_at_call 16; refine (rsigned_any _ (by omega) (by omega) _).mono ?_; rintro e w' ⟨rfl, rfl⟩)
  go_ret3
  exact Ret3.same (ret_three rfl (by first | rfl | omega) rfl)
theorem rfm_xn_p (v d n s q r : Int) (h0 : 0 ≤ v) (h1 : v ≤ 18446744073709551615) (g0 : 0 ≤ d) (g1 : d < 4294967296) (hd0 : (d == 0) = false) (hn : wrap64 v = n) (hs : sg d = s) (hs0 : ¬ s = 0)
    (hs1 : -2147483648 ≤ s) (hs2 : s ≤ 2147483647) (hq : wrap64 (n.tdiv s) = q) (hr1 : -2147483648 ≤ r) (hr2 : r ≤ 2147483648) (hx : n < 0) (hxb : decide (n < 0) = true) (hb : (n == wrap64 (-n)) = false) (hr : n.tmod s = r) (hr0 : (r != 0) = true) (hry : r < 0) (hrb : decide (r < 0) = true) (hy : 0 ≤ s) (hyb : decide (s < 0) = false) (q0 : -2147483648 ≤ q - 1) (q1 : q - 1 ≤ 2147483647) (w : World) :
    Calls Try.prog 39 #[.int .u64 v, .int .u32 d] w (Ret3 ((q - 1) % 4294967296) ((r + s) % 4294967296) true w) := by
  go_enter Try.func39, Try.ntmps39
  go_wp2_with (go_at_call 16; refine (rsigned_any _ (by omega) (by omega) _).mono ?_; rintro e w' ⟨rfl, rfl⟩)
  go_ret3
  exact Ret3.same (ret_three rfl (by first | rfl | omega) rfl)
theorem rfm_xn_p_lo (v d n s q r : Int) (h0 : 0 ≤ v) (h1 : v ≤ 18446744073709551615) (g0 : 0 ≤ d) (g1 : d < 4294967296) (hd0 : (d == 0) = false) (hn : wrap64 v = n) (hs : sg d = s) (hs0 : ¬ s = 0)
    (hs1 : -2147483648 ≤ s) (hs2 : s ≤ 2147483647) (hq : wrap64 (n.tdiv s) = q) (hr1 : -2147483648 ≤ r) (hr2 : r ≤ 2147483648) (hx : n < 0) (hxb : decide (n < 0) = true) (hb : (n == wrap64 (-n)) = false) (hr : n.tmod s = r) (hr0 : (r != 0) = true) (hry : r < 0) (hrb : decide (r < 0) = true) (hy : 0 ≤ s) (hyb : decide (s < 0) = false) (q2 : -9223372036854775808 ≤ q - 1) (q0 : q - 1 < -2147483648) (w : World) :
    Calls Try.prog 39 #[.int .u64 v, .int .u32 d] w (Ret3 0 0 false w) := by
  go_enter Try.func39, Try.ntmps39
  go_wp2_with (go_at_call 16; refine (rsigned_any _ (by omega) (by omega) _).mono ?_; rintro e w' ⟨rfl, rfl⟩)
  go_ret3
  exact Ret3.same (ret_three rfl (by first | rfl | omega) rfl)
theorem rfm_xn_p_hi (v d n s q r : Int) (h0 : 0 ≤ v) (h1 : v ≤ 18446744073709551615) (g0 : 0 ≤ d) (g1 : d < 4294967296) (hd0 : (d == 0) = false) (hn : wrap64 v = n) (hs : sg d = s) (hs0 : ¬ s = 0)
    (hs1 : -2147483648 ≤ s) (hs2 : s ≤ 2147483647) (hq : wrap64 (n.tdiv s) = q) (hr1 : -2147483648 ≤ r) (hr2 : r ≤ 2147483648) (hx : n < 0) (hxb : decide (n < 0) = true) (hb : (n == wrap64 (-n)) = false) (hr : n.tmod s = r) (hr0 : (r != 0) = true) (hry : r < 0) (hrb : decide (r < 0) = true) (hy : 0 ≤ s) (hyb : decide (s < 0) = false) (q3 : q ≤ 9223372036854775807) (q0 : 2147483647 < q - 1) (w : World) :
    Calls Try.prog 39 #[.int .u64 v, .int .u32 d] w (Ret3 0 0 false w) := by
  go_enter Try.func39, Try.ntmps39
  go_wp2_with (go_at_call 16; refine (rsigned_any _ (by omega) (by omega) _).mono ?_; rintro e w' ⟨rfl, rfl⟩)
  go_ret3
  exact Ret3.same (ret_three rfl (by first | rfl | omega) rfl)
theorem rfm_xp_z (v d n s q : Int) (h0 : 0 ≤ v) (h1 : v ≤ 18446744073709551615) (g0 : 0 ≤ d) (g1 : d < 4294967296) (hd0 : (d == 0) = false) (hn : wrap64 v = n) (hs : sg d = s) (hs0 : ¬ s = 0)
    (hs1 : -2147483648 ≤ s) (hs2 : s ≤ 2147483647) (hq : wrap64 (n.tdiv s) = q) (hx : 0 < n) (hxb : decide (n < 0) = false) (hb : (n == wrap64 (-n)) = false) (hr : n.tmod s = 0) (q0 : -2147483648 ≤ q) (q1 : q ≤ 2147483647) (w : World) :
    Calls Try.prog 39 #[.int .u64 v, .int .u32 d] w (Ret3 (q % 4294967296) 0 true w) := by
  go_enter Try.func39, Try.ntmps39
  go_wp2_with (go_at_call 16; refine (rsigned_any _ (by omega) (by omega) _).mono ?_; rintro e w' ⟨rfl, rfl⟩)
  go_ret3
  exact Ret3.same (ret_three rfl (by first | rfl | omega) rfl)
theorem rfm_xp_z_lo (v d n s q : Int) (h0 : 0 ≤ v) (h1 : v ≤ 18446744073709551615) (g0 : 0 ≤ d) (g1 : d < 4294967296) (hd0 : (d == 0) = false) (hn : wrap64 v = n) (hs : sg d = s) (hs0 : ¬ s = 0)
    (hs1 : -2147483648 ≤ s) (hs2 : s ≤ 2147483647) (hq : wrap64 (n.tdiv s) = q) (hx : 0 < n) (hxb : decide (n < 0) = false) (hb : (n == wrap64 (-n)) = false) (hr : n.tmod s = 0) (q2 : -9223372036854775808 ≤ q) (q0 : q < -2147483648) (w : World) :
    Calls Try.prog 39 #[.int .u64 v, .int .u32 d] w (Ret3 0 0 false w) := by
  go_enter Try.func39, Try.ntmps39
  go_wp2_with (go_at_call 16; refine (rsigned_any _ (by omega) (by omega) _).mono ?_; rintro e w' ⟨rfl, rfl⟩)
  go_ret3
  exact Ret3.same (ret_three rfl (by first | rfl | omega) rfl)
theorem rfm_xp_z_hi (v d n s q : Int) (h0 : 0 ≤ v) (h1 : v ≤ 18446744073709551615) (g0 : 0 ≤ d) (g1 : d < 4294967296) (hd0 : (d == 0) = false) (hn : wrap64 v = n) (hs : sg d = s) (hs0 : ¬ s = 0)
    (hs1 : -2147483648 ≤ s) (hs2 : s ≤ 2147483647) (hq : wrap64 (n.tdiv s) = q) (hx : 0 < n) (hxb : decide (n < 0) = false) (hb : (n == wrap64 (-n)) = false) (hr : n.tmod s = 0) (q3 : q ≤ 9223372036854775807) (q0 : 2147483647 < q) (w : World) :
    Calls Try.prog 39 #[.int .u64 v, .int .u32 d] w (Ret3 0 0 false w) := by
  go_enter Try.func39, Try.ntmps39
  go_wp2_with (go_at_call 16; refine (rsigned_any _ (by omega) (by omega) _).mono ?_; rintro e w' ⟨rfl, rfl⟩)
  go_ret3
  exact Ret3.same (ret_three rfl (by first | rfl | omega) rfl)
theorem rfm_xp_n (v d n s q r : Int) (h0 : 0 ≤ v) (h1 : v ≤ 18446744073709551615) (g0 : 0 ≤ d) (g1 : d < 4294967296) (hd0 : (d == 0) = false) (hn : wrap64 v = n) (hs : sg d = s) (hs0 : ¬ s = 0)
    (hs1 : -2147483648 ≤ s) (hs2 : s ≤ 2147483647) (hq : wrap64 (n.tdiv s) = q) (hr1 : -2147483648 ≤ r) (hr2 : r ≤ 2147483648) (hx : 0 < n) (hxb : decide (n < 0) = false) (hb : (n == wrap64 (-n)) = false) (hr : n.tmod s = r) (hr0 : (r != 0) = true) (hry : 0 < r) (hrb : decide (r < 0) = false) (hy : s < 0) (hyb : decide (s < 0) = true) (q0 : -2147483648 ≤ q - 1) (q1 : q - 1 ≤ 2147483647) (w : World) :
    Calls Try.prog 39 #[.int .u64 v, .int .u32 d] w (Ret3 ((q - 1) % 4294967296) ((r + s) % 4294967296) true w) := by
  go_enter Try.func39, Try.ntmps39
  go_wp2_with (go_at_call 16; refine (rsigned_any _ (by omega) (by omega) _).mono ?_; rintro e w' ⟨rfl, rfl⟩)
  go_ret3
  exact Ret3.same (ret_three rfl (by first | rfl | omega) rfl)
theorem rfm_xp_n_lo (v d n s q r : Int) (h0 : 0 ≤ v) (h1 : v ≤ 18446744073709551615) (g0 : 0 ≤ d) (g1 : d < 4294967296) (hd0 : (d == 0) = false) (hn : wrap64 v = n) (hs : sg d = s) (hs0 : ¬ s = 0)
    (hs1 : -2147483648 ≤ s) (hs2 : s ≤ 2147483647) (hq : wrap64 (n.tdiv s) = q) (hr1 : -2147483648 ≤ r) (hr2 : r ≤ 2147483648) (hx : 0 < n) (hxb : decide (n < 0) = false) (hb : (n == wrap64 (-n)) = false) (hr : n.tmod s = r) (hr0 : (r != 0) = true) (hry : 0 < r) (hrb : decide (r < 0) = false) (hy : s < 0) (hyb : decide (s < 0) = true) (q2 : -9223372036854775808 ≤ q - 1) (q0 : q - 1 < -2147483648) (w : World) :
    Calls Try.prog 39 #[.int .u64 v, .int .u32 d] w (Ret3 0 0 false w) := by
  go_enter Try.func39, Try.ntmps39
  go_wp2_with (go_at_call 16; refine (rsigned_any _ (by omega) (by omega) _).mono ?_; rintro e w' ⟨rfl, rfl⟩)
  go_ret3
  exact Ret3.same (ret_three rfl (by first | rfl | omega) rfl)
theorem rfm_xp_n_hi (v d n s q r : Int) (h0 : 0 ≤ v) (h1 : v ≤ 18446744073709551615) (g0 : 0 ≤ d) (g1 : d < 4294967296) (hd0 : (d == 0) = false) (hn : wrap64 v = n) (hs : sg d = s) (hs0 : ¬ s = 0)
    (hs1 : -2147483648 ≤ s) (hs2 : s ≤ 2147483647) (hq : wrap64 (n.tdiv s) = q) (hr1 : -2147483648 ≤ r) (hr2 : r ≤ 2147483648) (hx : 0 < n) (hxb : decide (n < 0) = false) (hb : (n == wrap64 (-n)) = false) (hr : n.tmod s = r) (hr0 : (r != 0) = true) (hry : 0 < r) (hrb : decide (r < 0) = false) (hy : s < 0) (hyb : decide (s < 0) = true) (q3 : q ≤ 9223372036854775807) (q0 : 2147483647 < q - 1) (w : World) :
    Calls Try.prog 39 #[.int .u64 v, .int .u32 d] w (Ret3 0 0 false w) := by
  go_enter Try.func39, Try.ntmps39
  go_wp2_with (go_at_call 16; refine (rsigned_any _ (by omega) (by omega) _).mono ?_; rintro e w' ⟨rfl, rfl⟩)
  go_ret3
  exact Ret3.same (ret_three rfl (by first | rfl | omega) rfl)
theorem rfm_xp_p (v d n s q r : Int) (h0 : 0 ≤ v) (h1 : v ≤ 18446744073709551615) (g0 : 0 ≤ d) (g1 : d < 4294967296) (hd0 : (d == 0) = false) (hn : wrap64 v = n) (hs : sg d = s) (hs0 : ¬ s = 0)
    (hs1 : -2147483648 ≤ s) (hs2 : s ≤ 2147483647) (hq : wrap64 (n.tdiv s) = q) (hr1 : -2147483648 ≤ r) (hr2 : r ≤ 2147483648) (hx : 0 < n) (hxb : decide (n < 0) = false) (hb : (n == wrap64 (-n)) = false) (hr : n.tmod s = r) (hr0 : (r != 0) = true) (hry : 0 < r) (hrb : decide (r < 0) = false) (hy : 0 ≤ s) (hyb : decide (s < 0) = false) (q0 : -2147483648 ≤ q) (q1 : q ≤ 2147483647) (w : World) :
    Calls Try.prog 39 #[.int .u64 v, .int .u32 d] w (Ret3 (q % 4294967296) (r % 4294967296) true w) := by
  go_enter Try.func39, Try.ntmps39
  go_wp2_with (go_at_call 16; refine (rsigned_any _ (by omega) (by omega) _).mono ?_; rintro e w' ⟨rfl, rfl⟩)
  go_ret3
  exact Ret3.same (ret_three rfl (by first | rfl | omega) rfl)
theorem rfm_xp_p_lo (v d n s q r : Int) (h0 : 0 ≤ v) (h1 : v ≤ 18446744073709551615) (g0 : 0 ≤ d) (g1 : d < 4294967296) (hd0 : (d == 0) = false) (hn : wrap64 v = n) (hs : sg d = s) (hs0 : ¬ s = 0)
    (hs1 : -2147483648 ≤ s) (hs2 : s ≤ 2147483647) (hq : wrap64 (n.tdiv s) = q) (hr1 : -2147483648 ≤ r) (hr2 : r ≤ 2147483648) (hx : 0 < n) (hxb : decide (n < 0) = false) (hb : (n == wrap64 (-n)) = false) (hr : n.tmod s = r) (hr0 : (r != 0) = true) (hry : 0 < r) (hrb : decide (r < 0) = false) (hy : 0 ≤ s) (hyb : decide (s < 0) = false) (q2 : -9223372036854775808 ≤ q) (q0 : q < -2147483648) (w : World) :
    Calls Try.prog 39 #[.int .u64 v, .int .u32 d] w (Ret3 0 0 false w) := by
  go_enter Try.func39, Try.ntmps39
  go_wp2_with (go_at_call 16; refine (rsigned_any _ (by omega) (by omega) _).mono ?_; rintro e w' ⟨rfl, rfl⟩)
  go_ret3
  exact Ret3.same (ret_three rfl (by first | rfl | omega) rfl)
theorem rfm_xp_p_hi (v d n s q r : Int) (h0 : 0 ≤ v) (h1 : v ≤ 18446744073709551615) (g0 : 0 ≤ d) (g1 : d < 4294967296) (hd0 : (d == 0) = false) (hn : wrap64 v = n) (hs : sg d = s) (hs0 : ¬ s = 0)
    (hs1 : -2147483648 ≤ s) (hs2 : s ≤ 2147483647) (hq : wrap64 (n.tdiv s) = q) (hr1 : -2147483648 ≤ r) (hr2 : r ≤ 2147483648) (hx : 0 < n) (hxb : decide (n < 0) = false) (hb : (n == wrap64 (-n)) = false) (hr : n.tmod s = r) (hr0 : (r != 0) = true) (hry : 0 < r) (hrb : decide (r < 0) = false) (hy : 0 ≤ s) (hyb : decide (s < 0) = false) (q3 : q ≤ 9223372036854775807) (q0 : 2147483647 < q) (w : World) :
    Calls Try.prog 39 #[.int .u64 v, .int .u32 d] w (Ret3 0 0 false w) := by
  go_enter Try.func39, Try.ntmps39
  go_wp2_with (go_at_call 16; refine (rsigned_any _ (by omega) (by omega) _).mono ?_; rintro e w' ⟨rfl, rfl⟩)
  go_ret3
  exact Ret3.same (ret_three rfl (by first | rfl | omega) rfl)
theorem rfm_xm_z (v d n s q : Int) (h0 : 0 ≤ v) (h1 : v ≤ 18446744073709551615) (g0 : 0 ≤ d) (g1 : d < 4294967296) (hd0 : (d == 0) = false) (hn : wrap64 v = n) (hs : sg d = s) (hs0 : ¬ s = 0)
    (hs1 : -2147483648 ≤ s) (hs2 : s ≤ 2147483647) (hq : wrap64 (n.tdiv s) = q) (hx : n < 0) (hxb : decide (n < 0) = true) (hb : (n == wrap64 (-n)) = true) (hm : (s == -1) = false) (hr : n.tmod s = 0) (q0 : -2147483648 ≤ q) (q1 : q ≤ 2147483647) (w : World) :
    Calls Try.prog 39 #[.int .u64 v, .int .u32 d] w (Ret3 (q % 4294967296) 0 true w) := by
  go_enter Try.func39, Try.ntmps39
  go_wp2_with (go_at_call 16; refine (rsigned_any _ (by omega) (by omega) _).mono ?_; rintro e w' ⟨rfl, rfl⟩)
  go_ret3
  exact Ret3.same (ret_three rfl (by first | rfl | omega) rfl)
theorem rfm_xm_z_lo (v d n s q : Int) (h0 : 0 ≤ v) (h1 : v ≤ 18446744073709551615) (g0 : 0 ≤ d) (g1 : d < 4294967296) (hd0 : (d == 0) = false) (hn : wrap64 v = n) (hs : sg d = s) (hs0 : ¬ s = 0)
    (hs1 : -2147483648 ≤ s) (hs2 : s ≤ 2147483647) (hq : wrap64 (n.tdiv s) = q) (hx : n < 0) (hxb : decide (n < 0) = true) (hb : (n == wrap64 (-n)) = true) (hm : (s == -1) = false) (hr : n.tmod s = 0) (q2 : -9223372036854775808 ≤ q) (q0 : q < -2147483648) (w : World) :
    Calls Try.prog 39 #[.int .u64 v, .int .u32 d] w (Ret3 0 0 false w) := by
  go_enter Try.func39, Try.ntmps39
  go_wp2_with (go_at_call 16; refine (rsigned_any _ (by omega) (by omega) _).mono ?_; rintro e w' ⟨rfl, rfl⟩)
  go_ret3
  exact Ret3.same (ret_three rfl (by first | rfl | omega) rfl)
theorem rfm_xm_z_hi (v d n s q : Int) (h0 : 0 ≤ v) (h1 : v ≤ 18446744073709551615) (g0 : 0 ≤ d) (g1 : d < 4294967296) (hd0 : (d == 0) = false) (hn : wrap64 v = n) (hs : sg d = s) (hs0 : ¬ s = 0)
    (hs1 : -2147483648 ≤ s) (hs2 : s ≤ 2147483647) (hq : wrap64 (n.tdiv s) = q) (hx : n < 0) (hxb : decide (n < 0) = true) (hb : (n == wrap64 (-n)) = true) (hm : (s == -1) = false) (hr : n.tmod s = 0) (q3 : q ≤ 9223372036854775807) (q0 : 2147483647 < q) (w : World) :
    Calls Try.prog 39 #[.int .u64 v, .int .u32 d] w (Ret3 0 0 false w) := by
  go_enter Try.func39, Try.ntmps39
  go_wp2_with (go_at_call 16; refine (rsigned_any _ (by omega) (by omega) _).mono ?_; rintro e w' ⟨rfl, rfl⟩)
  go_ret3
  exact Ret3.same (ret_three rfl (by first | rfl | omega) rfl)
theorem rfm_xm_n (v d n s q r : Int) (h0 : 0 ≤ v) (h1 : v ≤ 18446744073709551615) (g0 : 0 ≤ d) (g1 : d < 4294967296) (hd0 : (d == 0) = false) (hn : wrap64 v = n) (hs : sg d = s) (hs0 : ¬ s = 0)
    (hs1 : -2147483648 ≤ s) (hs2 : s ≤ 2147483647) (hq : wrap64 (n.tdiv s) = q) (hr1 : -2147483648 ≤ r) (hr2 : r ≤ 2147483648) (hx : n < 0) (hxb : decide (n < 0) = true) (hb : (n == wrap64 (-n)) = true) (hm : (s == -1) = false) (hr : n.tmod s = r) (hr0 : (r != 0) = true) (hry : r < 0) (hrb : decide (r < 0) = true) (hy : s < 0) (hyb : decide (s < 0) = true) (q0 : -2147483648 ≤ q) (q1 : q ≤ 2147483647) (w : World) :
    Calls Try.prog 39 #[.int .u64 v, .int .u32 d] w (Ret3 (q % 4294967296) (r % 4294967296) true w) := by
  go_enter Try.func39, Try.ntmps39
  go_wp2_with (go_at_call 16; refine (rsigned_any _ (by omega) (by omega) _).mono ?_; rintro e w' ⟨rfl, rfl⟩)
  go_ret3
  exact Ret3.same (ret_three rfl (by first | rfl | omega) rfl)
theorem rfm_xm_n_lo (v d n s q r : Int) (h0 : 0 ≤ v) (h1 : v ≤ 18446744073709551615) (g0 : 0 ≤ d) (g1 : d < 4294967296) (hd0 : (d == 0) = false) (hn : wrap64 v = n) (hs : sg d = s) (hs0 : ¬ s = 0)
    (hs1 : -2147483648 ≤ s) (hs2 : s ≤ 2147483647) (hq : wrap64 (n.tdiv s) = q) (hr1 : -2147483648 ≤ r) (hr2 : r ≤ 2147483648) (hx : n < 0) (hxb : decide (n < 0) = true) (hb : (n == wrap64 (-n)) = true) (hm : (s == -1) = false) (hr : n.tmod s = r) (hr0 : (r != 0) = true) (hry : r < 0) (hrb : decide (r < 0) = true) (hy : s < 0) (hyb : decide (s < 0) = true) (q2 : -9223372036854775808 ≤ q) (q0 : q < -2147483648) (w : World) :
    Calls Try.prog 39 #[.int .u64 v, .int .u32 d] w (Ret3 0 0 false w) := by
  go_enter Try.func39, Try.ntmps39
  go_wp2_with (go_at_call 16; refine (rsigned_any _ (by omega) (by omega) _).mono ?_; rintro e w' ⟨rfl, rfl⟩)
  go_ret3
  exact Ret3.same (ret_three rfl (by first | rfl | omega) rfl)
theorem rfm_xm_n_hi (v d n s q r : Int) (h0 : 0 ≤ v) (h1 : v ≤ 18446744073709551615) (g0 : 0 ≤ d) (g1 : d < 4294967296) (hd0 : (d == 0) = false) (hn : wrap64 v = n) (hs : sg d = s) (hs0 : ¬ s = 0)
    (hs1 : -2147483648 ≤ s) (hs2 : s ≤ 2147483647) (hq : wrap64 (n.tdiv s) = q) (hr1 : -2147483648 ≤ r) (hr2 : r ≤ 2147483648) (hx : n < 0) (hxb : decide (n < 0) = true) (hb : (n == wrap64 (-n)) = true) (hm : (s == -1) = false) (hr : n.tmod s = r) (hr0 : (r != 0) = true) (hry : r < 0) (hrb : decide (r < 0) = true) (hy : s < 0) (hyb : decide (s < 0) = true) (q3 : q ≤ 9223372036854775807) (q0 : 2147483647 < q) (w : World) :
    Calls Try.prog 39 #[.int .u64 v, .int .u32 d] w (Ret3 0 0 false w) := by
  go_enter Try.func39, Try.ntmps39
  go_wp2_with (go_at_call 16; refine (rsigned_any _ (by omega) (by omega) _).mono ?_; rintro e w' ⟨rfl, rfl⟩)
  go_ret3
  exact Ret3.same (ret_three rfl (by first | rfl | omega) rfl)
theorem rfm_xm_p (v d n s q r : Int) (h0 : 0 ≤ v) (h1 : v ≤ 18446744073709551615) (g0 : 0 ≤ d) (g1 : d < 4294967296) (hd0 : (d == 0) = false) (hn : wrap64 v = n) (hs : sg d = s) (hs0 : ¬ s = 0)
    (hs1 : -2147483648 ≤ s) (hs2 : s ≤ 2147483647) (hq : wrap64 (n.tdiv s) = q) (hr1 : -2147483648 ≤ r) (hr2 : r ≤ 2147483648) (hx : n < 0) (hxb : decide (n < 0) = true) (hb : (n == wrap64 (-n)) = true) (hm : (s == -1) = false) (hr : n.tmod s = r) (hr0 : (r != 0) = true) (hry : r < 0) (hrb : decide (r < 0) = true) (hy : 0 ≤ s) (hyb : decide (s < 0) = false) (q0 : -2147483648 ≤ q - 1) (q1 : q - 1 ≤ 2147483647) (w : World) :
    Calls Try.prog 39 #[.int .u64 v, .int .u32 d] w (Ret3 ((q - 1) % 4294967296) ((r + s) % 4294967296) true w) := by
  go_enter Try.func39, Try.ntmps39
  go_wp2_with (go_at_call 16; refine (rsigned_any _ (by omega) (by omega) _).mono ?_; rintro e w' ⟨rfl, rfl⟩)
  go_ret3
  exact Ret3.same (ret_three rfl (by first | rfl | omega) rfl)
theorem rfm_xm_p_lo (v d n s q r : Int) (h0 : 0 ≤ v) (h1 : v ≤ 18446744073709551615) (g0 : 0 ≤ d) (g1 : d < 4294967296) (hd0 : (d == 0) = false) (hn : wrap64 v = n) (hs : sg d = s) (hs0 : ¬ s = 0)
    (hs1 : -2147483648 ≤ s) (hs2 : s ≤ 2147483647) (hq : wrap64 (n.tdiv s) = q) (hr1 : -2147483648 ≤ r) (hr2 : r ≤ 2147483648) (hx : n < 0) (hxb : decide (n < 0) = true) (hb : (n == wrap64 (-n)) = true) (hm : (s == -1) = false) (hr : n.tmod s = r) (hr0 : (r != 0) = true) (hry : r < 0) (hrb : decide (r < 0) = true) (hy : 0 ≤ s) (hyb : decide (s < 0) = false) (q2 : -9223372036854775808 ≤ q - 1) (q0 : q - 1 < -2147483648) (w : World) :
    Calls Try.prog 39 #[.int .u64 v, .int .u32 d] w (Ret3 0 0 false w) := by
  go_enter Try.func39, Try.ntmps39
  go_wp2_with (go_at_call 16; refine (rsigned_any _ (by omega) (by omega) _).mono ?_; rintro e w' ⟨rfl, rfl⟩)
  go_ret3
  exact Ret3.same (ret_three rfl (by first | rfl | omega) rfl)
theorem rfm_xm_p_hi (v d n s q r : Int) (h0 : 0 ≤ v) (h1 : v ≤ 18446744073709551615) (g0 : 0 ≤ d) (g1 : d < 4294967296) (hd0 : (d == 0) = false) (hn : wrap64 v = n) (hs : sg d = s) (hs0 : ¬ s = 0)
    (hs1 : -2147483648 ≤ s) (hs2 : s ≤ 2147483647) (hq : wrap64 (n.tdiv s) = q) (hr1 : -2147483648 ≤ r) (hr2 : r ≤ 2147483648) (hx : n < 0) (hxb : decide (n < 0) = true) (hb : (n == wrap64 (-n)) = true) (hm : (s == -1) = false) (hr : n.tmod s = r) (hr0 : (r != 0) = true) (hry : r < 0) (hrb : decide (r < 0) = true) (hy : 0 ≤ s) (hyb : decide (s < 0) = false) (q3 : q ≤ 9223372036854775807) (q0 : 2147483647 < q - 1) (w : World) :
    Calls Try.prog 39 #[.int .u64 v, .int .u32 d] w (Ret3 0 0 false w) := by
  go_enter Try.func39, Try.ntmps39
  go_wp2_with (go_at_call 16; refine (rsigned_any _ (by omega) (by omega) _).mono ?_; rintro e w' ⟨rfl, rfl⟩)
  go_ret3
  exact Ret3.same (ret_three rfl (by first | rfl | omega) rfl)

/-! all together -/
theorem divide2_any (v d : Int) (h0 : 0 ≤ v) (h1 : v ≤ 18446744073709551615) (g0 : 0 ≤ d) (g1 : d < 4294967296) (w : World) :
    Calls Try.prog 42 #[.int .u64 v, .int .u32 d, .int .i64 2] w (Ret3 (fmQ v d) (fmR v d) (!fmBad v d) w) := by
  by_cases hd : d = 0
  · subst hd
    obtain ⟨x1, x2, x3⟩ := fm_none v 0 (down (wrap64 v) (sg 0)) rfl (Or.inl rfl)
    rw [x1, x2, x3]
    clear x1 x2 x3
    go_enter Try.func42, Try.ntmps42
    go_wp2
    go_ret3
    exact Ret3.same rfl
  · have hs0 := sg_zero d g0 g1 hd
    have hsb := sg_bd d g0 g1
    have hnb := wrap64_bd v
    have hd0 : (d == 0) = false := by simpa using hd
    have hm := tmod_bd (wrap64 v) (sg d) hs0
    rcases tdiv_wrap (wrap64 v) (sg d) hnb.1 hnb.2 with ⟨e, b1, b2⟩ | ⟨e, e2, hmin⟩
    · by_cases r0 : (wrap64 v).tmod (sg d) = 0
      · by_cases lo : (wrap64 v).tdiv (sg d) < -2147483648
        · obtain ⟨x1, x2, x3⟩ := fm_none v d 0 (down_z _ _ r0) (Or.inr (Or.inl (by omega)))
          rw [x1, x2, x3]
          exact divide2_z_lo v d _ _ ((wrap64 v).tdiv (sg d)) h0 h1 g0 g1 hd0 rfl rfl hs0 hsb.1 hsb.2 e r0 (by omega) (by omega) w
        by_cases hi : 2147483647 < (wrap64 v).tdiv (sg d)
        · obtain ⟨x1, x2, x3⟩ := fm_none v d 0 (down_z _ _ r0) (Or.inr (Or.inr (by omega)))
          rw [x1, x2, x3]
          exact divide2_z_hi v d _ _ ((wrap64 v).tdiv (sg d)) h0 h1 g0 g1 hd0 rfl rfl hs0 hsb.1 hsb.2 e r0 (by omega) (by omega) w
        · obtain ⟨x1, x2, x3⟩ := fm_good v d 0 hd (down_z _ _ r0) (by omega) (by omega)
          rw [x1, x2, x3]
          simpa [r0] using divide2_z v d _ _ ((wrap64 v).tdiv (sg d)) h0 h1 g0 g1 hd0 rfl rfl hs0 hsb.1 hsb.2 e r0 (by omega) (by omega) w
      · have r1 : ((wrap64 v).tmod (sg d) != 0) = true := by simpa using r0
        have hh := tdiv_half (wrap64 v) (sg d) r0 hnb.1 hnb.2
        by_cases n0 : wrap64 v < 0
        · by_cases s0 : sg d < 0
          · by_cases lo : (wrap64 v).tdiv (sg d) < -2147483648
            · obtain ⟨x1, x2, x3⟩ := fm_none v d 0 (down_same _ _ (by omega)) (Or.inr (Or.inl (by omega)))
              rw [x1, x2, x3]
              exact divide2_nn_lo v d _ _ ((wrap64 v).tdiv (sg d)) ((wrap64 v).tmod (sg d)) h0 h1 g0 g1 hd0 rfl rfl hs0 hsb.1 hsb.2 e (by omega) (by omega) rfl r1 n0 (decide_eq_true n0) s0 (decide_eq_true s0) (by omega) (by omega) w
            by_cases hi : 2147483647 < (wrap64 v).tdiv (sg d)
            · obtain ⟨x1, x2, x3⟩ := fm_none v d 0 (down_same _ _ (by omega)) (Or.inr (Or.inr (by omega)))
              rw [x1, x2, x3]
              exact divide2_nn_hi v d _ _ ((wrap64 v).tdiv (sg d)) ((wrap64 v).tmod (sg d)) h0 h1 g0 g1 hd0 rfl rfl hs0 hsb.1 hsb.2 e (by omega) (by omega) rfl r1 n0 (decide_eq_true n0) s0 (decide_eq_true s0) (by omega) (by omega) w
            · obtain ⟨x1, x2, x3⟩ := fm_good v d 0 hd (down_same _ _ (by omega)) (by omega) (by omega)
              rw [x1, x2, x3]
              simpa using divide2_nn v d _ _ ((wrap64 v).tdiv (sg d)) ((wrap64 v).tmod (sg d)) h0 h1 g0 g1 hd0 rfl rfl hs0 hsb.1 hsb.2 e (by omega) (by omega) rfl r1 n0 (decide_eq_true n0) s0 (decide_eq_true s0) (by omega) (by omega) w
          · by_cases lo : (wrap64 v).tdiv (sg d) - 1 < -2147483648
            · obtain ⟨x1, x2, x3⟩ := fm_none v d 1 (down_one _ _ r0 (by omega)) (Or.inr (Or.inl (by omega)))
              rw [x1, x2, x3]
              exact divide2_np_lo v d _ _ ((wrap64 v).tdiv (sg d)) ((wrap64 v).tmod (sg d)) h0 h1 g0 g1 hd0 rfl rfl hs0 hsb.1 hsb.2 e (by omega) (by omega) rfl r1 n0 (decide_eq_true n0) (by omega) (decide_eq_false s0) (by omega) (by omega) w
            by_cases hi : 2147483647 < (wrap64 v).tdiv (sg d) - 1
            · obtain ⟨x1, x2, x3⟩ := fm_none v d 1 (down_one _ _ r0 (by omega)) (Or.inr (Or.inr (by omega)))
              rw [x1, x2, x3]
              exact divide2_np_hi v d _ _ ((wrap64 v).tdiv (sg d)) ((wrap64 v).tmod (sg d)) h0 h1 g0 g1 hd0 rfl rfl hs0 hsb.1 hsb.2 e (by omega) (by omega) rfl r1 n0 (decide_eq_true n0) (by omega) (decide_eq_false s0) (by omega) (by omega) w
            · obtain ⟨x1, x2, x3⟩ := fm_good v d 1 hd (down_one _ _ r0 (by omega)) (by omega) (by omega)
              rw [x1, x2, x3]
              simpa using divide2_np v d _ _ ((wrap64 v).tdiv (sg d)) ((wrap64 v).tmod (sg d)) h0 h1 g0 g1 hd0 rfl rfl hs0 hsb.1 hsb.2 e (by omega) (by omega) rfl r1 n0 (decide_eq_true n0) (by omega) (decide_eq_false s0) (by omega) (by omega) w
        · by_cases s0 : sg d < 0
          · by_cases lo : (wrap64 v).tdiv (sg d) - 1 < -2147483648
            · obtain ⟨x1, x2, x3⟩ := fm_none v d 1 (down_one _ _ r0 (by omega)) (Or.inr (Or.inl (by omega)))
              rw [x1, x2, x3]
              exact divide2_pn_lo v d _ _ ((wrap64 v).tdiv (sg d)) ((wrap64 v).tmod (sg d)) h0 h1 g0 g1 hd0 rfl rfl hs0 hsb.1 hsb.2 e (by omega) (by omega) rfl r1 (by omega) (decide_eq_false n0) s0 (decide_eq_true s0) (by omega) (by omega) w
            by_cases hi : 2147483647 < (wrap64 v).tdiv (sg d) - 1
            · obtain ⟨x1, x2, x3⟩ := fm_none v d 1 (down_one _ _ r0 (by omega)) (Or.inr (Or.inr (by omega)))
              rw [x1, x2, x3]
              exact divide2_pn_hi v d _ _ ((wrap64 v).tdiv (sg d)) ((wrap64 v).tmod (sg d)) h0 h1 g0 g1 hd0 rfl rfl hs0 hsb.1 hsb.2 e (by omega) (by omega) rfl r1 (by omega) (decide_eq_false n0) s0 (decide_eq_true s0) (by omega) (by omega) w
            · obtain ⟨x1, x2, x3⟩ := fm_good v d 1 hd (down_one _ _ r0 (by omega)) (by omega) (by omega)
              rw [x1, x2, x3]
              simpa using divide2_pn v d _ _ ((wrap64 v).tdiv (sg d)) ((wrap64 v).tmod (sg d)) h0 h1 g0 g1 hd0 rfl rfl hs0 hsb.1 hsb.2 e (by omega) (by omega) rfl r1 (by omega) (decide_eq_false n0) s0 (decide_eq_true s0) (by omega) (by omega) w
          · by_cases lo : (wrap64 v).tdiv (sg d) < -2147483648
            · obtain ⟨x1, x2, x3⟩ := fm_none v d 0 (down_same _ _ (by omega)) (Or.inr (Or.inl (by omega)))
              rw [x1, x2, x3]
              exact divide2_pp_lo v d _ _ ((wrap64 v).tdiv (sg d)) ((wrap64 v).tmod (sg d)) h0 h1 g0 g1 hd0 rfl rfl hs0 hsb.1 hsb.2 e (by omega) (by omega) rfl r1 (by omega) (decide_eq_false n0) (by omega) (decide_eq_false s0) (by omega) (by omega) w
            by_cases hi : 2147483647 < (wrap64 v).tdiv (sg d)
            · obtain ⟨x1, x2, x3⟩ := fm_none v d 0 (down_same _ _ (by omega)) (Or.inr (Or.inr (by omega)))
              rw [x1, x2, x3]
              exact divide2_pp_hi v d _ _ ((wrap64 v).tdiv (sg d)) ((wrap64 v).tmod (sg d)) h0 h1 g0 g1 hd0 rfl rfl hs0 hsb.1 hsb.2 e (by omega) (by omega) rfl r1 (by omega) (decide_eq_false n0) (by omega) (decide_eq_false s0) (by omega) (by omega) w
            · obtain ⟨x1, x2, x3⟩ := fm_good v d 0 hd (down_same _ _ (by omega)) (by omega) (by omega)
              rw [x1, x2, x3]
              simpa using divide2_pp v d _ _ ((wrap64 v).tdiv (sg d)) ((wrap64 v).tmod (sg d)) h0 h1 g0 g1 hd0 rfl rfl hs0 hsb.1 hsb.2 e (by omega) (by omega) rfl r1 (by omega) (decide_eq_false n0) (by omega) (decide_eq_false s0) (by omega) (by omega) w
    · have r0 : (wrap64 v).tmod (sg d) = 0 := by
        apply Classical.byContradiction
        intro hr
        have := tdiv_half (wrap64 v) (sg d) hr hnb.1 hnb.2
        omega
      obtain ⟨x1, x2, x3⟩ := fm_none v d 0 (down_z _ _ r0) (Or.inr (Or.inr (by omega)))
      rw [x1, x2, x3]
      exact divide2_z_lo v d _ _ _ h0 h1 g0 g1 hd0 rfl rfl hs0 hsb.1 hsb.2 e2 r0 (by omega) (by omega) w
theorem rfmmod_any (v d : Int) (h0 : 0 ≤ v) (h1 : v ≤ 18446744073709551615) (g0 : 0 ≤ d) (g1 : d < 4294967296) (w : World) :
    Calls Try.prog 39 #[.int .u64 v, .int .u32 d] w (Ret3 (fmQ v d) (fmR v d) (!fmBad v d) w) := by
  by_cases hd : d = 0
  · subst hd
    obtain ⟨x1, x2, x3⟩ := fm_none v 0 (down (wrap64 v) (sg 0)) rfl (Or.inl rfl)
    rw [x1, x2, x3]
    clear x1 x2 x3
    go_enter Try.func39, Try.ntmps39
    go_wp2
    go_ret3
    exact Ret3.same rfl
  · have hs0 := sg_zero d g0 g1 hd
    have hsb := sg_bd d g0 g1
    have hnb := wrap64_bd v
    have hd0 : (d == 0) = false := by simpa using hd
    have hm := tmod_bd (wrap64 v) (sg d) hs0
    by_cases z0 : wrap64 v = 0
    · obtain ⟨x1, x2, x3⟩ := fm_good v d 0 hd (down_z _ _ (by rw [z0]; simp)) (by rw [z0]; simp) (by rw [z0]; simp)
      rw [x1, x2, x3, z0]
      simpa using rfm_x0 v d _ h0 h1 g0 g1 hd0 z0 rfl hs0 w
    rcases tdiv_wrap (wrap64 v) (sg d) hnb.1 hnb.2 with ⟨e, b1, b2⟩ | ⟨e, e2, hmin⟩
    · by_cases n0 : wrap64 v < 0
      · have hr := tmod_neg (wrap64 v) (sg d) n0
        by_cases m0 : wrap64 v = -9223372036854775808
        · have hb := neg_min _ m0
          have hm1 : (sg d == -1) = false := by
            rw [beq_eq_false_iff_ne]; intro hm1
            rw [hm1, m0] at b2
            exact absurd b2 (by decide)
          by_cases r0 : (wrap64 v).tmod (sg d) = 0
          · by_cases lo : (wrap64 v).tdiv (sg d) < -2147483648
            · obtain ⟨x1, x2, x3⟩ := fm_none v d 0 (down_z _ _ r0) (Or.inr (Or.inl (by omega)))
              rw [x1, x2, x3]
              exact rfm_xm_z_lo v d _ _ ((wrap64 v).tdiv (sg d)) h0 h1 g0 g1 hd0 rfl rfl hs0 hsb.1 hsb.2 e n0 (decide_eq_true n0) hb hm1 r0 (by omega) (by omega) w
            by_cases hi : 2147483647 < (wrap64 v).tdiv (sg d)
            · obtain ⟨x1, x2, x3⟩ := fm_none v d 0 (down_z _ _ r0) (Or.inr (Or.inr (by omega)))
              rw [x1, x2, x3]
              exact rfm_xm_z_hi v d _ _ ((wrap64 v).tdiv (sg d)) h0 h1 g0 g1 hd0 rfl rfl hs0 hsb.1 hsb.2 e n0 (decide_eq_true n0) hb hm1 r0 (by omega) (by omega) w
            · obtain ⟨x1, x2, x3⟩ := fm_good v d 0 hd (down_z _ _ r0) (by omega) (by omega)
              rw [x1, x2, x3]
              simpa [r0] using rfm_xm_z v d _ _ ((wrap64 v).tdiv (sg d)) h0 h1 g0 g1 hd0 rfl rfl hs0 hsb.1 hsb.2 e n0 (decide_eq_true n0) hb hm1 r0 (by omega) (by omega) w
          · have r1 : ((wrap64 v).tmod (sg d) != 0) = true := by simpa using r0
            have hh := tdiv_half (wrap64 v) (sg d) r0 hnb.1 hnb.2
            by_cases s0 : sg d < 0
            · by_cases lo : (wrap64 v).tdiv (sg d) < -2147483648
              · obtain ⟨x1, x2, x3⟩ := fm_none v d 0 (down_same _ _ (by omega)) (Or.inr (Or.inl (by omega)))
                rw [x1, x2, x3]
                exact rfm_xm_n_lo v d _ _ ((wrap64 v).tdiv (sg d)) ((wrap64 v).tmod (sg d)) h0 h1 g0 g1 hd0 rfl rfl hs0 hsb.1 hsb.2 e (by omega) (by omega) n0 (decide_eq_true n0) hb hm1 rfl r1 (by omega) (decide_eq_true (by omega)) s0 (decide_eq_true s0) (by omega) (by omega) w
              by_cases hi : 2147483647 < (wrap64 v).tdiv (sg d)
              · obtain ⟨x1, x2, x3⟩ := fm_none v d 0 (down_same _ _ (by omega)) (Or.inr (Or.inr (by omega)))
                rw [x1, x2, x3]
                exact rfm_xm_n_hi v d _ _ ((wrap64 v).tdiv (sg d)) ((wrap64 v).tmod (sg d)) h0 h1 g0 g1 hd0 rfl rfl hs0 hsb.1 hsb.2 e (by omega) (by omega) n0 (decide_eq_true n0) hb hm1 rfl r1 (by omega) (decide_eq_true (by omega)) s0 (decide_eq_true s0) (by omega) (by omega) w
              · obtain ⟨x1, x2, x3⟩ := fm_good v d 0 hd (down_same _ _ (by omega)) (by omega) (by omega)
                rw [x1, x2, x3]
                simpa using rfm_xm_n v d _ _ ((wrap64 v).tdiv (sg d)) ((wrap64 v).tmod (sg d)) h0 h1 g0 g1 hd0 rfl rfl hs0 hsb.1 hsb.2 e (by omega) (by omega) n0 (decide_eq_true n0) hb hm1 rfl r1 (by omega) (decide_eq_true (by omega)) s0 (decide_eq_true s0) (by omega) (by omega) w
            · by_cases lo : (wrap64 v).tdiv (sg d) - 1 < -2147483648
              · obtain ⟨x1, x2, x3⟩ := fm_none v d 1 (down_one _ _ r0 (by omega)) (Or.inr (Or.inl (by omega)))
                rw [x1, x2, x3]
                exact rfm_xm_p_lo v d _ _ ((wrap64 v).tdiv (sg d)) ((wrap64 v).tmod (sg d)) h0 h1 g0 g1 hd0 rfl rfl hs0 hsb.1 hsb.2 e (by omega) (by omega) n0 (decide_eq_true n0) hb hm1 rfl r1 (by omega) (decide_eq_true (by omega)) (by omega) (decide_eq_false s0) (by omega) (by omega) w
              by_cases hi : 2147483647 < (wrap64 v).tdiv (sg d) - 1
              · obtain ⟨x1, x2, x3⟩ := fm_none v d 1 (down_one _ _ r0 (by omega)) (Or.inr (Or.inr (by omega)))
                rw [x1, x2, x3]
                exact rfm_xm_p_hi v d _ _ ((wrap64 v).tdiv (sg d)) ((wrap64 v).tmod (sg d)) h0 h1 g0 g1 hd0 rfl rfl hs0 hsb.1 hsb.2 e (by omega) (by omega) n0 (decide_eq_true n0) hb hm1 rfl r1 (by omega) (decide_eq_true (by omega)) (by omega) (decide_eq_false s0) (by omega) (by omega) w
              · obtain ⟨x1, x2, x3⟩ := fm_good v d 1 hd (down_one _ _ r0 (by omega)) (by omega) (by omega)
                rw [x1, x2, x3]
                simpa using rfm_xm_p v d _ _ ((wrap64 v).tdiv (sg d)) ((wrap64 v).tmod (sg d)) h0 h1 g0 g1 hd0 rfl rfl hs0 hsb.1 hsb.2 e (by omega) (by omega) n0 (decide_eq_true n0) hb hm1 rfl r1 (by omega) (decide_eq_true (by omega)) (by omega) (decide_eq_false s0) (by omega) (by omega) w
        · have hb := neg_not (wrap64 v) z0 (by omega) hnb.2
          by_cases r0 : (wrap64 v).tmod (sg d) = 0
          · by_cases lo : (wrap64 v).tdiv (sg d) < -2147483648
            · obtain ⟨x1, x2, x3⟩ := fm_none v d 0 (down_z _ _ r0) (Or.inr (Or.inl (by omega)))
              rw [x1, x2, x3]
              exact rfm_xn_z_lo v d _ _ ((wrap64 v).tdiv (sg d)) h0 h1 g0 g1 hd0 rfl rfl hs0 hsb.1 hsb.2 e n0 (decide_eq_true n0) hb r0 (by omega) (by omega) w
            by_cases hi : 2147483647 < (wrap64 v).tdiv (sg d)
            · obtain ⟨x1, x2, x3⟩ := fm_none v d 0 (down_z _ _ r0) (Or.inr (Or.inr (by omega)))
              rw [x1, x2, x3]
              exact rfm_xn_z_hi v d _ _ ((wrap64 v).tdiv (sg d)) h0 h1 g0 g1 hd0 rfl rfl hs0 hsb.1 hsb.2 e n0 (decide_eq_true n0) hb r0 (by omega) (by omega) w
            · obtain ⟨x1, x2, x3⟩ := fm_good v d 0 hd (down_z _ _ r0) (by omega) (by omega)
              rw [x1, x2, x3]
              simpa [r0] using rfm_xn_z v d _ _ ((wrap64 v).tdiv (sg d)) h0 h1 g0 g1 hd0 rfl rfl hs0 hsb.1 hsb.2 e n0 (decide_eq_true n0) hb r0 (by omega) (by omega) w
          · have r1 : ((wrap64 v).tmod (sg d) != 0) = true := by simpa using r0
            have hh := tdiv_half (wrap64 v) (sg d) r0 hnb.1 hnb.2
            by_cases s0 : sg d < 0
            · by_cases lo : (wrap64 v).tdiv (sg d) < -2147483648
              · obtain ⟨x1, x2, x3⟩ := fm_none v d 0 (down_same _ _ (by omega)) (Or.inr (Or.inl (by omega)))
                rw [x1, x2, x3]
                exact rfm_xn_n_lo v d _ _ ((wrap64 v).tdiv (sg d)) ((wrap64 v).tmod (sg d)) h0 h1 g0 g1 hd0 rfl rfl hs0 hsb.1 hsb.2 e (by omega) (by omega) n0 (decide_eq_true n0) hb rfl r1 (by omega) (decide_eq_true (by omega)) s0 (decide_eq_true s0) (by omega) (by omega) w
              by_cases hi : 2147483647 < (wrap64 v).tdiv (sg d)
              · obtain ⟨x1, x2, x3⟩ := fm_none v d 0 (down_same _ _ (by omega)) (Or.inr (Or.inr (by omega)))
                rw [x1, x2, x3]
                exact rfm_xn_n_hi v d _ _ ((wrap64 v).tdiv (sg d)) ((wrap64 v).tmod (sg d)) h0 h1 g0 g1 hd0 rfl rfl hs0 hsb.1 hsb.2 e (by omega) (by omega) n0 (decide_eq_true n0) hb rfl r1 (by omega) (decide_eq_true (by omega)) s0 (decide_eq_true s0) (by omega) (by omega) w
              · obtain ⟨x1, x2, x3⟩ := fm_good v d 0 hd (down_same _ _ (by omega)) (by omega) (by omega)
                rw [x1, x2, x3]
                simpa using rfm_xn_n v d _ _ ((wrap64 v).tdiv (sg d)) ((wrap64 v).tmod (sg d)) h0 h1 g0 g1 hd0 rfl rfl hs0 hsb.1 hsb.2 e (by omega) (by omega) n0 (decide_eq_true n0) hb rfl r1 (by omega) (decide_eq_true (by omega)) s0 (decide_eq_true s0) (by omega) (by omega) w
            · by_cases lo : (wrap64 v).tdiv (sg d) - 1 < -2147483648
              · obtain ⟨x1, x2, x3⟩ := fm_none v d 1 (down_one _ _ r0 (by omega)) (Or.inr (Or.inl (by omega)))
                rw [x1, x2, x3]
                exact rfm_xn_p_lo v d _ _ ((wrap64 v).tdiv (sg d)) ((wrap64 v).tmod (sg d)) h0 h1 g0 g1 hd0 rfl rfl hs0 hsb.1 hsb.2 e (by omega) (by omega) n0 (decide_eq_true n0) hb rfl r1 (by omega) (decide_eq_true (by omega)) (by omega) (decide_eq_false s0) (by omega) (by omega) w
              by_cases hi : 2147483647 < (wrap64 v).tdiv (sg d) - 1
              · obtain ⟨x1, x2, x3⟩ := fm_none v d 1 (down_one _ _ r0 (by omega)) (Or.inr (Or.inr (by omega)))
                rw [x1, x2, x3]
                exact rfm_xn_p_hi v d _ _ ((wrap64 v).tdiv (sg d)) ((wrap64 v).tmod (sg d)) h0 h1 g0 g1 hd0 rfl rfl hs0 hsb.1 hsb.2 e (by omega) (by omega) n0 (decide_eq_true n0) hb rfl r1 (by omega) (decide_eq_true (by omega)) (by omega) (decide_eq_false s0) (by omega) (by omega) w
              · obtain ⟨x1, x2, x3⟩ := fm_good v d 1 hd (down_one _ _ r0 (by omega)) (by omega) (by omega)
                rw [x1, x2, x3]
                simpa using rfm_xn_p v d _ _ ((wrap64 v).tdiv (sg d)) ((wrap64 v).tmod (sg d)) h0 h1 g0 g1 hd0 rfl rfl hs0 hsb.1 hsb.2 e (by omega) (by omega) n0 (decide_eq_true n0) hb rfl r1 (by omega) (decide_eq_true (by omega)) (by omega) (decide_eq_false s0) (by omega) (by omega) w
      · have hr := tmod_pos (wrap64 v) (sg d) (by omega)
        have hb := neg_not (wrap64 v) z0 (by omega) hnb.2
        by_cases r0 : (wrap64 v).tmod (sg d) = 0
        · by_cases lo : (wrap64 v).tdiv (sg d) < -2147483648
          · obtain ⟨x1, x2, x3⟩ := fm_none v d 0 (down_z _ _ r0) (Or.inr (Or.inl (by omega)))
            rw [x1, x2, x3]
            exact rfm_xp_z_lo v d _ _ ((wrap64 v).tdiv (sg d)) h0 h1 g0 g1 hd0 rfl rfl hs0 hsb.1 hsb.2 e (by omega) (decide_eq_false n0) hb r0 (by omega) (by omega) w
          by_cases hi : 2147483647 < (wrap64 v).tdiv (sg d)
          · obtain ⟨x1, x2, x3⟩ := fm_none v d 0 (down_z _ _ r0) (Or.inr (Or.inr (by omega)))
            rw [x1, x2, x3]
            exact rfm_xp_z_hi v d _ _ ((wrap64 v).tdiv (sg d)) h0 h1 g0 g1 hd0 rfl rfl hs0 hsb.1 hsb.2 e (by omega) (decide_eq_false n0) hb r0 (by omega) (by omega) w
          · obtain ⟨x1, x2, x3⟩ := fm_good v d 0 hd (down_z _ _ r0) (by omega) (by omega)
            rw [x1, x2, x3]
            simpa [r0] using rfm_xp_z v d _ _ ((wrap64 v).tdiv (sg d)) h0 h1 g0 g1 hd0 rfl rfl hs0 hsb.1 hsb.2 e (by omega) (decide_eq_false n0) hb r0 (by omega) (by omega) w
        · have r1 : ((wrap64 v).tmod (sg d) != 0) = true := by simpa using r0
          have hh := tdiv_half (wrap64 v) (sg d) r0 hnb.1 hnb.2
          by_cases s0 : sg d < 0
          · by_cases lo : (wrap64 v).tdiv (sg d) - 1 < -2147483648
            · obtain ⟨x1, x2, x3⟩ := fm_none v d 1 (down_one _ _ r0 (by omega)) (Or.inr (Or.inl (by omega)))
              rw [x1, x2, x3]
              exact rfm_xp_n_lo v d _ _ ((wrap64 v).tdiv (sg d)) ((wrap64 v).tmod (sg d)) h0 h1 g0 g1 hd0 rfl rfl hs0 hsb.1 hsb.2 e (by omega) (by omega) (by omega) (decide_eq_false n0) hb rfl r1 (by omega) (decide_eq_false (by omega)) s0 (decide_eq_true s0) (by omega) (by omega) w
            by_cases hi : 2147483647 < (wrap64 v).tdiv (sg d) - 1
            · obtain ⟨x1, x2, x3⟩ := fm_none v d 1 (down_one _ _ r0 (by omega)) (Or.inr (Or.inr (by omega)))
              rw [x1, x2, x3]
              exact rfm_xp_n_hi v d _ _ ((wrap64 v).tdiv (sg d)) ((wrap64 v).tmod (sg d)) h0 h1 g0 g1 hd0 rfl rfl hs0 hsb.1 hsb.2 e (by omega) (by omega) (by omega) (decide_eq_false n0) hb rfl r1 (by omega) (decide_eq_false (by omega)) s0 (decide_eq_true s0) (by omega) (by omega) w
            · obtain ⟨x1, x2, x3⟩ := fm_good v d 1 hd (down_one _ _ r0 (by omega)) (by omega) (by omega)
              rw [x1, x2, x3]
              simpa using rfm_xp_n v d _ _ ((wrap64 v).tdiv (sg d)) ((wrap64 v).tmod (sg d)) h0 h1 g0 g1 hd0 rfl rfl hs0 hsb.1 hsb.2 e (by omega) (by omega) (by omega) (decide_eq_false n0) hb rfl r1 (by omega) (decide_eq_false (by omega)) s0 (decide_eq_true s0) (by omega) (by omega) w
          · by_cases lo : (wrap64 v).tdiv (sg d) < -2147483648
            · obtain ⟨x1, x2, x3⟩ := fm_none v d 0 (down_same _ _ (by omega)) (Or.inr (Or.inl (by omega)))
              rw [x1, x2, x3]
              exact rfm_xp_p_lo v d _ _ ((wrap64 v).tdiv (sg d)) ((wrap64 v).tmod (sg d)) h0 h1 g0 g1 hd0 rfl rfl hs0 hsb.1 hsb.2 e (by omega) (by omega) (by omega) (decide_eq_false n0) hb rfl r1 (by omega) (decide_eq_false (by omega)) (by omega) (decide_eq_false s0) (by omega) (by omega) w
            by_cases hi : 2147483647 < (wrap64 v).tdiv (sg d)
            · obtain ⟨x1, x2, x3⟩ := fm_none v d 0 (down_same _ _ (by omega)) (Or.inr (Or.inr (by omega)))
              rw [x1, x2, x3]
              exact rfm_xp_p_hi v d _ _ ((wrap64 v).tdiv (sg d)) ((wrap64 v).tmod (sg d)) h0 h1 g0 g1 hd0 rfl rfl hs0 hsb.1 hsb.2 e (by omega) (by omega) (by omega) (decide_eq_false n0) hb rfl r1 (by omega) (decide_eq_false (by omega)) (by omega) (decide_eq_false s0) (by omega) (by omega) w
            · obtain ⟨x1, x2, x3⟩ := fm_good v d 0 hd (down_same _ _ (by omega)) (by omega) (by omega)
              rw [x1, x2, x3]
              simpa using rfm_xp_p v d _ _ ((wrap64 v).tdiv (sg d)) ((wrap64 v).tmod (sg d)) h0 h1 g0 g1 hd0 rfl rfl hs0 hsb.1 hsb.2 e (by omega) (by omega) (by omega) (decide_eq_false n0) hb rfl r1 (by omega) (decide_eq_false (by omega)) (by omega) (decide_eq_false s0) (by omega) (by omega) w
    · have n0 : wrap64 v < 0 := by omega
      have hb := neg_min _ hmin
      have r0 : (wrap64 v).tmod (sg d) = 0 := by
        apply Classical.byContradiction
        intro hr
        have := tdiv_half (wrap64 v) (sg d) hr hnb.1 hnb.2
        omega
      obtain ⟨x1, x2, x3⟩ := fm_none v d 0 (down_z _ _ r0) (Or.inr (Or.inr (by omega)))
      rw [x1, x2, x3]
      by_cases hm1 : sg d = -1
      · exact rfm_bad v d _ _ h0 h1 g0 g1 hd0 rfl rfl hs0 n0 (decide_eq_true n0) hb (by simp [hm1]) w
      · exact rfm_xm_z_lo v d _ _ _ h0 h1 g0 g1 hd0 rfl rfl hs0 hsb.1 hsb.2 e2 n0 (decide_eq_true n0) hb (by simpa using hm1) r0 (by omega) (by omega) w
theorem divide1_any (v d : Int) (h0 : 0 ≤ v) (h1 : v ≤ 18446744073709551615) (g0 : 0 ≤ d) (g1 : d < 4294967296) (w : World) :
    Calls Try.prog 42 #[.int .u64 v, .int .u32 d, .int .i64 1] w (Ret3 (smQ v d) (smR v d) (!smBad v d) w) := by
  by_cases hd : d = 0
  · subst hd
    obtain ⟨x1, x2, x3⟩ := sm_none v 0 (Or.inl rfl)
    rw [x1, x2, x3]
    clear x1 x2 x3
    go_enter Try.func42, Try.ntmps42
    go_wp2
    go_ret3
    exact Ret3.same rfl
  · have hs0 := sg_zero d g0 g1 hd
    have hsb := sg_bd d g0 g1
    have hnb := wrap64_bd v
    have hd0 : (d == 0) = false := by simpa using hd
    have hm := tmod_bd (wrap64 v) (sg d) hs0
    rcases tdiv_wrap (wrap64 v) (sg d) hnb.1 hnb.2 with ⟨e, b1, b2⟩ | ⟨e, e2, hmin⟩
    · by_cases lo : (wrap64 v).tdiv (sg d) < -2147483648 ∨ 2147483647 < (wrap64 v).tdiv (sg d)
      · obtain ⟨x1, x2, x3⟩ := sm_none v d (Or.inr lo)
        rw [x1, x2, x3]
        exact divide1_none v d _ _ _ h0 h1 g0 g1 hd0 rfl rfl hs0 e b1 b2 lo w
      · obtain ⟨x1, x2, x3⟩ := sm_good v d hd (by omega) (by omega)
        rw [x1, x2, x3]
        exact divide1_walk v d _ _ _ _ h0 h1 g0 g1 hd0 rfl rfl hs0 hsb.1 hsb.2 (by omega) (by omega) e rfl (by omega) (by omega) w
    · obtain ⟨x1, x2, x3⟩ := sm_none v d (Or.inr (Or.inr (by omega)))
      rw [x1, x2, x3]
      exact divide1_none v d _ _ _ h0 h1 g0 g1 hd0 rfl rfl hs0 e2 (by omega) (by omega) (Or.inl (by omega)) w
theorem rsmrem_any (v d : Int) (h0 : 0 ≤ v) (h1 : v ≤ 18446744073709551615) (g0 : 0 ≤ d) (g1 : d < 4294967296) (w : World) :
    Calls Try.prog 37 #[.int .u64 v, .int .u32 d] w (Ret3 (smQ v d) (smR v d) (!smBad v d) w) := by
  by_cases hd : d = 0
  · subst hd
    obtain ⟨x1, x2, x3⟩ := sm_none v 0 (Or.inl rfl)
    rw [x1, x2, x3]
    clear x1 x2 x3
    go_enter Try.func37, Try.ntmps37
    go_wp2
    go_ret3
    exact Ret3.same rfl
  · have hs0 := sg_zero d g0 g1 hd
    have hsb := sg_bd d g0 g1
    have hnb := wrap64_bd v
    have hd0 : (d == 0) = false := by simpa using hd
    have hm := tmod_bd (wrap64 v) (sg d) hs0
    rcases tdiv_wrap (wrap64 v) (sg d) hnb.1 hnb.2 with ⟨e, b1, b2⟩ | ⟨e, e2, hmin⟩
    · by_cases lo : (wrap64 v).tdiv (sg d) < -2147483648
      · obtain ⟨x1, x2, x3⟩ := sm_none v d (Or.inr (Or.inl lo))
        rw [x1, x2, x3]
        exact rsm_lo v d _ _ _ h0 h1 g0 g1 hd0 rfl rfl hs0 hsb.1 hsb.2 e lo w
      by_cases hi : 2147483647 < (wrap64 v).tdiv (sg d)
      · obtain ⟨x1, x2, x3⟩ := sm_none v d (Or.inr (Or.inr hi))
        rw [x1, x2, x3]
        exact rsm_hi v d _ _ _ h0 h1 g0 g1 hd0 rfl rfl hs0 hsb.1 hsb.2 e hi w
      · obtain ⟨x1, x2, x3⟩ := sm_good v d hd (by omega) (by omega)
        rw [x1, x2, x3]
        by_cases z0 : wrap64 v = 0
        · rw [z0]
          simpa using rsm_x0 v d _ h0 h1 g0 g1 hd0 z0 rfl hs0 w
        by_cases n0 : wrap64 v < 0
        · by_cases m0 : wrap64 v = -9223372036854775808
          · have hm1 : (sg d == -1) = false := by
              rw [beq_eq_false_iff_ne]; intro hm1
              rw [hm1, m0] at b2
              exact absurd b2 (by decide)
            exact rsm_xm v d _ _ _ _ h0 h1 g0 g1 hd0 rfl rfl hs0 hsb.1 hsb.2 e rfl (by omega) (by omega) n0 (decide_eq_true n0) (neg_min _ m0) hm1 w
          · exact rsm_xn v d _ _ _ _ h0 h1 g0 g1 hd0 rfl rfl hs0 hsb.1 hsb.2 e rfl (by omega) (by omega) n0 (decide_eq_true n0) (neg_not _ z0 (by omega) hnb.2) w
        · exact rsm_xp v d _ _ _ _ h0 h1 g0 g1 hd0 rfl rfl hs0 hsb.1 hsb.2 e rfl (by omega) (by omega) (by omega) (decide_eq_false n0) (neg_not _ z0 (by omega) hnb.2) w
    · obtain ⟨x1, x2, x3⟩ := sm_none v d (Or.inr (Or.inr (by omega)))
      rw [x1, x2, x3]
      exact rsm_lo v d _ _ _ h0 h1 g0 g1 hd0 rfl rfl hs0 hsb.1 hsb.2 e2 (by omega) w
theorem rummod_any (v d : Int) (h0 : 0 ≤ v) (h1 : v ≤ 18446744073709551615) (g0 : 0 ≤ d) (g1 : d < 4294967296) (w : World) :
    Calls Try.prog 35 #[.int .u64 v, .int .u32 d] w (Ret3 (umQ v d) (umR v d) (!umBad v d) w) := by
  by_cases hd : d = 0
  · subst hd
    have hb : umBad v 0 = true := by simp [umBad]
    rw [(um_bad v 0 hb).1, (um_bad v 0 hb).2, hb]
    go_enter Try.func35, Try.ntmps35
    go_wp2
    go_ret3
    exact Ret3.same rfl
  · have d1 : 1 ≤ d := by omega
    have hd0 : (d == 0) = false := by simpa using hd
    clear hd
    cases hb : umBad v d
    · obtain ⟨e1, e2, e3, e4⟩ := um_good v d hb
      rw [e1, e2]
      clear e1 e2 hb e3
      go_enter Try.func35, Try.ntmps35
      go_wp2
      go_quiet (fail)
      go_wp2
      go_ret3
      have hq0 : 0 ≤ v / d := Int.ediv_nonneg h0 g0
      exact ⟨ret_three (by omega) (mod_small v d d1 g1) rfl, nq, rfl⟩
    · obtain ⟨e1, e2⟩ := um_bad v d hb
      have e4 : 4294967295 < v / d := by simp only [umBad, decide_eq_true_eq] at hb; omega
      rw [e1, e2]
      clear e1 e2 hb
      go_enter Try.func35, Try.ntmps35
      go_wp2
      go_ret3
      exact Ret3.same rfl
theorem ummod_any (v d : Int) (h0 : 0 ≤ v) (h1 : v ≤ 18446744073709551615) (g0 : 0 ≤ d) (g1 : d < 4294967296) (w : World) :
    Calls Try.prog 34 #[.int .u64 v, .int .u32 d] w (Ret3 (umQ v d) (umR v d) (!umBad v d) w) := by
  go_enter Try.func34, Try.ntmps34
  go_wp2_with (go_at_call 42; refine (divide0 v d h0 h1 g0 g1 _).mono ?_; rintro e w' ⟨rfl, n, rfl⟩)
  go_ret3
  exact ⟨rfl, n, rfl⟩
theorem smrem_any (v d : Int) (h0 : 0 ≤ v) (h1 : v ≤ 18446744073709551615) (g0 : 0 ≤ d) (g1 : d < 4294967296) (w : World) :
    Calls Try.prog 36 #[.int .u64 v, .int .u32 d] w (Ret3 (smQ v d) (smR v d) (!smBad v d) w) := by
  go_enter Try.func36, Try.ntmps36
  go_wp2_with (go_at_call 42; refine (divide1_any v d h0 h1 g0 g1 _).mono ?_; rintro e w' ⟨rfl, n, rfl⟩)
  go_ret3
  exact ⟨rfl, n, rfl⟩
theorem fmmod_any (v d : Int) (h0 : 0 ≤ v) (h1 : v ≤ 18446744073709551615) (g0 : 0 ≤ d) (g1 : d < 4294967296) (w : World) :
    Calls Try.prog 38 #[.int .u64 v, .int .u32 d] w (Ret3 (fmQ v d) (fmR v d) (!fmBad v d) w) := by
  go_enter Try.func38, Try.ntmps38
  go_wp2_with (go_at_call 42; refine (divide2_any v d h0 h1 g0 g1 _).mono ?_; rintro e w' ⟨rfl, n, rfl⟩)
  go_ret3
  exact ⟨rfl, n, rfl⟩
end Go.Proofs.Ytgdfekmfgoaihaa
