/- What the divisions of double words answer, in the code and in the reference: the same, for every double word and every divisor. -/
import Derived.Test.YtgdfekmfgoaihaaWords
namespace Go.Proofs.Ytgdfekmfgoaihaa
open Go.RowKit
set_option linter.unusedVariables false

/-- The three results behind a way that draws an order: the values, and only draws in the world. -/
def Ret3 (q r : Int) (ok : Bool) (w : World) (e : Ending) (w' : World) : Prop := e = .returned (.tuple #[.int .u32 q, .int .u32 r, .bool ok]) ∧ ∃ n, w' = w.drewN n
theorem Ret3.same {q r : Int} {ok : Bool} {w : World} {e : Ending} (h : e = .returned (.tuple #[.int .u32 q, .int .u32 r, .bool ok])) : Ret3 q r ok w e w := ⟨h, 0, rfl⟩

theorem um_bad (v d : Int) (h : umBad v d = true) : umQ v d = 0 ∧ umR v d = 0 := by simp [umQ, umR, h]
theorem um_good (v d : Int) (h : umBad v d = false) : umQ v d = v / d ∧ umR v d = v % d ∧ ¬ d = 0 ∧ v / d ≤ 4294967295 := by
  refine ⟨by simp [umQ, h], by simp [umR, h], ?_, ?_⟩ <;> simp only [umBad, decide_eq_false_iff_not, not_or] at h <;> omega

theorem mod_small (v d : Int) (d1 : 1 ≤ d) (g1 : d < 4294967296) : v % d % 4294967296 = v % d := by
  have h2 : 0 ≤ v % d := Int.emod_nonneg _ (by omega)
  have h3 : v % d < d := Int.emod_lt_of_pos _ (by omega)
  omega

/-- divide, unsigned. -/
theorem divide0 (v d : Int) (h0 : 0 ≤ v) (h1 : v ≤ 18446744073709551615) (g0 : 0 ≤ d) (g1 : d < 4294967296) (w : World) :
    Calls Try.prog 42 #[.int .u64 v, .int .u32 d, .int .i64 0] w (Ret3 (umQ v d) (umR v d) (!umBad v d) w) := by
  by_cases hd : d = 0
  · subst hd
    have hb : umBad v 0 = true := by simp [umBad]
    rw [(um_bad v 0 hb).1, (um_bad v 0 hb).2, hb]
    go_enter Try.func42, Try.ntmps42
    go_wp2
    go_ret3
    exact Ret3.same rfl
  · have d1 : 1 ≤ d := by omega
    have hd0 : (d == 0) = false := by simpa using hd
    clear hd
    cases hb : umBad v d
    · obtain ⟨e1, e2, e3, e4⟩ := um_good v d hb
      rw [e1, e2]
      clear e1 e2 hb e3
      go_enter Try.func42, Try.ntmps42
      go_wp2_with (go_at_call 40; refine (signed_any _ (by omega) (by omega) _).mono ?_; rintro e w' ⟨rfl, rfl⟩)
      go_quiet (fail)
      go_wp2
      go_ret3
      have hq0 : 0 ≤ v / d := Int.ediv_nonneg h0 g0
      exact ⟨ret_three (by omega) (mod_small v d d1 g1) rfl, nq, rfl⟩
    · obtain ⟨e1, e2⟩ := um_bad v d hb
      have e4 : 4294967295 < v / d := by simp only [umBad, decide_eq_true_eq] at hb; omega
      rw [e1, e2]
      clear e1 e2 hb
      go_enter Try.func42, Try.ntmps42
      go_wp2_with (go_at_call 40; refine (signed_any _ (by omega) (by omega) _).mono ?_; rintro e w' ⟨rfl, rfl⟩)
      go_ret3
      exact Ret3.same rfl
/-- divide, symmetric. -/
theorem divide1_walk (v d n s q r : Int) (h0 : 0 ≤ v) (h1 : v ≤ 18446744073709551615) (g0 : 0 ≤ d) (g1 : d < 4294967296) (hd0 : (d == 0) = false) (hn : wrap64 v = n) (hs : sg d = s) (hs0 : ¬ s = 0)
    (hs1 : -2147483648 ≤ s) (hs2 : s ≤ 2147483647) (hr1 : -2147483648 ≤ r) (hr2 : r ≤ 2147483648) (hq : wrap64 (n.tdiv s) = q) (hr : n.tmod s = r) (q0 : -2147483648 ≤ q) (q1 : q ≤ 2147483647) (w : World) :
    Calls Try.prog 42 #[.int .u64 v, .int .u32 d, .int .i64 1] w (Ret3 (q % 4294967296) (r % 4294967296) true w) := by
  go_enter Try.func42, Try.ntmps42
  go_wp2_with (go_at_call 40; refine (signed_any _ (by omega) (by omega) _).mono ?_; rintro e w' ⟨rfl, rfl⟩)
  go_quiet (fail)
  go_wp2
  go_ret3
  exact ⟨ret_three rfl rfl rfl, nq, rfl⟩
theorem divide1_none (v d n s q : Int) (h0 : 0 ≤ v) (h1 : v ≤ 18446744073709551615) (g0 : 0 ≤ d) (g1 : d < 4294967296) (hd0 : (d == 0) = false) (hn : wrap64 v = n) (hs : sg d = s) (hs0 : ¬ s = 0)
    (hq : wrap64 (n.tdiv s) = q) (q2 : -9223372036854775808 ≤ q) (q3 : q ≤ 9223372036854775807) (q0 : q < -2147483648 ∨ 2147483647 < q) (w : World) :
    Calls Try.prog 42 #[.int .u64 v, .int .u32 d, .int .i64 1] w (Ret3 0 0 false w) := by
  rcases q0 with q0 | q0
  all_goals
    go_enter Try.func42, Try.ntmps42
    go_wp2_with (go_at_call 40; refine (signed_any _ (by omega) (by omega) _).mono ?_; rintro e w' ⟨rfl, rfl⟩)
    go_ret3
    exact Ret3.same rfl
/-! divide, floored: by whether there is a rest, and by the signs -/
theorem divide2_z (v d n s q : Int) (h0 : 0 ≤ v) (h1 : v ≤ 18446744073709551615) (g0 : 0 ≤ d) (g1 : d < 4294967296) (hd0 : (d == 0) = false) (hn : wrap64 v = n) (hs : sg d = s) (hs0 : ¬ s = 0)
    (hs1 : -2147483648 ≤ s) (hs2 : s ≤ 2147483647) (hq : wrap64 (n.tdiv s) = q) (hr : n.tmod s = 0) (q0 : -2147483648 ≤ q) (q1 : q ≤ 2147483647) (w : World) :
    Calls Try.prog 42 #[.int .u64 v, .int .u32 d, .int .i64 2] w (Ret3 (q % 4294967296) (0 % 4294967296) true w) := by
  go_enter Try.func42, Try.ntmps42
  go_wp2_with (go_at_call 40; refine (signed_any _ (by omega) (by omega) _).mono ?_; rintro e w' ⟨rfl, rfl⟩)
  go_quiet (fail)
  go_wp2
  go_ret3
  exact ⟨ret_three rfl rfl rfl, nq, rfl⟩
theorem divide2_z_lo (v d n s q : Int) (h0 : 0 ≤ v) (h1 : v ≤ 18446744073709551615) (g0 : 0 ≤ d) (g1 : d < 4294967296) (hd0 : (d == 0) = false) (hn : wrap64 v = n) (hs : sg d = s) (hs0 : ¬ s = 0)
    (hs1 : -2147483648 ≤ s) (hs2 : s ≤ 2147483647) (hq : wrap64 (n.tdiv s) = q) (hr : n.tmod s = 0) (q2 : -9223372036854775808 ≤ q) (q0 : q < -2147483648) (w : World) :
    Calls Try.prog 42 #[.int .u64 v, .int .u32 d, .int .i64 2] w (Ret3 0 0 false w) := by
  go_enter Try.func42, Try.ntmps42
  go_wp2_with (go_at_call 40; refine (signed_any _ (by omega) (by omega) _).mono ?_; rintro e w' ⟨rfl, rfl⟩)
  go_ret3
  exact Ret3.same rfl
theorem divide2_z_hi (v d n s q : Int) (h0 : 0 ≤ v) (h1 : v ≤ 18446744073709551615) (g0 : 0 ≤ d) (g1 : d < 4294967296) (hd0 : (d == 0) = false) (hn : wrap64 v = n) (hs : sg d = s) (hs0 : ¬ s = 0)
    (hs1 : -2147483648 ≤ s) (hs2 : s ≤ 2147483647) (hq : wrap64 (n.tdiv s) = q) (hr : n.tmod s = 0) (q3 : q ≤ 9223372036854775807) (q0 : 2147483647 < q) (w : World) :
    Calls Try.prog 42 #[.int .u64 v, .int .u32 d, .int .i64 2] w (Ret3 0 0 false w) := by
  go_enter Try.func42, Try.ntmps42
  go_wp2_with (go_at_call 40; refine (signed_any _ (by omega) (by omega) _).mono ?_; rintro e w' ⟨rfl, rfl⟩)
  go_ret3
  exact Ret3.same rfl
theorem divide2_nn (v d n s q r : Int) (h0 : 0 ≤ v) (h1 : v ≤ 18446744073709551615) (g0 : 0 ≤ d) (g1 : d < 4294967296) (hd0 : (d == 0) = false) (hn : wrap64 v = n) (hs : sg d = s) (hs0 : ¬ s = 0)
    (hs1 : -2147483648 ≤ s) (hs2 : s ≤ 2147483647) (hq : wrap64 (n.tdiv s) = q) (hr1 : -2147483648 ≤ r) (hr2 : r ≤ 2147483648) (hr : n.tmod s = r) (hr0 : (r != 0) = true) (hx : n < 0) (hxb : decide (n < 0) = true) (hy : s < 0) (hyb : decide (s < 0) = true) (q0 : -2147483648 ≤ q) (q1 : q ≤ 2147483647) (w : World) :
    Calls Try.prog 42 #[.int .u64 v, .int .u32 d, .int .i64 2] w (Ret3 (q % 4294967296) (r % 4294967296) true w) := by
  go_enter Try.func42, Try.ntmps42
  go_wp2_with (go_at_call 40; refine (signed_any _ (by omega) (by omega) _).mono ?_; rintro e w' ⟨rfl, rfl⟩)
  go_quiet (fail)
  go_wp2
  go_ret3
  exact ⟨ret_three rfl rfl rfl, nq, rfl⟩
theorem divide2_nn_lo (v d n s q r : Int) (h0 : 0 ≤ v) (h1 : v ≤ 18446744073709551615) (g0 : 0 ≤ d) (g1 : d < 4294967296) (hd0 : (d == 0) = false) (hn : wrap64 v = n) (hs : sg d = s) (hs0 : ¬ s = 0)
    (hs1 : -2147483648 ≤ s) (hs2 : s ≤ 2147483647) (hq : wrap64 (n.tdiv s) = q) (hr1 : -2147483648 ≤ r) (hr2 : r ≤ 2147483648) (hr : n.tmod s = r) (hr0 : (r != 0) = true) (hx : n < 0) (hxb : decide (n < 0) = true) (hy : s < 0) (hyb : decide (s < 0) = true) (q2 : -9223372036854775808 ≤ q) (q0 : q < -2147483648) (w : World) :
    Calls Try.prog 42 #[.int .u64 v, .int .u32 d, .int .i64 2] w (Ret3 0 0 false w) := by
  go_enter Try.func42, Try.ntmps42
  go_wp2_with (go_at_call 40; refine (signed_any _ (by omega) (by omega) _).mono ?_; rintro e w' ⟨rfl, rfl⟩)
  go_ret3
  exact Ret3.same rfl
theorem divide2_nn_hi (v d n s q r : Int) (h0 : 0 ≤ v) (h1 : v ≤ 18446744073709551615) (g0 : 0 ≤ d) (g1 : d < 4294967296) (hd0 : (d == 0) = false) (hn : wrap64 v = n) (hs : sg d = s) (hs0 : ¬ s = 0)
    (hs1 : -2147483648 ≤ s) (hs2 : s ≤ 2147483647) (hq : wrap64 (n.tdiv s) = q) (hr1 : -2147483648 ≤ r) (hr2 : r ≤ 2147483648) (hr : n.tmod s = r) (hr0 : (r != 0) = true) (hx : n < 0) (hxb : decide (n < 0) = true) (hy : s < 0) (hyb : decide (s < 0) = true) (q3 : q ≤ 9223372036854775807) (q0 : 2147483647 < q) (w : World) :
    Calls Try.prog 42 #[.int .u64 v, .int .u32 d, .int .i64 2] w (Ret3 0 0 false w) := by
  go_enter Try.func42, Try.ntmps42
  go_wp2_with (go_at_call 40; refine (signed_any _ (by omega) (by omega) _).mono ?_; rintro e w' ⟨rfl, rfl⟩)
  go_ret3
  exact Ret3.same rfl
theorem divide2_pp (v d n s q r : Int) (h0 : 0 ≤ v) (h1 : v ≤ 18446744073709551615) (g0 : 0 ≤ d) (g1 : d < 4294967296) (hd0 : (d == 0) = false) (hn : wrap64 v = n) (hs : sg d = s) (hs0 : ¬ s = 0)
    (hs1 : -2147483648 ≤ s) (hs2 : s ≤ 2147483647) (hq : wrap64 (n.tdiv s) = q) (hr1 : -2147483648 ≤ r) (hr2 : r ≤ 2147483648) (hr : n.tmod s = r) (hr0 : (r != 0) = true) (hx : 0 ≤ n) (hxb : decide (n < 0) = false) (hy : 0 ≤ s) (hyb : decide (s < 0) = false) (q0 : -2147483648 ≤ q) (q1 : q ≤ 2147483647) (w : World) :
    Calls Try.prog 42 #[.int .u64 v, .int .u32 d, .int .i64 2] w (Ret3 (q % 4294967296) (r % 4294967296) true w) := by
  go_enter Try.func42, Try.ntmps42
  go_wp2_with (go_at_call 40; refine (signed_any _ (by omega) (by omega) _).mono ?_; rintro e w' ⟨rfl, rfl⟩)
  go_quiet (fail)
  go_wp2
  go_ret3
  exact ⟨ret_three rfl rfl rfl, nq, rfl⟩
theorem divide2_pp_lo (v d n s q r : Int) (h0 : 0 ≤ v) (h1 : v ≤ 18446744073709551615) (g0 : 0 ≤ d) (g1 : d < 4294967296) (hd0 : (d == 0) = false) (hn : wrap64 v = n) (hs : sg d = s) (hs0 : ¬ s = 0)
    (hs1 : -2147483648 ≤ s) (hs2 : s ≤ 2147483647) (hq : wrap64 (n.tdiv s) = q) (hr1 : -2147483648 ≤ r) (hr2 : r ≤ 2147483648) (hr : n.tmod s = r) (hr0 : (r != 0) = true) (hx : 0 ≤ n) (hxb : decide (n < 0) = false) (hy : 0 ≤ s) (hyb : decide (s < 0) = false) (q2 : -9223372036854775808 ≤ q) (q0 : q < -2147483648) (w : World) :
    Calls Try.prog 42 #[.int .u64 v, .int .u32 d, .int .i64 2] w (Ret3 0 0 false w) := by
  go_enter Try.func42, Try.ntmps42
  go_wp2_with (go_at_call 40; refine (signed_any _ (by omega) (by omega) _).mono ?_; rintro e w' ⟨rfl, rfl⟩)
  go_ret3
  exact Ret3.same rfl
theorem divide2_pp_hi (v d n s q r : Int) (h0 : 0 ≤ v) (h1 : v ≤ 18446744073709551615) (g0 : 0 ≤ d) (g1 : d < 4294967296) (hd0 : (d == 0) = false) (hn : wrap64 v = n) (hs : sg d = s) (hs0 : ¬ s = 0)
    (hs1 : -2147483648 ≤ s) (hs2 : s ≤ 2147483647) (hq : wrap64 (n.tdiv s) = q) (hr1 : -2147483648 ≤ r) (hr2 : r ≤ 2147483648) (hr : n.tmod s = r) (hr0 : (r != 0) = true) (hx : 0 ≤ n) (hxb : decide (n < 0) = false) (hy : 0 ≤ s) (hyb : decide (s < 0) = false) (q3 : q ≤ 9223372036854775807) (q0 : 2147483647 < q) (w : World) :
    Calls Try.prog 42 #[.int .u64 v, .int .u32 d, .int .i64 2] w (Ret3 0 0 false w) := by
  go_enter Try.func42, Try.ntmps42
  go_wp2_with (go_at_call 40; refine (signed_any _ (by omega) (by omega) _).mono ?_; rintro e w' ⟨rfl, rfl⟩)
  go_ret3
  exact Ret3.same rfl
theorem divide2_np (v d n s q r : Int) (h0 : 0 ≤ v) (h1 : v ≤ 18446744073709551615) (g0 : 0 ≤ d) (g1 : d < 4294967296) (hd0 : (d == 0) = false) (hn : wrap64 v = n) (hs : sg d = s) (hs0 : ¬ s = 0)
    (hs1 : -2147483648 ≤ s) (hs2 : s ≤ 2147483647) (hq : wrap64 (n.tdiv s) = q) (hr1 : -2147483648 ≤ r) (hr2 : r ≤ 2147483648) (hr : n.tmod s = r) (hr0 : (r != 0) = true) (hx : n < 0) (hxb : decide (n < 0) = true) (hy : 0 ≤ s) (hyb : decide (s < 0) = false) (q0 : -2147483648 ≤ q - 1) (q1 : q - 1 ≤ 2147483647) (w : World) :
    Calls Try.prog 42 #[.int .u64 v, .int .u32 d, .int .i64 2] w (Ret3 ((q - 1) % 4294967296) ((r + s) % 4294967296) true w) := by
  go_enter Try.func42, Try.ntmps42
  go_wp2_with (go_at_call 40; refine (signed_any _ (by omega) (by omega) _).mono ?_; rintro e w' ⟨rfl, rfl⟩)
  go_quiet (fail)
  go_wp2
  go_ret3
  exact ⟨ret_three rfl rfl rfl, nq, rfl⟩
theorem divide2_np_lo (v d n s q r : Int) (h0 : 0 ≤ v) (h1 : v ≤ 18446744073709551615) (g0 : 0 ≤ d) (g1 : d < 4294967296) (hd0 : (d == 0) = false) (hn : wrap64 v = n) (hs : sg d = s) (hs0 : ¬ s = 0)
    (hs1 : -2147483648 ≤ s) (hs2 : s ≤ 2147483647) (hq : wrap64 (n.tdiv s) = q) (hr1 : -2147483648 ≤ r) (hr2 : r ≤ 2147483648) (hr : n.tmod s = r) (hr0 : (r != 0) = true) (hx : n < 0) (hxb : decide (n < 0) = true) (hy : 0 ≤ s) (hyb : decide (s < 0) = false) (q2 : -9223372036854775808 ≤ q - 1) (q0 : q - 1 < -2147483648) (w : World) :
    Calls Try.prog 42 #[.int .u64 v, .int .u32 d, .int .i64 2] w (Ret3 0 0 false w) := by
  go_enter Try.func42, Try.ntmps42
  go_wp2_with (go_at_call 40; refine (signed_any _ (by omega) (by omega) _).mono ?_; rintro e w' ⟨rfl, rfl⟩)
  go_ret3
  exact Ret3.same rfl
theorem divide2_np_hi (v d n s q r : Int) (h0 : 0 ≤ v) (h1 : v ≤ 18446744073709551615) (g0 : 0 ≤ d) (g1 : d < 4294967296) (hd0 : (d == 0) = false) (hn : wrap64 v = n) (hs : sg d = s) (hs0 : ¬ s = 0)
    (hs1 : -2147483648 ≤ s) (hs2 : s ≤ 2147483647) (hq : wrap64 (n.tdiv s) = q) (hr1 : -2147483648 ≤ r) (hr2 : r ≤ 2147483648) (hr : n.tmod s = r) (hr0 : (r != 0) = true) (hx : n < 0) (hxb : decide (n < 0) = true) (hy : 0 ≤ s) (hyb : decide (s < 0) = false) (q3 : q ≤ 9223372036854775807) (q0 : 2147483647 < q - 1) (w : World) :
    Calls Try.prog 42 #[.int .u64 v, .int .u32 d, .int .i64 2] w (Ret3 0 0 false w) := by
  go_enter Try.func42, Try.ntmps42
  go_wp2_with (go_at_call 40; refine (signed_any _ (by omega) (by omega) _).mono ?_; rintro e w' ⟨rfl, rfl⟩)
  go_ret3
  exact Ret3.same rfl
theorem divide2_pn (v d n s q r : Int) (h0 : 0 ≤ v) (h1 : v ≤ 18446744073709551615) (g0 : 0 ≤ d) (g1 : d < 4294967296) (hd0 : (d == 0) = false) (hn : wrap64 v = n) (hs : sg d = s) (hs0 : ¬ s = 0)
    (hs1 : -2147483648 ≤ s) (hs2 : s ≤ 2147483647) (hq : wrap64 (n.tdiv s) = q) (hr1 : -2147483648 ≤ r) (hr2 : r ≤ 2147483648) (hr : n.tmod s = r) (hr0 : (r != 0) = true) (hx : 0 ≤ n) (hxb : decide (n < 0) = false) (hy : s < 0) (hyb : decide (s < 0) = true) (q0 : -2147483648 ≤ q - 1) (q1 : q - 1 ≤ 2147483647) (w : World) :
    Calls Try.prog 42 #[.int .u64 v, .int .u32 d, .int .i64 2] w (Ret3 ((q - 1) % 4294967296) ((r + s) % 4294967296) true w) := by
  go_enter Try.func42, Try.ntmps42
  go_wp2_with (go_at_call 40; refine (signed_any _ (by omega) (by omega) _).mono ?_; rintro e w' ⟨rfl, rfl⟩)
  go_quiet (fail)
  go_wp2
  go_ret3
  exact ⟨ret_three rfl rfl rfl, nq, rfl⟩
theorem divide2_pn_lo (v d n s q r : Int) (h0 : 0 ≤ v) (h1 : v ≤ 18446744073709551615) (g0 : 0 ≤ d) (g1 : d < 4294967296) (hd0 : (d == 0) = false) (hn : wrap64 v = n) (hs : sg d = s) (hs0 : ¬ s = 0)
    (hs1 : -2147483648 ≤ s) (hs2 : s ≤ 2147483647) (hq : wrap64 (n.tdiv s) = q) (hr1 : -2147483648 ≤ r) (hr2 : r ≤ 2147483648) (hr : n.tmod s = r) (hr0 : (r != 0) = true) (hx : 0 ≤ n) (hxb : decide (n < 0) = false) (hy : s < 0) (hyb : decide (s < 0) = true) (q2 : -9223372036854775808 ≤ q - 1) (q0 : q - 1 < -2147483648) (w : World) :
    Calls Try.prog 42 #[.int .u64 v, .int .u32 d, .int .i64 2] w (Ret3 0 0 false w) := by
  go_enter Try.func42, Try.ntmps42
  go_wp2_with (go_at_call 40; refine (signed_any _ (by omega) (by omega) _).mono ?_; rintro e w' ⟨rfl, rfl⟩)
  go_ret3
  exact Ret3.same rfl
theorem divide2_pn_hi (v d n s q r : Int) (h0 : 0 ≤ v) (h1 : v ≤ 18446744073709551615) (g0 : 0 ≤ d) (g1 : d < 4294967296) (hd0 : (d == 0) = false) (hn : wrap64 v = n) (hs : sg d = s) (hs0 : ¬ s = 0)
    (hs1 : -2147483648 ≤ s) (hs2 : s ≤ 2147483647) (hq : wrap64 (n.tdiv s) = q) (hr1 : -2147483648 ≤ r) (hr2 : r ≤ 2147483648) (hr : n.tmod s = r) (hr0 : (r != 0) = true) (hx : 0 ≤ n) (hxb : decide (n < 0) = false) (hy : s < 0) (hyb : decide (s < 0) = true) (q3 : q ≤ 9223372036854775807) (q0 : 2147483647 < q - 1) (w : World) :
    Calls Try.prog 42 #[.int .u64 v, .int .u32 d, .int .i64 2] w (Ret3 0 0 false w) := by
  go_enter Try.func42, Try.ntmps42
  go_wp2_with (go_at_call 40; refine (signed_any _ (by omega) (by omega) _).mono ?_; rintro e w' ⟨rfl, rfl⟩)
  go_ret3
  exact Ret3.same rfl
end Go.Proofs.Ytgdfekmfgoaihaa
