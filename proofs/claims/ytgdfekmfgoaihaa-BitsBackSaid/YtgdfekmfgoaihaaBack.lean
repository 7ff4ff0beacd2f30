/- The law on quotient times divisor and the rest: it returns true, whatever double word and divisor come in. -/
import Derived.Test.YtgdfekmfgoaihaaLaws
namespace Go.Proofs.Ytgdfekmfgoaihaa
open Go.RowKit
set_option linter.unusedVariables false

theorem back_fff (v d n s q1 r1 q2 r2 q3 r3 : Int) (h0 : 0 ≤ v) (h1 : v ≤ 18446744073709551615) (g0 : 0 ≤ d) (g1 : d < 4294967296) (hn : wrap64 v = n) (hs : sg d = s) (sz : sg 0 = 0)
    (a1 : 0 ≤ q1) (a2 : q1 < 4294967296) (a3 : 0 ≤ r1) (a4 : r1 < 4294967296) (b1 : 0 ≤ q2) (b2 : q2 < 4294967296) (b3 : 0 ≤ r2) (b4 : r2 < 4294967296) (d1 : 0 ≤ q3) (d2 : q3 < 4294967296) (d3 : 0 ≤ r3) (d4 : r3 < 4294967296)   
    (c1 : Hid (∀ w, Calls Try.prog 34 #[.int .u64 v, .int .u32 d] w (Ret3 q1 r1 false w))) (c2 : Hid (∀ w, Calls Try.prog 36 #[.int .u64 v, .int .u32 d] w (Ret3 q2 r2 false w))) (c3 : Hid (∀ w, Calls Try.prog 38 #[.int .u64 v, .int .u32 d] w (Ret3 q3 r3 false w))) (w : World) :
    Calls Try.prog 6 #[.int .u64 v, .int .u32 d] w (Yes w) := by
  go_enter Try.func6, Try.ntmps6
  go_wp2_with (first | (go_at_call 34; (with_reducible refine (c1.out _).mono ?_); rintro e w' ⟨rfl, n, rfl⟩) | (go_at_call 36; (with_reducible refine (c2.out _).mono ?_); rintro e w' ⟨rfl, n, rfl⟩) | (go_at_call 38; (with_reducible refine (c3.out _).mono ?_); rintro e w' ⟨rfl, n, rfl⟩) | (go_at_call 16; refine (rsigned_any _ (by first | assumption | decide) (by first | assumption | decide) _).mono ?_; rintro e w' ⟨rfl, rfl⟩) | (go_at_call 17; refine (knows_any _).mono ?_; rintro e w' ⟨rfl, n, rfl⟩))
  go_ret
  exact ⟨rfl, _, rfl⟩
theorem back_ffz (v d n s q1 r1 q2 r2 q3 r3 : Int) (h0 : 0 ≤ v) (h1 : v ≤ 18446744073709551615) (g0 : 0 ≤ d) (g1 : d < 4294967296) (hn : wrap64 v = n) (hs : sg d = s) (sz : sg 0 = 0)
    (a1 : 0 ≤ q1) (a2 : q1 < 4294967296) (a3 : 0 ≤ r1) (a4 : r1 < 4294967296) (b1 : 0 ≤ q2) (b2 : q2 < 4294967296) (b3 : 0 ≤ r2) (b4 : r2 < 4294967296) (d1 : 0 ≤ q3) (d2 : q3 < 4294967296) (d3 : 0 ≤ r3) (d4 : r3 < 4294967296)   (e3 : r3 = 0) (p30 : -4611686018427387904 ≤ sg q3 * s) (p31 : sg q3 * s ≤ 4611686018427387904) (p32 : sg q3 * s = n)
    (c1 : Hid (∀ w, Calls Try.prog 34 #[.int .u64 v, .int .u32 d] w (Ret3 q1 r1 false w))) (c2 : Hid (∀ w, Calls Try.prog 36 #[.int .u64 v, .int .u32 d] w (Ret3 q2 r2 false w))) (c3 : Hid (∀ w, Calls Try.prog 38 #[.int .u64 v, .int .u32 d] w (Ret3 q3 r3 true w))) (w : World) :
    Calls Try.prog 6 #[.int .u64 v, .int .u32 d] w (Yes w) := by
  subst e3
  go_enter Try.func6, Try.ntmps6
  go_wp2_with (first | (go_at_call 34; (with_reducible refine (c1.out _).mono ?_); rintro e w' ⟨rfl, n, rfl⟩) | (go_at_call 36; (with_reducible refine (c2.out _).mono ?_); rintro e w' ⟨rfl, n, rfl⟩) | (go_at_call 38; (with_reducible refine (c3.out _).mono ?_); rintro e w' ⟨rfl, n, rfl⟩) | (go_at_call 16; refine (rsigned_any _ (by first | assumption | decide) (by first | assumption | decide) _).mono ?_; rintro e w' ⟨rfl, rfl⟩) | (go_at_call 17; refine (knows_any _).mono ?_; rintro e w' ⟨rfl, n, rfl⟩))
  go_ret
  exact ⟨rfl, _, rfl⟩
theorem back_fft (v d n s q1 r1 q2 r2 q3 r3 : Int) (h0 : 0 ≤ v) (h1 : v ≤ 18446744073709551615) (g0 : 0 ≤ d) (g1 : d < 4294967296) (hn : wrap64 v = n) (hs : sg d = s) (sz : sg 0 = 0)
    (a1 : 0 ≤ q1) (a2 : q1 < 4294967296) (a3 : 0 ≤ r1) (a4 : r1 < 4294967296) (b1 : 0 ≤ q2) (b2 : q2 < 4294967296) (b3 : 0 ≤ r2) (b4 : r2 < 4294967296) (d1 : 0 ≤ q3) (d2 : q3 < 4294967296) (d3 : 0 ≤ r3) (d4 : r3 < 4294967296)   (e3 : (r3 == 0) = false) (p30 : -4611686018427387904 ≤ sg q3 * s) (p31 : sg q3 * s ≤ 4611686018427387904) (p32 : sg q3 * s + sg r3 = n) (p33 : -2147483648 ≤ sg r3) (p34 : sg r3 ≤ 2147483647) (p35 : sg r3 < 0 ↔ s < 0)
    (c1 : Hid (∀ w, Calls Try.prog 34 #[.int .u64 v, .int .u32 d] w (Ret3 q1 r1 false w))) (c2 : Hid (∀ w, Calls Try.prog 36 #[.int .u64 v, .int .u32 d] w (Ret3 q2 r2 false w))) (c3 : Hid (∀ w, Calls Try.prog 38 #[.int .u64 v, .int .u32 d] w (Ret3 q3 r3 true w))) (w : World) :
    Calls Try.prog 6 #[.int .u64 v, .int .u32 d] w (Yes w) := by
  go_enter Try.func6, Try.ntmps6
  go_wp2_with (first | (go_at_call 34; (with_reducible refine (c1.out _).mono ?_); rintro e w' ⟨rfl, n, rfl⟩) | (go_at_call 36; (with_reducible refine (c2.out _).mono ?_); rintro e w' ⟨rfl, n, rfl⟩) | (go_at_call 38; (with_reducible refine (c3.out _).mono ?_); rintro e w' ⟨rfl, n, rfl⟩) | (go_at_call 16; refine (rsigned_any _ (by first | assumption | decide) (by first | assumption | decide) _).mono ?_; rintro e w' ⟨rfl, rfl⟩) | (go_at_call 17; refine (knows_any _).mono ?_; rintro e w' ⟨rfl, n, rfl⟩))
  go_ret
  exact ⟨rfl, _, rfl⟩
theorem back_fzf (v d n s q1 r1 q2 r2 q3 r3 : Int) (h0 : 0 ≤ v) (h1 : v ≤ 18446744073709551615) (g0 : 0 ≤ d) (g1 : d < 4294967296) (hn : wrap64 v = n) (hs : sg d = s) (sz : sg 0 = 0)
    (a1 : 0 ≤ q1) (a2 : q1 < 4294967296) (a3 : 0 ≤ r1) (a4 : r1 < 4294967296) (b1 : 0 ≤ q2) (b2 : q2 < 4294967296) (b3 : 0 ≤ r2) (b4 : r2 < 4294967296) (d1 : 0 ≤ q3) (d2 : q3 < 4294967296) (d3 : 0 ≤ r3) (d4 : r3 < 4294967296)  (e2 : r2 = 0) (p20 : -4611686018427387904 ≤ sg q2 * s) (p21 : sg q2 * s ≤ 4611686018427387904) (p22 : sg q2 * s = n) 
    (c1 : Hid (∀ w, Calls Try.prog 34 #[.int .u64 v, .int .u32 d] w (Ret3 q1 r1 false w))) (c2 : Hid (∀ w, Calls Try.prog 36 #[.int .u64 v, .int .u32 d] w (Ret3 q2 r2 true w))) (c3 : Hid (∀ w, Calls Try.prog 38 #[.int .u64 v, .int .u32 d] w (Ret3 q3 r3 false w))) (w : World) :
    Calls Try.prog 6 #[.int .u64 v, .int .u32 d] w (Yes w) := by
  subst e2
  go_enter Try.func6, Try.ntmps6
  go_wp2_with (first | (go_at_call 34; (with_reducible refine (c1.out _).mono ?_); rintro e w' ⟨rfl, n, rfl⟩) | (go_at_call 36; (with_reducible refine (c2.out _).mono ?_); rintro e w' ⟨rfl, n, rfl⟩) | (go_at_call 38; (with_reducible refine (c3.out _).mono ?_); rintro e w' ⟨rfl, n, rfl⟩) | (go_at_call 16; refine (rsigned_any _ (by first | assumption | decide) (by first | assumption | decide) _).mono ?_; rintro e w' ⟨rfl, rfl⟩) | (go_at_call 17; refine (knows_any _).mono ?_; rintro e w' ⟨rfl, n, rfl⟩))
  go_ret
  exact ⟨rfl, _, rfl⟩
theorem back_fzz (v d n s q1 r1 q2 r2 q3 r3 : Int) (h0 : 0 ≤ v) (h1 : v ≤ 18446744073709551615) (g0 : 0 ≤ d) (g1 : d < 4294967296) (hn : wrap64 v = n) (hs : sg d = s) (sz : sg 0 = 0)
    (a1 : 0 ≤ q1) (a2 : q1 < 4294967296) (a3 : 0 ≤ r1) (a4 : r1 < 4294967296) (b1 : 0 ≤ q2) (b2 : q2 < 4294967296) (b3 : 0 ≤ r2) (b4 : r2 < 4294967296) (d1 : 0 ≤ q3) (d2 : q3 < 4294967296) (d3 : 0 ≤ r3) (d4 : r3 < 4294967296)  (e2 : r2 = 0) (p20 : -4611686018427387904 ≤ sg q2 * s) (p21 : sg q2 * s ≤ 4611686018427387904) (p22 : sg q2 * s = n) (e3 : r3 = 0) (p30 : -4611686018427387904 ≤ sg q3 * s) (p31 : sg q3 * s ≤ 4611686018427387904) (p32 : sg q3 * s = n)
    (c1 : Hid (∀ w, Calls Try.prog 34 #[.int .u64 v, .int .u32 d] w (Ret3 q1 r1 false w))) (c2 : Hid (∀ w, Calls Try.prog 36 #[.int .u64 v, .int .u32 d] w (Ret3 q2 r2 true w))) (c3 : Hid (∀ w, Calls Try.prog 38 #[.int .u64 v, .int .u32 d] w (Ret3 q3 r3 true w))) (w : World) :
    Calls Try.prog 6 #[.int .u64 v, .int .u32 d] w (Yes w) := by
  subst e2
  subst e3
  go_enter Try.func6, Try.ntmps6
  go_wp2_with (first | (go_at_call 34; (with_reducible refine (c1.out _).mono ?_); rintro e w' ⟨rfl, n, rfl⟩) | (go_at_call 36; (with_reducible refine (c2.out _).mono ?_); rintro e w' ⟨rfl, n, rfl⟩) | (go_at_call 38; (with_reducible refine (c3.out _).mono ?_); rintro e w' ⟨rfl, n, rfl⟩) | (go_at_call 16; refine (rsigned_any _ (by first | assumption | decide) (by first | assumption | decide) _).mono ?_; rintro e w' ⟨rfl, rfl⟩) | (go_at_call 17; refine (knows_any _).mono ?_; rintro e w' ⟨rfl, n, rfl⟩))
  go_ret
  exact ⟨rfl, _, rfl⟩
theorem back_fzt (v d n s q1 r1 q2 r2 q3 r3 : Int) (h0 : 0 ≤ v) (h1 : v ≤ 18446744073709551615) (g0 : 0 ≤ d) (g1 : d < 4294967296) (hn : wrap64 v = n) (hs : sg d = s) (sz : sg 0 = 0)
    (a1 : 0 ≤ q1) (a2 : q1 < 4294967296) (a3 : 0 ≤ r1) (a4 : r1 < 4294967296) (b1 : 0 ≤ q2) (b2 : q2 < 4294967296) (b3 : 0 ≤ r2) (b4 : r2 < 4294967296) (d1 : 0 ≤ q3) (d2 : q3 < 4294967296) (d3 : 0 ≤ r3) (d4 : r3 < 4294967296)  (e2 : r2 = 0) (p20 : -4611686018427387904 ≤ sg q2 * s) (p21 : sg q2 * s ≤ 4611686018427387904) (p22 : sg q2 * s = n) (e3 : (r3 == 0) = false) (p30 : -4611686018427387904 ≤ sg q3 * s) (p31 : sg q3 * s ≤ 4611686018427387904) (p32 : sg q3 * s + sg r3 = n) (p33 : -2147483648 ≤ sg r3) (p34 : sg r3 ≤ 2147483647) (p35 : sg r3 < 0 ↔ s < 0)
    (c1 : Hid (∀ w, Calls Try.prog 34 #[.int .u64 v, .int .u32 d] w (Ret3 q1 r1 false w))) (c2 : Hid (∀ w, Calls Try.prog 36 #[.int .u64 v, .int .u32 d] w (Ret3 q2 r2 true w))) (c3 : Hid (∀ w, Calls Try.prog 38 #[.int .u64 v, .int .u32 d] w (Ret3 q3 r3 true w))) (w : World) :
    Calls Try.prog 6 #[.int .u64 v, .int .u32 d] w (Yes w) := by
  subst e2
  go_enter Try.func6, Try.ntmps6
  go_wp2_with (first | (go_at_call 34; (with_reducible refine (c1.out _).mono ?_); rintro e w' ⟨rfl, n, rfl⟩) | (go_at_call 36; (with_reducible refine (c2.out _).mono ?_); rintro e w' ⟨rfl, n, rfl⟩) | (go_at_call 38; (with_reducible refine (c3.out _).mono ?_); rintro e w' ⟨rfl, n, rfl⟩) | (go_at_call 16; refine (rsigned_any _ (by first | assumption | decide) (by first | assumption | decide) _).mono ?_; rintro e w' ⟨rfl, rfl⟩) | (go_at_call 17; refine (knows_any _).mono ?_; rintro e w' ⟨rfl, n, rfl⟩))
  go_ret
  exact ⟨rfl, _, rfl⟩
theorem back_ftf (v d n s q1 r1 q2 r2 q3 r3 : Int) (h0 : 0 ≤ v) (h1 : v ≤ 18446744073709551615) (g0 : 0 ≤ d) (g1 : d < 4294967296) (hn : wrap64 v = n) (hs : sg d = s) (sz : sg 0 = 0)
    (a1 : 0 ≤ q1) (a2 : q1 < 4294967296) (a3 : 0 ≤ r1) (a4 : r1 < 4294967296) (b1 : 0 ≤ q2) (b2 : q2 < 4294967296) (b3 : 0 ≤ r2) (b4 : r2 < 4294967296) (d1 : 0 ≤ q3) (d2 : q3 < 4294967296) (d3 : 0 ≤ r3) (d4 : r3 < 4294967296)  (e2 : (r2 != 0) = true) (p20 : -4611686018427387904 ≤ sg q2 * s) (p21 : sg q2 * s ≤ 4611686018427387904) (p22 : sg q2 * s + sg r2 = n) (p23 : -2147483648 ≤ sg r2) (p24 : sg r2 ≤ 2147483647) (p25 : sg r2 < 0 ↔ n < 0) 
    (c1 : Hid (∀ w, Calls Try.prog 34 #[.int .u64 v, .int .u32 d] w (Ret3 q1 r1 false w))) (c2 : Hid (∀ w, Calls Try.prog 36 #[.int .u64 v, .int .u32 d] w (Ret3 q2 r2 true w))) (c3 : Hid (∀ w, Calls Try.prog 38 #[.int .u64 v, .int .u32 d] w (Ret3 q3 r3 false w))) (w : World) :
    Calls Try.prog 6 #[.int .u64 v, .int .u32 d] w (Yes w) := by
  go_enter Try.func6, Try.ntmps6
  go_wp2_with (first | (go_at_call 34; (with_reducible refine (c1.out _).mono ?_); rintro e w' ⟨rfl, n, rfl⟩) | (go_at_call 36; (with_reducible refine (c2.out _).mono ?_); rintro e w' ⟨rfl, n, rfl⟩) | (go_at_call 38; (with_reducible refine (c3.out _).mono ?_); rintro e w' ⟨rfl, n, rfl⟩) | (go_at_call 16; refine (rsigned_any _ (by first | assumption | decide) (by first | assumption | decide) _).mono ?_; rintro e w' ⟨rfl, rfl⟩) | (go_at_call 17; refine (knows_any _).mono ?_; rintro e w' ⟨rfl, n, rfl⟩))
  go_ret
  exact ⟨rfl, _, rfl⟩
theorem back_ftz (v d n s q1 r1 q2 r2 q3 r3 : Int) (h0 : 0 ≤ v) (h1 : v ≤ 18446744073709551615) (g0 : 0 ≤ d) (g1 : d < 4294967296) (hn : wrap64 v = n) (hs : sg d = s) (sz : sg 0 = 0)
    (a1 : 0 ≤ q1) (a2 : q1 < 4294967296) (a3 : 0 ≤ r1) (a4 : r1 < 4294967296) (b1 : 0 ≤ q2) (b2 : q2 < 4294967296) (b3 : 0 ≤ r2) (b4 : r2 < 4294967296) (d1 : 0 ≤ q3) (d2 : q3 < 4294967296) (d3 : 0 ≤ r3) (d4 : r3 < 4294967296)  (e2 : (r2 != 0) = true) (p20 : -4611686018427387904 ≤ sg q2 * s) (p21 : sg q2 * s ≤ 4611686018427387904) (p22 : sg q2 * s + sg r2 = n) (p23 : -2147483648 ≤ sg r2) (p24 : sg r2 ≤ 2147483647) (p25 : sg r2 < 0 ↔ n < 0) (e3 : r3 = 0) (p30 : -4611686018427387904 ≤ sg q3 * s) (p31 : sg q3 * s ≤ 4611686018427387904) (p32 : sg q3 * s = n)
    (c1 : Hid (∀ w, Calls Try.prog 34 #[.int .u64 v, .int .u32 d] w (Ret3 q1 r1 false w))) (c2 : Hid (∀ w, Calls Try.prog 36 #[.int .u64 v, .int .u32 d] w (Ret3 q2 r2 true w))) (c3 : Hid (∀ w, Calls Try.prog 38 #[.int .u64 v, .int .u32 d] w (Ret3 q3 r3 true w))) (w : World) :
    Calls Try.prog 6 #[.int .u64 v, .int .u32 d] w (Yes w) := by
  subst e3
  go_enter Try.func6, Try.ntmps6
  go_wp2_with (first | (go_at_call 34; (with_reducible refine (c1.out _).mono ?_); rintro e w' ⟨rfl, n, rfl⟩) | (go_at_call 36; (with_reducible refine (c2.out _).mono ?_); rintro e w' ⟨rfl, n, rfl⟩) | (go_at_call 38; (with_reducible refine (c3.out _).mono ?_); rintro e w' ⟨rfl, n, rfl⟩) | (go_at_call 16; refine (rsigned_any _ (by first | assumption | decide) (by first | assumption | decide) _).mono ?_; rintro e w' ⟨rfl, rfl⟩) | (go_at_call 17; refine (knows_any _).mono ?_; rintro e w' ⟨rfl, n, rfl⟩))
  go_ret
  exact ⟨rfl, _, rfl⟩
theorem back_ftt (v d n s q1 r1 q2 r2 q3 r3 : Int) (h0 : 0 ≤ v) (h1 : v ≤ 18446744073709551615) (g0 : 0 ≤ d) (g1 : d < 4294967296) (hn : wrap64 v = n) (hs : sg d = s) (sz : sg 0 = 0)
    (a1 : 0 ≤ q1) (a2 : q1 < 4294967296) (a3 : 0 ≤ r1) (a4 : r1 < 4294967296) (b1 : 0 ≤ q2) (b2 : q2 < 4294967296) (b3 : 0 ≤ r2) (b4 : r2 < 4294967296) (d1 : 0 ≤ q3) (d2 : q3 < 4294967296) (d3 : 0 ≤ r3) (d4 : r3 < 4294967296)  (e2 : (r2 != 0) = true) (p20 : -4611686018427387904 ≤ sg q2 * s) (p21 : sg q2 * s ≤ 4611686018427387904) (p22 : sg q2 * s + sg r2 = n) (p23 : -2147483648 ≤ sg r2) (p24 : sg r2 ≤ 2147483647) (p25 : sg r2 < 0 ↔ n < 0) (e3 : (r3 == 0) = false) (p30 : -4611686018427387904 ≤ sg q3 * s) (p31 : sg q3 * s ≤ 4611686018427387904) (p32 : sg q3 * s + sg r3 = n) (p33 : -2147483648 ≤ sg r3) (p34 : sg r3 ≤ 2147483647) (p35 : sg r3 < 0 ↔ s < 0)
    (c1 : Hid (∀ w, Calls Try.prog 34 #[.int .u64 v, .int .u32 d] w (Ret3 q1 r1 false w))) (c2 : Hid (∀ w, Calls Try.prog 36 #[.int .u64 v, .int .u32 d] w (Ret3 q2 r2 true w))) (c3 : Hid (∀ w, Calls Try.prog 38 #[.int .u64 v, .int .u32 d] w (Ret3 q3 r3 true w))) (w : World) :
    Calls Try.prog 6 #[.int .u64 v, .int .u32 d] w (Yes w) := by
  go_enter Try.func6, Try.ntmps6
  go_wp2_with (first | (go_at_call 34; (with_reducible refine (c1.out _).mono ?_); rintro e w' ⟨rfl, n, rfl⟩) | (go_at_call 36; (with_reducible refine (c2.out _).mono ?_); rintro e w' ⟨rfl, n, rfl⟩) | (go_at_call 38; (with_reducible refine (c3.out _).mono ?_); rintro e w' ⟨rfl, n, rfl⟩) | (go_at_call 16; refine (rsigned_any _ (by first | assumption | decide) (by first | assumption | decide) _).mono ?_; rintro e w' ⟨rfl, rfl⟩) | (go_at_call 17; refine (knows_any _).mono ?_; rintro e w' ⟨rfl, n, rfl⟩))
  go_ret
  exact ⟨rfl, _, rfl⟩
theorem back_tff (v d n s q1 r1 q2 r2 q3 r3 : Int) (h0 : 0 ≤ v) (h1 : v ≤ 18446744073709551615) (g0 : 0 ≤ d) (g1 : d < 4294967296) (hn : wrap64 v = n) (hs : sg d = s) (sz : sg 0 = 0)
    (a1 : 0 ≤ q1) (a2 : q1 < 4294967296) (a3 : 0 ≤ r1) (a4 : r1 < 4294967296) (b1 : 0 ≤ q2) (b2 : q2 < 4294967296) (b3 : 0 ≤ r2) (b4 : r2 < 4294967296) (d1 : 0 ≤ q3) (d2 : q3 < 4294967296) (d3 : 0 ≤ r3) (d4 : r3 < 4294967296) (u0 : 0 ≤ q1 * d) (u1 : q1 * d ≤ 18446744073709551615) (u2 : q1 * d + r1 = v) (u3 : r1 < d)  
    (c1 : Hid (∀ w, Calls Try.prog 34 #[.int .u64 v, .int .u32 d] w (Ret3 q1 r1 true w))) (c2 : Hid (∀ w, Calls Try.prog 36 #[.int .u64 v, .int .u32 d] w (Ret3 q2 r2 false w))) (c3 : Hid (∀ w, Calls Try.prog 38 #[.int .u64 v, .int .u32 d] w (Ret3 q3 r3 false w))) (w : World) :
    Calls Try.prog 6 #[.int .u64 v, .int .u32 d] w (Yes w) := by
  go_enter Try.func6, Try.ntmps6
  go_wp2_with (first | (go_at_call 34; (with_reducible refine (c1.out _).mono ?_); rintro e w' ⟨rfl, n, rfl⟩) | (go_at_call 36; (with_reducible refine (c2.out _).mono ?_); rintro e w' ⟨rfl, n, rfl⟩) | (go_at_call 38; (with_reducible refine (c3.out _).mono ?_); rintro e w' ⟨rfl, n, rfl⟩) | (go_at_call 16; refine (rsigned_any _ (by first | assumption | decide) (by first | assumption | decide) _).mono ?_; rintro e w' ⟨rfl, rfl⟩) | (go_at_call 17; refine (knows_any _).mono ?_; rintro e w' ⟨rfl, n, rfl⟩))
  go_ret
  exact ⟨rfl, _, rfl⟩
theorem back_tfz (v d n s q1 r1 q2 r2 q3 r3 : Int) (h0 : 0 ≤ v) (h1 : v ≤ 18446744073709551615) (g0 : 0 ≤ d) (g1 : d < 4294967296) (hn : wrap64 v = n) (hs : sg d = s) (sz : sg 0 = 0)
    (a1 : 0 ≤ q1) (a2 : q1 < 4294967296) (a3 : 0 ≤ r1) (a4 : r1 < 4294967296) (b1 : 0 ≤ q2) (b2 : q2 < 4294967296) (b3 : 0 ≤ r2) (b4 : r2 < 4294967296) (d1 : 0 ≤ q3) (d2 : q3 < 4294967296) (d3 : 0 ≤ r3) (d4 : r3 < 4294967296) (u0 : 0 ≤ q1 * d) (u1 : q1 * d ≤ 18446744073709551615) (u2 : q1 * d + r1 = v) (u3 : r1 < d)  (e3 : r3 = 0) (p30 : -4611686018427387904 ≤ sg q3 * s) (p31 : sg q3 * s ≤ 4611686018427387904) (p32 : sg q3 * s = n)
    (c1 : Hid (∀ w, Calls Try.prog 34 #[.int .u64 v, .int .u32 d] w (Ret3 q1 r1 true w))) (c2 : Hid (∀ w, Calls Try.prog 36 #[.int .u64 v, .int .u32 d] w (Ret3 q2 r2 false w))) (c3 : Hid (∀ w, Calls Try.prog 38 #[.int .u64 v, .int .u32 d] w (Ret3 q3 r3 true w))) (w : World) :
    Calls Try.prog 6 #[.int .u64 v, .int .u32 d] w (Yes w) := by
  subst e3
  go_enter Try.func6, Try.ntmps6
  go_wp2_with (first | (go_at_call 34; (with_reducible refine (c1.out _).mono ?_); rintro e w' ⟨rfl, n, rfl⟩) | (go_at_call 36; (with_reducible refine (c2.out _).mono ?_); rintro e w' ⟨rfl, n, rfl⟩) | (go_at_call 38; (with_reducible refine (c3.out _).mono ?_); rintro e w' ⟨rfl, n, rfl⟩) | (go_at_call 16; refine (rsigned_any _ (by first | assumption | decide) (by first | assumption | decide) _).mono ?_; rintro e w' ⟨rfl, rfl⟩) | (go_at_call 17; refine (knows_any _).mono ?_; rintro e w' ⟨rfl, n, rfl⟩))
  go_ret
  exact ⟨rfl, _, rfl⟩
theorem back_tft (v d n s q1 r1 q2 r2 q3 r3 : Int) (h0 : 0 ≤ v) (h1 : v ≤ 18446744073709551615) (g0 : 0 ≤ d) (g1 : d < 4294967296) (hn : wrap64 v = n) (hs : sg d = s) (sz : sg 0 = 0)
    (a1 : 0 ≤ q1) (a2 : q1 < 4294967296) (a3 : 0 ≤ r1) (a4 : r1 < 4294967296) (b1 : 0 ≤ q2) (b2 : q2 < 4294967296) (b3 : 0 ≤ r2) (b4 : r2 < 4294967296) (d1 : 0 ≤ q3) (d2 : q3 < 4294967296) (d3 : 0 ≤ r3) (d4 : r3 < 4294967296) (u0 : 0 ≤ q1 * d) (u1 : q1 * d ≤ 18446744073709551615) (u2 : q1 * d + r1 = v) (u3 : r1 < d)  (e3 : (r3 == 0) = false) (p30 : -4611686018427387904 ≤ sg q3 * s) (p31 : sg q3 * s ≤ 4611686018427387904) (p32 : sg q3 * s + sg r3 = n) (p33 : -2147483648 ≤ sg r3) (p34 : sg r3 ≤ 2147483647) (p35 : sg r3 < 0 ↔ s < 0)
    (c1 : Hid (∀ w, Calls Try.prog 34 #[.int .u64 v, .int .u32 d] w (Ret3 q1 r1 true w))) (c2 : Hid (∀ w, Calls Try.prog 36 #[.int .u64 v, .int .u32 d] w (Ret3 q2 r2 false w))) (c3 : Hid (∀ w, Calls Try.prog 38 #[.int .u64 v, .int .u32 d] w (Ret3 q3 r3 true w))) (w : World) :
    Calls Try.prog 6 #[.int .u64 v, .int .u32 d] w (Yes w) := by
  go_enter Try.func6, Try.ntmps6
  go_wp2_with (first | (go_at_call 34; (with_reducible refine (c1.out _).mono ?_); rintro e w' ⟨rfl, n, rfl⟩) | (go_at_call 36; (with_reducible refine (c2.out _).mono ?_); rintro e w' ⟨rfl, n, rfl⟩) | (go_at_call 38; (with_reducible refine (c3.out _).mono ?_); rintro e w' ⟨rfl, n, rfl⟩) | (go_at_call 16; refine (rsigned_any _ (by first | assumption | decide) (by first | assumption | decide) _).mono ?_; rintro e w' ⟨rfl, rfl⟩) | (go_at_call 17; refine (knows_any _).mono ?_; rintro e w' ⟨rfl, n, rfl⟩))
  go_ret
  exact ⟨rfl, _, rfl⟩
theorem back_tzf (v d n s q1 r1 q2 r2 q3 r3 : Int) (h0 : 0 ≤ v) (h1 : v ≤ 18446744073709551615) (g0 : 0 ≤ d) (g1 : d < 4294967296) (hn : wrap64 v = n) (hs : sg d = s) (sz : sg 0 = 0)
    (a1 : 0 ≤ q1) (a2 : q1 < 4294967296) (a3 : 0 ≤ r1) (a4 : r1 < 4294967296) (b1 : 0 ≤ q2) (b2 : q2 < 4294967296) (b3 : 0 ≤ r2) (b4 : r2 < 4294967296) (d1 : 0 ≤ q3) (d2 : q3 < 4294967296) (d3 : 0 ≤ r3) (d4 : r3 < 4294967296) (u0 : 0 ≤ q1 * d) (u1 : q1 * d ≤ 18446744073709551615) (u2 : q1 * d + r1 = v) (u3 : r1 < d) (e2 : r2 = 0) (p20 : -4611686018427387904 ≤ sg q2 * s) (p21 : sg q2 * s ≤ 4611686018427387904) (p22 : sg q2 * s = n) 
    (c1 : Hid (∀ w, Calls Try.prog 34 #[.int .u64 v, .int .u32 d] w (Ret3 q1 r1 true w))) (c2 : Hid (∀ w, Calls Try.prog 36 #[.int .u64 v, .int .u32 d] w (Ret3 q2 r2 true w))) (c3 : Hid (∀ w, Calls Try.prog 38 #[.int .u64 v, .int .u32 d] w (Ret3 q3 r3 false w))) (w : World) :
    Calls Try.prog 6 #[.int .u64 v, .int .u32 d] w (Yes w) := by
  subst e2
  go_enter Try.func6, Try.ntmps6
  go_wp2_with (first | (go_at_call 34; (with_reducible refine (c1.out _).mono ?_); rintro e w' ⟨rfl, n, rfl⟩) | (go_at_call 36; (with_reducible refine (c2.out _).mono ?_); rintro e w' ⟨rfl, n, rfl⟩) | (go_at_call 38; (with_reducible refine (c3.out _).mono ?_); rintro e w' ⟨rfl, n, rfl⟩) | (go_at_call 16; refine (rsigned_any _ (by first | assumption | decide) (by first | assumption | decide) _).mono ?_; rintro e w' ⟨rfl, rfl⟩) | (go_at_call 17; refine (knows_any _).mono ?_; rintro e w' ⟨rfl, n, rfl⟩))
  go_ret
  exact ⟨rfl, _, rfl⟩
theorem back_tzz (v d n s q1 r1 q2 r2 q3 r3 : Int) (h0 : 0 ≤ v) (h1 : v ≤ 18446744073709551615) (g0 : 0 ≤ d) (g1 : d < 4294967296) (hn : wrap64 v = n) (hs : sg d = s) (sz : sg 0 = 0)
    (a1 : 0 ≤ q1) (a2 : q1 < 4294967296) (a3 : 0 ≤ r1) (a4 : r1 < 4294967296) (b1 : 0 ≤ q2) (b2 : q2 < 4294967296) (b3 : 0 ≤ r2) (b4 : r2 < 4294967296) (d1 : 0 ≤ q3) (d2 : q3 < 4294967296) (d3 : 0 ≤ r3) (d4 : r3 < 4294967296) (u0 : 0 ≤ q1 * d) (u1 : q1 * d ≤ 18446744073709551615) (u2 : q1 * d + r1 = v) (u3 : r1 < d) (e2 : r2 = 0) (p20 : -4611686018427387904 ≤ sg q2 * s) (p21 : sg q2 * s ≤ 4611686018427387904) (p22 : sg q2 * s = n) (e3 : r3 = 0) (p30 : -4611686018427387904 ≤ sg q3 * s) (p31 : sg q3 * s ≤ 4611686018427387904) (p32 : sg q3 * s = n)
    (c1 : Hid (∀ w, Calls Try.prog 34 #[.int .u64 v, .int .u32 d] w (Ret3 q1 r1 true w))) (c2 : Hid (∀ w, Calls Try.prog 36 #[.int .u64 v, .int .u32 d] w (Ret3 q2 r2 true w))) (c3 : Hid (∀ w, Calls Try.prog 38 #[.int .u64 v, .int .u32 d] w (Ret3 q3 r3 true w))) (w : World) :
    Calls Try.prog 6 #[.int .u64 v, .int .u32 d] w (Yes w) := by
  subst e2
  subst e3
  go_enter Try.func6, Try.ntmps6
  go_wp2_with (first | (go_at_call 34; (with_reducible refine (c1.out _).mono ?_); rintro e w' ⟨rfl, n, rfl⟩) | (go_at_call 36; (with_reducible refine (c2.out _).mono ?_); rintro e w' ⟨rfl, n, rfl⟩) | (go_at_call 38; (with_reducible refine (c3.out _).mono ?_); rintro e w' ⟨rfl, n, rfl⟩) | (go_at_call 16; refine (rsigned_any _ (by first | assumption | decide) (by first | assumption | decide) _).mono ?_; rintro e w' ⟨rfl, rfl⟩) | (go_at_call 17; refine (knows_any _).mono ?_; rintro e w' ⟨rfl, n, rfl⟩))
  go_ret
  exact ⟨rfl, _, rfl⟩
theorem back_tzt (v d n s q1 r1 q2 r2 q3 r3 : Int) (h0 : 0 ≤ v) (h1 : v ≤ 18446744073709551615) (g0 : 0 ≤ d) (g1 : d < 4294967296) (hn : wrap64 v = n) (hs : sg d = s) (sz : sg 0 = 0)
    (a1 : 0 ≤ q1) (a2 : q1 < 4294967296) (a3 : 0 ≤ r1) (a4 : r1 < 4294967296) (b1 : 0 ≤ q2) (b2 : q2 < 4294967296) (b3 : 0 ≤ r2) (b4 : r2 < 4294967296) (d1 : 0 ≤ q3) (d2 : q3 < 4294967296) (d3 : 0 ≤ r3) (d4 : r3 < 4294967296) (u0 : 0 ≤ q1 * d) (u1 : q1 * d ≤ 18446744073709551615) (u2 : q1 * d + r1 = v) (u3 : r1 < d) (e2 : r2 = 0) (p20 : -4611686018427387904 ≤ sg q2 * s) (p21 : sg q2 * s ≤ 4611686018427387904) (p22 : sg q2 * s = n) (e3 : (r3 == 0) = false) (p30 : -4611686018427387904 ≤ sg q3 * s) (p31 : sg q3 * s ≤ 4611686018427387904) (p32 : sg q3 * s + sg r3 = n) (p33 : -2147483648 ≤ sg r3) (p34 : sg r3 ≤ 2147483647) (p35 : sg r3 < 0 ↔ s < 0)
    (c1 : Hid (∀ w, Calls Try.prog 34 #[.int .u64 v, .int .u32 d] w (Ret3 q1 r1 true w))) (c2 : Hid (∀ w, Calls Try.prog 36 #[.int .u64 v, .int .u32 d] w (Ret3 q2 r2 true w))) (c3 : Hid (∀ w, Calls Try.prog 38 #[.int .u64 v, .int .u32 d] w (Ret3 q3 r3 true w))) (w : World) :
    Calls Try.prog 6 #[.int .u64 v, .int .u32 d] w (Yes w) := by
  subst e2
  go_enter Try.func6, Try.ntmps6
  go_wp2_with (first | (go_at_call 34; (with_reducible refine (c1.out _).mono ?_); rintro e w' ⟨rfl, n, rfl⟩) | (go_at_call 36; (with_reducible refine (c2.out _).mono ?_); rintro e w' ⟨rfl, n, rfl⟩) | (go_at_call 38; (with_reducible refine (c3.out _).mono ?_); rintro e w' ⟨rfl, n, rfl⟩) | (go_at_call 16; refine (rsigned_any _ (by first | assumption | decide) (by first | assumption | decide) _).mono ?_; rintro e w' ⟨rfl, rfl⟩) | (go_at_call 17; refine (knows_any _).mono ?_; rintro e w' ⟨rfl, n, rfl⟩))
  go_ret
  exact ⟨rfl, _, rfl⟩
theorem back_ttf (v d n s q1 r1 q2 r2 q3 r3 : Int) (h0 : 0 ≤ v) (h1 : v ≤ 18446744073709551615) (g0 : 0 ≤ d) (g1 : d < 4294967296) (hn : wrap64 v = n) (hs : sg d = s) (sz : sg 0 = 0)
    (a1 : 0 ≤ q1) (a2 : q1 < 4294967296) (a3 : 0 ≤ r1) (a4 : r1 < 4294967296) (b1 : 0 ≤ q2) (b2 : q2 < 4294967296) (b3 : 0 ≤ r2) (b4 : r2 < 4294967296) (d1 : 0 ≤ q3) (d2 : q3 < 4294967296) (d3 : 0 ≤ r3) (d4 : r3 < 4294967296) (u0 : 0 ≤ q1 * d) (u1 : q1 * d ≤ 18446744073709551615) (u2 : q1 * d + r1 = v) (u3 : r1 < d) (e2 : (r2 != 0) = true) (p20 : -4611686018427387904 ≤ sg q2 * s) (p21 : sg q2 * s ≤ 4611686018427387904) (p22 : sg q2 * s + sg r2 = n) (p23 : -2147483648 ≤ sg r2) (p24 : sg r2 ≤ 2147483647) (p25 : sg r2 < 0 ↔ n < 0) 
    (c1 : Hid (∀ w, Calls Try.prog 34 #[.int .u64 v, .int .u32 d] w (Ret3 q1 r1 true w))) (c2 : Hid (∀ w, Calls Try.prog 36 #[.int .u64 v, .int .u32 d] w (Ret3 q2 r2 true w))) (c3 : Hid (∀ w, Calls Try.prog 38 #[.int .u64 v, .int .u32 d] w (Ret3 q3 r3 false w))) (w : World) :
    Calls Try.prog 6 #[.int .u64 v, .int .u32 d] w (Yes w) := by
  go_enter Try.func6, Try.ntmps6
  go_wp2_with (first | (go_at_call 34; (with_reducible refine (c1.out _).mono ?_); rintro e w' ⟨rfl, n, rfl⟩) | (go_at_call 36; (with_reducible refine (c2.out _).mono ?_); rintro e w' ⟨rfl, n, rfl⟩) | (go_at_call 38; (with_reducible refine (c3.out _).mono ?_); rintro e w' ⟨rfl, n, rfl⟩) | (go_at_call 16; refine (rsigned_any _ (by first | assumption | decide) (by first | assumption | decide) _).mono ?_; rintro e w' ⟨rfl, rfl⟩) | (go_at_call 17; refine (knows_any _).mono ?_; rintro e w' ⟨rfl, n, rfl⟩))
  go_ret
  exact ⟨rfl, _, rfl⟩
theorem back_ttz (v d n s q1 r1 q2 r2 q3 r3 : Int) (h0 : 0 ≤ v) (h1 : v ≤ 18446744073709551615) (g0 : 0 ≤ d) (g1 : d < 4294967296) (hn : wrap64 v = n) (hs : sg d = s) (sz : sg 0 = 0)
    (a1 : 0 ≤ q1) (a2 : q1 < 4294967296) (a3 : 0 ≤ r1) (a4 : r1 < 4294967296) (b1 : 0 ≤ q2) (b2 : q2 < 4294967296) (b3 : 0 ≤ r2) (b4 : r2 < 4294967296) (d1 : 0 ≤ q3) (d2 : q3 < 4294967296) (d3 : 0 ≤ r3) (d4 : r3 < 4294967296) (u0 : 0 ≤ q1 * d) (u1 : q1 * d ≤ 18446744073709551615) (u2 : q1 * d + r1 = v) (u3 : r1 < d) (e2 : (r2 != 0) = true) (p20 : -4611686018427387904 ≤ sg q2 * s) (p21 : sg q2 * s ≤ 4611686018427387904) (p22 : sg q2 * s + sg r2 = n) (p23 : -2147483648 ≤ sg r2) (p24 : sg r2 ≤ 2147483647) (p25 : sg r2 < 0 ↔ n < 0) (e3 : r3 = 0) (p30 : -4611686018427387904 ≤ sg q3 * s) (p31 : sg q3 * s ≤ 4611686018427387904) (p32 : sg q3 * s = n)
    (c1 : Hid (∀ w, Calls Try.prog 34 #[.int .u64 v, .int .u32 d] w (Ret3 q1 r1 true w))) (c2 : Hid (∀ w, Calls Try.prog 36 #[.int .u64 v, .int .u32 d] w (Ret3 q2 r2 true w))) (c3 : Hid (∀ w, Calls Try.prog 38 #[.int .u64 v, .int .u32 d] w (Ret3 q3 r3 true w))) (w : World) :
    Calls Try.prog 6 #[.int .u64 v, .int .u32 d] w (Yes w) := by
  subst e3
  go_enter Try.func6, Try.ntmps6
  go_wp2_with (first | (go_at_call 34; (with_reducible refine (c1.out _).mono ?_); rintro e w' ⟨rfl, n, rfl⟩) | (go_at_call 36; (with_reducible refine (c2.out _).mono ?_); rintro e w' ⟨rfl, n, rfl⟩) | (go_at_call 38; (with_reducible refine (c3.out _).mono ?_); rintro e w' ⟨rfl, n, rfl⟩) | (go_at_call 16; refine (rsigned_any _ (by first | assumption | decide) (by first | assumption | decide) _).mono ?_; rintro e w' ⟨rfl, rfl⟩) | (go_at_call 17; refine (knows_any _).mono ?_; rintro e w' ⟨rfl, n, rfl⟩))
  go_ret
  exact ⟨rfl, _, rfl⟩
theorem back_ttt (v d n s q1 r1 q2 r2 q3 r3 : Int) (h0 : 0 ≤ v) (h1 : v ≤ 18446744073709551615) (g0 : 0 ≤ d) (g1 : d < 4294967296) (hn : wrap64 v = n) (hs : sg d = s) (sz : sg 0 = 0)
    (a1 : 0 ≤ q1) (a2 : q1 < 4294967296) (a3 : 0 ≤ r1) (a4 : r1 < 4294967296) (b1 : 0 ≤ q2) (b2 : q2 < 4294967296) (b3 : 0 ≤ r2) (b4 : r2 < 4294967296) (d1 : 0 ≤ q3) (d2 : q3 < 4294967296) (d3 : 0 ≤ r3) (d4 : r3 < 4294967296) (u0 : 0 ≤ q1 * d) (u1 : q1 * d ≤ 18446744073709551615) (u2 : q1 * d + r1 = v) (u3 : r1 < d) (e2 : (r2 != 0) = true) (p20 : -4611686018427387904 ≤ sg q2 * s) (p21 : sg q2 * s ≤ 4611686018427387904) (p22 : sg q2 * s + sg r2 = n) (p23 : -2147483648 ≤ sg r2) (p24 : sg r2 ≤ 2147483647) (p25 : sg r2 < 0 ↔ n < 0) (e3 : (r3 == 0) = false) (p30 : -4611686018427387904 ≤ sg q3 * s) (p31 : sg q3 * s ≤ 4611686018427387904) (p32 : sg q3 * s + sg r3 = n) (p33 : -2147483648 ≤ sg r3) (p34 : sg r3 ≤ 2147483647) (p35 : sg r3 < 0 ↔ s < 0)
    (c1 : Hid (∀ w, Calls Try.prog 34 #[.int .u64 v, .int .u32 d] w (Ret3 q1 r1 true w))) (c2 : Hid (∀ w, Calls Try.prog 36 #[.int .u64 v, .int .u32 d] w (Ret3 q2 r2 true w))) (c3 : Hid (∀ w, Calls Try.prog 38 #[.int .u64 v, .int .u32 d] w (Ret3 q3 r3 true w))) (w : World) :
    Calls Try.prog 6 #[.int .u64 v, .int .u32 d] w (Yes w) := by
  go_enter Try.func6, Try.ntmps6
  go_wp2_with (first | (go_at_call 34; (with_reducible refine (c1.out _).mono ?_); rintro e w' ⟨rfl, n, rfl⟩) | (go_at_call 36; (with_reducible refine (c2.out _).mono ?_); rintro e w' ⟨rfl, n, rfl⟩) | (go_at_call 38; (with_reducible refine (c3.out _).mono ?_); rintro e w' ⟨rfl, n, rfl⟩) | (go_at_call 16; refine (rsigned_any _ (by first | assumption | decide) (by first | assumption | decide) _).mono ?_; rintro e w' ⟨rfl, rfl⟩) | (go_at_call 17; refine (knows_any _).mono ?_; rintro e w' ⟨rfl, n, rfl⟩))
  go_ret
  exact ⟨rfl, _, rfl⟩
theorem sg_eq_zero (x : Int) (h0 : 0 ≤ x) (h1 : x < 4294967296) (h : sg x = 0) : x = 0 := by unfold sg at h; omega
theorem sign_same (x y : Int) (h : x < 0 ↔ y < 0) : (decide (x < 0) != decide (y < 0)) = false := by simp [h]
theorem back_any (v d : Int) (h0 : 0 ≤ v) (h1 : v ≤ 18446744073709551615) (g0 : 0 ≤ d) (g1 : d < 4294967296) (w : World) :
    Calls Try.prog 6 #[.int .u64 v, .int .u32 d] w (Yes w) := by
  have c1 := Lib.hid fun w => ummod_any v d h0 h1 g0 g1 w
  have c2 := Lib.hid fun w => smrem_any v d h0 h1 g0 g1 w
  have c3 := Lib.hid fun w => fmmod_any v d h0 h1 g0 g1 w
  obtain ⟨a1, a2, a3, a4⟩ := um_bd v d h0 g0 g1
  obtain ⟨b1, b2, b3, b4⟩ := sm_bd v d
  obtain ⟨d1, d2, d3, d4⟩ := fm_bd v d
  have sz : sg 0 = 0 := rfl
  have U : umBad v d = false → umQ v d * d + umR v d = v ∧ umR v d < d ∧ 0 ≤ umR v d ∧ 0 < d := fun h => um_whole v d h g0
  have S := fun h => sm_whole v d h g0 g1
  have F := fun h => fm_whole v d h g0 g1
  cases k1 : umBad v d <;> cases k2 : smBad v d <;> cases k3 : fmBad v d
  all_goals
    rw [k1] at c1; rw [k2] at c2; rw [k3] at c3
  ·
    have hu := U k1
    have hs := S k2
    have hf := F k3
    by_cases e2 : smR v d = 0
    ·
      by_cases e3 : fmR v d = 0
      · exact back_tzz v d _ _ _ _ _ _ _ _ h0 h1 g0 g1 rfl rfl sz a1 a2 a3 a4 b1 b2 b3 b4 d1 d2 d3 d4 (Int.mul_nonneg a1 g0) (by omega) hu.1 hu.2.1 e2 hs.2.1 hs.2.2.1 (by have := hs.1; rw [e2, sz, Int.add_zero] at this; exact this) e3 hf.2.1 hf.2.2.1 (by have := hf.1; rw [e3, sz, Int.add_zero] at this; exact this) c1 c2 c3 w
      · exact back_tzt v d _ _ _ _ _ _ _ _ h0 h1 g0 g1 rfl rfl sz a1 a2 a3 a4 b1 b2 b3 b4 d1 d2 d3 d4 (Int.mul_nonneg a1 g0) (by omega) hu.1 hu.2.1 e2 hs.2.1 hs.2.2.1 (by have := hs.1; rw [e2, sz, Int.add_zero] at this; exact this) (by simpa using e3) hf.2.1 hf.2.2.1 hf.1 hf.2.2.2.2.1 hf.2.2.2.2.2 (hf.2.2.2.1.resolve_left fun hh => e3 (sg_eq_zero _ d3 d4 hh)) c1 c2 c3 w
    ·
      by_cases e3 : fmR v d = 0
      · exact back_ttz v d _ _ _ _ _ _ _ _ h0 h1 g0 g1 rfl rfl sz a1 a2 a3 a4 b1 b2 b3 b4 d1 d2 d3 d4 (Int.mul_nonneg a1 g0) (by omega) hu.1 hu.2.1 (by simpa using e2) hs.2.1 hs.2.2.1 hs.1 hs.2.2.2.2.1 hs.2.2.2.2.2 (hs.2.2.2.1.resolve_left fun hh => e2 (sg_eq_zero _ b3 b4 hh)) e3 hf.2.1 hf.2.2.1 (by have := hf.1; rw [e3, sz, Int.add_zero] at this; exact this) c1 c2 c3 w
      · exact back_ttt v d _ _ _ _ _ _ _ _ h0 h1 g0 g1 rfl rfl sz a1 a2 a3 a4 b1 b2 b3 b4 d1 d2 d3 d4 (Int.mul_nonneg a1 g0) (by omega) hu.1 hu.2.1 (by simpa using e2) hs.2.1 hs.2.2.1 hs.1 hs.2.2.2.2.1 hs.2.2.2.2.2 (hs.2.2.2.1.resolve_left fun hh => e2 (sg_eq_zero _ b3 b4 hh)) (by simpa using e3) hf.2.1 hf.2.2.1 hf.1 hf.2.2.2.2.1 hf.2.2.2.2.2 (hf.2.2.2.1.resolve_left fun hh => e3 (sg_eq_zero _ d3 d4 hh)) c1 c2 c3 w
  ·
    have hu := U k1
    have hs := S k2
    by_cases e2 : smR v d = 0
    ·
      exact back_tzf v d _ _ _ _ _ _ _ _ h0 h1 g0 g1 rfl rfl sz a1 a2 a3 a4 b1 b2 b3 b4 d1 d2 d3 d4 (Int.mul_nonneg a1 g0) (by omega) hu.1 hu.2.1 e2 hs.2.1 hs.2.2.1 (by have := hs.1; rw [e2, sz, Int.add_zero] at this; exact this)  c1 c2 c3 w
    ·
      exact back_ttf v d _ _ _ _ _ _ _ _ h0 h1 g0 g1 rfl rfl sz a1 a2 a3 a4 b1 b2 b3 b4 d1 d2 d3 d4 (Int.mul_nonneg a1 g0) (by omega) hu.1 hu.2.1 (by simpa using e2) hs.2.1 hs.2.2.1 hs.1 hs.2.2.2.2.1 hs.2.2.2.2.2 (hs.2.2.2.1.resolve_left fun hh => e2 (sg_eq_zero _ b3 b4 hh))  c1 c2 c3 w
  ·
    have hu := U k1
    have hf := F k3
    by_cases e3 : fmR v d = 0
    · exact back_tfz v d _ _ _ _ _ _ _ _ h0 h1 g0 g1 rfl rfl sz a1 a2 a3 a4 b1 b2 b3 b4 d1 d2 d3 d4 (Int.mul_nonneg a1 g0) (by omega) hu.1 hu.2.1  e3 hf.2.1 hf.2.2.1 (by have := hf.1; rw [e3, sz, Int.add_zero] at this; exact this) c1 c2 c3 w
    · exact back_tft v d _ _ _ _ _ _ _ _ h0 h1 g0 g1 rfl rfl sz a1 a2 a3 a4 b1 b2 b3 b4 d1 d2 d3 d4 (Int.mul_nonneg a1 g0) (by omega) hu.1 hu.2.1  (by simpa using e3) hf.2.1 hf.2.2.1 hf.1 hf.2.2.2.2.1 hf.2.2.2.2.2 (hf.2.2.2.1.resolve_left fun hh => e3 (sg_eq_zero _ d3 d4 hh)) c1 c2 c3 w
  ·
    have hu := U k1
    exact back_tff v d _ _ _ _ _ _ _ _ h0 h1 g0 g1 rfl rfl sz a1 a2 a3 a4 b1 b2 b3 b4 d1 d2 d3 d4 (Int.mul_nonneg a1 g0) (by omega) hu.1 hu.2.1   c1 c2 c3 w
  ·
    have hs := S k2
    have hf := F k3
    by_cases e2 : smR v d = 0
    ·
      by_cases e3 : fmR v d = 0
      · exact back_fzz v d _ _ _ _ _ _ _ _ h0 h1 g0 g1 rfl rfl sz a1 a2 a3 a4 b1 b2 b3 b4 d1 d2 d3 d4  e2 hs.2.1 hs.2.2.1 (by have := hs.1; rw [e2, sz, Int.add_zero] at this; exact this) e3 hf.2.1 hf.2.2.1 (by have := hf.1; rw [e3, sz, Int.add_zero] at this; exact this) c1 c2 c3 w
      · exact back_fzt v d _ _ _ _ _ _ _ _ h0 h1 g0 g1 rfl rfl sz a1 a2 a3 a4 b1 b2 b3 b4 d1 d2 d3 d4  e2 hs.2.1 hs.2.2.1 (by have := hs.1; rw [e2, sz, Int.add_zero] at this; exact this) (by simpa using e3) hf.2.1 hf.2.2.1 hf.1 hf.2.2.2.2.1 hf.2.2.2.2.2 (hf.2.2.2.1.resolve_left fun hh => e3 (sg_eq_zero _ d3 d4 hh)) c1 c2 c3 w
    ·
      by_cases e3 : fmR v d = 0
      · exact back_ftz v d _ _ _ _ _ _ _ _ h0 h1 g0 g1 rfl rfl sz a1 a2 a3 a4 b1 b2 b3 b4 d1 d2 d3 d4  (by simpa using e2) hs.2.1 hs.2.2.1 hs.1 hs.2.2.2.2.1 hs.2.2.2.2.2 (hs.2.2.2.1.resolve_left fun hh => e2 (sg_eq_zero _ b3 b4 hh)) e3 hf.2.1 hf.2.2.1 (by have := hf.1; rw [e3, sz, Int.add_zero] at this; exact this) c1 c2 c3 w
      · exact back_ftt v d _ _ _ _ _ _ _ _ h0 h1 g0 g1 rfl rfl sz a1 a2 a3 a4 b1 b2 b3 b4 d1 d2 d3 d4  (by simpa using e2) hs.2.1 hs.2.2.1 hs.1 hs.2.2.2.2.1 hs.2.2.2.2.2 (hs.2.2.2.1.resolve_left fun hh => e2 (sg_eq_zero _ b3 b4 hh)) (by simpa using e3) hf.2.1 hf.2.2.1 hf.1 hf.2.2.2.2.1 hf.2.2.2.2.2 (hf.2.2.2.1.resolve_left fun hh => e3 (sg_eq_zero _ d3 d4 hh)) c1 c2 c3 w
  ·
    have hs := S k2
    by_cases e2 : smR v d = 0
    ·
      exact back_fzf v d _ _ _ _ _ _ _ _ h0 h1 g0 g1 rfl rfl sz a1 a2 a3 a4 b1 b2 b3 b4 d1 d2 d3 d4  e2 hs.2.1 hs.2.2.1 (by have := hs.1; rw [e2, sz, Int.add_zero] at this; exact this)  c1 c2 c3 w
    ·
      exact back_ftf v d _ _ _ _ _ _ _ _ h0 h1 g0 g1 rfl rfl sz a1 a2 a3 a4 b1 b2 b3 b4 d1 d2 d3 d4  (by simpa using e2) hs.2.1 hs.2.2.1 hs.1 hs.2.2.2.2.1 hs.2.2.2.2.2 (hs.2.2.2.1.resolve_left fun hh => e2 (sg_eq_zero _ b3 b4 hh))  c1 c2 c3 w
  ·
    have hf := F k3
    by_cases e3 : fmR v d = 0
    · exact back_ffz v d _ _ _ _ _ _ _ _ h0 h1 g0 g1 rfl rfl sz a1 a2 a3 a4 b1 b2 b3 b4 d1 d2 d3 d4   e3 hf.2.1 hf.2.2.1 (by have := hf.1; rw [e3, sz, Int.add_zero] at this; exact this) c1 c2 c3 w
    · exact back_fft v d _ _ _ _ _ _ _ _ h0 h1 g0 g1 rfl rfl sz a1 a2 a3 a4 b1 b2 b3 b4 d1 d2 d3 d4   (by simpa using e3) hf.2.1 hf.2.2.1 hf.1 hf.2.2.2.2.1 hf.2.2.2.2.2 (hf.2.2.2.1.resolve_left fun hh => e3 (sg_eq_zero _ d3 d4 hh)) c1 c2 c3 w
  ·
    exact back_fff v d _ _ _ _ _ _ _ _ h0 h1 g0 g1 rfl rfl sz a1 a2 a3 a4 b1 b2 b3 b4 d1 d2 d3 d4    c1 c2 c3 w
end Go.Proofs.Ytgdfekmfgoaihaa
