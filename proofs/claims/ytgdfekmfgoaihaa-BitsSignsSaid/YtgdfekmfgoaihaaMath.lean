/- Plain arithmetic of layer 1: the words' results as functions on Int, and that the code's forms and the document's are these. No condition but the words' bounds. -/
import Derived.WalkKit
import Derived.Laws.BitsAllLaws
namespace Go.Proofs.Ytgdfekmfgoaihaa
open Go.RowKit

def sg (a : Int) : Int := if a < 2147483648 then a else a - 4294967296

theorem sg_bd (a : Int) (h0 : 0 ≤ a) (h1 : a < 4294967296) : -2147483648 ≤ sg a ∧ sg a ≤ 2147483647 := by
  unfold sg; omega
theorem sg_wrap32 (a : Int) (h0 : 0 ≤ a) (h1 : a < 4294967296) : wrap32 a = sg a := by
  simp only [wrap32, sg]; omega
theorem sg_wrap64 (a : Int) (h0 : 0 ≤ a) (h1 : a < 4294967296) : wrap64 (sg a) = sg a := by
  simp only [wrap64, sg]; omega
theorem sg_zero (a : Int) (h0 : 0 ≤ a) (h1 : a < 4294967296) (h : ¬ a = 0) : ¬ sg a = 0 := by
  unfold sg; omega
theorem sg_mod (x : Int) (h0 : -2147483648 ≤ x) (h1 : x ≤ 2147483647) : sg (x % 4294967296) = x := by
  unfold sg; omega

/-! and, or -/
theorem i64_and_nat (a b : Nat) (ha : a < 9223372036854775808) (hb : b < 9223372036854775808) : bits .and .i64 (a : Int) (b : Int) = ((a &&& b : Nat) : Int) := by
  have hx : a &&& b < 2 ^ 63 := Nat.and_lt_two_pow _ (by omega)
  show IntKind.i64.wrap ((BitVec.ofInt 64 (a : Int) &&& BitVec.ofInt 64 (b : Int)).toNat : Int) = _
  have ea : (BitVec.ofInt 64 (a : Int)).toNat = a := by
    rw [BitVec.ofInt_natCast, BitVec.toNat_ofNat]; exact Nat.mod_eq_of_lt (by omega)
  have eb : (BitVec.ofInt 64 (b : Int)).toNat = b := by
    rw [BitVec.ofInt_natCast, BitVec.toNat_ofNat]; exact Nat.mod_eq_of_lt (by omega)
  rw [BitVec.toNat_and, ea, eb, IntWalk.i64_left]
  exact IntWalk.wrap64_in _ (by omega)
theorem i64_mask (x : Int) (k : Nat) (hx0 : 0 ≤ x) (hx : x < 9223372036854775808) (hk : k ≤ 62) : bits .and .i64 x (2 ^ k - 1) = x % 2 ^ k := by
  obtain ⟨X, rfl⟩ := Int.eq_ofNat_of_zero_le hx0
  have hp : (2 : Nat) ^ k ≤ 2 ^ 62 := Nat.pow_le_pow_right (by decide) hk
  have hq : 0 < (2 : Nat) ^ k := Nat.two_pow_pos _
  have e : ((2 : Int) ^ k - 1) = ((2 ^ k - 1 : Nat) : Int) := by rw [Int.natCast_sub hq]; simp
  rw [e, i64_and_nat _ _ (by omega) (by omega), Nat.and_two_pow_sub_one_eq_mod]
  simp
theorem u64_mask (x : Int) (k : Nat) (hx0 : 0 ≤ x) (hx : x < 9223372036854775808) (hk : k ≤ 62) : bits .and .u64 x (2 ^ k - 1) = x % 2 ^ k := by
  obtain ⟨X, rfl⟩ := Int.eq_ofNat_of_zero_le hx0
  have hp : (2 : Nat) ^ k ≤ 2 ^ 62 := Nat.pow_le_pow_right (by decide) hk
  have hq : 0 < (2 : Nat) ^ k := Nat.two_pow_pos _
  have e : ((2 : Int) ^ k - 1) = ((2 ^ k - 1 : Nat) : Int) := by rw [Int.natCast_sub hq]; simp
  rw [e, u64_and_nat _ _ (by omega) (by omega), Nat.and_two_pow_sub_one_eq_mod]
  simp
theorem u32_31 (x : Int) (hx0 : 0 ≤ x) (hx : x < 4294967296) : bits .and .u32 x 31 = x % 32 := by
  obtain ⟨X, rfl⟩ := Int.eq_ofNat_of_zero_le hx0
  have := u32_and_nat X 31 (by omega) (by decide)
  rw [show ((31 : Nat) : Int) = 31 from rfl] at this
  rw [this, show (31 : Nat) = 2 ^ 5 - 1 from rfl, Nat.and_two_pow_sub_one_eq_mod]
  simp
theorem u64_join (a b : Int) (ha0 : 0 ≤ a) (ha : a < 4294967296) (hb0 : 0 ≤ b) (hb : b < 4294967296) : bits .or .u64 (b * 4294967296) a = b * 4294967296 + a := by
  obtain ⟨A, rfl⟩ := Int.eq_ofNat_of_zero_le ha0
  obtain ⟨B, rfl⟩ := Int.eq_ofNat_of_zero_le hb0
  have e : ((B : Int) * 4294967296) = ((2 ^ 32 * B : Nat) : Int) := by simp; omega
  rw [e, u64_or_nat _ _ (by omega) (by omega), ← Nat.two_pow_add_eq_or_of_lt (by omega)]
  simp

/-! Sext, Field, Shift -/
def low (v : Int) (k : Nat) : Int := v % 2 ^ k
def sextV (v n : Int) : Int := if n < 1 ∨ 32 < n then 0 else (if low v n.toNat < 2 ^ (n.toNat - 1) then low v n.toNat else low v n.toNat - 2 ^ n.toNat) % 4294967296
def fieldV (v f n : Int) : Int := if f < 0 ∨ n < 1 ∨ 32 - n < f then 0 else v / 2 ^ f.toNat % 2 ^ n.toNat
def shiftV (v c k : Int) : Int := if k = 0 then v * 2 ^ (c % 32).toNat % 4294967296 else if k = 1 then v / 2 ^ (c % 32).toNat else if k = 2 then sg v / 2 ^ (c % 32).toNat % 4294967296 else 0

theorem sext_code (v n : Int) (hn1 : 1 ≤ n) (hn2 : n ≤ 32) :
    wrap32 (v * 2 ^ (32 - n).toNat % 4294967296) / 2 ^ (32 - n).toNat % 4294967296 = sextV v n := by
  have hn : n = 1 ∨ n = 2 ∨ n = 3 ∨ n = 4 ∨ n = 5 ∨ n = 6 ∨ n = 7 ∨ n = 8 ∨ n = 9 ∨ n = 10 ∨ n = 11 ∨ n = 12 ∨ n = 13 ∨ n = 14 ∨ n = 15 ∨ n = 16 ∨ n = 17 ∨ n = 18 ∨ n = 19 ∨ n = 20 ∨ n = 21 ∨ n = 22 ∨ n = 23 ∨ n = 24 ∨ n = 25 ∨ n = 26 ∨ n = 27 ∨ n = 28 ∨ n = 29 ∨ n = 30 ∨ n = 31 ∨ n = 32 := by omega
  rcases hn with rfl | rfl | rfl | rfl | rfl | rfl | rfl | rfl | rfl | rfl | rfl | rfl | rfl | rfl | rfl | rfl | rfl | rfl | rfl | rfl | rfl | rfl | rfl | rfl | rfl | rfl | rfl | rfl | rfl | rfl | rfl | rfl <;> simp [wrap32, sextV, low] <;> omega
theorem two_pow_bd (n : Int) (hn1 : 1 ≤ n) (hn2 : n ≤ 32) : 1 ≤ (2 : Int) ^ n.toNat ∧ (2 : Int) ^ n.toNat ≤ 4294967296 := by
  have hn : n = 1 ∨ n = 2 ∨ n = 3 ∨ n = 4 ∨ n = 5 ∨ n = 6 ∨ n = 7 ∨ n = 8 ∨ n = 9 ∨ n = 10 ∨ n = 11 ∨ n = 12 ∨ n = 13 ∨ n = 14 ∨ n = 15 ∨ n = 16 ∨ n = 17 ∨ n = 18 ∨ n = 19 ∨ n = 20 ∨ n = 21 ∨ n = 22 ∨ n = 23 ∨ n = 24 ∨ n = 25 ∨ n = 26 ∨ n = 27 ∨ n = 28 ∨ n = 29 ∨ n = 30 ∨ n = 31 ∨ n = 32 := by omega
  rcases hn with rfl | rfl | rfl | rfl | rfl | rfl | rfl | rfl | rfl | rfl | rfl | rfl | rfl | rfl | rfl | rfl | rfl | rfl | rfl | rfl | rfl | rfl | rfl | rfl | rfl | rfl | rfl | rfl | rfl | rfl | rfl | rfl <;> simp
theorem sext_mask (v n : Int) (h0 : 0 ≤ v) (h1 : v < 4294967296) (hn1 : 1 ≤ n) (hn2 : n ≤ 32) : bits BinOp.and IntKind.i64 v (wrap64 (wrap64 (2 ^ n.toNat) - 1)) = low v n.toNat := by
  have h := two_pow_bd n hn1 hn2
  rw [IntWalk.wrap64_in (2 ^ n.toNat) (by omega), IntWalk.wrap64_in _ (by omega)]
  exact i64_mask v n.toNat h0 (by omega) (by omega)
theorem low_bd (v n : Int) (hn1 : 1 ≤ n) (hn2 : n ≤ 32) : 0 ≤ low v n.toNat ∧ low v n.toNat < 4294967296 := by
  have hn : n = 1 ∨ n = 2 ∨ n = 3 ∨ n = 4 ∨ n = 5 ∨ n = 6 ∨ n = 7 ∨ n = 8 ∨ n = 9 ∨ n = 10 ∨ n = 11 ∨ n = 12 ∨ n = 13 ∨ n = 14 ∨ n = 15 ∨ n = 16 ∨ n = 17 ∨ n = 18 ∨ n = 19 ∨ n = 20 ∨ n = 21 ∨ n = 22 ∨ n = 23 ∨ n = 24 ∨ n = 25 ∨ n = 26 ∨ n = 27 ∨ n = 28 ∨ n = 29 ∨ n = 30 ∨ n = 31 ∨ n = 32 := by omega
  rcases hn with rfl | rfl | rfl | rfl | rfl | rfl | rfl | rfl | rfl | rfl | rfl | rfl | rfl | rfl | rfl | rfl | rfl | rfl | rfl | rfl | rfl | rfl | rfl | rfl | rfl | rfl | rfl | rfl | rfl | rfl | rfl | rfl <;> simp [low] <;> omega
theorem sext_bit (v n : Int) (hn1 : 1 ≤ n) (hn2 : n ≤ 32) : (bits BinOp.and IntKind.i64 (low v n.toNat / 2 ^ (n.toNat - 1)) 1 = 1 ↔ 2 ^ (n.toNat - 1) ≤ low v n.toNat) := by
  have hb := low_bd v n hn1 hn2
  have hd : 0 ≤ low v n.toNat / 2 ^ (n.toNat - 1) ∧ low v n.toNat / 2 ^ (n.toNat - 1) < 9223372036854775808 := by
    have hp : (0 : Int) < 2 ^ (n.toNat - 1) := Int.pow_pos (by decide)
    exact ⟨Int.ediv_nonneg hb.1 (Int.le_of_lt hp), Int.lt_of_le_of_lt (Int.ediv_le_self _ hb.1) (by omega)⟩
  have hm := i64_mask (low v n.toNat / 2 ^ (n.toNat - 1)) 1 hd.1 hd.2 (by decide)
  rw [show ((2 : Int) ^ 1 - 1) = 1 from rfl] at hm
  rw [hm]
  clear hm hd hb
  have hn : n = 1 ∨ n = 2 ∨ n = 3 ∨ n = 4 ∨ n = 5 ∨ n = 6 ∨ n = 7 ∨ n = 8 ∨ n = 9 ∨ n = 10 ∨ n = 11 ∨ n = 12 ∨ n = 13 ∨ n = 14 ∨ n = 15 ∨ n = 16 ∨ n = 17 ∨ n = 18 ∨ n = 19 ∨ n = 20 ∨ n = 21 ∨ n = 22 ∨ n = 23 ∨ n = 24 ∨ n = 25 ∨ n = 26 ∨ n = 27 ∨ n = 28 ∨ n = 29 ∨ n = 30 ∨ n = 31 ∨ n = 32 := by omega
  rcases hn with rfl | rfl | rfl | rfl | rfl | rfl | rfl | rfl | rfl | rfl | rfl | rfl | rfl | rfl | rfl | rfl | rfl | rfl | rfl | rfl | rfl | rfl | rfl | rfl | rfl | rfl | rfl | rfl | rfl | rfl | rfl | rfl <;> simp [low] <;> omega
theorem sext_ref_yes (v n : Int) (h0 : 0 ≤ v) (h1 : v < 4294967296) (hn1 : 1 ≤ n) (hn2 : n ≤ 32)
    (h : (bits BinOp.and IntKind.i64 (bits BinOp.and IntKind.i64 v (wrap64 (wrap64 (2 ^ n.toNat) - 1)) / 2 ^ (n.toNat - 1)) 1 == 1) = true) :
    wrap64 (bits BinOp.and IntKind.i64 v (wrap64 (wrap64 (2 ^ n.toNat) - 1)) - wrap64 (2 ^ n.toNat)) % 4294967296 = sextV v n := by
  have hp := two_pow_bd n hn1 hn2
  have hb := low_bd v n hn1 hn2
  rw [sext_mask v n h0 h1 hn1 hn2] at h ⊢
  have h' := (sext_bit v n hn1 hn2).mp (by simpa using h)
  rw [IntWalk.wrap64_in (2 ^ n.toNat) (by omega), IntWalk.wrap64_in _ (by omega)]
  simp only [sextV]
  rw [if_neg (by omega), if_neg (by omega)]
theorem sext_ref_no (v n : Int) (h0 : 0 ≤ v) (h1 : v < 4294967296) (hn1 : 1 ≤ n) (hn2 : n ≤ 32)
    (h : (bits BinOp.and IntKind.i64 (bits BinOp.and IntKind.i64 v (wrap64 (wrap64 (2 ^ n.toNat) - 1)) / 2 ^ (n.toNat - 1)) 1 == 1) = false) :
    bits BinOp.and IntKind.i64 v (wrap64 (wrap64 (2 ^ n.toNat) - 1)) % 4294967296 = sextV v n := by
  rw [sext_mask v n h0 h1 hn1 hn2] at h ⊢
  have h' : ¬ 2 ^ (n.toNat - 1) ≤ low v n.toNat := fun hh => by
    have := (sext_bit v n hn1 hn2).mpr hh
    rw [this] at h; simp at h
  simp only [sextV]
  rw [if_neg (by omega), if_pos (by omega)]

theorem div_pow_bd (v f : Int) (h0 : 0 ≤ v) (h1 : v < 4294967296) : 0 ≤ v / 2 ^ f.toNat ∧ v / 2 ^ f.toNat < 4294967296 := by
  have hp : (0 : Int) < 2 ^ f.toNat := Int.pow_pos (by decide)
  exact ⟨Int.ediv_nonneg h0 (Int.le_of_lt hp), Int.lt_of_le_of_lt (Int.ediv_le_self _ h0) h1⟩
theorem field_code (v f n : Int) (h0 : 0 ≤ v) (h1 : v < 4294967296) (hf : 0 ≤ f) (hn1 : 1 ≤ n) (hn2 : f ≤ 32 - n) :
    v / 2 ^ f.toNat * 2 ^ (32 - n).toNat % 4294967296 / 2 ^ (32 - n).toNat = fieldV v f n := by
  have hb := div_pow_bd v f h0 h1
  simp only [fieldV]
  rw [if_neg (by omega)]
  generalize v / 2 ^ f.toNat = x at hb ⊢
  have hn : n = 1 ∨ n = 2 ∨ n = 3 ∨ n = 4 ∨ n = 5 ∨ n = 6 ∨ n = 7 ∨ n = 8 ∨ n = 9 ∨ n = 10 ∨ n = 11 ∨ n = 12 ∨ n = 13 ∨ n = 14 ∨ n = 15 ∨ n = 16 ∨ n = 17 ∨ n = 18 ∨ n = 19 ∨ n = 20 ∨ n = 21 ∨ n = 22 ∨ n = 23 ∨ n = 24 ∨ n = 25 ∨ n = 26 ∨ n = 27 ∨ n = 28 ∨ n = 29 ∨ n = 30 ∨ n = 31 ∨ n = 32 := by omega
  rcases hn with rfl | rfl | rfl | rfl | rfl | rfl | rfl | rfl | rfl | rfl | rfl | rfl | rfl | rfl | rfl | rfl | rfl | rfl | rfl | rfl | rfl | rfl | rfl | rfl | rfl | rfl | rfl | rfl | rfl | rfl | rfl | rfl <;> simp <;> omega
theorem field_ref (v f n : Int) (h0 : 0 ≤ v) (h1 : v < 4294967296) (hf : 0 ≤ f) (hn1 : 1 ≤ n) (hn2 : f ≤ 32 - n) :
    bits BinOp.and IntKind.u64 (v / 2 ^ f.toNat) (IntKind.u64.wrap (IntKind.u64.wrap (2 ^ n.toNat) - 1)) % 4294967296 = fieldV v f n := by
  have hb := div_pow_bd v f h0 h1
  have hp := two_pow_bd n hn1 (by omega)
  simp only [fieldV]
  rw [if_neg (by omega)]
  have e1 : IntKind.u64.wrap (2 ^ n.toNat) = 2 ^ n.toNat := by rw [IntKind.wrap_u64]; omega
  have e2 : IntKind.u64.wrap (2 ^ n.toNat - 1) = 2 ^ n.toNat - 1 := by rw [IntKind.wrap_u64]; omega
  rw [e1, e2, u64_mask _ _ hb.1 (by omega) (by omega)]
  generalize v / 2 ^ f.toNat = x at hb ⊢
  have hm : 0 ≤ x % 2 ^ n.toNat := Int.emod_nonneg _ (by omega)
  have hm2 : x % 2 ^ n.toNat < 2 ^ n.toNat := Int.emod_lt_of_pos _ (by omega)
  omega
theorem field_bd (v f n : Int) (h0 : 0 ≤ v) (h1 : v < 4294967296) : 0 ≤ fieldV v f n ∧ fieldV v f n < 4294967296 := by
  simp only [fieldV]
  split
  · omega
  · have hp : (0 : Int) < 2 ^ n.toNat := Int.pow_pos (by decide)
    have hb := div_pow_bd v f h0 h1
    have hm : 0 ≤ v / 2 ^ f.toNat % 2 ^ n.toNat := Int.emod_nonneg _ (by omega)
    have hm2 : v / 2 ^ f.toNat % 2 ^ n.toNat < 2 ^ n.toNat := Int.emod_lt_of_pos _ (by omega)
    have hp2 := two_pow_bd n (by omega) (by omega)
    omega
theorem sext_bd (v n : Int) : 0 ≤ sextV v n ∧ sextV v n < 4294967296 := by
  simp only [sextV]; split <;> omega

theorem shift_zero (v c : Int) : IntKind.u64.wrap (v * 2 ^ (c % 32).toNat) % 4294967296 = v * 2 ^ (c % 32).toNat % 4294967296 := by
  rw [IntKind.wrap_u64]; omega
theorem shift_one (v c : Int) (h0 : 0 ≤ v) (h1 : v < 4294967296) : v / 2 ^ (c % 32).toNat % 4294967296 = v / 2 ^ (c % 32).toNat := by
  have := div_pow_bd v (c % 32) h0 h1
  omega

/-! products -/
def mulhV (a b : Int) : Int := sg a * sg b / 4294967296 % 4294967296
def mulhsuV (a b : Int) : Int := sg a * b / 4294967296 % 4294967296
def mulhuV (a b : Int) : Int := a * b / 4294967296 % 4294967296
def doubleV (lo hi : Int) : Int := hi * 4294967296 + lo
theorem upper_code (x : Int) : IntKind.u64.wrap (wrap64 x) / 4294967296 % 4294967296 = x / 4294967296 % 4294967296 := by
  rw [IntKind.wrap_u64]; unfold wrap64; omega
theorem upper_u (x : Int) : IntKind.u64.wrap x / 4294967296 % 4294967296 = x / 4294967296 % 4294967296 := by
  rw [IntKind.wrap_u64]; omega
theorem upper_bd (x : Int) : 0 ≤ x / 4294967296 % 4294967296 ∧ x / 4294967296 % 4294967296 < 4294967296 := by omega
theorem sg_mul (a b : Int) : (sg a * sg b) % 4294967296 = (a * b) % 4294967296 := by
  unfold sg
  split <;> split <;> simp only [Int.sub_mul, Int.mul_sub] <;> omega
theorem sg_mul_one (a b : Int) : (sg a * b) % 4294967296 = (a * b) % 4294967296 := by
  unfold sg
  split <;> simp only [Int.sub_mul] <;> omega
theorem halves_u (a b : Int) : doubleV (a * b % 4294967296) (mulhuV a b) = IntKind.u64.wrap (a * b) := by
  rw [IntKind.wrap_u64]; unfold doubleV mulhuV; omega
theorem halves_s (a b : Int) : wrap64 (doubleV (a * b % 4294967296) (mulhV a b)) = wrap64 (sg a * sg b) := by
  have := sg_mul a b
  unfold doubleV mulhV wrap64; omega
theorem halves_su (a b : Int) : wrap64 (doubleV (a * b % 4294967296) (mulhsuV a b)) = wrap64 (sg a * b) := by
  have := sg_mul_one a b
  unfold doubleV mulhsuV wrap64; omega

/-! quotients of words -/
def divV (a b : Int) : Int := if b = 0 then 4294967295 else (sg a).tdiv (sg b) % 4294967296
def remV (a b : Int) : Int := if b = 0 then a else (sg a).tmod (sg b) % 4294967296
def divuV (a b : Int) : Int := if b = 0 then 4294967295 else a / b
def remuV (a b : Int) : Int := if b = 0 then a else a % b
theorem wrap32_mod (x : Int) : wrap32 x % 4294967296 = x % 4294967296 := by unfold wrap32; omega
theorem wrap64_mod (x : Int) : wrap64 x % 4294967296 = x % 4294967296 := by unfold wrap64; omega

/-! quotients of double words -/
def down (n s : Int) : Int := if n.tmod s ≠ 0 ∧ ¬(n < 0 ↔ s < 0) then 1 else 0
def umBad (v d : Int) : Bool := decide (d = 0 ∨ 4294967295 < v / d)
def umQ (v d : Int) : Int := if umBad v d = true then 0 else v / d
def umR (v d : Int) : Int := if umBad v d = true then 0 else v % d
def smBad (v d : Int) : Bool := decide (d = 0 ∨ (wrap64 v).tdiv (sg d) < -2147483648 ∨ 2147483647 < (wrap64 v).tdiv (sg d))
def smQ (v d : Int) : Int := if smBad v d = true then 0 else (wrap64 v).tdiv (sg d) % 4294967296
def smR (v d : Int) : Int := if smBad v d = true then 0 else (wrap64 v).tmod (sg d) % 4294967296
def fmBad (v d : Int) : Bool := decide (d = 0 ∨ (wrap64 v).tdiv (sg d) - down (wrap64 v) (sg d) < -2147483648 ∨ 2147483647 < (wrap64 v).tdiv (sg d) - down (wrap64 v) (sg d))
def fmQ (v d : Int) : Int := if fmBad v d = true then 0 else ((wrap64 v).tdiv (sg d) - down (wrap64 v) (sg d)) % 4294967296
def fmR (v d : Int) : Int := if fmBad v d = true then 0 else ((wrap64 v).tmod (sg d) + down (wrap64 v) (sg d) * sg d) % 4294967296

theorem wrap64_bd (v : Int) : -9223372036854775808 ≤ wrap64 v ∧ wrap64 v ≤ 9223372036854775807 := by unfold wrap64; omega
theorem tdiv_bd (n s : Int) (h0 : -9223372036854775808 ≤ n) (h1 : n ≤ 9223372036854775807) : -9223372036854775808 ≤ n.tdiv s ∧ n.tdiv s ≤ 9223372036854775808 := by
  have := Int.natAbs_tdiv_le_natAbs n s
  omega
/-- Where the quotient is beyond what an int64 holds, both say that there is none. -/
theorem tdiv_wrap (n s : Int) (h0 : -9223372036854775808 ≤ n) (h1 : n ≤ 9223372036854775807) :
    (wrap64 (n.tdiv s) = n.tdiv s ∧ -9223372036854775808 ≤ n.tdiv s ∧ n.tdiv s ≤ 9223372036854775807) ∨ (n.tdiv s = 9223372036854775808 ∧ wrap64 (n.tdiv s) = -9223372036854775808 ∧ n = -9223372036854775808) := by
  have h := tdiv_bd n s h0 h1
  by_cases e : n.tdiv s = 9223372036854775808
  · right
    have := Int.natAbs_tdiv_le_natAbs n s
    refine ⟨e, by rw [e]; unfold wrap64; omega, by omega⟩
  · left
    exact ⟨IntWalk.wrap64_in _ (by omega), by omega, by omega⟩
theorem tmod_bd (n s : Int) (hs : ¬ s = 0) : -(s.natAbs : Int) < n.tmod s ∧ n.tmod s < s.natAbs := by
  have h := Int.natAbs_tmod n s
  have h2 : n.natAbs % s.natAbs < s.natAbs := Nat.mod_lt _ (by omega)
  omega
theorem tmod_pos (n s : Int) (h : 0 ≤ n) : 0 ≤ n.tmod s := Int.tmod_nonneg _ h
theorem tmod_neg (n s : Int) (h : n < 0) : n.tmod s ≤ 0 := by
  have h1 := Int.tmod_nonneg (a := -n) s (by omega)
  rw [Int.neg_tmod] at h1
  omega
/-- Where there is a rest, the quotient is at most half of what is divided. -/
theorem tdiv_half (n s : Int) (hr : ¬ n.tmod s = 0) (h0 : -9223372036854775808 ≤ n) (h1 : n ≤ 9223372036854775807) : -4611686018427387904 ≤ n.tdiv s ∧ n.tdiv s ≤ 4611686018427387904 := by
  have h2 : 2 ≤ s.natAbs ∨ s = 0 ∨ s = 1 ∨ s = -1 := by omega
  rcases h2 with h2 | rfl | rfl | rfl
  · have e := Int.natAbs_tdiv n s
    have e2 : n.natAbs.div s.natAbs = n.natAbs / s.natAbs := rfl
    rw [e2] at e
    have h3 : n.natAbs / s.natAbs * s.natAbs ≤ n.natAbs := Nat.div_mul_le_self _ _
    have h4 : n.natAbs / s.natAbs * 2 ≤ n.natAbs / s.natAbs * s.natAbs := Nat.mul_le_mul_left _ h2
    omega
  · simp
  · simp at hr
  · simp [Int.tmod_neg] at hr
theorem down_bd (n s : Int) : 0 ≤ down n s ∧ down n s ≤ 1 := by unfold down; split <;> omega
/-- The rest of the quotient that was rounded down. -/
theorem rest_bd (n s : Int) (hs : ¬ s = 0) : -(s.natAbs : Int) < n.tmod s + down n s * s ∧ n.tmod s + down n s * s < s.natAbs ∧ (n.tmod s + down n s * s = 0 ∨ (n.tmod s + down n s * s < 0 ↔ s < 0)) := by
  have h := tmod_bd n s hs
  unfold down
  by_cases hn : n < 0
  · have h2 := tmod_neg n s hn
    split <;> simp only [Int.one_mul, Int.zero_mul, Int.add_zero] <;> omega
  · have h2 := tmod_pos n s (by omega)
    split <;> simp only [Int.one_mul, Int.zero_mul, Int.add_zero] <;> omega
theorem whole (n s : Int) : (n.tdiv s - down n s) * s + (n.tmod s + down n s * s) = n := by
  have := Int.tdiv_mul_add_tmod n s
  rw [Int.sub_mul]
  omega
theorem um_whole (v d : Int) (h : umBad v d = false) (hd : 0 ≤ d) : umQ v d * d + umR v d = v ∧ umR v d < d ∧ 0 ≤ umR v d ∧ 0 < d := by
  have hd0 : ¬ d = 0 := by
    intro e; simp [umBad, e] at h
  simp only [umQ, umR, h]
  simp
  exact ⟨Int.ediv_mul_add_emod v d, Int.emod_lt_of_pos _ (by omega), Int.emod_nonneg _ hd0, by omega⟩
theorem um_bd (v d : Int) (hv : 0 ≤ v) (hd : 0 ≤ d) (hd1 : d < 4294967296) : 0 ≤ umQ v d ∧ umQ v d < 4294967296 ∧ 0 ≤ umR v d ∧ umR v d < 4294967296 := by
  simp only [umQ, umR]
  split
  · omega
  · rename_i h
    simp only [umBad, decide_eq_true_eq] at h
    have h1 : 0 ≤ v / d := Int.ediv_nonneg hv hd
    have h2 : 0 ≤ v % d := Int.emod_nonneg _ (by omega)
    have h3 : v % d < d := Int.emod_lt_of_pos _ (by omega)
    omega
theorem sm_bd (v d : Int) : 0 ≤ smQ v d ∧ smQ v d < 4294967296 ∧ 0 ≤ smR v d ∧ smR v d < 4294967296 := by
  simp only [smQ, smR]; split <;> omega
theorem fm_bd (v d : Int) : 0 ≤ fmQ v d ∧ fmQ v d < 4294967296 ∧ 0 ≤ fmR v d ∧ fmR v d < 4294967296 := by
  simp only [fmQ, fmR]; split <;> omega
theorem sm_whole (v d : Int) (h : smBad v d = false) (hd0 : 0 ≤ d) (hd1 : d < 4294967296) :
    sg (smQ v d) * sg d + sg (smR v d) = wrap64 v ∧ -4611686018427387904 ≤ sg (smQ v d) * sg d ∧ sg (smQ v d) * sg d ≤ 4611686018427387904 ∧ (sg (smR v d) = 0 ∨ (sg (smR v d) < 0 ↔ wrap64 v < 0)) ∧ -2147483648 ≤ sg (smR v d) ∧ sg (smR v d) ≤ 2147483647 := by
  have h' := h
  simp only [smBad, decide_eq_false_iff_not, not_or, Int.not_lt] at h'
  have hsb := sg_bd d hd0 hd1
  have hs0 := sg_zero d hd0 hd1 h'.1
  simp only [smQ, smR, h]
  simp only [Bool.false_eq_true, if_false]
  have hm := tmod_bd (wrap64 v) (sg d) hs0
  rw [sg_mod _ h'.2.1 h'.2.2, sg_mod _ (by omega) (by omega)]
  have hw := Int.tdiv_mul_add_tmod (wrap64 v) (sg d)
  have hb := wrap64_bd v
  refine ⟨hw, ?_, ?_, ?_, by omega, by omega⟩
  · have := Int.natAbs_mul ((wrap64 v).tdiv (sg d)) (sg d)
    have h1 : ((wrap64 v).tdiv (sg d)).natAbs * (sg d).natAbs ≤ 2147483648 * 2147483648 := Nat.mul_le_mul (by omega) (by omega)
    omega
  · have := Int.natAbs_mul ((wrap64 v).tdiv (sg d)) (sg d)
    have h1 : ((wrap64 v).tdiv (sg d)).natAbs * (sg d).natAbs ≤ 2147483648 * 2147483648 := Nat.mul_le_mul (by omega) (by omega)
    omega
  · by_cases hn : wrap64 v < 0
    · have := tmod_neg (wrap64 v) (sg d) hn; omega
    · have := tmod_pos (wrap64 v) (sg d) (by omega); omega
theorem fm_whole (v d : Int) (h : fmBad v d = false) (hd0 : 0 ≤ d) (hd1 : d < 4294967296) :
    sg (fmQ v d) * sg d + sg (fmR v d) = wrap64 v ∧ -4611686018427387904 ≤ sg (fmQ v d) * sg d ∧ sg (fmQ v d) * sg d ≤ 4611686018427387904 ∧ (sg (fmR v d) = 0 ∨ (sg (fmR v d) < 0 ↔ sg d < 0)) ∧ -2147483648 ≤ sg (fmR v d) ∧ sg (fmR v d) ≤ 2147483647 := by
  have h' := h
  simp only [fmBad, decide_eq_false_iff_not, not_or, Int.not_lt] at h'
  have hsb := sg_bd d hd0 hd1
  have hs0 := sg_zero d hd0 hd1 h'.1
  simp only [fmQ, fmR, h]
  simp only [Bool.false_eq_true, if_false]
  have hm := rest_bd (wrap64 v) (sg d) hs0
  rw [sg_mod _ h'.2.1 h'.2.2, sg_mod _ (by omega) (by omega)]
  have hw := whole (wrap64 v) (sg d)
  refine ⟨hw, ?_, ?_, hm.2.2, by omega, by omega⟩
  · have := Int.natAbs_mul ((wrap64 v).tdiv (sg d) - down (wrap64 v) (sg d)) (sg d)
    have h1 : ((wrap64 v).tdiv (sg d) - down (wrap64 v) (sg d)).natAbs * (sg d).natAbs ≤ 2147483648 * 2147483648 := Nat.mul_le_mul (by omega) (by omega)
    omega
  · have := Int.natAbs_mul ((wrap64 v).tdiv (sg d) - down (wrap64 v) (sg d)) (sg d)
    have h1 : ((wrap64 v).tdiv (sg d) - down (wrap64 v) (sg d)).natAbs * (sg d).natAbs ≤ 2147483648 * 2147483648 := Nat.mul_le_mul (by omega) (by omega)
    omega
end Go.Proofs.Ytgdfekmfgoaihaa
