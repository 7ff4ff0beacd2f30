/- What Read, Write, Bytes, Put, Size, Clone and New answer. -/
import Derived.Test.YtkcblemiphpmaaaMem
import Derived.Deep.RegionLaw
import Derived.Deep.WholeRow
import Derived.Deep.RegionHeld3
import Derived.LoopN
import Derived.Laws.BitsAllLaws
namespace Go.Proofs.Ytkcblemiphpmaaa
open Go.RowKit
set_option linter.unusedVariables false
theorem errV_ok {size : Int} {hs : List (Int × Int)} {at_ n : Int} (e : errV size hs at_ n = 0) : (n = 1 ∨ n = 2 ∨ n = 4) ∧ at_ % n = 0 ∧ n ≤ size - at_ := by
  unfold errV at e
  split at e
  · cases e
  · split at e
    · cases e
    · split at e
      · cases e
      · omega
theorem splice_zero4 (x : List Value) (z : Value) : splice [z, z, z, z] 0 x = x ++ [z, z, z, z].drop x.length := by simp [splice]

set_option maxHeartbeats 400000 in
theorem read_no (g bb hb : Nat) (bs : List UInt8) (hs : List (Int × Int)) (at_ n r : Int) (a0 : 0 ≤ at_) (a1 : at_ < 4294967296) (w : World) (h : IsMem w g bb hb bs hs)
    (he : errV bs.length hs at_ n = r) (hr : (r != 0) = true) :
    Calls Try.prog 17 #[.pointer (some ⟨g, 0, none⟩), .int .u32 at_, .int .i64 n] w (Gives (.tuple #[.int .u32 0, .int .i64 r]) w) := by
  have HE := Lib.hid he
  clear he
  go_enter Try.func17, Try.ntmps17
  go_wp2_with (first | (go_at_call 26; refine (refusal_any g bb hb bs hs at_ n a0 a1 _ h).mono ?_; rw [HE.out]; rintro e w' ⟨rfl, hb1⟩))
  go_ret2
  exact ⟨rfl, hb1⟩
theorem addr_add (b o j : Nat) : (⟨b, o, none⟩ : Addr).add j = ⟨b, o + j, none⟩ := by unfold Addr.add; split <;> simp_all
theorem Blok.part {w : World} {g : Nat} {t : TypeId} {cs : List Value} (h : Blok w g t cs) (k m : Nat) : ∀ j v, ((cs.drop k).take m)[j]? = some v → w.cell? ((⟨g, k, none⟩ : Addr).add j) = some v := by
  intro j v hj
  rw [addr_add, h.at_]
  rw [List.getElem?_take] at hj
  split at hj
  · rwa [List.getElem?_drop] at hj
  · cases hj
theorem one_bv (l : List UInt8) : ∀ v ∈ bv l, v.oneCell' = true := by
  intro v hv
  simp only [bv, List.mem_map] at hv
  obtain ⟨b, _, rfl⟩ := hv
  rfl
theorem bv_part (l : List UInt8) (k m : Nat) : ((bv l).drop k).take m = bv ((l.drop k).take m) := by simp [bv]
/-- The number that bytes are, the lowest first. -/
def le : List UInt8 → Int
  | [] => 0
  | b :: r => b.toNat + 256 * le r
def readV (bs : List UInt8) (k m : Nat) : Int := le ((bs.drop k).take m)
/-- The bytes, with as many 0 behind them as make four. -/
theorem four (l : List UInt8) (m : Nat) (hl : l.length = m) (hm : m ≤ 4) (h0 : 1 ≤ m) : ∃ x0 x1 x2 x3 : Int, splice [.int .u8 0, .int .u8 0, .int .u8 0, .int .u8 0] 0 (bv l) = [.int .u8 x0, .int .u8 x1, .int .u8 x2, .int .u8 x3] ∧ le l = x0 + 256 * x1 + 65536 * x2 + 16777216 * x3 ∧
    (0 ≤ x0 ∧ x0 < 256) ∧ (0 ≤ x1 ∧ x1 < 256) ∧ (0 ≤ x2 ∧ x2 < 256) ∧ (0 ≤ x3 ∧ x3 < 256) := by
  have u : ∀ a : UInt8, 0 ≤ (a.toNat : Int) ∧ (a.toNat : Int) < 256 := fun a => ⟨by omega, by have := a.toNat_lt; omega⟩
  have z : (0 : Int) ≤ 0 ∧ (0 : Int) < 256 := by omega
  match l, hl with
  | [a], _ => exact ⟨a.toNat, 0, 0, 0, rfl, by simp [le], u a, z, z, z⟩
  | [a, b], _ => exact ⟨a.toNat, b.toNat, 0, 0, rfl, by simp only [le]; omega, u a, u b, z, z⟩
  | [a, b, c], _ => exact ⟨a.toNat, b.toNat, c.toNat, 0, rfl, by simp only [le]; omega, u a, u b, u c, z⟩
  | [a, b, c, d], _ => exact ⟨a.toNat, b.toNat, c.toNat, d.toNat, rfl, by simp only [le]; omega, u a, u b, u c, u d⟩
  | [], hl => simp at hl; omega
  | _ :: _ :: _ :: _ :: _ :: _, hl => simp at hl; omega
theorem or_above (a b k : Nat) (ha : a < 2 ^ k) (hb : b * 2 ^ k < 4294967296) (hk : 2 ^ k ≤ 4294967296) : bits .or .u32 (a : Int) ((b : Int) * ((2 ^ k : Nat) : Int)) = (a : Int) + (b : Int) * ((2 ^ k : Nat) : Int) := by
  have e : (b : Int) * ((2 ^ k : Nat) : Int) = ((2 ^ k * b : Nat) : Int) := by rw [Int.natCast_mul]; exact Int.mul_comm _ _
  rw [e, u32_or_nat _ _ (by omega) (by rw [Nat.mul_comm]; exact hb), Nat.or_comm, ← Nat.two_pow_add_eq_or_of_lt ha]
  omega
theorem or_8 (a b : Int) (a0 : 0 ≤ a) (a1 : a < 256) (b0 : 0 ≤ b) (b1 : b < 256) : bits .or .u32 a (b * 256) = a + 256 * b := by
  obtain ⟨A, rfl⟩ := Int.eq_ofNat_of_zero_le a0
  obtain ⟨B, rfl⟩ := Int.eq_ofNat_of_zero_le b0
  have := or_above A B 8 (by omega) (by omega) (by omega)
  rw [show ((2 ^ 8 : Nat) : Int) = 256 from rfl] at this
  rw [this]; omega
theorem or_16 (a b : Int) (a0 : 0 ≤ a) (a1 : a < 65536) (b0 : 0 ≤ b) (b1 : b < 256) : bits .or .u32 a (b * 65536) = a + 65536 * b := by
  obtain ⟨A, rfl⟩ := Int.eq_ofNat_of_zero_le a0
  obtain ⟨B, rfl⟩ := Int.eq_ofNat_of_zero_le b0
  have := or_above A B 16 (by omega) (by omega) (by omega)
  rw [show ((2 ^ 16 : Nat) : Int) = 65536 from rfl] at this
  rw [this]; omega
theorem or_24 (a b : Int) (a0 : 0 ≤ a) (a1 : a < 16777216) (b0 : 0 ≤ b) (b1 : b < 256) : bits .or .u32 a (b * 16777216) = a + 16777216 * b := by
  obtain ⟨A, rfl⟩ := Int.eq_ofNat_of_zero_le a0
  obtain ⟨B, rfl⟩ := Int.eq_ofNat_of_zero_le b0
  have := or_above A B 24 (by omega) (by omega) (by omega)
  rw [show ((2 ^ 24 : Nat) : Int) = 16777216 from rfl] at this
  rw [this]; omega
theorem or_0 (b : Int) (b0 : 0 ≤ b) (b1 : b < 256) : bits .or .u32 0 b = b := by
  obtain ⟨B, rfl⟩ := Int.eq_ofNat_of_zero_le b0
  have := u32_or_nat 0 B (by omega) (by omega)
  simpa using this
def partV (x0 x1 x2 x3 : Int) : Nat → Int
  | 0 => 0
  | 1 => x0
  | 2 => x0 + 256 * x1
  | 3 => x0 + 256 * x1 + 65536 * x2
  | _ => x0 + 256 * x1 + 65536 * x2 + 16777216 * x3
set_option maxHeartbeats 400000 in
theorem read_yes (g bb hb : Nat) (bs : List UInt8) (hs : List (Int × Int)) (k m : Nat) (hk : k < 4294967296) (w : World) (h : IsMem w g bb hb bs hs)
    (he : errV bs.length hs k m = 0) :
    Calls Try.prog 17 #[.pointer (some ⟨g, 0, none⟩), .int .u32 k, .int .i64 m] w (Gives (.tuple #[.int .u32 (readV bs k m), .int .i64 0]) w) := by
  obtain ⟨hm, ha, hroom⟩ := errV_ok he
  have hm1 : 1 ≤ m := by omega
  have hm4 : m ≤ 4 := by omega
  have hmi : (m : Int) ≤ 4 := by omega
  clear hm ha
  have hs1 := h.small
  have HE := Lib.hid he
  clear he
  go_enter Try.func17, Try.ntmps17
  go_wp2_with (first | (go_at_call 26; refine (refusal_any g bb hb bs hs k m (by omega) (by omega) _ h).mono ?_; rw [HE.out]; rintro e w1 ⟨rfl, hb1⟩))
  have h1 := h.below hb1
  have c0 : (w1.alloc (.cells #[.int .u8 0, .int .u8 0, .int .u8 0, .int .u8 0] 67)).cell? ⟨g, 0, none⟩ = some (.slice (some ⟨bb, 0, none⟩) bs.length bs.length) := (h1.self.alloc _).at_ 0
  have hkn : k + m ≤ bs.length := by omega
  have hk1 : k ≤ bs.length := by omega
  have hk2 : ¬ bs.length = k := by omega
  obtain ⟨xs, hxs⟩ : ∃ xs, (bs.drop k).take m = xs := ⟨_, rfl⟩
  have hxl : xs.length = m := by rw [← hxs]; simp; omega
  have CS := Lib.hid (((h1.bytes.alloc (.cells #[.int .u8 0, .int .u8 0, .int .u8 0, .int .u8 0] 67)).drew).part k m)
  rw [bv_part, hxs] at CS
  have HX := Lib.hid hxs
  have HL := Lib.hid hxl
  clear hxs hxl
  obtain ⟨ys, hys⟩ : ∃ ys, bv xs = ys := ⟨_, rfl⟩
  have HY := Lib.hid hys
  have hyl : ys.length = m := by rw [← hys, length_bv, HL.out]
  have HYL := Lib.hid hyl
  have hy1 := one_bv xs
  rw [hys] at CS hy1
  clear hys hyl
  go_region_law (refine step_copy_splice rfl (.tmp 21) (.tmp 27) _ _ rfl 5 Try.underlying37 (by kernel_rfl) (some ⟨w1.heap.size, 0, none⟩) (some ⟨bb, k, none⟩) m 4 (bs.length - k) (bs.length - k) (by simp [Act.eval, Act.put]) (by simp [Act.eval, Act.put]) w1.heap.size 0 [.int .u8 0, .int .u8 0, .int .u8 0, .int .u8 0] 67 (heap_alloc_new _ _) ys (HYL.out.trans (Nat.min_eq_right (by omega)).symm) (fun _ => ⟨rfl, _, rfl, CS.out⟩) (by rw [HYL.out]; simp; omega) hy1 w.heap.size w (hb1.alloc hb1.size _).drew hb1.size ?_; intro w2 HG2 hb2)
  obtain ⟨x0, x1, x2, x3, e1, e2, ⟨p0, q0⟩, ⟨p1, q1⟩, ⟨p2, q2⟩, ⟨p3, q3⟩⟩ := four xs m HL.out hm4 hm1
  rw [← HY.out, e1] at HG2
  have E2 := Lib.hid e2
  clear e1 e2
  go_wp2_with (first | (refine wpList_load_row rfl _ _ rfl w1.heap.size rfl 67 #[.int .u8 x0, .int .u8 x1, .int .u8 x2, .int .u8 x3] (0, 0) (.array 4 5) HG2.out Try.underlying67 rfl (by kernel_rfl) ?_))
  have i0 : ∀ w, (Instr.index 67 (.agg #[.int .u8 x0, .int .u8 x1, .int .u8 x2, .int .u8 x3]) (.int .i64 0)).run Try.prog w = .ok (.int .u8 x0) w := fun _ => by kernel_rfl
  have i1 : ∀ w, (Instr.index 67 (.agg #[.int .u8 x0, .int .u8 x1, .int .u8 x2, .int .u8 x3]) (.int .i64 1)).run Try.prog w = .ok (.int .u8 x1) w := fun _ => by kernel_rfl
  have i2 : ∀ w, (Instr.index 67 (.agg #[.int .u8 x0, .int .u8 x1, .int .u8 x2, .int .u8 x3]) (.int .i64 2)).run Try.prog w = .ok (.int .u8 x2) w := fun _ => by kernel_rfl
  have i3 : ∀ w, (Instr.index 67 (.agg #[.int .u8 x0, .int .u8 x1, .int .u8 x2, .int .u8 x3]) (.int .i64 3)).run Try.prog w = .ok (.int .u8 x3) w := fun _ => by kernel_rfl
  go_loop [10, 30] (fun v i => ∃ j : Nat, j ≤ 4 ∧ i = .int .i64 j ∧ v = .int .u32 (partV x0 x1 x2 x3 j)) (fun _ i => 4 - (intOf i).toNat)
  case atStart => exact ⟨0, by omega, rfl, rfl⟩
  case round =>
    obtain ⟨j, hj, rfl, rfl⟩ := hrel
    have hj5 : j = 0 ∨ j = 1 ∨ j = 2 ∨ j = 3 ∨ j = 4 := by omega
    rcases hj5 with rfl | rfl | rfl | rfl | rfl
    all_goals simp only [partV]
    all_goals go_wp2
    · go_round
      case rel => exact ⟨1, by omega, rfl, by rw [or_0 _ p0 q0]; rfl⟩
      case measure => simp [intOf]
    · go_round
      case rel => exact ⟨2, by omega, rfl, by rw [or_8 _ _ p0 q0 p1 q1]; rfl⟩
      case measure => simp [intOf]
    · go_round
      case rel => exact ⟨3, by omega, rfl, by rw [or_16 _ _ (by omega) (by omega) p2 q2]; rfl⟩
      case measure => simp [intOf]
    · go_round
      case rel => exact ⟨4, by omega, rfl, by rw [or_24 _ _ (by omega) (by omega) p3 q3]; rfl⟩
      case measure => simp [intOf]
    · go_ret2
      refine ⟨?_, hb2⟩
      unfold readV
      rw [HX.out, E2.out]
      rfl
end Go.Proofs.Ytkcblemiphpmaaa
