/- The document's memory: what Bytes and New answer. -/
import Derived.Test.YtkcblemiphpmaaaRefOps2
import Derived.OwnWalk
namespace Go.Proofs.Ytkcblemiphpmaaa
open Go.RowKit
set_option linter.unusedVariables false

theorem row_holds {w : World} {B : Nat} {A : Option Addr} {n c : Nat} {xs : List UInt8} (h : w.ownsRow B 5 1 (.slice A n c) n (bv xs)) (hn : xs.length = n) : Holds w A xs := by
  subst hn
  intro h0
  obtain ⟨g, cap, e, _, _⟩ := h.form h0
  have hA : A = some ⟨g, 0, none⟩ := by injection e
  subst hA
  exact ⟨_, rfl, h.cells (g := g) rfl⟩
theorem row_slice {w : World} {B : Nat} {e : TypeId} {v : Value} {n : Nat} {size : Nat} {xs : List Value} (h : w.ownsRow B e size v n xs) : ∃ A c, v = .slice A n c := by
  rcases h.2 with ⟨rfl, rfl⟩ | ⟨g, cap, cur, rfl, _⟩
  · exact ⟨none, 0, rfl⟩
  · exact ⟨_, _, rfl⟩
def TellsR (xs : List UInt8) (w : World) (e : Ending) (w' : World) : Prop := ∃ A c, e = .returned (.slice A xs.length c) ∧ w'.ownsRow w.heap.size 5 1 (.slice A xs.length c) xs.length (bv xs) ∧ Below w.heap.size w w'
theorem rbytes_no (g rb : Nat) (R : Option Addr) (rc : Nat) (bs : List UInt8) (hs : List (Int × Int)) (at_ n : Int) (a0 : 0 ≤ at_) (a1 : at_ < 4294967296) (w : World) (h : IsRef w g rb R rc bs hs)
    (hr : n < 0 ∨ bs.length - at_ < n) :
    Calls Try.prog 23 #[.pointer (some ⟨g, 0, none⟩), .int .u32 at_, .int .i64 n] w (TellsR [] w) := by
  have c0 : w.cell? ⟨g, 0, none⟩ = some (.slice (some ⟨rb, 0, none⟩) bs.length bs.length) := h.self.at_ 0
  have hs1 := h.small
  by_cases hn : n < 0
  · go_enter Try.func23, Try.ntmps23
    go_wp2
    go_ret
    exact ⟨none, 0, rfl, World.ownsRow_nil _ _ _ _, Below.refl _ _⟩
  · have hr2 : bs.length - at_ < n := by omega
    have h0 : 0 ≤ n := by omega
    clear hr hn
    by_cases h1 : (bs.length : Int) < n
    · go_enter Try.func23, Try.ntmps23
      go_wp2
      go_ret
      exact ⟨none, 0, rfl, World.ownsRow_nil _ _ _ _, Below.refl _ _⟩
    · have h2 : n ≤ bs.length := by omega
      have h3 : bs.length - n < at_ := by omega
      clear h1 hr2
      go_enter Try.func23, Try.ntmps23
      go_wp2
      go_ret
      exact ⟨none, 0, rfl, World.ownsRow_nil _ _ _ _, Below.refl _ _⟩
set_option maxHeartbeats 400000 in
theorem rbytes_in (g rb : Nat) (R : Option Addr) (rc : Nat) (bs : List UInt8) (hs : List (Int × Int)) (k m : Nat) (hk : k < 4294967296) (w : World) (h : IsRef w g rb R rc bs hs)
    (hr : k + m ≤ bs.length) (hk2 : ¬ bs.length = k) :
    Calls Try.prog 23 #[.pointer (some ⟨g, 0, none⟩), .int .u32 k, .int .i64 m] w (TellsR ((bs.drop k).take m) w) := by
  have hs1 := h.small
  have hk1 : k ≤ bs.length := by omega
  have hkm : (m : Int) ≤ bs.length := by omega
  have hkm2 : (k : Int) ≤ bs.length - m := by omega
  obtain ⟨xs, hxs⟩ : ∃ xs, (bs.drop k).take m = xs := ⟨_, rfl⟩
  have hxl : xs.length = m := by rw [← hxs]; simp; omega
  have hy1 := one_bv xs
  have CS := Lib.hid ((h.bytes.alloc (.cells #[] 5)).part k m)
  rw [bv_part, hxs] at CS
  obtain ⟨ys, hys⟩ : ∃ ys, bv xs = ys := ⟨_, rfl⟩
  have hyl : ys.length = m := by rw [← hys, length_bv, hxl]
  rw [hys] at CS hy1
  have HX := Lib.hid hxs
  have HXL := Lib.hid hxl
  have HY := Lib.hid hys
  have HYL := Lib.hid hyl
  have c0 : (w.alloc (.cells #[] 5)).cell? ⟨g, 0, none⟩ = some (.slice (some ⟨rb, 0, none⟩) bs.length bs.length) := (h.self.alloc _).at_ 0
  have c1 : w.cell? ⟨g, 0, none⟩ = some (.slice (some ⟨rb, 0, none⟩) bs.length bs.length) := h.self.at_ 0
  clear hxs hxl hys hyl
  obtain ⟨i0, hi, hz0, hz1, hz2⟩ := info_parts info_u8
  have hown := World.ownsRow_lit (base := w.heap.size) (e := 5) w #[] (size := 1) 0 (Nat.le_refl _) (by unfold maxLen; omega) rfl
  go_enter Try.func23, Try.ntmps23
  have hkmN : m ≤ bs.length := by omega
  have HYL2 : Hid (ys.length = (k + m - k) * 1) := by
    have e := HYL.out
    show _ = _
    omega
  go_wp2_with (first | (at_builtin; refine wpList_append_own _ rfl (.tmp 30) (.tmp 41) _ rfl w.heap.size 5 i0 _ 1 1 Try.underlying37 hi hz0 hz1 hz2 rfl (by decide) _ 0 [] rfl hown ⟨rb, k, none⟩ (k + m - k) _ ys rfl HYL2.out CS.out hy1 (by unfold maxLen; omega) (by omega) (by simp) ?_; intro v' w1 hown1 hg1 _))
  go_ret
  rw [HX.out]
  have hown2 : w1.ownsRow w.heap.size 5 1 v' m ys := by
    rw [Nat.zero_add, show k + m - k = m by omega, List.nil_append] at hown1
    exact hown1
  have hg2 : (w.alloc (.cells #[] 5)).grownBy w1 (some w.heap.size) := hg1
  obtain ⟨A', c', rfl⟩ := row_slice hown2
  unfold TellsR
  rw [HXL.out, HY.out]
  exact ⟨A', c', rfl, hown2, ((Below.refl w.heap.size w).alloc (Nat.le_refl _) _).grown hg2 (by simp) (fun q hq => by injection hq with hq; omega)⟩
set_option maxHeartbeats 400000 in
theorem rbytes_end (g rb : Nat) (R : Option Addr) (rc : Nat) (bs : List UInt8) (hs : List (Int × Int)) (hk : bs.length < 4294967296) (w : World) (h : IsRef w g rb R rc bs hs) :
    Calls Try.prog 23 #[.pointer (some ⟨g, 0, none⟩), .int .u32 bs.length, .int .i64 0] w (TellsR [] w) := by
  have hs1 := h.small
  have c0 : (w.alloc (.cells #[] 5)).cell? ⟨g, 0, none⟩ = some (.slice (some ⟨rb, 0, none⟩) bs.length bs.length) := (h.self.alloc _).at_ 0
  have c1 : w.cell? ⟨g, 0, none⟩ = some (.slice (some ⟨rb, 0, none⟩) bs.length bs.length) := h.self.at_ 0
  obtain ⟨i0, hi, hz0, hz1, hz2⟩ := info_parts info_u8
  have hown := World.ownsRow_lit (base := w.heap.size) (e := 5) w #[] (size := 1) 0 (Nat.le_refl _) (by unfold maxLen; omega) rfl
  go_enter Try.func23, Try.ntmps23
  go_wp2_with (first | (at_builtin; refine wpList_append_own _ rfl (.tmp 30) (.tmp 41) _ rfl w.heap.size 5 i0 _ 1 1 Try.underlying37 hi hz0 hz1 hz2 rfl (by decide) _ 0 [] rfl hown _ _ _ [] rfl (by simp) (fun j u hj => by simp at hj) (by simp) (by unfold maxLen; simp) (by simp) (by simp) ?_; intro v' w1 hown1 hg1 _))
  go_ret
  simp only [Nat.zero_add, List.nil_append] at hown1
  have hg2 : (w.alloc (.cells #[] 5)).grownBy w1 (some w.heap.size) := hg1
  obtain ⟨A', c', rfl⟩ := row_slice hown1
  exact ⟨A', c', rfl, hown1, ((Below.refl w.heap.size w).alloc (Nat.le_refl _) _).grown hg2 (by simp) (fun q hq => by injection hq with hq; omega)⟩
theorem rbytes_any (g rb : Nat) (R : Option Addr) (rc : Nat) (bs : List UInt8) (hs : List (Int × Int)) (at_ n : Int) (a0 : 0 ≤ at_) (a1 : at_ < 4294967296) (w : World) (h : IsRef w g rb R rc bs hs) :
    Calls Try.prog 23 #[.pointer (some ⟨g, 0, none⟩), .int .u32 at_, .int .i64 n] w (TellsR (bytesA bs at_ n) w) := by
  by_cases hr : n < 0 ∨ bs.length - at_ < n
  · rw [show bytesA bs at_ n = [] by simp [bytesA, hr]]
    exact rbytes_no g rb R rc bs hs at_ n a0 a1 w h hr
  · obtain ⟨k, rfl⟩ := Int.eq_ofNat_of_zero_le a0
    obtain ⟨m, rfl⟩ := Int.eq_ofNat_of_zero_le (show 0 ≤ n by omega)
    rw [show bytesA bs k m = (bs.drop k).take m by simp [bytesA, hr]]
    by_cases hk2 : bs.length = k
    · subst hk2
      obtain rfl : m = 0 := by omega
      simpa using rbytes_end g rb R rc bs hs (by omega) w h
    · exact rbytes_in g rb R rc bs hs k m (by omega) w h (by omega) hk2
end Go.Proofs.Ytkcblemiphpmaaa
