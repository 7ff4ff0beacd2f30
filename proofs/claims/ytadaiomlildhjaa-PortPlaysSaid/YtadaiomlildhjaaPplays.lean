/- The walk of the stage's law: both ports, act by act. -/
import Derived.Test.YtadaiomlildhjaaPacts
import Derived.Test.YtadaiomlildhjaaPsame
namespace Go.Proofs.Ytadaiomlildhjaa
open Go.RowKit Go.Conc
set_option linter.unusedVariables false

theorem plays_heavy (A : Option Addr) (n c0 : Nat) (A2 : Option Addr) (l c2 : Nat) (w : World) (hn : n ≤ 9223372036854775807) (hl : l ≤ 9223372036854775807) (h : (2000 < n ∧ n ≤ 65536) ∨ 100 < l) :
    Calls Try.prog 3 #[.slice A n c0, .slice A2 l c2] w (Yes w) := by
  by_cases h1 : 2000 < n ∧ n ≤ 65536
  · have q1 : ((2000 : Int) < n) = True := eq_true (by omega)
    have q2 : ((n : Int) ≤ 65536) = True := eq_true (by omega)
    clear h h1
    go_enter Try.func3, Try.ntmps3
    go_wp2_with fail
    refine (knows_any _).mono ?_
    rintro e w1 ⟨rfl, hb1⟩
    go_wp2_with fail
    go_ret
    exact ⟨rfl, hb1⟩
  · have q3 : ((100 : Int) < l) = True := eq_true (by omega)
    by_cases h2 : 2000 < n
    · have q1 : ((2000 : Int) < n) = True := eq_true (by omega)
      have q2 : ((n : Int) ≤ 65536) = False := eq_false (by omega)
      clear h h1 h2
      go_enter Try.func3, Try.ntmps3
      go_wp2_with fail
      refine (knows_any _).mono ?_
      rintro e w1 ⟨rfl, hb1⟩
      go_wp2_with fail
      go_ret
      exact ⟨rfl, hb1⟩
    · have q1 : ((2000 : Int) < n) = False := eq_false (by omega)
      clear h h1 h2
      go_enter Try.func3, Try.ntmps3
      go_wp2_with fail
      refine (knows_any _).mono ?_
      rintro e w1 ⟨rfl, hb1⟩
      go_wp2_with fail
      go_ret
      exact ⟨rfl, hb1⟩
/-- The law's own copy of the input. -/
structure Copy (w : World) (B B' : Nat) (A : Option Addr) (c : Nat) (xs : List UInt8) (W : World) : Prop where
  row : W.ownsRow B 5 1 (.slice A xs.length c) xs.length (bv xs)
  low : ∀ i, (Value.slice A xs.length c).ownBlock = some i → i < B'
set_option maxRecDepth 100000 in
set_option maxHeartbeats 4000000 in
theorem plays_refused (A : Option Addr) (xs : List UInt8) (c0 : Nat) (A2 : Option Addr) (l c2 : Nat) (w : World) (hm : xs.length ≤ 140737488351232) (hl : l ≤ 100) (hx : Holds w A xs) (hn : 65536 < xs.length) :
    Calls Try.prog 3 #[.slice A xs.length c0, .slice A2 l c2] w (Yes w) := by
  have q1 : ((2000 : Int) < xs.length) = True := eq_true (by omega)
  have q2 : ((xs.length : Int) ≤ 65536) = False := eq_false (by omega)
  have q3 : ((100 : Int) < l) = False := eq_false (by omega)
  have hb := (Below.refl w.heap.size w).alloc (Nat.le_refl _) (.cells #[] 5)
  obtain ⟨i0, hi, hz0, hz1, hz2⟩ := info_parts info_u8
  have L1 := World.ownsRow_lit (base := w.heap.size) (e := 5) (size := 1) w #[] 0 (Nat.le_refl _) (by unfold maxLen; omega) rfl
  have hsrc := (hx.below hb).src
  have HM := Lib.hid hm
  have HN := Lib.hid hn
  have HL := Lib.hid hl
  obtain ⟨ys, hys⟩ : ∃ ys, bv xs = ys := ⟨_, rfl⟩
  rw [hys] at hsrc
  have HY := Lib.hid hys
  clear hys hm hn hl
  go_enter Try.func3, Try.ntmps3
  go_upto_region 4 with (at_builtin; refine wpList_append_src rfl (.tmp 27) (.tmp 28) _ rfl w.heap.size 5 i0 _ 1 1 Try.underlying22 hi hz0 hz1 hz2 rfl (by decide) _ 0 [] rfl L1 A xs.length c0 ys rfl hsrc (by have := HM.out; unfold maxLen; omega) (by have := HM.out; omega) hb.size ?_; intro v' w2 hown2 hg2; obtain ⟨R, rc, rfl⟩ := row_slice hown2)
  have hg3 : (w.alloc (.cells #[] 5)).grownBy w2 (some w.heap.size) := hg2
  have T2 := hb.grown hg3 hb.size (fun q hq => by injection hq with hq; omega)
  have hown3 : w2.ownsRow w.heap.size 5 1 (.slice R xs.length rc) xs.length (bv xs) := by
    rw [Nat.zero_add] at hown2
    rw [HY.out]
    exact hown2
  clear hown2 hg2 hg3
  have cvR := conv_holds w2 R xs _ rc rfl (row_holds hown3 rfl)
  have cvA := conv_holds w2 A xs _ c0 rfl (hx.below T2)
  go_wp2_with fail
  refine (new_many R xs.length rc _ HN.out (by have := HM.out; omega)).mono ?_
  rintro e w3 ⟨rfl, rfl⟩
  go_wp2_with fail
  refine (rnew_many A xs.length c0 _ HN.out (by have := HM.out; omega)).mono ?_
  rintro e w4 ⟨rfl, rfl⟩
  go_upto_block 0 with (go_at_call 9; refine (num_any _ (by decide) (by decide) _).mono ?_; rintro e w' ⟨rfl, rfl⟩)
  go_cut [10] from 58 to 75 (fun i wx => Below w.heap.size w wx)
  case first =>
    obtain ⟨g2, rfl, hg2l, _⟩ := row_at hown3 (by have := HN.out; omega)
    go_wp2_with fail
    go_loopw [10] (fun i wr => ∃ (k : Nat) (L' : List UInt8), k ≤ 50 ∧ L'.length = xs.length ∧ i = .int .i64 k ∧ wr.ownsRow w.heap.size 5 1 (.slice (some ⟨g2, 0, none⟩) xs.length rc) xs.length (bv L') ∧ Below w.heap.size w wr) (fun i _ => 50 - (intOf i).toNat)
    case atStart => exact ⟨0, xs, by omega, rfl, rfl, hown3, T2⟩
    case round =>
      obtain ⟨k, L', hk2, hL', rfl, hbk, hbe⟩ := hrel
      have HL' := Lib.hid hL'
      clear hL'
      have hk1 : k < xs.length := by have := HN.out; omega
      by_cases hlt : k < 50
      · obtain ⟨x, x0, x1, hx'⟩ := byteOf_get L' k (by rw [HL'.out]; exact hk1)
        have c1 : wr.cell? ⟨g2, k, none⟩ = some (.int .u8 x) := (hbk.cellAt k (by omega)).trans hx'
        have f1 := hbk.frozenAt k
        clear hx'
        go_wp2
        go_roundw
        case rel =>
          have hbe2 := byteOf_toNat ((x + 1) % 256) (by omega) (by omega)
          obtain ⟨hset, hg4⟩ := hbk.stored k (.int .u8 ((byteOf ((x + 1) % 256)).toNat : Int))
          rw [bv_set] at hset
          rw [hbe2] at hset hg4
          exact ⟨k + 1, L'.set k (byteOf ((x + 1) % 256)), by omega, by simpa using HL'.out, by go_num, hset, below_only hbe hg4 hbe.size hg2l⟩
        case measure => simp [intOf]; omega
      · have hk50 : 50 ≤ k := by omega
        clear hlt
        go_wp2
        go_meet
        exact hbe
  case rest =>
    have T3 := hcut
    by_cases hl0 : l = 0
    all_goals
      go_wp2
      go_loop [11] (fun i => i = .int .i64 0) (fun _ => 0)
      case atStart => rfl
      case round =>
        subst hrel
        go_wp2_with fail
        refine (knows_any _).mono ?_
        rintro e w5 ⟨rfl, hb5⟩
        go_wp2_with fail
        go_ret
        exact ⟨rfl, T3.trans (hb5.mono T3.size)⟩
end Go.Proofs.Ytadaiomlildhjaa
