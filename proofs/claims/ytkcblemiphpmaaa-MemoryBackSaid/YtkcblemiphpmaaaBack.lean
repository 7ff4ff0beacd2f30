/- The walk of the law on reading back what was written. -/
import Derived.Test.YtkcblemiphpmaaaHoles
namespace Go.Proofs.Ytkcblemiphpmaaa
open Go.RowKit
set_option linter.unusedVariables false

theorem one_of (l : List UInt8) (o : Nat) : le ((l.drop o).take 1) = (match l[o]? with | some b => (b.toNat : Int) | none => 0) := by
  rw [← List.head?_drop]
  cases l.drop o with
  | nil => rfl
  | cons b r => simp [le]
theorem read_far (bs : List UInt8) (hs : List (Int × Int)) (at_ n v other : Int) (a0 : 0 ≤ at_) (o0 : 0 ≤ other) (h : other < at_ ∨ at_ + n ≤ other) :
    readA (wroteA bs hs at_ n v) hs other 1 = readA bs hs other 1 := by
  have hl := length_wroteA bs hs at_ n v a0
  unfold readA
  rw [hl]
  split
  · unfold readV wroteA
    split
    · rename_i e
      obtain ⟨h1, h2, h3⟩ := errV_ok e
      have hw := length_word4 v n h1
      rw [show (1 : Int).toNat = 1 from rfl, one_of, one_of, splice_far _ _ _ _ (by rw [hw]; omega) (by rw [hw]; omega)]
    · rfl
  · rfl
theorem new_refuses (n : Int) (A : Option Addr) (hs : List (Int × Int)) (c : Nat) (w : World) (hl : hs.length ≤ 16) (hn : sizeOk n) (hh : HoldsH w A hs) (hu : hs.all upright = false) :
    Calls Try.prog 9 #[.int .i64 n, .slice A hs.length c] w (Gives (.tuple #[.pointer none, .int .i64 1]) w) := new_askew n A hs c w hn hl hh hu
theorem tmod_bd (s : Int) : -500 < s.tmod 500 ∧ s.tmod 500 < 500 := by
  rcases Int.le_total 0 s with h | h
  · rw [Int.tmod_eq_emod_of_nonneg h]; omega
  · obtain ⟨t, rfl⟩ : ∃ t, s = -t := ⟨-s, by omega⟩
    rw [Int.neg_tmod, Int.tmod_eq_emod_of_nonneg (by omega)]; omega
theorem errV_bd (size : Int) (hs : List (Int × Int)) (at_ n : Int) : 0 ≤ errV size hs at_ n ∧ errV size hs at_ n ≤ 31 := by
  unfold errV
  split
  · omega
  · split
    · omega
    · split
      · omega
      · split <;> omega
set_option maxHeartbeats 1000000 in
theorem back_any (size : Int) (A : Option Addr) (hs : List (Int × Int)) (c : Nat) (at_ n v other : Int) (s0 : -9223372036854775808 ≤ size) (s1 : size ≤ 9223372036854775807) (a0 : 0 ≤ at_) (a1 : at_ < 4294967296) (n0 : -9223372036854775808 ≤ n) (n1 : n ≤ 9223372036854775807)
    (v0 : 0 ≤ v) (v1 : v < 4294967296) (o0 : 0 ≤ other) (o1 : other < 4294967296) (w : World) (hlen : hs.length ≤ maxLen) (hh : HoldsR w A hs) :
    Calls Try.prog 5 #[.int .i64 size, .slice A hs.length c, .int .u32 at_, .int .i64 n, .int .u32 v, .int .u32 other] w (Yes w) := by
  unfold maxLen at hlen
  have ht := tmod_bd size
  by_cases h10 : 10 < hs.length
  · have h10i : (10 : Int) < hs.length := by omega
    go_enter Try.func5, Try.ntmps5
    go_wp2_with fail
    refine (knows_any _).mono ?_
    rintro e w1 ⟨rfl, hb1⟩
    go_wp2_with fail
    go_ret
    exact ⟨rfl, hb1⟩
  · have h10i : (hs.length : Int) ≤ 10 := by omega
    clear h10 hlen
    go_enter Try.func5, Try.ntmps5
    go_wp2_with fail
    refine (knows_any _).mono ?_
    rintro e w1 ⟨rfl, hb1⟩
    go_wp2_with fail
    generalize hS : 4 * (1 + size.tmod 500 % 500) = S
    have hS0 : sizeOk S := ⟨by omega, by omega, by omega⟩
    have hS1 := hS0.1
    have hS2 := hS0.2.1
    clear hS ht
    refine (holes_any A hs c _ (by omega) (hh.below hb1)).mono ?_
    rintro e w2 ⟨A', c', rfl, hh2, hb2⟩
    have t2 := hb1.trans (hb2.mono hb1.size)
    go_wp2_with fail
    by_cases hu : hs.all upright = true
    · refine (new_fresh S A' hs c' _ hS0 (by omega) hh2 hh.2 hu).mono ?_
      rintro e w3 ⟨g, bb, hb, rfl, hm, hb3, q1, q2, q3⟩
      have t3 := t2.trans (hb3.mono t2.size)
      have z2 := t2.size
      go_wp2_with (first | (go_at_call 12; refine (num_any _ (by decide) (by decide) _).mono ?_; rintro e w' ⟨rfl, rfl⟩) | fail)
      have hlz : ((List.replicate S.toNat (0 : UInt8)).length : Int) = S := by rw [List.length_replicate]; omega
      generalize List.replicate S.toNat (0 : UInt8) = bs at hm hlz
      have HL := Lib.hid hlz
      clear hlz
      have p0 : 0 ≤ at_ % (S + 8) := Int.emod_nonneg _ (by omega)
      have p1 : at_ % (S + 8) < 4294967296 := by have := Int.emod_lt_of_pos at_ (show 0 < S + 8 by omega); omega
      have r0 : 0 ≤ other % S := Int.emod_nonneg _ (by omega)
      have r1 : other % S < 4294967296 := by have := Int.emod_lt_of_pos other (show 0 < S by omega); omega
      generalize at_ % (S + 8) = p at p0 p1 ⊢
      generalize other % S = o at r0 r1 ⊢
      refine (read_any g bb hb bs hs o 1 r0 r1 _ hm).mono ?_
      rintro e w4 ⟨rfl, hb4⟩
      have hm4 := hm.below hb4
      have e4 := errV_bd bs.length hs o 1
      go_wp2_with fail
      refine (bytes_all g bb hb bs hs S HL.out _ hm4).mono ?_
      rintro e w5 ⟨B5, rfl, ho5, hb5⟩
      have cv5 := conv_holds w5 B5 bs _ bs.length rfl ho5.holds
      have hm5 := hm4.below hb5
      have z3 := t3.size
      have t4 := t3.trans (hb4.mono z3)
      have t5 := t4.trans (hb5.mono t4.size)
      have z5 := t5.size
      go_wp2_with fail
      clear cv5
      rcases errV_cases bs.length hs p n with er | er
      · have hn := (errV_ok er).1
        have hl6 := length_wroteA bs hs p n v p0
        have hfar := read_far bs hs p n v o p0 r0
        have hcut := read_back bs hs p n v p0 v0 v1 er
        have hw := write_any g bb hb bs hs p n v p0 p1 v0 v1 _ hm5
        rw [er] at hw
        rw [← hl6] at er
        generalize wroteA bs hs p n v = bs' at er hfar hcut hw
        generalize readA bs hs o 1 = y at hfar ⊢
        have HFAR := Lib.hid hfar
        have HCUT := Lib.hid hcut
        have HW := Lib.hid hw
        have HER := Lib.hid er
        clear hl6 hfar hcut hw er
        refine HW.out.mono ?_
        rintro e w6 ⟨rfl, hm6, hg6⟩
        have t6 := below_only t5 hg6 z5 (by omega)
        go_wp2_with (first | (go_at_call 12; refine (num_any _ (by decide) (by decide) _).mono ?_; rintro e w' ⟨rfl, rfl⟩) | fail)
        refine (read_any g bb hb bs' hs p n p0 p1 _ hm6).mono ?_
        rw [HCUT.out, HER.out]
        rintro e w7 ⟨rfl, hb7⟩
        have hm7 := hm6.below hb7
        have t7 := t6.trans (hb7.mono t6.size)
        go_wp2_with fail
        refine (read_any g bb hb bs' hs o 1 r0 r1 _ hm7).mono ?_
        rintro e w8 ⟨rfl, hb8⟩
        have t8 := t7.trans (hb8.mono t7.size)
        by_cases h1 : o < p
        · rw [HFAR.out (.inl h1)]
          rcases hn with rfl | rfl | rfl
          all_goals
            simp only [cutV]
            go_wp2_with (first | (go_at_call 12; refine (num_any _ (by decide) (by decide) _).mono ?_; rintro e w' ⟨rfl, rfl⟩) | fail)
            go_ret
            exact ⟨rfl, t8⟩
        · have h2 : p ≤ o := by omega
          clear h1
          by_cases h3 : p + n ≤ o
          · rw [HFAR.out (.inr h3)]
            rcases hn with rfl | rfl | rfl
            all_goals
              simp only [cutV]
              go_wp2_with (first | (go_at_call 12; refine (num_any _ (by decide) (by decide) _).mono ?_; rintro e w' ⟨rfl, rfl⟩) | fail)
              go_ret
              exact ⟨rfl, t8⟩
          · have h4 : o < p + n := by omega
            clear h3
            generalize readA bs' hs o 1 = x
            rcases hn with rfl | rfl | rfl
            all_goals
              simp only [cutV]
              go_wp2_with (first | (go_at_call 12; refine (num_any _ (by decide) (by decide) _).mono ?_; rintro e w' ⟨rfl, rfl⟩) | fail)
              go_ret
              exact ⟨rfl, t8⟩
      · have hwr : wroteA bs hs p n v = bs := by
          unfold wroteA
          rw [if_neg (by rw [bne_iff_ne] at er; exact er)]
        have er2 := errV_bd bs.length hs p n
        have hw := write_any g bb hb bs hs p n v p0 p1 v0 v1 _ hm5
        rw [hwr] at hw
        generalize errV bs.length hs p n = r at er er2 hw
        refine hw.mono ?_
        rintro e w6 ⟨rfl, hm6, hg6⟩
        clear hw hwr
        go_wp2_with (first | (go_at_call 12; refine (num_any r (by omega) (by omega) _).mono ?_; rintro e w' ⟨rfl, rfl⟩) | fail)
        refine (bytes_all g bb hb bs hs S HL.out _ hm6).mono ?_
        rintro e w7 ⟨B7, rfl, ho7, hb7⟩
        have cv7 := conv_holds w7 B7 bs _ bs.length rfl ho7.holds
        go_wp2_with fail
        go_ret
        have t6 := below_only t5 hg6 z5 (by omega)
        exact ⟨rfl, t6.trans (hb7.mono t6.size)⟩
    · have hu2 : hs.all upright = false := by simpa using hu
      refine (new_refuses S A' hs c' _ (by omega) hS0 hh2 hu2).mono ?_
      rintro e w3 ⟨rfl, hb3⟩
      go_wp2_with (first | (go_at_call 12; refine (num_any _ (by decide) (by decide) _).mono ?_; rintro e w' ⟨rfl, rfl⟩) | fail)
      go_ret
      exact ⟨rfl, t2.trans (hb3.mono t2.size)⟩
end Go.Proofs.Ytkcblemiphpmaaa
