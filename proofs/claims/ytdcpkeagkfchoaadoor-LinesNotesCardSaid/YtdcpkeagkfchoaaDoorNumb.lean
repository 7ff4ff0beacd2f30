/- Number: the program's and the document's answer, and that they are the same. -/
import Derived.Test.YtdcpkeagkfchoaaDoorNum
namespace Go.Proofs.YtdcpkeagkfchoaaDoor
open Go.RowKit T6
set_option linter.unusedVariables false
/-- What the program's Number tells. -/
def quoted (s : Str) : Bool := decide (s.length = 3) && s[0]?.getD 0 == 39 && s[2]?.getD 0 == 39
def numS (s : Str) : Int × Bool := if quoted s then (((s[1]?.getD 0).toNat : Int), true) else if Lib.hasPrefix s [48, 120] then unsP 16 4294967295 (s.drop 2) else if Lib.hasPrefix s [45] then (-(unsP 10 2147483648 (s.drop 1)).1, (unsP 10 2147483648 (s.drop 1)).2) else unsP 10 4294967295 s
def refTail (base : Nat) (sign : Int) (t : Str) : Int × Bool := match uns base 4294967296 base t 0 with
  | none => (0, false)
  | some n => if t.isEmpty || decide (n * sign < -2147483648) || decide (4294967295 < n * sign) then (0, false) else (n * sign, true)
def numR (s : Str) : Int × Bool := if quoted s then (((s[1]?.getD 0).toNat : Int), true) else if decide (2 < s.length) && s[0]?.getD 0 == 48 && s[1]?.getD 0 == 120 then refTail 16 1 (s.drop 2) else if decide (0 < s.length) && s[0]?.getD 0 == 45 then refTail 10 (-1) (s.drop 1) else refTail 10 1 s
theorem uns_nonneg (base m2 : Int) (base' : Nat) (hb : base' = 10 ∨ base' = 16) (hbb : base = base') (l : Str) (x : Int) (h : uns base m2 base' l 0 = some x) : 0 ≤ x := uns_mono base m2 base' hb hbb l 0 (Int.le_refl _) x h
theorem uns_le (base most : Int) (base' : Nat) : ∀ (l : Str) (v x : Int), v ≤ most → uns base most base' l v = some x → x ≤ most
  | [], v, x, hv, h => by simp [uns] at h; omega
  | b :: t, v, x, hv, h => by
    simp only [uns] at h
    by_cases h1 : digI base' b < 0
    · simp [h1] at h
    · simp only [h1, if_false] at h
      by_cases h3 : most < v * base + digI base' b
      · simp [h3] at h
      · simp only [h3, if_false] at h
        exact uns_le base most base' t _ x (by omega) h
theorem uns_plain (base : Nat) (hb : base = 10 ∨ base = 16) (t : Str) : unsP base 4294967295 t = refTail base 1 t := by
  unfold unsP refTail
  have h := (uns_less (base : Int) 4294967295 4294967296 base hb rfl (by decide) t 0 (Int.le_refl _) (by decide)).1
  cases hu : uns (base : Int) 4294967296 base t 0 with
  | none => rw [hu] at h; rw [h]
  | some n =>
    rw [hu] at h
    have hn := uns_nonneg _ _ base hb rfl t n hu
    rw [h]
    simp only [Int.mul_one]
    by_cases hle : n ≤ 4294967295
    · simp only [hle, if_true]
      have e1 : decide (n < -2147483648) = false := decide_eq_false (by omega)
      have e2 : decide (4294967295 < n) = false := decide_eq_false (by omega)
      rw [e1, e2]
      cases t with
      | nil => simp [uns] at hu; subst hu; rfl
      | cons b t => rfl
    · simp only [hle, if_false]
      have e2 : decide (4294967295 < n) = true := decide_eq_true (by omega)
      rw [e2]
      simp
theorem uns_neg (t : Str) : (-(unsP 10 2147483648 t).1, (unsP 10 2147483648 t).2) = refTail 10 (-1) t := by
  unfold unsP refTail
  have h := (uns_less (10 : Int) 2147483648 4294967296 10 (.inl rfl) rfl (by decide) t 0 (Int.le_refl _) (by decide)).1
  rw [show ((10 : Nat) : Int) = 10 from rfl]
  cases hu : uns (10 : Int) 4294967296 10 t 0 with
  | none => rw [hu] at h; rw [h]; rfl
  | some n =>
    rw [hu] at h
    have hn := uns_nonneg _ _ 10 (.inl rfl) rfl t n hu
    rw [h]
    by_cases hle : n ≤ 2147483648
    · simp only [hle, if_true]
      have e1 : decide (n * -1 < -2147483648) = false := decide_eq_false (by omega)
      have e2 : decide (4294967295 < n * -1) = false := decide_eq_false (by omega)
      rw [e1, e2]
      cases t with
      | nil => simp [uns] at hu; subst hu; rfl
      | cons b t => simp
    · simp only [hle, if_false]
      have e2 : decide (n * -1 < -2147483648) = true := decide_eq_true (by omega)
      rw [e2]
      simp
theorem prefix2 (s : Str) (a b : UInt8) : Lib.hasPrefix s [a, b] = (decide (1 < s.length) && s[0]?.getD 0 == a && s[1]?.getD 0 == b) := by
  match s with
  | [] => rfl
  | [x] => simp [Lib.hasPrefix, List.isPrefixOf]
  | x :: y :: t =>
    simp only [Lib.hasPrefix, List.isPrefixOf, Bool.and_true]
    rw [Bool.eq_iff_iff]
    simp only [Bool.and_eq_true, beq_iff_eq, decide_eq_true_eq, List.length_cons, List.getElem?_cons_zero, List.getElem?_cons_succ, Option.getD_some]
    constructor
    · rintro ⟨rfl, rfl⟩; exact ⟨⟨by omega, rfl⟩, rfl⟩
    · rintro ⟨⟨_, rfl⟩, rfl⟩; exact ⟨rfl, rfl⟩
theorem prefix1 (s : Str) (a : UInt8) : Lib.hasPrefix s [a] = (decide (0 < s.length) && s[0]?.getD 0 == a) := by
  match s with
  | [] => rfl
  | x :: t =>
    simp only [Lib.hasPrefix, List.isPrefixOf, Bool.and_true]
    rw [Bool.eq_iff_iff]
    simp only [Bool.and_eq_true, beq_iff_eq, decide_eq_true_eq, List.length_cons, List.getElem?_cons_zero, Option.getD_some]
    constructor
    · rintro rfl; exact ⟨by omega, rfl⟩
    · rintro ⟨_, rfl⟩; rfl
/-- The program's answer is the document's. -/
theorem num_same (s : Str) : numS s = numR s := by
  unfold numS numR
  cases quoted s with
  | true => rfl
  | false =>
    simp only [Bool.false_eq_true, if_false]
    rw [prefix2, prefix1]
    by_cases hx : s[0]?.getD 0 = 48 ∧ s[1]?.getD 0 = 120
    · by_cases h1 : 1 < s.length
      · by_cases h2 : 2 < s.length
        · rw [hx.1, hx.2, decide_eq_true h1, decide_eq_true h2]
          exact uns_plain 16 (.inr rfl) _
        · have hl : s.length = 2 := by omega
          match s, hl with
          | [a, b], _ =>
            simp at hx
            obtain ⟨rfl, rfl⟩ := hx
            decide +kernel
      · match s with
        | [] => simp at hx
        | [a] => simp at hx
        | a :: b :: t => simp at h1
    · have e1 : (decide (1 < s.length) && s[0]?.getD 0 == 48 && s[1]?.getD 0 == 120) = false := by
        rw [Bool.and_assoc, Bool.and_eq_false_iff]
        right
        rw [Bool.eq_false_iff]
        simpa using hx
      have e2 : (decide (2 < s.length) && s[0]?.getD 0 == 48 && s[1]?.getD 0 == 120) = false := by
        rw [Bool.and_assoc, Bool.and_eq_false_iff]
        right
        rw [Bool.eq_false_iff]
        simpa using hx
      rw [e1, e2]
      simp only [Bool.false_eq_true, if_false]
      split
      · exact uns_neg _
      · exact uns_plain 10 (.inl rfl) _
theorem unsP_bd (t : Str) : 0 ≤ (unsP 10 2147483648 t).1 ∧ (unsP 10 2147483648 t).1 ≤ 2147483648 := by
  have hz : (0 : Int) ≤ 2147483648 := by decide
  cases hu : uns 10 2147483648 10 t 0 with
  | none =>
    rw [unsP_none10 hu]
    exact ⟨Int.le_refl 0, hz⟩
  | some x =>
    rw [unsP_some10 hu]
    exact ⟨uns_mono 10 2147483648 10 (.inl rfl) rfl t 0 (Int.le_refl _) x hu, uns_le 10 2147483648 10 t 0 x hz hu⟩
/-! ### The walks -/
section
attribute [local go_sem] ext_to ext_from byte_at
theorem digit_10 (b : UInt8) (w : World) : Calls Tryd.prog 43 #[.int .u8 (b.toNat : Int), .int .i64 10] w fun e w' => e = .returned (.int .i64 (digI 10 b)) ∧ w = w' := by
  have hb := b.toNat_lt
  go_enter Tryd.func43, Tryd.ntmps43
  go_wp2
  all_goals go_ret
  all_goals exact ⟨ret_int (by rw [digI_10b]; split <;> omega), rfl⟩
theorem digit_16 (b : UInt8) (w : World) : Calls Tryd.prog 43 #[.int .u8 (b.toNat : Int), .int .i64 16] w fun e w' => e = .returned (.int .i64 (digI 16 b)) ∧ w = w' := by
  have hb := b.toNat_lt
  go_enter Tryd.func43, Tryd.ntmps43
  go_wp2
  all_goals go_ret
  all_goals exact ⟨ret_int (by rw [digI_16b]; split <;> (try split) <;> omega), rfl⟩
/-- The first test of both: a quoted byte, or which way it isn't. -/
theorem quoted_ways (s : Str) : (quoted s = true ∧ ∃ b, s = [39, b, 39]) ∨ (quoted s = false ∧ (((s.length : Int) == 3) = false ∨ ∃ (h : 3 ≤ s.length) (_ : s.length ≤ 3), (((s[0]'(by omega)).toNat : Int) == 39) = false ∨ ((((s[0]'(by omega)).toNat : Int) == 39) = true ∧ (((s[2]'(by omega)).toNat : Int) == 39) = false))) := by
  have ne39 : ∀ a : UInt8, a ≠ 39 → ((a.toNat : Int) == 39) = false := fun a ha => by
    rw [beq_eq_false_iff_ne]
    intro e
    exact ha (UInt8.toNat_inj.1 (by rw [show (39 : UInt8).toNat = 39 from rfl]; omega))
  by_cases h : s.length = 3
  · match s, h with
    | [a, b, c], _ =>
      by_cases ha : a = 39
      · by_cases hc : c = 39
        · subst ha; subst hc; exact .inl ⟨by simp [quoted], b, rfl⟩
        · exact .inr ⟨by simp [quoted, hc], .inr ⟨Nat.le_refl _, Nat.le_refl _, .inr ⟨by subst ha; rfl, ne39 c hc⟩⟩⟩
      · exact .inr ⟨by simp [quoted, ha], .inr ⟨Nat.le_refl _, Nat.le_refl _, .inl (ne39 a ha)⟩⟩
  · refine .inr ⟨by simp [quoted, h], .inl ?_⟩
    simp
    omega
theorem u8_ne {a b : UInt8} (h : a ≠ b) : (((a.toNat : Int)) == (b.toNat : Int)) = false := by
  rw [beq_eq_false_iff_ne]
  intro e
  exact h (UInt8.toNat_inj.1 (by omega))
theorem cutx_any (s : Str) (w : World) : Calls Tryd.prog 41 #[.string ⟨s.toArray⟩, .string ⟨#[48, 120]⟩] w fun e w' => e = .returned (.tuple #[.string ⟨(if Lib.hasPrefix s [48, 120] then s.drop 2 else s).toArray⟩, .bool (Lib.hasPrefix s [48, 120])]) ∧ w' = w := Tryd.strings_CutPrefix ⟨s.toArray⟩ ⟨#[48, 120]⟩ w
theorem cutd_any (s : Str) (w : World) : Calls Tryd.prog 41 #[.string ⟨s.toArray⟩, .string ⟨#[45]⟩] w fun e w' => e = .returned (.tuple #[.string ⟨(if Lib.hasPrefix s [45] then s.drop 1 else s).toArray⟩, .bool (Lib.hasPrefix s [45])]) ∧ w' = w := Tryd.strings_CutPrefix ⟨s.toArray⟩ ⟨#[45]⟩ w
set_option maxRecDepth 100000 in
set_option maxHeartbeats 2000000 in
theorem number_any (s : Str) (hs : s.length ≤ 1000000) (w : World) : Calls Tryd.prog 20 #[.string ⟨s.toArray⟩] w (UnsIs (numS s) w) := by
  rcases quoted_ways s with ⟨hq, b, rfl⟩ | ⟨hq, hway⟩
  · have hn : numS [39, b, 39] = ((b.toNat : Int), true) := by unfold numS; rw [hq]; rfl
    rw [hn]
    have hb := b.toNat_lt
    clear hn hq hs
    go_enter Tryd.func20, Tryd.ntmps20
    go_wp2
    go_ret2
    exact ⟨rfl, Below.refl _ _⟩
  · have hn : numS s = if Lib.hasPrefix s [48, 120] then unsP 16 4294967295 (s.drop 2) else if Lib.hasPrefix s [45] then (-(unsP 10 2147483648 (s.drop 1)).1, (unsP 10 2147483648 (s.drop 1)).2) else unsP 10 4294967295 s := by unfold numS; rw [hq]; rfl
    have HN := Lib.hid hn
    clear hn hq
    have hcx := cutx_any s
    have hcd := cutd_any s
    cases hpx : Lib.hasPrefix s [48, 120] with
    | true =>
      rw [hpx] at hcx
      have hfin : ∀ w, Calls Tryd.prog 42 #[.string ⟨(s.drop 2).toArray⟩, .int .i64 16, .int .i64 4294967295] w (UnsIs (unsP 16 4294967295 (s.drop 2)) w) := fun w => unsigned_16 (s.drop 2) (by rw [List.length_drop]; omega) 4294967295 (by decide) (by decide) w
      generalize s.drop 2 = t at *
      generalize unsP 16 4294967295 t = r at *
      rcases hway with h3 | ⟨h3, h4, h5 | ⟨h5, h6⟩⟩
      all_goals
        go_enter Tryd.func20, Tryd.ntmps20
        go_wp2_with (first | (go_at_call 41; refine (hcx _).mono ?_; clear hcx; rintro e w1 ⟨rfl, hw⟩; rw [hw]; clear hw w1) | (go_at_call 41; refine (hcd _).mono ?_; rintro e w1 ⟨rfl, hw⟩; rw [hw]; clear hw w1) | (go_at_call 42; refine (hfin _).mono ?_; rintro e w1 ⟨rfl, hb1⟩))
        go_ret2
        exact ⟨by rw [HN.out, hpx]; rfl, hb1⟩
    | false =>
      rw [hpx] at hcx
      cases hpd : Lib.hasPrefix s [45] with
      | true =>
        rw [hpd] at hcd
        have hfin : ∀ w, Calls Tryd.prog 42 #[.string ⟨(s.drop 1).toArray⟩, .int .i64 10, .int .i64 2147483648] w (UnsIs (unsP 10 2147483648 (s.drop 1)) w) := fun w => unsigned_10 (s.drop 1) (by rw [List.length_drop]; omega) 2147483648 (by decide) (by decide) w
        have hbd := unsP_bd (s.drop 1)
        generalize s.drop 1 = t at *
        generalize unsP 10 2147483648 t = r at *
        obtain ⟨r1, r2⟩ := r
        simp only at hbd
        rcases hway with h3 | ⟨h3, h4, h5 | ⟨h5, h6⟩⟩
        all_goals
          go_enter Tryd.func20, Tryd.ntmps20
          go_wp2_with (first | (go_at_call 41; refine (hcx _).mono ?_; clear hcx; rintro e w1 ⟨rfl, hw⟩; rw [hw]; clear hw w1) | (go_at_call 41; refine (hcd _).mono ?_; rintro e w1 ⟨rfl, hw⟩; rw [hw]; clear hw w1) | (go_at_call 42; refine (hfin _).mono ?_; rintro e w1 ⟨rfl, hb1⟩))
          go_ret2
          exact ⟨by rw [HN.out, hpx, hpd]; rfl, hb1⟩
      | false =>
        rw [hpd] at hcd
        have hfin : ∀ w, Calls Tryd.prog 42 #[.string ⟨s.toArray⟩, .int .i64 10, .int .i64 4294967295] w (UnsIs (unsP 10 4294967295 s) w) := fun w => unsigned_10 s (by omega) 4294967295 (by decide) (by decide) w
        generalize unsP 10 4294967295 s = r at *
        rcases hway with h3 | ⟨h3, h4, h5 | ⟨h5, h6⟩⟩
        all_goals
          go_enter Tryd.func20, Tryd.ntmps20
          go_wp2_with (first | (go_at_call 41; refine (hcx _).mono ?_; clear hcx; rintro e w1 ⟨rfl, hw⟩; rw [hw]; clear hw w1) | (go_at_call 41; refine (hcd _).mono ?_; rintro e w1 ⟨rfl, hw⟩; rw [hw]; clear hw w1) | (go_at_call 42; refine (hfin _).mono ?_; rintro e w1 ⟨rfl, hb1⟩))
          go_ret2
          exact ⟨by rw [HN.out, hpx, hpd]; rfl, hb1⟩
end
end Go.Proofs.YtdcpkeagkfchoaaDoor
