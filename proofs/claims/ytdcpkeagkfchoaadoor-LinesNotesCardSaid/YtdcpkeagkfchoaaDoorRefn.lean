/- The document's Number. -/
import Derived.Test.YtdcpkeagkfchoaaDoorNumb
namespace Go.Proofs.YtdcpkeagkfchoaaDoor
open Go.RowKit T6
set_option linter.unusedVariables false
def numT (s : Str) : Int × Bool := if decide (2 < s.length) && s[0]?.getD 0 == 48 && s[1]?.getD 0 == 120 then refTail 16 1 (s.drop 2) else if decide (0 < s.length) && s[0]?.getD 0 == 45 then refTail 10 (-1) (s.drop 1) else refTail 10 1 s
theorem eq_t {a : UInt8} {n : Nat} (h : a = UInt8.ofNat n) (hn : n < 256 := by decide) : ((a.toNat : Int) == (n : Int)) = true := by
  subst h
  rw [UInt8.toNat_ofNat']
  simp
  omega
theorem eq_f {a : UInt8} {n : Nat} (h : a ≠ UInt8.ofNat n) (hn : n < 256 := by decide) : ((a.toNat : Int) == (n : Int)) = false := by
  rw [beq_eq_false_iff_ne]
  intro e
  exact h (UInt8.toNat_inj.1 (by rw [UInt8.toNat_ofNat']; omega))
/-- Which way the document's answer goes behind the first test. -/
theorem det_ways (s : Str) :
    (s = [] ∧ numT s = refTail 10 1 s) ∨
    (∃ (h : 0 < s.length) (_ : s.length ≤ 2), (((s[0]'h).toNat : Int) == 45) = true ∧ numT s = refTail 10 (-1) s.tail) ∨
    (∃ (h : 0 < s.length) (_ : s.length ≤ 2), (((s[0]'h).toNat : Int) == 45) = false ∧ numT s = refTail 10 1 s) ∨
    (∃ (h : 3 ≤ s.length), (((s[0]'(by omega)).toNat : Int) == 48) = true ∧ (((s[1]'(by omega)).toNat : Int) == 120) = true ∧ numT s = refTail 16 1 (s.drop 2)) ∨
    (∃ (h : 3 ≤ s.length), (((s[0]'(by omega)).toNat : Int) == 48) = false ∧ (((s[0]'(by omega)).toNat : Int) == 45) = true ∧ numT s = refTail 10 (-1) s.tail) ∨
    (∃ (h : 3 ≤ s.length), (((s[0]'(by omega)).toNat : Int) == 48) = false ∧ (((s[0]'(by omega)).toNat : Int) == 45) = false ∧ numT s = refTail 10 1 s) ∨
    (∃ (h : 3 ≤ s.length), (((s[0]'(by omega)).toNat : Int) == 48) = true ∧ (((s[1]'(by omega)).toNat : Int) == 120) = false ∧ (((s[0]'(by omega)).toNat : Int) == 45) = false ∧ numT s = refTail 10 1 s) := by
  match s with
  | [] => exact .inl ⟨rfl, by simp [numT]⟩
  | [a] =>
    by_cases ha : a = 45
    · exact .inr (.inl ⟨by simp, by simp, eq_t ha, by simp [numT, ha]⟩)
    · exact .inr (.inr (.inl ⟨by simp, by simp, eq_f ha, by simp [numT, ha]⟩))
  | [a, b] =>
    by_cases ha : a = 45
    · exact .inr (.inl ⟨by simp, by simp, eq_t ha, by simp [numT, ha]⟩)
    · exact .inr (.inr (.inl ⟨by simp, by simp, eq_f ha, by simp [numT, ha]⟩))
  | a :: b :: c :: t =>
    have h3 : 3 ≤ (a :: b :: c :: t).length := by simp
    by_cases h48 : a = 48
    · have h45 : a ≠ 45 := by subst h48; decide
      by_cases h120 : b = 120
      · exact .inr (.inr (.inr (.inl ⟨h3, eq_t h48, eq_t h120, by simp [numT, h48, h120]⟩)))
      · exact .inr (.inr (.inr (.inr (.inr (.inr ⟨h3, eq_t h48, eq_f h120, eq_f h45, by simp [numT, h45, h120]⟩)))))
    · by_cases h45 : a = 45
      · exact .inr (.inr (.inr (.inr (.inl ⟨h3, eq_f h48, eq_t h45, by simp [numT, h45]⟩))))
      · exact .inr (.inr (.inr (.inr (.inr (.inl ⟨h3, eq_f h48, eq_f h45, by simp [numT, h48, h45]⟩)))))
theorem refTail_none {base : Nat} {sg : Int} {t : Str} (h : uns base 4294967296 base t 0 = none) : refTail base sg t = (0, false) := by unfold refTail; rw [h]
theorem refTail_some {base : Nat} {sg n : Int} {t : Str} (h : uns base 4294967296 base t 0 = some n) : refTail base sg t = if t.isEmpty || decide (n * sg < -2147483648) || decide (4294967295 < n * sg) then (0, false) else (n * sg, true) := by unfold refTail; rw [h]
section
attribute [local go_sem] ext_to ext_from byte_at
def RefN (r : Int × Bool) (w : World) (e : Ending) (w' : World) : Prop := e = .returned (.tuple #[.int .i64 r.1, .bool r.2]) ∧ w = w'
set_option maxRecDepth 100000 in
set_option maxHeartbeats 8000000 in
theorem refnum_any (s : Str) (hs : s.length ≤ 1000000) (w : World) : Calls Tryd.prog 21 #[.string ⟨s.toArray⟩] w (RefN (numR s) w) := by
  rcases quoted_ways s with ⟨hq, b, rfl⟩ | ⟨hq, hway⟩
  · have hn : numR [39, b, 39] = ((b.toNat : Int), true) := by unfold numR; rw [hq]; rfl
    rw [hn]
    have hb := b.toNat_lt
    clear hn hq hs
    go_enter Tryd.func21, Tryd.ntmps21
    go_wp2
    go_ret2
    exact ⟨rfl, rfl⟩
  · have hn : numR s = numT s := by unfold numR numT; rw [hq]; rfl
    rw [hn]
    clear hn hq
    rcases det_ways s with ⟨hnil, hT⟩ | ⟨g0, g2, g1, hT⟩ | ⟨g0, g2, g1, hT⟩ | ⟨g0, g1, g2, hT⟩ | ⟨g0, g1, g2, hT⟩ | ⟨g0, g1, g2, hT⟩ | ⟨g0, g1, g2, g3, hT⟩
    · subst hnil
      rw [hT]
      clear hT hway hs
      go_enter Tryd.func21, Tryd.ntmps21
      go_wp2
      refine wp_loop_rounds 1 ?_
      rw [rounds_succ]
      go_wp2
      go_ret2
      exact ⟨rfl, rfl⟩
    · rw [hT]
      clear hT
      rcases hway with h3 | ⟨h3, h4, h5⟩
      · go_enter Tryd.func21, Tryd.ntmps21
        go_wp2
        have htl : (s.tail).length ≤ 1000000 := by rw [List.length_tail]; omega
        generalize s.tail = t at *
        go_loop [7, 8] (fun n i => ∃ (k : Nat) (x : Int), k ≤ t.length ∧ i = .int .i64 k ∧ n = .int .i64 x ∧ 0 ≤ x ∧ x ≤ 4294967296 ∧ uns 10 4294967296 10 t 0 = uns 10 4294967296 10 (t.drop k) x) (fun _ i => t.length - (intOf i).toNat)
        case atStart => exact ⟨0, 0, Nat.zero_le _, rfl, rfl, by decide, by decide, rfl⟩
        case round =>
          obtain ⟨k, x, hk, rfl, rfl, hx0, hx1, hu⟩ := hrel
          by_cases hlt : k < t.length
          · have hd := digI_bd 10 (by decide) (t[k])
            have hdig := digit_10 (t[k])
            rw [List.drop_eq_getElem_cons hlt] at hu
            simp only [uns] at hu
            generalize digI 10 (t[k]) = d at *
            by_cases hneg : d < 0
            · rw [if_pos hneg] at hu
              have HU := Lib.hid hu
              clear hu
              go_wp2_with (go_at_call 43; refine (hdig _).mono ?_; rintro e w' ⟨rfl, rfl⟩)
              go_ret2
              exact ⟨by rw [refTail_none HU.out]; rfl, rfl⟩
            · rw [if_neg hneg] at hu
              by_cases hbig : 4294967296 < x * 10 + d
              · rw [if_pos hbig] at hu
                have HU := Lib.hid hu
                clear hu
                go_wp2_with (go_at_call 43; refine (hdig _).mono ?_; rintro e w' ⟨rfl, rfl⟩)
                go_ret2
                exact ⟨by rw [refTail_none HU.out]; rfl, rfl⟩
              · rw [if_neg hbig] at hu
                have HU := Lib.hid hu
                clear hu
                go_wp2_with (go_at_call 43; refine (hdig _).mono ?_; rintro e w' ⟨rfl, rfl⟩)
                go_round
                case rel => exact ⟨k + 1, x * 10 + d, by omega, by go_num, rfl, by omega, by omega, HU.out⟩
                case measure => simp [intOf]; omega
          · have hkk : k = t.length := by omega
            rw [hkk, List.drop_length] at hu
            have hT := refTail_some (base := 10) (sg := (-1)) hu
            have HT := Lib.hid hT
            clear hu hT hkk
            cases hE : t.isEmpty with
            | true =>
              go_wp2
              go_ret2
              exact ⟨by rw [HT.out, hE]; rfl, rfl⟩
            | false =>
              by_cases hbig : 2147483648 < x
              · go_wp2
                go_ret2
                exact ⟨by rw [HT.out, hE, if_pos (by simp; omega)]; rfl, rfl⟩
              · go_wp2
                go_ret2
                exact ⟨by rw [HT.out, hE, if_neg (by simp; omega)]; first | rfl | simp, rfl⟩
      · omega
    · rw [hT]
      clear hT
      rcases hway with h3 | ⟨h3, h4, h5⟩
      · go_enter Tryd.func21, Tryd.ntmps21
        go_wp2
        obtain ⟨t, rfl⟩ : ∃ t, t = s := ⟨_, rfl⟩
        go_loop [7, 8] (fun n i => ∃ (k : Nat) (x : Int), k ≤ t.length ∧ i = .int .i64 k ∧ n = .int .i64 x ∧ 0 ≤ x ∧ x ≤ 4294967296 ∧ uns 10 4294967296 10 t 0 = uns 10 4294967296 10 (t.drop k) x) (fun _ i => t.length - (intOf i).toNat)
        case atStart => exact ⟨0, 0, Nat.zero_le _, rfl, rfl, by decide, by decide, rfl⟩
        case round =>
          obtain ⟨k, x, hk, rfl, rfl, hx0, hx1, hu⟩ := hrel
          by_cases hlt : k < t.length
          · have hd := digI_bd 10 (by decide) (t[k])
            have hdig := digit_10 (t[k])
            rw [List.drop_eq_getElem_cons hlt] at hu
            simp only [uns] at hu
            generalize digI 10 (t[k]) = d at *
            by_cases hneg : d < 0
            · rw [if_pos hneg] at hu
              have HU := Lib.hid hu
              clear hu
              go_wp2_with (go_at_call 43; refine (hdig _).mono ?_; rintro e w' ⟨rfl, rfl⟩)
              go_ret2
              exact ⟨by rw [refTail_none HU.out]; rfl, rfl⟩
            · rw [if_neg hneg] at hu
              by_cases hbig : 4294967296 < x * 10 + d
              · rw [if_pos hbig] at hu
                have HU := Lib.hid hu
                clear hu
                go_wp2_with (go_at_call 43; refine (hdig _).mono ?_; rintro e w' ⟨rfl, rfl⟩)
                go_ret2
                exact ⟨by rw [refTail_none HU.out]; rfl, rfl⟩
              · rw [if_neg hbig] at hu
                have HU := Lib.hid hu
                clear hu
                go_wp2_with (go_at_call 43; refine (hdig _).mono ?_; rintro e w' ⟨rfl, rfl⟩)
                go_round
                case rel => exact ⟨k + 1, x * 10 + d, by omega, by go_num, rfl, by omega, by omega, HU.out⟩
                case measure => simp [intOf]; omega
          · have hkk : k = t.length := by omega
            rw [hkk, List.drop_length] at hu
            have hT := refTail_some (base := 10) (sg := 1) hu
            have HT := Lib.hid hT
            clear hu hT hkk
            cases hE : t.isEmpty with
            | true =>
              go_wp2
              go_ret2
              exact ⟨by rw [HT.out, hE]; rfl, rfl⟩
            | false =>
              by_cases hbig : 4294967295 < x
              · go_wp2
                go_ret2
                exact ⟨by rw [HT.out, hE, if_pos (by simp; omega)]; rfl, rfl⟩
              · go_wp2
                go_ret2
                exact ⟨by rw [HT.out, hE, if_neg (by simp; omega)]; first | rfl | simp, rfl⟩
      · omega
    · rw [hT]
      clear hT
      rcases hway with h3 | ⟨h3, h4, h5 | ⟨h5, h6⟩⟩
      all_goals
        go_enter Tryd.func21, Tryd.ntmps21
        go_wp2
        have htl : (s.drop 2).length ≤ 1000000 := by rw [List.length_drop]; omega
        generalize s.drop 2 = t at *
        go_loop [7, 8] (fun n i => ∃ (k : Nat) (x : Int), k ≤ t.length ∧ i = .int .i64 k ∧ n = .int .i64 x ∧ 0 ≤ x ∧ x ≤ 4294967296 ∧ uns 16 4294967296 16 t 0 = uns 16 4294967296 16 (t.drop k) x) (fun _ i => t.length - (intOf i).toNat)
        case atStart => exact ⟨0, 0, Nat.zero_le _, rfl, rfl, by decide, by decide, rfl⟩
        case round =>
          obtain ⟨k, x, hk, rfl, rfl, hx0, hx1, hu⟩ := hrel
          by_cases hlt : k < t.length
          · have hd := digI_bd 16 (by decide) (t[k])
            have hdig := digit_16 (t[k])
            rw [List.drop_eq_getElem_cons hlt] at hu
            simp only [uns] at hu
            generalize digI 16 (t[k]) = d at *
            by_cases hneg : d < 0
            · rw [if_pos hneg] at hu
              have HU := Lib.hid hu
              clear hu
              go_wp2_with (go_at_call 43; refine (hdig _).mono ?_; rintro e w' ⟨rfl, rfl⟩)
              go_ret2
              exact ⟨by rw [refTail_none HU.out]; rfl, rfl⟩
            · rw [if_neg hneg] at hu
              by_cases hbig : 4294967296 < x * 16 + d
              · rw [if_pos hbig] at hu
                have HU := Lib.hid hu
                clear hu
                go_wp2_with (go_at_call 43; refine (hdig _).mono ?_; rintro e w' ⟨rfl, rfl⟩)
                go_ret2
                exact ⟨by rw [refTail_none HU.out]; rfl, rfl⟩
              · rw [if_neg hbig] at hu
                have HU := Lib.hid hu
                clear hu
                go_wp2_with (go_at_call 43; refine (hdig _).mono ?_; rintro e w' ⟨rfl, rfl⟩)
                go_round
                case rel => exact ⟨k + 1, x * 16 + d, by omega, by go_num, rfl, by omega, by omega, HU.out⟩
                case measure => simp [intOf]; omega
          · have hkk : k = t.length := by omega
            rw [hkk, List.drop_length] at hu
            have hT := refTail_some (base := 16) (sg := 1) hu
            have HT := Lib.hid hT
            clear hu hT hkk
            cases hE : t.isEmpty with
            | true =>
              go_wp2
              go_ret2
              exact ⟨by rw [HT.out, hE]; rfl, rfl⟩
            | false =>
              by_cases hbig : 4294967295 < x
              · go_wp2
                go_ret2
                exact ⟨by rw [HT.out, hE, if_pos (by simp; omega)]; rfl, rfl⟩
              · go_wp2
                go_ret2
                exact ⟨by rw [HT.out, hE, if_neg (by simp; omega)]; first | rfl | simp, rfl⟩
    · rw [hT]
      clear hT
      rcases hway with h3 | ⟨h3, h4, h5 | ⟨h5, h6⟩⟩
      all_goals
        go_enter Tryd.func21, Tryd.ntmps21
        go_wp2
        have htl : (s.tail).length ≤ 1000000 := by rw [List.length_tail]; omega
        generalize s.tail = t at *
        go_loop [7, 8] (fun n i => ∃ (k : Nat) (x : Int), k ≤ t.length ∧ i = .int .i64 k ∧ n = .int .i64 x ∧ 0 ≤ x ∧ x ≤ 4294967296 ∧ uns 10 4294967296 10 t 0 = uns 10 4294967296 10 (t.drop k) x) (fun _ i => t.length - (intOf i).toNat)
        case atStart => exact ⟨0, 0, Nat.zero_le _, rfl, rfl, by decide, by decide, rfl⟩
        case round =>
          obtain ⟨k, x, hk, rfl, rfl, hx0, hx1, hu⟩ := hrel
          by_cases hlt : k < t.length
          · have hd := digI_bd 10 (by decide) (t[k])
            have hdig := digit_10 (t[k])
            rw [List.drop_eq_getElem_cons hlt] at hu
            simp only [uns] at hu
            generalize digI 10 (t[k]) = d at *
            by_cases hneg : d < 0
            · rw [if_pos hneg] at hu
              have HU := Lib.hid hu
              clear hu
              go_wp2_with (go_at_call 43; refine (hdig _).mono ?_; rintro e w' ⟨rfl, rfl⟩)
              go_ret2
              exact ⟨by rw [refTail_none HU.out]; rfl, rfl⟩
            · rw [if_neg hneg] at hu
              by_cases hbig : 4294967296 < x * 10 + d
              · rw [if_pos hbig] at hu
                have HU := Lib.hid hu
                clear hu
                go_wp2_with (go_at_call 43; refine (hdig _).mono ?_; rintro e w' ⟨rfl, rfl⟩)
                go_ret2
                exact ⟨by rw [refTail_none HU.out]; rfl, rfl⟩
              · rw [if_neg hbig] at hu
                have HU := Lib.hid hu
                clear hu
                go_wp2_with (go_at_call 43; refine (hdig _).mono ?_; rintro e w' ⟨rfl, rfl⟩)
                go_round
                case rel => exact ⟨k + 1, x * 10 + d, by omega, by go_num, rfl, by omega, by omega, HU.out⟩
                case measure => simp [intOf]; omega
          · have hkk : k = t.length := by omega
            rw [hkk, List.drop_length] at hu
            have hT := refTail_some (base := 10) (sg := (-1)) hu
            have HT := Lib.hid hT
            clear hu hT hkk
            cases hE : t.isEmpty with
            | true =>
              go_wp2
              go_ret2
              exact ⟨by rw [HT.out, hE]; rfl, rfl⟩
            | false =>
              by_cases hbig : 2147483648 < x
              · go_wp2
                go_ret2
                exact ⟨by rw [HT.out, hE, if_pos (by simp; omega)]; rfl, rfl⟩
              · go_wp2
                go_ret2
                exact ⟨by rw [HT.out, hE, if_neg (by simp; omega)]; first | rfl | simp, rfl⟩
    · rw [hT]
      clear hT
      rcases hway with h3 | ⟨h3, h4, h5 | ⟨h5, h6⟩⟩
      all_goals
        go_enter Tryd.func21, Tryd.ntmps21
        go_wp2
        obtain ⟨t, rfl⟩ : ∃ t, t = s := ⟨_, rfl⟩
        go_loop [7, 8] (fun n i => ∃ (k : Nat) (x : Int), k ≤ t.length ∧ i = .int .i64 k ∧ n = .int .i64 x ∧ 0 ≤ x ∧ x ≤ 4294967296 ∧ uns 10 4294967296 10 t 0 = uns 10 4294967296 10 (t.drop k) x) (fun _ i => t.length - (intOf i).toNat)
        case atStart => exact ⟨0, 0, Nat.zero_le _, rfl, rfl, by decide, by decide, rfl⟩
        case round =>
          obtain ⟨k, x, hk, rfl, rfl, hx0, hx1, hu⟩ := hrel
          by_cases hlt : k < t.length
          · have hd := digI_bd 10 (by decide) (t[k])
            have hdig := digit_10 (t[k])
            rw [List.drop_eq_getElem_cons hlt] at hu
            simp only [uns] at hu
            generalize digI 10 (t[k]) = d at *
            by_cases hneg : d < 0
            · rw [if_pos hneg] at hu
              have HU := Lib.hid hu
              clear hu
              go_wp2_with (go_at_call 43; refine (hdig _).mono ?_; rintro e w' ⟨rfl, rfl⟩)
              go_ret2
              exact ⟨by rw [refTail_none HU.out]; rfl, rfl⟩
            · rw [if_neg hneg] at hu
              by_cases hbig : 4294967296 < x * 10 + d
              · rw [if_pos hbig] at hu
                have HU := Lib.hid hu
                clear hu
                go_wp2_with (go_at_call 43; refine (hdig _).mono ?_; rintro e w' ⟨rfl, rfl⟩)
                go_ret2
                exact ⟨by rw [refTail_none HU.out]; rfl, rfl⟩
              · rw [if_neg hbig] at hu
                have HU := Lib.hid hu
                clear hu
                go_wp2_with (go_at_call 43; refine (hdig _).mono ?_; rintro e w' ⟨rfl, rfl⟩)
                go_round
                case rel => exact ⟨k + 1, x * 10 + d, by omega, by go_num, rfl, by omega, by omega, HU.out⟩
                case measure => simp [intOf]; omega
          · have hkk : k = t.length := by omega
            rw [hkk, List.drop_length] at hu
            have hT := refTail_some (base := 10) (sg := 1) hu
            have HT := Lib.hid hT
            clear hu hT hkk
            cases hE : t.isEmpty with
            | true =>
              go_wp2
              go_ret2
              exact ⟨by rw [HT.out, hE]; rfl, rfl⟩
            | false =>
              by_cases hbig : 4294967295 < x
              · go_wp2
                go_ret2
                exact ⟨by rw [HT.out, hE, if_pos (by simp; omega)]; rfl, rfl⟩
              · go_wp2
                go_ret2
                exact ⟨by rw [HT.out, hE, if_neg (by simp; omega)]; first | rfl | simp, rfl⟩
    · rw [hT]
      clear hT
      rcases hway with h3 | ⟨h3, h4, h5 | ⟨h5, h6⟩⟩
      all_goals
        go_enter Tryd.func21, Tryd.ntmps21
        go_wp2
        obtain ⟨t, rfl⟩ : ∃ t, t = s := ⟨_, rfl⟩
        go_loop [7, 8] (fun n i => ∃ (k : Nat) (x : Int), k ≤ t.length ∧ i = .int .i64 k ∧ n = .int .i64 x ∧ 0 ≤ x ∧ x ≤ 4294967296 ∧ uns 10 4294967296 10 t 0 = uns 10 4294967296 10 (t.drop k) x) (fun _ i => t.length - (intOf i).toNat)
        case atStart => exact ⟨0, 0, Nat.zero_le _, rfl, rfl, by decide, by decide, rfl⟩
        case round =>
          obtain ⟨k, x, hk, rfl, rfl, hx0, hx1, hu⟩ := hrel
          by_cases hlt : k < t.length
          · have hd := digI_bd 10 (by decide) (t[k])
            have hdig := digit_10 (t[k])
            rw [List.drop_eq_getElem_cons hlt] at hu
            simp only [uns] at hu
            generalize digI 10 (t[k]) = d at *
            by_cases hneg : d < 0
            · rw [if_pos hneg] at hu
              have HU := Lib.hid hu
              clear hu
              go_wp2_with (go_at_call 43; refine (hdig _).mono ?_; rintro e w' ⟨rfl, rfl⟩)
              go_ret2
              exact ⟨by rw [refTail_none HU.out]; rfl, rfl⟩
            · rw [if_neg hneg] at hu
              by_cases hbig : 4294967296 < x * 10 + d
              · rw [if_pos hbig] at hu
                have HU := Lib.hid hu
                clear hu
                go_wp2_with (go_at_call 43; refine (hdig _).mono ?_; rintro e w' ⟨rfl, rfl⟩)
                go_ret2
                exact ⟨by rw [refTail_none HU.out]; rfl, rfl⟩
              · rw [if_neg hbig] at hu
                have HU := Lib.hid hu
                clear hu
                go_wp2_with (go_at_call 43; refine (hdig _).mono ?_; rintro e w' ⟨rfl, rfl⟩)
                go_round
                case rel => exact ⟨k + 1, x * 10 + d, by omega, by go_num, rfl, by omega, by omega, HU.out⟩
                case measure => simp [intOf]; omega
          · have hkk : k = t.length := by omega
            rw [hkk, List.drop_length] at hu
            have hT := refTail_some (base := 10) (sg := 1) hu
            have HT := Lib.hid hT
            clear hu hT hkk
            cases hE : t.isEmpty with
            | true =>
              go_wp2
              go_ret2
              exact ⟨by rw [HT.out, hE]; rfl, rfl⟩
            | false =>
              by_cases hbig : 4294967295 < x
              · go_wp2
                go_ret2
                exact ⟨by rw [HT.out, hE, if_pos (by simp; omega)]; rfl, rfl⟩
              · go_wp2
                go_ret2
                exact ⟨by rw [HT.out, hE, if_neg (by simp; omega)]; first | rfl | simp, rfl⟩
end
end Go.Proofs.YtdcpkeagkfchoaaDoor
