/- The document's whole. -/
import Derived.Test.YtdcpkeagkfchoaaDoorRown
namespace Go.Proofs.YtdcpkeagkfchoaaDoor
open Go.RowKit T6
set_option linter.unusedVariables false
theorem toks_nil : toks [] = [] := rfl
theorem whole_words (s : Str) (h10 : s.contains 10 = false) : (wordsO s = some [s]) ↔ isWordB s = true := by
  cases s with
  | nil => constructor <;> intro h <;> simp [wordsO, toks_nil, isWordB] at h
  | cons b t =>
    cases hb : blankB b with
    | true =>
      have hb34 : b ≠ 34 := by rintro rfl; revert hb; decide
      constructor
      · intro h
        have h2 := h
        unfold wordsO at h2
        rw [toks_blank b t hb] at h2
        have := (wordsO_len (x := t) (ws := [b :: t]) h2).2 (b :: t) (by simp)
        simp at this
        omega
      · intro h
        simp only [isWordB, Bool.and_eq_true, beq_iff_eq] at h
        have h1 := h.2
        rw [firstN_cons, if_neg hb34] at h1
        simp [hb] at h1
    | false =>
      cases hn : noteB (b :: t) with
      | true =>
        constructor
        · intro h
          unfold wordsO at h
          rw [toks_note b t hb hn] at h
          simp at h
        · intro h
          simp [isWordB, hn] at h
      | false =>
        have hle := firstN_le (b :: t)
        have hw := toks_word b t hb hn
        constructor
        · intro h
          have h2 := h
          unfold wordsO at h2
          rw [hw] at h2
          split at h2
          · rename_i hall
            injection h2 with h2
            rw [List.map_cons] at h2
            injection h2 with h3 h4
            rw [List.all_cons, Bool.and_eq_true] at hall
            have hlen : (firstN (b :: t)).1 = (b :: t).length := by
              have := congrArg List.length h3
              rw [List.length_take] at this
              omega
            simp only [isWordB, Bool.and_eq_true, beq_iff_eq]
            refine ⟨⟨⟨⟨by simp, by simp [hn]⟩, by rw [h10]; rfl⟩, hall.1⟩, hlen⟩
          · cases h2
        · intro h
          simp only [isWordB, Bool.and_eq_true, beq_iff_eq] at h
          unfold wordsO
          rw [hw, h.2, List.drop_length, toks_nil, List.take_length]
          simp [h.1.2]
section
attribute [local go_sem] ext_to ext_from ext_all byte_at
set_option maxRecDepth 100000 in
set_option maxHeartbeats 2000000 in
theorem rwhole_any (s : Str) (hs : s.length ≤ 1000000) (w : World) : Calls Tryd.prog 39 #[.string ⟨s.toArray⟩] w fun e w' => e = .returned (.bool (isWordB s)) ∧ Below w.heap.size w w' := by
  go_enter Tryd.func39, Tryd.ntmps39
  go_wp2
  go_loop [3] (fun i => ∃ k : Nat, k ≤ s.length ∧ i = .int .i64 k ∧ ∀ j, j < k → ∀ h : j < s.length, s[j] ≠ 10) (fun i => s.length - (intOf i).toNat)
  case atStart => exact ⟨0, Nat.zero_le _, rfl, fun j hj => absurd hj (Nat.not_lt_zero _)⟩
  case round =>
    obtain ⟨k, hk, rfl, hno⟩ := hrel
    have HNO := Lib.hid hno
    clear hno
    by_cases hlt : k < s.length
    · by_cases h10 : s[k] = 10
      · have ht : (((s[k]'hlt).toNat : Int) == 10) = true := by rw [h10]; rfl
        have hc : isWordB s = false := by
          have : s.contains 10 = true := by
            rw [List.contains_iff_mem, ← h10]
            exact List.getElem_mem hlt
          unfold isWordB
          rw [this]
          simp
        have HC := Lib.hid hc
        clear h10 hc
        go_wp2
        go_ret
        exact ⟨by rw [HC.out]; rfl, Below.refl _ _⟩
      · have ht : (((s[k]'hlt).toNat : Int) == 10) = false := eq_f (n := 10) h10
        have HK := Lib.hid h10
        clear h10
        go_wp2
        go_round
        case rel =>
          refine ⟨k + 1, by omega, by go_num, fun j hj h2 => ?_⟩
          by_cases e : j = k
          · subst e; exact HK.out
          · exact HNO.out j (by omega) h2
        case measure => simp [intOf]; omega
    · have hc : s.contains 10 = false := by
        rw [← Bool.not_eq_true, List.contains_iff_mem]
        intro hm
        obtain ⟨j, hj, he⟩ := List.getElem_of_mem hm
        exact HNO.out j (by omega) hj he
      have hww := whole_words s hc
      have hwd := rwords_any s hs
      unfold WordsTold at hwd
      clear hc HNO
      cases hwo : wordsO s with
      | none =>
        have hf : isWordB s = false := by
          rw [← Bool.not_eq_true, ← hww, hwo]
          simp
        rw [hwo] at hwd
        have HF := Lib.hid hf
        clear hf hww hwo
        go_wp2_with (go_at_call 29; refine (hwd _).mono ?_; rintro e w2 ⟨rfl, hb2⟩)
        go_ret
        exact ⟨by rw [HF.out]; rfl, hb2⟩
      | some ws =>
        rw [hwo] at hwd
        rw [hwo] at hww
        have hwl := (wordsO_len hwo).1
        by_cases h1 : ws.length = 1
        · obtain ⟨x, rfl⟩ := List.length_eq_one_iff.1 h1
          have hv : isWordB s = decide (x = s) := by
            rw [Bool.eq_iff_iff, ← hww]
            simp
          have hxl := (wordsO_len hwo).2 x (by simp)
          have HV := Lib.hid hv
          have hxs : (x.toArray = s.toArray) ↔ x = s := ⟨fun h => by simpa using congrArg Array.toList h, fun h => by rw [h]⟩
          obtain ⟨bb, hbb⟩ : ∃ bb, decide (x.toArray = s.toArray) = bb := ⟨_, rfl⟩
          have HB := Lib.hid hbb
          clear hww hwo hv h1 hxs hbb
          go_wp2_with (go_at_call 29; refine (hwd _).mono ?_; rintro e w2 ⟨⟨v2, B2, rfl, hrw⟩, hb2⟩; obtain ⟨A, c, rfl, hA⟩ := strs_of_row hrw; obtain ⟨b1, o1, rfl, hc1⟩ := hA (by simp); have q1 := hc1 0 x (by simp); rw [Nat.add_zero] at q1; clear hc1 hA hrw)
          go_ret
          exact ⟨by rw [HV.out]; show Ending.returned (.bool (x == s)) = _; congr 2; rw [Bool.eq_iff_iff]; simp, hb2⟩
        · have hf : isWordB s = false := by
            rw [← Bool.not_eq_true, ← hww]
            rintro e
            injection e with e
            rw [e] at h1
            exact h1 rfl
          have HF := Lib.hid hf
          have h1' : ((ws.length : Int) == 1) = false := by simp; omega
          clear hf hww hwo
          go_wp2_with (go_at_call 29; refine (hwd _).mono ?_; rintro e w2 ⟨⟨v2, B2, rfl, hrw⟩, hb2⟩; obtain ⟨A, c, rfl⟩ := row_slice hrw)
          go_ret
          exact ⟨by rw [HF.out]; rfl, hb2⟩
end
end Go.Proofs.YtdcpkeagkfchoaaDoor
