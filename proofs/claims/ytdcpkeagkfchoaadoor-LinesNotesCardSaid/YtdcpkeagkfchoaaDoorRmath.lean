/- The plain mathematics of the document's words. -/
import Derived.Test.YtdcpkeagkfchoaaDoorText
namespace Go.Proofs.YtdcpkeagkfchoaaDoor.T6
set_option linter.unusedVariables false
theorem takeWhile_len (p : UInt8 → Bool) : ∀ (l : Str) (m : Nat) (hm : m ≤ l.length) (h : ∀ i (hi : i < m), p (l[i]'(by omega)) = true) (hs : m = l.length ∨ ∃ h : m < l.length, p l[m] = false), (l.takeWhile p).length = m
  | [], m, hm, h, hs => by simp at hm; simp [hm]
  | b :: t, 0, hm, h, hs => by
    rcases hs with e | ⟨h0, e⟩
    · simp at e
    · have : p b = false := e
      simp [this]
  | b :: t, m + 1, hm, h, hs => by
    have hb : p b = true := h 0 (by omega)
    have ih := takeWhile_len p t m (by simpa using hm) (fun i hi => by have := h (i + 1) (by omega); simpa using this) (by
      rcases hs with e | ⟨h0, e⟩
      · exact .inl (by simpa using e)
      · exact .inr ⟨by simpa using h0, by simpa using e⟩)
    simp [hb, ih]
theorem toks_blank (b : UInt8) (t : Str) (hb : blankB b = true) : toks (b :: t) = toks t := by
  rw [← toks_trim (b :: t), ← toks_trim t]
  have : trimB (b :: t) = trimB t := by
    unfold trimB
    rw [List.dropWhile_cons, hb]
    rfl
  rw [this]
theorem trim_cons (b : UInt8) (t : Str) (hb : blankB b = false) : trimB (b :: t) = b :: t := by
  unfold trimB
  rw [List.dropWhile_cons, hb]
  rfl
theorem toks_word (b : UInt8) (t : Str) (hb : blankB b = false) (hn : noteB (b :: t) = false) : toks (b :: t) = ((b :: t).take (firstN (b :: t)).1, (firstN (b :: t)).2) :: toks ((b :: t).drop (firstN (b :: t)).1) := by
  rw [toks_eq, trim_cons b t hb]
  simp [hn]
theorem toks_note (b : UInt8) (t : Str) (hb : blankB b = false) (hn : noteB (b :: t) = true) : toks (b :: t) = [] := by
  rw [toks_eq, trim_cons b t hb]
  simp [hn]
/-- What is said when all of the tokens ahead are whole and so many are behind. -/
theorem wordsO_all {s : Str} {done : List (Str × Bool)} (h : toks s = done) (hd : ∀ p ∈ done, p.2 = true) : wordsO s = some (done.map (·.1)) := by
  unfold wordsO
  rw [h, if_pos (List.all_eq_true.2 hd)]
theorem wordsO_bad {s : Str} {done rest : List (Str × Bool)} {x : Str} (h : toks s = done ++ (x, false) :: rest) : wordsO s = none := by
  unfold wordsO
  rw [h, if_neg]
  simp
theorem noteB_prefix : ∀ (l m : Str), l <+: m → noteB l = true → noteB m = true
  | [], _, _, h => by simp [noteB] at h
  | [_], _, _, h => by simp [noteB] at h
  | a :: b :: l, m, ⟨r, hr⟩, h => by
    rw [← hr]
    exact h
theorem noteB_take (b : UInt8) (t : Str) (_ : b ≠ 34) : noteB ((b :: t).takeWhile (fun c => !blankB c)) = noteB (b :: t) := by
  cases h : noteB (b :: t) with
  | false =>
    cases h2 : noteB ((b :: t).takeWhile (fun c => !blankB c)) with
    | false => rfl
    | true =>
      have := noteB_prefix _ _ (List.takeWhile_prefix _) h2
      rw [h] at this
      cases this
  | true =>
    match t with
    | [] => simp [noteB] at h
    | c :: r =>
      simp only [noteB, Bool.and_eq_true, beq_iff_eq] at h
      obtain ⟨rfl, rfl⟩ := h
      rfl
/-- A quoted text: where it ends, and whether it is whole. -/
theorem quote_open (s : Str) (k : Nat) (hk : k < s.length) (h34 : s[k] = 34) (hno : ∀ i, k + 1 ≤ i → ∀ h : i < s.length, s[i] ≠ 34) : toks (s.drop k) = (s.drop k, false) :: [] := by
  rw [List.drop_eq_getElem_cons hk, h34]
  have hl : (upTo 34 (s.drop (k + 1))).length = (s.drop (k + 1)).length := by
    refine takeWhile_len _ _ _ (Nat.le_refl _) (fun i hi => ?_) (.inl rfl)
    rw [List.getElem_drop]
    rw [List.length_drop] at hi
    have := hno (k + 1 + i) (by omega) (by omega)
    simpa using this
  rw [toks_word _ _ (by decide) (by cases s.drop (k + 1) <;> simp [noteB]), firstN_cons, if_pos rfl, if_pos hl]
  have e : (34 :: s.drop (k + 1)).take ((s.drop (k + 1)).length + 1) = 34 :: s.drop (k + 1) := List.take_of_length_le (by simp)
  have e2 : (34 :: s.drop (k + 1)).drop ((s.drop (k + 1)).length + 1) = [] := List.drop_eq_nil_of_le (by simp)
  rw [e, e2, toks_nil]
theorem quote_closed (s : Str) (k j : Nat) (hk : k < s.length) (h34 : s[k] = 34) (hkj : k + 1 ≤ j) (hj : j < s.length) (hj34 : s[j] = 34) (hno : ∀ i, k + 1 ≤ i → ∀ h : i < j, s[i]'(by omega) ≠ 34) :
    toks (s.drop k) = ((s.take (j + 1)).drop k, nextB (s.drop (j + 1))) :: toks (s.drop (j + 1)) := by
  have hsd : s.drop k = 34 :: s.drop (k + 1) := by rw [List.drop_eq_getElem_cons hk, h34]
  have hl : (upTo 34 (s.drop (k + 1))).length = j - (k + 1) := by
    refine takeWhile_len _ _ _ (by rw [List.length_drop]; omega) (fun i hi => ?_) (.inr ⟨by rw [List.length_drop]; omega, ?_⟩)
    · rw [List.getElem_drop]
      have := hno (k + 1 + i) (by omega) (by omega)
      simpa using this
    · rw [List.getElem_drop]
      have : s[k + 1 + (j - (k + 1))]'(by omega) = s[j] := by congr 1; omega
      rw [this, hj34]
      rfl
  rw [hsd, toks_word _ _ (by decide) (by cases s.drop (k + 1) <;> simp [noteB]), firstN_cons, if_pos rfl, if_neg (by rw [hl, List.length_drop]; omega), hl, ← hsd]
  have e1 : (s.drop k).take (j - (k + 1) + 2) = (s.take (j + 1)).drop k := by rw [List.drop_take]; congr 1; omega
  have e2 : (s.drop k).drop (j - (k + 1) + 2) = s.drop (j + 1) := by rw [List.drop_drop]; congr 1; omega
  have e3 : (s.drop (k + 1)).drop (j - (k + 1) + 1) = s.drop (j + 1) := by rw [List.drop_drop]; congr 1; omega
  simp only [e1, e2, e3]
theorem plain_word (s : Str) (k j : Nat) (hk : k < s.length) (h34 : s[k] ≠ 34) (hb : blankB s[k] = false) (hkj : k ≤ j) (hj : j ≤ s.length) (hno : ∀ i, k ≤ i → ∀ h : i < j, blankB (s[i]'(by omega)) = false) (hs : j = s.length ∨ ∃ h : j < s.length, blankB s[j] = true) :
    noteB ((s.take j).drop k) = noteB (s.drop k) ∧ (noteB (s.drop k) = true → toks (s.drop k) = []) ∧ (noteB (s.drop k) = false → toks (s.drop k) = ((s.take j).drop k, true) :: toks (s.drop j)) := by
  have hsd : s.drop k = s[k] :: s.drop (k + 1) := List.drop_eq_getElem_cons hk
  have hl : ((s.drop k).takeWhile (fun c => !blankB c)).length = j - k := by
    refine takeWhile_len _ _ _ (by rw [List.length_drop]; omega) (fun i hi => ?_) ?_
    · rw [List.getElem_drop]
      have := hno (k + i) (by omega) (by omega)
      simp [this]
    · rcases hs with e | ⟨h, e⟩
      · left; rw [List.length_drop]; omega
      · right
        refine ⟨by rw [List.length_drop]; omega, ?_⟩
        rw [List.getElem_drop]
        have : s[k + (j - k)]'(by omega) = s[j] := by congr 1; omega
        rw [this, e]
        rfl
  have hw : (s.take j).drop k = (s.drop k).takeWhile (fun c => !blankB c) := by
    rw [List.drop_take, ← hl]
    exact ((List.prefix_iff_eq_take.1 (List.takeWhile_prefix _))).symm
  refine ⟨?_, fun hn => ?_, fun hn => ?_⟩
  · rw [hw, hsd]
    exact noteB_take _ _ h34
  · rw [hsd] at hn ⊢
    exact toks_note _ _ hb hn
  · have ht := toks_word s[k] (s.drop (k + 1)) hb (by rw [← hsd]; exact hn)
    rw [firstN_cons, if_neg h34, ← hsd] at ht
    rw [ht]
    simp only [hl]
    rw [List.drop_drop, show k + (j - k) = j by omega, List.drop_take]
end Go.Proofs.YtdcpkeagkfchoaaDoor.T6
