/- What is printed, read again. -/
import Derived.Test.YtdcpkeagkfchoaaDoorRprint
namespace Go.Proofs.YtdcpkeagkfchoaaDoor
open Go.RowKit T6
set_option linter.unusedVariables false
theorem isWordB_no10 {x : Str} (h : isWordB x = true) : ∀ b ∈ x, b ≠ 10 := by
  simp only [isWordB, Bool.and_eq_true, Bool.not_eq_true'] at h
  have h2 := h.1.1.2
  intro b hb e
  subst e
  rw [← Bool.not_eq_true, List.contains_iff_mem] at h2
  exact h2 hb
theorem isPlainB_word {x : Str} (h : isPlainB x = true) : isWordB x = true := by
  unfold isPlainB at h
  rw [Bool.and_eq_true] at h
  exact h.1
theorem right_parts {d : LineD} (h : rightB d = true) : (∀ x ∈ d.labels, isPlainB x = true) ∧ (∀ x ∈ d.args, isWordB x = true) ∧ wordB d = true := by
  unfold rightB at h
  rw [Bool.and_eq_true, Bool.and_eq_true, List.all_eq_true, List.all_eq_true] at h
  exact ⟨h.1.1, h.1.2, h.2⟩
theorem items_no10 {d : LineD} (h : rightB d = true) : ∀ x ∈ itemsB d, ∀ b ∈ x, b ≠ 10 := by
  obtain ⟨h0, h2, h1⟩ := right_parts h
  intro x hx
  unfold itemsB at hx
  rcases List.mem_append.1 hx with hx | hx
  · rcases List.mem_append.1 hx with hx | hx
    · unfold labsT at hx
      obtain ⟨y, hy, rfl⟩ := List.mem_map.1 hx
      intro b hb
      rcases List.mem_append.1 hb with hb | hb
      · exact isWordB_no10 (isPlainB_word (h0 y hy)) b hb
      · obtain rfl := List.mem_singleton.1 hb
        decide
    · unfold wordI at hx
      split at hx
      · simp at hx
      · rename_i hne
        obtain rfl := List.mem_singleton.1 hx
        unfold wordB at h1
        rw [if_neg hne, Bool.and_eq_true] at h1
        exact isWordB_no10 (isPlainB_word h1.1)
  · exact isWordB_no10 (h2 x hx)
theorem sp_no10 : ∀ {l : List Str}, (∀ x ∈ l, ∀ b ∈ x, b ≠ 10) → ∀ b ∈ sp l, b ≠ 10 := by
  intro l h b hb
  unfold sp at hb
  obtain ⟨y, hy, hby⟩ := List.mem_flatten.1 hb
  obtain ⟨x, hx, rfl⟩ := List.mem_map.1 hy
  rcases List.mem_cons.1 hby with rfl | hb2
  · decide
  · exact h x hx b hb2
theorem textB_no10 {d : LineD} (h : rightB d = true) : ∀ b ∈ textB d, b ≠ 10 := fun b hb => sp_no10 (items_no10 h) b (List.mem_of_mem_drop hb)
theorem splitL_cat (b : Str) : ∀ a : Str, (∀ x ∈ a, x ≠ 10) → splitL (a ++ [10] ++ b) = a :: splitL b
  | [], _ => by simp [splitL]
  | x :: a, h => by
    have ih := splitL_cat b a (fun y hy => h y (by simp [hy]))
    have hx := h x (by simp)
    have e : x :: a ++ [10] ++ b = x :: (a ++ [10] ++ b) := by simp
    rw [e, splitL, if_neg hx, ih]
theorem splitL_print : ∀ ds : List LineD, (∀ d ∈ ds, rightB d = true) → splitL (printT ds) = ds.map textB
  | [], _ => rfl
  | d :: ds, h => by
    have e : printT (d :: ds) = textB d ++ [10] ++ printT ds := by simp [printT]
    rw [e, splitL_cat _ _ (textB_no10 (h d (by simp))), splitL_print ds (fun y hy => h y (by simp [hy]))]
    rfl
/-- What follows a word: nothing, or a blank. -/
def Ends (r : Str) : Prop := r = [] ∨ ∃ c t, r = c :: t ∧ blankB c = true
theorem takeWhile_stop (p : UInt8 → Bool) (a r : Str) (ha : ∀ x ∈ a, p x = true) (hr : r = [] ∨ ∃ c t, r = c :: t ∧ p c = false) : (a ++ r).takeWhile p = a := by
  induction a with
  | nil =>
    rcases hr with rfl | ⟨c, t, rfl, hc⟩
    · rfl
    · simp [hc]
  | cons x a ih =>
    rw [List.cons_append, List.takeWhile_cons, ha x (by simp), if_pos rfl, ih (fun y hy => ha y (by simp [hy]))]
theorem takeWhile_full (p : UInt8 → Bool) (a : Str) (h : (a.takeWhile p).length = a.length) : ∀ x ∈ a, p x = true := by
  induction a with
  | nil => simp
  | cons x a ih =>
    rw [List.takeWhile_cons] at h
    split at h
    · rename_i hx
      intro y hy
      rcases List.mem_cons.1 hy with rfl | hy
      · exact hx
      · exact ih (by simpa using h) y hy
    · simp at h
theorem word_next (x r : Str) (h : isWordB x = true) (hr : nextB r = true) : firstN (x ++ r) = (x.length, true) := by
  simp only [isWordB, Bool.and_eq_true, beq_iff_eq] at h
  cases x with
  | nil => simp at h
  | cons b t =>
    rw [List.cons_append, firstN_cons]
    have h1 := h.1.2
    have h2 := h.2
    rw [firstN_cons] at h1 h2
    by_cases hb : b = 34
    · rw [if_pos hb] at h1 h2 ⊢
      by_cases hl : (upTo 34 t).length = t.length
      · rw [if_pos hl] at h1
        cases h1
      · rw [if_neg hl] at h1 h2
        have hle := upTo_le 34 t
        have hu : upTo 34 (t ++ r) = upTo 34 t := by
          unfold upTo at hl ⊢
          rw [List.takeWhile_append, if_neg hl]
        have hm : (upTo 34 t).length + 1 = t.length := by simpa using h2
        rw [hu, if_neg (by rw [List.length_append]; omega), hm, List.drop_left, hr]
        simp only [List.length_cons]
        rw [← hm]
    · rw [if_neg hb] at h1 h2 ⊢
      have hall := takeWhile_full _ (b :: t) h2
      rw [show b :: (t ++ r) = (b :: t) ++ r from rfl, takeWhile_stop _ (b :: t) r hall ?_]
      cases r with
      | nil => exact .inl rfl
      | cons c r => exact .inr ⟨c, r, rfl, by simpa [nextB] using hr⟩
theorem note_next (x r : Str) (h : isWordB x = true) (hr : nextB r = true) : noteB (x ++ r) = false := by
  simp only [isWordB, Bool.and_eq_true, Bool.not_eq_true'] at h
  have hn := h.1.1.1.2
  rcases x with _ | ⟨b, _ | ⟨c, t⟩⟩
  · simp at h
  · rcases r with _ | ⟨c, r⟩
    · simpa using hn
    · have hc : blankB c = true := hr
      have : c ≠ 47 := by rintro rfl; revert hc; decide
      simp [noteB, this]
  · simpa [noteB] using hn
theorem nextB_sp (l : List Str) : nextB (sp l) = true := by
  cases l with
  | nil => rfl
  | cons x l => rfl
theorem word_head {b : UInt8} {t : Str} (h : isWordB (b :: t) = true) : blankB b = false := by
  simp only [isWordB, Bool.and_eq_true, beq_iff_eq] at h
  have h2 := h.2
  rw [firstN_cons] at h2
  by_cases hb : b = 34
  · subst hb; decide
  · rw [if_neg hb] at h2
    simpa using takeWhile_full _ (b :: t) h2 b (by simp)
theorem toks_sp : ∀ l : List Str, (∀ x ∈ l, isWordB x = true) → toks (sp l) = l.map (fun x => (x, true))
  | [], _ => rfl
  | x :: l, h => by
    have hx := h x (by simp)
    have ih := toks_sp l (fun y hy => h y (by simp [hy]))
    have hf := word_next x (sp l) hx (nextB_sp l)
    have hn := note_next x (sp l) hx (nextB_sp l)
    have e : sp (x :: l) = 32 :: (x ++ sp l) := by simp [sp]
    rw [e, toks_blank _ _ (by decide)]
    cases x with
    | nil => simp [isWordB] at hx
    | cons b t =>
      have hb := word_head hx
      rw [List.cons_append] at hf hn ⊢
      rw [toks_word b _ hb hn, hf]
      rw [show b :: (t ++ sp l) = (b :: t) ++ sp l from rfl, List.take_left, List.drop_left, ih]
      rfl
theorem toks_text (d : LineD) (h : ∀ x ∈ itemsB d, isWordB x = true) : toks (textB d) = (itemsB d).map (fun x => (x, true)) := by
  unfold textB
  have := toks_sp (itemsB d) h
  cases hi : itemsB d with
  | nil => rfl
  | cons x l =>
    rw [hi] at this
    have e : sp (x :: l) = 32 :: (x ++ sp l) := by simp [sp]
    rw [e] at this ⊢
    rw [toks_blank _ _ (by decide)] at this
    exact this
theorem label_word {x : Str} (h : isPlainB x = true) : isWordB (x ++ [58]) = true := by
  have hw := isPlainB_word h
  unfold isPlainB at h
  rw [Bool.and_eq_true] at h
  have h34 := h.2
  have h10 := isWordB_no10 hw
  simp only [isWordB, Bool.and_eq_true, beq_iff_eq, Bool.not_eq_true'] at hw ⊢
  cases x with
  | nil => simp at hw
  | cons b t =>
    have hb : b ≠ 34 := by simpa using h34
    have h2 := hw.2
    rw [firstN_cons, if_neg hb] at h2
    have hall := takeWhile_full _ (b :: t) h2
    have hall2 : ∀ y ∈ b :: (t ++ [58]), (!blankB y) = true := by
      intro y hy
      rw [show b :: (t ++ [58]) = (b :: t) ++ [58] from rfl] at hy
      rcases List.mem_append.1 hy with hy | hy
      · exact hall y hy
      · obtain rfl := List.mem_singleton.1 hy
        decide
    have htw : (b :: (t ++ [58])).takeWhile (fun c => !blankB c) = b :: (t ++ [58]) := by
      have := takeWhile_stop (fun c => !blankB c) (b :: (t ++ [58])) [] hall2 (.inl rfl)
      simpa using this
    rw [List.cons_append]
    refine ⟨⟨⟨⟨rfl, ?_⟩, ?_⟩, ?_⟩, ?_⟩
    · have hn := hw.1.1.1.2
      cases t with
      | nil => simp [noteB]
      | cons c t => simpa [noteB] using hn
    · rw [← Bool.not_eq_true, List.contains_iff_mem]
      intro hm
      rw [show b :: (t ++ [58]) = (b :: t) ++ [58] from rfl] at hm
      rcases List.mem_append.1 hm with hm | hm
      · exact h10 10 hm rfl
      · simp at hm
    · rw [firstN_cons, if_neg hb]
    · rw [firstN_cons, if_neg hb, htw]
theorem items_words {d : LineD} (h : rightB d = true) : ∀ x ∈ itemsB d, isWordB x = true := by
  obtain ⟨h0, h2, h1⟩ := right_parts h
  intro x hx
  unfold itemsB at hx
  rcases List.mem_append.1 hx with hx | hx
  · rcases List.mem_append.1 hx with hx | hx
    · unfold labsT at hx
      obtain ⟨y, hy, rfl⟩ := List.mem_map.1 hx
      exact label_word (h0 y hy)
    · unfold wordI at hx
      split at hx
      · simp at hx
      · rename_i hne
        obtain rfl := List.mem_singleton.1 hx
        unfold wordB at h1
        rw [if_neg hne, Bool.and_eq_true] at h1
        exact isPlainB_word h1.1
  · exact h2 x hx
end Go.Proofs.YtdcpkeagkfchoaaDoor
