/- What is printed, parsed again: the mathematics. -/
import Derived.Test.YtdcpkeagkfchoaaDoorPback
import Derived.Test.YtdcpkeagkfchoaaDoorRline
namespace Go.Proofs.YtdcpkeagkfchoaaDoor
open Go.RowKit T6
set_option linter.unusedVariables false
theorem items_ok {d : LineD} (h : rightB d = true) : ∀ x ∈ itemsB d, okW x := by
  intro x hx
  have := toks_text d (items_words h)
  exact toks_ok (textB d) (x, true) (by rw [this]; exact List.mem_map.2 ⟨x, hx, rfl⟩) rfl
theorem lab_item {x : Str} (h : isPlainB x = true) : labR (x ++ [58]) = true := by
  have hw := isPlainB_word h
  unfold isPlainB at h
  rw [Bool.and_eq_true] at h
  have h34 := h.2
  cases x with
  | nil => simp [isWordB] at hw
  | cons b t =>
    have h34' : (b != 34) = true := by simpa using h34
    simp only [labR, Bool.and_eq_true, decide_eq_true_eq, beq_iff_eq]
    refine ⟨⟨by simp, ?_⟩, by simpa using h34'⟩
    have e : ((b :: t : Str) ++ [58]).length - 1 = (b :: t).length := by simp
    rw [e, List.getElem?_append_right (Nat.le_refl _)]
    simp
theorem items_parts {d : LineD} (h : rightB d = true) : (d.word ≠ [] ∧ isLab d.word = false ∧ itemsB d = labsT d ++ d.word :: d.args) ∨ (d.word = [] ∧ d.args = [] ∧ itemsB d = labsT d) := by
  obtain ⟨h0, h2, h1⟩ := right_parts h
  unfold itemsB wordI
  unfold wordB at h1
  by_cases hw : d.word = []
  · rw [if_pos hw] at h1
    have ha : d.args = [] := by simpa using h1
    exact .inr ⟨hw, ha, by rw [if_pos hw, ha]; simp⟩
  · rw [if_neg hw, Bool.and_eq_true, Bool.not_eq_true'] at h1
    exact .inl ⟨hw, h1.2, by rw [if_neg hw]; simp⟩
theorem nLab_items {d : LineD} (h : rightB d = true) : nLab (itemsB d) = d.labels.length := by
  obtain ⟨h0, h2, h1⟩ := right_parts h
  have hok := items_ok h
  have hl : (labsT d).length = d.labels.length := by simp [labsT]
  have hlab : ∀ j (hj : j < d.labels.length), ∃ x, (labsT d)[j]? = some x ∧ labR x = true := fun j hj => by
    refine ⟨d.labels[j] ++ [58], by simp [labsT, hj], lab_item (h0 _ (List.getElem_mem hj))⟩
  have key : ∀ r, itemsB d = labsT d ++ r → (r = [] ∨ ∃ x t, r = x :: t ∧ labR x = false) → nLab (itemsB d) = d.labels.length := fun r hr hs => by
    rw [hr]
    refine nLab_all _ _ (by rw [List.length_append]; omega) (fun j hj => ?_) ?_
    · obtain ⟨x, hx, hx2⟩ := hlab j hj
      have e : (labsT d ++ r)[j]? = some x := by rw [List.getElem?_append_left (by omega)]; exact hx
      rw [List.getElem?_eq_some_iff] at e
      obtain ⟨_, e⟩ := e
      rw [e]
      exact hx2
    · rcases hs with rfl | ⟨x, t, rfl, hx⟩
      · exact .inl (by simp [hl])
      · refine .inr ⟨by simp [hl], ?_⟩
        have e : (labsT d ++ x :: t)[d.labels.length]? = some x := by rw [List.getElem?_append_right (by omega), hl]; simp
        rw [List.getElem?_eq_some_iff] at e
        obtain ⟨_, e⟩ := e
        rw [e]
        exact hx
  rcases items_parts h with ⟨hw, hn, hi⟩ | ⟨hw, ha, hi⟩
  · refine key _ hi (.inr ⟨_, _, rfl, ?_⟩)
    rw [← lab_same _ (hok _ (by rw [hi]; simp))]
    exact hn
  · exact key [] (by rw [hi]; simp) (.inl rfl)
theorem lineT_text {d : LineD} (h : rightB d = true) : lineT (textB d) = d := by
  have hn := nLab_items h
  have hl : (labsT d).length = d.labels.length := by simp [labsT]
  have hmap : ((labsT d).map List.dropLast) = d.labels := by simp [labsT, Function.comp_def]
  unfold lineT
  rw [toks_text d (items_words h)]
  have e : ((itemsB d).map (fun x => (x, true))).map (·.1) = itemsB d := by simp [Function.comp_def]
  rw [e, line_same _ (items_ok h)]
  unfold lineR
  rw [hn]
  obtain ⟨L, W, A⟩ := d
  rcases items_parts h with ⟨hw, hn2, hi⟩ | ⟨hw, ha, hi⟩
  · rw [hi, ← hl]
    simp only [LineD.mk.injEq]
    refine ⟨?_, ?_, ?_⟩
    · rw [List.take_left]; exact hmap
    · rw [List.getElem?_append_right (Nat.le_refl _), Nat.sub_self]; rfl
    · rw [List.drop_append, List.drop_of_length_le (by omega)]
      simp
  · simp only at hw ha
    subst hw ha
    rw [hi, ← hl]
    simp only [LineD.mk.injEq]
    refine ⟨?_, ?_, ?_⟩
    · rw [List.take_length]; exact hmap
    · simp
    · simp
theorem words_text {d : LineD} (h : rightB d = true) : wordsO (textB d) = some (itemsB d) := by
  have := wordsO_all (toks_text d (items_words h)) (by simp)
  simpa [Function.comp_def] using this
theorem errOf_text {d : LineD} (h : rightB d = true) : errOf (textB d) = 0 ∨ errOf (textB d) = 6 := by
  unfold errOf
  rw [words_text h]
  split
  · exact .inr rfl
  · exact .inl rfl
/-- Lines whose texts are whole: all of them, or the number of the first one that is too long. -/
theorem parseL_whole : ∀ (ts : List Str) (k : Nat) (acc : List LineD), (∀ t ∈ ts, errOf t = 0 ∨ errOf t = 6) → parseL k acc ts = (acc ++ ts.map lineT, 0, 0) ∨ ∃ n, 0 < n ∧ n ≤ k + ts.length ∧ parseL k acc ts = ([], n, 6)
  | [], k, acc, _ => .inl (by simp [parseL])
  | t :: ts, k, acc, h => by
    rw [parseL]
    rcases h t (by simp) with h0 | h6
    · rw [if_pos h0]
      rcases parseL_whole ts (k + 1) (acc ++ [lineT t]) (fun x hx => h x (by simp [hx])) with e | ⟨n, n0, n1, e⟩
      · exact .inl (by rw [e]; simp)
      · exact .inr ⟨n, n0, by simp only [List.length_cons]; omega, e⟩
    · rw [if_neg (by rw [h6]; decide), h6]
      exact .inr ⟨k + 1, by omega, by simp only [List.length_cons]; omega, rfl⟩
theorem map_texts : ∀ ds : List LineD, (∀ d ∈ ds, rightB d = true) → (ds.map textB).map lineT = ds
  | [], _ => rfl
  | d :: ds, h => by
    rw [List.map_cons, List.map_cons, lineT_text (h d (by simp)), map_texts ds (fun x hx => h x (by simp [hx]))]
theorem parse_print (ds : List LineD) (h : ∀ d ∈ ds, rightB d = true) : parseL 0 [] (splitL (printT ds)) = (ds, 0, 0) ∨ ∃ n, 0 < n ∧ n ≤ ds.length ∧ parseL 0 [] (splitL (printT ds)) = ([], n, 6) := by
  rw [splitL_print ds h]
  rcases parseL_whole (ds.map textB) 0 [] (fun t ht => by obtain ⟨d, hd, rfl⟩ := List.mem_map.1 ht; exact errOf_text (h d hd)) with e | ⟨n, n0, n1, e⟩
  · exact .inl (by rw [e, map_texts ds h]; rfl)
  · exact .inr ⟨n, n0, by simpa using n1, e⟩
/-! ### Dressed with blanks, tabs and notes -/
def tailN (note : Str) : Str := [32, 9, 47, 47, 32] ++ note
def dressL (note : Str) (d : LineD) : Str := if textB d = [] then tailN note ++ [9, 32] else [9, 32] ++ textB d ++ tailN note
def dressT (note : Str) (ds : List LineD) : Str := (ds.map (fun d => dressL note d ++ [10])).flatten
theorem toks_tail (note : Str) : toks (tailN note) = [] := by
  unfold tailN
  rw [show [32, 9, 47, 47, 32] ++ note = 32 :: 9 :: 47 :: 47 :: 32 :: note from rfl, toks_blank _ _ (by decide), toks_blank _ _ (by decide)]
  exact toks_note _ _ (by decide) rfl
theorem toks_spt (q : Str) (hq : toks q = []) (hn : nextB q = true) : ∀ l : List Str, (∀ x ∈ l, isWordB x = true) → toks (sp l ++ q) = l.map (fun x => (x, true))
  | [], _ => hq
  | x :: l, h => by
    have hx := h x (by simp)
    have ih := toks_spt q hq hn l (fun y hy => h y (by simp [hy]))
    have hnx : nextB (sp l ++ q) = true := by
      cases l with
      | nil => exact hn
      | cons x l => rfl
    have hf := word_next x (sp l ++ q) hx hnx
    have hno := note_next x (sp l ++ q) hx hnx
    have e : sp (x :: l) ++ q = 32 :: (x ++ (sp l ++ q)) := by simp [sp]
    rw [e, toks_blank _ _ (by decide)]
    cases x with
    | nil => simp [isWordB] at hx
    | cons b t =>
      have hb := word_head hx
      rw [List.cons_append] at hf hno ⊢
      rw [toks_word b _ hb hno, hf]
      rw [show b :: (t ++ (sp l ++ q)) = (b :: t) ++ (sp l ++ q) from rfl, List.take_left, List.drop_left, ih]
      rfl
theorem toks_dress (note : Str) {d : LineD} (h : ∀ x ∈ itemsB d, isWordB x = true) : toks (dressL note d) = (itemsB d).map (fun x => (x, true)) := by
  have hs := toks_spt (tailN note) (toks_tail note) rfl (itemsB d) h
  unfold dressL
  split
  · rename_i he
    have hi : itemsB d = [] := by
      unfold textB at he
      cases hi : itemsB d with
      | nil => rfl
      | cons x l =>
        rw [hi] at he
        have e : sp (x :: l) = 32 :: (x ++ sp l) := by simp [sp]
        rw [e] at he
        have hx := h x (by rw [hi]; simp)
        cases x with
        | nil => simp [isWordB] at hx
        | cons b t => simp at he
    rw [hi]
    have := toks_tail (note ++ [9, 32])
    unfold tailN at this ⊢
    rw [List.append_assoc]
    exact this
  · rename_i hne
    rw [show [9, 32] ++ textB d ++ tailN note = 9 :: 32 :: (textB d ++ tailN note) from by simp, toks_blank _ _ (by decide), toks_blank _ _ (by decide)]
    rw [← hs]
    unfold textB at hne ⊢
    cases hi : itemsB d with
    | nil => rfl
    | cons x l =>
      have e : sp (x :: l) = 32 :: (x ++ sp l) := by simp [sp]
      rw [e]
      exact (toks_blank 32 (x ++ sp l ++ tailN note) (by decide)).symm
theorem dress_no10 (note : Str) (hn : ∀ b ∈ note, b ≠ 10) {d : LineD} (h : rightB d = true) : ∀ b ∈ dressL note d, b ≠ 10 := by
  have ht : ∀ b ∈ tailN note, b ≠ 10 := fun b hb => by
    unfold tailN at hb
    rcases List.mem_append.1 hb with hb | hb
    · rintro rfl
      revert hb
      decide
    · exact hn b hb
  have h2 : ∀ b ∈ ([9, 32] : Str), b ≠ 10 := by decide
  intro b hb
  unfold dressL at hb
  split at hb
  · rcases List.mem_append.1 hb with hb | hb
    · exact ht b hb
    · exact h2 b hb
  · rcases List.mem_append.1 hb with hb | hb
    · rcases List.mem_append.1 hb with hb | hb
      · exact h2 b hb
      · exact textB_no10 h b hb
    · exact ht b hb
theorem splitL_dress (note : Str) (hn : ∀ b ∈ note, b ≠ 10) : ∀ ds : List LineD, (∀ d ∈ ds, rightB d = true) → splitL (dressT note ds) = ds.map (dressL note)
  | [], _ => rfl
  | d :: ds, h => by
    have e : dressT note (d :: ds) = dressL note d ++ [10] ++ dressT note ds := by simp [dressT]
    rw [e, splitL_cat _ _ (dress_no10 note hn (h d (by simp))), splitL_dress note hn ds (fun y hy => h y (by simp [hy]))]
    rfl
theorem lineT_dress (note : Str) {d : LineD} (h : rightB d = true) : lineT (dressL note d) = d := by
  have e := lineT_text h
  unfold lineT at e ⊢
  rw [toks_text d (items_words h)] at e
  rw [toks_dress note (items_words h)]
  exact e
theorem errOf_dress (note : Str) {d : LineD} (h : rightB d = true) : errOf (dressL note d) = 0 ∨ errOf (dressL note d) = 6 := by
  have hw := wordsO_all (toks_dress note (items_words h)) (by simp)
  unfold errOf
  rw [hw]
  split
  · exact .inr rfl
  · exact .inl rfl
theorem map_dress (note : Str) : ∀ ds : List LineD, (∀ d ∈ ds, rightB d = true) → (ds.map (dressL note)).map lineT = ds
  | [], _ => rfl
  | d :: ds, h => by
    rw [List.map_cons, List.map_cons, lineT_dress note (h d (by simp)), map_dress note ds (fun x hx => h x (by simp [hx]))]
theorem parse_dress (note : Str) (hn : ∀ b ∈ note, b ≠ 10) (ds : List LineD) (h : ∀ d ∈ ds, rightB d = true) : parseL 0 [] (splitL (dressT note ds)) = (ds, 0, 0) ∨ ∃ n, 0 < n ∧ n ≤ ds.length ∧ parseL 0 [] (splitL (dressT note ds)) = ([], n, 6) := by
  rw [splitL_dress note hn ds h]
  rcases parseL_whole (ds.map (dressL note)) 0 [] (fun t ht => by obtain ⟨d, hd, rfl⟩ := List.mem_map.1 ht; exact errOf_dress note (h d hd)) with e | ⟨n, n0, n1, e⟩
  · exact .inl (by rw [e, map_dress note ds h]; rfl)
  · exact .inr ⟨n, n0, by simpa using n1, e⟩
/-! ### How the law dresses a text, byte by byte -/
def pieceN (note : Str) (st : Bool) (b : UInt8) : Str := (if b = 10 then tailN note else []) ++ (if st then [9, 32] else []) ++ [b]
def dressF (note : Str) (st : Bool) : Str → Str
  | [] => []
  | b :: s => pieceN note st b ++ dressF note (b == 10) s
def stAt (s : Str) (k : Nat) : Bool := k == 0 || s[k - 1]?.getD 0 == 10
theorem dressF_snoc (note : Str) (b : UInt8) : ∀ (s : Str) (st : Bool), dressF note st (s ++ [b]) = dressF note st s ++ pieceN note (if s = [] then st else s.getLast? == some 10) b
  | [], st => by simp [dressF]
  | c :: s, st => by
    rw [List.cons_append, dressF, dressF_snoc note b s, dressF]
    cases s with
    | nil => simp
    | cons d s => simp
theorem dressF_step (note : Str) (s : Str) (k : Nat) (hk : k < s.length) : dressF note true (s.take (k + 1)) = dressF note true (s.take k) ++ pieceN note (stAt s k) s[k] := by
  rw [List.take_succ_eq_append_getElem hk, dressF_snoc]
  congr 2
  cases k with
  | zero => rfl
  | succ k =>
    have hne : s.take (k + 1) ≠ [] := by
      intro e
      have := congrArg List.length e
      simp only [List.length_take, List.length_nil] at this
      omega
    rw [if_neg hne, last_take s k (by omega)]
    simp [stAt, List.getElem?_eq_getElem (show k < s.length by omega)]
theorem dressF_plain (note : Str) : ∀ (s r : Str) (st : Bool), (∀ b ∈ s, b ≠ 10) → dressF note st (s ++ r) = (if st && !s.isEmpty then [9, 32] else []) ++ s ++ dressF note (st && s.isEmpty) r
  | [], r, st, _ => by simp
  | b :: s, r, st, h => by
    have hb := h b (by simp)
    have hbe : (b == 10) = false := by simpa using hb
    rw [List.cons_append, dressF, hbe, dressF_plain note s r false (fun x hx => h x (by simp [hx]))]
    cases st <;> simp [pieceN, hb]
theorem dressF_line (note : Str) (s r : Str) (h : ∀ b ∈ s, b ≠ 10) : dressF note true (s ++ [10] ++ r) = (if s = [] then tailN note ++ [9, 32] else [9, 32] ++ s ++ tailN note) ++ [10] ++ dressF note true r := by
  rw [List.append_assoc, dressF_plain note s _ true h]
  rw [show [10] ++ r = 10 :: r from rfl, dressF]
  cases s with
  | nil => simp [pieceN]
  | cons b s => simp [pieceN]
theorem dressF_print (note : Str) : ∀ ds : List LineD, (∀ d ∈ ds, rightB d = true) → dressF note true (printT ds) = dressT note ds
  | [], _ => rfl
  | d :: ds, h => by
    have e : printT (d :: ds) = textB d ++ [10] ++ printT ds := by simp [printT]
    rw [e, dressF_line note _ _ (textB_no10 (h d (by simp))), dressF_print note ds (fun y hy => h y (by simp [hy]))]
    simp [dressT, dressL]
theorem dressF_len (note : Str) : ∀ (s : Str) (st : Bool), (dressF note st s).length ≤ s.length * (note.length + 8)
  | [], _ => by simp [dressF]
  | b :: s, st => by
    have ih := dressF_len note s (b == 10)
    have hp : (pieceN note st b).length ≤ note.length + 8 := by
      unfold pieceN tailN
      split <;> split <;> simp <;> omega
    rw [dressF, List.length_append, List.length_cons, Nat.succ_mul]
    omega
end Go.Proofs.YtdcpkeagkfchoaaDoor
