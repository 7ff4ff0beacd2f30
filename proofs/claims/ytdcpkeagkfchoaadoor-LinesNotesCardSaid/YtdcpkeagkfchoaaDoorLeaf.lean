/- The small functions on words, of the program and of the document's answer: one contract each. -/
import Derived.Test.YtdcpkeagkfchoaaDoorCell
import Derived.Test.YtdcpkeagkfchoaaDoorAny
import Derived.Lib.Bytealg
import Derived.Lib.Strings
namespace Go.Proofs.YtdcpkeagkfchoaaDoor
open Go.RowKit T6
set_option linter.unusedVariables false
theorem byte_get (l : Str) (k : Nat) (h : k < (⟨l.toArray⟩ : ByteArray).size) : (⟨l.toArray⟩ : ByteArray)[k]'h = l[k]?.getD 0 := by
  have h' : k < l.length := h
  show l.toArray[k] = _
  simp [h']
theorem ext_all (l : Str) (a b : Nat) : (⟨l.toArray⟩ : ByteArray).extract a b = ⟨((l.take b).drop a).toArray⟩ := by
  apply ByteArray.ext
  rw [ByteArray.data_extract]
  simp [List.extract_toArray, List.extract_eq_take_drop, List.drop_take]
theorem ext_to (l : Str) (b : Nat) : (⟨l.toArray⟩ : ByteArray).extract 0 b = ⟨(l.take b).toArray⟩ := by rw [ext_all, List.drop_zero]
theorem ext_from (l : Str) (a : Nat) : (⟨l.toArray⟩ : ByteArray).extract a l.length = ⟨(l.drop a).toArray⟩ := by rw [ext_all, List.take_length]
attribute [local go_sem] byte_get ext_to ext_from
theorem str_empty (s : Str) : (⟨s.toArray⟩ : ByteArray).toList.isEmpty = s.isEmpty := by
  rw [Lib.toList_data]
theorem num_any (e : Int) (w : World) (h0 : 0 ≤ e) (h1 : e ≤ 1000) : Calls Tryd.prog 13 #[.int .i64 e] w fun e' w' => e' = .returned (.int .i64 e) ∧ w = w' := by
  go_enter Tryd.func13, Tryd.ntmps13
  go_wp2
  go_ret
  exact ⟨rfl, rfl⟩
theorem blank_any (b : UInt8) (w : World) : Calls Tryd.prog 53 #[.int .u8 (b.toNat : Int)] w fun e w' => e = .returned (.bool (blankB b)) ∧ w = w' := by
  go_enter Tryd.func53, Tryd.ntmps53
  go_wp2
  all_goals
    go_ret
    refine ⟨ret_bool ?_, rfl⟩
    rw [Bool.eq_iff_iff]
    simp [blankB, ← UInt8.toNat_inj]
    omega
theorem noteB_at (s : Str) : noteB s = (decide (1 < s.length) && s[0]?.getD 0 == 47 && s[1]?.getD 0 == 47) := by
  match s with
  | [] => rfl
  | [a] => simp [noteB]
  | a :: b :: t => simp [noteB]
theorem note_any (s : Str) (w : World) (hs : s.length ≤ 1000000000) : Calls Tryd.prog 54 #[.string ⟨s.toArray⟩] w fun e w' => e = .returned (.bool (noteB s)) ∧ w = w' := by
  rw [noteB_at]
  go_enter Tryd.func54, Tryd.ntmps54
  go_wp2
  all_goals
    go_ret
    refine ⟨ret_bool ?_, rfl⟩
    rw [Bool.eq_iff_iff]
    simp [← UInt8.toNat_inj]
    omega
def labR (s : Str) : Bool := decide (1 < s.length) && (s[s.length - 1]?.getD 0) == 58 && (s[0]?.getD 0) != 34
theorem label_any (s : Str) (w : World) (hs : s.length ≤ 1000000000) : Calls Tryd.prog 40 #[.string ⟨s.toArray⟩] w fun e w' => e = .returned (.bool (labR s)) ∧ w = w' := by
  go_enter Tryd.func40, Tryd.ntmps40
  go_wp2
  all_goals
    go_ret
    refine ⟨ret_bool ?_, rfl⟩
    rw [Bool.eq_iff_iff]
    simp [labR, ← UInt8.toNat_inj]
    omega
theorem suffix_last (s : Str) (c : UInt8) : Lib.hasSuffix s [c] = (s.getLast? == some c) := by
  unfold Lib.hasSuffix
  rw [Bool.eq_iff_iff, List.isSuffixOf_iff_suffix]
  rcases List.eq_nil_or_concat s with rfl | ⟨t, b, rfl⟩
  · simp
  · simp only [List.concat_eq_append, List.getLast?_append, List.getLast?_singleton, Option.some_or, beq_iff_eq, Option.some.injEq]
    constructor
    · rintro ⟨u, hu⟩
      have := List.append_inj_right' hu rfl
      simpa using this.symm
    · rintro rfl
      exact ⟨t, rfl⟩
theorem islab_any (s : Str) (w : World) (hs : s.length ≤ 1000000000) : Calls Tryd.prog 38 #[.string ⟨s.toArray⟩] w fun e w' => e = .returned (.bool (isLab s)) ∧ w = w' := by
  have hc : ∀ w : World, Calls Tryd.prog 58 #[.string ⟨s.toArray⟩, .string ⟨#[58]⟩] w fun e w' => e = .returned (.bool (s.getLast? == some 58)) ∧ w' = w := fun w => by
    have := Tryd.strings_HasSuffix ⟨s.toArray⟩ ⟨#[58]⟩ w (show s.length ≤ _ by omega)
    rw [show Lib.hasSuffix (⟨s.toArray⟩ : ByteArray).data.toList (⟨#[58]⟩ : ByteArray).data.toList = (s.getLast? == some 58) from suffix_last s 58] at this
    exact this
  unfold isLab
  by_cases h2 : 2 ≤ s.length
  · go_enter Tryd.func38, Tryd.ntmps38
    go_wp2_with (go_at_call 58; refine (hc _).mono ?_; rintro e w' ⟨rfl, hw⟩; rw [hw]; clear hw w')
    go_ret
    exact ⟨ret_bool (by simp [h2]), rfl⟩
  · go_enter Tryd.func38, Tryd.ntmps38
    go_wp2_with (go_at_call 58; refine (hc _).mono ?_; rintro e w' ⟨rfl, hw⟩; rw [hw]; clear hw w')
    go_ret
    exact ⟨ret_bool (by simp), rfl⟩
theorem prefix_note (s : Str) : Lib.hasPrefix s [47, 47] = noteB s := by
  match s with
  | [] => rfl
  | [a] => simp [noteB, Lib.hasPrefix, List.isPrefixOf]
  | a :: b :: t =>
    simp only [noteB, Lib.hasPrefix, List.isPrefixOf, Bool.and_true]
    rw [Bool.eq_iff_iff]
    simp only [Bool.and_eq_true, beq_iff_eq]
    constructor
    · rintro ⟨rfl, rfl⟩; exact ⟨rfl, rfl⟩
    · rintro ⟨rfl, rfl⟩; exact ⟨rfl, rfl⟩
theorem hasnote_any (s : Str) (w : World) : Calls Tryd.prog 50 #[.string ⟨s.toArray⟩, .string ⟨#[47, 47]⟩] w fun e w' => e = .returned (.bool (noteB s)) ∧ w' = w := by
  have := Tryd.strings_HasPrefix ⟨s.toArray⟩ ⟨#[47, 47]⟩ w
  rw [show Lib.hasPrefix (⟨s.toArray⟩ : ByteArray).data.toList (⟨#[47, 47]⟩ : ByteArray).data.toList = noteB s from prefix_note s] at this
  exact this
theorem indexByte_upTo (s : Str) (c : UInt8) : Lib.indexByte s c = if (upTo c s).length = s.length then -1 else ((upTo c s).length : Int) := by
  induction s with
  | nil => simp [Lib.indexByte, upTo]
  | cons b t ih =>
    rw [Lib.indexByte]
    by_cases hb : b = c
    · subst hb
      simp [upTo]
    · rw [upTo_cons c b t hb, ih]
      have hbc : (b == c) = false := by simpa using hb
      simp only [hbc, Bool.false_eq_true, if_false, List.length_cons]
      by_cases hl : (upTo c t).length = t.length
      · simp [hl]
      · have h3 : ¬ ((upTo c t).length : Int) = -1 := by
          have := Int.natCast_nonneg (upTo c t).length
          intro e
          rw [e] at this
          exact absurd this (by decide)
        simp [hl, h3]
/-- What strings.Cut at a line feed gives. -/
def Cuts (s : Str) (w : World) (e : Ending) (w' : World) : Prop := e = .returned (.tuple #[.string ⟨(upTo 10 s).toArray⟩, .string ⟨(s.drop ((upTo 10 s).length + 1)).toArray⟩, .bool (decide ((upTo 10 s).length < s.length))]) ∧ Below w.heap.size w w'
theorem upTo_pre (c : UInt8) (s : Str) : upTo c s = s.take (upTo c s).length := (List.prefix_iff_eq_take.1 (List.takeWhile_prefix _))
set_option maxRecDepth 100000 in
theorem litecut_any (s : Str) (hs : s.length < 4294967281) (w : World) : Calls Tryd.prog 62 #[.string ⟨s.toArray⟩, .string ⟨#[10]⟩] w (Cuts s w) := by
  have hle := upTo_le 10 s
  have hi := indexByte_upTo s 10
  have hc : ∀ w : World, Calls Tryd.prog 76 #[.string ⟨s.toArray⟩, .string ⟨#[10]⟩] w fun e w' => e = .returned (.int .i64 (Lib.indexByte s 10)) ∧ w' = w := fun w => Tryd.stringslite_Index_one ⟨s.toArray⟩ 10 w
  by_cases hl : (upTo 10 s).length = s.length
  · rw [hi, if_pos hl] at hc
    have e1 : upTo 10 s = s := by
      have := upTo_pre 10 s
      rw [hl, List.take_length] at this
      exact this
    have E := Lib.hid e1
    clear hi e1 hle
    go_enter Tryd.func62, Tryd.ntmps62
    go_wp2_with (go_at_call 76; refine (hc _).mono ?_; rintro e w' ⟨rfl, hw⟩; rw [hw]; clear hw w')
    go_ret3
    refine ⟨?_, Below.refl _ _⟩
    rw [E.out]
    simp
  · rw [hi, if_neg hl] at hc
    have e1 := upTo_pre 10 s
    have hl2 : (upTo 10 s).length < s.length := by omega
    generalize (upTo 10 s).length = n at *
    have E := Lib.hid e1
    clear hi e1 hl
    go_enter Tryd.func62, Tryd.ntmps62
    go_wp2_with (go_at_call 76; refine (hc _).mono ?_; rintro e w' ⟨rfl, hw⟩; rw [hw]; clear hw w')
    go_quiet (fail)
    go_wp2
    go_ret3
    refine ⟨?_, ⟨rfl, rfl, rfl, Nat.le_refl _, fun _ _ => rfl⟩⟩
    have e : min n s.length = n := by omega
    rw [E.out]
    simp [hl2, e]
set_option maxRecDepth 100000 in
theorem cut_any (s : Str) (hs : s.length < 4294967281) (w : World) : Calls Tryd.prog 47 #[.string ⟨s.toArray⟩, .string ⟨#[10]⟩] w (Cuts s w) := by
  go_enter Tryd.func47, Tryd.ntmps47
  go_wp2_with (go_at_call 62; refine (litecut_any s hs _).mono ?_; rintro e w1 ⟨rfl, hb⟩)
  go_ret3
  exact ⟨rfl, hb⟩
/-- The word with which a text begins. -/
def FirstIs (s : Str) (w : World) (e : Ending) (w' : World) : Prop := e = .returned (.tuple #[.int .i64 ((firstN s).1 : Int), .bool (firstN s).2]) ∧ Below w.heap.size w w'
theorem blanks_byte (b : UInt8) (w : World) : Calls Tryd.prog 60 #[.string ⟨#[32, 9]⟩, .int .u8 (b.toNat : Int)] w fun e w' => e = .returned (.int .i64 (if b = 32 then 0 else if b = 9 then 1 else -1)) ∧ w' = w := by
  have h := Tryd.strings_IndexByte ⟨#[32, 9]⟩ (b.toNat : Int) w
  refine h.mono ?_
  rintro e w' ⟨rfl, rfl⟩
  refine ⟨ret_int ?_, rfl⟩
  show Lib.indexByte [32, 9] _ = _
  have hback : ((b.toNat : Int)).toNat.toUInt8 = b := by simp
  rw [hback]
  by_cases h1 : b = 32
  · subst h1; rfl
  · by_cases h2 : b = 9
    · subst h2; rfl
    · have e1 : ((32 : UInt8) == b) = false := beq_eq_false_iff_ne.2 (Ne.symm h1)
      have e2 : ((9 : UInt8) == b) = false := beq_eq_false_iff_ne.2 (Ne.symm h2)
      simp [Lib.indexByte, e1, e2, h1, h2]
set_option maxRecDepth 100000 in
set_option maxHeartbeats 1000000 in
theorem first_any (s : Str) (hs : s.length ≤ 1000000000) (h0 : s ≠ []) (w : World) : Calls Tryd.prog 51 #[.string ⟨s.toArray⟩] w (FirstIs s w) := by
  obtain ⟨b, t, he⟩ : ∃ b t, s = b :: t := by cases s with | nil => exact absurd rfl h0 | cons b t => exact ⟨b, t, rfl⟩
  have hpos : 0 < s.length := by rw [he]; simp
  have e1 : s.tail = t := by rw [he]; rfl
  have e2 : s.length = t.length + 1 := by rw [he]; rfl
  have hF : firstN s = if b = 34 then
      (if (upTo 34 t).length = t.length then (t.length + 1, false) else ((upTo 34 t).length + 2, nextB (t.drop ((upTo 34 t).length + 1))))
    else ((s.takeWhile (fun c => !blankB c)).length, true) := by rw [he]; rfl
  have H1 : s[0]'hpos = b := by simp [he]
  unfold FirstIs
  rw [hF]
  clear hF
  by_cases hb : b = 34
  · rw [if_pos hb]
    have hi := indexByte_upTo t 34
    have hle := upTo_le 34 t
    have hc : ∀ w : World, Calls Tryd.prog 60 #[.string ⟨s.tail.toArray⟩, .int .u8 34] w fun e w' => e = .returned (.int .i64 (Lib.indexByte t 34)) ∧ w' = w := fun w => by rw [e1]; exact Tryd.strings_IndexByte ⟨t.toArray⟩ 34 w
    have hq : ((((s[0]'hpos).toNat : Int) != 34)) = false := by rw [H1, hb]; rfl
    have hQ := Lib.hid hb
    clear hb he h0 H1
    by_cases hl : (upTo 34 t).length = t.length
    · rw [hi, if_pos hl] at hc
      rw [if_pos hl]
      have E1 := Lib.hid e1
      have E2 := Lib.hid e2
      clear hi hl e1 e2
      go_enter Tryd.func51, Tryd.ntmps51
      go_wp2_with (go_at_call 60; refine (hc _).mono ?_; rintro e w' ⟨rfl, hw⟩; rw [hw]; clear hw w')
      go_ret2
      exact ⟨by rw [E2.out]; rfl, Below.refl _ _⟩
    · rw [hi, if_neg hl] at hc
      rw [if_neg hl]
      have hlt : (upTo 34 t).length < t.length := by omega
      have hn9 : (upTo 34 t).length ≤ 1000000000 := by omega
      generalize (upTo 34 t).length = n at *
      by_cases hend : n + 1 = t.length
      · have ed : t.drop (n + 1) = [] := List.drop_eq_nil_of_le (by omega)
        rw [ed]
        have hl2 : s.length = n + 2 := by omega
        have E1 := Lib.hid e1
        have E2 := Lib.hid e2
        have L2 := Lib.hid hl2
        have hlq : ((n : Int) + 2 == (s.length : Int)) = true := by rw [hl2]; simp
        clear hi hl e1 e2 hend ed hl2
        go_enter Tryd.func51, Tryd.ntmps51
        go_wp2_with (go_at_call 60; refine (hc _).mono ?_; rintro e w' ⟨rfl, hw⟩; rw [hw]; clear hw w')
        go_ret2
        exact ⟨by rw [L2.out]; rfl, Below.refl _ _⟩
      · obtain ⟨c, r, hcr⟩ : ∃ c r, t.drop (n + 1) = c :: r := ⟨_, _, List.drop_eq_getElem_cons (by omega)⟩
        rw [hcr]
        have hin : n + 2 < s.length := by omega
        have hat : s[n + 2]'hin = c := by
          have := congrArg List.head? hcr
          rw [List.head?_drop, ← e1, List.getElem?_tail, List.getElem?_eq_getElem hin] at this
          simpa using this
        have hc2 : ∀ w : World, Calls Tryd.prog 60 #[.string ⟨#[32, 9]⟩, .int .u8 ((s[n + 2]'hin).toNat : Int)] w fun e w' => e = .returned (.int .i64 (if c = 32 then 0 else if c = 9 then 1 else -1)) ∧ w' = w := fun w => by rw [hat]; exact blanks_byte c w
        have hlq : ((n : Int) + 2 == (s.length : Int)) = false := by simp; omega
        have E1 := Lib.hid e1
        have E2 := Lib.hid e2
        clear hi hl e1 e2 hend hcr hat
        by_cases h1 : c = 32
        · rw [if_pos h1] at hc2
          have e : nextB (c :: r) = true := by subst h1; rfl
          rw [e]
          clear h1 e
          go_enter Tryd.func51, Tryd.ntmps51
          go_wp2_with (first | (go_at_call 60; refine (hc _).mono ?_; rintro e w' ⟨rfl, hw⟩; rw [hw]; clear hw w') | (go_at_call 60; refine (hc2 _).mono ?_; rintro e w' ⟨rfl, hw⟩; rw [hw]; clear hw w'))
          go_ret2
          exact ⟨rfl, Below.refl _ _⟩
        · rw [if_neg h1] at hc2
          by_cases h2 : c = 9
          · rw [if_pos h2] at hc2
            have e : nextB (c :: r) = true := by subst h2; rfl
            rw [e]
            clear h1 h2 e
            go_enter Tryd.func51, Tryd.ntmps51
            go_wp2_with (first | (go_at_call 60; refine (hc _).mono ?_; rintro e w' ⟨rfl, hw⟩; rw [hw]; clear hw w') | (go_at_call 60; refine (hc2 _).mono ?_; rintro e w' ⟨rfl, hw⟩; rw [hw]; clear hw w'))
            go_ret2
            exact ⟨rfl, Below.refl _ _⟩
          · rw [if_neg h2] at hc2
            have e : nextB (c :: r) = false := by simp [nextB, blankB, h1, h2]
            rw [e]
            clear h1 h2 e
            go_enter Tryd.func51, Tryd.ntmps51
            go_wp2_with (first | (go_at_call 60; refine (hc _).mono ?_; rintro e w' ⟨rfl, hw⟩; rw [hw]; clear hw w') | (go_at_call 60; refine (hc2 _).mono ?_; rintro e w' ⟨rfl, hw⟩; rw [hw]; clear hw w'))
            go_ret2
            exact ⟨rfl, Below.refl _ _⟩
  · rw [if_neg hb]
    have hq : (((s[0]'hpos).toNat : Int) != 34) = true := by
      rw [H1]
      have : b.toNat ≠ 34 := fun e => hb (UInt8.toNat_inj.1 e)
      simp
      omega
    have hi := indexAny_take s
    have hle : (s.takeWhile (fun c => !blankB c)).length ≤ s.length := (List.takeWhile_sublist _).length_le
    have hA := any_any s (by omega)
    rw [hi] at hA
    clear hi hb he h0 e1 e2 H1
    generalize (s.takeWhile (fun c => !blankB c)).length = n at *
    by_cases hl : n = s.length
    · rw [if_pos hl] at hA
      have L := Lib.hid hl
      clear hl
      go_enter Tryd.func51, Tryd.ntmps51
      go_wp2_with (go_at_call 68; refine (hA _).mono ?_; rintro e w1 ⟨rfl, hbel⟩)
      go_ret2
      exact ⟨by rw [L.out]; rfl, hbel⟩
    · rw [if_neg hl] at hA
      have L := Lib.hid hl
      clear hl
      go_enter Tryd.func51, Tryd.ntmps51
      go_wp2_with (go_at_call 68; refine (hA _).mono ?_; rintro e w1 ⟨rfl, hbel⟩)
      go_ret2
      exact ⟨rfl, hbel⟩
/-- What is read, within a line, as one word that is itself. -/
def isWordB (s : Str) : Bool := !s.isEmpty && !noteB s && !s.contains 10 && (firstN s).2 && (firstN s).1 == s.length
def isPlainB (s : Str) : Bool := isWordB s && s[0]?.getD 0 != 34
theorem upTo_mem (c : UInt8) (s : Str) : s.contains c = !decide ((upTo c s).length = s.length) := by
  induction s with
  | nil => simp [upTo]
  | cons b t ih =>
    by_cases hb : b = c
    · subst hb; simp [upTo]
    · rw [upTo_cons c b t hb]
      have hcb : (c == b) = false := beq_eq_false_iff_ne.2 (Ne.symm hb)
      rw [List.contains_cons, hcb, ih]
      simp
theorem contains_lf (s : Str) (w : World) : Calls Tryd.prog 57 #[.string ⟨s.toArray⟩, .string ⟨#[10]⟩] w fun e w' => e = .returned (.bool (s.contains 10)) ∧ w' = w := by
  have h := Tryd.strings_Contains_one ⟨s.toArray⟩ 10 w
  have e : decide (0 ≤ Lib.indexByte (⟨s.toArray⟩ : ByteArray).data.toList 10) = s.contains 10 := by
    rw [show (⟨s.toArray⟩ : ByteArray).data.toList = s from rfl, indexByte_upTo, upTo_mem]
    by_cases hl : (upTo 10 s).length = s.length
    · simp [hl]
    · simp [hl]
  rw [e] at h
  exact h
set_option maxRecDepth 100000 in
theorem isword_any (s : Str) (hs : s.length ≤ 1000000000) (w : World) : Calls Tryd.prog 37 #[.string ⟨s.toArray⟩] w fun e w' => e = .returned (.bool (isWordB s)) ∧ Below w.heap.size w w' := by
  by_cases h0 : s = []
  · subst h0
    go_enter Tryd.func37, Tryd.ntmps37
    go_wp2
    go_ret
    exact ⟨rfl, Below.refl _ _⟩
  · have hE : (⟨s.toArray⟩ : ByteArray).toList.isEmpty = false := by rw [str_empty]; simpa using h0
    have hE2 : s.isEmpty = false := by simpa using h0
    unfold isWordB
    rw [hE2]
    cases hn : noteB s with
    | true =>
      go_enter Tryd.func37, Tryd.ntmps37
      go_wp2_with (first | (go_at_call 50; refine (hasnote_any _ _).mono ?_; rintro e w' ⟨rfl, hw⟩; rw [hw, hn]; clear hw w') | (go_at_call 57; refine (contains_lf _ _).mono ?_; rintro e w' ⟨rfl, hw⟩; rw [hw]; clear hw w'))
      go_ret
      exact ⟨rfl, Below.refl _ _⟩
    | false =>
      cases hc : s.contains 10 with
      | true =>
        go_enter Tryd.func37, Tryd.ntmps37
        go_wp2_with (first | (go_at_call 50; refine (hasnote_any _ _).mono ?_; rintro e w' ⟨rfl, hw⟩; rw [hw, hn]; clear hw w') | (go_at_call 57; refine (contains_lf _ _).mono ?_; rintro e w' ⟨rfl, hw⟩; rw [hw, hc]; clear hw w'))
        go_ret
        exact ⟨rfl, Below.refl _ _⟩
      | false =>
        cases hf : (firstN s).2 with
        | false =>
          go_enter Tryd.func37, Tryd.ntmps37
          go_wp2_with (first | (go_at_call 50; refine (hasnote_any _ _).mono ?_; rintro e w' ⟨rfl, hw⟩; rw [hw, hn]; clear hw w') | (go_at_call 57; refine (contains_lf _ _).mono ?_; rintro e w' ⟨rfl, hw⟩; rw [hw, hc]; clear hw w') | (go_at_call 51; refine (first_any s hs h0 _).mono ?_; rintro e w1 ⟨rfl, hb⟩; rw [hf]))
          go_ret
          exact ⟨rfl, hb⟩
        | true =>
          go_enter Tryd.func37, Tryd.ntmps37
          go_wp2_with (first | (go_at_call 50; refine (hasnote_any _ _).mono ?_; rintro e w' ⟨rfl, hw⟩; rw [hw, hn]; clear hw w') | (go_at_call 57; refine (contains_lf _ _).mono ?_; rintro e w' ⟨rfl, hw⟩; rw [hw, hc]; clear hw w') | (go_at_call 51; refine (first_any s hs h0 _).mono ?_; rintro e w1 ⟨rfl, hb⟩; rw [hf]))
          go_ret
          exact ⟨ret_bool (by rw [Bool.eq_iff_iff]; simp; try omega), hb⟩
theorem isplain_any (s : Str) (hs : s.length ≤ 1000000000) (w : World) : Calls Tryd.prog 36 #[.string ⟨s.toArray⟩] w fun e w' => e = .returned (.bool (isPlainB s)) ∧ Below w.heap.size w w' := by
  unfold isPlainB
  cases hw0 : isWordB s with
  | false =>
    go_enter Tryd.func36, Tryd.ntmps36
    go_wp2_with (go_at_call 37; refine (isword_any s hs _).mono ?_; rintro e w1 ⟨rfl, hb⟩; rw [hw0])
    go_ret
    exact ⟨rfl, hb⟩
  | true =>
    have hpos : 0 < s.length := by
      rcases Nat.eq_zero_or_pos s.length with h | h
      · obtain rfl := List.eq_nil_of_length_eq_zero h
        simp [isWordB] at hw0
      · exact h
    go_enter Tryd.func36, Tryd.ntmps36
    go_wp2_with (go_at_call 37; refine (isword_any s hs _).mono ?_; rintro e w1 ⟨rfl, hb⟩; rw [hw0])
    go_ret
    exact ⟨ret_bool (by rw [Bool.eq_iff_iff]; simp [hpos, ← UInt8.toNat_inj]; try omega), hb⟩
end Go.Proofs.YtdcpkeagkfchoaaDoor
