/- strings.IndexAny at the two blanks, for every text; strings.TrimLeft there. -/
import Derived.Test.YtdcpkeagkfchoaaDoorText
import Derived.Test.YtdcpkeagkfchoaaDoorRune
import Derived.Lib.OthersKept
import Derived.Shelf.Strings.SlTrimAscii
namespace Go.Proofs.YtdcpkeagkfchoaaDoor
open Go.RowKit T6
set_option linter.unusedVariables false
theorem getb (s : Str) (i : Nat) (h : i < s.length) : (⟨s.toArray⟩ : ByteArray).get! i = s[i] := by
  have h' : i < (⟨s.toArray⟩ : ByteArray).size := h
  have := get_at ⟨s.toArray⟩ i h'
  rw [Nat.add_zero] at this
  rw [this]
  show s.toArray[i] = _
  simp
/-- What is read as one rune beyond ASCII: no byte of it is a blank. -/
theorem decode_cont (s : Str) (i : Nat) (h : i < s.length) (ha : 128 ≤ (s[i]).toNat) (k : Nat) (hk : k < (Utf8.decode ⟨s.toArray⟩ i).2) : ∃ b, s[i + k]? = some b ∧ 128 ≤ b.toNat := by
  have g0 := getb s i h
  have gk : ∀ j, i + j < s.length → (⟨s.toArray⟩ : ByteArray).get! (i + j) = s[i + j]?.getD 0 := fun j hj => by rw [getb s (i + j) hj]; simp [hj]
  have hsz : (⟨s.toArray⟩ : ByteArray).size = s.length := rfl
  have cont : ∀ j, (decide (i + j < s.length) && ((⟨s.toArray⟩ : ByteArray).get! (i + j)).toNat / 64 == 2) = true → ∃ b, s[i + j]? = some b ∧ 128 ≤ b.toNat := fun j hj => by
    simp only [Bool.and_eq_true, decide_eq_true_eq, beq_iff_eq] at hj
    refine ⟨s[i + j]'hj.1, by simp [hj.1], ?_⟩
    have := hj.2
    rw [getb s (i + j) hj.1] at this
    omega
  have z0 : ∃ b, s[i + 0]? = some b ∧ 128 ≤ b.toNat := ⟨s[i], by simp [h], ha⟩
  simp only [Utf8.decode, Nat.add_zero, g0, hsz] at hk
  rw [if_neg (by omega)] at hk
  split at hk
  · rename_i h1
    simp only [Bool.and_eq_true] at h1
    have c1 := cont 1 (by simpa using h1.2)
    have : k < 2 := by split at hk <;> simp at hk <;> omega
    match k, this with
    | 0, _ => exact z0
    | 1, _ => exact c1
  · split at hk
    · rename_i h1
      simp only [Bool.and_eq_true] at h1
      have c1 := cont 1 (by simpa using h1.1.2)
      have c2 := cont 2 (by simpa using h1.2)
      have : k < 3 := by split at hk <;> simp at hk <;> omega
      match k, this with
      | 0, _ => exact z0
      | 1, _ => exact c1
      | 2, _ => exact c2
    · split at hk
      · rename_i h1
        simp only [Bool.and_eq_true] at h1
        have c1 := cont 1 (by simpa using h1.1.1.2)
        have c2 := cont 2 (by simpa using h1.1.2)
        have c3 := cont 3 (by simpa using h1.2)
        have : k < 4 := by split at hk <;> simp at hk <;> omega
        match k, this with
        | 0, _ => exact z0
        | 1, _ => exact c1
        | 2, _ => exact c2
        | 3, _ => exact c3
      · have : k = 0 := by simp at hk; omega
        subst this
        exact z0
theorem noany_step {s : Str} {i n : Nat} (h : Lib.NoAny s [32, 9] i) (hb : ∀ k, k < n → ∃ b, s[i + k]? = some b ∧ 128 ≤ b.toNat) : Lib.NoAny s [32, 9] (i + n) := by
  induction n with
  | zero => exact h
  | succ n ih =>
    obtain ⟨b, h1, h2⟩ := hb n (by omega)
    exact (ih (fun k hk => hb k (by omega))).succ h1 (by
      have : b ≠ 32 ∧ b ≠ 9 := ⟨fun e => by subst e; simp at h2, fun e => by subst e; simp at h2⟩
      simp [this.1, this.2])
set_option maxRecDepth 100000 in
set_option maxHeartbeats 2000000 in
theorem any_short (s : Str) (h8 : s.length ≤ 8) (w : World) : Calls Tryd.prog 68 #[.string ⟨s.toArray⟩, .string ⟨#[32, 9]⟩] w fun e w' => e = .returned (.int .i64 (Lib.indexAny s [32, 9])) ∧ Below w.heap.size w w' := by
  have h8z : decide ((8 : Int) < (s.length : Int)) = false := decide_eq_false (by omega)
  go_enter Tryd.func68, Tryd.ntmps68
  go_wp2_with (go_at_call 81; refine (Tryd.strings_shouldUseASCIISet _ _).mono ?_; rintro e w' ⟨rfl, hw⟩; rw [hw, h8z]; clear hw w')
  go_loopg [9, 10] s.length (fun g _ _ wx => ∃ i : Nat, i + g = s.length ∧ wx.heap[w.heap.size]? = some (.stringIter ⟨s.toArray⟩ i) ∧ Below w.heap.size w wx ∧ Lib.NoAny s [32, 9] i)
  case atStart => exact ⟨0, by omega, World.iter_heap w _ 0, (Below.refl _ _).alloc (Nat.le_refl _) _, Lib.NoAny.zero _ _⟩
  case round =>
    obtain ⟨i, hig, hit, hbel, hno⟩ := hrel
    have HN := Lib.hid hno
    clear hno
    cases gk with
    | zero =>
      obtain rfl : i = s.length := by omega
      have hnx := fun ty => Lib.run_next_end_at (P := Tryd.prog) wr w.heap.size ⟨s.toArray⟩ s.length ty hit (Nat.lt_irrefl _)
      have HB := Lib.hid hbel
      clear hit hbel
      go_wp2
      go_ret
      exact ⟨by rw [Lib.indexAny_none HN.out]; rfl, HB.out⟩
    | succ g =>
      have hi : i < s.length := by omega
      have hi' : i < (⟨s.toArray⟩ : ByteArray).size := hi
      obtain ⟨x, hx⟩ : ∃ x : UInt8, s[i]'hi = x := ⟨_, rfl⟩
      have hxl : s[i]? = some x := by rw [← hx]; simp [hi]
      have hgx : (⟨s.toArray⟩ : ByteArray)[i]'hi' = x := by rw [← hx]; show s.toArray[i] = _; simp
      have hlt : w.heap.size < wr.heap.size := (Array.getElem?_eq_some_iff.1 hit).1
      by_cases h128 : x.toNat < 128
      · have hnx := fun ty => Lib.run_next_ascii_at (P := Tryd.prog) wr w.heap.size ⟨s.toArray⟩ i ty hit hi' (by rw [hgx]; exact h128)
        rw [hgx] at hnx
        have Hx := Lib.hid hxl
        have Hbel := Lib.hid (Lib.below_iterAt hbel (Nat.le_refl w.heap.size) ⟨s.toArray⟩ (i + 1))
        have Hit := Lib.hid (Lib.iterAt_heap wr w.heap.size ⟨s.toArray⟩ i (i + 1) hit)
        clear hxl hx hgx hbel hit
        have hcon := Lib.contains_iff_indexByte [32, 9] x
        have hback : ((x.toNat : Int)).toNat.toUInt8 = x := by simp
        cases hin : List.contains [32, 9] x
        · rw [hin] at hcon
          have hlt2 : ¬ ((0 : Int) ≤ Lib.indexByte [32, 9] x) := of_decide_eq_false hcon.symm
          clear hcon
          go_wp2_with (go_at_call 80; refine (Tryd.strings_IndexRune_ascii _ _ _ (by omega) (by omega)).mono ?_; rintro e w' ⟨rfl, hw⟩; rw [hw, hback]; clear hw w')
          go_roundg g
          case measure => omega
          case rel => exact ⟨i + 1, by omega, Hit.out, Hbel.out, HN.out.succ Hx.out hin⟩
        · rw [hin] at hcon
          have hge : (0 : Int) ≤ Lib.indexByte [32, 9] x := of_decide_eq_true hcon.symm
          clear hcon
          go_wp2_with (go_at_call 80; refine (Tryd.strings_IndexRune_ascii _ _ _ (by omega) (by omega)).mono ?_; rintro e w' ⟨rfl, hw⟩; rw [hw, hback]; clear hw w')
          go_ret
          exact ⟨by rw [Lib.indexAny_hit HN.out Hx.out hin]; rfl, Hbel.out⟩
      · have hnx := fun ty => Lib.run_next_any_at (P := Tryd.prog) wr w.heap.size ⟨s.toArray⟩ i ty hit hi'
        have hd := decode_high ⟨s.toArray⟩ i hi' (by rw [hgx]; omega)
        have hle := decode_le ⟨s.toArray⟩ i
        have hc := decode_cont s i hi (by rw [hx]; omega)
        have hno2 := Lib.hid (noany_step HN.out hc)
        have hend : i + (Utf8.decode ⟨s.toArray⟩ i).2 ≤ s.length := by
          obtain ⟨b, hb, _⟩ := hc ((Utf8.decode ⟨s.toArray⟩ i).2 - 1) (by omega)
          have := (List.getElem?_eq_some_iff.1 hb).1
          omega
        generalize (Utf8.decode ⟨s.toArray⟩ i).1 = r at *
        generalize (Utf8.decode ⟨s.toArray⟩ i).2 = n at *
        have Hbel := Lib.hid (Lib.below_iterAt hbel (Nat.le_refl w.heap.size) ⟨s.toArray⟩ (i + n))
        have Hit := Lib.hid (Lib.iterAt_heap wr w.heap.size ⟨s.toArray⟩ i (i + n) hit)
        have Hsz := Lib.hid (Lib.iterAt_size wr w.heap.size ⟨s.toArray⟩ (i + n))
        clear hxl hx hgx hbel hit hc
        go_wp2_with (go_at_call 80; refine (rune_high _ (by omega) (by omega) _).mono ?_; rintro e w' ⟨rfl, hw⟩)
        go_roundg (s.length - (i + n))
        case measure => omega
        case rel => exact ⟨i + n, by omega, (hw.block _ (by rw [Hsz.out]; exact hlt)).trans Hit.out, Hbel.out.trans (hw.mono (by rw [Hsz.out]; omega)), hno2.out⟩
theorem zero_set (w : World) : (zeroValue 91).run Tryd.prog w = .ok (.agg (Array.replicate 256 (.bool false))) w := by kernel_rfl
/-- IndexAny at the two blanks: every text. -/
theorem any_any (s : Str) (hs : s.length < 4294967281) (w : World) : Calls Tryd.prog 68 #[.string ⟨s.toArray⟩, .string ⟨#[32, 9]⟩] w fun e w' => e = .returned (.int .i64 (Lib.indexAny s [32, 9])) ∧ Below w.heap.size w w' := by
  by_cases h8 : s.length ≤ 8
  · exact any_short s h8 w
  · refine (Tryd.strings_IndexAny_long zero_set ⟨s.toArray⟩ ⟨#[32, 9]⟩ w (by decide) (show 8 < s.length by omega) hs (by decide) (ascii_of_all (by decide))).mono ?_
    rintro e w' ⟨rfl, rfl⟩
    exact ⟨rfl, ((Below.refl _ _).alloc (Nat.le_refl _) _).alloc (by simp) _⟩
/-- What IndexAny finds is how many bytes ahead are no blanks. -/
theorem indexAny_take (s : Str) : Lib.indexAny s [32, 9] = if (s.takeWhile (fun c => !blankB c)).length = s.length then -1 else ((s.takeWhile (fun c => !blankB c)).length : Int) := by
  induction s with
  | nil => simp [Lib.indexAny]
  | cons b t ih =>
    have hc : List.contains [32, 9] b = blankB b := by
      rw [Bool.eq_iff_iff]
      simp [blankB]
    rw [Lib.indexAny, hc]
    cases hb : blankB b with
    | true => simp [hb]
    | false =>
      simp only [Bool.false_eq_true, if_false, List.takeWhile_cons, hb, Bool.not_false, if_true, List.length_cons]
      rw [ih]
      by_cases hl : (t.takeWhile (fun c => !blankB c)).length = t.length
      · simp [hl]
      · have h2 : ¬ (t.takeWhile (fun c => !blankB c)).length + 1 = t.length + 1 := by simpa using hl
        have h3 : ¬ ((t.takeWhile (fun c => !blankB c)).length : Int) = -1 := by
          have := Int.natCast_nonneg (t.takeWhile (fun c => !blankB c)).length
          intro e
          rw [e] at this
          exact absurd this (by decide)
        simp [hl, h3]
/-- TrimLeft of the two blanks. -/
theorem trim_any (s : Str) (w : World) : Calls Tryd.prog 49 #[.string ⟨s.toArray⟩, .string ⟨#[32, 9]⟩] w fun e w' => e = .returned (.string ⟨(trimB s).toArray⟩) ∧ Below w.heap.size w w' := by
  refine (Any.strings_TrimLeft_laid Tryd.lays161 (by kernel_rfl) ⟨s.toArray⟩ ⟨#[32, 9]⟩ w (by decide) (ascii_of_all (by decide))).mono ?_
  rintro e w' ⟨rfl, hb⟩
  refine ⟨?_, hb⟩
  have : Lib.trimLeftS s [32, 9] = trimB s := by
    unfold Lib.trimLeftS trimB
    congr 1
    funext b
    rw [Bool.eq_iff_iff]
    simp [blankB]
  rw [show (⟨s.toArray⟩ : ByteArray).data.toList = s from rfl, show (⟨#[32, 9]⟩ : ByteArray).data.toList = [32, 9] from rfl, this]
end Go.Proofs.YtdcpkeagkfchoaaDoor
