/- Bytes of a head, of the program: one contract. -/
import Derived.Test.YtdjlcfpcplclmaaNlook
import Derived.Test.YtdjlcfpcplclmaaNword
import Derived.Lib.AppendStr
import Derived.OwnWalk
import Derived.Deep.Onto
namespace Go.Proofs.Ytdjlcfpcplclmaa
open Go.RowKit T9
set_option linter.unusedVariables false
attribute [local go_sem] byte_get
/-- A head's cells, and a head as a value. -/
def hc (h : Hd) : List Value := [.string ⟨h.name.toArray⟩, .int .i64 h.flags, .int .u32 (h.link : Int), .int .u32 (h.xt : Int), .int .u32 (h.size : Int)]
def hv (h : Hd) : Value := .agg #[.string ⟨h.name.toArray⟩, .int .i64 h.flags, .int .u32 (h.link : Int), .int .u32 (h.xt : Int), .int .u32 (h.size : Int)]
def GaveB (h : Hd) (w : World) (e : Ending) (w' : World) : Prop := ∃ A c, e = .returned (.tuple #[.slice A (outN h).length c, .int .i64 (errN h : Int)]) ∧ Holds w' A (outN h) ∧ Below w.heap.size w w'
theorem out_bad {h : Hd} (e : errN h ≠ 0) : outN h = [] := by unfold outN; rw [if_neg e]
theorem holds_nil (w : World) : Holds w none [] := fun h => by simp at h
theorem bytes_name (h : Hd) (w : World) (hl : h.name.length ≤ maxLen) (hr : rightB h.name = false) : Calls Try.prog 14 #[hv h] w (GaveB h w) := by
  have e : errN h = 41 := by unfold errN; rw [hr]; rfl
  have o : outN h = [] := out_bad (by rw [e]; decide)
  unfold hv
  go_enter Try.func14, Try.ntmps14
  go_wp2_with (go_at_call 8; refine (right_any h.name _ hl).mono ?_; rw [hr]; rintro e w' ⟨rfl, rfl⟩)
  go_ret2
  exact ⟨none, 0, by rw [o, e]; rfl, by rw [o]; exact holds_nil _, (Below.refl _ _).alloc (Nat.le_refl _) _⟩
theorem bytes_flags (h : Hd) (w : World) (hl : h.name.length ≤ maxLen) (hr : rightB h.name = true) (hf : ¬ (0 ≤ h.flags ∧ h.flags ≤ 15)) : Calls Try.prog 14 #[hv h] w (GaveB h w) := by
  have e : errN h = 1 := by unfold errN; rw [hr, if_pos rfl, if_neg hf]
  have o : outN h = [] := out_bad (by rw [e]; decide)
  unfold hv
  by_cases h0 : h.flags < 0
  · clear hf
    go_enter Try.func14, Try.ntmps14
    go_wp2_with (go_at_call 8; refine (right_any h.name _ hl).mono ?_; rw [hr]; rintro e w' ⟨rfl, rfl⟩)
    go_ret2
    exact ⟨none, 0, by rw [o, e]; rfl, by rw [o]; exact holds_nil _, (Below.refl _ _).alloc (Nat.le_refl _) _⟩
  · have h1 : 15 < h.flags := by omega
    clear hf
    go_enter Try.func14, Try.ntmps14
    go_wp2_with (go_at_call 8; refine (right_any h.name _ hl).mono ?_; rw [hr]; rintro e w' ⟨rfl, rfl⟩)
    go_ret2
    exact ⟨none, 0, by rw [o, e]; rfl, by rw [o]; exact holds_nil _, (Below.refl _ _).alloc (Nat.le_refl _) _⟩
theorem blok_at {w : World} {g : Nat} (t : TypeId) (cs : List Value) (hg : w.heap.size = g) : Blok (w.alloc (.cells cs.toArray t)) g t cs := hg ▸ Blok.made w t cs
theorem row_later {w w' : World} {B : Nat} {e : TypeId} {size n : Nat} {v : Value} {xs : List Value} (h : w.ownsRow B e size v n xs) (hb : Below w.heap.size w w') : w'.ownsRow B e size v n xs := by
  refine h.kept (only_below hb none) ?_
  cases v.ownBlock with
  | none => exact .inl rfl
  | some k => exact .inr (fun q => by cases q)
/-- A slice of n bytes of the call's own. -/
def Made (n : Nat) (xs : Str) (w : World) (e : Ending) (w' : World) : Prop := ∃ A c, e = .returned (.slice A n c) ∧ w'.ownsRow w.heap.size 5 1 (.slice A n c) n (bv xs) ∧ Below w.heap.size w w'
theorem Grows.made {xs : Str} {w w' : World} {e : Ending} {n : Nat} (h : Grows xs w e w') (hn : xs.length = n) : Made n xs w e w' := by
  subst hn
  obtain ⟨v, rfl, r, b⟩ := h
  obtain ⟨A, c, rfl⟩ := row_slice r
  exact ⟨A, c, rfl, r, b⟩
theorem little_4 (a b c : Nat) (g : Nat) (w : World) (ka : a < 4294967296) (kb : b < 4294967296) (kc : c < 4294967296) (hb : Blok w g 25 [.int .u32 (a : Int), .int .u32 (b : Int), .int .u32 (c : Int)]) :
    Calls Try.prog 21 #[.int .i64 4, .slice (some ⟨g, 0, none⟩) 3 3] w (Made 12 (leN 4 a ++ (leN 4 b ++ leN 4 c)) w) := by
  have := (little_any 4 [a, b, c] g w (by omega) (by simp) (by simp [ka, kb, kc]) hb).mono fun _ _ h => h.made (n := 12) (by simp [little_length])
  simpa [littleN] using this
theorem little_1 (a b : Nat) (g : Nat) (w : World) (ka : a < 4294967296) (kb : b < 4294967296) (hb : Blok w g 25 [.int .u32 (a : Int), .int .u32 (b : Int)]) :
    Calls Try.prog 21 #[.int .i64 1, .slice (some ⟨g, 0, none⟩) 2 2] w (Made 2 [UInt8.ofNat a, UInt8.ofNat b] w) := by
  have := (little_any 1 [a, b] g w (by omega) (by simp) (by simp [ka, kb]) hb).mono fun _ _ h => h.made (n := 2) (by simp [little_length])
  simpa [littleN, leN] using this
theorem made_zeros (m : Nat) : (madeCells (Value.int .u8 0).cells (m * 1)).toList = bv (List.replicate m 0) := by
  rw [show (Value.int .u8 0).cells = #[.int .u8 0] from rfl, madeCells_one]
  simp [bv]
theorem row_src {w : World} {B m c : Nat} {A : Option Addr} {cs : List Value} {xs : Str} (h : w.ownsRow B 5 1 (.slice A m c) m cs) (e : cs = bv xs) : Src w A m 1 (bv xs) := by
  subst e
  have hl : xs.length = m := by have := h.1; rw [length_bv] at this; omega
  have := (row_holds h hl).src
  rw [hl] at this
  exact this
set_option maxHeartbeats 1000000 in
theorem bytes_good (s : Str) (f a b c : Nat) (w : World) (ok : Hd.Ok ⟨s, f, a, b, c⟩) (e0 : errN ⟨s, f, a, b, c⟩ = 0) : Calls Try.prog 14 #[hv ⟨s, f, a, b, c⟩] w (GaveB ⟨s, f, a, b, c⟩ w) := by
  obtain ⟨i0, hi, hz0, hz1, hz2⟩ := info_parts info_byte
  obtain ⟨hr, f0, f1⟩ := err_right e0
  obtain ⟨l0, l1⟩ := right_len hr
  obtain ⟨k1, k2, k3⟩ := ok
  simp only at hr f0 f1 l0 l1 k1 k2 k3
  have hl : s.length ≤ maxLen := by unfold maxLen; omega
  have E0 := Lib.hid e0
  have HR := Lib.hid hr
  clear e0 hr
  obtain ⟨B, hB⟩ : ∃ B, w.alloc (.cells (hc ⟨s, f, a, b, c⟩).toArray 32) = B := ⟨_, rfl⟩
  have bx : Blok B w.heap.size 32 (hc ⟨s, f, a, b, c⟩) := by rw [← hB]; exact Blok.made w _ _
  have X0 := Lib.hid (fun (W : World) (hb : Below (w.heap.size + 1) B W) => (show W.cell? ⟨w.heap.size, 0, none⟩ = some (.string ⟨s.toArray⟩) from (bx.below hb (Nat.lt_succ_self _)).at_ 0))
  have X1 := Lib.hid (fun (W : World) (hb : Below (w.heap.size + 1) B W) => (show W.cell? ⟨w.heap.size, 1, none⟩ = some (.int .i64 (f : Int)) from (bx.below hb (Nat.lt_succ_self _)).at_ 1))
  have TB := Lib.hid (show Below (w.heap.size + 1) B (w.alloc (.cells #[.string ⟨s.toArray⟩, .int .i64 (f : Int), .int .u32 (a : Int), .int .u32 (b : Int), .int .u32 (c : Int)] 32)) from hB ▸ Below.refl _ _)
  have WB := Lib.hid (show Below w.heap.size w B by rw [← hB]; exact (Below.refl _ _).alloc (Nat.le_refl _) _)
  have HBS := Lib.hid (show B.heap.size = w.heap.size + 1 by rw [← hB]; simp)
  have T2 := Lib.hid (TB.out.alloc (by simp) (.cells #[.int .u32 (a : Int), .int .u32 (b : Int), .int .u32 (c : Int)] 25))
  have B2 := Lib.hid (blok_at (w := w.alloc (.cells #[.string ⟨s.toArray⟩, .int .i64 (f : Int), .int .u32 (a : Int), .int .u32 (b : Int), .int .u32 (c : Int)] 32)) (g := w.heap.size + 1) 25 [.int .u32 (a : Int), .int .u32 (b : Int), .int .u32 (c : Int)] (by simp))
  clear hB bx TB
  unfold hv
  go_enter Try.func14, Try.ntmps14
  go_wp2_with (go_at_call 8; refine (right_any s _ hl).mono ?_; rw [HR.out]; rintro e w' ⟨rfl, rfl⟩)
  refine (little_4 a b c _ _ k1 k2 k3 B2.out).mono ?_
  rintro e w4 ⟨A4, c4, rfl, r4, b4⟩
  have T4 := T2.out.trans (b4.mono (by simp))
  have hz4 : w.heap.size + 2 ≤ w4.heap.size := by have := b4.size; simp at this; omega
  have x0 := X0.out w4 T4
  have x1 := X1.out w4 T4
  have R4 := r4.mono (show w.heap.size + 1 ≤ _ by simp)
  have B4 := Lib.hid (Blok.made w4 25 [.int .u32 (f : Int), .int .u32 (s.length : Int)])
  have T5 := T4.alloc (by omega) (.cells #[.int .u32 (f : Int), .int .u32 (s.length : Int)] 25)
  have R5 := Lib.hid (R4.alloc (.cells #[.int .u32 (f : Int), .int .u32 (s.length : Int)] 25))
  have G5 := Lib.hid (And.intro T5 hz4)
  clear r4 b4 T4 T5 R4 T2 B2
  obtain ⟨n3, hn3⟩ : ∃ n, 14 + s.length = n := ⟨_, rfl⟩
  have hn3a : n3 ≤ lenN s := by rw [← hn3, lenN, if_neg (by omega)]; omega
  have hn3b : lenN s ≤ 48 := by rw [lenN, if_neg (by omega)]; omega
  have N3 := Lib.hid hn3
  obtain ⟨m, hm⟩ : ∃ m, lenN s - n3 = m := ⟨_, rfl⟩
  have hmi : (lenN s : Int) - (n3 : Int) = (m : Int) := by omega
  have M3 := Lib.hid (And.intro hm hmi)
  clear hn3 hm hmi
  go_wp2_with (first
    | (go_at_call 21; (with_reducible refine (little_1 f s.length _ _ (by omega) (by omega) B4.out).mono ?_); rintro e w5 ⟨A5, c5, rfl, r5, b5⟩; have U5 := G5.out.1.trans (b5.mono (by have := G5.out.2; simp; omega)); have y0 := X0.out w5 U5; have Q4 := row_later R5.out b5; have Q5 := Lib.hid (And.intro Q4 (row_holds r5 rfl).src); have U := Lib.hid U5; clear r5 b5 U5 Q4)
    | (refine wpList_append_src rfl (.tmp 26) (.tmp 35) 28 rfl (w.heap.size + 1) 5 i0 _ 1 1 Try.underlying28 hi hz0 hz1 hz2 rfl (by decide) _ 12 _ rfl Q5.out.1 A5 2 c5 _ rfl Q5.out.2 (by unfold maxLen; omega) (by omega) (by have := U.out.size; have := HBS.out; omega) ?_; intro v6 w6 r6 g6; obtain ⟨A6, c6, rfl⟩ := row_slice r6; have U6 := U.out.grown g6 (by have := U.out.size; have := HBS.out; omega) (fun q hq => (Q5.out.1.lt q hq).1); have z0 := X0.out w6 U6; have Q6 := Lib.hid r6; have V6 := Lib.hid U6; clear r6 g6 U6)
    | (refine Lib.wpList_append_own_string _ rfl (.tmp 37) (.tmp 39) 28 9 rfl (w.heap.size + 1) 5 i0 Try.underlying28 Try.underlying9 hi hz0 hz1 hz2 _ 14 _ rfl Q6.out ⟨s.toArray⟩ rfl (by show 14 + s.length ≤ _; unfold maxLen; omega) (by show 14 + s.length ≤ _; omega) (by have := V6.out.size; have := HBS.out; omega) ?_; intro v7 w7 r7 g7 _; have r7 : w7.ownsRow (w.heap.size + 1) 5 1 v7 n3 _ := N3.out ▸ r7; obtain ⟨A7, c7, rfl⟩ := row_slice r7; have U7 := V6.out.grown g7 (by have := V6.out.size; have := HBS.out; omega) (fun q hq => (Q6.out.lt q hq).1); have zz0 := X0.out w7 U7; have Q7 := Lib.hid r7; have V7 := Lib.hid U7; clear r7 g7 U7)
    | (go_at_call 12; refine (length_any s _ hl).mono ?_; rintro e w' ⟨rfl, rfl⟩)
    | (refine wpList_make_full _ rfl (.tmp 46) (.tmp 46) 28 rfl (w.heap.size + 1) 5 i0 _ 1 Try.underlying28 hi hz0 hz1 .i64 .i64 ((lenN s : Int) - (n3 : Int)) ((lenN s : Int) - (n3 : Int)) m rfl rfl M3.out.2 M3.out.2 (by rw [hz2]; have := M3.out.1; omega) (by have := M3.out.1; unfold maxLen; omega) (by have := V7.out.size; have := HBS.out; omega) ?_; intro w8 r8 g8; have U8 := V7.out.grown g8 (by have := V7.out.size; have := HBS.out; omega) (fun q hq => by cases hq); have Q8 := Lib.hid (And.intro (row_later Q7.out ⟨g8.os, g8.tape, g8.output, g8.size, fun j hj => g8.block j hj (fun q => by cases q)⟩) r8); have V8 := Lib.hid U8; clear r8 g8 U8)
    | (refine wpList_append_src rfl (.tmp 48) (.tmp 49) 28 rfl (w.heap.size + 1) 5 i0 _ 1 1 Try.underlying28 hi hz0 hz1 hz2 rfl (by decide) _ n3 _ rfl Q8.out.1 _ m m _ rfl (row_src Q8.out.2 (made_zeros m)) (by have := M3.out.1; unfold maxLen; omega) (by have := M3.out.1; omega) (by have := V8.out.size; have := HBS.out; omega) ?_; intro v9 w9 r9 g9; obtain ⟨A9, c9, rfl⟩ := row_slice r9; have U9 := Lib.hid (V8.out.grown g9 (by have := V8.out.size; have := HBS.out; omega) (fun q hq => (Q8.out.1.lt q hq).1)); have Q9 := Lib.hid r9; clear r9 g9))
  have hl9 : n3 + m = (outN ⟨s, f, a, b, c⟩).length := by
    have h1 := bytesN_lenN E0.out
    have h2 := M3.out.1
    simp only at h1
    unfold outN
    rw [if_pos E0.out]
    omega
  have hx : (bv (leN 4 a ++ (leN 4 b ++ leN 4 c)) ++ bv [UInt8.ofNat f, UInt8.ofNat s.length] ++ Lib.strCells ⟨s.toArray⟩ ++ bv (List.replicate m 0)) = bv (outN ⟨s, f, a, b, c⟩) := by
    have h2 := M3.out.1
    have h3 := N3.out
    have e : (s.length + 17) / 4 * 4 - (14 + s.length) = m := by
      rw [lenN, if_neg (by omega)] at h2
      omega
    unfold outN
    rw [if_pos E0.out]
    simp only [bytesN, preN, midN, padN, e, Int.toNat_natCast]
    simp [bv, Lib.strCells]
  go_ret2
  refine ⟨A9, c9, by rw [← hl9, E0.out]; rfl, ?_, ?_⟩
  · have := Q9.out
    rw [hx, hl9] at this
    exact row_holds this rfl
  · exact WB.out.trans (U9.out.mono (Nat.le_succ _))
theorem bytes_any (h : Hd) (w : World) (ok : h.Ok) (hl : h.name.length ≤ maxLen) : Calls Try.prog 14 #[hv h] w (GaveB h w) := by
  cases hr : rightB h.name with
  | false => exact bytes_name h w hl hr
  | true =>
    by_cases hf : 0 ≤ h.flags ∧ h.flags ≤ 15
    · have e0 : errN h = 0 := by unfold errN; rw [if_pos hr, if_pos hf]
      obtain ⟨s, fl, a, b, c⟩ := h
      obtain ⟨f, rfl⟩ : ∃ f : Nat, fl = f := ⟨fl.toNat, by have := hf.1; simp only at this; omega⟩
      exact bytes_good s f a b c w ok e0
    · exact bytes_flags h w hl hr hf
end Go.Proofs.Ytdjlcfpcplclmaa
