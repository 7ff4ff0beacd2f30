/- The walk of the law on a clone and its memory. -/
import Derived.Test.YtkcblemiphpmaaaCalls
import Derived.Laws.IdiomStrings
import Derived.Laws.BytesArg
import Derived.OpenShut
import Derived.ProofKit
namespace Go.Proofs.Ytkcblemiphpmaaa
open Go.RowKit
set_option linter.unusedVariables false

theorem IsMem.only {w w' : World} {g bb hb x : Nat} {bs : List UInt8} {hs : List (Int × Int)} (h : IsMem w g bb hb bs hs) (hg : w.grownBy w' (some x)) (n1 : g ≠ x) (n2 : bb ≠ x) (n3 : hb ≠ x) : IsMem w' g bb hb bs hs :=
  h.keep (hg.block g h.self.lt (fun q => n1 (by injection q))) (hg.block bb h.bytes.lt (fun q => n2 (by injection q))) (hg.block hb h.holes.lt (fun q => n3 (by injection q)))

/-- A slice of bytes as a string. -/
theorem conv_holds (w : World) (A : Option Addr) (xs : List UInt8) (n c : Nat) (hn : xs.length = n) (h : Holds w A xs) :
    (convert 37 9 (.slice A n c)).run Try.prog w = .ok (.string ⟨xs.toArray⟩) w := by
  subst hn
  by_cases h0 : xs.length = 0
  · obtain rfl : xs = [] := List.eq_nil_of_length_eq_zero h0
    cases A with
    | none =>
      exact run_convert_bytes_nil (P := Try.prog) (w := w) 37 5 Try.underlying37 Try.underlying5 0 c 9 Try.underlying9
    | some a =>
      have e := run_convert_bytes_back (P := Try.prog) w 37 9 5 a c [] Try.underlying37 Try.underlying5 Try.underlying9 (by simp)
      exact e
  · obtain ⟨ad, rfl, hc⟩ := h (by omega)
    exact run_convert_bytes_back (P := Try.prog) w 37 9 5 ad c xs Try.underlying37 Try.underlying5 Try.underlying9 (fun j hj => hc j _ (by simp [bv, hj]))

/-! What was written is read. -/
theorem splice_part {α : Type} (bs xs : List α) (k : Nat) (h : k + xs.length ≤ bs.length) : ((splice bs k xs).drop k).take xs.length = xs := by
  unfold splice
  rw [List.drop_append_of_le_length (by simp; omega)]
  have e : (List.take k bs).drop k = [] := List.drop_eq_nil_of_le (by simp; omega)
  rw [e, List.nil_append, List.take_append_of_le_length (Nat.le_refl _), List.take_length]
def cutV (v n : Int) : Int := if n = 1 then v % 256 else if n = 2 then v % 65536 else v
theorem le_word4 (v : Int) (v0 : 0 ≤ v) (v1 : v < 4294967296) (n : Int) (hn : n = 1 ∨ n = 2 ∨ n = 4) : le ((word4 v).take n.toNat) = cutV v n := by
  have b0 := byteOf_toNat (v % 256) (by omega) (by omega)
  have b1 := byteOf_toNat (v / 256 % 256) (by omega) (by omega)
  have b2 := byteOf_toNat (v / 65536 % 256) (by omega) (by omega)
  have b3 := byteOf_toNat (v / 16777216) (by omega) (by omega)
  rcases hn with rfl | rfl | rfl
  · simp only [word4, Int.toNat_one, List.take_succ_cons, List.take_zero, le, cutV, b0]
    simp
  · rw [show (2 : Int).toNat = 2 from rfl]
    simp only [word4, List.take_succ_cons, List.take_zero, le, cutV, b0, b1]
    simp
    omega
  · rw [show (4 : Int).toNat = 4 from rfl]
    simp only [word4, List.take_succ_cons, List.take_zero, le, cutV, b0, b1, b2, b3]
    simp
    omega
theorem length_word4 (v n : Int) (hn : n = 1 ∨ n = 2 ∨ n = 4) : ((word4 v).take n.toNat).length = n.toNat := by
  rcases hn with rfl | rfl | rfl <;> rfl
theorem length_wroteA (bs : List UInt8) (hs : List (Int × Int)) (at_ n v : Int) (a0 : 0 ≤ at_) : (wroteA bs hs at_ n v).length = bs.length := by
  unfold wroteA
  split
  · rename_i e
    obtain ⟨h1, h2, h3⟩ := errV_ok e
    rw [length_splice]
    rw [length_word4 v n h1]
    omega
  · rfl
theorem read_back (bs : List UInt8) (hs : List (Int × Int)) (at_ n v : Int) (a0 : 0 ≤ at_) (v0 : 0 ≤ v) (v1 : v < 4294967296) (e : errV bs.length hs at_ n = 0) :
    readA (wroteA bs hs at_ n v) hs at_ n = cutV v n := by
  obtain ⟨h1, h2, h3⟩ := errV_ok e
  have hl := length_wroteA bs hs at_ n v a0
  unfold readA
  rw [hl, if_pos e]
  unfold wroteA readV
  rw [if_pos e]
  have hw := length_word4 v n h1
  have hp := splice_part bs ((word4 v).take n.toNat) at_.toNat (by rw [hw]; omega)
  rw [hw] at hp
  rw [hp]
  exact le_word4 v v0 v1 n h1

/-- A slice of bytes that came in, as the frame tells it. -/
theorem holds_row (w : World) (a : Option Addr) (len cap : Nat) (zs : List Int)
    (h : (a = none ∧ len = 0 ∧ cap = 0 ∧ zs = []) ∨ ∃ x, a = some x ∧ len ≤ cap ∧ cap ≤ maxLen ∧ zs.length = cap ∧ (∀ i, i < zs.length → w.cell? (x.add i) = some (.int .u8 (zs.getD i 0))) ∧ ∀ n ∈ zs, (Lit.int .u8 n).wf = true) :
    ∃ xs : List UInt8, xs.length = len ∧ len ≤ maxLen ∧ Holds w a xs := by
  rcases h with ⟨rfl, rfl, rfl, rfl⟩ | ⟨x, rfl, hl, hm, hz, hc, hw⟩
  · exact ⟨[], rfl, by unfold maxLen; omega, fun h => by simp at h⟩
  · refine ⟨(zs.take len).map byteOf, by simp; omega, by omega, fun h => ⟨x, rfl, fun j u hj => ?_⟩⟩
    have hj2 : j < len := by
      have := (List.getElem?_eq_some_iff.1 hj).1
      simp [bv] at this
      omega
    have hjz : j < zs.length := by omega
    rw [hc j hjz]
    have hb := bounds_u8 (hw zs[j] (List.getElem_mem _))
    have e : zs.getD j 0 = zs[j] := by simp [List.getD, hjz]
    rw [e]
    simp only [bv, List.map_map, List.getElem?_map, List.getElem?_take, hj2, if_true, List.getElem?_eq_getElem hjz, Option.map_some, Function.comp, byteOf_toNat _ hb.1 (by have := hb.2; omega)] at hj
    exact hj
theorem bytes_all (g bb hb : Nat) (l : List UInt8) (hs : List (Int × Int)) (n : Int) (hn : (l.length : Int) = n) (w : World) (h : IsMem w g bb hb l hs) :
    Calls Try.prog 16 #[.pointer (some ⟨g, 0, none⟩), .int .u32 0, .int .i64 n] w (Told l w) := by
  have e : bytesA l 0 n = l := by
    unfold bytesA
    rw [if_neg (by omega), ← hn]
    simp
  have hx := bytes_any g bb hb l hs 0 n (by omega) (by omega) w h
  rw [e] at hx
  exact hx
theorem err_64 (l : List UInt8) (hl : l.length = 64) (at_ : Int) (a0 : 0 ≤ at_) : errV l.length [] (at_ % 16 * 4) 4 = 0 := by
  unfold errV
  rw [if_neg (by omega), if_neg (by omega), if_neg (by omega)]
  rfl
theorem yes_below {w w1 : World} {e : Ending} {w2 : World} (hb : Below w.heap.size w w1) (h : Yes w1 e w2) : Yes w e w2 := ⟨h.1, hb.trans (h.2.mono hb.size)⟩
theorem apart_any (A : Option Addr) (xs : List UInt8) (c : Nat) (at_ v : Int) (a0 : 0 ≤ at_) (a1 : at_ < 4294967296) (v0 : 0 ≤ v) (v1 : v < 4294967296) (w : World) (hlen : xs.length ≤ maxLen) (hx : Holds w A xs) :
    Calls Try.prog 6 #[.slice A xs.length c, .int .u32 at_, .int .u32 v] w (Yes w) := by
  unfold maxLen at hlen
  by_cases h60 : 60 < xs.length
  · have h60i : (60 : Int) < xs.length := by omega
    go_enter Try.func6, Try.ntmps6
    go_wp2_with fail
    refine (knows_any _).mono ?_
    rintro e w1 ⟨rfl, hb1⟩
    go_wp2_with fail
    go_ret
    exact ⟨rfl, hb1⟩
  · have h60i : (xs.length : Int) ≤ 60 := by omega
    go_enter Try.func6, Try.ntmps6
    go_wp2_with fail
    refine (knows_any _).mono ?_
    rintro e w1 ⟨rfl, hb1⟩
    go_wp2_with fail
    refine (new_fresh 64 none [] 0 _ ⟨by decide, by decide, by decide⟩ (by decide) (fun h => absurd h (by simp)) (by simp [okHoles]) (by decide)).mono ?_
    rintro e w2 ⟨g, bb, hb, rfl, hm, hb2, q1, q2, q3⟩
    have hA1 : Holds w2 A xs := (hx.below hb1).below hb2
    have eP : putE (List.replicate (Int.toNat 64) 0) 0 xs = 0 := by unfold putE; rw [List.length_replicate, if_neg (by omega)]
    obtain ⟨l, hl⟩ : ∃ l, putA (List.replicate (Int.toNat 64) 0) 0 xs = l := ⟨_, rfl⟩
    have hl64 : l.length = 64 := by
      rw [← hl]
      unfold putA
      rw [List.length_replicate, if_neg (by omega), length_splice _ _ _ (by rw [List.length_replicate]; omega), List.length_replicate]
      rfl
    have hput := put_any g bb hb _ [] 0 (by omega) (by omega) A xs c w2 hm hA1
    rw [eP, hl] at hput
    have HPUT := Lib.hid hput
    have HL := Lib.hid hl64
    clear hput eP hl hl64
    go_wp2_with (first | (go_at_call 12; refine (num_any _ (by decide) (by decide) _).mono ?_; rintro e w' ⟨rfl, rfl⟩) | fail)
    refine HPUT.out.mono ?_
    rintro e w3 ⟨rfl, hm3, hg3⟩
    go_wp2_with (first | (go_at_call 12; refine (num_any _ (by decide) (by decide) _).mono ?_; rintro e w' ⟨rfl, rfl⟩) | fail)
    refine (bytes_all g bb hb l [] 64 (by rw [HL.out]; rfl) _ hm3).mono ?_
    rintro e w4 ⟨B4, rfl, ho4, hb4⟩
    have cv4 := conv_holds w4 B4 l _ l.length rfl ho4.holds
    have hm4 := hm3.below hb4
    go_wp2_with fail
    refine (clone_any g bb hb l [] _ hm4).mono ?_
    rintro e w5 ⟨g', bb', hb', rfl, hc5, hb5, r1, r2, r3⟩
    have hm5 := hm4.below hb5
    have l1 := hm4.self.lt
    have l2 := hm4.bytes.lt
    have l3 := hm4.holes.lt
    have e1 := Lib.hid (err_64 l HL.out at_ a0)
    have hw6 := write_any g' bb' hb' l [] (at_ % 16 * 4) 4 v (by omega) (by omega) v0 v1 w5 hc5
    rw [e1.out] at hw6
    have hl6 : (wroteA l [] (at_ % 16 * 4) 4 v).length = 64 := by rw [length_wroteA _ _ _ _ _ (by omega), HL.out]
    have hrb : readA (wroteA l [] (at_ % 16 * 4) 4 v) [] (at_ % 16 * 4) 4 = v := by rw [read_back l [] _ 4 v (by omega) v0 v1 e1.out]; rfl
    have he6 : errV (wroteA l [] (at_ % 16 * 4) 4 v).length [] (at_ % 16 * 4) 4 = 0 := err_64 _ hl6 at_ a0
    generalize wroteA l [] (at_ % 16 * 4) 4 v = l' at hw6 hl6 hrb he6
    have HW6 := Lib.hid hw6
    have HL6 := Lib.hid hl6
    have HRB := Lib.hid hrb
    have HE6 := Lib.hid he6
    clear hw6 hl6 hrb he6 cv4
    go_wp2_with fail
    refine HW6.out.mono ?_
    rintro e w6 ⟨rfl, hc6, hg6⟩
    have hm6 := hm5.only hg6 (by omega) (by omega) (by omega)
    go_wp2_with fail
    refine (bytes_all g bb hb l [] 64 (by rw [HL.out]; rfl) _ hm6).mono ?_
    rintro e w7 ⟨B7, rfl, ho7, hb7⟩
    have cv7 := conv_holds w7 B7 l _ l.length rfl ho7.holds
    have hm7 := hm6.below hb7
    have hc7 := hc6.below hb7
    go_wp2_with fail
    refine (bytes_all g' bb' hb' l' [] 64 (by rw [HL6.out]; rfl) _ hc7).mono ?_
    rintro e w8 ⟨B8, rfl, ho8, hb8⟩
    have cv8 := conv_holds w8 B8 l' _ l'.length rfl ho8.holds
    have hm8 := hm7.below hb8
    have hc8 := hc7.below hb8
    go_wp2_with fail
    refine (write_any g bb hb l [] (at_ % 16 * 4) 4 _ (by omega) (by omega) (by omega) (by omega) _ hm8).mono ?_
    rintro e w9 ⟨rfl, hm9, hg9⟩
    have hc9 := hc8.only hg9 (by omega) (by omega) (by omega)
    go_wp2_with fail
    refine (read_any g' bb' hb' l' [] (at_ % 16 * 4) 4 (by omega) (by omega) _ hc9).mono ?_
    rw [HRB.out, HE6.out]
    rintro e w10 ⟨rfl, hb10⟩
    have hc10 := hc9.below hb10
    go_wp2_with fail
    refine (bytes_all g' bb' hb' l' [] 64 (by rw [HL6.out]; rfl) _ hc10).mono ?_
    rintro e w11 ⟨B11, rfl, ho11, hb11⟩
    have cv11 := conv_holds w11 B11 l' _ l'.length rfl ho11.holds
    go_wp2_with (first | (go_at_call 12; refine (num_any _ (by decide) (by decide) _).mono ?_; rintro e w' ⟨rfl, rfl⟩) | fail)
    go_ret
    have s1 := hb1.size
    have s2 := hb2.size
    have s3 := hg3.size
    have s4 := hb4.size
    have s5 := hb5.size
    have s6 := hg6.size
    have s7 := hb7.size
    have s8 := hb8.size
    have s9 := hg9.size
    have s10 := hb10.size
    have t3 := below_only (hb1.trans (hb2.mono s1)) hg3 (by omega) (by omega)
    have t5 := (t3.trans (hb4.mono (by omega))).trans (hb5.mono (by omega))
    have t6 := below_only t5 hg6 (by omega) (by omega)
    have t8 := (t6.trans (hb7.mono (by omega))).trans (hb8.mono (by omega))
    have t9 := below_only t8 hg9 (by omega) (by omega)
    exact ⟨rfl, (t9.trans (hb10.mono (by omega))).trans (hb11.mono (by omega))⟩
end Go.Proofs.Ytkcblemiphpmaaa
