/- NamesBack: its walk. -/
import Derived.Test.YtdjlcfpcplclmaaNapart
import Derived.Test.YtdjlcfpcplclmaaNread
import Derived.Deep.DeepCutAuto
import Derived.Deep.CutBlock
namespace Go.Proofs.Ytdjlcfpcplclmaa
open Go.RowKit T9
set_option linter.unusedVariables false
attribute [local go_sem] byte_get
theorem own_cap {w : World} {B n c : Nat} {A : Option Addr} {cs : List Value} (h : w.ownsRow B 5 1 (.slice A n c) n cs) : n ≤ c := by
  rcases h.2 with ⟨e, h0⟩ | ⟨g, cap, cur, e, _, _, hc, _⟩
  · injection e with e1 e2 e3; omega
  · injection e with e1 e2 e3; omega
theorem readH_some {b : Str} {h : Hd} (e : readN b = some h) : readH b = h ∧ readL b = (bytesN h).length ∧ readE b = 0 := by
  unfold readH readL readE
  rw [e]
  exact ⟨rfl, rfl, rfl⟩
theorem readH_none {b : Str} (e : readN b = none) : readH b = zeroHd ∧ readL b = 0 ∧ readE b = 45 := by
  unfold readH readL readE
  rw [e]
  exact ⟨rfl, rfl, rfl⟩
theorem out_good {h : Hd} (e : errN h = 0) : outN h = bytesN h := by unfold outN; rw [if_pos e]
theorem eql_own (g : Hd) (W : World) : (binOp .eql 32 (hv g) (hv g)).run Try.prog W = .ok (.bool true) W := by
  unfold hv
  go_simp
theorem neq_same (g : Hd) (W : World) : (binOp .neq 27 (hv g) (hv g)).run Try.prog W = .ok (.bool false) W := by
  unfold hv
  go_simp
theorem zero_hv : hv zeroHd = .agg #[.string ⟨#[]⟩, .int .i64 0, .int .u32 0, .int .u32 0, .int .u32 0] := rfl
theorem conv_part (w : World) (A : Option Addr) (b : Str) (n c : Nat) (xs : Str) (hx : xs = b.take n) (hn : n ≤ b.length) (h : Holds w A b) : (convert 28 9 (.slice A n c)).run Try.prog w = .ok (.string ⟨xs.toArray⟩) w := by
  subst hx
  refine conv_holds w A (b.take n) n c (by rw [List.length_take]; omega) ?_
  intro h0
  obtain ⟨ad, e, hc⟩ := h (by rw [List.length_take] at h0; omega)
  refine ⟨ad, e, fun j u hj => hc j u ?_⟩
  simp only [bv, List.map_take, List.getElem?_take] at hj
  split at hj
  · exact hj
  · cases hj
set_option maxHeartbeats 4000000 in
set_option maxRecDepth 100000 in
theorem back_any (h : Hd) (more b : Str) (A1 A2 : Option Addr) (c1 c2 : Nat) (w : World) (kh : h.Ok) (lh : h.name.length ≤ maxLen) (l1 : more.length ≤ maxLen) (l2 : b.length ≤ maxLen) (k2 : b.length ≤ c2) (H1 : Holds w A1 more) (H2 : Holds w A2 b) :
    Calls Try.prog 5 #[hv h, .slice A1 more.length c1, .slice A2 b.length c2] w (Yes w) := by
  have LH := Lib.hid (And.intro lh (And.intro l1 l2))
  unfold maxLen at lh l1 l2
  have HH := Lib.hid (And.intro H1 H2)
  clear H1 H2
  unfold hv
  by_cases h1 : 2000 < h.name.length
  · go_enter Try.func5, Try.ntmps5
    go_wp2_with (go_at_call 7; refine (knows_any _).mono ?_; rintro e w1 ⟨rfl, hb⟩)
    go_ret
    exact ⟨rfl, ((Below.refl _ _).alloc (Nat.le_refl _) _).trans (hb.mono (by simp))⟩
  by_cases h2 : 100 < more.length
  · go_enter Try.func5, Try.ntmps5
    go_wp2_with (go_at_call 7; refine (knows_any _).mono ?_; rintro e w1 ⟨rfl, hb⟩)
    go_ret
    exact ⟨rfl, ((Below.refl _ _).alloc (Nat.le_refl _) _).trans (hb.mono (by simp))⟩
  by_cases h3 : 2000 < b.length
  · go_enter Try.func5, Try.ntmps5
    go_wp2_with (go_at_call 7; refine (knows_any _).mono ?_; rintro e w1 ⟨rfl, hb⟩)
    go_ret
    exact ⟨rfl, ((Below.refl _ _).alloc (Nat.le_refl _) _).trans (hb.mono (by simp))⟩
  obtain ⟨B, hB⟩ : ∃ B, w.alloc (.cells (hc h).toArray 27) = B := ⟨_, rfl⟩
  have WB := Lib.hid (show Below w.heap.size w B by rw [← hB]; exact (Below.refl _ _).alloc (Nat.le_refl _) _)
  have BS := Lib.hid (show B.heap.size = w.heap.size + 1 by rw [← hB]; simp)
  have b0 : Blok B w.heap.size 27 (hc h) := by rw [← hB]; exact Blok.made w _ _
  have X := Lib.hid (fun (W : World) (hb : Below (w.heap.size + 1) B W) => b0.below hb (by omega))
  have TB := Lib.hid (show Below (w.heap.size + 1) B (w.alloc (.cells #[.string ⟨h.name.toArray⟩, .int .i64 h.flags, .int .u32 (h.link : Int), .int .u32 (h.xt : Int), .int .u32 (h.size : Int)] 27)) from hB ▸ Below.refl _ _)
  clear hB b0
  go_enter Try.func5, Try.ntmps5
  go_upto_if 38 with (first
    | (go_at_call 15; refine (own_any h _).mono ?_; rintro e w1 ⟨rfl, hb1⟩; have T1 := Lib.hid (TB.out.trans (hb1.mono (by simp))); clear hb1)
    | (go_at_call 14; refine (bytes_any h _ kh LH.out.1).mono ?_; rintro e w2 ⟨A5, c5, rfl, h5, hb2⟩; have T2 := Lib.hid (And.intro (T1.out.trans (hb2.mono (by have := T1.out.size; have := BS.out; omega))) h5); clear hb2 h5)
    | (go_at_call 19; refine (num_err h _).mono ?_; rintro e w' ⟨rfl, rfl⟩))
  go_cut [9, 10, 11] (fun p i e wx => Below (w.heap.size + 1) B wx)
  case first =>
    obtain ⟨i0, hi, hz0, hz1, hz2⟩ := info_parts info_byte
    by_cases e0 : errN h = 0
    · have K : (((errN h : Nat) : Int) == 0) = true := by rw [e0]; rfl
      have E0 := Lib.hid e0
      have e := read_bytes h e0 kh more
      obtain ⟨p1, p2, p3⟩ := readH_some e
      have OL := Lib.hid (show (outN h).length = lenN h.name ∧ outN h = bytesN h ∧ lenN h.name ≤ 48 by
        have h4 := right_len (err_right e0).1
        refine ⟨by rw [out_good e0, bytesN_lenN e0], out_good e0, ?_⟩
        unfold lenN
        rw [if_neg (by omega)]
        omega)
      have PR := Lib.hid (And.intro p1 (And.intro p2 p3))
      have oln : (outN h).length ≤ 48 := by have := OL.out; omega
      have hsz : w.heap.size + 1 ≤ w2.heap.size := by have h5 := T2.out.1.size; have h6 := BS.out; omega
      have R0 := Lib.hid (World.ownsRow_lit (base := w.heap.size + 1) (e := 5) (size := 1) w2 #[] 0 hsz (Nat.zero_le _) rfl)
      have TA := Lib.hid (T2.out.1.alloc hsz (.cells #[] 5))
      have HA := Lib.hid (hold_alloc T2.out.2 (.cells #[] 5))
      clear e e0 p1 p2 p3
      go_wp2_with (first
        | (refine wpList_append_src rfl (.tmp 40) (.tmp 41) 28 rfl (w.heap.size + 1) 5 i0 _ 1 1 Try.underlying28 hi hz0 hz1 hz2 rfl (by decide) _ 0 [] rfl R0.out A5 (outN h).length c5 (bv (outN h)) rfl HA.out.src (by unfold maxLen; omega) (by omega) (by have := TA.out.size; have := BS.out; omega) ?_; intro v6 w6 r6 g6; simp only [Nat.zero_add, List.nil_append] at r6; obtain ⟨A6, c6, rfl⟩ := row_slice r6; have Q6 := Lib.hid r6; have V6 := Lib.hid (TA.out.grown g6 (by have := TA.out.size; have := BS.out; omega) (fun q hq => (R0.out.lt q hq).1)); clear r6 g6)
        | (refine wpList_append_src rfl (.tmp 42) (.tmp 43) 28 rfl (w.heap.size + 1) 5 i0 _ 1 1 Try.underlying28 hi hz0 hz1 hz2 rfl (by decide) _ _ _ rfl Q6.out A1 more.length c1 (bv more) rfl (HH.out.1.below (WB.out.trans (V6.out.mono (by omega)))).src (by unfold maxLen; omega) (by omega) (by have := V6.out.size; have := BS.out; omega) ?_; intro v7 w7 r7 g7; obtain ⟨A7, c7, rfl⟩ := row_slice r7; have Q7 := Lib.hid r7; have V7 := Lib.hid (V6.out.grown g7 (by have := V6.out.size; have := BS.out; omega) (fun q hq => (Q6.out.lt q hq).1)); clear r7 g7)
        | (go_at_call 17; refine (read_any (bytesN h ++ more) A7 _ c7 _ (by rw [← OL.out.2.1, List.length_append]) (own_cap Q7.out) (by unfold maxLen; omega) (row_holds (xs := bytesN h ++ more) (by have q := Q7.out; rw [OL.out.2.1] at q; simpa [bv] using q) (by rw [← OL.out.2.1, List.length_append]))).mono ?_; rintro e w8 ⟨rfl, b8⟩; rw [PR.out.1, PR.out.2.1, PR.out.2.2, ← OL.out.2.1]; unfold hv; have V8 := Lib.hid (V7.out.trans (b8.mono (by have := V7.out.size; have := BS.out; omega))); clear b8))
      have SS := Lib.hid (fun (W : World) (k1 : Blok W w8.heap.size 32 (hc h)) (k0 : Blok W w.heap.size 27 (hc h)) => (show W.cell? ⟨w8.heap.size, 0, none⟩ = some (.string ⟨h.name.toArray⟩) ∧ W.cell? ⟨w8.heap.size, 1, none⟩ = some (.int .i64 h.flags) ∧ W.cell? ⟨w8.heap.size, 2, none⟩ = some (.int .u32 (h.link : Int)) ∧ W.cell? ⟨w8.heap.size, 3, none⟩ = some (.int .u32 (h.xt : Int)) ∧ W.cell? ⟨w8.heap.size, 4, none⟩ = some (.int .u32 (h.size : Int)) ∧ W.cell? ⟨w.heap.size, 0, none⟩ = some (.string ⟨h.name.toArray⟩) ∧ W.cell? ⟨w.heap.size, 1, none⟩ = some (.int .i64 h.flags) ∧ W.cell? ⟨w.heap.size, 2, none⟩ = some (.int .u32 (h.link : Int)) ∧ W.cell? ⟨w.heap.size, 3, none⟩ = some (.int .u32 (h.xt : Int)) ∧ W.cell? ⟨w.heap.size, 4, none⟩ = some (.int .u32 (h.size : Int)) from ⟨k1.at_ 0, k1.at_ 1, k1.at_ 2, k1.at_ 3, k1.at_ 4, k0.at_ 0, k0.at_ 1, k0.at_ 2, k0.at_ 3, k0.at_ 4⟩))
      have D1 := Lib.hid (show Blok (w8.alloc (.cells #[.string ⟨h.name.toArray⟩, .int .i64 h.flags, .int .u32 (h.link : Int), .int .u32 (h.xt : Int), .int .u32 (h.size : Int)] 32)).drew w8.heap.size 32 (hc h) from (Blok.made w8 32 (hc h)).drew)
      have D0 := Lib.hid (show Blok (w8.alloc (.cells #[.string ⟨h.name.toArray⟩, .int .i64 h.flags, .int .u32 (h.link : Int), .int .u32 (h.xt : Int), .int .u32 (h.size : Int)] 32)).drew w.heap.size 27 (hc h) from ((X.out _ V8.out).alloc _).drew)
      have z8 : w.heap.size + 1 ≤ w8.heap.size := by have h5 := V8.out.size; have h6 := BS.out; omega
      have VD := Lib.hid ((V8.out.alloc z8 (.cells #[.string ⟨h.name.toArray⟩, .int .i64 h.flags, .int .u32 (h.link : Int), .int .u32 (h.xt : Int), .int .u32 (h.size : Int)] 32)).drew)
      clear K
      go_region_held3 (fun W => W.cell? ⟨w8.heap.size, 0, none⟩ = some (.string ⟨h.name.toArray⟩) ∧ W.cell? ⟨w8.heap.size, 1, none⟩ = some (.int .i64 h.flags) ∧ W.cell? ⟨w8.heap.size, 2, none⟩ = some (.int .u32 (h.link : Int)) ∧ W.cell? ⟨w8.heap.size, 3, none⟩ = some (.int .u32 (h.xt : Int)) ∧ W.cell? ⟨w8.heap.size, 4, none⟩ = some (.int .u32 (h.size : Int)) ∧ W.cell? ⟨w.heap.size, 0, none⟩ = some (.string ⟨h.name.toArray⟩) ∧ W.cell? ⟨w.heap.size, 1, none⟩ = some (.int .i64 h.flags) ∧ W.cell? ⟨w.heap.size, 2, none⟩ = some (.int .u32 (h.link : Int)) ∧ W.cell? ⟨w.heap.size, 3, none⟩ = some (.int .u32 (h.xt : Int)) ∧ W.cell? ⟨w.heap.size, 4, none⟩ = some (.int .u32 (h.size : Int)))
        (first | exact SS.out _ D1.out D0.out | exact SS.out _ G9.out.1 G9.out.2)
        (first
          | (go_at_call 19; refine (num_any 0 _ (by decide) (by decide)).mono ?_; rintro e w' ⟨rfl, rfl⟩)
          | (go_at_call 20; refine (ref_any h _).mono ?_; rintro e w9 ⟨rfl, b9⟩; unfold hv; have G9 := Lib.hid (And.intro (D1.out.below b9 D1.out.lt) (D0.out.below b9 D0.out.lt)); have V9 := Lib.hid (VD.out.trans (b9.mono (by simp; omega))); clear b9)
          | (go_at_call 12; refine (length_any h.name _ LH.out.1).mono ?_; rw [← OL.out.1]; rintro e w' ⟨rfl, rfl⟩))
      all_goals
        go_wp2
        go_meet
        exact V9.out
    · have K : (((errN h : Nat) : Int) == 0) = false := by simp; exact e0
      go_wp2
      go_meet
      exact T2.out.1
  case rest =>
    have hbc := Lib.hid hcut
    have HW := Lib.hid (WB.out.trans (hcut.mono (by omega)))
    have hsz : w.heap.size + 1 ≤ wc.heap.size := by have h5 := hcut.size; have h6 := BS.out; omega
    clear hcut
    cases e : readN b with
    | none =>
      obtain ⟨p1, p2, p3⟩ := readH_none e
      have PR := Lib.hid (And.intro p1 (And.intro p2 p3))
      clear e p1 p2 p3
      go_wp2_with (first
        | (go_at_call 17; refine (read_any b A2 _ c2 _ rfl k2 LH.out.2.2 (HH.out.2.below HW.out)).mono ?_; rintro e w8 ⟨rfl, b8⟩; rw [PR.out.1, PR.out.2.1, PR.out.2.2]; rw [zero_hv]; have V8 := Lib.hid (HW.out.trans (b8.mono (by omega))); have z8 := b8.size; clear b8)
        | (go_at_call 19; refine (num_any 45 _ (by decide) (by decide)).mono ?_; rintro e w' ⟨rfl, rfl⟩)
        | (go_at_call 7; refine (knows_any _).mono ?_; rintro e w9 ⟨rfl, hb⟩))
      go_ret
      exact ⟨rfl, (V8.out.alloc (by omega) _).trans (hb.mono (by simp; omega))⟩
    | some h' =>
      obtain ⟨p1, p2, p3⟩ := readH_some e
      obtain ⟨g0, g1, g2, g3⟩ := read_some e
      have o1 := out_good g0
      rw [← o1] at g1 g2 p2
      have hn := (right_len (err_right g0).1).2
      have PR := Lib.hid (And.intro p1 (And.intro p2 p3))
      have GG := Lib.hid (And.intro g0 (And.intro g2 (And.intro g3 (show h'.name.length ≤ maxLen by unfold maxLen; omega))))
      have q1 : ((outN h').length : Int) ≤ (b.length : Int) := by omega
      have q2 : ((outN h').length : Int) ≤ (c2 : Int) := by omega
      clear e p1 p2 p3 g0 g2 g3 o1 hn
      go_wp2_with (first
        | (go_at_call 17; refine (read_any b A2 _ c2 _ rfl k2 LH.out.2.2 (HH.out.2.below HW.out)).mono ?_; rintro e w8 ⟨rfl, b8⟩; rw [PR.out.1, PR.out.2.1, PR.out.2.2]; unfold hv; have V8 := Lib.hid (HW.out.trans (b8.mono (by omega))); have z8 := b8.size; clear b8)
        | (go_at_call 19; refine (num_any 0 _ (by decide) (by decide)).mono ?_; rintro e w' ⟨rfl, rfl⟩))
      refine (bytes_any h' _ GG.out.2.2.1 GG.out.2.2.2).mono ?_
      rintro e w9 ⟨A9, c9, rfl, h9, b9⟩
      rw [GG.out.1]
      have V9 := Lib.hid ((V8.out.alloc (by omega) (.cells (hc h').toArray 32)).trans (b9.mono (by simp; omega)))
      have cv1 := conv_holds w9.drew A9 (outN h') _ c9 rfl h9
      clear h9 b9
      have cv2 := conv_part w9.drew A2 b (outN h').length c2 (outN h') GG.out.2.1 (by omega) (HH.out.2.below V9.out.drew)
      go_wp2_with (go_at_call 19; refine (num_any 0 _ (by decide) (by decide)).mono ?_; rintro e w' ⟨rfl, rfl⟩)
      refine wp_region_still_tail 19 (by kernel_rfl) (by kernel_rfl) ?_
      simp only [List.take_succ_cons, List.take_zero, List.drop_succ_cons, List.drop_zero]
      repeat still_step
      still_call ((num_any 0 _ (by omega) (by omega)).mono fun _ _ q => ⟨q.1, q.2.symm⟩)
      repeat still_step
      refine wpStill_nil ?_
      change wpList _ _ _ _ _ w9.drew
      go_wp2_with (go_at_call 7; refine (knows_any _).mono ?_; rintro e w10 ⟨rfl, hb⟩)
      go_ret
      exact ⟨rfl, (V9.out.drew).trans (hb.mono V9.out.size)⟩
end Go.Proofs.Ytdjlcfpcplclmaa
