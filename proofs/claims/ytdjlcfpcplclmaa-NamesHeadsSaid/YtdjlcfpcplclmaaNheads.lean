/- NamesHeads: its walk. -/
import Derived.Test.YtdjlcfpcplclmaaNback
import Derived.Test.YtdjlcfpcplclmaaNrread
namespace Go.Proofs.Ytdjlcfpcplclmaa
open Go.RowKit T9
set_option linter.unusedVariables false
attribute [local go_sem] byte_get
theorem readE_le (b : Str) : readE b ≤ 45 := by unfold readE; split <;> omega
set_option maxHeartbeats 4000000 in
set_option maxRecDepth 100000 in
theorem heads_any (h : Hd) (b : Str) (A : Option Addr) (c : Nat) (w : World) (kh : h.Ok) (lh : h.name.length ≤ maxLen) (l2 : b.length ≤ maxLen) (k2 : b.length ≤ c) (H2 : Holds w A b) :
    Calls Try.prog 4 #[hv h, .slice A b.length c] w (Yes w) := by
  obtain ⟨i0, hi, hz0, hz1, hz2⟩ := info_parts info_byte
  have LH := Lib.hid (And.intro lh l2)
  unfold maxLen at lh l2
  have HH := Lib.hid H2
  clear H2
  have re := readE_le b
  unfold hv
  by_cases h1 : 2000 < h.name.length
  · go_enter Try.func4, Try.ntmps4
    go_wp2_with (go_at_call 7; refine (knows_any _).mono ?_; rintro e w1 ⟨rfl, hb⟩)
    go_ret
    exact ⟨rfl, ((Below.refl _ _).alloc (Nat.le_refl _) _).trans (hb.mono (by simp))⟩
  by_cases h3 : 2000 < b.length
  · go_enter Try.func4, Try.ntmps4
    go_wp2_with (go_at_call 7; refine (knows_any _).mono ?_; rintro e w1 ⟨rfl, hb⟩)
    go_ret
    exact ⟨rfl, ((Below.refl _ _).alloc (Nat.le_refl _) _).trans (hb.mono (by simp))⟩
  obtain ⟨B, hB⟩ : ∃ B, w.alloc (.cells (hc h).toArray 27) = B := ⟨_, rfl⟩
  have WB := Lib.hid (show Below w.heap.size w B by rw [← hB]; exact (Below.refl _ _).alloc (Nat.le_refl _) _)
  have BS := Lib.hid (show B.heap.size = w.heap.size + 1 by rw [← hB]; simp)
  have b0 : Blok B w.heap.size 27 (hc h) := by rw [← hB]; exact Blok.made w _ _
  have X := Lib.hid (fun (W : World) (hb : Below (w.heap.size + 1) B W) => b0.below hb (by omega))
  have TB := Lib.hid (show Below (w.heap.size + 1) B (w.alloc (.cells #[.string ⟨h.name.toArray⟩, .int .i64 h.flags, .int .u32 (h.link : Int), .int .u32 (h.xt : Int), .int .u32 (h.size : Int)] 27)) from hB ▸ Below.refl _ _)
  clear hB b0
  go_enter Try.func4, Try.ntmps4
  go_wp2_with fail
  refine (own_any h _).mono ?_
  rintro e w1 ⟨rfl, hb1⟩
  have T1 := TB.out.trans (hb1.mono (by simp))
  unfold hv
  go_wp2_with fail
  refine (bytes_any h _ kh LH.out.1).mono ?_
  rintro e w2 ⟨A5, c5, rfl, h5, hb2⟩
  have T2 := T1.trans (hb2.mono (by have := T1.size; have := BS.out; omega))
  obtain ⟨y0, y1, y2, y3, y4⟩ := hc_cells (X.out w2 T2)
  clear hb1 hb2 T1
  go_wp2_with fail
  refine (rbytes_any h _ kh LH.out.1).mono ?_
  rintro e w3 ⟨A6, c6, rfl, h6, hb3⟩
  have T3 := T2.trans (hb3.mono (by have := T2.size; have := BS.out; omega))
  have G5 := h5.below hb3
  have z3 : w.heap.size + 1 ≤ w3.heap.size := by have h7 := T3.size; have h8 := BS.out; omega
  have R0 := Lib.hid (World.ownsRow_lit (base := w3.heap.size) (e := 5) (size := 1) w3 #[] 0 (Nat.le_refl _) (Nat.zero_le _) rfl)
  have HW := WB.out.trans (T3.mono (by omega))
  have HS := Lib.hid (hold_alloc (HH.out.below HW) (.cells #[] 5))
  have T3 := Lib.hid (And.intro HW (And.intro G5 h6))
  clear y0 y1 y2 y3 y4 h5 h6 hb3 T2 G5 HW
  go_wp2_with (refine wpList_append_src rfl (.tmp 37) (.tmp 38) 28 rfl w3.heap.size 5 i0 _ 1 1 Try.underlying28 hi hz0 hz1 hz2 rfl (by decide) _ 0 [] rfl R0.out A b.length c (bv b) rfl HS.out.src (by unfold maxLen; omega) (by omega) (by simp) ?_; intro v4 w4 r4 g4; simp only [Nat.zero_add, List.nil_append] at r4; obtain ⟨A7, c7, rfl⟩ := row_slice r4; have b4 := ((Below.refl w3.heap.size w3).alloc (Nat.le_refl _) (.cells #[] 5)).grown g4 (by simp) (fun q hq => (R0.out.lt q hq).1); have T4 := Lib.hid (And.intro (T3.out.1.trans (b4.mono (by omega))) (And.intro (T3.out.2.1.below b4) (And.intro (T3.out.2.2.below b4) (And.intro (row_holds r4 rfl) (own_cap r4))))); have z4 := b4.size; clear r4 g4 b4)
  refine (read_any b A7 _ c7 w4 rfl T4.out.2.2.2.2 LH.out.2 T4.out.2.2.2.1).mono ?_
  rintro e w6 ⟨rfl, b6⟩
  unfold hv
  have z6 := b6.size
  have T6 := Lib.hid (And.intro (T4.out.1.trans (b6.mono (by omega))) (And.intro (T4.out.2.1.below b6) (And.intro (T4.out.2.2.1.below b6) (T4.out.2.2.2.1.below b6))))
  clear b6
  go_wp2_with fail
  refine (rread_any b A _ c _ rfl k2 LH.out.2 (hold_alloc (HH.out.below T6.out.1) _)).mono ?_
  rintro e w7 ⟨rfl, b7⟩
  unfold hv
  have b7 : Below (w6.heap.size + 1) (w6.alloc (.cells #[.string ⟨(readH b).name.toArray⟩, .int .i64 (readH b).flags, .int .u32 ((readH b).link : Int), .int .u32 ((readH b).xt : Int), .int .u32 ((readH b).size : Int)] 32)) w7 := by rw [World.size_alloc] at b7; exact b7
  have z7 := b7.size
  rw [World.size_alloc] at z7
  have T7 := Lib.hid (And.intro ((T6.out.1.alloc (by omega) (.cells #[.string ⟨(readH b).name.toArray⟩, .int .i64 (readH b).flags, .int .u32 ((readH b).link : Int), .int .u32 ((readH b).xt : Int), .int .u32 ((readH b).size : Int)] 32)).trans (b7.mono (by omega))) (And.intro ((hold_alloc T6.out.2.1 (.cells #[.string ⟨(readH b).name.toArray⟩, .int .i64 (readH b).flags, .int .u32 ((readH b).link : Int), .int .u32 ((readH b).xt : Int), .int .u32 ((readH b).size : Int)] 32)).below (b7.mono (by simp))) (And.intro ((hold_alloc T6.out.2.2.1 (.cells #[.string ⟨(readH b).name.toArray⟩, .int .i64 (readH b).flags, .int .u32 ((readH b).link : Int), .int .u32 ((readH b).xt : Int), .int .u32 ((readH b).size : Int)] 32)).below (b7.mono (by simp))) (And.intro ((hold_alloc T6.out.2.2.2 (.cells #[.string ⟨(readH b).name.toArray⟩, .int .i64 (readH b).flags, .int .u32 ((readH b).link : Int), .int .u32 ((readH b).xt : Int), .int .u32 ((readH b).size : Int)] 32)).below (b7.mono (by simp))) (show Blok w7 w6.heap.size 32 (hc (readH b)) from (Blok.made w6 32 (hc (readH b))).below b7 (by omega))))))
  clear b7
  have SS := Lib.hid (fun (W : World) (hb : Below (w7.heap.size + 1) (w7.alloc (.cells #[.string ⟨(readH b).name.toArray⟩, .int .i64 (readH b).flags, .int .u32 ((readH b).link : Int), .int .u32 ((readH b).xt : Int), .int .u32 ((readH b).size : Int)] 27)) W) => (show W.cell? ⟨w6.heap.size, 0, none⟩ = some (.string ⟨(readH b).name.toArray⟩) ∧ W.cell? ⟨w6.heap.size, 1, none⟩ = some (.int .i64 (readH b).flags) ∧ W.cell? ⟨w6.heap.size, 2, none⟩ = some (.int .u32 ((readH b).link : Int)) ∧ W.cell? ⟨w6.heap.size, 3, none⟩ = some (.int .u32 ((readH b).xt : Int)) ∧ W.cell? ⟨w6.heap.size, 4, none⟩ = some (.int .u32 ((readH b).size : Int)) ∧ W.cell? ⟨w7.heap.size, 0, none⟩ = some (.string ⟨(readH b).name.toArray⟩) ∧ W.cell? ⟨w7.heap.size, 1, none⟩ = some (.int .i64 (readH b).flags) ∧ W.cell? ⟨w7.heap.size, 2, none⟩ = some (.int .u32 ((readH b).link : Int)) ∧ W.cell? ⟨w7.heap.size, 3, none⟩ = some (.int .u32 ((readH b).xt : Int)) ∧ W.cell? ⟨w7.heap.size, 4, none⟩ = some (.int .u32 ((readH b).size : Int)) ∧ (convert 28 9 (.slice A5 (outN h).length c5)).run Try.prog W = .ok (.string ⟨(outN h).toArray⟩) W ∧ (convert 28 9 (.slice A6 (outN h).length c6)).run Try.prog W = .ok (.string ⟨(outN h).toArray⟩) W ∧ (convert 28 9 (.slice A7 b.length c7)).run Try.prog W = .ok (.string ⟨b.toArray⟩) W ∧ (convert 28 9 (.slice A b.length c)).run Try.prog W = .ok (.string ⟨b.toArray⟩) W from by
    have hb2 : Below (w7.alloc (.cells #[.string ⟨(readH b).name.toArray⟩, .int .i64 (readH b).flags, .int .u32 ((readH b).link : Int), .int .u32 ((readH b).xt : Int), .int .u32 ((readH b).size : Int)] 27)).heap.size (w7.alloc (.cells #[.string ⟨(readH b).name.toArray⟩, .int .i64 (readH b).flags, .int .u32 ((readH b).link : Int), .int .u32 ((readH b).xt : Int), .int .u32 ((readH b).size : Int)] 27)) W := by rw [World.size_alloc]; exact hb
    have k1 := (T7.out.2.2.2.2.alloc (.cells #[.string ⟨(readH b).name.toArray⟩, .int .i64 (readH b).flags, .int .u32 ((readH b).link : Int), .int .u32 ((readH b).xt : Int), .int .u32 ((readH b).size : Int)] 27)).below hb (by omega)
    have k0 := (Blok.made w7 27 (hc (readH b))).below hb (by omega)
    exact ⟨k1.at_ 0, k1.at_ 1, k1.at_ 2, k1.at_ 3, k1.at_ 4, k0.at_ 0, k0.at_ 1, k0.at_ 2, k0.at_ 3, k0.at_ 4,
      conv_holds W A5 (outN h) _ c5 rfl ((hold_alloc T7.out.2.1 _).below hb2), conv_holds W A6 (outN h) _ c6 rfl ((hold_alloc T7.out.2.2.1 _).below hb2), conv_holds W A7 b _ c7 rfl ((hold_alloc T7.out.2.2.2.1 _).below hb2), conv_holds W A b _ c rfl ((hold_alloc (HH.out.below T7.out.1) _).below hb2)⟩))
  have S0 := Lib.hid (show Below (w7.heap.size + 1) (w7.alloc (.cells #[.string ⟨(readH b).name.toArray⟩, .int .i64 (readH b).flags, .int .u32 ((readH b).link : Int), .int .u32 ((readH b).xt : Int), .int .u32 ((readH b).size : Int)] 27)) (w7.alloc (.cells #[.string ⟨(readH b).name.toArray⟩, .int .i64 (readH b).flags, .int .u32 ((readH b).link : Int), .int .u32 ((readH b).xt : Int), .int .u32 ((readH b).size : Int)] 27)).drew from (Below.refl _ _).drew)
  have TW := Lib.hid (T7.out.1.alloc (by omega) (.cells #[.string ⟨(readH b).name.toArray⟩, .int .i64 (readH b).flags, .int .u32 ((readH b).link : Int), .int .u32 ((readH b).xt : Int), .int .u32 ((readH b).size : Int)] 27))
  go_wp2_with fail
  go_region_held3 (fun W => W.cell? ⟨w6.heap.size, 0, none⟩ = some (.string ⟨(readH b).name.toArray⟩) ∧ W.cell? ⟨w6.heap.size, 1, none⟩ = some (.int .i64 (readH b).flags) ∧ W.cell? ⟨w6.heap.size, 2, none⟩ = some (.int .u32 ((readH b).link : Int)) ∧ W.cell? ⟨w6.heap.size, 3, none⟩ = some (.int .u32 ((readH b).xt : Int)) ∧ W.cell? ⟨w6.heap.size, 4, none⟩ = some (.int .u32 ((readH b).size : Int)) ∧ W.cell? ⟨w7.heap.size, 0, none⟩ = some (.string ⟨(readH b).name.toArray⟩) ∧ W.cell? ⟨w7.heap.size, 1, none⟩ = some (.int .i64 (readH b).flags) ∧ W.cell? ⟨w7.heap.size, 2, none⟩ = some (.int .u32 ((readH b).link : Int)) ∧ W.cell? ⟨w7.heap.size, 3, none⟩ = some (.int .u32 ((readH b).xt : Int)) ∧ W.cell? ⟨w7.heap.size, 4, none⟩ = some (.int .u32 ((readH b).size : Int)) ∧ (convert 28 9 (.slice A5 (outN h).length c5)).run Try.prog W = .ok (.string ⟨(outN h).toArray⟩) W ∧ (convert 28 9 (.slice A6 (outN h).length c6)).run Try.prog W = .ok (.string ⟨(outN h).toArray⟩) W ∧ (convert 28 9 (.slice A7 b.length c7)).run Try.prog W = .ok (.string ⟨b.toArray⟩) W ∧ (convert 28 9 (.slice A b.length c)).run Try.prog W = .ok (.string ⟨b.toArray⟩) W)
    (first | exact SS.out _ S0.out | exact SS.out _ S9.out | exact SS.out _ S10.out)
    (first
      | (go_at_call 19; (with_reducible refine (num_err h _).mono ?_); rintro e w' ⟨rfl, rfl⟩)
      | (go_at_call 19; (with_reducible refine (num_any (readE b : Int) _ (by omega) (by omega)).mono ?_); rintro e w' ⟨rfl, rfl⟩)
      | (go_at_call 20; refine (ref_any (readH b) _).mono ?_; rintro e w9 ⟨rfl, b9⟩; unfold hv; have S9 := Lib.hid (S0.out.trans (b9.mono (by simp))); have z9 := b9.size; clear b9)
      | (go_at_call 7; refine (knows_any _).mono ?_; rintro e w10 ⟨rfl, b10⟩; have S10 := Lib.hid (S9.out.trans (b10.mono (by have := S9.out.size; simpa using this))); clear b10))
  all_goals
    go_wp2
    go_ret
    exact ⟨rfl, TW.out.trans (S10.out.mono (by omega))⟩
end Go.Proofs.Ytdjlcfpcplclmaa
