/- NamesApart: its walk. -/
import Derived.Test.YtdjlcfpcplclmaaNknow
import Derived.Test.YtdjlcfpcplclmaaNopen
import Derived.StillTailTactics
namespace Go.Proofs.Ytdjlcfpcplclmaa
open Go.RowKit T9
set_option linter.unusedVariables false
attribute [local go_sem] byte_get
theorem err_le (h : Hd) : errN h ≤ 41 := by unfold errN; split <;> (try split) <;> omega
theorem num_err (h : Hd) (w : World) : Calls Try.prog 19 #[.int .i64 (errN h : Int)] w fun e' w' => e' = .returned (.int .i64 (errN h : Int)) ∧ w = w' := num_any _ w (by omega) (by
  have : errN h ≤ 41 := by unfold errN; split <;> (try split) <;> omega
  omega)
/-- The worlds below which nothing has turned. -/
def Cls (w0 W : World) : Prop := Below w0.heap.size w0 W
theorem knows_cls (w0 W : World) (h : Cls w0 W) : Calls Try.prog 7 #[] W fun e w' => e = .returned (.bool true) ∧ Cls w0 w' :=
  (knows_any W).mono fun _ _ q => ⟨q.1, Below.trans h (q.2.mono h.size)⟩
theorem num_cls (w0 : World) (n : Nat) (hn : n ≤ 1000) (W : World) (h : Cls w0 W) : Calls Try.prog 19 #[.int .i64 (n : Int)] W fun e w' => e = .returned (.int .i64 (n : Int)) ∧ Cls w0 w' :=
  (num_any n W (by omega) (by omega)).mono fun _ _ q => ⟨q.1, q.2 ▸ h⟩
theorem eql_same (g : Hd) (W : World) : (binOp .eql 27 (hv g) (hv g)).run Try.prog W = .ok (.bool true) W := by
  unfold hv
  go_simp
theorem eql_diff (g h : Hd) (W : World) (hn : g ≠ h) : (binOp .eql 27 (hv g) (hv h)).run Try.prog W = .ok (.bool false) W := by
  unfold hv
  go_simp
  intro a b c d e
  apply hn
  cases g
  cases h
  simp only [Hd.mk.injEq] at a b c d e ⊢
  exact ⟨a, b, by omega, by omega, by omega⟩
theorem str_same (x : Str) (W : World) : (binOp .eql 9 (.string ⟨x.toArray⟩) (.string ⟨x.toArray⟩)).run Try.prog W = .ok (.bool true) W := by
  go_simp
theorem str_diff (x y : Str) (W : World) (hn : x ≠ y) : (binOp .eql 9 (.string ⟨x.toArray⟩) (.string ⟨y.toArray⟩)).run Try.prog W = .ok (.bool false) W := by
  go_simp
theorem hc_cells {W : World} {b : Nat} {t : TypeId} {h : Hd} (k : Blok W b t (hc h)) : W.cell? ⟨b, 0, none⟩ = some (.string ⟨h.name.toArray⟩) ∧ W.cell? ⟨b, 1, none⟩ = some (.int .i64 h.flags) ∧ W.cell? ⟨b, 2, none⟩ = some (.int .u32 (h.link : Int)) ∧ W.cell? ⟨b, 3, none⟩ = some (.int .u32 (h.xt : Int)) ∧ W.cell? ⟨b, 4, none⟩ = some (.int .u32 (h.size : Int)) :=
  ⟨k.at_ 0, k.at_ 1, k.at_ 2, k.at_ 3, k.at_ 4⟩
set_option maxHeartbeats 2000000 in
set_option maxRecDepth 100000 in
theorem apart_any (g h : Hd) (w : World) (kg : g.Ok) (kh : h.Ok) (lg : g.name.length ≤ maxLen) (lh : h.name.length ≤ maxLen) : Calls Try.prog 6 #[hv g, hv h] w (Yes w) := by
  have LG := Lib.hid (And.intro lg lh)
  unfold maxLen at lg lh
  unfold hv
  by_cases h1 : 2000 < g.name.length
  · go_enter Try.func6, Try.ntmps6
    go_wp2_with (go_at_call 7; refine (knows_any _).mono ?_; rintro e w1 ⟨rfl, hb⟩)
    go_ret
    exact ⟨rfl, (((Below.refl _ _).alloc (Nat.le_refl _) _).alloc (by simp) _).trans (hb.mono (by simp; omega))⟩
  · by_cases h2 : 2000 < h.name.length
    · go_enter Try.func6, Try.ntmps6
      go_wp2_with (go_at_call 7; refine (knows_any _).mono ?_; rintro e w1 ⟨rfl, hb⟩)
      go_ret
      exact ⟨rfl, (((Below.refl _ _).alloc (Nat.le_refl _) _).alloc (by simp) _).trans (hb.mono (by simp; omega))⟩
    · obtain ⟨B, hB⟩ : ∃ B, (w.alloc (.cells (hc g).toArray 27)).alloc (.cells (hc h).toArray 27) = B := ⟨_, rfl⟩
      have WB := Lib.hid (show Below w.heap.size w B by rw [← hB]; exact ((Below.refl _ _).alloc (Nat.le_refl _) _).alloc (by simp) _)
      have BS := Lib.hid (show B.heap.size = w.heap.size + 2 by rw [← hB]; simp)
      have b0 : Blok B w.heap.size 27 (hc g) := by rw [← hB]; exact (Blok.made w _ _).alloc _
      have b1 : Blok B (w.heap.size + 1) 27 (hc h) := by rw [← hB]; have := Blok.made (w.alloc (.cells (hc g).toArray 27)) 27 (hc h); rw [World.size_alloc] at this; exact this
      have X := Lib.hid (fun (W : World) (hb : Below (w.heap.size + 2) B W) => And.intro (b0.below hb (by omega)) (b1.below hb (by omega)))
      have TB := Lib.hid (show Below (w.heap.size + 2) B ((w.alloc (.cells #[.string ⟨g.name.toArray⟩, .int .i64 g.flags, .int .u32 (g.link : Int), .int .u32 (g.xt : Int), .int .u32 (g.size : Int)] 27)).alloc (.cells #[.string ⟨h.name.toArray⟩, .int .i64 h.flags, .int .u32 (h.link : Int), .int .u32 (h.xt : Int), .int .u32 (h.size : Int)] 27)) from hB ▸ Below.refl _ _)
      clear hB b0 b1
      go_enter Try.func6, Try.ntmps6
      go_wp2_with fail
      refine (own_any g _).mono ?_
      rintro e w1 ⟨rfl, hb1⟩
      have T1 := TB.out.trans (hb1.mono (by simp))
      unfold hv
      go_wp2_with fail
      refine (bytes_any g _ kg LG.out.1).mono ?_
      rintro e w2 ⟨A2, c2, rfl, H2, hb2⟩
      have T2 := T1.trans (hb2.mono (by have := T1.size; have := BS.out; omega))
      obtain ⟨y0, y1, y2, y3, y4⟩ := hc_cells (X.out w2 T2).2
      go_wp2_with fail
      refine (own_any h _).mono ?_
      rintro e w3 ⟨rfl, hb3⟩
      have T3 := T2.trans (hb3.mono (by have := T2.size; have := BS.out; omega))
      unfold hv
      go_wp2_with fail
      refine (bytes_any h _ kh LG.out.2).mono ?_
      rintro e w4 ⟨A4, c4, rfl, H4, hb4⟩
      have T4 := T3.trans (hb4.mono (by have := T3.size; have := BS.out; omega))
      have G2 := H2.below (hb3.trans (hb4.mono (by have := hb3.size; omega)))
      obtain ⟨g0, g1, g2, g3, g4⟩ := hc_cells (X.out w4 T4).1
      obtain ⟨z0, z1, z2, z3, z4⟩ := hc_cells (X.out w4 T4).2
      have V2 := conv_holds w4.drew A2 (outN g) _ c2 rfl G2
      have V4 := conv_holds w4.drew A4 (outN h) _ c4 rfl H4
      have TW := Lib.hid (WB.out.trans (T4.mono (by omega)))
      clear y0 y1 y2 y3 y4 hb1 hb2 hb3 hb4 T1 T2 T3 T4 H2 H4 G2 X TB
      go_wp2_with fail
      by_cases e1 : errN g = 0
      · by_cases e2 : errN h = 0
        · rw [e1, e2]
          by_cases hgh : g = h
          · subst hgh
            have Q1 := eql_same g
            have Q2 := str_same (outN g)
            unfold hv at Q1
            clear e1 e2
            go_wp2_with fail
            refine wp_region_still_tail 20 (by kernel_rfl) (by kernel_rfl) ?_
            simp only [List.take_succ_cons, List.take_zero, List.drop_succ_cons, List.drop_zero]
            repeat still_step
            still_call ((num_any 0 _ (by omega) (by omega)).mono fun _ _ h => ⟨h.1, h.2.symm⟩)
            repeat still_step
            still_call ((num_any 0 _ (by omega) (by omega)).mono fun _ _ h => ⟨h.1, h.2.symm⟩)
            repeat still_step
            refine wpStill_nil ?_
            change wpList _ _ _ _ _ w4.drew
            go_wp2_with (go_at_call 7; refine (knows_any _).mono ?_; rintro e w5 ⟨rfl, hb⟩)
            go_ret
            exact ⟨rfl, (TW.out.drew).trans (hb.mono TW.out.size)⟩
          · have hno : outN g ≠ outN h := fun q => hgh (bytes_inj e1 e2 kg kh (by unfold outN at q; rw [if_pos e1, if_pos e2] at q; exact q))
            have Q1 := fun W => eql_diff g h W hgh
            have Q2 : (outN g == outN h) = false := by simpa using hno
            unfold hv at Q1
            clear hgh e1 e2
            go_wp2_with fail
            refine wp_region_still_tail 20 (by kernel_rfl) (by kernel_rfl) ?_
            simp only [List.take_succ_cons, List.take_zero, List.drop_succ_cons, List.drop_zero]
            repeat still_step
            still_call ((num_any 0 _ (by omega) (by omega)).mono fun _ _ h => ⟨h.1, h.2.symm⟩)
            repeat still_step
            still_call ((num_any 0 _ (by omega) (by omega)).mono fun _ _ h => ⟨h.1, h.2.symm⟩)
            repeat still_step
            refine wpStill_nil ?_
            change wpList _ _ _ _ _ w4.drew
            go_wp2_with (go_at_call 7; refine (knows_any _).mono ?_; rintro e w5 ⟨rfl, hb⟩)
            go_ret
            exact ⟨rfl, (TW.out.drew).trans (hb.mono TW.out.size)⟩
        · obtain ⟨n, hn⟩ : ∃ n, errN h = n := ⟨_, rfl⟩
          have n2 := err_le h
          rw [hn] at n2 e2 ⊢
          have n1 : 1 ≤ n := by omega
          have N2 : ((n : Int) != 0) = true := by simp; omega
          rw [e1]
          clear e1 e2 hn V2 V4
          go_wp2_with fail
          refine region_class (Cls w4) (by kernel_rfl) (by kernel_rfl) (show Below w4.heap.size w4 w4.drew from (Below.refl _ _).drew) ?_
          repeat (first | go_big_quiet_skip | (go_big_quiet_want; go_big_quiet_op; first | go_big_quiet_on | (refine ⟨_, fun _ _ => rfl, ?_⟩; go_big_quiet_on) | (refine ⟨_, fun W hC => num_cls w4 0 (by omega) W hC, ?_⟩; go_big_quiet_on) | (refine ⟨_, fun W hC => num_cls w4 n (by omega) W hC, ?_⟩; go_big_quiet_on) | (refine ⟨_, fun W hC => knows_cls w4 W hC, ?_⟩; go_big_quiet_on)))
          refine wpQuiet_nil ?_
          intro w5 hb
          go_wp2
          go_ret
          exact ⟨rfl, TW.out.trans (Below.mono hb TW.out.size)⟩
      · obtain ⟨n, hn⟩ : ∃ n, errN g = n := ⟨_, rfl⟩
        have n2 := err_le g
        rw [hn] at n2 e1 ⊢
        have n1 : 1 ≤ n := by omega
        have N2 : ((n : Int) != 0) = true := by simp; omega
        clear e1 hn V2 V4
        go_wp2_with fail
        refine region_class (Cls w4) (by kernel_rfl) (by kernel_rfl) (show Below w4.heap.size w4 w4.drew from (Below.refl _ _).drew) ?_
        repeat (first | go_big_quiet_skip | (go_big_quiet_want; go_big_quiet_op; first | go_big_quiet_on | (refine ⟨_, fun _ _ => rfl, ?_⟩; go_big_quiet_on) | (refine ⟨_, fun W hC => num_cls w4 n (by omega) W hC, ?_⟩; go_big_quiet_on) | (refine ⟨_, fun W hC => knows_cls w4 W hC, ?_⟩; go_big_quiet_on)))
        refine wpQuiet_nil ?_
        intro w5 hb
        go_wp2
        go_ret
        exact ⟨rfl, TW.out.trans (Below.mono hb TW.out.size)⟩
end Go.Proofs.Ytdjlcfpcplclmaa
