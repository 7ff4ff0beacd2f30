/- knows: what must come. -/
import Derived.Test.YtdcpkeagkfchoaaDoorParse
import Derived.Test.YtdcpkeagkfchoaaDoorReg
namespace Go.Proofs.YtdcpkeagkfchoaaDoor
open Go.RowKit T6
set_option linter.unusedVariables false
def text0 : Str := [97, 58, 32, 97, 100, 100, 105, 32, 116, 48, 32, 116, 48, 32, 49, 32, 47, 47, 32, 120, 10]
def line0 : LineD := ⟨[[97]], [97, 100, 100, 105], [[116, 48], [116, 48], [49]]⟩
theorem parse0 : parseL 0 [] (splitL text0) = ([line0], 0, 0) := by decide +kernel
theorem num0 : numS [45, 48, 48, 49, 48] = (-10, true) := by decide +kernel
theorem reg0 {r : Int × Bool} (h : RegIs [116, 54] r) : r = (31, true) := by
  refine h.unique (.inl ⟨31, by omega, fun j hj => ?_, .inl rfl, rfl⟩)
  have hd : ∀ j : Fin 31, ¬ (([116, 54] : Str) = regN j.val ∨ xNames[j.val]? = some [116, 54]) := by decide +kernel
  rintro (e | e)
  · exact hd ⟨j, hj⟩ (.inl e)
  · exact hd ⟨j, hj⟩ (.inr (by rw [xNames_at j (by omega), ← e]))
theorem split0 : (splitL text0).length ≤ 32768 := by decide +kernel
set_option maxRecDepth 100000 in
set_option maxHeartbeats 2000000 in
theorem knows_any (w : World) : Calls Tryd.prog 8 #[] w fun e w' => e = .returned (.bool true) ∧ Below w.heap.size w w' := by
  have hP := parse_any text0 (by decide) split0
  rw [parse0] at hP
  have hN := number_any [45, 48, 48, 49, 48] (by decide)
  rw [num0] at hN
  have hR := register_any [116, 54] (by decide)
  go_enter Tryd.func8, Tryd.ntmps8
  go_wp2_with (first
    | (go_at_call 9; refine (hP _).mono ?_; rintro e w1 ⟨v, rfl, hL, hb1⟩)
    | (go_at_call 20; refine (hN _).mono ?_; rintro e w2 ⟨rfl, hb2⟩)
    | (go_at_call 22; refine (hR _).mono ?_; rintro e w3 ⟨r, hr, rfl, hb3⟩; obtain rfl := reg0 hr; obtain ⟨A, c, rfl, hA⟩ := (hL.below hb2).below hb3; obtain ⟨b, o, rfl, hc⟩ := hA (by decide); obtain ⟨c0, c2, q0, q1, q2, ⟨A0, k0, rfl, _⟩, ⟨A2, k2, rfl, _⟩⟩ := hc 0 line0 rfl; simp only [Nat.zero_mul, Nat.add_zero] at q0 q1 q2; clear hc hr hL)
    | (go_at_call 13; refine (num_any _ _ (by decide) (by decide)).mono ?_; rintro e w4 ⟨rfl, rfl⟩))
  go_ret
  exact ⟨rfl, hb1.trans ((hb2.trans (hb3.mono hb2.size)).mono hb1.size)⟩
theorem below3 {a b c : World} (h : Below a.heap.size a b) (k : Below b.heap.size b c) : Below a.heap.size a c := h.trans (k.mono h.size)
set_option maxRecDepth 100000 in
set_option maxHeartbeats 2000000 in
/-- LinesWords: every text. -/
theorem linesWords_any (s : Str) (w : World) : Calls Tryd.prog 5 #[.string ⟨s.toArray⟩] w (Yes w) := by
  by_cases hs : 300 < s.length
  · have h3 : decide ((300 : Int) < (s.length : Int)) = true := decide_eq_true (by omega)
    have h4 : ((300 : Int) < (s.length : Int)) = True := by simp; omega
    clear hs
    go_enter Tryd.func5, Tryd.ntmps5
    go_wp2_with (go_at_call 8; refine (knows_any _).mono ?_; rintro e w1 ⟨rfl, hb1⟩)
    go_ret
    exact ⟨rfl, hb1⟩
  · have h4 : ((300 : Int) < (s.length : Int)) = False := by simp; omega
    have hn1 := number_any s (by omega)
    have hn2 := refnum_any s (by omega)
    have hr1 := register_any s (by omega)
    have hr2 := refreg_any s (by omega)
    rw [num_same] at hn1
    clear hs
    go_enter Tryd.func5, Tryd.ntmps5
    go_wp2_with (first
      | (go_at_call 8; refine (knows_any _).mono ?_; rintro e w5 ⟨rfl, hb5⟩)
      | (go_at_call 20; refine (hn1 _).mono ?_; rintro e w1 ⟨rfl, hb1⟩)
      | (go_at_call 21; refine (hn2 _).mono ?_; rintro e w2 ⟨rfl, rfl⟩)
      | (go_at_call 22; refine (hr1 _).mono ?_; rintro e w3 ⟨r, hr, rfl, hb3⟩)
      | (go_at_call 23; refine (hr2 _).mono ?_; rintro e w4 ⟨r', hr', rfl, hb4⟩; obtain rfl := hr.unique hr'; clear hr hr'))
    go_ret
    exact ⟨rfl, below3 hb1 (below3 hb3 (below3 hb4 hb5))⟩
end Go.Proofs.YtdcpkeagkfchoaaDoor
