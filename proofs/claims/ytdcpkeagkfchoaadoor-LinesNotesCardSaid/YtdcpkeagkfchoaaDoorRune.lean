/- strings.IndexRune of the two blanks at a rune beyond ASCII: nothing is found. -/
import Derived.Test.YtdcpkeagkfchoaaDoorProg
import Derived.WalkKit
import Derived.WalkSmall
import Derived.Outline
import Derived.WalkLawsBesides
import Derived.WalkSpells
import Derived.Laws.RangeAny
import Derived.Laws.Runes
import Derived.Laws.RangeString
import Derived.Below
import Derived.Deep.LoopGhost
import Derived.BigQuiet
import Derived.Deep.QuietTactic
import Derived.Lib.Hide
import Derived.Test.YtdcpkeagkfchoaaDoorShelf
namespace Go.Proofs.YtdcpkeagkfchoaaDoor
open Go.RowKit
set_option linter.unusedVariables false
set_option maxRecDepth 100000 in
set_option maxHeartbeats 1000000 in
theorem rune_err (w : World) : Calls Tryd.prog 80 #[.string ⟨#[32, 9]⟩, .int .i32 65533] w fun e w' => e = .returned (.int .i64 (-1)) ∧ Below w.heap.size w w' := by
  have n0 := fun ty => run_next_ascii (P := Tryd.prog) w ⟨#[32, 9]⟩ 0 ty (by decide) (by decide)
  have n1 := fun ty => run_next_ascii (P := Tryd.prog) w ⟨#[32, 9]⟩ 1 ty (by decide) (by decide)
  have n2 := fun ty => run_next_end (P := Tryd.prog) w ⟨#[32, 9]⟩ 2 ty (by decide)
  go_enter Tryd.func80, Tryd.ntmps80
  go_wp2
  refine wp_loop_rounds 3 ?_
  rw [rounds_succ]
  go_wp2
  rw [rounds_succ]
  go_wp2
  rw [rounds_succ]
  go_wp2
  go_ret
  exact ⟨rfl, (Below.refl _ _).alloc (Nat.le_refl _) _⟩
/-- What a rune beyond ASCII is as bytes: its last byte is none of the blanks. -/
theorem encode_two (r : Int) (h0 : 128 ≤ r) : (∃ a b : UInt8, Utf8.encode r = ⟨#[a, b]⟩ ∧ 128 ≤ b.toNat) ∨ (∃ a b c : UInt8, Utf8.encode r = ⟨#[a, b, c]⟩) ∨ ∃ a b c d : UInt8, Utf8.encode r = ⟨#[a, b, c, d]⟩ := by
  unfold Utf8.encode
  by_cases hv : Utf8.valid r = true
  · simp only [hv, if_true]
    rw [if_neg (by omega)]
    by_cases h2 : r.toNat < 0x800
    · rw [if_pos h2]
      refine .inl ⟨_, _, rfl, ?_⟩
      rw [UInt8.toNat_ofNat']
      omega
    · rw [if_neg h2]
      by_cases h3 : r.toNat < 0x10000
      · rw [if_pos h3]
        exact .inr (.inl ⟨_, _, _, rfl⟩)
      · rw [if_neg h3]
        exact .inr (.inr ⟨_, _, _, _, rfl⟩)
  · simp only [hv]
    exact .inr (.inl ⟨_, _, _, rfl⟩)
set_option maxRecDepth 100000 in
set_option maxHeartbeats 1000000 in
theorem rune_high (r : Int) (h0 : 128 ≤ r) (h1 : r ≤ 2147483647) (w : World) : Calls Tryd.prog 80 #[.string ⟨#[32, 9]⟩, .int .i32 r] w fun e w' => e = .returned (.int .i64 (-1)) ∧ Below w.heap.size w w' := by
  by_cases hE : r = 65533
  · subst hE
    exact rune_err w
  have hE2 : (r == 65533) = false := by simpa using hE
  cases hV : Lib.validRune r with
  | false =>
    go_enter Tryd.func80, Tryd.ntmps80
    go_wp2_with (go_at_call 92; refine (Tryd.utf8_ValidRune _ _).mono ?_; rintro e w' ⟨rfl, hw⟩; rw [hw, hV]; clear hw w')
    go_ret
    exact ⟨rfl, Below.refl _ _⟩
  | true =>
    rcases encode_two r h0 with ⟨a, b, he, hb⟩ | ⟨a, b, c, he⟩ | ⟨a, b, c, d, he⟩
    · go_enter Tryd.func80, Tryd.ntmps80
      go_wp2_with (go_at_call 92; refine (Tryd.utf8_ValidRune _ _).mono ?_; rintro e w' ⟨rfl, hw⟩; rw [hw, hV]; clear hw w')
      have hne : ((((⟨#[32, 9]⟩ : ByteArray)[1]'(by decide : 1 < 2)).toNat : Int) != (((⟨#[a, b]⟩ : ByteArray)[1]'(by decide : 1 < 2)).toNat : Int)) = true := by
        show ((9 : Int) != (b.toNat : Int)) = true
        simp
        omega
      have hib : ∀ (c : Int) (w : World), Calls Tryd.prog 60 #[.string ⟨#[]⟩, .int .u8 c] w fun e w' => e = .returned (.int .i64 (-1)) ∧ w' = w := fun c w => Tryd.strings_IndexByte _ _ _
      go_step3
      go_wp2
      refine wp_loop_rounds 1 ?_
      rw [rounds_succ]
      go_wp2
      go_step3
      go_wp2
      go_quiet (fail)
      have hb1 : Below w.heap.size w (w.drewN nq) := ⟨rfl, rfl, rfl, Nat.le_refl _, fun _ _ => rfl⟩
      generalize w.drewN nq = w1 at hb1 ⊢
      go_wp2
      go_quiet ((go_at_call 60; exact Calls.quiet_of_same (hib _ _)))
      go_wp2
      rw [Exit.noGoto_ret]
      go_wp2
      rw [Exit.noGoto_ret]
      go_ret
      exact ⟨rfl, hb1.os, hb1.tape, hb1.output, hb1.size, hb1.block⟩
    · go_enter Tryd.func80, Tryd.ntmps80
      go_wp2_with (go_at_call 92; refine (Tryd.utf8_ValidRune _ _).mono ?_; rintro e w' ⟨rfl, hw⟩; rw [hw, hV]; clear hw w')
      go_step3
      go_wp2
      refine wp_loop_rounds 1 ?_
      rw [rounds_succ]
      go_wp2
      rw [Exit.noGoto_ret]
      go_ret
      exact ⟨rfl, Below.refl _ _⟩
    · go_enter Tryd.func80, Tryd.ntmps80
      go_wp2_with (go_at_call 92; refine (Tryd.utf8_ValidRune _ _).mono ?_; rintro e w' ⟨rfl, hw⟩; rw [hw, hV]; clear hw w')
      go_step3
      go_wp2
      refine wp_loop_rounds 1 ?_
      rw [rounds_succ]
      go_wp2
      rw [Exit.noGoto_ret]
      go_ret
      exact ⟨rfl, Below.refl _ _⟩
end Go.Proofs.YtdcpkeagkfchoaaDoor
