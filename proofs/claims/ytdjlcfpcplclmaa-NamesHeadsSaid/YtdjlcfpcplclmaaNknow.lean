/- knows, Own, Ref of layer 9, and NamesLooks' walk. -/
import Derived.Test.YtdjlcfpcplclmaaNbytes
import Derived.Test.YtdjlcfpcplclmaaNhash
import Derived.Deep.QuietTactic
import Derived.BigQuiet
namespace Go.Proofs.Ytdjlcfpcplclmaa
open Go.RowKit T9
set_option linter.unusedVariables false
attribute [local go_sem] byte_get
def dup : Hd := ⟨[68, 85, 80], 0, 0, 8, 0⟩
theorem dup_err : errN dup = 0 := by decide
theorem dup_out : outN dup = [0, 0, 0, 0, 8, 0, 0, 0, 0, 0, 0, 0, 0, 3, 68, 85, 80, 0, 0, 0] := by decide
theorem dup_len : lenN [68, 85, 80] = 20 := by decide
theorem a_hash : hashN [65] = 5 := by decide
set_option maxHeartbeats 1000000 in
theorem knows_any (w : World) : Calls Try.prog 7 #[] w (Yes w) := by
  have hB : ∀ w : World, Calls Try.prog 14 #[.agg #[.string ⟨#[68, 85, 80]⟩, .int .i64 0, .int .u32 0, .int .u32 8, .int .u32 0]] w fun e w' => ∃ A c, e = .returned (.tuple #[.slice (some A) 20 c, .int .i64 0]) ∧ w'.cell? ⟨A.block, A.off + 13, none⟩ = some (.int .u8 3) ∧ Below w.heap.size w w' := fun w => by
    refine (bytes_any dup w ⟨by decide, by decide, by decide⟩ (by decide)).mono ?_
    rintro e w' ⟨A, c, rfl, hh, hb⟩
    rw [dup_out] at hh ⊢
    obtain ⟨ad, rfl, hc⟩ := hh (by decide)
    refine ⟨ad, c, by rw [dup_err]; rfl, ?_, hb⟩
    have := hc 13 (.int .u8 3) rfl
    unfold Addr.add at this
    exact this
  have hH : ∀ w : World, Calls Try.prog 10 #[.string ⟨#[65]⟩] w fun e w' => e = .returned (.int .i64 5) ∧ w = w' := fun w => by
    have := hash_any [65] w (by decide)
    rw [a_hash] at this
    exact this
  have hL : ∀ w : World, Calls Try.prog 12 #[.string ⟨#[68, 85, 80]⟩] w fun e w' => e = .returned (.int .i64 20) ∧ w = w' := fun w => by
    have := length_any [68, 85, 80] w (by decide)
    rw [dup_len] at this
    exact this
  have hR : ∀ w : World, Calls Try.prog 8 #[.string ⟨#[68, 85, 80]⟩] w fun e w' => e = .returned (.bool true) ∧ w = w' := fun w => by
    have := right_any [68, 85, 80] w (by decide)
    rw [show rightB [68, 85, 80] = true by decide] at this
    exact this
  go_enter Try.func7, Try.ntmps7
  go_wp2_with (first
    | (go_at_call 14; refine (hB _).mono ?_; rintro e w1 ⟨A, c, rfl, hc, hb⟩)
    | (go_at_call 19; refine (num_any _ _ (by decide) (by decide)).mono ?_; rintro e w' ⟨rfl, rfl⟩)
    | (go_at_call 10; refine (hH _).mono ?_; rintro e w' ⟨rfl, rfl⟩)
    | (go_at_call 12; refine (hL _).mono ?_; rintro e w' ⟨rfl, rfl⟩)
    | (go_at_call 8; refine (hR _).mono ?_; rintro e w' ⟨rfl, rfl⟩))
  go_ret
  exact ⟨rfl, hb⟩
set_option maxHeartbeats 1000000 in
theorem looks_any (s : Str) (w : World) (hs : s.length ≤ maxLen) : Calls Try.prog 3 #[.string ⟨s.toArray⟩] w (Yes w) := by
  have hM := Lib.hid hs
  unfold maxLen at hs
  by_cases h : 2000 < s.length
  · go_enter Try.func3, Try.ntmps3
    go_wp2_with (go_at_call 7; refine (knows_any _).mono ?_; rintro e w1 ⟨rfl, hb⟩)
    go_ret
    exact ⟨rfl, hb⟩
  · go_enter Try.func3, Try.ntmps3
    go_wp2_with (first
      | (go_at_call 8; refine (right_any s _ hM.out).mono ?_; rintro e w' ⟨rfl, rfl⟩)
      | (go_at_call 9; refine (rright_any s _ hM.out).mono ?_; rintro e w' ⟨rfl, rfl⟩)
      | (go_at_call 10; refine (hash_any s _ hM.out).mono ?_; rintro e w' ⟨rfl, rfl⟩)
      | (go_at_call 11; refine (rhash_any s _ hM.out).mono ?_; rintro e w' ⟨rfl, rfl⟩)
      | (go_at_call 12; refine (length_any s _ hM.out).mono ?_; rintro e w' ⟨rfl, rfl⟩)
      | (go_at_call 13; refine (rlength_any s _ hM.out).mono ?_; rintro e w' ⟨rfl, rfl⟩)
      | (go_at_call 7; refine (knows_any _).mono ?_; rintro e w1 ⟨rfl, hb⟩))
    go_ret
    exact ⟨rfl, hb⟩
theorem own_any (h : Hd) (w : World) : Calls Try.prog 15 #[hv h] w fun e w' => e = .returned (hv h) ∧ Below w.heap.size w w' := by
  unfold hv
  go_enter Try.func15, Try.ntmps15
  go_wp2
  exact bodyPost_ret (v := .agg #[.string ⟨h.name.toArray⟩, .int .i64 h.flags, .int .u32 (h.link : Int), .int .u32 (h.xt : Int), .int .u32 (h.size : Int)]) (by simp [results, Try.results15, go_sem]) rfl ⟨rfl, ((Below.refl _ _).alloc (Nat.le_refl _) _).alloc (by simp) _⟩
theorem ref_any (h : Hd) (w : World) : Calls Try.prog 20 #[hv h] w fun e w' => e = .returned (hv h) ∧ Below w.heap.size w w' := by
  unfold hv
  go_enter Try.func20, Try.ntmps20
  go_wp2
  exact bodyPost_ret (v := .agg #[.string ⟨h.name.toArray⟩, .int .i64 h.flags, .int .u32 (h.link : Int), .int .u32 (h.xt : Int), .int .u32 (h.size : Int)]) (by simp [results, Try.results20, go_sem]) rfl ⟨rfl, ((Below.refl _ _).alloc (Nat.le_refl _) _).alloc (by simp) _⟩
end Go.Proofs.Ytdjlcfpcplclmaa
