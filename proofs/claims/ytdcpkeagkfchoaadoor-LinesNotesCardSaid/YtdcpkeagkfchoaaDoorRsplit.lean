/- The document's answer: the lines of a text. -/
import Derived.Test.YtdcpkeagkfchoaaDoorHeld
import Derived.Test.YtdcpkeagkfchoaaDoorRefn
namespace Go.Proofs.YtdcpkeagkfchoaaDoor
open Go.RowKit T6
set_option linter.unusedVariables false
section
attribute [local go_sem] ext_to ext_from ext_all byte_at
/-- What a call that makes a row of texts tells. -/
def StrsTold (xs : List Str) (w : World) (e : Ending) (w' : World) : Prop := ∃ v, e = .returned v ∧ StrsAt w' v xs ∧ Below w.heap.size w w'
theorem split_hit (s : Str) (f k : Nat) (hf : f ≤ k) (hk : k < s.length) (h10 : s[k] = 10) (hno : ∀ b ∈ (s.drop f).take (k - f), b ≠ 10) : splitL (s.drop f) = (s.take k).drop f :: splitL (s.drop (k + 1)) := by
  have e1 : s.drop f = (s.drop f).take (k - f) ++ 10 :: s.drop (k + 1) := by
    have h2 : (s.drop f).drop (k - f) = 10 :: s.drop (k + 1) := by
      rw [List.drop_drop, show f + (k - f) = k by omega, List.drop_eq_getElem_cons hk, h10]
    rw [← h2, List.take_append_drop]
  rw [e1, splitL_line _ _ hno, List.drop_take]
theorem no10_succ (s : Str) (f k : Nat) (hf : f ≤ k) (hk : k < s.length) (h10 : s[k] ≠ 10) (hno : ∀ b ∈ (s.drop f).take (k - f), b ≠ 10) : ∀ b ∈ (s.drop f).take (k + 1 - f), b ≠ 10 := by
  have hd : k - f < (s.drop f).length := by rw [List.length_drop]; omega
  rw [show k + 1 - f = (k - f) + 1 by omega, List.take_succ_eq_append_getElem hd]
  intro b hb
  rcases List.mem_append.1 hb with h | h
  · exact hno b h
  · have : (s.drop f)[k - f] = s[k] := by rw [List.getElem_drop]; congr 1; omega
    rw [this] at h
    obtain rfl : b = s[k] := by simpa using h
    exact h10
set_option maxRecDepth 100000 in
set_option maxHeartbeats 2000000 in
theorem rsplit_any (s : Str) (hs : s.length ≤ 1000000) (w : World) : Calls Tryd.prog 28 #[.string ⟨s.toArray⟩] w (StrsTold (splitL s) w) := by
  obtain ⟨i0, hi, hz0, hz1, hz2⟩ := info_parts info_s
  have hsl := splitL_length s
  go_enter Tryd.func28, Tryd.ntmps28
  go_wp2
  go_loopw [3, 4, 5] (fun v fr i wr => ∃ (k f : Nat) (out : List Str) (A : Option Addr) (K : Nat), f ≤ k ∧ k ≤ s.length ∧ i = .int .i64 k ∧ fr = .int .i64 f ∧ v = .slice A out.length K ∧ wr.ownsRow w.heap.size 9 1 (.slice A out.length K) out.length (sv out) ∧ splitL s = out ++ splitL (s.drop f) ∧ (∀ b ∈ (s.drop f).take (k - f), b ≠ 10) ∧ Below w.heap.size w wr) (fun _ _ i _ => s.length - (intOf i).toNat)
  case atStart => exact ⟨0, 0, [], none, 0, Nat.le_refl _, Nat.zero_le _, rfl, rfl, rfl, World.ownsRow_nil _ _ _ _, rfl, by simp, Below.refl _ _⟩
  case round =>
    obtain ⟨k, f, out, A, K, hfk, hk, rfl, rfl, rfl, hown0, hx, hno, hbel⟩ := hrel
    have hol : out.length ≤ 1000000 := by
      have := congrArg List.length hx
      rw [List.length_append] at this
      omega
    have HX := Lib.hid hx
    have HNO := Lib.hid hno
    have HSL := Lib.hid hsl
    clear hx hno hsl
    have hbw := hbel.size
    by_cases hlt : k < s.length
    · by_cases h10 : s[k] = 10
      · have ht : (((s[k]'hlt).toNat : Int) == 10) = true := by rw [h10]; rfl
        have HH := Lib.hid (split_hit s f k hfk hlt h10 HNO.out)
        clear h10
        go_wp2_with (refine wpList_append_lies _ rfl (.tmp 16) (.tmp 21) _ rfl w.heap.size 9 i0 _ 1 16 Tryd.underlying41 hi hz0 hz1 hz2 rfl (by decide) (.slice A out.length K) out.length (sv out) rfl (hown0.alloc _) ⟨wr.heap.size, 0, none⟩ 1 1 [.string ⟨((s.take k).drop f).toArray⟩] rfl rfl (fun j u hu => by rw [addr_add, Nat.zero_add]; exact ((Blok.made wr _ [.string ⟨((s.take k).drop f).toArray⟩]).at_ j).trans hu) (fun u hu => by simp at hu; subst hu; rfl) (by decide) (by unfold maxLen; omega) (by omega) (by simp; omega) _ rfl ?_; intro g2 cap w2 hown hgrow hat hlt2)
        go_roundw
        case rel =>
          refine ⟨k + 1, k + 1, out ++ [(s.take k).drop f], some ⟨g2, 0, none⟩, cap, Nat.le_refl _, by omega, by go_num, by go_num, by rw [List.length_append]; rfl, by rw [sv_snoc, List.length_append]; exact hown, by rw [HX.out, HH.out]; simp, by simp, (hbel.alloc hbw _).grown hgrow (by simp; omega) (fun q hq => (hown0.lt q hq).1)⟩
        case measure => simp [intOf]; omega
      · have ht : (((s[k]'hlt).toNat : Int) == 10) = false := eq_f (n := 10) h10
        have HH := Lib.hid (no10_succ s f k hfk hlt h10 HNO.out)
        clear h10
        go_wp2
        go_roundw
        case rel => exact ⟨k + 1, f, out, A, K, by omega, by omega, by go_num, rfl, rfl, hown0, HX.out, HH.out, hbel⟩
        case measure => simp [intOf]; omega
    · have hkk : k = s.length := by omega
      by_cases hf : f < s.length
      · have hend : splitL (s.drop f) = [s.drop f] := splitL_none _ (by have := HNO.out; rw [hkk] at this; rwa [List.take_of_length_le (by rw [List.length_drop]; omega)] at this) (by simp; omega)
        have HE := Lib.hid hend
        clear hend hkk
        go_wp2_with (refine wpList_append_lies _ rfl (.tmp 29) (.tmp 33) _ rfl w.heap.size 9 i0 _ 1 16 Tryd.underlying41 hi hz0 hz1 hz2 rfl (by decide) (.slice A out.length K) out.length (sv out) rfl (hown0.alloc _) ⟨wr.heap.size, 0, none⟩ 1 1 [.string ⟨(s.drop f).toArray⟩] rfl rfl (fun j u hu => by rw [addr_add, Nat.zero_add]; exact ((Blok.made wr _ [.string ⟨(s.drop f).toArray⟩]).at_ j).trans hu) (fun u hu => by simp at hu; subst hu; rfl) (by decide) (by unfold maxLen; omega) (by omega) (by simp; omega) _ rfl ?_; intro g2 cap w2 hown hgrow hat hlt2)
        go_ret
        refine ⟨_, rfl, ?_, (hbel.alloc hbw _).grown hgrow (by simp; omega) (fun q hq => (hown0.lt q hq).1)⟩
        rw [HX.out, HE.out]
        refine strs_of_row (B := w.heap.size) ?_
        rw [sv_snoc, List.length_append]
        exact hown
      · have hend : splitL (s.drop f) = [] := by rw [List.drop_eq_nil_of_le (by omega)]; rfl
        have HE := Lib.hid hend
        clear hend hkk
        go_wp2
        go_ret
        refine ⟨_, rfl, ?_, hbel⟩
        rw [HX.out, HE.out, List.append_nil]
        exact strs_of_row hown0
end
end Go.Proofs.YtdcpkeagkfchoaaDoor
