/- LinesParses. -/
import Derived.Test.YtdcpkeagkfchoaaDoorRref
namespace Go.Proofs.YtdcpkeagkfchoaaDoor
open Go.RowKit T6
set_option linter.unusedVariables false
theorem lineT_len {t : Str} (h : errOf t = 0) : (lineT t).labels.length ≤ 1000000 ∧ (lineT t).args.length ≤ 1000000 := by
  have h256 : t.length ≤ 256 := by
    rcases Nat.lt_or_ge 256 t.length with h2 | h2
    · rw [errOf_long h2] at h
      cases h
    · exact h2
  have h1 := lineOf_len ((toks t).map (·.1))
  have h2 := toks_len t
  rw [List.length_map] at h1
  unfold lineT
  omega
theorem errOf_le (t : Str) : errOf t ≤ 40 := by
  unfold errOf
  split
  · decide
  · split <;> decide
theorem parseL_all (ts : List Str) : ∀ k acc, (parseL k acc ts).2.2 ≤ 40 ∧ ((parseL k acc ts).1 = [] ∨ ((∀ t ∈ ts, errOf t = 0) ∧ (parseL k acc ts).1 = acc ++ ts.map lineT)) := by
  induction ts with
  | nil => intro k acc; exact ⟨Nat.zero_le _, .inr ⟨by simp, by simp [parseL]⟩⟩
  | cons t ts ih =>
    intro k acc
    rw [parseL]
    split
    · rename_i h0
      obtain ⟨h1, h2⟩ := ih (k + 1) (acc ++ [lineT t])
      refine ⟨h1, ?_⟩
      rcases h2 with h2 | ⟨h2, h3⟩
      · exact .inl h2
      · refine .inr ⟨fun x hx => ?_, by rw [h3]; simp⟩
        rcases List.mem_cons.1 hx with rfl | h
        · exact h0
        · exact h2 x h
    · exact ⟨errOf_le t, .inl rfl⟩
theorem parseL_lines (ts : List Str) : (parseL 0 [] ts).1.length ≤ ts.length ∧ ∀ d ∈ (parseL 0 [] ts).1, d.labels.length ≤ 1000000 ∧ d.args.length ≤ 1000000 := by
  rcases (parseL_all ts 0 []).2 with h | ⟨h1, h2⟩
  · rw [h]
    simp
  · rw [h2]
    refine ⟨by simp, fun d hd => ?_⟩
    simp only [List.nil_append, List.mem_map] at hd
    obtain ⟨t, ht, rfl⟩ := hd
    exact lineT_len (h1 t ht)
set_option maxRecDepth 100000 in
set_option maxHeartbeats 2000000 in
/-- LinesParses: every text. -/
theorem linesParses_any (s : Str) (w : World) : Calls Tryd.prog 3 #[.string ⟨s.toArray⟩] w (Yes w) := by
  by_cases hs : 4000 < s.length
  · have h4 : ((4000 : Int) < (s.length : Int)) = True := by simp; omega
    clear hs
    go_enter Tryd.func3, Tryd.ntmps3
    go_wp2_with (go_at_call 8; refine (knows_any _).mono ?_; rintro e w1 ⟨rfl, hb1⟩)
    go_ret
    exact ⟨rfl, hb1⟩
  · have h4 : ((4000 : Int) < (s.length : Int)) = False := by simp; omega
    have hsl := splitL_length s
    have hp1 := parse_any s (by omega) (by omega)
    have hp2 := rparse_any s (by omega) (by omega)
    obtain ⟨hn, hl⟩ := parseL_lines (splitL s)
    have he := (parseL_all (splitL s) 0 []).1
    generalize parseL 0 [] (splitL s) = R at *
    obtain ⟨ds, n, e0⟩ := R
    simp only at hp1 hp2 hn hl he
    have hRef := fun v w h => Ref_any v ds (by omega) hl w h
    have hSame := fun v1 v2 w h1 h2 => Same_any v1 v2 ds (by omega) hl w h1 h2
    have hnum := fun w => num_any ((e0 : Nat) : Int) w (by omega) (by omega)
    obtain ⟨E, hE⟩ : ∃ E : Int, ((e0 : Nat) : Int) = E := ⟨_, rfl⟩
    obtain ⟨M, hM⟩ : ∃ M : Int, ((n : Nat) : Int) = M := ⟨_, rfl⟩
    unfold ParsedAs at hp1 hp2
    rw [hE] at hp1 hp2 hnum
    rw [hM] at hp1 hp2
    clear hs hsl hn hl he hE hM
    go_enter Tryd.func3, Tryd.ntmps3
    go_wp2_with (first
      | (go_at_call 8; refine (knows_any _).mono ?_; rintro e w5 ⟨rfl, hb5⟩)
      | (go_at_call 9; refine (hp1 _).mono ?_; rintro e w1 ⟨v1, rfl, hL1, hb1⟩)
      | (go_at_call 10; refine (hp2 _).mono ?_; rintro e w2 ⟨v2, rfl, hL2, hb2⟩)
      | (go_at_call 12; refine (hRef _ _ (hL1.below hb2)).mono ?_; rintro e w3 ⟨v3, rfl, hL3, hb3⟩)
      | (go_at_call 11; refine (hSame _ _ _ hL3 (hL2.below hb3)).mono ?_; rintro e w4 ⟨rfl, m4, rfl⟩)
      | (go_at_call 13; refine (hnum _).mono ?_; rintro e w6 ⟨rfl, rfl⟩))
    go_ret
    exact ⟨rfl, below3 hb1 (below3 hb2 (below3 (below_drewN hb3 _) hb5))⟩
end Go.Proofs.YtdcpkeagkfchoaaDoor
