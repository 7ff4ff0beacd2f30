/- LinesBack. -/
import Derived.Test.YtdcpkeagkfchoaaDoorLprints
import Derived.Test.YtdcpkeagkfchoaaDoorBmath
import Derived.Test.YtdcpkeagkfchoaaDoorParses
namespace Go.Proofs.YtdcpkeagkfchoaaDoor
open Go.RowKit T6
set_option linter.unusedVariables false
theorem printR_all {ds : List LineD} (h : ds.all rightB = true) : printR ds = (printT ds, 0) := by unfold printR; rw [if_pos h]
theorem printR_not {ds : List LineD} (h : ¬ ds.all rightB = true) : printR ds = ([], 1) := by unfold printR; rw [if_neg h]
theorem cast_0 : ((0 : Nat) : Int) = 0 := rfl
theorem cast_1 : ((1 : Nat) : Int) = 1 := rfl
theorem cast_6 : ((6 : Nat) : Int) = 6 := rfl
set_option maxRecDepth 100000 in
set_option maxHeartbeats 4000000 in
theorem linesBack_any (v : Value) (ds : List LineD) (hr : InReach ds) (w : World) (h : LinesAt w v ds) : Calls Tryd.prog 6 #[v] w (Yes w) := by
  have hli := light_any v ds hr w h
  by_cases hT : totN ds ≤ 3000
  · obtain ⟨hn, hsh, hpt⟩ := light_gives hT
    rw [decide_eq_true hT] at hli
    have hla : ∀ d ∈ ds, d.labels.length ≤ 1000000 ∧ d.args.length ≤ 1000000 := fun d hd => ⟨(hsh d hd).1.1, (hsh d hd).2.2.1⟩
    have hown := fun w' (hb : Below w.heap.size w w') => Own_any v ds (by omega) hla w' (h.below hb)
    have hpr := fun v1 w' (h1 : LinesAt w' v1 ds) => print_any v1 ds (by omega) (fun k => by have := hpt k; omega) hsh w' h1
    have hlen := hpt ds.length
    rw [List.take_length] at hlen
    by_cases hg : ds.all rightB = true
    · have hgd : ∀ d ∈ ds, rightB d = true := List.all_eq_true.1 hg
      rw [printR_all hg] at hpr
      have hpa := parse_any (printT ds) (by omega) (by rw [splitL_print ds hgd]; simp; omega)
      have hnum0 := fun w => num_any 0 w (by decide) (by decide)
      have hnum6 := fun w => num_any 6 w (by decide) (by decide)
      rcases parse_print ds hgd with e | ⟨n, n0, n1, e⟩
      · rw [e] at hpa
        have hRef := fun v' w' h' => Ref_any v' ds (by omega) hla w' h'
        have hSame := fun v1 w' (hb : Below w.heap.size w w') h1 => Same_any v1 v ds (by omega) hla w' h1 (h.below hb)
        generalize printT ds = t at *
        unfold ParsedAs at hpa
        simp only [cast_0] at hpa hpr
        clear hr hT hn hsh hpt hla hlen hg hgd e
        go_enter Tryd.func6, Tryd.ntmps6
        go_wp2_with (first
          | (go_at_call 14; refine hli.mono ?_; rintro e w1 ⟨rfl, q1, rfl⟩; have b1 := below_drewN (Below.refl w.heap.size w) q1)
          | (go_at_call 16; refine (hown _ b1).mono ?_; rintro e w2 ⟨v2, rfl, hL2, hb2⟩; have b2 := below3 b1 hb2)
          | (go_at_call 15; refine (hpr _ _ hL2).mono ?_; rintro e w3 ⟨rfl, hb3⟩; have b3 := below3 b2 hb3)
          | (go_at_call 9; refine (hpa _).mono ?_; rintro e w4 ⟨v4, rfl, hL4, hb4⟩; have b4 := below3 b3 hb4)
          | (go_at_call 12; refine (hRef _ _ hL4).mono ?_; rintro e w5 ⟨v5, rfl, hL5, hb5⟩; have b5 := below3 b4 hb5)
          | (go_at_call 11; refine (hSame _ _ b5 hL5).mono ?_; rintro e w6 ⟨rfl, m6, rfl⟩; have b6 := below_drewN b5 m6)
          | (go_at_call 8; refine (knows_any _).mono ?_; rintro e w7 ⟨rfl, hb7⟩; have b7 := below3 b6 hb7)
          | (go_at_call 13; refine (hnum0 _).mono ?_; rintro e w8 ⟨rfl, rfl⟩))
        go_ret
        exact ⟨rfl, b7⟩
      · rw [e] at hpa
        generalize printT ds = t at *
        unfold ParsedAs at hpa
        simp only [cast_0, cast_6] at hpa hpr
        have hn0 : ((0 : Int) < (n : Int)) = True := by simp; omega
        have hn1 : (n : Int) < 100000 := by omega
        obtain ⟨M, hM⟩ : ∃ M : Int, ((n : Nat) : Int) = M := ⟨_, rfl⟩
        rw [hM] at hpa hn0 hn1
        clear hr hT hn hsh hpt hla hlen hg hgd e n0 n1 hM
        go_enter Tryd.func6, Tryd.ntmps6
        go_wp2_with (first
          | (go_at_call 14; refine hli.mono ?_; rintro e w1 ⟨rfl, q1, rfl⟩; have b1 := below_drewN (Below.refl w.heap.size w) q1)
          | (go_at_call 16; refine (hown _ b1).mono ?_; rintro e w2 ⟨v2, rfl, hL2, hb2⟩; have b2 := below3 b1 hb2)
          | (go_at_call 15; refine (hpr _ _ hL2).mono ?_; rintro e w3 ⟨rfl, hb3⟩; have b3 := below3 b2 hb3)
          | (go_at_call 9; refine (hpa _).mono ?_; rintro e w4 ⟨v4, rfl, hL4, hb4⟩; have b4 := below3 b3 hb4)
          | (go_at_call 8; refine (knows_any _).mono ?_; rintro e w7 ⟨rfl, hb7⟩; have b7 := below3 b4 hb7)
          | (go_at_call 13; (first | refine (hnum0 _).mono ?_ | refine (hnum6 _).mono ?_); rintro e w8 ⟨rfl, rfl⟩))
        go_ret
        exact ⟨rfl, b7⟩
    · rw [printR_not hg] at hpr
      have hnum1 := fun w => num_any 1 w (by decide) (by decide)
      simp only [cast_1] at hpr
      clear hr hT hn hsh hpt hla hlen hg
      go_enter Tryd.func6, Tryd.ntmps6
      go_wp2_with (first
        | (go_at_call 14; refine hli.mono ?_; rintro e w1 ⟨rfl, q1, rfl⟩; have b1 := below_drewN (Below.refl w.heap.size w) q1)
        | (go_at_call 16; refine (hown _ b1).mono ?_; rintro e w2 ⟨v2, rfl, hL2, hb2⟩; have b2 := below3 b1 hb2)
        | (go_at_call 15; refine (hpr _ _ hL2).mono ?_; rintro e w3 ⟨rfl, hb3⟩; have b3 := below3 b2 hb3)
        | (go_at_call 8; refine (knows_any _).mono ?_; rintro e w7 ⟨rfl, hb7⟩; have b7 := below3 b3 hb7)
        | (go_at_call 13; refine (hnum1 _).mono ?_; rintro e w8 ⟨rfl, rfl⟩))
      go_ret
      exact ⟨rfl, b7⟩
  · rw [decide_eq_false hT] at hli
    clear hT h
    go_enter Tryd.func6, Tryd.ntmps6
    go_wp2_with (first
      | (go_at_call 14; refine hli.mono ?_; rintro e w1 ⟨rfl, q1, rfl⟩)
      | (go_at_call 8; refine (knows_any _).mono ?_; rintro e w5 ⟨rfl, hb5⟩))
    go_ret
    exact ⟨rfl, below3 (below_drewN (Below.refl _ w) q1) hb5⟩
end Go.Proofs.YtdcpkeagkfchoaaDoor
