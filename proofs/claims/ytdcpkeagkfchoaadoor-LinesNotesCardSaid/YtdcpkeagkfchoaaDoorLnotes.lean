/- LinesNotes. -/
import Derived.Test.YtdcpkeagkfchoaaDoorLback
namespace Go.Proofs.YtdcpkeagkfchoaaDoor
open Go.RowKit T6
set_option linter.unusedVariables false
section
attribute [local go_sem] ext_to ext_from ext_all byte_at cat_str
/-- What is parsed: the lines, or the number of one that is too long. -/
def OneOf (s : Str) (ds : List LineD) : Prop := (∀ w, Calls Tryd.prog 9 #[.string ⟨s.toArray⟩] w (ParsedAs ds 0 0 w)) ∨ ∃ n : Nat, ∀ w, Calls Tryd.prog 9 #[.string ⟨s.toArray⟩] w (ParsedAs [] n 6 w)
theorem oneOf_print (ds : List LineD) (hn : ds.length ≤ 750) (hlen : (printT ds).length ≤ 6000) (h : ∀ d ∈ ds, rightB d = true) : OneOf (printT ds) ds := by
  have hpa := parse_any (printT ds) (by omega) (by rw [splitL_print ds h]; simp; omega)
  rcases parse_print ds h with e | ⟨n, n0, n1, e⟩
  · rw [e] at hpa
    exact .inl hpa
  · rw [e] at hpa
    exact .inr ⟨n, hpa⟩
theorem oneOf_dress (note : Str) (hnl : note.length ≤ 20) (hno : ∀ b ∈ note, b ≠ 10) (ds : List LineD) (hn : ds.length ≤ 750) (hlen : (printT ds).length ≤ 6000) (h : ∀ d ∈ ds, rightB d = true) : OneOf (dressF note true (printT ds)) ds := by
  have hl := dressF_len note (printT ds) true
  have hl2 : (printT ds).length * (note.length + 8) ≤ 6000 * 28 := Nat.mul_le_mul hlen (by omega)
  rw [dressF_print note ds h] at hl ⊢
  have hpa := parse_any (dressT note ds) (by omega) (by rw [splitL_dress note hno ds h]; simp; omega)
  rcases parse_dress note hno ds h with e | ⟨n, n0, n1, e⟩
  · rw [e] at hpa
    exact .inl hpa
  · rw [e] at hpa
    exact .inr ⟨n, hpa⟩
theorem stAt_hit {s : Str} {m : Nat} (hm : m < s.length) (h : s[m] = 10) : stAt s (m + 1) = true := by simp [stAt, List.getElem?_eq_getElem hm, h]
theorem stAt_not {s : Str} {m : Nat} (hm : m < s.length) (h : s[m] ≠ 10) : stAt s (m + 1) = false := by simp [stAt, List.getElem?_eq_getElem hm, h]
theorem piece_10 (note : Str) (st : Bool) {b : UInt8} (h : b = 10) : pieceN note st b = [32, 9, 47, 47, 32] ++ note ++ (if st then [9, 32] else []) ++ [b] := by
  unfold pieceN tailN
  rw [if_pos h]
theorem piece_no (note : Str) (st : Bool) {b : UInt8} (h : b ≠ 10) : pieceN note st b = (if st then [9, 32] else []) ++ [b] := by
  unfold pieceN
  rw [if_neg h, List.nil_append]
set_option maxRecDepth 100000 in
set_option maxHeartbeats 12000000 in
theorem linesNotes_any (v : Value) (ds : List LineD) (hr : InReach ds) (note : Str) (w : World) (h : LinesAt w v ds) : Calls Tryd.prog 7 #[v, .string ⟨note.toArray⟩] w (Yes w) := by
  have hli := light_any v ds hr w h
  by_cases hT : totN ds ≤ 3000
  · obtain ⟨hn, hsh, hpt⟩ := light_gives hT
    rw [decide_eq_true hT] at hli
    by_cases hnl : note.length ≤ 20
    · have hla : ∀ d ∈ ds, d.labels.length ≤ 1000000 ∧ d.args.length ≤ 1000000 := fun d hd => ⟨(hsh d hd).1.1, (hsh d hd).2.2.1⟩
      have hown := fun w' (hb : Below w.heap.size w w') => Own_any v ds (by omega) hla w' (h.below hb)
      have hpr := fun v1 w' (h1 : LinesAt w' v1 ds) => print_any v1 ds (by omega) (fun k => by have := hpt k; omega) hsh w' h1
      have hlen := hpt ds.length
      rw [List.take_length] at hlen
      have hc : ((20 : Int) < (note.length : Int)) = False := by simp; omega
      have hRef := fun v' w' h' => Ref_any v' ds (by omega) hla w' h'
      have hSame := fun v1 v2 w' h1 h2 => Same_any v1 v2 ds (by omega) hla w' h1 h2
      have hnumz := fun (z : Int) (hz : z = 0 ∨ z = 1 ∨ z = 6) w => num_any z w (by omega) (by omega)
      have hone1 := oneOf_print ds hn hlen
      have hone2' := fun hno => oneOf_dress note hnl hno ds hn hlen
      have hpg : ds.all rightB = true → printR ds = (printT ds, 0) := printR_all
      have hpb : ¬ ds.all rightB = true → printR ds = ([], 1) := printR_not
      generalize printR ds = R at *
      generalize printT ds = S at *
      have HN := Lib.hid hn
      clear hr hT hn hsh hpt hla
      go_enter Tryd.func7, Tryd.ntmps7
      go_wp2_with (first
        | (go_at_call 14; refine hli.mono ?_; rintro e w1 ⟨rfl, q1, rfl⟩; have b1 := below_drewN (Below.refl w.heap.size w) q1))
      go_loopw [5] (fun i wr => ∃ k : Nat, k ≤ note.length ∧ i = .int .i64 k ∧ (∀ b ∈ note.take k, b ≠ 10) ∧ Below w.heap.size w wr) (fun i _ => note.length - (intOf i).toNat)
      case atStart => exact ⟨0, Nat.zero_le _, rfl, by simp, b1⟩
      case round =>
        clear b1
        obtain ⟨k, hk, rfl, hno, hbel⟩ := hrel
        by_cases hlt : k < note.length
        · by_cases h10 : note[k] = 10
          · have ht : (((note[k]'hlt).toNat : Int) == 10) = true := by rw [h10]; rfl
            clear h10
            go_wp2_with (go_at_call 8; refine (knows_any _).mono ?_; rintro e w5 ⟨rfl, hb5⟩)
            go_ret
            exact ⟨rfl, below3 hbel hb5⟩
          · have ht : (((note[k]'hlt).toNat : Int) == 10) = false := eq_f (n := 10) h10
            have HH : Hid (∀ b ∈ note.take (k + 1), b ≠ 10) := by
              rw [List.take_succ_eq_append_getElem hlt]
              intro b hb
              rcases List.mem_append.1 hb with hb | hb
              · exact hno b hb
              · obtain rfl := List.mem_singleton.1 hb
                exact h10
            clear h10 hno
            go_wp2
            go_roundw
            case rel => exact ⟨k + 1, by omega, by go_num, HH.out, hbel⟩
            case measure => simp [intOf]; omega
        · have hno2 : ∀ b ∈ note, b ≠ 10 := by rwa [List.take_of_length_le (by omega)] at hno
          have hone2 := hone2' hno2
          clear hno hno2
          by_cases hg : ds.all rightB = true
          · obtain rfl := hpg hg
            have hgd : ∀ d ∈ ds, rightB d = true := List.all_eq_true.1 hg
            have O1 := Lib.hid (hone1 hgd)
            have O2 := Lib.hid (hone2 hgd)
            simp only [cast_0] at hpr
            clear hpg hpb hg hgd hk
            go_wp2_with (first
              | (go_at_call 16; refine (hown _ hbel).mono ?_; rintro e w2 ⟨v2, rfl, hL2, hb2⟩; have b2 := below3 hbel hb2)
              | (go_at_call 15; refine (hpr _ _ hL2).mono ?_; rintro e w3 ⟨rfl, hb3⟩; have b3 := below3 b2 hb3)
              | (go_at_call 13; refine (hnumz _ (.inl rfl) _).mono ?_; rintro e w8 ⟨rfl, rfl⟩))
            clear hL2 hb2 b2 hb3 hone1 hone2 hone2'
            go_loopw [8, 9] (fun t i wr => ∃ k : Nat, k ≤ S.length ∧ i = .int .i64 k ∧ t = .string ⟨(dressF note true (S.take k)).toArray⟩ ∧ Below w.heap.size w wr) (fun _ i _ => S.length - (intOf i).toNat)
            case atStart => exact ⟨0, Nat.zero_le _, rfl, rfl, b3⟩
            case round =>
              clear b3 hbel hlt
              obtain ⟨k, hk, rfl, rfl, hbel⟩ := hrel
              by_cases hlt : k < S.length
              · have hst := dressF_step note S k hlt
                have hdl := dressF_len note (S.take k) true
                have hdl2 : (S.take k).length * (note.length + 8) ≤ 6000 * 28 := Nat.mul_le_mul (by rw [List.length_take]; omega) (by omega)
                have hone : (S.take (k + 1)).drop k = [S[k]] := by
                  rw [List.take_succ_eq_append_getElem hlt, List.drop_append, List.drop_of_length_le (by rw [List.length_take]; omega), List.length_take, Nat.min_eq_left (by omega), Nat.sub_self]
                  rfl
                obtain ⟨T, hT⟩ : ∃ T : Str, dressF note true (S.take k) = T := ⟨_, rfl⟩
                rw [hT] at hst hdl ⊢
                have HST := Lib.hid hst
                have hTl : T.length ≤ 168000 := by omega
                clear hT hst hdl hdl2
                by_cases h10 : S[k] = 10
                case' pos =>
                  have ht : (((S[k]'hlt).toNat : Int) == 10) = true := by rw [h10]; rfl
                  have HP : Hid (pieceN note (stAt S k) S[k] = [32, 9, 47, 47, 32] ++ note ++ (if stAt S k then [9, 32] else []) ++ [S[k]]) := piece_10 _ _ h10
                case' neg =>
                  have ht : (((S[k]'hlt).toNat : Int) == 10) = false := eq_f (n := 10) h10
                  have HP : Hid (pieceN note (stAt S k) S[k] = (if stAt S k then [9, 32] else []) ++ [S[k]]) := piece_no _ _ h10
                all_goals
                  clear h10
                  rcases Nat.eq_zero_or_pos k with h0 | h0
                  · subst h0
                    have HZ : Hid (stAt S 0 = true) := rfl
                    go_wp2
                    go_roundw
                    case rel => exact ⟨1, by omega, rfl, by rw [HST.out, HP.out, HZ.out]; simp, hbel⟩
                    case measure => simp [intOf]; omega
                  · obtain ⟨m, rfl⟩ : ∃ m, k = m + 1 := ⟨k - 1, by omega⟩
                    clear h0
                    have hml : m < S.length := by omega
                    by_cases hm : S[m] = 10
                    · have ht2 : (((S[m]'hml).toNat : Int) == 10) = true := by rw [hm]; rfl
                      have HZ : Hid (stAt S (m + 1) = true) := stAt_hit hml hm
                      clear hm
                      go_wp2
                      go_roundw
                      case rel => exact ⟨m + 1 + 1, by omega, by go_num, by rw [HST.out, HP.out, HZ.out]; simp, hbel⟩
                      case measure => simp [intOf]; omega
                    · have ht2 : (((S[m]'hml).toNat : Int) == 10) = false := eq_f (n := 10) hm
                      have HZ : Hid (stAt S (m + 1) = false) := stAt_not hml hm
                      clear hm
                      go_wp2
                      go_roundw
                      case rel => exact ⟨m + 1 + 1, by omega, by go_num, by rw [HST.out, HP.out, HZ.out]; simp, hbel⟩
                      case measure => simp [intOf]; omega
              · have hkk : S.take k = S := List.take_of_length_le (by omega)
                have o1 := O1.out
                have o2 := O2.out
                rw [hkk]
                obtain ⟨D, hD⟩ : ∃ D : Str, dressF note true S = D := ⟨_, rfl⟩
                rw [hD] at o2 ⊢
                clear hkk hD O1 O2
                rcases o1 with p1 | ⟨n1, p1⟩ <;> rcases o2 with p2 | ⟨n2, p2⟩
                all_goals
                  unfold ParsedAs at p1 p2
                  simp only [cast_0, cast_6] at p1
                  simp only [cast_0, cast_6] at p2
                  go_wp2_with (first
                    | (go_at_call 9; refine (p1 _).mono ?_; rintro e w5 ⟨v5, rfl, hL5, hb5⟩; have b5 := below3 hbel hb5; clear p1)
                    | (go_at_call 9; refine (p2 _).mono ?_; rintro e w6 ⟨v6, rfl, hL6, hb6⟩; have b6 := below3 b5 hb6)
                    | (go_at_call 12; refine (hRef v5 _ (hL5.below hb6)).mono ?_; rintro e w7 ⟨v7, rfl, hL7, hb7⟩; have b7 := below3 b6 hb7; clear hL5)
                    | (go_at_call 12; refine (hRef v6 _ (hL6.below hb7)).mono ?_; rintro e w8 ⟨v8, rfl, hL8, hb8⟩; have b8 := below3 b7 hb8)
                    | (go_at_call 11; refine (hSame _ _ _ (hL7.below hb8) hL8).mono ?_; rintro e w9 ⟨rfl, m9, rfl⟩; have b9 := below_drewN b8 m9)
                    | (go_at_call 8; refine (knows_any _).mono ?_; rintro e w10 ⟨rfl, hb10⟩; have b10 := (by first | exact below3 b9 hb10 | exact below3 b6 hb10))
                    | (go_at_call 13; refine (hnumz _ (by first | exact .inl rfl | exact .inr (.inr rfl)) _).mono ?_; rintro e w11 ⟨rfl, rfl⟩))
                  go_ret
                  first | exact ⟨rfl, below3 b9 hb10⟩ | exact ⟨rfl, below3 b6 hb10⟩
          · obtain rfl := hpb hg
            simp only [cast_1] at hpr
            clear hpg hpb hg hk
            go_wp2_with (first
              | (go_at_call 16; refine (hown _ hbel).mono ?_; rintro e w2 ⟨v2, rfl, hL2, hb2⟩; have b2 := below3 hbel hb2)
              | (go_at_call 15; refine (hpr _ _ hL2).mono ?_; rintro e w3 ⟨rfl, hb3⟩; have b3 := below3 b2 hb3)
              | (go_at_call 8; refine (knows_any _).mono ?_; rintro e w7 ⟨rfl, hb7⟩; have b7 := below3 b3 hb7)
              | (go_at_call 13; refine (hnumz _ (.inr (.inl rfl)) _).mono ?_; rintro e w8 ⟨rfl, rfl⟩))
            go_ret
            exact ⟨rfl, b7⟩
    · have hc : ((20 : Int) < (note.length : Int)) = True := by simp; omega
      clear hnl h
      go_enter Tryd.func7, Tryd.ntmps7
      go_wp2_with (first
        | (go_at_call 14; refine hli.mono ?_; rintro e w1 ⟨rfl, q1, rfl⟩)
        | (go_at_call 8; refine (knows_any _).mono ?_; rintro e w5 ⟨rfl, hb5⟩))
      go_ret
      exact ⟨rfl, below3 (below_drewN (Below.refl _ w) q1) hb5⟩
  · rw [decide_eq_false hT] at hli
    clear hT h
    go_enter Tryd.func7, Tryd.ntmps7
    go_wp2_with (first
      | (go_at_call 14; refine hli.mono ?_; rintro e w1 ⟨rfl, q1, rfl⟩)
      | (go_at_call 8; refine (knows_any _).mono ?_; rintro e w5 ⟨rfl, hb5⟩))
    go_ret
    exact ⟨rfl, below3 (below_drewN (Below.refl _ w) q1) hb5⟩
end
end Go.Proofs.YtdcpkeagkfchoaaDoor
