/- The document's answer: the words of a line. -/
import Derived.Test.YtdcpkeagkfchoaaDoorRsplit
import Derived.Test.YtdcpkeagkfchoaaDoorRmath
import Derived.Test.YtdcpkeagkfchoaaDoorParse
namespace Go.Proofs.YtdcpkeagkfchoaaDoor
open Go.RowKit T6
set_option linter.unusedVariables false
section
attribute [local go_sem] ext_to ext_from ext_all byte_at
def WordsTold (s : Str) (w : World) (e : Ending) (w' : World) : Prop := (match wordsO s with
  | some ws => ∃ v B, e = .returned (.tuple #[v, .bool true]) ∧ w'.ownsRow B 9 1 v ws.length (sv ws)
  | none => e = .returned (.tuple #[.slice none 0 0, .bool false])) ∧ Below w.heap.size w w'
theorem WordsTold.ok {s : Str} {ws : List Str} {w w' : World} {v : Value} {B : Nat} (h : wordsO s = some ws) (hv : w'.ownsRow B 9 1 v ws.length (sv ws)) (hb : Below w.heap.size w w') : WordsTold s w (.returned (.tuple #[v, .bool true])) w' := by
  unfold WordsTold
  rw [h]
  exact ⟨⟨v, B, rfl, hv⟩, hb⟩
theorem WordsTold.bad {s : Str} {w w' : World} (h : wordsO s = none) (hb : Below w.heap.size w w') : WordsTold s w (.returned (.tuple #[.slice none 0 0, .bool false])) w' := by
  unfold WordsTold
  rw [h]
  exact ⟨rfl, hb⟩
def firsts (l : List (Str × Bool)) : List Str := l.map (·.1)
set_option maxRecDepth 100000 in
set_option maxHeartbeats 4000000 in
theorem rwords_any (s : Str) (hs : s.length ≤ 1000000) (w : World) : Calls Tryd.prog 29 #[.string ⟨s.toArray⟩] w (WordsTold s w) := by
  obtain ⟨i0, hi, hz0, hz1, hz2⟩ := info_parts info_s
  have htl := toks_len s
  go_enter Tryd.func29, Tryd.ntmps29
  go_wp2
  go_loopw [4, 5] (fun v i wr => ∃ (k : Nat) (done : List (Str × Bool)) (A : Option Addr) (K : Nat), k ≤ s.length ∧ i = .int .i64 k ∧ v = .slice A (firsts done).length K ∧ wr.ownsRow w.heap.size 9 1 (.slice A (firsts done).length K) (firsts done).length (sv (firsts done)) ∧ toks s = done ++ toks (s.drop k) ∧ (∀ p ∈ done, p.2 = true) ∧ Below w.heap.size w wr) (fun _ i _ => s.length - (intOf i).toNat)
  case atStart => exact ⟨0, [], none, 0, Nat.zero_le _, rfl, rfl, World.ownsRow_nil _ _ _ _, rfl, by simp, Below.refl _ _⟩
  case round =>
    obtain ⟨k, done, A, K, hk, rfl, rfl, hown0, hx, hall, hbel⟩ := hrel
    have hol : (firsts done).length ≤ 1000000 := by
      have := congrArg List.length hx
      rw [List.length_append] at this
      simp only [firsts, List.length_map]
      omega
    have HX := Lib.hid hx
    have HALL := Lib.hid hall
    have HTL := Lib.hid htl
    clear hx hall htl
    have hbw := hbel.size
    obtain ⟨wo, rfl⟩ : ∃ wo : World, wo = wr := ⟨_, rfl⟩
    by_cases hlt : k < s.length
    · have hblank := blank_any (s[k]'hlt)
      cases hbk : blankB (s[k]'hlt) with
      | true =>
        have HH : Hid (toks (s.drop k) = toks (s.drop (k + 1))) := by
          show toks (s.drop k) = _
          rw [List.drop_eq_getElem_cons hlt]
          exact toks_blank _ _ hbk
        go_wp2_with (go_at_call 53; refine (hblank _).mono ?_; rintro e w' ⟨rfl, rfl⟩; rw [hbk])
        go_roundw
        case rel => exact ⟨k + 1, done, A, K, by omega, by go_num, rfl, hown0, by rw [HX.out, HH.out], HALL.out, hbel⟩
        case measure => simp [intOf]; omega
      | false =>
        by_cases h34 : s[k] = 34
        · have ht : (((s[k]'hlt).toNat : Int) == 34) = true := by rw [h34]; rfl
          have H34 := Lib.hid h34
          clear h34
          go_wp2_with (go_at_call 53; refine (hblank _).mono ?_; rintro e w' ⟨rfl, rfl⟩; rw [hbk])
          go_loop [5] (fun i => ∃ j : Nat, k + 1 ≤ j ∧ j ≤ s.length ∧ i = .int .i64 j ∧ ∀ i, k + 1 ≤ i → ∀ h : i < j, ∀ h2 : i < s.length, s[i] ≠ 34) (fun i => s.length - (intOf i).toNat)
          case atStart => exact ⟨k + 1, Nat.le_refl _, hlt, by go_num, fun i h1 h2 => absurd h2 (by omega)⟩
          case round =>
            obtain ⟨j, hkj, hj, rfl, hno⟩ := hrel
            have HNO := Lib.hid hno
            clear hno
            by_cases hjl : j < s.length
            · by_cases hj34 : s[j] = 34
              · have htj : (((s[j]'hjl).toNat : Int) != 34) = false := by rw [hj34]; rfl
                have HQ := Lib.hid (quote_closed s k j hlt H34.out hkj hjl hj34 (fun i h1 h2 => HNO.out i h1 h2 (by omega)))
                clear hj34
                have hword : noteB ((s.take (j + 1)).drop k) = false := by
                  rw [List.drop_eq_getElem_cons (by rw [List.length_take]; omega), List.getElem_take, H34.out]
                  cases (s.take (j + 1)).drop (k + 1) <;> simp [noteB]
                have hnote := note_any ((s.take (j + 1)).drop k)
                have hnote := fun w => hnote w (by rw [List.length_drop, List.length_take]; omega)
                have hnb := hword
                by_cases hend : j + 1 < s.length
                · have hbl2 := blank_any (s[j + 1]'hend)
                  cases hb2 : blankB (s[j + 1]'hend) with
                  | true =>
                    have HH : Hid (toks (s.drop k) = ((s.take (j + 1)).drop k, true) :: toks (s.drop (j + 1))) := by
                      show toks (s.drop k) = _
                      rw [HQ.out]
                      congr 2
                      rw [List.drop_eq_getElem_cons hend]
                      exact hb2
                    go_wp2_with (first | (go_at_call 53; refine (hbl2 _).mono ?_; rintro e w' ⟨rfl, rfl⟩; rw [hb2]) | (go_at_call 54; refine (hnote _).mono ?_; rintro e w' ⟨rfl, rfl⟩; rw [hnb]) | (refine wpList_append_lies _ rfl (.tmp 74) (.tmp 79) _ rfl w.heap.size 9 i0 _ 1 16 Tryd.underlying41 hi hz0 hz1 hz2 rfl (by decide) (.slice A (firsts done).length K) (firsts done).length (sv (firsts done)) rfl (hown0.alloc _) ⟨wo.heap.size, 0, none⟩ 1 1 [.string ⟨((s.take (j + 1)).drop k).toArray⟩] rfl rfl (fun jj u hu => by rw [addr_add, Nat.zero_add]; exact ((Blok.made wo _ [.string ⟨((s.take (j + 1)).drop k).toArray⟩]).at_ jj).trans hu) (fun u hu => by simp at hu; subst hu; rfl) (by decide) (by unfold maxLen; omega) (by omega) (by simp; omega) _ rfl ?_; intro g2 cap w2 hown hgrow hat hlt2))
                    go_roundw
                    case rel => exact ⟨j + 1, done ++ [(((s.take (j + 1)).drop k), true)], some ⟨g2, 0, none⟩, cap, by omega, by go_num, by simp [firsts], by simp only [firsts, List.map_append, List.length_append, List.map_cons, List.map_nil, List.length_cons, List.length_nil] at hown ⊢; rw [sv_snoc]; exact hown, by rw [HX.out, HH.out]; simp, fun p hp => (List.mem_append.1 hp).elim (HALL.out p) (fun h => by obtain rfl := List.mem_singleton.1 h; rfl), (hbel.alloc hbw _).grown hgrow (by simp; omega) (fun q hq => (hown0.lt q hq).1)⟩
                    case measure => simp [intOf]; omega
                  | false =>
                    have HH : Hid (toks s = done ++ ((s.take (j + 1)).drop k, false) :: toks (s.drop (j + 1))) := by
                      show toks s = _
                      rw [HX.out, HQ.out]
                      congr 3
                      rw [List.drop_eq_getElem_cons hend]
                      exact hb2
                    go_wp2_with (first | (go_at_call 53; refine (hbl2 _).mono ?_; rintro e w' ⟨rfl, rfl⟩; rw [hb2]) | fail)
                    go_ret2
                    exact WordsTold.bad (wordsO_bad HH.out) hbel
                · have HH : Hid (toks (s.drop k) = ((s.take (j + 1)).drop k, true) :: toks (s.drop (j + 1))) := by
                    show toks (s.drop k) = _
                    rw [HQ.out]
                    congr 2
                    rw [List.drop_eq_nil_of_le (by omega)]
                    rfl
                  go_wp2_with (first | (go_at_call 54; refine (hnote _).mono ?_; rintro e w' ⟨rfl, rfl⟩; rw [hnb]) | (refine wpList_append_lies _ rfl (.tmp 74) (.tmp 79) _ rfl w.heap.size 9 i0 _ 1 16 Tryd.underlying41 hi hz0 hz1 hz2 rfl (by decide) (.slice A (firsts done).length K) (firsts done).length (sv (firsts done)) rfl (hown0.alloc _) ⟨wo.heap.size, 0, none⟩ 1 1 [.string ⟨((s.take (j + 1)).drop k).toArray⟩] rfl rfl (fun jj u hu => by rw [addr_add, Nat.zero_add]; exact ((Blok.made wo _ [.string ⟨((s.take (j + 1)).drop k).toArray⟩]).at_ jj).trans hu) (fun u hu => by simp at hu; subst hu; rfl) (by decide) (by unfold maxLen; omega) (by omega) (by simp; omega) _ rfl ?_; intro g2 cap w2 hown hgrow hat hlt2))
                  go_roundw
                  case rel => exact ⟨j + 1, done ++ [(((s.take (j + 1)).drop k), true)], some ⟨g2, 0, none⟩, cap, by omega, by go_num, by simp [firsts], by simp only [firsts, List.map_append, List.length_append, List.map_cons, List.map_nil, List.length_cons, List.length_nil] at hown ⊢; rw [sv_snoc]; exact hown, by rw [HX.out, HH.out]; simp, fun p hp => (List.mem_append.1 hp).elim (HALL.out p) (fun h => by obtain rfl := List.mem_singleton.1 h; rfl), (hbel.alloc hbw _).grown hgrow (by simp; omega) (fun q hq => (hown0.lt q hq).1)⟩
                  case measure => simp [intOf]; omega
              · have htj : (((s[j]'hjl).toNat : Int) != 34) = true := by
                  have h := eq_f (n := 34) hj34
                  show (!(((s[j]'hjl).toNat : Int) == ((34 : Nat) : Int))) = true
                  rw [h]
                  rfl
                have hn34 := Lib.hid hj34
                clear hj34
                go_wp2
                go_round
                case rel => exact ⟨j + 1, by omega, by omega, by go_num, fun i h1 h2 h3 => by
                  by_cases e : i = j
                  · subst e; exact hn34.out
                  · exact HNO.out i h1 (by omega) h3⟩
                case measure => simp [intOf]; omega
            · have hjj : j = s.length := by omega
              have HQ := Lib.hid (quote_open s k hlt H34.out (fun i h1 h2 => HNO.out i h1 (by omega) h2))
              clear hjj
              go_wp2
              go_ret2
              exact WordsTold.bad (wordsO_bad (by rw [HX.out, HQ.out])) hbel
        · have ht : (((s[k]'hlt).toNat : Int) == 34) = false := eq_f (n := 34) h34
          have H34 := Lib.hid h34
          clear h34
          go_wp2_with (go_at_call 53; refine (hblank _).mono ?_; rintro e w' ⟨rfl, rfl⟩; rw [hbk])
          go_loop [5] (fun i => ∃ j : Nat, k ≤ j ∧ j ≤ s.length ∧ i = .int .i64 j ∧ ∀ i, k ≤ i → ∀ h : i < j, ∀ h2 : i < s.length, blankB (s[i]'h2) = false) (fun i => s.length - (intOf i).toNat)
          case atStart => exact ⟨k, Nat.le_refl _, by omega, rfl, fun i h1 h2 => absurd h2 (by omega)⟩
          case round =>
            obtain ⟨j, hkj, hj, rfl, hno⟩ := hrel
            have HNO := Lib.hid hno
            clear hno
            have hpw := plain_word s k j hlt H34.out hbk hkj hj (fun i h1 h2 => HNO.out i h1 h2 (by omega))
            by_cases hgo : ∃ h : j < s.length, blankB (s[j]'h) = false
            · obtain ⟨hjl, hbj⟩ := hgo
              have hblj := blank_any (s[j]'hjl)
              have HPW := Lib.hid hpw
              clear hpw
              go_wp2_with (go_at_call 53; refine (hblj _).mono ?_; rintro e w' ⟨rfl, rfl⟩; rw [hbj])
              go_round
              case rel => exact ⟨j + 1, by omega, by omega, by go_num, fun i h1 h2 h3 => by
                by_cases e : i = j
                · subst e; exact hbj
                · exact HNO.out i h1 (by omega) h3⟩
              case measure => simp [intOf]; omega
            · have hstop : j = s.length ∨ ∃ h : j < s.length, blankB (s[j]'h) = true := by
                by_cases hjl : j < s.length
                · right
                  refine ⟨hjl, ?_⟩
                  cases hb : blankB (s[j]'hjl) with
                  | true => rfl
                  | false => exact absurd ⟨hjl, hb⟩ hgo
                · left; omega
              have hpw2 := hpw hstop
              clear hpw hgo
              obtain ⟨hp1, hp2, hp3⟩ := hpw2
              have hnote := fun w => note_any ((s.take j).drop k) w (by rw [List.length_drop, List.length_take]; omega)
              have hk2 : k < j := by
                rcases hstop with h | ⟨h, hb⟩
                · omega
                · by_cases e : k = j
                  · subst e
                    rw [hbk] at hb
                    cases hb
                  · omega
              rw [hp1] at hnote
              have HSTOP := Lib.hid hstop
              cases hnb : noteB (s.drop k) with
              | true =>
                have HE := Lib.hid (wordsO_all (s := s) (done := done) (by rw [HX.out, hp2 hnb, List.append_nil]) HALL.out)
                clear hp1 hp2 hp3
                rcases hstop with hjl | ⟨hjl, hbj⟩
                · have hjn : ¬ j < s.length := by omega
                  clear hjl
                  go_wp2_with (first | (go_at_call 54; refine (hnote _).mono ?_; rintro e w' ⟨rfl, rfl⟩; rw [hnb]) | fail)
                  go_ret2
                  exact WordsTold.ok HE.out hown0 hbel
                · have hblj := blank_any (s[j]'hjl)
                  go_wp2_with (first | (go_at_call 53; refine (hblj _).mono ?_; rintro e w' ⟨rfl, rfl⟩; rw [hbj]) | (go_at_call 54; refine (hnote _).mono ?_; rintro e w' ⟨rfl, rfl⟩; rw [hnb]))
                  go_ret2
                  exact WordsTold.ok HE.out hown0 hbel
              | false =>
                have HH := Lib.hid (hp3 hnb)
                clear hp1 hp2 hp3
                rcases hstop with hjl | ⟨hjl, hbj⟩
                · have hjn : ¬ j < s.length := by omega
                  clear hjl
                  go_wp2_with (first | (go_at_call 54; refine (hnote _).mono ?_; rintro e w' ⟨rfl, rfl⟩; rw [hnb]) | (refine wpList_append_lies _ rfl (.tmp 74) (.tmp 79) _ rfl w.heap.size 9 i0 _ 1 16 Tryd.underlying41 hi hz0 hz1 hz2 rfl (by decide) (.slice A (firsts done).length K) (firsts done).length (sv (firsts done)) rfl (hown0.alloc _) ⟨wo.heap.size, 0, none⟩ 1 1 [.string ⟨((s.take j).drop k).toArray⟩] rfl rfl (fun jj u hu => by rw [addr_add, Nat.zero_add]; exact ((Blok.made wo _ [.string ⟨((s.take j).drop k).toArray⟩]).at_ jj).trans hu) (fun u hu => by simp at hu; subst hu; rfl) (by decide) (by unfold maxLen; omega) (by omega) (by simp; omega) _ rfl ?_; intro g2 cap w2 hown hgrow hat hlt2))
                  go_roundw
                  case rel => exact ⟨j, done ++ [(((s.take j).drop k), true)], some ⟨g2, 0, none⟩, cap, by omega, by go_num, by simp [firsts], by simp only [firsts, List.map_append, List.length_append, List.map_cons, List.map_nil, List.length_cons, List.length_nil] at hown ⊢; rw [sv_snoc]; exact hown, by rw [HX.out, HH.out]; simp, fun p hp => (List.mem_append.1 hp).elim (HALL.out p) (fun h => by obtain rfl := List.mem_singleton.1 h; rfl), (hbel.alloc hbw _).grown hgrow (by simp; omega) (fun q hq => (hown0.lt q hq).1)⟩
                  case measure => simp [intOf]; omega
                · have hblj := blank_any (s[j]'hjl)
                  go_wp2_with (first | (go_at_call 53; refine (hblj _).mono ?_; rintro e w' ⟨rfl, rfl⟩; rw [hbj]) | (go_at_call 54; refine (hnote _).mono ?_; rintro e w' ⟨rfl, rfl⟩; rw [hnb]) | (refine wpList_append_lies _ rfl (.tmp 74) (.tmp 79) _ rfl w.heap.size 9 i0 _ 1 16 Tryd.underlying41 hi hz0 hz1 hz2 rfl (by decide) (.slice A (firsts done).length K) (firsts done).length (sv (firsts done)) rfl (hown0.alloc _) ⟨wo.heap.size, 0, none⟩ 1 1 [.string ⟨((s.take j).drop k).toArray⟩] rfl rfl (fun jj u hu => by rw [addr_add, Nat.zero_add]; exact ((Blok.made wo _ [.string ⟨((s.take j).drop k).toArray⟩]).at_ jj).trans hu) (fun u hu => by simp at hu; subst hu; rfl) (by decide) (by unfold maxLen; omega) (by omega) (by simp; omega) _ rfl ?_; intro g2 cap w2 hown hgrow hat hlt2))
                  go_roundw
                  case rel => exact ⟨j, done ++ [(((s.take j).drop k), true)], some ⟨g2, 0, none⟩, cap, by omega, by go_num, by simp [firsts], by simp only [firsts, List.map_append, List.length_append, List.map_cons, List.map_nil, List.length_cons, List.length_nil] at hown ⊢; rw [sv_snoc]; exact hown, by rw [HX.out, HH.out]; simp, fun p hp => (List.mem_append.1 hp).elim (HALL.out p) (fun h => by obtain rfl := List.mem_singleton.1 h; rfl), (hbel.alloc hbw _).grown hgrow (by simp; omega) (fun q hq => (hown0.lt q hq).1)⟩
                  case measure => simp [intOf]; omega
    · have hend : wordsO s = some (firsts done) := wordsO_all (by rw [HX.out, List.drop_eq_nil_of_le (by omega), toks_nil, List.append_nil]) HALL.out
      have HE := Lib.hid hend
      clear hend
      go_wp2
      go_ret2
      exact WordsTold.ok HE.out hown0 hbel
end
end Go.Proofs.YtdcpkeagkfchoaaDoor
