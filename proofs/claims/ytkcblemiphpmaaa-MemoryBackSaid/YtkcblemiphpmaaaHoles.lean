/- The law's own holes: what Holes answers, and what New makes of any holes. -/
import Derived.Test.YtkcblemiphpmaaaOpen
import Derived.Deep.AppendLies
import Derived.Deep.RegionLaw
import Derived.OwnWalk

namespace Go.Proofs.Ytkcblemiphpmaaa
open Go.RowKit
set_option linter.unusedVariables false

theorem splice_far {α : Type} (bs xs : List α) (k j : Nat) (hk : k + xs.length ≤ bs.length) (h : j < k ∨ k + xs.length ≤ j) : (splice bs k xs)[j]? = bs[j]? := by
  unfold splice
  rcases h with h | h
  · rw [List.getElem?_append_left (by simp; omega), List.getElem?_take, if_pos h]
  · rw [List.getElem?_append_right (by simp; omega), List.getElem?_append_right (by simp; omega), List.getElem?_drop]
    congr 1
    simp
    omega
theorem hv_append (a b : List (Int × Int)) : hv (a ++ b) = hv a ++ hv b := by
  induction a with
  | nil => rfl
  | cons x r ih => simp [hv, ih]
theorem hv_take (hs : List (Int × Int)) (k : Nat) (p : Int × Int) (h : hs[k]? = some p) : hv (hs.take (k + 1)) = hv (hs.take k) ++ [.int .u32 p.1, .int .u32 p.2] := by
  rw [List.take_add_one, h]
  exact hv_append _ _
theorem HoldsR.below {w w' : World} {A : Option Addr} {hs : List (Int × Int)} (h : HoldsR w A hs) (hb : Below w.heap.size w w') : HoldsR w' A hs := by
  refine ⟨fun h0 => ?_, h.2⟩
  obtain ⟨b, o, e, hc⟩ := h.1 h0
  refine ⟨b, o, e, fun k p hk => ?_⟩
  have c := hc k p hk
  exact ⟨(hb.cell (block_lt_of_cell c.1)).trans c.1, (hb.cell (block_lt_of_cell c.2)).trans c.2⟩
theorem holds_own {w : World} {B : Nat} {v : Value} {n : Nat} {hs : List (Int × Int)} (h : w.ownsRow B 59 2 v n (hv hs)) (hn : hs.length = n) : ∃ A c, v = .slice A n c ∧ HoldsH w A hs := by
  subst hn
  by_cases h0 : hs.length = 0
  · obtain rfl : hs = [] := List.eq_nil_of_length_eq_zero h0
    rcases h.2 with ⟨rfl, _⟩ | ⟨g, cap, cur, rfl, _⟩
    · exact ⟨none, 0, rfl, fun h => by simp at h⟩
    · exact ⟨_, cap, rfl, fun h => by simp at h⟩
  · obtain ⟨g, cap, rfl, _, hlt⟩ := h.form (by omega)
    refine ⟨_, cap, rfl, fun _ => ⟨g, rfl, hlt, fun j u hj => ?_⟩⟩
    have e := h.cells (g := g) rfl j u hj
    rwa [addr_add, Nat.zero_add] at e
set_option maxHeartbeats 400000 in
theorem holes_any (A : Option Addr) (hs : List (Int × Int)) (c : Nat) (w : World) (hl : hs.length ≤ 100) (h : HoldsR w A hs) :
    Calls Try.prog 10 #[.slice A hs.length c] w fun e w' => ∃ A' c', e = .returned (.slice A' hs.length c') ∧ HoldsH w' A' hs ∧ Below w.heap.size w w' := by
  have cs0 : Try.prog.cellsOf 60 = 2 := by kernel_rfl
  obtain ⟨i0, hi, hz0, hz1, hz2⟩ := info_parts info_hole
  go_enter Try.func10, Try.ntmps10
  go_wp2
  go_loopw [3, 4] (fun v i wr => ∃ k : Nat, k ≤ hs.length ∧ i = .int .i64 k ∧ wr.ownsRow w.heap.size 59 2 v k (hv (hs.take k)) ∧ Below w.heap.size w wr) (fun _ i _ => hs.length - (intOf i).toNat)
  case atStart => exact ⟨0, Nat.zero_le _, rfl, ⟨by simp [hv], .inl ⟨rfl, by simp⟩⟩, Below.refl _ _⟩
  case round =>
    obtain ⟨k, hk, rfl, hown, hbl⟩ := hrel
    by_cases hlt : k < hs.length
    · have hp := List.getElem?_eq_getElem hlt
      generalize hs[k] = p at hp
      obtain ⟨b, o, rfl, hc⟩ := (h.below hbl).1 (by omega)
      obtain ⟨q1, q2⟩ := hc k p hp
      have HP := Lib.hid hp
      clear hp hc
      have HNEW : Hid (∀ j u, ([.int .u32 p.1, .int .u32 p.2] : List Value)[j]? = some u → ((wr.alloc (.cells #[.int .u32 p.1, .int .u32 p.2] 59)).drew).cell? ((⟨wr.heap.size, 0, none⟩ : Addr).add j) = some u) := fun j u hj => by
        rw [addr_add, Nat.zero_add]
        exact ((Blok.made wr 59 [.int .u32 p.1, .int .u32 p.2]).at_ j).trans hj
      have hbl2 := (hbl.alloc hbl.size (.cells #[.int .u32 p.1, .int .u32 p.2] 59)).drew
      have hown2 := (hown.alloc (.cells #[.int .u32 p.1, .int .u32 p.2] 59)).drew
      have hsz := hbl.size
      have hown3 : u3.ownBlock ≠ none → ∀ g, u3.ownBlock = some g → w.heap.size ≤ g := by
        intro _ g hg
        rcases hown.2 with ⟨rfl, _⟩ | ⟨g', cap, cur, rfl, hb', _⟩
        · simp [Value.ownBlock] at hg
        · simp [Value.ownBlock] at hg
          omega
      go_wp2
      go_region_law (refine step_append_lies _ rfl (.tmp 11) (.tmp 23) _ rfl w.heap.size 59 i0 _ 2 8 Try.underlying30 hi hz0 hz1 hz2 rfl (by decide) u3 k (hv (hs.take k)) (by simp [Act.eval]) hown2 ⟨wr.heap.size, 0, none⟩ 1 1 [.int .u32 p.1, .int .u32 p.2] (by simp [Act.eval]) rfl HNEW.out (by simp; exact ⟨rfl, rfl⟩) (by decide) (by unfold maxLen; omega) (by omega) hbl2.size _ rfl ?_; intro g' cap' w2 hown4 hg4 hat4 hlt4)
      all_goals
        go_wp2
        go_roundw
        case rel =>
          refine ⟨k + 1, by omega, by go_num, by rw [hv_take hs k p HP.out]; exact hown4, hbl2.grown hg4 hbl2.size (fun q hq => ?_)⟩
          exact hown3 (by rw [hq]; simp) q hq
        case measure => simp [intOf]; omega
    · go_wp2
      go_ret
      obtain rfl : k = hs.length := by omega
      rw [List.take_length] at hown
      obtain ⟨A', c', rfl, hh⟩ := holds_own hown rfl
      exact ⟨A', c', rfl, hh, hbl⟩
end Go.Proofs.Ytkcblemiphpmaaa
