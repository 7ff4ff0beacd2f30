/- The two iterators of package lines: the lines of a text, the words of a line. -/
import Derived.Test.YtdcpkeagkfchoaaDoorLeaf
import Derived.RangeFuncNested
import Derived.RangeFuncBound
import Derived.RangeFuncCalls
import Derived.RangeFuncLeaves
import Derived.Shelf.Abstract
import Derived.Shelf.RegionOpen
import Derived.OwnWalkIn
import Derived.TacticsInMore
import Derived.LoopNIn
import Derived.LoopIn
namespace Go.Proofs.YtdcpkeagkfchoaaDoor
open Go.RowKit Go.Shelf T6
set_option linter.unusedVariables false
attribute [local go_sem] Oper.semAt_some
section
attribute [local go_sem] ext_to ext_from
theorem abides_below {β : Type} {B : Nat} {J : β → World → Prop} (hJ : AbidesFrom B J) {s : β} {W W' : World} (h : J s W) (hb : Below W.heap.size W W') : J s W' :=
  hJ s W W' none h (only_below hb none) (fun r e => by cases e)
def sizeOfS (v : Value) : Nat := match v with | .string b => b.size | _ => 0
theorem sizeOfS_str (l : Str) : sizeOfS (.string ⟨l.toArray⟩) = l.length := rfl
def encT (x : Str) : Array Value := #[.string ⟨x.toArray⟩]
/-- A word that is read: it is not empty, and not too long. -/
abbrev WordT := { p : Str × Bool // p.1 ≠ [] ∧ p.1.length ≤ 1000000 }
def encW (x : WordT) : Array Value := #[.string ⟨x.1.1.toArray⟩, .bool x.1.2]
def vals (l : List WordT) : List (Str × Bool) := l.map (·.1)
theorem vals_snoc (l : List WordT) (x : WordT) : vals (l ++ [x]) = vals l ++ [x.1] := by simp [vals]
def Free : World → World → Prop := fun _ _ => True
set_option maxRecDepth 100000 in
set_option maxHeartbeats 1000000 in
theorem split_stops (F : Fence) (n : Nat) (hwide : F = Fence.wide) (hn : 1 ≤ n) (Bn : Nat) (s : Str) (hs : s.length < 4294967281) (w : World) (hBn : Bn < w.heap.size) (hc : w.cell? ⟨Bn, 0, none⟩ = some (.string ⟨s.toArray⟩)) :
    SeqStopsK F n Tryd.prog 46 #[.pointer (some ⟨Bn, 0, none⟩)] encT Free (fun ys => ys = splitL s) (fun pre => pre <+: splitL s) (splitL s).length w := fun l J Jx W hW hJ hJx hY h0 => by
  subst hwide
  have hBc : W.cell? ⟨Bn, 0, none⟩ = some (.string ⟨s.toArray⟩) := (hW.cell (p := ⟨Bn, 0, none⟩) hBn).trans hc
  clear hc hW
  refine callsIn_of_wp Tryd.func46 rfl trivial ?_ rfl
  simp only [Tryd.ntmps46, List.size_toArray, List.length_cons, List.length_nil, Nat.reduceAdd, Nat.reduceSub, Array.replicate_succ, Array.replicate_zero, List.push_toArray, List.append_toArray, List.nil_append, List.cons_append]
  gi_wp2
  gi_loopw [3] (fun p wr => ∃ (pre : List Str) (rest : Str), p = .string ⟨rest.toArray⟩ ∧ rest.length < 4294967281 ∧ splitL s = pre ++ splitL rest ∧ J pre wr)
    (fun p _ => sizeOfS p)
  case atStart => exact ⟨[], s, rfl, hs, rfl, h0⟩
  case round =>
    obtain ⟨pre, rest, rfl, hr, hx, hJs⟩ := hrel
    by_cases he : rest = []
    · subst he
      gi_wp2
      go_end0
      exact ⟨⟨_, rfl⟩, .inl ⟨pre, by simp [hx, splitL], hJs⟩⟩
    · have hE : rest.isEmpty = false := by simpa using he
      have hst := splitL_step rest he
      have hX := Lib.hid hx
      have hE2 := Lib.hid he
      clear hx he
      have hlen : pre.length < (splitL s).length := by rw [hX.out, hst]; simp
      have hup := upTo_le 10 rest
      gi_wp2_with (refine ⟨trivial, ?_⟩; gi_at_call 47; refine (callsIn_wide.2 (cut_any rest hr _)).mono ?_; rintro e w1 ⟨rfl, hb1⟩; obtain ⟨fn, tmps, assign, body, hy, hR⟩ := hY pre (upTo 10 rest) w1 (abides_below hJ hJs hb1) hlen; dsimp only [encT] at hy)
      refine hR.mono ?_
      rintro e W3 (⟨rfl, hJ3, _⟩ | ⟨rfl, hJx3⟩)
      · gi_wp2
        go_roundw
        case rel => exact ⟨pre ++ [upTo 10 rest], _, rfl, by rw [List.length_drop]; omega, by rw [hX.out, hst]; simp, hJ3⟩
        case measure =>
          have : rest.length ≠ 0 := fun e => hE2.out (List.eq_nil_of_length_eq_zero e)
          simp only [sizeOfS_str, List.length_drop]
          omega
      · gi_wp2
        refine bodyPost_ret (results_none rfl _ _ _) rfl ?_
        exact ⟨⟨_, rfl⟩, .inr ⟨pre ++ [upTo 10 rest], ⟨splitL (rest.drop ((upTo 10 rest).length + 1)), by rw [hX.out, hst]; simp⟩, hJx3⟩⟩
set_option maxRecDepth 100000 in
set_option maxHeartbeats 1000000 in
theorem words_stops (F : Fence) (n : Nat) (hwide : F = Fence.wide) (hn : 1 ≤ n) (Bn : Nat) (s : Str) (hs : s.length ≤ 1000000) (w : World) (hBn : Bn < w.heap.size) (hc : w.cell? ⟨Bn, 0, none⟩ = some (.string ⟨s.toArray⟩)) :
    SeqStopsK F n Tryd.prog 48 #[.pointer (some ⟨Bn, 0, none⟩)] encW Free (fun ys => vals ys = toks s) (fun pre => vals pre <+: toks s) (toks s).length w := fun l J Jx W hW hJ hJx hY h0 => by
  subst hwide
  have hBc : W.cell? ⟨Bn, 0, none⟩ = some (.string ⟨s.toArray⟩) := (hW.cell (p := ⟨Bn, 0, none⟩) hBn).trans hc
  have htl := trimB_le s
  clear hc hW
  refine callsIn_of_wp Tryd.func48 rfl trivial ?_ rfl
  simp only [Tryd.ntmps48, List.size_toArray, List.length_cons, List.length_nil, Nat.reduceAdd, Nat.reduceSub, Array.replicate_succ, Array.replicate_zero, List.push_toArray, List.append_toArray, List.nil_append, List.cons_append]
  gi_wp2_with (refine ⟨trivial, ?_⟩; gi_at_call 49; refine (callsIn_wide.2 (trim_any s _)).mono ?_; rintro e w1 ⟨rfl, hb1⟩)
  have hJ1 := abides_below hJ h0 hb1
  gi_loopw [3] (fun p wr => ∃ (pre : List WordT) (r : Str), p = .string ⟨(trimB r).toArray⟩ ∧ (trimB r).length ≤ 1000000 ∧ toks s = vals pre ++ toks r ∧ J pre wr)
    (fun p _ => sizeOfS p)
  case atStart => exact ⟨[], s, rfl, by omega, rfl, hJ1⟩
  case round =>
    obtain ⟨pre, r, rfl, hr, hx, hJs⟩ := hrel
    have hle := firstN_le (trimB r)
    have hX := Lib.hid hx
    clear hx
    cases ht : trimB r with
    | nil =>
      have h0r : toks r = [] := by rw [toks_eq, ht]
      have H0 := Lib.hid h0r
      clear h0r ht
      gi_wp2
      refine ⟨trivial, ?_⟩
      gi_wp2
      go_end0
      exact ⟨⟨_, rfl⟩, .inl ⟨pre, by rw [hX.out, H0.out]; simp, hJs⟩⟩
    | cons b t =>
      rw [ht] at hr hle
      have hh := trimB_head r ht
      have hne : (b :: t).isEmpty = false := rfl
      have hpos := firstN_pos b t hh
      cases hnote : noteB (b :: t) with
      | true =>
        have h0r : toks r = [] := by rw [toks_eq, ht]; simp [hnote]
        have H0 := Lib.hid h0r
        clear h0r
        generalize b :: t = u at *
        clear ht
        gi_wp2_with (refine ⟨trivial, ?_⟩; gi_at_call 50; refine (callsIn_wide.2 (hasnote_any u _)).mono ?_; rintro e w2 ⟨rfl, hw⟩; rw [hw, hnote]; clear hw w2)
        go_end0
        exact ⟨⟨_, rfl⟩, .inl ⟨pre, by rw [hX.out, H0.out]; simp, hJs⟩⟩
      | false =>
        have h0r : toks r = ((b :: t).take (firstN (b :: t)).1, (firstN (b :: t)).2) :: toks ((b :: t).drop (firstN (b :: t)).1) := by rw [toks_eq, ht]; simp [hnote]
        have H0 := Lib.hid h0r
        have hu0 : b :: t ≠ [] := by simp
        clear h0r
        generalize b :: t = u at *
        clear ht
        have hlen : pre.length < (toks s).length := by rw [hX.out, H0.out]; simp [vals]
        have hq : u.take (firstN u).1 ≠ [] ∧ (u.take (firstN u).1).length ≤ 1000000 := ⟨fun e => by
          have h1 := congrArg List.length e
          rw [List.length_take] at h1
          have h2 := List.length_pos_iff.2 hu0
          have h3 : ([] : Str).length = 0 := rfl
          omega, by rw [List.length_take]; omega⟩
        have htr := trimB_le (u.drop (firstN u).1)
        gi_wp2_with (first
          | (refine ⟨trivial, ?_⟩; gi_at_call 50; refine (callsIn_wide.2 (hasnote_any u _)).mono ?_; rintro e w2 ⟨rfl, hw⟩; rw [hw, hnote]; clear hw w2)
          | (refine ⟨trivial, ?_⟩; gi_at_call 51; refine (callsIn_wide.2 (first_any u (by omega) hu0 _)).mono ?_; rintro e w2 ⟨rfl, hb2⟩; obtain ⟨fn, tmps, assign, body, hy, hR⟩ := hY pre ⟨(u.take (firstN u).1, (firstN u).2), hq⟩ w2 (abides_below hJ hJs hb2) hlen; dsimp only [encW] at hy))
        refine hR.mono ?_
        rintro e W3 (⟨rfl, hJ3, _⟩ | ⟨rfl, hJx3⟩)
        · gi_wp2_with (refine ⟨trivial, ?_⟩; gi_at_call 49; refine (callsIn_wide.2 (trim_any (u.drop (firstN u).1) _)).mono ?_; rintro e w4 ⟨rfl, hb4⟩)
          go_roundw
          case rel => exact ⟨pre ++ [⟨(u.take (firstN u).1, (firstN u).2), hq⟩], u.drop (firstN u).1, rfl, by rw [List.length_drop] at htr; omega, by rw [hX.out, H0.out, vals_snoc]; simp, abides_below hJ hJ3 hb4⟩
          case measure =>
            rw [List.length_drop] at htr
            simp only [sizeOfS_str]
            omega
        · gi_wp2
          refine bodyPost_ret (results_none rfl _ _ _) rfl ?_
          exact ⟨⟨_, rfl⟩, .inr ⟨pre ++ [⟨(u.take (firstN u).1, (firstN u).2), hq⟩], ⟨toks (u.drop (firstN u).1), by rw [hX.out, H0.out, vals_snoc]; simp⟩, hJx3⟩⟩
end
end Go.Proofs.YtdcpkeagkfchoaaDoor
