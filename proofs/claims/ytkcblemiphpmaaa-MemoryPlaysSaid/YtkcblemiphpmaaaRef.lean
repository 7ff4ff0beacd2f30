/- The document's memory: what it is in the heap, and what ask, Read, Write, Bytes, Put answer. -/
import Derived.Test.YtkcblemiphpmaaaHoles
namespace Go.Proofs.Ytkcblemiphpmaaa
open Go.RowKit
set_option linter.unusedVariables false

structure IsRef (w : World) (g rb : Nat) (R : Option Addr) (rc : Nat) (bs : List UInt8) (hs : List (Int × Int)) : Prop where
  self : Blok w g 45 [.slice (some ⟨rb, 0, none⟩) bs.length bs.length, .slice R hs.length rc]
  bytes : Blok w rb 5 (bv bs)
  holes : w.ownsRow 0 60 2 (.slice R hs.length rc) hs.length (hv hs)
  small : bs.length ≤ 1048576
  few : hs.length ≤ 16
  ok : okHoles hs
section
variable {w w' : World} {g rb : Nat} {R : Option Addr} {rc : Nat} {bs : List UInt8} {hs : List (Int × Int)}
theorem row_block (h : w.ownsRow 0 60 2 (.slice R hs.length rc) hs.length (hv hs)) {x : Nat} {cs : List Value} {t : TypeId} (hb : Blok w x t cs) (ht : 60 ≠ t) : (Value.slice R hs.length rc).ownBlock ≠ some x := by
  intro e
  rcases h.2 with ⟨e2, _⟩ | ⟨g', cap, cur, e2, _, hh, _⟩
  · rw [e2] at e
    simp [Value.ownBlock] at e
  · rw [e2] at e
    have : g' = x := by simpa [Value.ownBlock] using e
    subst this
    exact Blok.apart (cs := cur.toList) (by unfold Blok; simpa using hh) hb ht rfl
theorem IsRef.only (h : IsRef w g rb R rc bs hs) {x : Nat} {cs : List Value} (hx : Blok w x 5 cs) (hg : w.grownBy w' (some x)) (hne : rb ≠ x) : IsRef w' g rb R rc bs hs :=
  ⟨h.self.only hg (h.self.apart hx (by decide)), h.bytes.only hg hne, h.holes.kept hg (.inr (row_block h.holes hx (by decide))), h.small, h.few, h.ok⟩
theorem IsRef.below (h : IsRef w g rb R rc bs hs) (b : Below w.heap.size w w') : IsRef w' g rb R rc bs hs := by
  refine ⟨h.self.below b h.self.lt, h.bytes.below b h.bytes.lt, h.holes.kept (only_below b none) ?_, h.small, h.few, h.ok⟩
  cases (Value.slice R hs.length rc).ownBlock with
  | none => exact .inl rfl
  | some x => exact .inr (by simp)
theorem IsRef.hole (h : IsRef w g rb R rc bs hs) {k : Nat} {p : Int × Int} (hk : hs[k]? = some p) :
    ∃ b, R = some ⟨b, 0, none⟩ ∧ w.cell? ⟨b, k * 2, none⟩ = some (.int .u32 p.1) ∧ w.cell? ⟨b, k * 2 + 1, none⟩ = some (.int .u32 p.2) := by
  have hl : k < hs.length := (List.getElem?_eq_some_iff.1 hk).1
  obtain ⟨b, cap, e, _, _⟩ := h.holes.form (by omega)
  have hR : R = some ⟨b, 0, none⟩ := by injection e
  subst hR
  have e := hv_at hs k p hk
  rw [show 2 * k = k * 2 by omega] at e
  have c1 := h.holes.cells (g := b) rfl (k * 2) _ e.1
  have c2 := h.holes.cells (g := b) rfl (k * 2 + 1) _ e.2
  rw [addr_add, Nat.zero_add] at c1 c2
  exact ⟨b, rfl, c1, c2⟩
end

/-! ask -/
def hitAt (i : Int) (p : Int × Int) : Bool := decide (p.1 ≤ i) && decide (i < p.2)
def freeAt (size : Int) (hs : List (Int × Int)) (i : Int) : Prop := i < size ∧ hs.any (hitAt i) = false
set_option maxHeartbeats 1000000 in
theorem ask_loop (g rb : Nat) (R : Option Addr) (rc : Nat) (bs : List UInt8) (hs : List (Int × Int)) (at_ n : Int) (a0 : 0 ≤ at_) (a1 : at_ < 4294967296) (w : World) (h : IsRef w g rb R rc bs hs)
    (hn : n = 1 ∨ n = 2 ∨ n = 4) (ha : (at_ % n != 0) = false) (r : Int)
    (hr : Hid ((∀ t, 0 ≤ t → t < n → ¬ freeAt bs.length hs (at_ + t) → r = 30) ∧ ((∀ t, 0 ≤ t → t < n → freeAt bs.length hs (at_ + t)) → r = 0))) :
    Calls Try.prog 27 #[.pointer (some ⟨g, 0, none⟩), .int .u32 at_, .int .i64 n] w fun e w' => e = .returned (.int .i64 r) ∧ w = w' := by
  have hs1 := h.small
  have hs2 := h.few
  have c0 : w.cell? ⟨g, 0, none⟩ = some (.slice (some ⟨rb, 0, none⟩) bs.length bs.length) := h.self.at_ 0
  have c1 : w.cell? ⟨g, 1, none⟩ = some (.slice R hs.length rc) := h.self.at_ 1
  have cs0 : Try.prog.cellsOf 60 = 2 := by kernel_rfl
  have hn1 : 1 ≤ n := by omega
  have hn4 : n ≤ 4 := by omega
  obtain ⟨N, hN1, hN2⟩ : ∃ N : Nat, n ≤ N ∧ (N : Int) ≤ n := ⟨n.toNat, by omega, by omega⟩
  rcases hn with rfl | rfl | rfl
  all_goals
    go_enter Try.func27, Try.ntmps27
    go_wp2
    go_loop [7] (fun i => ∃ j : Nat, j ≤ N ∧ i = .int .i64 (at_ + j) ∧ ∀ t : Nat, t < j → freeAt bs.length hs (at_ + t)) (fun i => (at_ + N - intOf i).toNat)
    case atStart => exact ⟨0, Nat.zero_le _, by simp, fun t ht => by omega⟩
    case round =>
      obtain ⟨j, hj, rfl, hfree⟩ := hrel
      have HF := Lib.hid hfree
      clear hfree
      by_cases hlt : j < N
      · have hji : (j : Int) < N := by omega
        by_cases hsz : (bs.length : Int) ≤ at_ + j
        · go_wp2
          go_ret
          exact ⟨ret_int (hr.out.1 j (by omega) (by omega) (fun hf => by have := hf.1; omega)).symm, rfl⟩
        · have hsz2 : at_ + (j : Int) < bs.length := by omega
          clear hsz
          go_wp2
          go_loop [8] (fun k => ∃ m : Nat, m ≤ hs.length ∧ k = .int .i64 m ∧ (hs.take m).any (hitAt (at_ + j)) = false) (fun k => hs.length - (intOf k).toNat)
          case atStart => exact ⟨0, Nat.zero_le _, rfl, by simp⟩
          case round =>
            obtain ⟨m, hm, rfl, hno⟩ := hrel
            have HNO := Lib.hid hno
            clear hno
            by_cases hlm : m < hs.length
            · have hp := List.getElem?_eq_getElem hlm
              generalize hs[m] = p at hp
              obtain ⟨b, rfl, q1, q2⟩ := h.hole hp
              have hpo := h.ok p (List.mem_of_getElem? hp)
              have HP := Lib.hid hp
              clear hp
              by_cases hp1 : p.1 ≤ at_ + j
              · by_cases hp2 : at_ + j < p.2
                · go_wp2
                  go_ret
                  exact ⟨ret_int (hr.out.1 j (by omega) (by omega) (fun hf => by
                    have e := any_hit (f := hitAt (at_ + j)) HP.out (by simp [hitAt]; omega)
                    rw [hf.2] at e
                    cases e)).symm, rfl⟩
                · have hp3 : p.2 ≤ at_ + j := by omega
                  clear hp2
                  go_wp2
                  go_round
                  case rel => exact ⟨m + 1, by omega, by go_num, any_take HP.out HNO.out (by simp [hitAt]; omega)⟩
                  case measure => simp [intOf]; omega
              · have hp3 : at_ + j < p.1 := by omega
                clear hp1
                go_wp2
                go_round
                case rel => exact ⟨m + 1, by omega, by go_num, any_take HP.out HNO.out (by simp [hitAt]; omega)⟩
                case measure => simp [intOf]; omega
            · go_wp2
              go_round
              case rel =>
                refine ⟨j + 1, by omega, by go_num, fun t ht => ?_⟩
                by_cases htj : t < j
                · exact HF.out t htj
                · obtain rfl : t = j := by omega
                  have e := HNO.out
                  rw [List.take_of_length_le (by omega)] at e
                  exact ⟨hsz2, e⟩
              case measure => simp [intOf]; omega
      · go_wp2
        go_ret
        refine ⟨ret_int (hr.out.2 (fun t t0 t1 => ?_)).symm, rfl⟩
        obtain ⟨u, rfl⟩ := Int.eq_ofNat_of_zero_le t0
        exact HF.out u (by omega)

theorem ask_math (size : Int) (hs : List (Int × Int)) (at_ n : Int) (a0 : 0 ≤ at_) (hn : n = 1 ∨ n = 2 ∨ n = 4) (ha : at_ % n = 0) (r : Int) (hr : errV size hs at_ n = r) :
    (∀ t, 0 ≤ t → t < n → ¬ freeAt size hs (at_ + t) → r = 30) ∧ ((∀ t, 0 ≤ t → t < n → freeAt size hs (at_ + t)) → r = 0) := by
  unfold errV at hr
  rw [if_neg (fun q => q hn), if_neg (fun q => q ha)] at hr
  by_cases hz : size - at_ < n
  · rw [if_pos hz] at hr
    subst hr
    refine ⟨fun _ _ _ _ => rfl, fun h => ?_⟩
    have := (h (n - 1) (by omega) (by omega)).1
    omega
  · rw [if_neg hz] at hr
    by_cases ht : hs.any (fun h => decide (max h.1 at_ < min h.2 (at_ + n))) = true
    · rw [if_pos ht] at hr
      subst hr
      refine ⟨fun _ _ _ _ => rfl, fun h => ?_⟩
      obtain ⟨p, hp, hq⟩ := List.any_eq_true.1 ht
      have hq2 : max p.1 at_ < min p.2 (at_ + n) := by simpa using hq
      have e := (h (max p.1 at_ - at_) (by omega) (by omega)).2
      rw [List.any_eq_false] at e
      have := e p hp
      simp [hitAt] at this
      omega
    · rw [if_neg ht] at hr
      subst hr
      refine ⟨fun t t0 t1 hf => ?_, fun _ => rfl⟩
      exfalso
      apply hf
      refine ⟨by omega, ?_⟩
      rw [List.any_eq_false]
      intro p hp
      have ht2 : hs.any (fun h => decide (max h.1 at_ < min h.2 (at_ + n))) = false := by simpa using ht
      rw [List.any_eq_false] at ht2
      have := ht2 p hp
      simp only [decide_eq_true_eq] at this
      simp [hitAt]
      omega
theorem ask_arg (g rb : Nat) (R : Option Addr) (rc : Nat) (bs : List UInt8) (hs : List (Int × Int)) (at_ n : Int) (w : World) (hn : ¬ (n = 1 ∨ n = 2 ∨ n = 4)) :
    Calls Try.prog 27 #[.pointer (some ⟨g, 0, none⟩), .int .u32 at_, .int .i64 n] w fun e w' => e = .returned (.int .i64 1) ∧ w = w' := by
  have e1 : (n != 1) = true := by rw [bne_iff_ne]; omega
  have e2 : (n != 2) = true := by rw [bne_iff_ne]; omega
  have e4 : (n != 4) = true := by rw [bne_iff_ne]; omega
  go_enter Try.func27, Try.ntmps27
  go_wp2
  go_ret
  exact ⟨rfl, rfl⟩
theorem ask_align (g : Nat) (at_ n : Int) (a0 : 0 ≤ at_) (a1 : at_ < 4294967296) (w : World) (hn : n = 1 ∨ n = 2 ∨ n = 4) (ha : (at_ % n != 0) = true) :
    Calls Try.prog 27 #[.pointer (some ⟨g, 0, none⟩), .int .u32 at_, .int .i64 n] w fun e w' => e = .returned (.int .i64 31) ∧ w = w' := by
  rcases hn with rfl | rfl | rfl
  · rw [bne_iff_ne] at ha
    exact absurd (by omega) ha
  all_goals
    go_enter Try.func27, Try.ntmps27
    go_wp2
    go_ret
    exact ⟨rfl, rfl⟩
theorem ask_any (g rb : Nat) (R : Option Addr) (rc : Nat) (bs : List UInt8) (hs : List (Int × Int)) (at_ n : Int) (a0 : 0 ≤ at_) (a1 : at_ < 4294967296) (w : World) (h : IsRef w g rb R rc bs hs) :
    Calls Try.prog 27 #[.pointer (some ⟨g, 0, none⟩), .int .u32 at_, .int .i64 n] w fun e w' => e = .returned (.int .i64 (errV bs.length hs at_ n)) ∧ w = w' := by
  by_cases hn : n = 1 ∨ n = 2 ∨ n = 4
  · by_cases ha : at_ % n = 0
    · exact ask_loop g rb R rc bs hs at_ n a0 a1 w h hn (by simp [ha]) _ (ask_math bs.length hs at_ n a0 hn ha _ rfl)
    · have e : errV bs.length hs at_ n = 31 := by simp [errV, hn, ha]
      rw [e]
      exact ask_align g at_ n a0 a1 w hn (by rw [bne_iff_ne]; exact ha)
  · have e : errV bs.length hs at_ n = 1 := by simp [errV, hn]
    rw [e]
    exact ask_arg g rb R rc bs hs at_ n w hn
end Go.Proofs.Ytkcblemiphpmaaa
