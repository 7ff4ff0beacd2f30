/- The document's same and Same, of two lists that are the same. -/
import Derived.Test.YtdcpkeagkfchoaaDoorRparse
namespace Go.Proofs.YtdcpkeagkfchoaaDoor
open Go.RowKit T6
set_option linter.unusedVariables false
theorem StrsAt.drewN {w : World} {v : Value} {xs : List Str} (h : StrsAt w v xs) (n : Nat) : StrsAt (w.drewN n) v xs := h
theorem LinesAt.drewN {w : World} {v : Value} {ds : List LineD} (h : LinesAt w v ds) (n : Nat) : LinesAt (w.drewN n) v ds := h
theorem cell_drewN {w wr : World} {q : Nat} {a : Addr} {v : Option Value} (h : wr = w.drewN q) (hc : w.cell? a = v) : wr.cell? a = v := by rw [h]; exact hc
set_option maxRecDepth 100000 in
set_option maxHeartbeats 2000000 in
theorem same_any (v1 v2 : Value) (xs : List Str) (hx : xs.length ≤ 1000000) (w : World) (h1 : StrsAt w v1 xs) (h2 : StrsAt w v2 xs) :
    Calls Tryd.prog 31 #[v1, v2] w fun e w' => e = .returned (.bool true) ∧ ∃ m, w' = w.drewN m := by
  obtain ⟨A1, c1, rfl, hA1⟩ := h1
  obtain ⟨A2, c2, rfl, hA2⟩ := h2
  have HA1 := Lib.hid hA1
  have HA2 := Lib.hid hA2
  clear hA1 hA2
  go_enter Tryd.func31, Tryd.ntmps31
  go_wp2
  go_loopw [5] (fun i wr => ∃ k q : Nat, k ≤ xs.length ∧ i = .int .i64 k ∧ wr = w.drewN q) (fun i _ => xs.length - (intOf i).toNat)
  case atStart => exact ⟨0, 0, Nat.zero_le _, rfl, rfl⟩
  case round =>
    obtain ⟨k, q, hk, rfl, hwr⟩ := hrel
    have HW := Lib.hid hwr
    by_cases hlt : k < xs.length
    · obtain ⟨b1, o1, rfl, hc1⟩ := HA1.out (by omega)
      obtain ⟨b2, o2, rfl, hc2⟩ := HA2.out (by omega)
      have q1 := cell_drewN hwr (hc1 k _ (List.getElem?_eq_getElem hlt))
      have q2 := cell_drewN hwr (hc2 k _ (List.getElem?_eq_getElem hlt))
      clear hc1 hc2 HA1 HA2 hwr
      go_wp2
      go_quiet (fail)
      go_wp2
      go_roundw
      case rel => exact ⟨k + 1, _, by omega, by go_num, by rw [HW.out, World.drewN_drewN]⟩
      case measure => simp [intOf]; omega
    · clear hwr
      go_wp2
      go_ret
      exact ⟨rfl, _, HW.out⟩
set_option maxRecDepth 100000 in
set_option maxHeartbeats 2000000 in
theorem Same_any (v1 v2 : Value) (ds : List LineD) (hx : ds.length ≤ 1000000) (hl : ∀ d ∈ ds, d.labels.length ≤ 1000000 ∧ d.args.length ≤ 1000000) (w : World) (h1 : LinesAt w v1 ds) (h2 : LinesAt w v2 ds) :
    Calls Tryd.prog 11 #[v1, v2] w fun e w' => e = .returned (.bool true) ∧ ∃ m, w' = w.drewN m := by
  obtain ⟨A1, c1, rfl, hA1⟩ := h1
  obtain ⟨A2, c2, rfl, hA2⟩ := h2
  have HA1 := Lib.hid hA1
  have HA2 := Lib.hid hA2
  have HL := Lib.hid hl
  clear hA1 hA2 hl
  go_enter Tryd.func11, Tryd.ntmps11
  go_wp2
  go_loopw [5] (fun i wr => ∃ k q : Nat, k ≤ ds.length ∧ i = .int .i64 k ∧ wr = w.drewN q) (fun i _ => ds.length - (intOf i).toNat)
  case atStart => exact ⟨0, 0, Nat.zero_le _, rfl, rfl⟩
  case round =>
    obtain ⟨k, q, hk, rfl, hwr⟩ := hrel
    have HW := Lib.hid hwr
    by_cases hlt : k < ds.length
    · obtain ⟨b1, o1, rfl, hc1⟩ := HA1.out (by omega)
      obtain ⟨b2, o2, rfl, hc2⟩ := HA2.out (by omega)
      obtain ⟨p0, p2, q0, q1, q2, hp0, hp2⟩ := hc1 k _ (List.getElem?_eq_getElem hlt)
      obtain ⟨r0, r2, s0, s1, s2, hr0, hr2⟩ := hc2 k _ (List.getElem?_eq_getElem hlt)
      have hd := HL.out _ (List.getElem_mem hlt)
      have hs : ∀ n p r, (p = p0 ∧ r = r0) ∨ (p = p2 ∧ r = r2) → Calls Tryd.prog 31 #[p, r] (wr.drewN n) fun e w' => e = .returned (.bool true) ∧ ∃ m, w' = (wr.drewN n).drewN m := by
        rintro n p r (⟨rfl, rfl⟩ | ⟨rfl, rfl⟩)
        · exact same_any _ _ _ hd.1 (wr.drewN n) (by rw [hwr]; exact hp0) (by rw [hwr]; exact hr0)
        · exact same_any _ _ _ hd.2 (wr.drewN n) (by rw [hwr]; exact hp2) (by rw [hwr]; exact hr2)
      have t0 := cell_drewN hwr (q0)
      have t1 := cell_drewN hwr (q1)
      have t2 := cell_drewN hwr (q2)
      have x0 := cell_drewN hwr (s0)
      have x1 := cell_drewN hwr (s1)
      have x2 := cell_drewN hwr (s2)
      clear hc1 hc2 HA1 HA2 hwr hp0 hr0 hp2 hr2 q0 q1 q2 s0 s1 s2
      go_wp2
      go_quiet ((go_at_call 31; exact Calls.quiet_of (hs _ _ _ (by first | exact .inl ⟨rfl, rfl⟩ | exact .inr ⟨rfl, rfl⟩))))
      go_wp2
      go_roundw
      case rel => exact ⟨k + 1, _, by omega, by go_num, by rw [HW.out, World.drewN_drewN]⟩
      case measure => simp [intOf]; omega
    · clear hwr
      go_wp2
      go_ret
      exact ⟨rfl, _, HW.out⟩
end Go.Proofs.YtdcpkeagkfchoaaDoor
