/- Right. -/
import Derived.Test.YtdcpkeagkfchoaaDoorRright
namespace Go.Proofs.YtdcpkeagkfchoaaDoor
open Go.RowKit T6
set_option linter.unusedVariables false
section
attribute [local go_sem] ext_to ext_from ext_all byte_at
set_option maxRecDepth 100000 in
set_option maxHeartbeats 4000000 in
theorem right_any (c0 c2 : Value) (d : LineD) (hd : ShortL d) (w : World) (h0 : StrsAt w c0 d.labels) (h2 : StrsAt w c2 d.args) :
    Calls Tryd.prog 18 #[.agg #[c0, .string ⟨d.word.toArray⟩, c2]] w fun e w' => e = .returned (.bool (rightB d)) ∧ Below w.heap.size w w' := by
  obtain ⟨⟨hl, hlx⟩, hwd, ha, hax⟩ := hd
  obtain ⟨A0, C0, rfl, hA0⟩ := h0
  obtain ⟨A2, C2, rfl, hA2⟩ := h2
  have HA0 := Lib.hid hA0
  have HA2 := Lib.hid hA2
  have HLX := Lib.hid hlx
  have HAX := Lib.hid hax
  clear hA0 hA2 hlx hax
  go_enter Tryd.func18, Tryd.ntmps18
  have bX := Blok.made w 43 [.slice A0 d.labels.length C0, .string ⟨d.word.toArray⟩, .slice A2 d.args.length C2]
  have hB0 : Below w.heap.size w (w.alloc (.cells #[.slice A0 d.labels.length C0, .string ⟨d.word.toArray⟩, .slice A2 d.args.length C2] 43)) := (Below.refl _ w).alloc (Nat.le_refl _) _
  go_wp2
  go_loopw [10] (fun i wr => ∃ k : Nat, k ≤ d.labels.length ∧ i = .int .i64 k ∧ Blok wr w.heap.size 43 [.slice A0 d.labels.length C0, .string ⟨d.word.toArray⟩, .slice A2 d.args.length C2] ∧ (∀ j, j < k → ∀ h : j < d.labels.length, isPlainB d.labels[j] = true) ∧ Below w.heap.size w wr) (fun i _ => d.labels.length - (intOf i).toNat)
  case atStart => exact ⟨0, Nat.zero_le _, rfl, bX, fun j hj => absurd hj (Nat.not_lt_zero _), hB0⟩
  case round =>
    obtain ⟨k, hk, rfl, hX, hpl, hbel⟩ := hrel
    clear bX hB0
    have HPL := Lib.hid hpl
    clear hpl
    have x0 : wr.cell? ⟨w.heap.size, 0, none⟩ = some (.slice A0 d.labels.length C0) := hX.at_ 0
    have x1 : wr.cell? ⟨w.heap.size, 1, none⟩ = some (.string ⟨d.word.toArray⟩) := hX.at_ 1
    have x2 : wr.cell? ⟨w.heap.size, 2, none⟩ = some (.slice A2 d.args.length C2) := hX.at_ 2
    by_cases hlt : k < d.labels.length
    · obtain ⟨b1, o1, rfl, hc1⟩ := HA0.out (by omega)
      have q0 := hc1 k _ (List.getElem?_eq_getElem hlt)
      have q1 := (hbel.cell (block_lt_of_cell q0)).trans q0
      have hxl := HLX.out _ (List.getElem_mem hlt)
      have hbad := rightB_lab d k hlt
      obtain ⟨x, hx⟩ : ∃ x, d.labels[k] = x := ⟨_, rfl⟩
      rw [hx] at q1 hxl hbad
      have HX := Lib.hid hx
      have HBAD := Lib.hid hbad
      have hwh := isplain_any x (by omega)
      clear q0 hc1 HA0 hx hbad
      cases hv : isPlainB x with
      | false =>
        have hf := Lib.hid (HBAD.out hv)
        go_wp2_with (go_at_call 36; refine (hwh _).mono ?_; rintro e w2 ⟨rfl, hb2⟩; rw [hv])
        go_ret
        exact ⟨by rw [hf.out]; rfl, hbel.trans (hb2.mono hbel.size)⟩
      | true =>
        have HV := Lib.hid hv
        go_wp2_with (go_at_call 36; refine (hwh _).mono ?_; rintro e w2 ⟨rfl, hb2⟩; rw [hv])
        go_roundw
        case rel =>
          refine ⟨k + 1, by omega, by go_num, hX.keep (hb2.block _ hX.lt), fun j hj h => ?_, hbel.trans (hb2.mono hbel.size)⟩
          by_cases e : j = k
          · subst e; rw [HX.out]; exact HV.out
          · exact HPL.out j (by omega) h
        case measure => simp [intOf]; omega
    · have HALL : Hid (∀ j (h : j < d.labels.length), isPlainB d.labels[j] = true) := fun j h => HPL.out j (by omega) h
      clear HPL HA0
      go_wp2
      clear x0 x1 x2
      go_loopw [21] (fun i wr => ∃ k : Nat, k ≤ d.args.length ∧ i = .int .i64 k ∧ Blok wr w.heap.size 43 [.slice A0 d.labels.length C0, .string ⟨d.word.toArray⟩, .slice A2 d.args.length C2] ∧ (∀ j, j < k → ∀ h : j < d.args.length, isWordB d.args[j] = true) ∧ Below w.heap.size w wr) (fun i _ => d.args.length - (intOf i).toNat)
      case atStart => exact ⟨0, Nat.zero_le _, rfl, hX, fun j hj => absurd hj (Nat.not_lt_zero _), hbel⟩
      case round =>
        clear hX hbel
        obtain ⟨k2, hk2, rfl, hX, hpl, hbel⟩ := hrel
        have HPL := Lib.hid hpl
        clear hpl
        rename World => wq
        have x0 : wq.cell? ⟨w.heap.size, 0, none⟩ = some (.slice A0 d.labels.length C0) := hX.at_ 0
        have x1 : wq.cell? ⟨w.heap.size, 1, none⟩ = some (.string ⟨d.word.toArray⟩) := hX.at_ 1
        have x2 : wq.cell? ⟨w.heap.size, 2, none⟩ = some (.slice A2 d.args.length C2) := hX.at_ 2
        by_cases hlt : k2 < d.args.length
        · obtain ⟨b1, o1, rfl, hc1⟩ := HA2.out (by omega)
          have q0 := hc1 k2 _ (List.getElem?_eq_getElem hlt)
          have q1 := (hbel.cell (block_lt_of_cell q0)).trans q0
          have hxl := HAX.out _ (List.getElem_mem hlt)
          have hbad := rightB_arg d k2 hlt
          obtain ⟨x, hx⟩ : ∃ x, d.args[k2] = x := ⟨_, rfl⟩
          rw [hx] at q1 hxl hbad
          have HX := Lib.hid hx
          have HBAD := Lib.hid hbad
          have hwh := isword_any x (by omega)
          clear q0 hc1 HA2 hx hbad
          cases hv : isWordB x with
          | false =>
            have hf := Lib.hid (HBAD.out hv)
            go_wp2_with (go_at_call 37; refine (hwh _).mono ?_; rintro e w2 ⟨rfl, hb2⟩; rw [hv])
            go_ret
            exact ⟨by rw [hf.out]; rfl, hbel.trans (hb2.mono hbel.size)⟩
          | true =>
            have HV := Lib.hid hv
            go_wp2_with (go_at_call 37; refine (hwh _).mono ?_; rintro e w2 ⟨rfl, hb2⟩; rw [hv])
            go_roundw
            case rel =>
              refine ⟨k2 + 1, by omega, by go_num, hX.keep (hb2.block _ hX.lt), fun j hj h => ?_, hbel.trans (hb2.mono hbel.size)⟩
              by_cases e : j = k2
              · subst e; rw [HX.out]; exact HV.out
              · exact HPL.out j (by omega) h
            case measure => simp [intOf]; omega
        · have hR := Lib.hid (rightB_all d HALL.out (fun j h => HPL.out j (by omega) h))
          clear HPL HALL HA2
          by_cases hw0 : d.word = []
          · have he : (d.word == ([] : Str)) = true := by rw [hw0]; rfl
            have hwb : wordB d = ((d.args.length : Int) == 0) := by
              unfold wordB
              rw [if_pos hw0, Bool.eq_iff_iff]
              simp
            have HWB := Lib.hid hwb
            clear hwb hw0
            go_wp2
            go_ret
            exact ⟨by rw [hR.out, HWB.out]; rfl, hbel⟩
          · have he : (d.word == ([] : Str)) = false := by simp [hw0]
            have hwh := isplain_any d.word (by omega)
            have hlb := islab_any d.word
            have hwb : wordB d = (isPlainB d.word && !isLab d.word) := by unfold wordB; rw [if_neg hw0]
            cases hv : isPlainB d.word with
            | false =>
              rw [hv] at hwb
              have HWB := Lib.hid hwb
              clear hwb hw0
              go_wp2_with (go_at_call 36; refine (hwh _).mono ?_; rintro e w2 ⟨rfl, hb2⟩; rw [hv])
              go_ret
              exact ⟨by rw [hR.out, HWB.out]; rfl, hbel.trans (hb2.mono hbel.size)⟩
            | true =>
              rw [hv] at hwb
              have HWB := Lib.hid hwb
              clear hwb hw0
              go_wp2_with (first
                | (go_at_call 36; refine (hwh _).mono ?_; rintro e w2 ⟨rfl, hb2⟩; rw [hv]; have y1 := (hb2.cell (block_lt_of_cell x1)).trans x1)
                | (go_at_call 38; refine (hlb _ (by omega)).mono ?_; rintro e w3 ⟨rfl, rfl⟩))
              go_ret
              exact ⟨by rw [hR.out, HWB.out]; rfl, hbel.trans (hb2.mono hbel.size)⟩
end
end Go.Proofs.YtdcpkeagkfchoaaDoor
