/- The document's Right. -/
import Derived.Test.YtdcpkeagkfchoaaDoorRwhole
namespace Go.Proofs.YtdcpkeagkfchoaaDoor
open Go.RowKit T6
set_option linter.unusedVariables false
def wordB (d : LineD) : Bool := if d.word = [] then d.args.isEmpty else isPlainB d.word && !isLab d.word
/-- Is a line valid? -/
def rightB (d : LineD) : Bool := d.labels.all isPlainB && d.args.all isWordB && wordB d
theorem rightB_lab (d : LineD) (k : Nat) (hk : k < d.labels.length) (h : isPlainB d.labels[k] = false) : rightB d = false := by
  have : d.labels.all isPlainB = false := by
    rw [← Bool.not_eq_true, List.all_eq_true]
    intro h2
    rw [h2 _ (List.getElem_mem hk)] at h
    cases h
  unfold rightB
  rw [this]
  rfl
theorem rightB_arg (d : LineD) (k : Nat) (hk : k < d.args.length) (h : isWordB d.args[k] = false) : rightB d = false := by
  have : d.args.all isWordB = false := by
    rw [← Bool.not_eq_true, List.all_eq_true]
    intro h2
    rw [h2 _ (List.getElem_mem hk)] at h
    cases h
  unfold rightB
  rw [this]
  simp
theorem rightB_all (d : LineD) (h0 : ∀ j (hj : j < d.labels.length), isPlainB d.labels[j] = true) (h2 : ∀ j (hj : j < d.args.length), isWordB d.args[j] = true) : rightB d = wordB d := by
  have e0 : d.labels.all isPlainB = true := List.all_eq_true.2 fun x hx => by
    obtain ⟨j, hj, rfl⟩ := List.getElem_of_mem hx
    exact h0 j hj
  have e2 : d.args.all isWordB = true := List.all_eq_true.2 fun x hx => by
    obtain ⟨j, hj, rfl⟩ := List.getElem_of_mem hx
    exact h2 j hj
  unfold rightB
  rw [e0, e2]
  rfl
theorem isPlainB_eq (x : Str) (h0 : 0 < x.length) : isPlainB x = (isWordB x && !((x[0].toNat : Int) == 34)) := by
  unfold isPlainB
  congr 1
  rw [List.getElem?_eq_getElem h0, Option.getD_some]
  by_cases h : x[0] = 34
  · rw [h]; rfl
  · have he : ((x[0].toNat : Int) == 34) = false := eq_f (n := 34) h
    rw [he]
    simp [h]
theorem isPlainB_nil : isPlainB [] = false := rfl
/-- A line's texts are short. -/
def ShortL (d : LineD) : Prop := (d.labels.length ≤ 1000000 ∧ ∀ x ∈ d.labels, x.length ≤ 1000000) ∧ d.word.length ≤ 1000000 ∧ (d.args.length ≤ 1000000 ∧ ∀ x ∈ d.args, x.length ≤ 1000000)
section
attribute [local go_sem] ext_to ext_from ext_all byte_at
set_option maxRecDepth 100000 in
set_option maxHeartbeats 4000000 in
theorem rright_any (c0 c2 : Value) (d : LineD) (hd : ShortL d) (w : World) (h0 : StrsAt w c0 d.labels) (h2 : StrsAt w c2 d.args) :
    Calls Tryd.prog 19 #[.agg #[c0, .string ⟨d.word.toArray⟩, c2]] w fun e w' => e = .returned (.bool (rightB d)) ∧ Below w.heap.size w w' := by
  obtain ⟨⟨hl, hlx⟩, hwd, ha, hax⟩ := hd
  obtain ⟨A0, C0, rfl, hA0⟩ := h0
  obtain ⟨A2, C2, rfl, hA2⟩ := h2
  have HA0 := Lib.hid hA0
  have HA2 := Lib.hid hA2
  have HLX := Lib.hid hlx
  have HAX := Lib.hid hax
  clear hA0 hA2 hlx hax
  go_enter Tryd.func19, Tryd.ntmps19
  go_wp2
  have bX := Blok.made w 45 [.slice A0 d.labels.length C0, .string ⟨d.word.toArray⟩, .slice A2 d.args.length C2]
  have hB0 : Below w.heap.size w (w.alloc (.cells #[.slice A0 d.labels.length C0, .string ⟨d.word.toArray⟩, .slice A2 d.args.length C2] 45)) := (Below.refl _ w).alloc (Nat.le_refl _) _
  go_loopw [3] (fun i wr => ∃ k : Nat, k ≤ d.labels.length ∧ i = .int .i64 k ∧ Blok wr w.heap.size 45 [.slice A0 d.labels.length C0, .string ⟨d.word.toArray⟩, .slice A2 d.args.length C2] ∧ (∀ j, j < k → ∀ h : j < d.labels.length, isPlainB d.labels[j] = true) ∧ Below w.heap.size w wr) (fun i _ => d.labels.length - (intOf i).toNat)
  case atStart => exact ⟨0, Nat.zero_le _, rfl, bX, fun j hj => absurd hj (Nat.not_lt_zero _), hB0⟩
  case round =>
    obtain ⟨k, hk, rfl, hX, hpl, hbel⟩ := hrel
    clear bX hB0
    have HPL := Lib.hid hpl
    clear hpl
    have x0 : wr.cell? ⟨w.heap.size, 0, none⟩ = some (.slice A0 d.labels.length C0) := hX.at_ 0
    have x1 : wr.cell? ⟨w.heap.size, 1, none⟩ = some (.string ⟨d.word.toArray⟩) := hX.at_ 1
    have x2 : wr.cell? ⟨w.heap.size, 2, none⟩ = some (.slice A2 d.args.length C2) := hX.at_ 2
    by_cases hlt : k < d.labels.length
    · obtain ⟨b1, o1, rfl, hc1⟩ := HA0.out (by omega)
      have q0 := hc1 k _ (List.getElem?_eq_getElem hlt)
      have q1 := (hbel.cell (block_lt_of_cell q0)).trans q0
      have hxl := HLX.out _ (List.getElem_mem hlt)
      have hbad := rightB_lab d k hlt
      obtain ⟨x, hx⟩ : ∃ x, d.labels[k] = x := ⟨_, rfl⟩
      rw [hx] at q1 hxl hbad
      have HX := Lib.hid hx
      have HBAD := Lib.hid hbad
      clear q0 hc1 HA0 hx hbad
      by_cases hx0 : x = []
      · subst hx0
        have hf := Lib.hid (HBAD.out isPlainB_nil)
        go_wp2
        go_ret
        exact ⟨by rw [hf.out]; rfl, hbel⟩
      · have hpos : 0 < x.length := List.length_pos_iff.2 hx0
        have hne : (x == ([] : Str)) = false := by simp [hx0]
        have hp := isPlainB_eq x hpos
        have hwh := rwhole_any x hxl
        cases h34 : ((x[0].toNat : Int) == 34) with
        | true =>
          rw [h34] at hp
          have hf := Lib.hid (HBAD.out (by rw [hp]; simp))
          clear hp hwh
          go_wp2
          go_ret
          exact ⟨by rw [hf.out]; rfl, hbel⟩
        | false =>
          rw [h34] at hp
          cases hv : isWordB x with
          | false =>
            rw [hv] at hp
            have hf := Lib.hid (HBAD.out (by rw [hp]; rfl))
            clear hp
            go_wp2_with (go_at_call 39; refine (hwh _).mono ?_; rintro e w2 ⟨rfl, hb2⟩; rw [hv])
            go_ret
            exact ⟨by rw [hf.out]; rfl, hbel.trans (hb2.mono hbel.size)⟩
          | true =>
            rw [hv] at hp
            have HP := Lib.hid hp
            clear hp
            go_wp2_with (go_at_call 39; refine (hwh _).mono ?_; rintro e w2 ⟨rfl, hb2⟩; rw [hv])
            go_roundw
            case rel =>
              refine ⟨k + 1, by omega, by go_num, hX.keep (hb2.block _ hX.lt), fun j hj h => ?_, hbel.trans (hb2.mono hbel.size)⟩
              by_cases e : j = k
              · subst e; rw [HX.out]; exact HP.out
              · exact HPL.out j (by omega) h
            case measure => simp [intOf]; omega
    · have HALL : Hid (∀ j (h : j < d.labels.length), isPlainB d.labels[j] = true) := fun j h => HPL.out j (by omega) h
      clear HPL HA0
      go_wp2
      clear x0 x1 x2
      go_loopw [4] (fun i wr => ∃ k : Nat, k ≤ d.args.length ∧ i = .int .i64 k ∧ Blok wr w.heap.size 45 [.slice A0 d.labels.length C0, .string ⟨d.word.toArray⟩, .slice A2 d.args.length C2] ∧ (∀ j, j < k → ∀ h : j < d.args.length, isWordB d.args[j] = true) ∧ Below w.heap.size w wr) (fun i _ => d.args.length - (intOf i).toNat)
      case atStart => exact ⟨0, Nat.zero_le _, rfl, hX, fun j hj => absurd hj (Nat.not_lt_zero _), hbel⟩
      case round =>
        clear hX hbel
        obtain ⟨k2, hk2, rfl, hX, hpl, hbel⟩ := hrel
        have HPL := Lib.hid hpl
        clear hpl
        rename World => wq
        have x0 : wq.cell? ⟨w.heap.size, 0, none⟩ = some (.slice A0 d.labels.length C0) := hX.at_ 0
        have x1 : wq.cell? ⟨w.heap.size, 1, none⟩ = some (.string ⟨d.word.toArray⟩) := hX.at_ 1
        have x2 : wq.cell? ⟨w.heap.size, 2, none⟩ = some (.slice A2 d.args.length C2) := hX.at_ 2
        by_cases hlt : k2 < d.args.length
        · obtain ⟨b1, o1, rfl, hc1⟩ := HA2.out (by omega)
          have q0 := hc1 k2 _ (List.getElem?_eq_getElem hlt)
          have q1 := (hbel.cell (block_lt_of_cell q0)).trans q0
          have hxl := HAX.out _ (List.getElem_mem hlt)
          have hbad := rightB_arg d k2 hlt
          obtain ⟨x, hx⟩ : ∃ x, d.args[k2] = x := ⟨_, rfl⟩
          rw [hx] at q1 hxl hbad
          have HX := Lib.hid hx
          have HBAD := Lib.hid hbad
          have hwh := rwhole_any x hxl
          clear q0 hc1 HA2 hx hbad
          cases hv : isWordB x with
          | false =>
            have hf := Lib.hid (HBAD.out hv)
            go_wp2_with (go_at_call 39; refine (hwh _).mono ?_; rintro e w2 ⟨rfl, hb2⟩; rw [hv])
            go_ret
            exact ⟨by rw [hf.out]; rfl, hbel.trans (hb2.mono hbel.size)⟩
          | true =>
            have HV := Lib.hid hv
            go_wp2_with (go_at_call 39; refine (hwh _).mono ?_; rintro e w2 ⟨rfl, hb2⟩; rw [hv])
            go_roundw
            case rel =>
              refine ⟨k2 + 1, by omega, by go_num, hX.keep (hb2.block _ hX.lt), fun j hj h => ?_, hbel.trans (hb2.mono hbel.size)⟩
              by_cases e : j = k2
              · subst e; rw [HX.out]; exact HV.out
              · exact HPL.out j (by omega) h
            case measure => simp [intOf]; omega
        · have hR := Lib.hid (rightB_all d HALL.out (fun j h => HPL.out j (by omega) h))
          clear HPL HALL HA2
          by_cases hw0 : d.word = []
          · have he : (d.word == ([] : Str)) = true := by rw [hw0]; rfl
            have hwb : wordB d = ((d.args.length : Int) == 0) := by
              unfold wordB
              rw [if_pos hw0, Bool.eq_iff_iff]
              simp
            have HWB := Lib.hid hwb
            clear hwb hw0
            go_wp2
            go_ret
            exact ⟨by rw [hR.out, HWB.out]; rfl, hbel⟩
          · have he : (d.word == ([] : Str)) = false := by simp [hw0]
            have hpos : 0 < d.word.length := List.length_pos_iff.2 hw0
            have hp := isPlainB_eq d.word hpos
            have hwh := rwhole_any d.word hwd
            have hlb := label_any d.word
            have hwb : wordB d = (isPlainB d.word && !isLab d.word) := by unfold wordB; rw [if_neg hw0]
            cases hv : isWordB d.word with
            | false =>
              rw [hp, hv] at hwb
              have HWB := Lib.hid hwb
              clear hwb hp hw0
              go_wp2_with (go_at_call 39; refine (hwh _).mono ?_; rintro e w2 ⟨rfl, hb2⟩; rw [hv])
              go_ret
              exact ⟨by rw [hR.out, HWB.out]; rfl, hbel.trans (hb2.mono hbel.size)⟩
            | true =>
              rw [hp, hv] at hwb
              cases h34 : ((d.word[0].toNat : Int) == 34) with
              | true =>
                rw [h34] at hwb
                have h34n : ((d.word[0].toNat : Int) != 34) = false := by rw [bne, h34]; rfl
                have HWB := Lib.hid hwb
                clear hwb hp hw0 h34
                go_wp2_with (go_at_call 39; refine (hwh _).mono ?_; rintro e w2 ⟨rfl, hb2⟩; rw [hv]; have y1 := (hb2.cell (block_lt_of_cell x1)).trans x1)
                go_ret
                exact ⟨by rw [hR.out, HWB.out]; rfl, hbel.trans (hb2.mono hbel.size)⟩
              | false =>
                rw [h34] at hwb
                have h34n : ((d.word[0].toNat : Int) != 34) = true := by rw [bne, h34]; rfl
                have hok : okW d.word := ⟨hw0, fun h => by
                  rw [List.getElem?_eq_getElem hpos, Option.getD_some] at h
                  rw [h] at h34
                  cases h34⟩
                rw [lab_same d.word hok] at hwb
                have HWB := Lib.hid hwb
                clear hwb hp hw0 h34 hok
                go_wp2_with (first
                  | (go_at_call 39; refine (hwh _).mono ?_; rintro e w2 ⟨rfl, hb2⟩; rw [hv]; have y1 := (hb2.cell (block_lt_of_cell x1)).trans x1)
                  | (go_at_call 40; refine (hlb _ (by omega)).mono ?_; rintro e w3 ⟨rfl, rfl⟩))
                go_ret
                exact ⟨by rw [hR.out, HWB.out]; rfl, hbel.trans (hb2.mono hbel.size)⟩
end
end Go.Proofs.YtdcpkeagkfchoaaDoor
