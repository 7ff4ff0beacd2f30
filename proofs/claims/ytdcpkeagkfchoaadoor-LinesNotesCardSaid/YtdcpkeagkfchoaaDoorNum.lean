/- The values of numbers: the program's and the document's answer. -/
import Derived.Test.YtdcpkeagkfchoaaDoorLeaf
import Derived.IntWalk
namespace Go.Proofs.YtdcpkeagkfchoaaDoor
open Go.RowKit T6
set_option linter.unusedVariables false
/-! ### The plain mathematics -/
def hex16 : Str := [48, 49, 50, 51, 52, 53, 54, 55, 56, 57, 97, 98, 99, 100, 101, 102]
/-- The value of a digit of a base; -1: none. -/
def digI (base : Nat) (b : UInt8) : Int := Lib.indexByte (hex16.take base) b
def uns (base most : Int) (base' : Nat) : Str → Int → Option Int
  | [], v => some v
  | b :: t, v => if digI base' b < 0 then none else if most < v * base + digI base' b then none else uns base most base' t (v * base + digI base' b)
theorem digI_10 : ∀ n : Fin 256, digI 10 (UInt8.ofNat n.val) = if 48 ≤ n.val ∧ n.val ≤ 57 then (n.val : Int) - 48 else -1 := by decide +kernel
theorem digI_16 : ∀ n : Fin 256, digI 16 (UInt8.ofNat n.val) = if 48 ≤ n.val ∧ n.val ≤ 57 then (n.val : Int) - 48 else if 97 ≤ n.val ∧ n.val ≤ 102 then (n.val : Int) - 87 else -1 := by decide +kernel
theorem ofNat_self (b : UInt8) : UInt8.ofNat b.toNat = b := by simp
theorem digI_10b (b : UInt8) : digI 10 b = if 48 ≤ b.toNat ∧ b.toNat ≤ 57 then (b.toNat : Int) - 48 else -1 := by
  have := digI_10 ⟨b.toNat, b.toNat_lt⟩
  simpa [ofNat_self] using this
theorem digI_16b (b : UInt8) : digI 16 b = if 48 ≤ b.toNat ∧ b.toNat ≤ 57 then (b.toNat : Int) - 48 else if 97 ≤ b.toNat ∧ b.toNat ≤ 102 then (b.toNat : Int) - 87 else -1 := by
  have := digI_16 ⟨b.toNat, b.toNat_lt⟩
  simpa [ofNat_self] using this
theorem digI_bd (base : Nat) (hb : base = 10 ∨ base = 16) (b : UInt8) : -1 ≤ digI base b ∧ digI base b < base := by
  rcases hb with rfl | rfl
  · rw [digI_10b]; split <;> omega
  · rw [digI_16b]; split
    · omega
    · split <;> omega
theorem uns_mono (base m2 : Int) (base' : Nat) (hb : base' = 10 ∨ base' = 16) (hbb : base = base') : ∀ (l : Str) (v : Int), 0 ≤ v → ∀ x, uns base m2 base' l v = some x → v ≤ x
  | [], v, h0, x, h => by simp [uns] at h; omega
  | b :: t, v, h0, x, h => by
    have hd := digI_bd base' hb b
    have hbase : 10 ≤ base := by rcases hb with rfl | rfl <;> omega
    simp only [uns] at h
    by_cases h1 : digI base' b < 0
    · simp [h1] at h
    · simp only [h1, if_false] at h
      have hge : v ≤ v * base + digI base' b := by
        have : v * 1 ≤ v * base := Int.mul_le_mul_of_nonneg_left (by omega) h0
        omega
      by_cases h3 : m2 < v * base + digI base' b
      · simp [h3] at h
      · simp only [h3, if_false] at h
        have := uns_mono base m2 base' hb hbb t _ (by omega) x h
        omega
/-- A lesser bound refuses more. -/
theorem uns_less (base most m2 : Int) (base' : Nat) (hb : base' = 10 ∨ base' = 16) (hbb : base = base') (hm : most ≤ m2) : ∀ (l : Str) (v : Int), 0 ≤ v → v ≤ most →
    uns base most base' l v = (match uns base m2 base' l v with | none => none | some x => if x ≤ most then some x else none) ∧ ∀ x, uns base m2 base' l v = some x → v ≤ x
  | [], v, h0, hv => by simp [uns, hv]
  | b :: t, v, h0, hv => by
    have hd := digI_bd base' hb b
    have hbase : 10 ≤ base := by rcases hb with rfl | rfl <;> omega
    simp only [uns]
    by_cases h1 : digI base' b < 0
    · simp [h1]
    · simp only [h1, if_false]
      have hge : v ≤ v * base + digI base' b := by
        have : v * 1 ≤ v * base := Int.mul_le_mul_of_nonneg_left (by omega) h0
        omega
      by_cases h2 : most < v * base + digI base' b
      · simp only [h2, if_true]
        by_cases h3 : m2 < v * base + digI base' b
        · simp [h3]
        · simp only [h3, if_false]
          have hmono := uns_mono base m2 base' hb hbb t (v * base + digI base' b) (by omega)
          constructor
          · cases hu : uns base m2 base' t (v * base + digI base' b) with
            | none => rfl
            | some x =>
              have := hmono x hu
              simp only
              rw [if_neg (by omega)]
          · intro x hx
            have := hmono x hx
            omega
      · simp only [h2, if_false]
        rw [if_neg (by omega)]
        have ih := uns_less base most m2 base' hb hbb hm t (v * base + digI base' b) (by omega) (by omega)
        exact ⟨ih.1, fun x hx => by have := ih.2 x hx; omega⟩
/-- What unsigned tells. -/
def unsP (base : Nat) (most : Int) (l : Str) : Int × Bool := match uns base most base l 0 with | none => (0, false) | some v => (v, !l.isEmpty)
theorem unsP_none10 {most : Int} {l : Str} (h : uns 10 most 10 l 0 = none) : unsP 10 most l = (0, false) := by
  unfold unsP
  rw [show ((10 : Nat) : Int) = 10 from rfl, h]
theorem unsP_some10 {most v : Int} {l : Str} (h : uns 10 most 10 l 0 = some v) : unsP 10 most l = (v, !l.isEmpty) := by
  unfold unsP
  rw [show ((10 : Nat) : Int) = 10 from rfl, h]
theorem unsP_none16 {most : Int} {l : Str} (h : uns 16 most 16 l 0 = none) : unsP 16 most l = (0, false) := by
  unfold unsP
  rw [show ((16 : Nat) : Int) = 16 from rfl, h]
theorem unsP_some16 {most v : Int} {l : Str} (h : uns 16 most 16 l 0 = some v) : unsP 16 most l = (v, !l.isEmpty) := by
  unfold unsP
  rw [show ((16 : Nat) : Int) = 16 from rfl, h]
/-! ### unsigned -/
section
theorem byte_at (l : Str) (k : Nat) (h : k < (⟨l.toArray⟩ : ByteArray).size) : (⟨l.toArray⟩ : ByteArray)[k]'h = l[k]'h := by
  show l.toArray[k] = _
  simp
attribute [local go_sem] ext_to ext_from byte_at
theorem hex_byte (base : Nat) (hb : base = 10 ∨ base = 16) (c : UInt8) (w : World) : Calls Tryd.prog 60 #[.string ⟨(hex16.take base).toArray⟩, .int .u8 (c.toNat : Int)] w fun e w' => e = .returned (.int .i64 (digI base c)) ∧ w' = w := by
  have h := Tryd.strings_IndexByte ⟨(hex16.take base).toArray⟩ (c.toNat : Int) w
  have hback : ((c.toNat : Int)).toNat.toUInt8 = c := by simp
  rw [hback] at h
  exact h
def UnsIs (r : Int × Bool) (w : World) (e : Ending) (w' : World) : Prop := e = .returned (.tuple #[.int .i64 r.1, .bool r.2]) ∧ Below w.heap.size w w'
set_option maxRecDepth 100000 in
set_option maxHeartbeats 2000000 in
theorem unsigned_10 (l : Str) (hl : l.length ≤ 1000000000) (most : Int) (h0 : 0 ≤ most) (h1 : most ≤ 4294967296) (w : World) :
    Calls Tryd.prog 42 #[.string ⟨l.toArray⟩, .int .i64 10, .int .i64 most] w (UnsIs (unsP 10 most l) w) := by
  go_enter Tryd.func42, Tryd.ntmps42
  go_wp2
  go_loopw [8, 13] (fun v i wr => ∃ (k : Nat) (x : Int), k ≤ l.length ∧ i = .int .i64 k ∧ v = .int .i64 x ∧ 0 ≤ x ∧ x ≤ most ∧ uns 10 most 10 l 0 = uns 10 most 10 (l.drop k) x ∧ Below w.heap.size w wr) (fun _ i _ => l.length - (intOf i).toNat)
  case atStart => exact ⟨0, 0, Nat.zero_le _, rfl, rfl, Int.le_refl _, h0, rfl, Below.refl _ _⟩
  case round =>
    obtain ⟨k, x, hk, rfl, rfl, hx0, hx1, hu, hbel⟩ := hrel
    by_cases hlt : k < l.length
    · have hd := digI_bd 10 (by decide) (l[k])
      have hib : ∀ w : World, Calls Tryd.prog 60 #[.string ⟨#[48, 49, 50, 51, 52, 53, 54, 55, 56, 57]⟩, .int .u8 ((l[k]).toNat : Int)] w fun e w' => e = .returned (.int .i64 (digI 10 (l[k]))) ∧ w' = w := hex_byte 10 (by decide) (l[k])
      rw [List.drop_eq_getElem_cons hlt] at hu
      simp only [uns] at hu
      generalize digI 10 (l[k]) = d at *
      have hbel2 := Lib.hid hbel
      clear hbel
      by_cases hneg : d < 0
      · rw [if_pos hneg] at hu
        have HU := Lib.hid hu
        clear hu
        go_wp2
        go_quiet ((go_at_call 60; exact Calls.quiet_of_same (hib _)))
        go_wp2
        go_ret2
        exact ⟨by rw [unsP_none10 HU.out]; rfl, below_drewN hbel2.out _⟩
      · rw [if_neg hneg] at hu
        by_cases hbig : most < x * 10 + d
        · rw [if_pos hbig] at hu
          have HU := Lib.hid hu
          clear hu
          go_wp2
          go_quiet ((go_at_call 60; exact Calls.quiet_of_same (hib _)))
          go_wp2
          go_ret2
          exact ⟨by rw [unsP_none10 HU.out]; rfl, below_drewN hbel2.out _⟩
        · rw [if_neg hbig] at hu
          have HU := Lib.hid hu
          clear hu
          go_wp2
          go_quiet ((go_at_call 60; exact Calls.quiet_of_same (hib _)))
          go_wp2
          go_roundw
          case rel => exact ⟨k + 1, x * 10 + d, by omega, by go_num, rfl, by omega, by omega, HU.out, below_drewN hbel2.out _⟩
          case measure => simp [intOf]; omega
    · have hkk : k = l.length := by omega
      have HK := Lib.hid hkk
      have hE : (!l.isEmpty) = !l.isEmpty := rfl
      have HU := Lib.hid hu
      clear hu hkk
      go_wp2
      go_ret2
      have hend := HU.out
      rw [HK.out, List.drop_length] at hend
      exact ⟨by rw [unsP_some10 hend]; simp, hbel⟩
set_option maxRecDepth 100000 in
set_option maxHeartbeats 2000000 in
theorem unsigned_16 (l : Str) (hl : l.length ≤ 1000000000) (most : Int) (h0 : 0 ≤ most) (h1 : most ≤ 4294967296) (w : World) :
    Calls Tryd.prog 42 #[.string ⟨l.toArray⟩, .int .i64 16, .int .i64 most] w (UnsIs (unsP 16 most l) w) := by
  go_enter Tryd.func42, Tryd.ntmps42
  go_wp2
  go_loopw [8, 13] (fun v i wr => ∃ (k : Nat) (x : Int), k ≤ l.length ∧ i = .int .i64 k ∧ v = .int .i64 x ∧ 0 ≤ x ∧ x ≤ most ∧ uns 16 most 16 l 0 = uns 16 most 16 (l.drop k) x ∧ Below w.heap.size w wr) (fun _ i _ => l.length - (intOf i).toNat)
  case atStart => exact ⟨0, 0, Nat.zero_le _, rfl, rfl, Int.le_refl _, h0, rfl, Below.refl _ _⟩
  case round =>
    obtain ⟨k, x, hk, rfl, rfl, hx0, hx1, hu, hbel⟩ := hrel
    by_cases hlt : k < l.length
    · have hd := digI_bd 16 (by decide) (l[k])
      have hib : ∀ w : World, Calls Tryd.prog 60 #[.string ⟨#[48, 49, 50, 51, 52, 53, 54, 55, 56, 57, 97, 98, 99, 100, 101, 102]⟩, .int .u8 ((l[k]).toNat : Int)] w fun e w' => e = .returned (.int .i64 (digI 16 (l[k]))) ∧ w' = w := hex_byte 16 (by decide) (l[k])
      rw [List.drop_eq_getElem_cons hlt] at hu
      simp only [uns] at hu
      generalize digI 16 (l[k]) = d at *
      have hbel2 := Lib.hid hbel
      clear hbel
      by_cases hneg : d < 0
      · rw [if_pos hneg] at hu
        have HU := Lib.hid hu
        clear hu
        go_wp2
        go_quiet ((go_at_call 60; exact Calls.quiet_of_same (hib _)))
        go_wp2
        go_ret2
        exact ⟨by rw [unsP_none16 HU.out]; rfl, below_drewN hbel2.out _⟩
      · rw [if_neg hneg] at hu
        by_cases hbig : most < x * 16 + d
        · rw [if_pos hbig] at hu
          have HU := Lib.hid hu
          clear hu
          go_wp2
          go_quiet ((go_at_call 60; exact Calls.quiet_of_same (hib _)))
          go_wp2
          go_ret2
          exact ⟨by rw [unsP_none16 HU.out]; rfl, below_drewN hbel2.out _⟩
        · rw [if_neg hbig] at hu
          have HU := Lib.hid hu
          clear hu
          go_wp2
          go_quiet ((go_at_call 60; exact Calls.quiet_of_same (hib _)))
          go_wp2
          go_roundw
          case rel => exact ⟨k + 1, x * 16 + d, by omega, by go_num, rfl, by omega, by omega, HU.out, below_drewN hbel2.out _⟩
          case measure => simp [intOf]; omega
    · have hkk : k = l.length := by omega
      have HK := Lib.hid hkk
      have hE : (!l.isEmpty) = !l.isEmpty := rfl
      have HU := Lib.hid hu
      clear hu hkk
      go_wp2
      go_ret2
      have hend := HU.out
      rw [HK.out, List.drop_length] at hend
      exact ⟨by rw [unsP_some16 hend]; simp, hbel⟩
end
end Go.Proofs.YtdcpkeagkfchoaaDoor
