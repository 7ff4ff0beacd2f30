/- The document's memory: what Write, Bytes, Put answer, whatever is asked. -/
import Derived.Test.YtkcblemiphpmaaaRefOps
import Derived.RegionTactic
namespace Go.Proofs.Ytkcblemiphpmaaa
open Go.RowKit
set_option linter.unusedVariables false

theorem rwrite_no (g rb : Nat) (R : Option Addr) (rc : Nat) (bs : List UInt8) (hs : List (Int × Int)) (at_ n v r : Int) (a0 : 0 ≤ at_) (a1 : at_ < 4294967296) (w : World) (h : IsRef w g rb R rc bs hs) (he : errV bs.length hs at_ n = r) (hr : (r != 0) = true) :
    Calls Try.prog 22 #[.pointer (some ⟨g, 0, none⟩), .int .u32 at_, .int .i64 n, .int .u32 v] w fun e w' => e = .returned (.int .i64 r) ∧ w = w' := by
  have HE := Lib.hid he
  have hr2 : (r == 0) = false := by simpa using hr
  clear he hr
  by_cases h0 : 0 < n
  all_goals
    try have h1 : n ≤ 0 := by omega
    go_enter Try.func22, Try.ntmps22
    go_wp2_with (first | (go_at_call 27; refine (ask_any g rb R rc bs hs at_ n a0 a1 _ h).mono ?_; rw [HE.out]; rintro e w1 ⟨rfl, rfl⟩))
    go_loop [10] (fun i => i = .int .i64 0) (fun _ => 0)
    case atStart => rfl
    case round =>
      subst hrel
      go_wp2
      go_ret
      exact ⟨rfl, rfl⟩
theorem IsRef.drew {w : World} {g rb : Nat} {R : Option Addr} {rc : Nat} {bs : List UInt8} {hs : List (Int × Int)} (h : IsRef w g rb R rc bs hs) : IsRef w.drew g rb R rc bs hs :=
  ⟨h.self.drew, h.bytes.drew, h.holes.drew, h.small, h.few, h.ok⟩
theorem grown_drew {a w : World} {row : Option Nat} (h : a.grownBy w row) : a.grownBy w.drew row := ⟨h.os, h.tape, h.output, h.size, h.block⟩
def LeavesR (v : Value) (g rb : Nat) (R : Option Addr) (rc : Nat) (bs : List UInt8) (hs : List (Int × Int)) (w : World) (e : Ending) (w' : World) : Prop := e = .returned v ∧ IsRef w' g rb R rc bs hs ∧ w.grownBy w' (some rb)
theorem rwrite_any (g rb : Nat) (R : Option Addr) (rc : Nat) (bs : List UInt8) (hs : List (Int × Int)) (at_ n v : Int) (a0 : 0 ≤ at_) (a1 : at_ < 4294967296) (v0 : 0 ≤ v) (v1 : v < 4294967296) (w : World) (h : IsRef w g rb R rc bs hs) :
    Calls Try.prog 22 #[.pointer (some ⟨g, 0, none⟩), .int .u32 at_, .int .i64 n, .int .u32 v] w (LeavesR (.int .i64 (errV bs.length hs at_ n)) g rb R rc (wroteA bs hs at_ n v) hs w) := by
  rcases errV_cases bs.length hs at_ n with e | e
  · obtain ⟨k, rfl⟩ := Int.eq_ofNat_of_zero_le a0
    have hn := (errV_ok e).1
    obtain ⟨m, rfl⟩ := Int.eq_ofNat_of_zero_le (show 0 ≤ n by omega)
    have hx := rwrite_yes g rb R rc bs hs k m v (by omega) v0 v1 w h e
    rw [e, show wroteA bs hs k m v = splice bs k ((word4 v).take m) by simp [wroteA, e]]
    exact hx
  · have hx := rwrite_no g rb R rc bs hs at_ n v _ a0 a1 w h rfl e
    rw [bne_iff_ne] at e
    rw [show wroteA bs hs at_ n v = bs by simp [wroteA, e]]
    exact hx.mono fun _ _ ⟨q1, q2⟩ => ⟨q1, q2 ▸ h, q2 ▸ World.grownBy.refl w _⟩

/-! Put -/
theorem rput_far (g rb : Nat) (R : Option Addr) (rc : Nat) (bs : List UInt8) (hs : List (Int × Int)) (at_ : Int) (a0 : 0 ≤ at_) (a1 : at_ < 4294967296) (A : Option Addr) (l c : Nat) (w : World) (h : IsRef w g rb R rc bs hs)
    (hl : l ≤ 9223372036854775807) (hr : (bs.length : Int) - at_ < l) :
    Calls Try.prog 24 #[.pointer (some ⟨g, 0, none⟩), .int .u32 at_, .slice A l c] w fun e w' => e = .returned (.int .i64 30) ∧ w = w' := by
  have c0 : w.cell? ⟨g, 0, none⟩ = some (.slice (some ⟨rb, 0, none⟩) bs.length bs.length) := h.self.at_ 0
  have hs1 := h.small
  by_cases h1 : bs.length < l
  · have h1i : (bs.length : Int) < l := by omega
    go_enter Try.func24, Try.ntmps24
    go_wp2
    go_ret
    exact ⟨rfl, rfl⟩
  · have h1i : (l : Int) ≤ bs.length := by omega
    have h2 : (bs.length : Int) - l < at_ := by omega
    clear h1 hr
    go_enter Try.func24, Try.ntmps24
    go_wp2
    go_ret
    exact ⟨rfl, rfl⟩
theorem Holds.plain {w : World} {A : Option Addr} {xs : List UInt8} (h : Holds w A xs) (h0 : 0 < xs.length) : ∃ b o, A = some ⟨b, o, none⟩ ∧ ∀ j u, (bv xs)[j]? = some u → w.cell? ⟨b, o + j, none⟩ = some u := by
  obtain ⟨ad, rfl, hc⟩ := h h0
  have h00 := hc 0 _ (List.getElem?_eq_getElem (by rw [length_bv]; exact h0))
  have hsp : ad.spot = none := by
    have e := World.cell?_spot h00
    simpa [Addr.add] using e
  obtain ⟨b, o, sp⟩ := ad
  obtain rfl : sp = none := hsp
  refine ⟨b, o, rfl, fun j u hj => ?_⟩
  have e := hc j u hj
  rwa [addr_add] at e
set_option maxHeartbeats 400000 in
theorem rput_in (g rb : Nat) (R : Option Addr) (rc : Nat) (bs : List UInt8) (hs : List (Int × Int)) (k : Nat) (hk : k < 4294967296) (b o : Nat) (xs : List UInt8) (c : Nat) (w : World) (h : IsRef w g rb R rc bs hs)
    (hx : ∀ j u, (bv xs)[j]? = some u → w.cell? ⟨b, o + j, none⟩ = some u) (hb : b ≠ rb) (hbw : b < w.heap.size) (hr : k + xs.length ≤ bs.length) :
    Calls Try.prog 24 #[.pointer (some ⟨g, 0, none⟩), .int .u32 k, .slice (some ⟨b, o, none⟩) xs.length c] w fun e w' => e = .returned (.int .i64 0) ∧ IsRef w' g rb R rc (splice bs k xs) hs ∧ w.grownBy w' (some rb) := by
  have hs1 := h.small
  have c0 : w.cell? ⟨g, 0, none⟩ = some (.slice (some ⟨rb, 0, none⟩) bs.length bs.length) := h.self.at_ 0
  have hsp0 : splice bs k (xs.take 0) = bs := by simp [splice]
  have hrl : xs.length ≤ bs.length := by omega
  have HX := Lib.hid hx
  clear hx
  go_enter Try.func24, Try.ntmps24
  go_wp2
  go_loopw [7] (fun i wr => ∃ (j : Nat) (L : List UInt8), j ≤ xs.length ∧ i = .int .i64 j ∧ IsRef wr g rb R rc L hs ∧ Hid (L = splice bs k (xs.take j)) ∧ L.length = bs.length ∧ w.grownBy wr (some rb)) (fun i _ => xs.length - (intOf i).toNat)
  case atStart => exact ⟨0, bs, by omega, rfl, h, hsp0.symm, rfl, World.grownBy.refl w _⟩
  case round =>
    obtain ⟨j, L, hj, rfl, hr', HLe, hLl, hg⟩ := hrel
    have HLl := Lib.hid hLl
    clear hLl
    clear c0
    have c0 : wr.cell? ⟨g, 0, none⟩ = some (.slice (some ⟨rb, 0, none⟩) L.length L.length) := hr'.self.at_ 0
    have hLb : bs.length ≤ L.length ∧ L.length ≤ bs.length := by rw [HLl.out]; omega
    obtain ⟨l1, l2⟩ := hLb
    by_cases hlt : j < xs.length
    · obtain ⟨x, hxj⟩ : ∃ x, xs[j]? = some x := ⟨_, List.getElem?_eq_getElem hlt⟩
      obtain ⟨y, hy⟩ : ∃ y, L[k + j]? = some y := ⟨_, List.getElem?_eq_getElem (by omega)⟩
      have hcell : wr.cell? ⟨rb, k + j, none⟩ = some (.int .u8 (y.toNat : Int)) := (hr'.bytes.at_ _).trans (bv_get L _ y hy)
      have hfr := hr'.bytes.free (k + j)
      have hsrc : wr.cell? ⟨b, o + j, none⟩ = some (.int .u8 (x.toNat : Int)) := (World.cell?_of_block (w := w) (a := ⟨b, o + j, none⟩) (hg.block b hbw (fun q => hb (by injection q)))).trans (HX.out j _ (bv_get xs j x hxj))
      have HXJ := Lib.hid hxj
      clear hy hxj
      go_wp2
      go_region
      all_goals
        go_wp2
        go_roundw
        case rel =>
          have hset := hr'.bytes.set_ (k + j) (.int .u8 (x.toNat : Int))
          rw [bv_set] at hset
          have hL2 : L.set (k + j) x = splice bs k (xs.take (j + 1)) := by
            rw [HLe.out]
            exact splice_set bs xs k j x HXJ.out hr
          have hg2 := grown_set wr rb (k + j) (.int .u8 (x.toNat : Int))
          have hr2 := hr'.wrote hg2 hset (by simp)
          exact ⟨j + 1, L.set (k + j) x, by omega, by go_num, hr2.drew, hL2, by simpa using HLl.out, grown_drew (grown_trans2 hg hg2)⟩
        case measure => simp [intOf]; omega
    · obtain rfl : j = xs.length := by omega
      go_wp2
      go_ret
      have e := HLe.out
      rw [List.take_length] at e
      subst e
      exact ⟨rfl, hr', hg⟩
theorem rput_none (g rb : Nat) (R : Option Addr) (rc : Nat) (bs : List UInt8) (hs : List (Int × Int)) (k : Nat) (hk : k < 4294967296) (A : Option Addr) (c : Nat) (w : World) (h : IsRef w g rb R rc bs hs) (hr : k ≤ bs.length) :
    Calls Try.prog 24 #[.pointer (some ⟨g, 0, none⟩), .int .u32 k, .slice A 0 c] w fun e w' => e = .returned (.int .i64 0) ∧ w = w' := by
  have hs1 := h.small
  have c0 : w.cell? ⟨g, 0, none⟩ = some (.slice (some ⟨rb, 0, none⟩) bs.length bs.length) := h.self.at_ 0
  have hk2 : (k : Int) ≤ bs.length := by omega
  go_enter Try.func24, Try.ntmps24
  go_wp2
  go_loop [7] (fun i => i = .int .i64 0) (fun _ => 0)
  case atStart => rfl
  case round =>
    subst hrel
    go_wp2
    go_ret
    exact ⟨rfl, rfl⟩
theorem rput_any (g rb : Nat) (R : Option Addr) (rc : Nat) (bs : List UInt8) (hs : List (Int × Int)) (at_ : Int) (a0 : 0 ≤ at_) (a1 : at_ < 4294967296) (A : Option Addr) (xs : List UInt8) (c : Nat) (w : World) (h : IsRef w g rb R rc bs hs)
    (hx : Holds w A xs) (hA : 0 < xs.length → ∀ ad, A = some ad → ad.block ≠ rb) (hl : xs.length ≤ 9223372036854775807) :
    Calls Try.prog 24 #[.pointer (some ⟨g, 0, none⟩), .int .u32 at_, .slice A xs.length c] w (LeavesR (.int .i64 (putE bs at_ xs)) g rb R rc (putA bs at_ xs) hs w) := by
  by_cases hr : (bs.length : Int) - at_ < xs.length
  · rw [show putA bs at_ xs = bs by simp [putA, hr], show putE bs at_ xs = 30 by simp [putE, hr]]
    exact (rput_far g rb R rc bs hs at_ a0 a1 A xs.length c w h hl hr).mono fun _ _ ⟨q1, q2⟩ => ⟨q1, q2 ▸ h, q2 ▸ World.grownBy.refl w _⟩
  · obtain ⟨k, rfl⟩ := Int.eq_ofNat_of_zero_le a0
    rw [show putA bs k xs = splice bs k xs by simp [putA, hr], show putE bs k xs = 0 by simp [putE, hr]]
    by_cases h0 : 0 < xs.length
    · obtain ⟨b, o, rfl, hc⟩ := hx.plain h0
      have hb := hA h0 _ rfl
      exact rput_in g rb R rc bs hs k (by omega) b o xs c w h hc hb (block_lt_of_cell (hc 0 _ (List.getElem?_eq_getElem (by rw [length_bv]; exact h0)))) (by omega)
    · obtain rfl : xs = [] := List.eq_nil_of_length_eq_zero (by omega)
      rw [show splice bs k [] = bs by simp [splice]]
      exact (rput_none g rb R rc bs hs k (by omega) A c w h (by simp at hr; omega)).mono fun _ _ ⟨q1, q2⟩ => ⟨q1, q2 ▸ h, q2 ▸ World.grownBy.refl w _⟩
end Go.Proofs.Ytkcblemiphpmaaa
