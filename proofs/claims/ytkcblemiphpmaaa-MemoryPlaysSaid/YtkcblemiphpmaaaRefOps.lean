/- The document's memory: what Read, Write, Bytes and Put answer. -/
import Derived.Test.YtkcblemiphpmaaaRef
namespace Go.Proofs.Ytkcblemiphpmaaa
open Go.RowKit
set_option linter.unusedVariables false

theorem le_bd : ∀ l : List UInt8, l.length ≤ 3 → 0 ≤ le l ∧ le l < 16777216
  | [], _ => by simp [le]
  | [a], _ => by have := a.toNat_lt; simp [le]; omega
  | [a, b], _ => by have := a.toNat_lt; have := b.toNat_lt; simp only [le]; omega
  | [a, b, c], _ => by have := a.toNat_lt; have := b.toNat_lt; have := c.toNat_lt; simp only [le]; omega
  | _ :: _ :: _ :: _ :: _, h => by simp at h
def restV (bs : List UInt8) (k m : Nat) (q : Int) : Int := le ((bs.drop (k + (q + 1).toNat)).take (m - (q + 1).toNat))
theorem restV_top (bs : List UInt8) (k m : Nat) (h : 1 ≤ m) : restV bs k m ((m : Int) - 1) = 0 := by
  unfold restV
  rw [show ((m : Int) - 1 + 1).toNat = m by omega, Nat.sub_self]
  simp [le]
theorem restV_step (bs : List UInt8) (k m u : Nat) (b : UInt8) (hb : bs[k + u]? = some b) (hu : u < m) : restV bs k m ((u : Int) - 1) = restV bs k m u * 256 + b.toNat := by
  unfold restV
  rw [show ((u : Int) - 1 + 1).toNat = u by omega, show ((u : Int) + 1).toNat = u + 1 by omega]
  have hl : k + u < bs.length := (List.getElem?_eq_some_iff.1 hb).1
  have hbe : bs[k + u] = b := (List.getElem?_eq_some_iff.1 hb).2
  rw [List.drop_eq_getElem_cons hl, hbe, show m - u = (m - (u + 1)) + 1 by omega, List.take_succ_cons, le, show k + (u + 1) = k + u + 1 by omega]
  omega
theorem restV_bd (bs : List UInt8) (k m u : Nat) (hm : m ≤ 4) : 0 ≤ restV bs k m u ∧ restV bs k m u < 16777216 := by
  unfold restV
  apply le_bd
  rw [List.length_take, show ((u : Int) + 1).toNat = u + 1 by omega]
  omega
theorem bv_get (bs : List UInt8) (i : Nat) (b : UInt8) (h : bs[i]? = some b) : (bv bs)[i]? = some (.int .u8 (b.toNat : Int)) := by
  simp [bv, h]
set_option maxHeartbeats 400000 in
theorem rread_yes (g rb : Nat) (R : Option Addr) (rc : Nat) (bs : List UInt8) (hs : List (Int × Int)) (k m : Nat) (hk : k < 4294967296) (w : World) (h : IsRef w g rb R rc bs hs) (he : errV bs.length hs k m = 0) :
    Calls Try.prog 21 #[.pointer (some ⟨g, 0, none⟩), .int .u32 k, .int .i64 m] w fun e w' => e = .returned (.tuple #[.int .u32 (readV bs k m), .int .i64 0]) ∧ w = w' := by
  obtain ⟨hm, ha, hroom⟩ := errV_ok he
  have hm1 : 1 ≤ m := by omega
  have hm4 : m ≤ 4 := by omega
  clear hm ha
  have hs1 := h.small
  have HE := Lib.hid he
  clear he
  have c0 : w.cell? ⟨g, 0, none⟩ = some (.slice (some ⟨rb, 0, none⟩) bs.length bs.length) := h.self.at_ 0
  have hkn : k + m ≤ bs.length := by omega
  go_enter Try.func21, Try.ntmps21
  go_wp2_with (first | (go_at_call 27; refine (ask_any g rb R rc bs hs k m (by omega) (by omega) _ h).mono ?_; rw [HE.out]; rintro e w1 ⟨rfl, rfl⟩))
  go_loop [9, 10] (fun v i => ∃ q : Int, -1 ≤ q ∧ q < m ∧ i = .int .i64 q ∧ v = .int .u32 (restV bs k m q)) (fun _ i => (intOf i + 1).toNat)
  case atStart => exact ⟨(m : Int) - 1, by omega, by omega, rfl, by rw [restV_top bs k m hm1]⟩
  case round =>
    obtain ⟨q, hq0, hq1, rfl, rfl⟩ := hrel
    by_cases hq : 0 ≤ q
    · obtain ⟨u, rfl⟩ := Int.eq_ofNat_of_zero_le hq
      have hb : bs[k + u]? = some (bs[k + u]'(by omega)) := List.getElem?_eq_getElem (by omega)
      generalize bs[k + u]'(by omega) = b at hb
      have hcell : w.cell? ⟨rb, k + u, none⟩ = some (.int .u8 (b.toNat : Int)) := (h.bytes.at_ _).trans (bv_get bs _ b hb)
      have hstep := restV_step bs k m u b hb (by omega)
      have hbd := restV_bd bs k m u hm4
      have hbb : (b.toNat : Int) < 256 := by have := b.toNat_lt; omega
      have HS := Lib.hid hstep
      clear hstep hb
      obtain ⟨d0, d1⟩ := hbd
      go_wp2
      go_round
      case rel => exact ⟨(u : Int) - 1, by omega, by omega, rfl, by rw [HS.out]⟩
      case measure => simp [intOf]
    · have hq2 : q < 0 := by omega
      go_wp2
      go_ret2
      obtain rfl : q = -1 := by omega
      refine ⟨?_, rfl⟩
      unfold readV
      rfl
theorem rread_no (g rb : Nat) (R : Option Addr) (rc : Nat) (bs : List UInt8) (hs : List (Int × Int)) (at_ n r : Int) (a0 : 0 ≤ at_) (a1 : at_ < 4294967296) (w : World) (h : IsRef w g rb R rc bs hs) (he : errV bs.length hs at_ n = r) (hr : (r != 0) = true) :
    Calls Try.prog 21 #[.pointer (some ⟨g, 0, none⟩), .int .u32 at_, .int .i64 n] w fun e w' => e = .returned (.tuple #[.int .u32 0, .int .i64 r]) ∧ w = w' := by
  have HE := Lib.hid he
  clear he
  go_enter Try.func21, Try.ntmps21
  go_wp2_with (first | (go_at_call 27; refine (ask_any g rb R rc bs hs at_ n a0 a1 _ h).mono ?_; rw [HE.out]; rintro e w1 ⟨rfl, rfl⟩))
  go_ret2
  exact ⟨rfl, rfl⟩
theorem rread_any (g rb : Nat) (R : Option Addr) (rc : Nat) (bs : List UInt8) (hs : List (Int × Int)) (at_ n : Int) (a0 : 0 ≤ at_) (a1 : at_ < 4294967296) (w : World) (h : IsRef w g rb R rc bs hs) :
    Calls Try.prog 21 #[.pointer (some ⟨g, 0, none⟩), .int .u32 at_, .int .i64 n] w fun e w' => e = .returned (.tuple #[.int .u32 (readA bs hs at_ n), .int .i64 (errV bs.length hs at_ n)]) ∧ w = w' := by
  rcases errV_cases bs.length hs at_ n with e | e
  · obtain ⟨k, rfl⟩ := Int.eq_ofNat_of_zero_le a0
    have hn := (errV_ok e).1
    obtain ⟨m, rfl⟩ := Int.eq_ofNat_of_zero_le (show 0 ≤ n by omega)
    have hx := rread_yes g rb R rc bs hs k m (by omega) w h e
    rw [e, show readA bs hs k m = readV bs k m by simp [readA, e]]
    exact hx
  · have hx := rread_no g rb R rc bs hs at_ n _ a0 a1 w h rfl e
    rw [bne_iff_ne] at e
    rw [show readA bs hs at_ n = 0 by simp [readA, e]]
    exact hx

/-! Write -/
theorem grown_set (w : World) (g i : Nat) (u : Value) : w.grownBy (w.setCell ⟨g, i, none⟩ u) (some g) :=
  ⟨rfl, rfl, rfl, by simp [World.setCell], fun j hj hne => Below.heap_setCell w _ u j (fun e => hne (by rw [e]))⟩
theorem grown_trans2 {a b c : World} {row : Option Nat} (h : a.grownBy b row) (k : b.grownBy c row) : a.grownBy c row :=
  ⟨k.os.trans h.os, k.tape.trans h.tape, k.output.trans h.output, Nat.le_trans h.size k.size, fun i hi hne => (k.block i (Nat.lt_of_lt_of_le hi h.size) hne).trans (h.block i hi hne)⟩
theorem IsRef.wrote {w w' : World} {g rb : Nat} {R : Option Addr} {rc : Nat} {bs bs' : List UInt8} {hs : List (Int × Int)} (h : IsRef w g rb R rc bs hs) (hg : w.grownBy w' (some rb)) (hb : Blok w' rb 5 (bv bs')) (hl : bs'.length = bs.length) :
    IsRef w' g rb R rc bs' hs :=
  ⟨by rw [hl]; exact h.self.only hg (h.self.apart h.bytes (by decide)), hb, h.holes.kept hg (.inr (row_block h.holes h.bytes (by decide))), by rw [hl]; exact h.small, h.few, h.ok⟩
theorem bv_set (l : List UInt8) (i : Nat) (b : UInt8) : (bv l).set i (.int .u8 (b.toNat : Int)) = bv (l.set i b) := by simp [bv]
theorem splice_in {α : Type} (bs xs : List α) (k i : Nat) (hk : k ≤ bs.length) (h1 : k ≤ i) (h2 : i < k + xs.length) : (splice bs k xs)[i]? = xs[i - k]? := by
  unfold splice
  have e : (List.take k bs).length = k := by rw [List.length_take]; omega
  rw [List.getElem?_append_right (by rw [e]; exact h1), e, List.getElem?_append_left (by omega)]
theorem splice_set {α : Type} (bs xs : List α) (k j : Nat) (x : α) (hx : xs[j]? = some x) (hk : k + xs.length ≤ bs.length) : (splice bs k (xs.take j)).set (k + j) x = splice bs k (xs.take (j + 1)) := by
  have hj : j < xs.length := (List.getElem?_eq_some_iff.1 hx).1
  apply List.ext_getElem?
  intro i
  have hl1 : (xs.take j).length = j := by rw [List.length_take]; omega
  have hl2 : (xs.take (j + 1)).length = j + 1 := by rw [List.length_take]; omega
  have hL := length_splice bs k (xs.take j) (by rw [hl1]; omega)
  rw [List.getElem?_set]
  by_cases e : k + j = i
  · subst e
    rw [if_pos rfl, if_pos (by rw [hL]; omega)]
    rw [splice_in _ _ _ _ (by omega) (by omega) (by omega), List.getElem?_take, if_pos (by omega), show k + j - k = j by omega, hx]
  · rw [if_neg e]
    rcases Nat.lt_or_ge i k with h1 | h1
    · rw [splice_far _ _ _ _ (by omega) (.inl h1), splice_far _ _ _ _ (by omega) (.inl h1)]
    · rcases Nat.lt_or_ge i (k + j) with h2 | h2
      · rw [splice_in _ _ _ _ (by omega) h1 (by omega), splice_in _ _ _ _ (by omega) h1 (by omega), List.getElem?_take, List.getElem?_take, if_pos (by omega), if_pos (by omega)]
      · rw [splice_far _ _ _ _ (by omega) (.inr (by omega)), splice_far _ _ _ _ (by omega) (.inr (by omega))]
def shV (v : Int) : Nat → Int
  | 0 => v
  | 1 => v / 256
  | 2 => v / 65536
  | 3 => v / 16777216
  | _ => v / 4294967296
theorem word4_get (v : Int) (v0 : 0 ≤ v) (v1 : v < 4294967296) (j : Nat) (hj : j < 4) : (word4 v)[j]? = some (byteOf (shV v j % 256)) := by
  rcases (show j = 0 ∨ j = 1 ∨ j = 2 ∨ j = 3 by omega) with rfl | rfl | rfl | rfl
  · rfl
  · rfl
  · rfl
  · show some (byteOf (v / 16777216)) = some (byteOf (v / 16777216 % 256))
    rw [show v / 16777216 % 256 = v / 16777216 by omega]
theorem shV_next (v : Int) (j : Nat) (hj : j < 4) : shV v j / 256 = shV v (j + 1) := by
  rcases (show j = 0 ∨ j = 1 ∨ j = 2 ∨ j = 3 by omega) with rfl | rfl | rfl | rfl <;> simp only [shV] <;> omega
theorem shV_bd (v : Int) (v0 : 0 ≤ v) (v1 : v < 4294967296) (j : Nat) : 0 ≤ shV v j ∧ shV v j < 4294967296 := by
  unfold shV
  split <;> omega
set_option maxHeartbeats 400000 in
theorem rwrite_yes (g rb : Nat) (R : Option Addr) (rc : Nat) (bs : List UInt8) (hs : List (Int × Int)) (k m : Nat) (v : Int) (hk : k < 4294967296) (v0 : 0 ≤ v) (v1 : v < 4294967296) (w : World) (h : IsRef w g rb R rc bs hs) (he : errV bs.length hs k m = 0) :
    Calls Try.prog 22 #[.pointer (some ⟨g, 0, none⟩), .int .u32 k, .int .i64 m, .int .u32 v] w fun e w' => e = .returned (.int .i64 0) ∧ IsRef w' g rb R rc (splice bs k ((word4 v).take m)) hs ∧ w.grownBy w' (some rb) := by
  obtain ⟨hm, ha, hroom⟩ := errV_ok he
  have hm1 : 1 ≤ m := by omega
  have hm4 : m ≤ 4 := by omega
  clear hm ha
  have hs1 := h.small
  have HE := Lib.hid he
  clear he
  have hkn : k + m ≤ bs.length := by omega
  have hsp0 : splice bs k ((word4 v).take 0) = bs := by simp [splice]
  go_enter Try.func22, Try.ntmps22
  go_wp2_with (first | (go_at_call 27; refine (ask_any g rb R rc bs hs k m (by omega) (by omega) _ h).mono ?_; rw [HE.out]; rintro e w1 ⟨rfl, rfl⟩))
  go_loopw [3, 10] (fun v' i wr => ∃ (j : Nat) (L : List UInt8), j ≤ m ∧ i = .int .i64 j ∧ v' = .int .u32 (shV v j) ∧ IsRef wr g rb R rc L hs ∧ Hid (L = splice bs k ((word4 v).take j)) ∧ L.length = bs.length ∧ w.grownBy wr (some rb)) (fun _ i _ => m - (intOf i).toNat)
  case atStart => exact ⟨0, bs, by omega, rfl, rfl, h, hsp0.symm, rfl, World.grownBy.refl w _⟩
  case round =>
    obtain ⟨j, L, hj, rfl, rfl, hr, HLe, hLl, hg⟩ := hrel
    have HLl := Lib.hid hLl
    clear hLl
    have c0 : wr.cell? ⟨g, 0, none⟩ = some (.slice (some ⟨rb, 0, none⟩) L.length L.length) := hr.self.at_ 0
    have hLb : bs.length ≤ L.length ∧ L.length ≤ bs.length := by rw [HLl.out]; omega
    obtain ⟨l1, l2⟩ := hLb
    by_cases hlt : j < m
    · obtain ⟨d0, d1⟩ := shV_bd v v0 v1 j
      obtain ⟨b, hb⟩ : ∃ b, L[k + j]? = some b := ⟨_, List.getElem?_eq_getElem (by omega)⟩
      have hcell : wr.cell? ⟨rb, k + j, none⟩ = some (.int .u8 (b.toNat : Int)) := (hr.bytes.at_ _).trans (bv_get L _ b hb)
      have hfr := hr.bytes.free (k + j)
      clear hb
      go_wp2
      go_roundw
      case rel =>
        have hw := word4_get v v0 v1 j (by omega)
        have hset := hr.bytes.set_ (k + j) (.int .u8 (shV v j % 256))
        have hbe := byteOf_toNat (shV v j % 256) (by omega) (by omega)
        rw [← hbe, bv_set] at hset
        have hL2 : L.set (k + j) (byteOf (shV v j % 256)) = splice bs k ((word4 v).take (j + 1)) := by
          rw [HLe.out]
          exact splice_set bs ((word4 v).take m) k j _ (by rw [List.getElem?_take, if_pos hlt]; exact hw) (by simp [word4]; omega) |> fun e => by
            rw [List.take_take, List.take_take, Nat.min_eq_left (by omega), Nat.min_eq_left (by omega)] at e
            exact e
        have hg2 := grown_set wr rb (k + j) (.int .u8 ((byteOf (shV v j % 256)).toNat : Int))
        have hr2 := hr.wrote hg2 hset (by simp)
        rw [hbe] at hr2 hg2
        exact ⟨j + 1, L.set (k + j) (byteOf (shV v j % 256)), by omega, by go_num, by rw [shV_next v j (by omega)], hr2, hL2, by simpa using HLl.out, grown_trans2 hg hg2⟩
      case measure => simp [intOf]; omega
    · obtain rfl : j = m := by omega
      go_wp2
      go_ret
      have e := HLe.out
      subst e
      exact ⟨rfl, hr, hg⟩
end Go.Proofs.Ytkcblemiphpmaaa
