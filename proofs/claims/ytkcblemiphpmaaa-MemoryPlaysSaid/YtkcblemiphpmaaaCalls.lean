/- Each call of package memory, whatever is asked, in one contract. -/
import Derived.Test.YtkcblemiphpmaaaMake
namespace Go.Proofs.Ytkcblemiphpmaaa
open Go.RowKit
set_option linter.unusedVariables false

theorem errV_cases (size : Int) (hs : List (Int × Int)) (at_ n : Int) : errV size hs at_ n = 0 ∨ (errV size hs at_ n != 0) = true := by
  by_cases h : errV size hs at_ n = 0
  · exact .inl h
  · exact .inr (by rw [bne_iff_ne]; exact h)
def readA (bs : List UInt8) (hs : List (Int × Int)) (at_ n : Int) : Int := if errV bs.length hs at_ n = 0 then readV bs at_.toNat n.toNat else 0
def wroteA (bs : List UInt8) (hs : List (Int × Int)) (at_ n v : Int) : List UInt8 := if errV bs.length hs at_ n = 0 then splice bs at_.toNat ((word4 v).take n.toNat) else bs
def bytesA (bs : List UInt8) (at_ n : Int) : List UInt8 := if n < 0 ∨ bs.length - at_ < n then [] else (bs.drop at_.toNat).take n.toNat
def putE (bs : List UInt8) (at_ : Int) (xs : List UInt8) : Int := if (bs.length : Int) - at_ < xs.length then 30 else 0
def putA (bs : List UInt8) (at_ : Int) (xs : List UInt8) : List UInt8 := if (bs.length : Int) - at_ < xs.length then bs else splice bs at_.toNat xs
theorem only_below {a w : World} (h : Below a.heap.size a w) (row : Option Nat) : a.grownBy w row := ⟨h.os, h.tape, h.output, h.size, fun i hi _ => h.block i hi⟩

theorem Holds.below {w w' : World} {A : Option Addr} {xs : List UInt8} (hx : Holds w A xs) (hb : Below w.heap.size w w') : Holds w' A xs := fun h => by
  obtain ⟨ad, e, hc⟩ := hx h
  refine ⟨ad, e, fun j u hj => ?_⟩
  have hcj := hc j u hj
  exact (hb.cell (block_lt_of_cell hcj)).trans hcj
theorem read_any (g bb hb : Nat) (bs : List UInt8) (hs : List (Int × Int)) (at_ n : Int) (a0 : 0 ≤ at_) (a1 : at_ < 4294967296) (w : World) (h : IsMem w g bb hb bs hs) :
    Calls Try.prog 17 #[.pointer (some ⟨g, 0, none⟩), .int .u32 at_, .int .i64 n] w (Gives (.tuple #[.int .u32 (readA bs hs at_ n), .int .i64 (errV bs.length hs at_ n)]) w) := by
  rcases errV_cases bs.length hs at_ n with e | e
  · obtain ⟨k, rfl⟩ := Int.eq_ofNat_of_zero_le a0
    have hn := (errV_ok e).1
    obtain ⟨m, rfl⟩ := Int.eq_ofNat_of_zero_le (show 0 ≤ n by omega)
    have hx := read_yes g bb hb bs hs k m (by omega) w h e
    rw [e, show readA bs hs k m = readV bs k m by simp [readA, e]]
    exact hx
  · have hx := read_no g bb hb bs hs at_ n _ a0 a1 w h rfl e
    rw [bne_iff_ne] at e
    rw [show readA bs hs at_ n = 0 by simp [readA, e]]
    exact hx

/-- What a write leaves: the memory with other bytes, all else as it was. -/
def Leaves (v : Value) (g bb hb : Nat) (bs : List UInt8) (hs : List (Int × Int)) (w : World) (e : Ending) (w' : World) : Prop := e = .returned v ∧ IsMem w' g bb hb bs hs ∧ w.grownBy w' (some bb)
theorem write_any (g bb hb : Nat) (bs : List UInt8) (hs : List (Int × Int)) (at_ n v : Int) (a0 : 0 ≤ at_) (a1 : at_ < 4294967296) (v0 : 0 ≤ v) (v1 : v < 4294967296) (w : World) (h : IsMem w g bb hb bs hs) :
    Calls Try.prog 18 #[.pointer (some ⟨g, 0, none⟩), .int .u32 at_, .int .i64 n, .int .u32 v] w (Leaves (.int .i64 (errV bs.length hs at_ n)) g bb hb (wroteA bs hs at_ n v) hs w) := by
  rcases errV_cases bs.length hs at_ n with e | e
  · obtain ⟨k, rfl⟩ := Int.eq_ofNat_of_zero_le a0
    have hn := (errV_ok e).1
    obtain ⟨m, rfl⟩ := Int.eq_ofNat_of_zero_le (show 0 ≤ n by omega)
    have hx := write_yes g bb hb bs hs k m v (by omega) v0 v1 w h e
    rw [e, show wroteA bs hs k m v = splice bs k ((word4 v).take m) by simp [wroteA, e]]
    exact hx
  · have hx := write_no g bb hb bs hs at_ n v _ a0 a1 w h rfl e
    rw [bne_iff_ne] at e
    rw [show wroteA bs hs at_ n v = bs by simp [wroteA, e]]
    exact hx.mono fun _ _ ⟨q1, q2⟩ => ⟨q1, h.below q2, only_below q2 _⟩

/-- A slice of bytes of the call's own: nothing, or the block that is made next. -/
def Own8 (w w' : World) (A : Option Addr) (xs : List UInt8) : Prop := (A = none ∧ xs = []) ∨ (A = some ⟨w.heap.size, 0, none⟩ ∧ Blok w' w.heap.size 5 (bv xs))
theorem Own8.holds {w w' : World} {A : Option Addr} {xs : List UInt8} (h : Own8 w w' A xs) : Holds w' A xs := by
  intro h0
  rcases h with ⟨rfl, rfl⟩ | ⟨rfl, hb⟩
  · simp at h0
  · refine ⟨_, rfl, fun j u hj => ?_⟩
    rw [addr_add, Nat.zero_add, hb.at_]
    exact hj
def Told (xs : List UInt8) (w : World) (e : Ending) (w' : World) : Prop := ∃ A, e = .returned (.slice A xs.length xs.length) ∧ Own8 w w' A xs ∧ Below w.heap.size w w'
theorem bytes_any (g bb hb : Nat) (bs : List UInt8) (hs : List (Int × Int)) (at_ n : Int) (a0 : 0 ≤ at_) (a1 : at_ < 4294967296) (w : World) (h : IsMem w g bb hb bs hs) :
    Calls Try.prog 16 #[.pointer (some ⟨g, 0, none⟩), .int .u32 at_, .int .i64 n] w (Told (bytesA bs at_ n) w) := by
  by_cases hr : n < 0 ∨ bs.length - at_ < n
  · rw [show bytesA bs at_ n = [] by simp [bytesA, hr]]
    exact (bytes_no g bb hb bs hs at_ n a0 a1 w h hr).mono fun _ _ ⟨q1, q2⟩ => ⟨none, q1, .inl ⟨rfl, rfl⟩, q2⟩
  · obtain ⟨k, rfl⟩ := Int.eq_ofNat_of_zero_le a0
    obtain ⟨m, rfl⟩ := Int.eq_ofNat_of_zero_le (show 0 ≤ n by omega)
    rw [show bytesA bs k m = (bs.drop k).take m by simp [bytesA, hr]]
    exact (bytes_yes g bb hb bs hs k m (by omega) w h (by omega)).mono fun _ _ ⟨q1, q2, q3⟩ => ⟨_, q1, .inr ⟨rfl, q2⟩, q3⟩
theorem put_any (g bb hb : Nat) (bs : List UInt8) (hs : List (Int × Int)) (at_ : Int) (a0 : 0 ≤ at_) (a1 : at_ < 4294967296) (A : Option Addr) (xs : List UInt8) (c : Nat) (w : World) (h : IsMem w g bb hb bs hs)
    (hx : Holds w A xs) :
    Calls Try.prog 19 #[.pointer (some ⟨g, 0, none⟩), .int .u32 at_, .slice A xs.length c] w (Leaves (.int .i64 (putE bs at_ xs)) g bb hb (putA bs at_ xs) hs w) := by
  by_cases hr : (bs.length : Int) - at_ < xs.length
  · rw [show putA bs at_ xs = bs by simp [putA, hr], show putE bs at_ xs = 30 by simp [putE, hr]]
    exact (put_no g bb hb bs hs at_ a0 a1 A xs.length c w h hr).mono fun _ _ ⟨q1, q2⟩ => ⟨q1, h.below q2, only_below q2 _⟩
  · obtain ⟨k, rfl⟩ := Int.eq_ofNat_of_zero_le a0
    rw [show putA bs k xs = splice bs k xs by simp [putA, hr], show putE bs k xs = 0 by simp [putE, hr]]
    exact put_yes g bb hb bs hs k (by omega) A xs c w h hx (by omega)
theorem num_any (e : Int) (h0 : -9223372036854775808 ≤ e) (h1 : e ≤ 9223372036854775807) (w : World) : Calls Try.prog 12 #[.int .i64 e] w fun r w' => r = .returned (.int .i64 e) ∧ w = w' := by
  go_enter Try.func12, Try.ntmps12
  go_wp2
  go_ret
  exact ⟨rfl, rfl⟩
/-- A fresh memory. -/
def Fresh (n : Int) (hs : List (Int × Int)) (w : World) (e : Ending) (w' : World) : Prop := ∃ g bb hb, e = .returned (.tuple #[.pointer (some ⟨g, 0, none⟩), .int .i64 0]) ∧ IsMem w' g bb hb (List.replicate n.toNat 0) hs ∧ Below w.heap.size w w' ∧ w.heap.size ≤ g ∧ w.heap.size ≤ bb ∧ w.heap.size ≤ hb
theorem new_fresh (n : Int) (A : Option Addr) (hs : List (Int × Int)) (c : Nat) (w : World) (hn : sizeOk n) (hl : hs.length ≤ 16) (hh : HoldsH w A hs) (hok : okHoles hs) (hu : hs.all upright = true) :
    Calls Try.prog 9 #[.int .i64 n, .slice A hs.length c] w (Fresh n hs w) := by
  obtain ⟨m, rfl⟩ := Int.eq_ofNat_of_zero_le (show 0 ≤ n by have := hn.1; omega)
  exact new_yes m A hs c w hn hl hh hok hu

def Yes (w : World) (e : Ending) (w' : World) : Prop := e = .returned (.bool true) ∧ Below w.heap.size w w'
theorem write_known (g bb hb : Nat) (w : World) (h : IsMem w g bb hb [0, 0, 0, 0, 0, 0, 0, 0] [(4, 5)]) :
    Calls Try.prog 18 #[.pointer (some ⟨g, 0, none⟩), .int .u32 0, .int .i64 4, .int .u32 258] w (Leaves (.int .i64 0) g bb hb [2, 1, 0, 0, 0, 0, 0, 0] [(4, 5)] w) := by
  have e1 : errV ([0, 0, 0, 0, 0, 0, 0, 0] : List UInt8).length [(4, 5)] 0 4 = 0 := by decide
  have e2 : wroteA [0, 0, 0, 0, 0, 0, 0, 0] [(4, 5)] 0 4 258 = [2, 1, 0, 0, 0, 0, 0, 0] := by decide
  have hx := write_any g bb hb _ _ 0 4 258 (by omega) (by omega) (by omega) (by omega) w h
  rw [e1, e2] at hx
  exact hx
theorem read_known (g bb hb : Nat) (w : World) (h : IsMem w g bb hb [2, 1, 0, 0, 0, 0, 0, 0] [(4, 5)]) :
    Calls Try.prog 17 #[.pointer (some ⟨g, 0, none⟩), .int .u32 0, .int .i64 1] w (Gives (.tuple #[.int .u32 2, .int .i64 0]) w) := by
  have e1 : errV ([2, 1, 0, 0, 0, 0, 0, 0] : List UInt8).length [(4, 5)] 0 1 = 0 := by decide
  have e2 : readA [2, 1, 0, 0, 0, 0, 0, 0] [(4, 5)] 0 1 = 2 := by decide
  have hx := read_any g bb hb _ _ 0 1 (by omega) (by omega) w h
  rw [e1, e2] at hx
  exact hx
theorem read_shut (g bb hb : Nat) (w : World) (h : IsMem w g bb hb [2, 1, 0, 0, 0, 0, 0, 0] [(4, 5)]) :
    Calls Try.prog 17 #[.pointer (some ⟨g, 0, none⟩), .int .u32 4, .int .i64 4] w (Gives (.tuple #[.int .u32 0, .int .i64 30]) w) := by
  have e1 : errV ([2, 1, 0, 0, 0, 0, 0, 0] : List UInt8).length [(4, 5)] 4 4 = 30 := by decide
  have e2 : readA [2, 1, 0, 0, 0, 0, 0, 0] [(4, 5)] 4 4 = 0 := by decide
  have hx := read_any g bb hb _ _ 4 4 (by omega) (by omega) w h
  rw [e1, e2] at hx
  exact hx
theorem below_only {B : Nat} {a w w' : World} {g : Nat} (h : Below B a w) (hg : w.grownBy w' (some g)) (hB : B ≤ w.heap.size) (hg2 : B ≤ g) : Below B a w' :=
  h.grown hg hB (fun q hq => by injection hq with hq; omega)
theorem knows_any (w : World) : Calls Try.prog 8 #[] w (Yes w) := by
  have hold : HoldsH (w.alloc (.cells #[.int .u32 4, .int .u32 5] 59)) (some ⟨w.heap.size, 0, none⟩) [(4, 5)] := fun _ => ⟨w.heap.size, rfl, by simp, fun j u hj => ((Blok.made w 59 (hv [(4, 5)])).at_ j).trans hj⟩
  go_enter Try.func8, Try.ntmps8
  go_wp2_with (first | (go_at_call 9; refine (new_fresh 8 _ [(4, 5)] 1 _ ⟨by decide, by decide, by decide⟩ (by decide) hold (by simp [okHoles]) (by decide)).mono ?_; rintro e w1 ⟨g, bb, hb, rfl, hm, hbl, q1, q2, q3⟩) | fail)
  go_wp2_with fail
  refine (write_known g bb hb _ hm).mono ?_
  rintro e w2 ⟨rfl, hm2, hg2⟩
  go_wp2_with fail
  refine (read_known g bb hb _ hm2).mono ?_
  rintro e w3 ⟨rfl, hb3⟩
  have hm3 := hm2.below hb3
  go_wp2_with fail
  refine (read_shut g bb hb _ hm3).mono ?_
  rintro e w4 ⟨rfl, hb4⟩
  go_wp2_with (first | (go_at_call 12; refine (num_any _ (by decide) (by decide) _).mono ?_; rintro e w' ⟨rfl, rfl⟩))
  go_ret
  have hs1 := hbl.size
  have hs2 := hg2.size
  have hs3 := hb3.size
  simp only [World.size_alloc] at hs1 q1 q2 q3
  have a1 : Below w.heap.size w w1 := ((Below.refl w.heap.size w).alloc (Nat.le_refl _) _).trans (hbl.mono (by simp))
  have a2 := below_only a1 hg2 (by omega) (by omega)
  exact ⟨rfl, (a2.trans (hb3.mono (by omega))).trans (hb4.mono (by omega))⟩
end Go.Proofs.Ytkcblemiphpmaaa
