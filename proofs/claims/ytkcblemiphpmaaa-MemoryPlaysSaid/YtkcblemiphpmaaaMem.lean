/- What a memory is in the program's heap, and what the small functions of package memory answer. -/
import Derived.Test.YtkcblemiphpmaaaProg
import Derived.WalkKit
import Derived.Below
import Derived.WalkSmall
import Derived.Deep.QuietTactic
import Derived.BigQuiet
import Derived.WalkLawsBesides
import Derived.WalkSpells
import Derived.LaidEqlPtr
import Derived.Laws.CopyOwn
import Derived.Laws.Rows
import Derived.Lib.Builder
import Derived.Lib.Hide
namespace Go.Proofs.Ytkcblemiphpmaaa
open Go.RowKit
set_option linter.unusedVariables false

theorem ret_int {k : IntKind} {a b : Int} (h : a = b) : Ending.returned (.int k a) = .returned (.int k b) := by rw [h]
theorem ret_bool {a b : Bool} (h : a = b) : Ending.returned (.bool a) = .returned (.bool b) := by rw [h]

/-- Block g holds just these cells, and may be written. -/
def Blok (w : World) (g : Nat) (t : TypeId) (cs : List Value) : Prop := w.heap[g]? = some (.cells cs.toArray t (0, 0))
section
variable {w w' : World} {g : Nat} {t : TypeId} {cs : List Value}
theorem Blok.lt (h : Blok w g t cs) : g < w.heap.size := by
  unfold Blok at h
  exact (Array.getElem?_eq_some_iff.1 h).1
theorem Blok.at_ (h : Blok w g t cs) (i : Nat) : w.cell? ⟨g, i, none⟩ = cs[i]? := by
  rw [cell_of_row w g i _ t (0, 0) h]
  simp
theorem Blok.free (h : Blok w g t cs) (i : Nat) : w.frozen? ⟨g, i, none⟩ = false := by
  unfold Blok at h
  simp [World.frozen?, h]
theorem Blok.made (w : World) (t : TypeId) (cs : List Value) : Blok (w.alloc (.cells cs.toArray t)) w.heap.size t cs := heap_alloc_new w _
theorem Blok.keep (h : Blok w g t cs) (e : w'.heap[g]? = w.heap[g]?) : Blok w' g t cs := e.trans h
theorem Blok.below {B : Nat} (h : Blok w g t cs) (hb : Below B w w') (hg : g < B) : Blok w' g t cs := h.keep (hb.block g hg)
theorem Blok.alloc (h : Blok w g t cs) (o : Obj) : Blok (w.alloc o) g t cs := h.keep (Below.heap_alloc w o g h.lt)
theorem Blok.drew (h : Blok w g t cs) : Blok w.drew g t cs := h
theorem Blok.drewN (h : Blok w g t cs) (n : Nat) : Blok (w.drewN n) g t cs := h
theorem Blok.set_ (h : Blok w g t cs) (i : Nat) (u : Value) : Blok (w.setCell ⟨g, i, none⟩ u) g t (cs.set i u) := by
  unfold Blok at h ⊢
  simp [World.setCell, Array.getElem?_modify, h]
theorem Blok.far (h : Blok w g t cs) {p : Addr} (hp : g ≠ p.block) (u : Value) : Blok (w.setCell p u) g t cs := h.keep (Below.heap_setCell w p u g hp)
theorem Blok.apart {g' : Nat} {t' : TypeId} {cs' : List Value} (h : Blok w g t cs) (h' : Blok w g' t' cs') (hne : t ≠ t') : g ≠ g' := by
  rintro rfl
  unfold Blok at h h'
  rw [h] at h'
  injection h' with h'
  injection h' with _ ht
  exact hne ht
end

/-- The cells of bytes, and of holes. -/
def bv (l : List UInt8) : List Value := l.map fun b => .int .u8 (b.toNat : Int)
def hv : List (Int × Int) → List Value
  | [] => []
  | h :: r => .int .u32 h.1 :: .int .u32 h.2 :: hv r
theorem length_bv (l : List UInt8) : (bv l).length = l.length := by simp [bv]
theorem length_hv (l : List (Int × Int)) : (hv l).length = 2 * l.length := by
  induction l with
  | nil => rfl
  | cons h r ih => simp [hv, ih]; omega
def okHoles (hs : List (Int × Int)) : Prop := ∀ h ∈ hs, 0 ≤ h.1 ∧ h.1 < 4294967296 ∧ 0 ≤ h.2 ∧ h.2 < 4294967296

def upright (h : Int × Int) : Bool := decide (h.1 ≤ h.2)
def sizeOk (n : Int) : Prop := 4 ≤ n ∧ n ≤ 1048576 ∧ n % 4 = 0
/-- What New's memory is: its own block, its bytes' block, its holes' block. -/
structure IsMem (w : World) (g bb hb : Nat) (bs : List UInt8) (hs : List (Int × Int)) : Prop where
  self : Blok w g 52 [.slice (some ⟨bb, 0, none⟩) bs.length bs.length, .slice (some ⟨hb, 0, none⟩) hs.length hs.length, .pointer (some ⟨g, 0, none⟩)]
  bytes : Blok w bb 5 (bv bs)
  holes : Blok w hb 59 (hv hs)
  small : bs.length ≤ 1048576
  few : hs.length ≤ 16
  ok : okHoles hs
  fit : sizeOk bs.length
  up : hs.all upright = true
section
variable {w w' : World} {g bb hb : Nat} {bs : List UInt8} {hs : List (Int × Int)}
theorem IsMem.keep (h : IsMem w g bb hb bs hs) (e1 : w'.heap[g]? = w.heap[g]?) (e2 : w'.heap[bb]? = w.heap[bb]?) (e3 : w'.heap[hb]? = w.heap[hb]?) : IsMem w' g bb hb bs hs :=
  ⟨h.self.keep e1, h.bytes.keep e2, h.holes.keep e3, h.small, h.few, h.ok, h.fit, h.up⟩
theorem IsMem.below (h : IsMem w g bb hb bs hs) (b : Below w.heap.size w w') : IsMem w' g bb hb bs hs :=
  h.keep (b.block g h.self.lt) (b.block bb h.bytes.lt) (b.block hb h.holes.lt)
end

theorem made_any (g bb hb : Nat) (bs : List UInt8) (hs : List (Int × Int)) (w : World) (h : IsMem w g bb hb bs hs) :
    Calls Try.prog 20 #[.pointer (some ⟨g, 0, none⟩)] w fun e w' => e = .returned (.bool true) ∧ w = w' := by
  have c2 : w.cell? ⟨g, 2, none⟩ = some (.pointer (some ⟨g, 0, none⟩)) := h.self.at_ 2
  have hs : ∀ W, _ := fun W : World => run_eql_ptr_same (P := Try.prog) W (j := _) ⟨g, 0, none⟩ Try.underlying26 rfl
  go_enter Try.func20, Try.ntmps20
  go_wp2
  go_ret
  exact ⟨rfl, rfl⟩
theorem made_nil (w : World) :
    Calls Try.prog 20 #[.pointer none] w fun e w' => e = .returned (.bool false) ∧ w = w' := by
  go_enter Try.func20, Try.ntmps20
  go_wp2
  go_ret
  exact ⟨rfl, rfl⟩

theorem room_any (g bb hb : Nat) (bs : List UInt8) (hs : List (Int × Int)) (at_ : Int) (a0 : 0 ≤ at_) (a1 : at_ < 4294967296) (w : World) (h : IsMem w g bb hb bs hs) :
    Calls Try.prog 25 #[.pointer (some ⟨g, 0, none⟩), .int .u32 at_] w fun e w' => e = .returned (.int .i64 ((bs.length : Int) - at_)) ∧ w = w' := by
  have c0 : w.cell? ⟨g, 0, none⟩ = some (.slice (some ⟨bb, 0, none⟩) bs.length bs.length) := h.self.at_ 0
  have hb := h.small
  go_enter Try.func25, Try.ntmps25
  go_wp2
  go_ret
  exact ⟨rfl, rfl⟩

theorem touches_any (a b f t : Int) (w : World) :
    Calls Try.prog 28 #[.agg #[.int .u32 a, .int .u32 b], .int .u32 f, .int .u32 t] w fun e w' => e = .returned (.bool (decide (max a f < min b t))) ∧ Below w.heap.size w w' := by
  go_enter Try.func28, Try.ntmps28
  go_wp2
  all_goals
    go_ret
    refine ⟨ret_bool ?_, (Below.refl _ _).alloc (Nat.le_refl _) _⟩
    simp only [decide_eq_decide]
    omega

/-- The error of an access. -/
def errV (size : Int) (hs : List (Int × Int)) (at_ n : Int) : Int :=
  if ¬ (n = 1 ∨ n = 2 ∨ n = 4) then 1 else if at_ % n ≠ 0 then 31 else if size - at_ < n then 30 else if hs.any (fun h => decide (max h.1 at_ < min h.2 (at_ + n))) then 30 else 0
def Gives (v : Value) (w : World) (e : Ending) (w' : World) : Prop := e = .returned v ∧ Below w.heap.size w w'

theorem refusal_arg (g bb hb : Nat) (bs : List UInt8) (hs : List (Int × Int)) (at_ n : Int) (a0 : 0 ≤ at_) (a1 : at_ < 4294967296) (w : World) (h : IsMem w g bb hb bs hs)
    (hn : ¬ (n = 1 ∨ n = 2 ∨ n = 4)) :
    Calls Try.prog 26 #[.pointer (some ⟨g, 0, none⟩), .int .u32 at_, .int .i64 n] w (Gives (.int .i64 1) w) := by
  have e1 : (n != 1) = true := by rw [bne_iff_ne]; omega
  have e2 : (n != 2) = true := by rw [bne_iff_ne]; omega
  have e4 : (n != 4) = true := by rw [bne_iff_ne]; omega
  go_enter Try.func26, Try.ntmps26
  go_wp2_with (first | (go_at_call 20; refine (made_any g bb hb bs hs _ h).mono ?_; rintro e w' ⟨rfl, rfl⟩))
  go_ret
  exact ⟨rfl, Below.refl _ _⟩

theorem hv_at : ∀ (hs : List (Int × Int)) (k : Nat) (p : Int × Int), hs[k]? = some p → (hv hs)[2 * k]? = some (.int .u32 p.1) ∧ (hv hs)[2 * k + 1]? = some (.int .u32 p.2)
  | [], k, p, h => by simp at h
  | x :: r, 0, p, h => by
    obtain rfl : x = p := by simpa using h
    exact ⟨rfl, rfl⟩
  | x :: r, k + 1, p, h => by
    have ih := hv_at r k p (by simpa using h)
    rw [show 2 * (k + 1) = 2 * k + 1 + 1 by omega]
    simpa [hv] using ih

theorem IsMem.hole {w : World} {g bb hb : Nat} {bs : List UInt8} {hs : List (Int × Int)} (h : IsMem w g bb hb bs hs) {k : Nat} {p : Int × Int} (hk : hs[k]? = some p) :
    w.cell? ⟨hb, k * 2, none⟩ = some (.int .u32 p.1) ∧ w.cell? ⟨hb, k * 2 + 1, none⟩ = some (.int .u32 p.2) := by
  have e := hv_at hs k p hk
  rw [h.holes.at_, h.holes.at_, show k * 2 = 2 * k by omega]
  exact e

theorem any_take {f : Int × Int → Bool} {hs : List (Int × Int)} {k : Nat} {p : Int × Int} (hk : hs[k]? = some p) (ht : (hs.take k).any f = false) (hp : f p = false) : (hs.take (k + 1)).any f = false := by
  have hl : k < hs.length := (List.getElem?_eq_some_iff.1 hk).1
  rw [List.take_add_one, hk]
  simp only [List.any_append, ht, Option.toList_some, List.any_cons, hp, List.any_nil, Bool.or_self]
theorem any_hit {f : Int × Int → Bool} {hs : List (Int × Int)} {k : Nat} {p : Int × Int} (hk : hs[k]? = some p) (hp : f p = true) : hs.any f = true := by
  rw [List.any_eq_true]
  exact ⟨p, List.mem_of_getElem? hk, hp⟩

def touch (at_ n : Int) (h : Int × Int) : Bool := decide (max h.1 at_ < min h.2 (at_ + n))
theorem touch_yes {at_ n : Int} {h : Int × Int} (e : max h.1 at_ < min h.2 (at_ + n)) : touch at_ n h = true := by simpa [touch] using e
theorem touch_no {at_ n : Int} {h : Int × Int} (e : min h.2 (at_ + n) ≤ max h.1 at_) : touch at_ n h = false := by
  unfold touch
  rw [decide_eq_false_iff_not]
  omega

theorem refusal_loop (g bb hb : Nat) (bs : List UInt8) (hs : List (Int × Int)) (at_ n : Int) (a0 : 0 ≤ at_) (a1 : at_ < 4294967296) (w : World) (h : IsMem w g bb hb bs hs)
    (hn : n = 1 ∨ n = 2 ∨ n = 4) (ha : (at_ % n != 0) = false) (hr : n ≤ bs.length - at_) (r : Int) (f : Int × Int → Bool) (hf : Hid (f = touch at_ n))
    (hv : Hid ((hs.any f = true → r = 30) ∧ (hs.any f = false → r = 0))) :
    Calls Try.prog 26 #[.pointer (some ⟨g, 0, none⟩), .int .u32 at_, .int .i64 n] w (Gives (.int .i64 r) w) := by
  have hs1 := h.small
  have hs2 := h.few
  have c1 : w.cell? ⟨g, 1, none⟩ = some (.slice (some ⟨hb, 0, none⟩) hs.length hs.length) := h.self.at_ 1
  have cs0 : Try.prog.cellsOf 59 = 2 := by kernel_rfl
  rcases hn with rfl | rfl | rfl
  all_goals
    go_enter Try.func26, Try.ntmps26
    go_wp2_with (first | (go_at_call 20; refine (made_any g bb hb bs hs _ h).mono ?_; rintro e w' ⟨rfl, rfl⟩) | (go_at_call 25; refine (room_any g bb hb bs hs at_ a0 a1 _ h).mono ?_; rintro e w' ⟨rfl, rfl⟩))
    go_loopw [40] (fun i wr => ∃ k : Nat, k ≤ hs.length ∧ i = .int .i64 k ∧ Below w.heap.size w wr ∧ (hs.take k).any f = false) (fun i _ => hs.length - (intOf i).toNat)
    case atStart => exact ⟨0, Nat.zero_le _, rfl, Below.refl _ _, by simp⟩
    case round =>
      obtain ⟨k, hk, rfl, hbl, hno⟩ := hrel
      have HNO := Lib.hid hno
      clear hno
      by_cases hlt : k < hs.length
      · have hm := h.below hbl
        have hp := List.getElem?_eq_getElem hlt
        generalize hs[k] = p at hp
        obtain ⟨q1, q2⟩ := hm.hole hp
        have HP := Lib.hid hp
        clear hp
        go_wp2_with (first | (go_at_call 28; refine (touches_any _ _ _ _ _).mono ?_; rintro e w' ⟨rfl, hb2⟩))
        · go_ret
          have hb3 := ((Below.refl wr.heap.size wr).alloc (Nat.le_refl _) (.cells #[.int .u32 p.1, .int .u32 p.2] 59)).trans (hb2.mono (by simp))
          exact ⟨ret_int (hv.out.1 (any_hit HP.out (by rw [hf.out]; exact touch_yes (by assumption)))).symm, hbl.trans (hb3.mono hbl.size)⟩
        · have hb3 := ((Below.refl wr.heap.size wr).alloc (Nat.le_refl _) (.cells #[.int .u32 p.1, .int .u32 p.2] 59)).trans (hb2.mono (by simp))
          go_roundw
          case rel => exact ⟨k + 1, by omega, by go_num, hbl.trans (hb3.mono hbl.size), any_take HP.out HNO.out (by rw [hf.out]; exact touch_no (by assumption))⟩
          case measure => simp [intOf]; omega
      · go_wp2
        go_ret
        exact ⟨ret_int (hv.out.2 (by rw [← HNO.out, List.take_of_length_le (by omega)])).symm, hbl⟩

theorem refusal_align (g bb hb : Nat) (bs : List UInt8) (hs : List (Int × Int)) (at_ n : Int) (a0 : 0 ≤ at_) (a1 : at_ < 4294967296) (w : World) (h : IsMem w g bb hb bs hs)
    (hn : n = 1 ∨ n = 2 ∨ n = 4) (ha : (at_ % n != 0) = true) :
    Calls Try.prog 26 #[.pointer (some ⟨g, 0, none⟩), .int .u32 at_, .int .i64 n] w (Gives (.int .i64 31) w) := by
  rcases hn with rfl | rfl | rfl
  · rw [bne_iff_ne] at ha
    exact absurd (by omega) ha
  all_goals
    go_enter Try.func26, Try.ntmps26
    go_wp2_with (first | (go_at_call 20; refine (made_any g bb hb bs hs _ h).mono ?_; rintro e w' ⟨rfl, rfl⟩))
    go_ret
    exact ⟨rfl, Below.refl _ _⟩
theorem refusal_far (g bb hb : Nat) (bs : List UInt8) (hs : List (Int × Int)) (at_ n : Int) (a0 : 0 ≤ at_) (a1 : at_ < 4294967296) (w : World) (h : IsMem w g bb hb bs hs)
    (hn : n = 1 ∨ n = 2 ∨ n = 4) (ha : (at_ % n != 0) = false) (hr : bs.length - at_ < n) :
    Calls Try.prog 26 #[.pointer (some ⟨g, 0, none⟩), .int .u32 at_, .int .i64 n] w (Gives (.int .i64 30) w) := by
  have hs1 := h.small
  rcases hn with rfl | rfl | rfl
  all_goals
    go_enter Try.func26, Try.ntmps26
    go_wp2_with (first | (go_at_call 20; refine (made_any g bb hb bs hs _ h).mono ?_; rintro e w' ⟨rfl, rfl⟩) | (go_at_call 25; refine (room_any g bb hb bs hs at_ a0 a1 _ h).mono ?_; rintro e w' ⟨rfl, rfl⟩))
    go_ret
    exact ⟨rfl, Below.refl _ _⟩

/-- The error of an access, whatever is asked. -/
theorem refusal_any (g bb hb : Nat) (bs : List UInt8) (hs : List (Int × Int)) (at_ n : Int) (a0 : 0 ≤ at_) (a1 : at_ < 4294967296) (w : World) (h : IsMem w g bb hb bs hs) :
    Calls Try.prog 26 #[.pointer (some ⟨g, 0, none⟩), .int .u32 at_, .int .i64 n] w (Gives (.int .i64 (errV bs.length hs at_ n)) w) := by
  by_cases hn : n = 1 ∨ n = 2 ∨ n = 4
  · by_cases ha : at_ % n = 0
    · by_cases hr : (bs.length : Int) - at_ < n
      · have e : errV bs.length hs at_ n = 30 := by simp [errV, hn, ha, hr]
        rw [e]
        exact refusal_far g bb hb bs hs at_ n a0 a1 w h hn (by simp [ha]) hr
      · refine refusal_loop g bb hb bs hs at_ n a0 a1 w h hn (by simp [ha]) (by omega) _ (touch at_ n) rfl ⟨fun e => ?_, fun e => ?_⟩
        · simp only [errV, hn, not_true_eq_false, if_false, ha, ne_eq, hr]
          exact if_pos e
        · simp only [errV, hn, not_true_eq_false, if_false, ha, ne_eq, hr]
          exact if_neg (by rw [show hs.any (fun h => decide (max h.1 at_ < min h.2 (at_ + n))) = false from e]; simp)
    · have e : errV bs.length hs at_ n = 31 := by simp [errV, hn, ha]
      rw [e]
      exact refusal_align g bb hb bs hs at_ n a0 a1 w h hn (by rw [bne_iff_ne]; exact ha)
  · have e : errV bs.length hs at_ n = 1 := by simp [errV, hn]
    rw [e]
    exact refusal_arg g bb hb bs hs at_ n a0 a1 w h hn
end Go.Proofs.Ytkcblemiphpmaaa
