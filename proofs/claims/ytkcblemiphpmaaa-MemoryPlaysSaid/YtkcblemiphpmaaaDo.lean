/- One act on both memories. -/
import Derived.Test.YtkcblemiphpmaaaRNew
import Derived.Deep.RegionHeld3
namespace Go.Proofs.Ytkcblemiphpmaaa
open Go.RowKit
set_option linter.unusedVariables false

/-- Both memories hold the same bytes and holes, in blocks of their own, all from B on. -/
structure Both (w : World) (B g bb hb rg rb : Nat) (R : Option Addr) (rc : Nat) (bs : List UInt8) (hs : List (Int × Int)) : Prop where
  mem : IsMem w g bb hb bs hs
  ref : IsRef w rg rb R rc bs hs
  b1 : B ≤ bb
  b2 : B ≤ rb
  b3 : B ≤ w.heap.size
  ne : bb ≠ rb
theorem Both.below {w w' : World} {B g bb hb rg rb : Nat} {R : Option Addr} {rc : Nat} {bs : List UInt8} {hs : List (Int × Int)} (h : Both w B g bb hb rg rb R rc bs hs) (hw : Below w.heap.size w w') : Both w' B g bb hb rg rb R rc bs hs :=
  ⟨h.mem.below hw, h.ref.below hw, h.b1, h.b2, Nat.le_trans h.b3 hw.size, h.ne⟩
theorem Both.drew {w : World} {B g bb hb rg rb : Nat} {R : Option Addr} {rc : Nat} {bs : List UInt8} {hs : List (Int × Int)} (h : Both w B g bb hb rg rb R rc bs hs) : Both w.drew B g bb hb rg rb R rc bs hs :=
  ⟨h.mem.drew, h.ref.drew, h.b1, h.b2, h.b3, h.ne⟩
/-- What an act leaves. -/
def Did (w0 : World) (g bb hb rg rb : Nat) (R : Option Addr) (rc n : Nat) (hs : List (Int × Int)) (e : Ending) (w' : World) : Prop :=
  e = .returned (.bool true) ∧ ∃ bs', bs'.length = n ∧ Both w' w0.heap.size g bb hb rg rb R rc bs' hs ∧ Below w0.heap.size w0 w'
theorem errV_lim (size : Int) (hs : List (Int × Int)) (at_ n : Int) : 0 ≤ errV size hs at_ n ∧ errV size hs at_ n ≤ 31 := by
  unfold errV
  split
  · omega
  · split
    · omega
    · split
      · omega
      · split <;> omega
theorem do_read (a : ActD) (g bb hb rg rb : Nat) (R : Option Addr) (rc : Nat) (bs : List UInt8) (hs : List (Int × Int)) (w0 w : World) (h : Both w w0.heap.size g bb hb rg rb R rc bs hs) (hbl : Below w0.heap.size w0 w) (ha : okAct w a) (hk : a.kind = 0) :
    Calls Try.prog 14 #[.pointer (some ⟨g, 0, none⟩), .pointer (some ⟨rg, 0, none⟩), .agg #[.int .i64 a.kind, .int .i64 a.n, .int .u32 a.at_, .int .u32 a.v, .slice a.A a.xs.length a.c]] w (Did w0 g bb hb rg rb R rc bs.length hs) := by
  obtain ⟨_, ⟨n0, n1⟩, ⟨a0, a1⟩, ⟨v0, v1⟩, _, _⟩ := ha
  have hbox : Below w.heap.size w (w.alloc (.cells #[.int .i64 a.kind, .int .i64 a.n, .int .u32 a.at_, .int .u32 a.v, .slice a.A a.xs.length a.c] 39)) := (Below.refl _ _).alloc (Nat.le_refl _) _
  have e0 := errV_lim bs.length hs a.at_ a.n
  have h1 := h.below hbox
  rw [hk] at hbox h1
  have HK := Lib.hid hk
  rw [hk]
  clear hk
  go_enter Try.func14, Try.ntmps14
  go_wp2_with fail
  refine (read_any g bb hb bs hs a.at_ a.n a0 a1 _ h1.mem).mono ?_
  rintro e w1 ⟨rfl, hb1⟩
  have h2 := h1.below hb1
  have k1 : w1.cell? ⟨w.heap.size, 1, none⟩ = some (.int .i64 a.n) := (hb1.cell (by simp)).trans ((Blok.made w 39 [.int .i64 0, .int .i64 a.n, .int .u32 a.at_, .int .u32 a.v, .slice a.A a.xs.length a.c]).at_ 1)
  have k2 : w1.cell? ⟨w.heap.size, 2, none⟩ = some (.int .u32 a.at_) := (hb1.cell (by simp)).trans ((Blok.made w 39 [.int .i64 0, .int .i64 a.n, .int .u32 a.at_, .int .u32 a.v, .slice a.A a.xs.length a.c]).at_ 2)
  go_wp2_with fail
  refine (rread_any rg rb R rc bs hs a.at_ a.n a0 a1 _ h2.ref).mono ?_
  rintro e w2 ⟨rfl, rfl⟩
  generalize errV bs.length hs a.at_ a.n = r at e0 ⊢
  generalize readA bs hs a.at_ a.n = x
  go_wp2_with (first | (go_at_call 12; refine (num_any r (by omega) (by omega) _).mono ?_; rintro e w' ⟨rfl, rfl⟩) | fail)
  go_ret
  exact ⟨rfl, bs, rfl, h2, (hbl.trans (hbox.mono hbl.size)).trans (hb1.mono (Nat.le_trans hbl.size hbox.size))⟩

theorem IsMem.only8 {w w' : World} {g bb hb x : Nat} {bs : List UInt8} {hs : List (Int × Int)} {cs : List Value} (h : IsMem w g bb hb bs hs) (hx : Blok w x 5 cs) (hg : w.grownBy w' (some x)) (hne : bb ≠ x) : IsMem w' g bb hb bs hs :=
  h.only hg (h.self.apart hx (by decide)) hne (h.holes.apart hx (by decide))
def Box (w : World) (x : Nat) (a : ActD) (k : Int) : Prop := Blok w x 39 [.int .i64 k, .int .i64 a.n, .int .u32 a.at_, .int .u32 a.v, .slice a.A a.xs.length a.c]
theorem Box.c1 {w : World} {x : Nat} {a : ActD} {k : Int} (h : Box w x a k) : w.cell? ⟨x, 1, none⟩ = some (.int .i64 a.n) := h.at_ 1
theorem Box.c2 {w : World} {x : Nat} {a : ActD} {k : Int} (h : Box w x a k) : w.cell? ⟨x, 2, none⟩ = some (.int .u32 a.at_) := h.at_ 2
theorem Box.c3 {w : World} {x : Nat} {a : ActD} {k : Int} (h : Box w x a k) : w.cell? ⟨x, 3, none⟩ = some (.int .u32 a.v) := h.at_ 3
theorem Box.c4 {w : World} {x : Nat} {a : ActD} {k : Int} (h : Box w x a k) : w.cell? ⟨x, 4, none⟩ = some (.slice a.A a.xs.length a.c) := h.at_ 4
theorem Box.only {w w' : World} {x y : Nat} {a : ActD} {k : Int} (h : Box w x a k) (hg : w.grownBy w' (some y)) (hne : x ≠ y) : Box w' x a k := Blok.only h hg hne
theorem Box.new (w : World) (a : ActD) (k : Int) : Box (w.alloc (.cells #[.int .i64 k, .int .i64 a.n, .int .u32 a.at_, .int .u32 a.v, .slice a.A a.xs.length a.c] 39)) w.heap.size a k := Blok.made w _ _
theorem below_of_only {B : Nat} {a w w' : World} {g : Nat} (h : Below B a w) (hg : w.grownBy w' (some g)) (hB : B ≤ w.heap.size) (hg2 : B ≤ g) : Below B a w' := below_only h hg hB hg2
set_option maxHeartbeats 1000000 in
theorem do_write (a : ActD) (g bb hb rg rb : Nat) (R : Option Addr) (rc : Nat) (bs : List UInt8) (hs : List (Int × Int)) (w0 w : World) (h : Both w w0.heap.size g bb hb rg rb R rc bs hs) (hbl : Below w0.heap.size w0 w) (ha : okAct w a) (hk : a.kind = 1) :
    Calls Try.prog 14 #[.pointer (some ⟨g, 0, none⟩), .pointer (some ⟨rg, 0, none⟩), .agg #[.int .i64 a.kind, .int .i64 a.n, .int .u32 a.at_, .int .u32 a.v, .slice a.A a.xs.length a.c]] w (Did w0 g bb hb rg rb R rc bs.length hs) := by
  obtain ⟨_, ⟨n0, n1⟩, ⟨a0, a1⟩, ⟨v0, v1⟩, _, _⟩ := ha
  have hbox : Below w.heap.size w (w.alloc (.cells #[.int .i64 1, .int .i64 a.n, .int .u32 a.at_, .int .u32 a.v, .slice a.A a.xs.length a.c] 39)) := (Below.refl _ _).alloc (Nat.le_refl _) _
  have e0 := errV_lim bs.length hs a.at_ a.n
  have h1 := h.below hbox
  have hB := Box.new w a 1
  have hx1 : bb < w.heap.size := h.mem.bytes.lt
  have hx2 : rb < w.heap.size := h.ref.bytes.lt
  have hne := h.ne
  have hBd : Box (w.alloc (.cells #[.int .i64 1, .int .i64 a.n, .int .u32 a.at_, .int .u32 a.v, .slice a.A a.xs.length a.c] 39)).drew w.heap.size a 1 := hB
  have h1d := h1.drew
  have k1 := hBd.c1
  have k2 := hBd.c2
  have k3 := hBd.c3
  rw [hk]
  clear hk
  go_enter Try.func14, Try.ntmps14
  go_wp2_with fail
  go_region_held3 (fun W => W.cell? ⟨w.heap.size, 1, none⟩ = some (.int .i64 a.n) ∧ W.cell? ⟨w.heap.size, 2, none⟩ = some (.int .u32 a.at_) ∧ W.cell? ⟨w.heap.size, 3, none⟩ = some (.int .u32 a.v)) (first | go_keep | exact ⟨p1.c1, p1.c2, p1.c3⟩ | exact ⟨p2.c1, p2.c2, p2.c3⟩)
    (first | (go_at_call 18; refine (write_any g bb hb bs hs a.at_ a.n a.v a0 a1 v0 v1 _ h1d.mem).mono ?_; rintro e w1 ⟨rfl, hm1, hg1⟩; have p1 := hBd.only hg1 (by omega)) | (go_at_call 12; refine (num_any _ (by omega) (by omega) _).mono ?_; rintro e w' ⟨rfl, rfl⟩) | (go_at_call 22; refine (rwrite_any rg rb R rc bs hs a.at_ a.n a.v a0 a1 v0 v1 _ (IsRef.only h1d.ref h1d.mem.bytes hg1 (by omega))).mono ?_; rintro e w2 ⟨rfl, hr2, hg2⟩; have p2 := p1.only hg2 (by omega)))
  go_wp2
  go_ret
  have hr1 := IsRef.only h1d.ref h1d.mem.bytes hg1 (by omega)
  have hsz := h.b3
  have hb1 := h.b1
  have hb2 := h.b2
  have z1 := hg1.size
  have z2 := hg2.size
  have z0 : w.heap.size ≤ w1.heap.size := by
    have e : ((w.alloc (.cells #[.int .i64 1, .int .i64 a.n, .int .u32 a.at_, .int .u32 a.v, .slice a.A a.xs.length a.c] 39)).drew).heap.size = w.heap.size + 1 := by simp
    omega
  have t1 := below_of_only ((hbl.trans (hbox.mono hsz)).drew) hg1 (by simp; omega) hb1
  exact ⟨rfl, _, length_wroteA bs hs a.at_ a.n a.v a0, ⟨hm1.only8 hr1.bytes hg2 hne, hr2, hb1, hb2, by omega, hne⟩, below_of_only t1 hg2 (by omega) hb2⟩
theorem Both.only {w w' : World} {B g bb hb rg rb x : Nat} {R : Option Addr} {rc : Nat} {bs : List UInt8} {hs : List (Int × Int)} {cs : List Value} (h : Both w B g bb hb rg rb R rc bs hs) (hx : Blok w x 5 cs) (hg : w.grownBy w' (some x)) (n1 : bb ≠ x) (n2 : rb ≠ x) : Both w' B g bb hb rg rb R rc bs hs :=
  ⟨h.mem.only8 hx hg n1, h.ref.only hx hg n2, h.b1, h.b2, Nat.le_trans h.b3 hg.size, h.ne⟩
theorem byteOf_get (L : List UInt8) (k : Nat) (h : k < L.length) : ∃ x : Int, 0 ≤ x ∧ x < 256 ∧ (bv L)[k]? = some (.int .u8 x) := by
  refine ⟨(L[k].toNat : Int), by omega, by have := L[k].toNat_lt; omega, ?_⟩
  simp [bv, h]
end Go.Proofs.Ytkcblemiphpmaaa
