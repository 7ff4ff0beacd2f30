/- The walk of the stage's law: both memories, act by act. -/
import Derived.Test.YtkcblemiphpmaaaDo2
import Derived.Test.YtkcblemiphpmaaaDo3
import Derived.Deep.Quiet
import Derived.Deep.QuietTactic
import Derived.BigQuiet
import Derived.Deep.CutBlock
namespace Go.Proofs.Ytkcblemiphpmaaa
open Go.RowKit
set_option linter.unusedVariables false

theorem do_any (a : ActD) (g bb hb rg rb : Nat) (R : Option Addr) (rc : Nat) (bs : List UInt8) (hs : List (Int × Int)) (w0 w : World) (h : Both w w0.heap.size g bb hb rg rb R rc bs hs) (hbl : Below w0.heap.size w0 w) (ha : okAct w0 a) (hlen : a.xs.length ≤ 400) :
    Calls Try.prog 14 #[.pointer (some ⟨g, 0, none⟩), .pointer (some ⟨rg, 0, none⟩), .agg #[.int .i64 a.kind, .int .i64 a.n, .int .u32 a.at_, .int .u32 a.v, .slice a.A a.xs.length a.c]] w (Did w0 g bb hb rg rb R rc bs.length hs) := by
  by_cases k0 : a.kind = 0
  · exact do_read a g bb hb rg rb R rc bs hs w0 w h hbl (ha.below hbl) k0
  by_cases k1 : a.kind = 1
  · exact do_write a g bb hb rg rb R rc bs hs w0 w h hbl (ha.below hbl) k1
  by_cases k2 : a.kind = 2
  · exact do_bytes a g bb hb rg rb R rc bs hs w0 w h hbl (ha.below hbl) k2
  by_cases k3 : a.kind = 3
  · exact do_put a g bb hb rg rb R rc bs hs w0 w h hbl ha hlen k3
  · exact do_other a g bb hb rg rb R rc bs hs w0 w h hbl (by simp [k0]) (by simp [k1]) (by simp [k2]) (by simp [k3])
theorem HoldsActs.below {w w' : World} {A : Option Addr} {l : List ActD} (h : HoldsActs w A l) (hb : Below w.heap.size w w') : HoldsActs w' A l := by
  refine ⟨fun h0 => ?_, fun a ha => (h.2 a ha).below hb⟩
  obtain ⟨b, o, e, hc⟩ := h.1 h0
  refine ⟨b, o, e, fun k a hk => ?_⟩
  obtain ⟨q0, q1, q2, q3, q4⟩ := hc k a hk
  exact ⟨(hb.cell (block_lt_of_cell q0)).trans q0, (hb.cell (block_lt_of_cell q1)).trans q1, (hb.cell (block_lt_of_cell q2)).trans q2, (hb.cell (block_lt_of_cell q3)).trans q3, (hb.cell (block_lt_of_cell q4)).trans q4⟩
def heavy (l : List ActD) (hs : List (Int × Int)) (size : Int) : Prop := lightB l = false ∨ 30 < hs.length ∨ (4096 < size ∧ size ≤ 1048576)
theorem plays_heavy (size : Int) (A : Option Addr) (hs : List (Int × Int)) (c : Nat) (A2 : Option Addr) (l : List ActD) (c2 : Nat) (s0 : -9223372036854775808 ≤ size) (s1 : size ≤ 9223372036854775807) (w : World) (hl1 : hs.length ≤ 9223372036854775807) (hl2 : l.length ≤ 9223372036854775807) (h2 : HoldsActs w A2 l) (hv' : heavy l hs size) :
    Calls Try.prog 3 #[.int .i64 size, .slice A hs.length c, .slice A2 l.length c2] w (Yes w) := by
  have hlt := light_any A2 l c2 w hl2 h2
  have HLT := Lib.hid hlt
  clear hlt
  by_cases q1 : lightB l = true
  · by_cases q2 : 30 < hs.length
    · have q2i : (30 : Int) < hs.length := by omega
      clear hv' q2
      rw [q1] at HLT
      clear q1
      go_enter Try.func3, Try.ntmps3
      go_wp2_with fail
      refine HLT.out.mono ?_
      rintro e w1 ⟨rfl, rfl⟩
      go_wp2_with fail
      refine (knows_any _).mono ?_
      rintro e w1 ⟨rfl, hb1⟩
      go_wp2_with fail
      go_ret
      exact ⟨rfl, hb1⟩
    · have q3 : 4096 < size ∧ size ≤ 1048576 := by
        rcases hv' with e | e | e
        · rw [e] at q1; cases q1
        · exact absurd e q2
        · exact e
      obtain ⟨q4, q5⟩ := q3
      have q2i : (hs.length : Int) ≤ 30 := by omega
      clear hv' q2
      rw [q1] at HLT
      clear q1
      go_enter Try.func3, Try.ntmps3
      go_wp2_with fail
      refine HLT.out.mono ?_
      rintro e w1 ⟨rfl, rfl⟩
      go_wp2_with fail
      refine (knows_any _).mono ?_
      rintro e w1 ⟨rfl, hb1⟩
      go_wp2_with fail
      go_ret
      exact ⟨rfl, hb1⟩
  · have q1f : lightB l = false := by simpa using q1
    rw [q1f] at HLT
    clear q1 q1f hv'
    go_enter Try.func3, Try.ntmps3
    go_wp2_with fail
    refine HLT.out.mono ?_
    rintro e w1 ⟨rfl, rfl⟩
    go_wp2_with fail
    refine (knows_any _).mono ?_
    rintro e w1 ⟨rfl, hb1⟩
    go_wp2_with fail
    go_ret
    exact ⟨rfl, hb1⟩

theorem region_class {P : Program} {id : Nat} {Q : Exit → Act → World → Prop} {a : Act} {w : World} {l : List Oper} (C : World → Prop) (hm : P.follows .mixedOrders = true) (hB : Region.lexB .any l.toArray = true) (hC : C { w with drawn := w.drawn + 1 })
    (h : wpQuiet P l.toArray C (fun a' => ∀ w', C w' → Q .normal a' w') l a) : (Code.region id l.toArray true).wp P Q a w :=
  wp_region_quiet (C := C) hm hB hC (by simpa using h)
/-- The worlds below which nothing has turned. -/
def Cls (w0 W : World) : Prop := Below w0.heap.size w0 W
theorem knows_cls (w0 W : World) (h : Cls w0 W) : Calls Try.prog 8 #[] W fun e w' => e = .returned (.bool true) ∧ Cls w0 w' :=
  (knows_any W).mono fun _ _ q => ⟨q.1, Below.trans h (q.2.mono h.size)⟩
/-- What both News refuse. -/
def refused (size : Int) (hs : List (Int × Int)) : Prop := ¬ sizeOk size ∨ 16 < hs.length ∨ hs.all upright = false
theorem new_refused (size : Int) (A : Option Addr) (hs : List (Int × Int)) (c : Nat) (w : World) (s0 : -9223372036854775808 ≤ size) (s1 : size ≤ 9223372036854775807) (hl : hs.length ≤ 9223372036854775807) (hh : HoldsH w A hs) (hr : refused size hs) :
    Calls Try.prog 9 #[.int .i64 size, .slice A hs.length c] w (Gives (.tuple #[.pointer none, .int .i64 1]) w) := by
  by_cases h1 : sizeOk size
  · by_cases h2 : 16 < hs.length
    · exact new_many size A hs.length c w h1 h2 hl
    · rcases hr with e | e | e
      · exact absurd h1 e
      · exact absurd e h2
      · exact new_askew size A hs c w h1 (by omega) hh e
  · exact new_size size A hs.length c w h1 s0 s1
theorem rnew_refused (size : Int) (A : Option Addr) (hs : List (Int × Int)) (c : Nat) (w : World) (s0 : -9223372036854775808 ≤ size) (s1 : size ≤ 9223372036854775807) (hl : hs.length ≤ 9223372036854775807) (hh : HoldsR w A hs) (hr : refused size hs) :
    Calls Try.prog 11 #[.int .i64 size, .slice A hs.length c] w (Gives (.tuple #[.pointer none, .int .i64 1]) w) := by
  by_cases h1 : sizeOk size
  · by_cases h2 : 16 < hs.length
    · exact rnew_many size A hs.length c w h1 h2 hl
    · rcases hr with e | e | e
      · exact absurd h1 e
      · exact absurd e h2
      · exact rnew_askew size A hs c w h1 (by omega) hh e
  · exact rnew_size size A hs.length c w h1 s0 s1
set_option maxRecDepth 100000 in
set_option maxHeartbeats 1000000 in
theorem plays_refused (size : Int) (A : Option Addr) (hs : List (Int × Int)) (c : Nat) (A2 : Option Addr) (l : List ActD) (c2 : Nat) (s0 : -9223372036854775808 ≤ size) (s1 : size ≤ 9223372036854775807) (w : World) (hl1 : hs.length ≤ 30) (hl2 : l.length ≤ 9223372036854775807) (h1 : HoldsR w A hs) (h2 : HoldsActs w A2 l)
    (hlight : lightB l = true) (hsz : ¬ (4096 < size ∧ size ≤ 1048576)) (hr : refused size hs) :
    Calls Try.prog 3 #[.int .i64 size, .slice A hs.length c, .slice A2 l.length c2] w (Yes w) := by
  have hlt := light_any A2 l c2 w hl2 h2
  rw [hlight] at hlt
  have HLT := Lib.hid hlt
  clear hlt hlight
  have hl1i : (hs.length : Int) ≤ 30 := by omega
  have hsz2 : size ≤ 4096 ∨ 1048576 < size := by omega
  clear hsz
  rcases hsz2 with hsz | hsz
  all_goals
    go_enter Try.func3, Try.ntmps3
    go_wp2_with fail
    refine HLT.out.mono ?_
    rintro e w1 ⟨rfl, rfl⟩
    go_wp2_with fail
    refine (holes_any A hs c _ (by omega) h1).mono ?_
    rintro e w2 ⟨A', c', rfl, hh2, hb2⟩
    go_wp2_with fail
    refine (new_refused size A' hs c' _ s0 s1 (by omega) hh2 hr).mono ?_
    rintro e w3 ⟨rfl, hb3⟩
    have t3 := hb2.trans (hb3.mono hb2.size)
    go_wp2_with fail
    refine (rnew_refused size A hs c _ s0 s1 (by omega) (h1.below t3) hr).mono ?_
    rintro e w4 ⟨rfl, hb4⟩
    have t4 := t3.trans (hb4.mono t3.size)
    go_upto_block 0 with (go_at_call 12; refine (num_any _ (by decide) (by decide) _).mono ?_; rintro e w' ⟨rfl, rfl⟩)
    go_cut [7, 11] (fun m i wx => m = .pointer none ∧ Below w.heap.size w wx)
    case first =>
      go_wp2_with fail
      go_loop [7, 11] (fun m i => m = .pointer none ∧ i = .int .i64 0) (fun _ _ => 0)
      case atStart => exact ⟨rfl, rfl⟩
      case round =>
        obtain ⟨rfl, rfl⟩ := hrel
        by_cases q : 0 < l.length
        all_goals
          go_wp2_with fail
          go_meet
          exact ⟨rfl, t4⟩
    case rest =>
      obtain ⟨rfl, t5⟩ := hcut
      clear hr HLT h1 h2 t4 t3 hb2 hb3 hb4
      go_wp2
      refine region_class (Cls w) (by kernel_rfl) (by kernel_rfl) t5.drew ?_
      repeat (first | go_big_quiet_skip | (go_big_quiet_want; go_big_quiet_op; first | go_big_quiet_on | (refine ⟨_, fun _ _ => rfl, ?_⟩; go_big_quiet_on) | (refine ⟨_, fun W hC => knows_cls w W hC, ?_⟩; go_big_quiet_on)))
      refine wpQuiet_nil ?_
      intro w5 hC
      go_wp2
      go_ret
      exact ⟨rfl, hC⟩
end Go.Proofs.Ytkcblemiphpmaaa
