/- What New of package port answers: the channel is filled in a loop. -/
import Derived.Test.YtadaiomlildhjaaPort
namespace Go.Proofs.Ytadaiomlildhjaa
open Go.RowKit Go.Conc
set_option linter.unusedVariables false

theorem mk_chan (n : Nat) (hn : n ≤ 65536) (w : World) : (Instr.makeChan 44 (.int .i64 (n : Int))).run Try.prog w = .ok (.chan (some w.heap.size)) (w.alloc (.chan n #[] false 0 0 false)) := by
  obtain ⟨i0, hi, hz0, hz1, hz2⟩ := info_parts info_u8
  exact run_makeChan (P := Try.prog) (w := w) Try.underlying44 hi .i64 n (by omega) (by rw [hz2]; omega)
theorem new_many (A : Option Addr) (l c : Nat) (w : World) (hl : 65536 < l) (hm : l ≤ 9223372036854775807) :
    Calls Try.prog 7 #[.slice A l c] w fun e w' => e = .returned (.tuple #[.pointer none, .int .i64 1]) ∧ w = w' := by
  have h5 : (65536 : Int) < l := by omega
  go_enter Try.func7, Try.ntmps7
  go_wp2
  go_ret2
  exact ⟨rfl, rfl⟩
theorem plain_add0 {w : World} {a : Addr} {v : Value} (h : w.cell? (a.add 0) = some v) : a.spot = none := by
  have e := World.cell?_spot h
  simpa [Addr.add] using e
theorem Holds.flat {w : World} {A : Option Addr} {xs : List UInt8} (h : Holds w A xs) (h0 : 0 < xs.length) : ∃ b o, A = some ⟨b, o, none⟩ ∧ ∀ j (x : UInt8), xs[j]? = some x → w.cell? ⟨b, o + j, none⟩ = some (.int .u8 (x.toNat : Int)) := by
  obtain ⟨ad, rfl, hc⟩ := h h0
  have hsp : ad.spot = none := plain_add0 (hc 0 _ (List.getElem?_eq_getElem (by rw [length_bv]; exact h0)))
  obtain ⟨b, o, sp⟩ := ad
  obtain rfl : sp = none := hsp
  refine ⟨b, o, rfl, fun j x hj => ?_⟩
  rw [← addr_add]
  exact hc j _ (bv_get xs j x hj)
theorem Holds.flat_at {w : World} {b o : Nat} {xs : List UInt8} (h : Holds w (some ⟨b, o, none⟩) xs) (h0 : 0 < xs.length) {j : Nat} {x : UInt8} (hj : xs[j]? = some x) : w.cell? ⟨b, o + j, none⟩ = some (.int .u8 (x.toNat : Int)) := by
  obtain ⟨b2, o2, e, hc⟩ := h.flat h0
  injection e with e
  injection e with e1 e2
  subst e1 e2
  exact hc j x hj
/-- A loop that ends after so many rounds. -/
theorem lone_rounds {P : Program} {Q : Goroutine → World → Prop} {b : Frame} {k : List Item} {cs : List Frame} {C : Code} {I : Nat → Act → World → Prop}
    (round : ∀ n a w, I (n + 1) a w → (∀ a' w', I n a' w' → LoneTo P Q (G (b.at a' (.inLoop C :: k)) cs) w') → LoneTo P Q (G (b.at a (.code C :: .inLoop C :: k)) cs) w)
    (last : ∀ a w, I 0 a w → LoneTo P Q (G (b.at a (.code C :: .inLoop C :: k)) cs) w) : ∀ n a w, I n a w → LoneTo P Q (G (b.at a (.code C :: .inLoop C :: k)) cs) w := by
  intro n
  induction n with
  | zero => exact last
  | succ n ih => exact fun a w h => round n a w h fun a' w' h' => lone_again (ih a' w' h')

/-- What New leaves. -/
def MadePort (xs : List UInt8) (w : World) (e : Ending) (w' : World) : Prop := ∃ g c, e = .returned (.tuple #[.pointer (some ⟨g, 0, none⟩), .int .i64 0]) ∧ IsPort w' w.heap.size g c xs [] (.slice none 0 0) 0 false ∧ Below w.heap.size w w'
/-- What stands at the loop's head. -/
structure Filling (w : World) (c g : Nat) (xs : List UInt8) (k : Nat) (W : World) : Prop where
  self : Blok W g 46 [.chan (some c), .slice none 0 0, .int .u32 0, .bool false, .pointer none]
  chan : W.heap[c]? = some (.chan xs.length (bv (xs.take k)).toArray false k 0 false)
  below : Below w.heap.size w W
  c0 : w.heap.size ≤ c
  g0 : w.heap.size ≤ g
theorem Filling.sent {w W : World} {c g k : Nat} {xs : List UInt8} {x : UInt8} (h : Filling w c g xs k W) (hx : xs[k]? = some x) (m : Nat) (hm : m = k + 1) : Filling w c g xs m (W.setChan c xs.length (((bv (xs.take k)).toArray).push (.int .u8 (x.toNat : Int))) false (k + 1) 0 false) := by
  subst hm
  have hlt : c < W.heap.size := (Array.getElem?_eq_some_iff.1 h.chan).1
  have e : ((bv (xs.take k)).toArray).push (.int .u8 (x.toNat : Int)) = (bv (xs.take (k + 1))).toArray := by
    rw [List.take_add_one, hx]
    simp [bv]
  rw [e]
  have hk := only_chan W c xs.length (bv (xs.take (k + 1))).toArray false (k + 1) 0 false
  have hne : ¬ g = c := by
    rintro rfl
    have h1 := h.self
    unfold Blok at h1
    rw [h.chan] at h1
    cases h1
  exact ⟨h.self.keeps hk hne, heap_setChan _ _ _ _ _ _ _ _ hlt, Only.below h.below hk h.below.size (fun i hi => by subst hi; exact h.c0), h.c0, h.g0⟩
theorem Filling.done {w W : World} {c g : Nat} {xs : List UInt8} (h : Filling w c g xs xs.length W) (hl : xs.length ≤ 65536) : IsPort (W.setCell ⟨g, 4, none⟩ (.pointer (some ⟨g, 0, none⟩))) w.heap.size g c xs [] (.slice none 0 0) 0 false := by
  have h1 := h.self.set_ 4 (.pointer (some ⟨g, 0, none⟩))
  have hk := only_set W g 4 (.pointer (some ⟨g, 0, none⟩))
  have h2 : Chan W c xs := ⟨_, _, _, by have := h.chan; rwa [List.take_length] at this⟩
  exact ⟨h1, h2.keep (hk.block c h2.lt (h2.ne_blok h.self)), World.ownsRow_nil _ _ _ _, by simp, hl, h.g0, h.c0⟩
/-- The frame at the loop's head. -/
def Filled (A : Option Addr) (c0 : Nat) (w : World) (c g : Nat) (xs : List UInt8) (n : Nat) (a : Act) (W : World) : Prop := ∃ (k : Nat) (u5 u6 u7 u8 u9 u10 u11 u12 u13 u14 u18 u19 u20 u21 u22 u23 u24 u25 u26 : Value), k + n = xs.length ∧ a = ⟨#[.slice A xs.length c0, undef, .pointer none, .int .i64 0, .pointer (some ⟨g, 0, none⟩), u5, u6, u7, u8, u9, u10, u11, u12, u13, u14, .slice A xs.length c0, .int .i64 xs.length, .int .i64 k, u18, u19, u20, u21, u22, u23, u24, u25, u26, undef, undef, undef, undef, undef], []⟩ ∧ Filling w c g xs k W
set_option maxRecDepth 100000 in
set_option maxHeartbeats 1000000 in
theorem new_yes (A : Option Addr) (xs : List UInt8) (c0 : Nat) (w : World) (hx : Holds w A xs) (hl : xs.length ≤ 65536) :
    Calls Try.prog 7 #[.slice A xs.length c0] w (MadePort xs w) := by
  have h5 : (xs.length : Int) ≤ 65536 := by omega
  have hmk := mk_chan xs.length hl
  refine calls_of_lone (fun cs => ?_) (fun w' q => by obtain ⟨_, _, q, _⟩ := q; cases q)
  have e : Frame.enter Try.prog 7 #[.slice A xs.length c0] .normal = (base 7).at ⟨#[.slice A xs.length c0, undef, undef, undef, undef, undef, undef, undef, undef, undef, undef, undef, undef, undef, undef, undef, undef, undef, undef, undef, undef, undef, undef, undef, undef, undef, undef, undef, undef, undef, undef, undef], []⟩ [.code (Try.f7.body.getD .skip)] := by
    simp [Frame.enter, Frame.at, Try.func7, base, Try.f7]
  rw [e]
  clear e
  simp only [Try.f7, Option.getD_some]
  refine lone_seq (lone_wp ?_)
  go_wp2
  refine ⟨rfl, lone_seq (lone_wp ?_)⟩
  go_wp2
  refine ⟨rfl, lone_seq (lone_wp ?_)⟩
  go_wp2
  refine ⟨rfl, lone_seq (lone_seq (lone_wp ?_))⟩
  go_wp2
  refine ⟨rfl, lone_block (lone_loop ?_)⟩
  obtain ⟨g, hg⟩ : ∃ g, w.heap.size + 1 = g := ⟨_, rfl⟩
  obtain ⟨c, hc⟩ : ∃ c, w.heap.size = c := ⟨_, rfl⟩
  have F0 : Filling w c g xs 0 ((w.alloc (.chan xs.length #[] false 0 0 false)).alloc (.cells #[.chan (some w.heap.size), .slice none 0 0, .int .u32 0, .bool false, .pointer none] 46)) := by
    have B := Blok.made (w.alloc (.chan xs.length #[] false 0 0 false)) 46 [.chan (some w.heap.size), .slice none 0 0, .int .u32 0, .bool false, .pointer none]
    rw [World.size_alloc, hg, hc] at B
    rw [hc]
    refine ⟨B, ?_, ((Below.refl w.heap.size w).alloc (Nat.le_refl _) _).alloc (by simp) _, by omega, by omega⟩
    rw [Below.heap_alloc _ _ _ (by simp; omega)]
    rw [← hc]
    simpa [bv] using heap_alloc_new w (.chan xs.length #[] false 0 0 false)
  rw [hg]
  generalize ((w.alloc (.chan xs.length #[] false 0 0 false)).alloc (.cells #[.chan (some w.heap.size), .slice none 0 0, .int .u32 0, .bool false, .pointer none] 46)) = W0 at F0
  rw [hc]
  refine lone_rounds (I := Filled A c0 w c g xs) ?_ ?_ xs.length _ W0 ⟨0, _, _, _, _, _, _, _, _, _, _, _, _, _, _, _, _, _, _, _, by omega, rfl, F0⟩
  · rintro n a W ⟨k, u5, u6, u7, u8, u9, u10, u11, u12, u13, u14, u18, u19, u20, u21, u22, u23, u24, u25, u26, hk, rfl, hF⟩ hnext
    have hlt : k < xs.length := by omega
    have hp := List.getElem?_eq_getElem hlt
    generalize xs[k] = x at hp
    obtain ⟨ib, io, rfl, hcell⟩ := (hx.below hF.below).flat (by omega)
    have q1 := hcell k x hp
    have HP := Lib.hid hp
    have HN := Lib.hid hnext
    have HC := Lib.hid hF.chan
    have r0 : W.cell? ⟨g, 0, none⟩ = some (.chan (some c)) := hF.self.at_ 0
    clear hp hnext hmk hcell
    refine lone_seq (lone_wp ?_)
    go_wp2
    refine ⟨rfl, lone_seq ?_⟩
    refine LoneTo.goes (n := 2) ?_
    s_cond true
    s_c stepG_skip
    s_stop
    refine lone_seq (lone_block (lone_seq (lone_wp ?_)))
    go_wp2
    refine ⟨rfl, ?_⟩
    refine LoneTo.goes (n := 6) ?_
    s_reg
    s_op
    s_op
    s_op
    s_op
    s_op
    s_stop
    refine LoneTo.step (step_lone_send_room (c := c) (v := .int .u8 (x.toNat : Int)) (z' := .tuple #[]) (cap := xs.length) (buf := (bv (xs.take k)).toArray) (s := k) (r := 0) (tm := false)
      (stepG_comm (cases := #[scase c (.int .u8 (x.toNat : Int)) (.tuple #[])]) (blocking := true) (shape := .send) (w' := W) rfl rfl (by decide) (by simp [execOp, scase, Act.eval])) HC.out (by simp [length_bv]; omega)) ?_
    rw [Frame.finish_at]
    simp only [List.getElem?_toArray, List.getElem?_cons_succ, List.getElem?_cons_zero, Option.bind_some, Act.put]
    refine LoneTo.goes (n := 2) ?_
    s_c stepG_region_end
    s_c stepG_inBlock
    s_stop
    have hF2 := hF.sent HP.out (k + 1) rfl
    generalize W.setChan c xs.length (((bv (xs.take k)).toArray).push (.int .u8 (x.toNat : Int))) false (k + 1) 0 false = W1 at hF2
    refine lone_wp ?_
    go_wp2
    exact ⟨rfl, HN.out _ _ ⟨k + 1, _, _, _, _, _, _, _, _, _, _, _, _, _, _, _, _, _, _, _, by omega, by rw [show ((k + 1 : Nat) : Int) = (k : Int) + 1 by omega], hF2⟩⟩
  · rintro a W ⟨k, u5, u6, u7, u8, u9, u10, u11, u12, u13, u14, u18, u19, u20, u21, u22, u23, u24, u25, u26, hk, rfl, hF⟩
    have hkl : k = xs.length := by omega
    subst hkl
    clear hmk
    refine lone_seq (lone_wp ?_)
    go_wp2
    refine ⟨rfl, lone_seq ?_⟩
    refine LoneTo.goes (n := 2) ?_
    s_cond false
    s_exit
    s_stop
    refine lone_tail Try.func7 rfl rfl (fun w' q => by obtain ⟨_, _, q, _⟩ := q; cases q) ?_
    have HD := Lib.hid (hF.done hl)
    have r4 : W.cell? ⟨g, 4, none⟩ = some (.pointer none) := hF.self.at_ 4
    have f4 := hF.self.free 4
    have hb := hF.below.setCell (p := ⟨g, 4, none⟩) (by exact hF.g0) (.pointer (some ⟨g, 0, none⟩))
    go_wp2
    go_ret2
    exact ⟨g, c, rfl, HD.out, hb⟩
end Go.Proofs.Ytadaiomlildhjaa
