/- What must come of a port; the walk of the law on no port, and on one that nobody made. -/
import Derived.Test.YtadaiomlildhjaaPcalls
import Derived.Outline
import Derived.Lib.SlBytesConst
namespace Go.Proofs.Ytadaiomlildhjaa
open Go.RowKit Go.Conc
set_option linter.unusedVariables false

section
variable {w0 w w1 : World} {B B' g c : Nat} {ins outs : List UInt8} {ov : Value} {code : Int} {ht : Bool}
theorem IsPort.step_c (h : IsPort w B' g c ins outs ov code ht) (hB : B ≤ B') (hbl : Below B w0 w) (hk : Only (· = c) w w1) : Below B w0 w1 :=
  Only.below hbl hk (by have := h.chan.lt; have := h.b2; omega) (fun i hi => by have := h.b2; omega)
theorem IsPort.step_g (h : IsPort w B' g c ins outs ov code ht) (hB : B ≤ B') (hbl : Below B w0 w) (hk : Only (· = g) w w1) : Below B w0 w1 :=
  Only.below hbl hk (by have := h.self.lt; have := h.b1; omega) (fun i hi => by have := h.b1; omega)
theorem IsPort.step_o (h : IsPort w B' g c ins outs ov code ht) (hB : B ≤ B') (hbl : Below B w0 w) (hk : Only (fun i => i = g ∨ ov.ownBlock = some i) w w1) : Below B w0 w1 :=
  Only.below hbl hk (by have := h.self.lt; have := h.b1; omega) (fun i hi => by
    rcases hi with hi | hi
    · have := h.b1
      omega
    · have := (h.out.lt i hi).1
      omega)
end
theorem knows_any (w : World) : Calls Try.prog 6 #[] w (Yes w) := by
  have hb0 : Below w.heap.size w (w.alloc (.cells #[.int .u8 97] 5 (1, 2))) := (Below.refl _ _).alloc (Nat.le_refl _) _
  have hold : Holds (w.alloc (.cells #[.int .u8 97] 5 (1, 2))) (some ⟨w.heap.size, 0, none⟩) [97] := fun _ => ⟨_, rfl, fun j u hj => by
    rw [addr_add, Nat.zero_add, cell_of_row _ w.heap.size j _ 5 (1, 2) (heap_alloc_new w _)]
    exact (Array.getElem?_toList (xs := #[Value.int .u8 97])).symm.trans hj⟩
  have hcv := Lib.run_convert_bytes_const (P := Try.prog) w 22 5 #[.int .u8 97] 1 1 Try.underlying22 Try.underlying5
  have e0 : (#[Value.int .u8 97] : Array Value).size = 1 := rfl
  rw [e0] at hcv
  clear e0
  go_enter Try.func6, Try.ntmps6
  go_wp2_with fail
  refine (new_yes _ [97] 1 _ hold (by decide)).mono ?_
  rintro e w1 ⟨g, c, rfl, hp1, hb1⟩
  go_wp2_with fail
  refine (in_any _ g c [97] [] _ 0 false w1 hp1).mono ?_
  rintro e w2 ⟨rfl, hp2, hk2⟩
  go_wp2_with fail
  refine (in_any _ g c [] [] _ 0 false w2 hp2).mono ?_
  rintro e w3 ⟨rfl, hp3, hk3⟩
  go_wp2_with fail
  refine (out_any 353 (by decide) (by decide) hp3).mono ?_
  rintro e w4 ⟨rfl, ov, hp4, hk4, hat4⟩
  have e4 : putB [] 353 = [97] := by decide
  rw [e4] at hp4
  have hi1 : inV [97] = 97 := rfl
  have hi2 : inV [] = 4294967295 := rfl
  go_wp2_with (first | (go_at_call 9; refine (num_any _ (by decide) (by decide) _).mono ?_; rintro e w' ⟨rfl, rfl⟩) | (go_at_call 16; refine (output_any hp4).mono ?_; rintro e w5 ⟨A5, rfl, ho5, hb5⟩; have cv5 := conv_holds w5 A5 [97] 1 1 rfl ho5.holds; have hp5 := hp4.below hb5) | (go_at_call 19; refine (left_any hp5).mono ?_; rintro e w' ⟨rfl, rfl⟩))
  go_ret
  have t1 := hb0.trans (hb1.mono (by simp))
  have z : w.heap.size ≤ (w.alloc (.cells #[.int .u8 97] 5 (1, 2))).heap.size := by simp
  have t2 := hp1.step_c z t1 hk2
  have t3 := hp2.step_c z t2 hk3
  have t4 := hp3.step_o z t3 hk4
  exact ⟨rfl, t4.trans (hb5.mono t4.size)⟩

/-- No port, or one whose fields are all zero. -/
def Unmade (w : World) (p : Option Addr) : Prop := p = none ∨ ∃ g, p = some ⟨g, 0, none⟩ ∧ Blok w g 46 [.chan none, .slice none 0 0, .int .u32 0, .bool false, .pointer none]
theorem Unmade.below {w w' : World} {p : Option Addr} (h : Unmade w p) (hb : Below w.heap.size w w') : Unmade w' p := by
  rcases h with h | ⟨g, h, hg⟩
  · exact .inl h
  · exact .inr ⟨g, h, hg.below hb hg.lt⟩
theorem made_zero (g : Nat) (w : World) (h : Blok w g 46 [.chan none, .slice none 0 0, .int .u32 0, .bool false, .pointer none]) :
    Calls Try.prog 20 #[.pointer (some ⟨g, 0, none⟩)] w fun e w' => e = .returned (.bool false) ∧ w = w' := by
  have c4 : w.cell? ⟨g, 4, none⟩ = some (.pointer none) := h.at_ 4
  have he : ∀ W, _ := fun W : World => eql_none_some (P := Try.prog) W ⟨g, 0, none⟩ Try.underlying25
  go_enter Try.func20, Try.ntmps20
  go_wp2
  go_ret
  exact ⟨rfl, rfl⟩
theorem made_not (p : Option Addr) (w : World) (h : Unmade w p) :
    Calls Try.prog 20 #[.pointer p] w fun e w' => e = .returned (.bool false) ∧ w = w' := by
  rcases h with rfl | ⟨g, rfl, hg⟩
  · exact made_nil w
  · exact made_zero g w hg
theorem in_not (p : Option Addr) (w : World) (h : Unmade w p) :
    Calls Try.prog 10 #[.pointer p] w fun e w' => e = .returned (.int .u32 0) ∧ w = w' := by
  go_enter Try.func10, Try.ntmps10
  go_wp2_with (first | (go_at_call 20; refine (made_not p _ h).mono ?_; rintro e w' ⟨rfl, rfl⟩))
  go_ret
  exact ⟨rfl, rfl⟩
theorem out_not (p : Option Addr) (v : Int) (w : World) (h : Unmade w p) :
    Calls Try.prog 12 #[.pointer p, .int .u32 v] w fun e w' => e = .returned (.tuple #[]) ∧ w = w' := by
  go_enter Try.func12, Try.ntmps12
  go_wp2_with (first | (go_at_call 20; refine (made_not p _ h).mono ?_; rintro e w' ⟨rfl, rfl⟩))
  exact body_none rfl rfl ⟨rfl, rfl⟩
theorem halt_not (p : Option Addr) (v : Int) (w : World) (h : Unmade w p) :
    Calls Try.prog 14 #[.pointer p, .int .u32 v] w fun e w' => e = .returned (.tuple #[]) ∧ w = w' := by
  go_enter Try.func14, Try.ntmps14
  go_wp2_with (first | (go_at_call 20; refine (made_not p _ h).mono ?_; rintro e w' ⟨rfl, rfl⟩))
  exact body_none rfl rfl ⟨rfl, rfl⟩
theorem halted_not (p : Option Addr) (w : World) (h : Unmade w p) :
    Calls Try.prog 18 #[.pointer p] w fun e w' => e = .returned (.tuple #[.int .u32 0, .bool false]) ∧ w = w' := by
  go_enter Try.func18, Try.ntmps18
  go_wp2_with (first | (go_at_call 20; refine (made_not p _ h).mono ?_; rintro e w' ⟨rfl, rfl⟩))
  go_ret2
  exact ⟨rfl, rfl⟩
theorem output_not (p : Option Addr) (w : World) (h : Unmade w p) :
    Calls Try.prog 16 #[.pointer p] w fun e w' => e = .returned (.slice none 0 0) ∧ w = w' := by
  go_enter Try.func16, Try.ntmps16
  go_wp2_with (first | (go_at_call 20; refine (made_not p _ h).mono ?_; rintro e w' ⟨rfl, rfl⟩))
  go_ret
  exact ⟨rfl, rfl⟩
theorem left_not (p : Option Addr) (w : World) (h : Unmade w p) :
    Calls Try.prog 19 #[.pointer p] w fun e w' => e = .returned (.int .i64 0) ∧ w = w' := by
  go_enter Try.func19, Try.ntmps19
  go_wp2_with (first | (go_at_call 20; refine (made_not p _ h).mono ?_; rintro e w' ⟨rfl, rfl⟩))
  go_ret
  exact ⟨rfl, rfl⟩
theorem nil_any (v : Int) (w : World) :
    Calls Try.prog 4 #[.int .u32 v] w (Yes w) := by
  go_enter Try.func4, Try.ntmps4
  go_wp2_with fail
  go_loopw [3, 4] (fun m i wr => ∃ (j : Nat) (p : Option Addr), j ≤ 2 ∧ i = .int .i64 j ∧ m = .pointer p ∧ Unmade wr p ∧ Below w.heap.size w wr) (fun _ i _ => 2 - (intOf i).toNat)
  case atStart => exact ⟨0, none, by omega, rfl, rfl, .inl rfl, Below.refl _ _⟩
  case round =>
    obtain ⟨j, p, hj, rfl, rfl, hun, hbl⟩ := hrel
    by_cases hlt : j < 2
    · go_wp2_with (first | (go_at_call 12; refine (out_not p _ _ hun).mono ?_; rintro e w' ⟨rfl, rfl⟩) | (go_at_call 14; refine (halt_not p _ _ hun).mono ?_; rintro e w' ⟨rfl, rfl⟩) | (go_at_call 18; refine (halted_not p _ hun).mono ?_; rintro e w' ⟨rfl, rfl⟩) | (go_at_call 10; refine (in_not p _ hun).mono ?_; rintro e w' ⟨rfl, rfl⟩) | (go_at_call 16; refine (output_not p _ hun).mono ?_; rintro e w' ⟨rfl, rfl⟩) | (go_at_call 19; refine (left_not p _ hun).mono ?_; rintro e w' ⟨rfl, rfl⟩))
      go_roundw
      case rel => exact ⟨j + 1, some ⟨wr.heap.size, 0, none⟩, by omega, by go_num, rfl, .inr ⟨_, rfl, Blok.made wr 46 [.chan none, .slice none 0 0, .int .u32 0, .bool false, .pointer none]⟩, hbl.alloc hbl.size _⟩
      case measure => simp [intOf]; omega
    · go_wp2_with fail
      refine (knows_any _).mono ?_
      rintro e w1 ⟨rfl, hb1⟩
      go_wp2_with fail
      go_ret
      exact ⟨rfl, hbl.trans (hb1.mono hbl.size)⟩
end Go.Proofs.Ytadaiomlildhjaa
