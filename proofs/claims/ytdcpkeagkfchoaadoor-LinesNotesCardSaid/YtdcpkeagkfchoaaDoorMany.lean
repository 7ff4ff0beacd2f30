/- The makers of the two iterators; tooMany where there are not too many lines. -/
import Derived.Test.YtdcpkeagkfchoaaDoorAdd
namespace Go.Proofs.YtdcpkeagkfchoaaDoor
open Go.RowKit Go.Shelf T6
set_option linter.unusedVariables false
attribute [local go_sem] Oper.semAt_some
theorem split_in (n : Nat) (s : Str) (w : World) :
    CallsIn Fence.wide n Tryd.prog 25 #[.string ⟨s.toArray⟩] w fun e w' => e = .returned (.func (.func 46) #[] #[.pointer (some ⟨w.heap.size, 0, none⟩)]) ∧ w' = w.alloc (.cells #[.string ⟨s.toArray⟩] 9) := by
  refine callsIn_of_wp Tryd.func25 rfl trivial ?_ rfl
  simp only [Tryd.ntmps25, List.size_toArray, List.length_cons, List.length_nil, Nat.reduceAdd, Nat.reduceSub, Array.replicate_succ, Array.replicate_zero, List.push_toArray, List.append_toArray, List.nil_append, List.cons_append]
  gi_wp2
  go_ret
  exact ⟨rfl, rfl⟩
theorem words_in (n : Nat) (s : Str) (w : World) :
    CallsIn Fence.wide n Tryd.prog 26 #[.string ⟨s.toArray⟩] w fun e w' => e = .returned (.func (.func 48) #[] #[.pointer (some ⟨w.heap.size, 0, none⟩)]) ∧ w' = w.alloc (.cells #[.string ⟨s.toArray⟩] 9) := by
  refine callsIn_of_wp Tryd.func26 rfl trivial ?_ rfl
  simp only [Tryd.ntmps26, List.size_toArray, List.length_cons, List.length_nil, Nat.reduceAdd, Nat.reduceSub, Array.replicate_succ, Array.replicate_zero, List.push_toArray, List.append_toArray, List.nil_append, List.cons_append]
  gi_wp2
  go_ret
  exact ⟨rfl, rfl⟩
theorem free_t {A B C : World} (_ : Free A B) (_ : Free B C) : Free A C := trivial
theorem free_b {w : World} (W : World) (l : Nat) (o o' : Obj) (_ : w.heap.size ≤ l) (_ : W.heap[l]? = some o) (_ : o.isCells = false) (_ : o.isWalk = false) : Free W (W.putObj l o') := trivial
set_option maxRecDepth 100000 in
set_option maxHeartbeats 2000000 in
theorem many_any (s : Str) (hs : s.length < 4294967281) (hN : (splitL s).length ≤ 32768) (w : World) :
    Calls Tryd.prog 24 #[.string ⟨s.toArray⟩] w fun e W' => e = .returned (.bool false) ∧ Below w.heap.size w W' := by
  refine (callsIn_wide (n := 8)).1 ?_
  refine callsIn_of_wp_marks Tryd.func24 rfl trivial ?_ rfl
  simp only [Tryd.ntmps24, List.size_toArray, List.length_cons, List.length_nil, Nat.reduceAdd, Nat.reduceSub, Array.replicate_succ, Array.replicate_zero, List.push_toArray, List.append_toArray, List.nil_append, List.cons_append]
  gi_wp2_with (refine ⟨trivial, ?_⟩; gi_at_call 25; refine (split_in _ s _).mono ?_; rintro e w' ⟨rfl, rfl⟩)
  have bR := ((Boxed.new w 4 (.bool false)).alloc (.cells #[.int .i64 0] 3)).alloc (.cells #[.string ⟨s.toArray⟩] 9)
  have bN := (Boxed.new (w.alloc (.cells #[.bool false] 4)) 3 (.int .i64 0)).alloc (.cells #[.string ⟨s.toArray⟩] 9)
  have bS := Boxed.new ((w.alloc (.cells #[.bool false] 4)).alloc (.cells #[.int .i64 0] 3)) 9 (.string ⟨s.toArray⟩)
  simp only [World.size_alloc] at bN bS
  have hB0 : Below w.heap.size w (((w.alloc (.cells #[.bool false] 4)).alloc (.cells #[.int .i64 0] 3)).alloc (.cells #[.string ⟨s.toArray⟩] 9)) := (((Below.refl _ w).alloc (Nat.le_refl _) _).alloc (by simp) _).alloc (by simp; omega) _
  have hsz : (((w.alloc (.cells #[.bool false] 4)).alloc (.cells #[.int .i64 0] 3)).alloc (.cells #[.string ⟨s.toArray⟩] 9)).heap.size = w.heap.size + 3 := by simp
  refine wpIn_rangeFunc_ownF rfl (by omega) (gf := 46) (lb := #[.pointer (some ⟨w.heap.size + 1 + 1, 0, none⟩)]) rfl trivial (enters_of Tryd.func46 (by kernel_rfl) rfl)
    (split_stops Fence.wide _ rfl (by omega) (w.heap.size + 1 + 1) s hs _ bS.lt bS.cell) free_t free_b (Below.refl _ _) (fun _ => rfl)
    (fun pre W => (Boxed W w.heap.size 4 (.bool false) ∧ Boxed W (w.heap.size + 1) 3 (.int .i64 (pre.length : Int))) ∧ Below w.heap.size w W)
    (fun _ _ _ => False)
    (OwnFrom.and (OwnFrom.and (Own.from (boxed_own _ _ _) _) (Own.from (boxed_own _ _ (fun pre : List Str => .int .i64 (pre.length : Int))) _)) (ownFrom_below (Nat.le_refl _) (by simp; omega)))
    (fun _ _ _ _ _ hs _ _ => hs)
    ⟨⟨bR, bN⟩, hB0⟩
    (fun x => { tmps := #[.string ⟨s.toArray⟩, undef, .pointer (some ⟨w.heap.size, 0, none⟩), .pointer (some ⟨w.heap.size + 1, 0, none⟩), .string ⟨s.toArray⟩, .func (.func 46) #[] #[.pointer (some ⟨w.heap.size + 1 + 1, 0, none⟩)], .string ⟨x.toArray⟩, undef, undef, undef, undef], defers := [] }) ?assign ?body ?done ?stop
  case assign =>
    intro l x W K hK
    dsimp only [encT]
    gi_wp2
    simpa using hK
  case body =>
    rintro l pre x W ⟨⟨bR1, bN1⟩, hB⟩ hlt
    have cN := bN1.cell
    have fN := bN1.frozen
    obtain ⟨m, hm⟩ : ∃ m : Int, (pre.length : Int) = m := ⟨_, rfl⟩
    have hp0 : 0 ≤ m := by omega
    have hp : (m ≤ 40000) = True := by simp; omega
    have hp2 : ((32768 : Int) < m + 1) = False := by simp; omega
    have hp3 : IntKind.i64.wrap (m + 1) = m + 1 := IntWalk.i64_in _ (by omega)
    have hp4 : wrap64 (m + 1) = m + 1 := IntWalk.wrap64_in _ (by omega)
    have HM := Lib.hid hm
    have HL := Lib.hid hlt
    have HNN := Lib.hid hN
    rw [hm] at bN1 cN
    clear hm hlt hN
    gi_wp2
    refine ⟨KeepsOthers.setCell _ _ _, trivial, ⟨bR1.other (by omega) _, ?_⟩, hB.setCell (p := ⟨w.heap.size + 1, 0, none⟩) (by simp) _⟩
    rw [show (((pre ++ [x]).length : Nat) : Int) = m + 1 by rw [← HM.out]; simp]
    exact bN1.set _
  case done =>
    rintro D ys W hD rfl ⟨⟨bR1, bN1⟩, hB⟩ hK
    have cR := bR1.cell
    have fR := bR1.frozen
    gi_wp2
    have hK' := (KeepsOthers.setCell W ⟨w.heap.size, 0, none⟩ (.bool false)).same D _ hK rfl
    refine ⟨by simp, .inl ⟨_, _, rfl, run_takeDeferred hK', ?_⟩⟩
    have hc5 := cell_kept (bR1.set (.bool false)).cell (grownBy_putObj' _ D (.deferred none)) (fun r e => by cases e; exact ⟨_, hK', rfl⟩)
    refine ⟨.bool false, ?_, rfl, (hB.setCell (p := ⟨w.heap.size, 0, none⟩) (Nat.le_refl _) _).trans (belowK_b (w := w) (Nat.le_refl _) _ D _ _ (by simp at hD; omega) hK' rfl rfl)⟩
    simp [results, Tryd.f24, go_sem, hc5]
  case stop =>
    rintro D c pre W hD _ h _
    exact h.elim
end Go.Proofs.YtdcpkeagkfchoaaDoor
