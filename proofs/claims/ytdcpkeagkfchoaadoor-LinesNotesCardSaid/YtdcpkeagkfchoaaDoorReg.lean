/- The numbers of registers: the program's and the document's answer. -/
import Derived.Test.YtdcpkeagkfchoaaDoorRefn
import Derived.Test.YtdcpkeagkfchoaaDoorShelfB
import Derived.Deep.WholeRow
import Derived.Outline
namespace Go.Proofs.YtdcpkeagkfchoaaDoor
open Go.RowKit T6
set_option linter.unusedVariables false
def regNames : List Str := [[122, 101, 114, 111], [114, 97], [115, 112], [103, 112], [116, 112], [116, 48], [116, 49], [116, 50], [115, 48], [115, 49], [97, 48], [97, 49], [97, 50], [97, 51], [97, 52], [97, 53], [97, 54], [97, 55], [115, 50], [115, 51], [115, 52], [115, 53], [115, 54], [115, 55], [115, 56], [115, 57], [115, 49, 48], [115, 49, 49], [116, 51], [116, 52], [116, 53], [116, 54]]
def regArr : Array Value := (regNames.map fun s => Value.string ⟨s.toArray⟩).toArray
def regX (k : Nat) : Str := 120 :: Lib.decDigits k
def regN (k : Nat) : Str := regNames[k]?.getD []
theorem wpList_value {P : Program} {w : World} {ops : Array Oper} {rest : List Oper} {o : Oper} {a : Act} {Q : Exit → Act → World → Prop} (hgd : o.guard = none) (t : TypeId) (parts : Array (Nat × Operand)) (ho : o.op = .build t parts) (v : Value) (hrun : (execOp a.eval o).run P w = .ok (.value v) w) (h : wpList P ops Q rest (a.put o.dst v) w) : wpList P ops Q (o :: rest) a w :=
  wpList_plain hgd fun K hK => by
    unfold Oper.wp
    rw [hrun]
    exact hK _ _ h
theorem wpList_stored {P : Program} {w w' : World} {ops : Array Oper} {rest : List Oper} {o : Oper} {a : Act} {Q : Exit → Act → World → Prop} (hgd : o.guard = none) (t : TypeId) (x y : Operand) (ho : o.op = .store t x y) (hrun : (Instr.storeAt t (a.eval x) (a.eval y)).run P w = .ok () w') (h : wpList P ops Q rest (a.put o.dst undef) w') : wpList P ops Q (o :: rest) a w :=
  wpList_plain hgd fun K hK => by
    have hr : (execOp a.eval o).run P w = .ok .skip w' := by
      unfold execOp
      simp only [ho, Sem.run_bind, hrun, Result.andThen, Sem.run_pure]
    unfold Oper.wp
    rw [hr]
    exact hK _ _ h
theorem regArr_one : regArr.all (·.oneCell') = true := by kernel_rfl
theorem info_reg : (Tryd.prog.info? 75).map (·.size) = some regArr.size := by kernel_rfl
set_option maxRecDepth 100000 in
theorem registers_any (w : World) : Calls Tryd.prog 44 #[] w fun e w' => e = .returned (.agg regArr) ∧ Below w.heap.size w w' := by
  go_enter Tryd.func44, Tryd.ntmps44
  go_wp2_with (first
    | (refine wpList_value rfl _ _ rfl (.agg regArr) (by kernel_rfl) ?_)
    | (refine wpList_stored rfl _ _ _ rfl (run_storeAt_new w 75 _ regArr info_reg (by kernel_rfl) regArr_one) ?_))
  refine bodyPost_ret (v := .agg regArr) (results_cell_row rfl _ _ w.heap.size 75 regArr (0, 0) _ rfl (heap_alloc_new w _) Tryd.underlying75 rfl info_reg) rfl ⟨rfl, (Below.refl _ _).alloc (Nat.le_refl _) _⟩
theorem reg_index : ∀ (k : Nat) (h : k < 32) (w : World), (Instr.index 75 (.agg regArr) (.int .i64 (k : Int))).run Tryd.prog w = .ok (.string ⟨(regN k).toArray⟩) w
  | 0, _ => fun _ => by kernel_rfl
  | 1, _ => fun _ => by kernel_rfl
  | 2, _ => fun _ => by kernel_rfl
  | 3, _ => fun _ => by kernel_rfl
  | 4, _ => fun _ => by kernel_rfl
  | 5, _ => fun _ => by kernel_rfl
  | 6, _ => fun _ => by kernel_rfl
  | 7, _ => fun _ => by kernel_rfl
  | 8, _ => fun _ => by kernel_rfl
  | 9, _ => fun _ => by kernel_rfl
  | 10, _ => fun _ => by kernel_rfl
  | 11, _ => fun _ => by kernel_rfl
  | 12, _ => fun _ => by kernel_rfl
  | 13, _ => fun _ => by kernel_rfl
  | 14, _ => fun _ => by kernel_rfl
  | 15, _ => fun _ => by kernel_rfl
  | 16, _ => fun _ => by kernel_rfl
  | 17, _ => fun _ => by kernel_rfl
  | 18, _ => fun _ => by kernel_rfl
  | 19, _ => fun _ => by kernel_rfl
  | 20, _ => fun _ => by kernel_rfl
  | 21, _ => fun _ => by kernel_rfl
  | 22, _ => fun _ => by kernel_rfl
  | 23, _ => fun _ => by kernel_rfl
  | 24, _ => fun _ => by kernel_rfl
  | 25, _ => fun _ => by kernel_rfl
  | 26, _ => fun _ => by kernel_rfl
  | 27, _ => fun _ => by kernel_rfl
  | 28, _ => fun _ => by kernel_rfl
  | 29, _ => fun _ => by kernel_rfl
  | 30, _ => fun _ => by kernel_rfl
  | 31, _ => fun _ => by kernel_rfl
  | k + 32, h => absurd h (by omega)
theorem cat_str (a b : Str) : ((⟨a.toArray⟩ : ByteArray) ++ (⟨b.toArray⟩ : ByteArray)) = ⟨(a ++ b).toArray⟩ := by
  apply ByteArray.ext
  simp
theorem dec_small (k : Nat) (h : k < 100) : (Lib.decDigits k).length ≤ 2 := by
  rw [Lib.decDigits]
  split
  · simp
  · rw [Lib.decDigits, dif_pos (by omega)]
    simp
/-- A text is the k-th register's name. -/
def regHit (s : Str) (k : Nat) : Prop := s = regN k ∨ s = regX k
def RegIs (s : Str) (r : Int × Bool) : Prop := (∃ k : Nat, k < 32 ∧ (∀ j, j < k → ¬ regHit s j) ∧ regHit s k ∧ r = ((k : Int), true)) ∨ ((∀ j, j < 32 → ¬ regHit s j) ∧ r = (0, false))
theorem RegIs.unique {s : Str} {r r' : Int × Bool} (h : RegIs s r) (h' : RegIs s r') : r = r' := by
  rcases h with ⟨k, hk, hn, hh, rfl⟩ | ⟨hn, rfl⟩
  · rcases h' with ⟨k', hk', hn', hh', rfl⟩ | ⟨hn', rfl⟩
    · have : k = k' := by
        rcases Nat.lt_trichotomy k k' with h | h | h
        · exact absurd hh (hn' k h)
        · exact h
        · exact absurd hh' (hn k' h)
      rw [this]
    · exact absurd hh (hn' k hk)
  · rcases h' with ⟨k', hk', hn', hh', rfl⟩ | ⟨hn', rfl⟩
    · exact absurd hh' (hn k' hk')
    · rfl
def RegTold (s : Str) (w : World) (e : Ending) (w' : World) : Prop := ∃ r : Int × Bool, RegIs s r ∧ e = .returned (.tuple #[.int .i64 r.1, .bool r.2]) ∧ Below w.heap.size w w'
theorem itoa_any (k : Nat) (h : k < 32) (w : World) : Calls Tryd.prog 45 #[.int .i64 (k : Int)] w fun e w' => e = .returned (.string ⟨(Lib.decDigits k).toArray⟩) ∧ w' = w := Tryd.strconv_Itoa_small k (by omega) w
section
attribute [local go_sem] cat_str
set_option maxRecDepth 100000 in
set_option maxHeartbeats 2000000 in
theorem register_any (s : Str) (hs : s.length ≤ 1000000) (w : World) : Calls Tryd.prog 22 #[.string ⟨s.toArray⟩] w (RegTold s w) := by
  go_enter Tryd.func22, Tryd.ntmps22
  go_wp2_with (go_at_call 44; refine (registers_any _).mono ?_; rintro e w1 ⟨rfl, hb1⟩)
  go_loop [7] (fun i => ∃ k : Nat, k ≤ 32 ∧ i = .int .i64 k ∧ ∀ j, j < k → ¬ regHit s j) (fun i => 32 - (intOf i).toNat)
  case atStart => exact ⟨0, by omega, rfl, fun j h => absurd h (Nat.not_lt_zero _)⟩
  case round =>
    obtain ⟨k, hk, rfl, hn⟩ := hrel
    have HN := Lib.hid hn
    clear hn
    by_cases hlt : k < 32
    · have hix := reg_index k hlt
      have hdl := dec_small k (by omega)
      go_wp2_with (go_at_call 45; refine (itoa_any k hlt _).mono ?_; rintro e w2 ⟨rfl, hw⟩; rw [hw]; clear hw w2)
      · have hsk : s = regN k := by assumption
        have hn2 := HN.out
        rw [hsk] at hn2
        go_ret2
        exact ⟨(k, true), .inl ⟨k, hlt, hn2, .inl rfl, rfl⟩, rfl, hb1⟩
      · rename_i hh
        go_ret2
        refine ⟨(k, true), .inl ⟨k, hlt, HN.out, ?_, rfl⟩, rfl, hb1⟩
        rcases hh with h | h
        · exact .inl (by simpa using h)
        · exact .inr (by simpa [regX] using h)
      · rename_i hh
        go_round
        case rel =>
          refine ⟨k + 1, by omega, by go_num, fun j hj => ?_⟩
          by_cases e : j = k
          · subst e
            rintro (h | h)
            · exact absurd h (by simpa using hh.1)
            · exact absurd h (by have := hh.2; simpa [regX] using this)
          · exact HN.out j (by omega)
        case measure => simp [intOf]; omega
    · have hkk : k = 32 := by omega
      subst hkk
      go_wp2
      go_ret2
      exact ⟨(0, false), .inr ⟨HN.out, rfl⟩, rfl, hb1⟩
/-! ### The document's answer -/
def xArr : Array Value := ((List.range 32).map fun k => Value.string ⟨(regX k).toArray⟩).toArray
theorem wpList_slice {P : Program} {w w' : World} {ops : Array Oper} {rest : List Oper} {o : Oper} {a : Act} {Q : Exit → Act → World → Prop} (d : Tmp) (hd : o.dst = some d) (hgd : o.guard = none) (v : Value) (hrun : (execOp a.eval o).run P w = .ok (.value v) w') (h : wpList P ops Q rest (a.put o.dst v) w') : wpList P ops Q (o :: rest) a w :=
  wpList_plain hgd fun K hK => by
    unfold Oper.wp
    rw [hrun]
    exact hK _ _ h
def xNames : List Str := [[120, 48], [120, 49], [120, 50], [120, 51], [120, 52], [120, 53], [120, 54], [120, 55], [120, 56], [120, 57], [120, 49, 48], [120, 49, 49], [120, 49, 50], [120, 49, 51], [120, 49, 52], [120, 49, 53], [120, 49, 54], [120, 49, 55], [120, 49, 56], [120, 49, 57], [120, 50, 48], [120, 50, 49], [120, 50, 50], [120, 50, 51], [120, 50, 52], [120, 50, 53], [120, 50, 54], [120, 50, 55], [120, 50, 56], [120, 50, 57], [120, 51, 48], [120, 51, 49]]
def xlArr : Array Value := (xNames.map fun s => Value.string ⟨s.toArray⟩).toArray
theorem xNames_at : ∀ k, k < 32 → xNames[k]? = some (regX k) := by
  have h : ∀ k, k < 32 → Lib.decDigits k = if k < 10 then [UInt8.ofNat (48 + k)] else [UInt8.ofNat (48 + k / 10), UInt8.ofNat (48 + k % 10)] := fun k hk => by
    rw [Lib.decDigits]
    by_cases h10 : k < 10
    · rw [dif_pos h10, if_pos h10]
    · rw [dif_neg h10, if_neg h10, Lib.decDigits, dif_pos (by omega)]
      rfl
  intro k hk
  unfold regX
  rw [h k hk]
  have : ∀ k : Fin 32, xNames[k.val]? = some (120 :: if k.val < 10 then [UInt8.ofNat (48 + k.val)] else [UInt8.ofNat (48 + k.val / 10), UInt8.ofNat (48 + k.val % 10)]) := by decide +kernel
  exact this ⟨k, hk⟩
theorem regNames_at (k : Nat) (h : k < 32) : regNames[k]? = some (regN k) := by
  unfold regN
  have hl : k < regNames.length := h
  rw [List.getElem?_eq_getElem hl]
  rfl
set_option maxRecDepth 100000 in
set_option maxHeartbeats 2000000 in
theorem refreg_any (s : Str) (hs : s.length ≤ 1000000) (w : World) : Calls Tryd.prog 23 #[.string ⟨s.toArray⟩] w (RegTold s w) := by
  go_enter Tryd.func23, Tryd.ntmps23
  go_upto_region 3 with (first
    | (refine wpList_slice (w' := w.alloc (.cells regArr 9)) 7 rfl rfl (.slice (some ⟨w.heap.size, 0, none⟩) 32 32) (by kernel_rfl) ?_)
    | (refine wpList_slice (w' := (w.alloc (.cells regArr 9)).alloc (.cells xlArr 9)) 8 rfl rfl (.slice (some ⟨(w.alloc (.cells regArr 9)).heap.size, 0, none⟩) 32 32) (by kernel_rfl) ?_))
  have hb : Below w.heap.size w ((w.alloc (.cells regArr 9)).alloc (.cells xlArr 9)) := ((Below.refl _ w).alloc (Nat.le_refl _) _).alloc (by simp) _
  have hc1 : ∀ k, k < 32 → ((w.alloc (.cells regArr 9)).alloc (.cells xlArr 9)).cell? ⟨w.heap.size, k, none⟩ = some (.string ⟨(regN k).toArray⟩) := fun k hk => by
    rw [cell_of_row _ _ _ regArr 9 (0, 0) (heap_alloc2_old w _ _)]
    simp [regArr, regNames_at k hk]
  have hc2 : ∀ k, k < 32 → ((w.alloc (.cells regArr 9)).alloc (.cells xlArr 9)).cell? ⟨w.heap.size + 1, k, none⟩ = some (.string ⟨(regX k).toArray⟩) := fun k hk => by
    rw [cell_of_row _ _ _ xlArr 9 (0, 0) (heap_alloc2_new w _ _)]
    simp [xlArr, xNames_at k hk]
  obtain ⟨w2, hw2⟩ : ∃ w2, (w.alloc (.cells regArr 9)).alloc (.cells xlArr 9) = w2 := ⟨_, rfl⟩
  rw [hw2] at hb hc1 hc2
  rw [hw2]
  have HC1 := Lib.hid hc1
  have HC2 := Lib.hid hc2
  clear hw2 hc1 hc2
  go_wp2
  go_loop [6] (fun i => ∃ k : Nat, k ≤ 32 ∧ i = .int .i64 k ∧ ∀ j, j < k → ¬ regHit s j) (fun i => 32 - (intOf i).toNat)
  case atStart => exact ⟨0, by omega, rfl, fun j h => absurd h (Nat.not_lt_zero _)⟩
  case round =>
    obtain ⟨k, hk, rfl, hn⟩ := hrel
    have HN := Lib.hid hn
    clear hn
    by_cases hlt : k < 32
    · have q1 := HC1.out k hlt
      have q2 := HC2.out k hlt
      go_wp2
      · have hsk : s = regN k := by assumption
        have hn2 := HN.out
        rw [hsk] at hn2
        go_ret2
        exact ⟨(k, true), .inl ⟨k, hlt, hn2, .inl rfl, rfl⟩, rfl, hb⟩
      · rename_i hh _
        go_ret2
        refine ⟨(k, true), .inl ⟨k, hlt, HN.out, ?_, rfl⟩, rfl, hb⟩
        rcases hh with h | h
        · exact .inl (by simpa using h)
        · exact .inr (by simpa using h)
      · rename_i hh
        go_round
        case rel =>
          refine ⟨k + 1, by omega, by go_num, fun j hj => ?_⟩
          by_cases e : j = k
          · subst e
            rintro (h | h)
            · exact absurd h (by simpa using hh.1)
            · exact absurd h (by simpa using hh.2)
          · exact HN.out j (by omega)
        case measure => simp [intOf]; omega
    · have hkk : k = 32 := by omega
      subst hkk
      go_wp2
      go_ret2
      exact ⟨(0, false), .inr ⟨HN.out, rfl⟩, rfl, hb⟩
end
end Go.Proofs.YtdcpkeagkfchoaaDoor
