/- What Bytes, New and Clone answer. -/
import Derived.Test.YtkcblemiphpmaaaWrite
import Derived.Laws.MakeOwn
namespace Go.Proofs.Ytkcblemiphpmaaa
open Go.RowKit
set_option linter.unusedVariables false

theorem madeCells_one (z : Value) (n : Nat) : madeCells #[z] n = (List.replicate n z).toArray := by
  apply Array.ext
  · simp [madeCells]
  · intro i h1 h2
    simp [madeCells, Nat.mod_one]
theorem info_u8 : (Try.prog.info? 5).map (fun i => (i.zero, i.size, i.bytes)) = some (some (.int .u8 0), 1, 1) := by kernel_rfl
theorem make_bytes (n : Nat) (hn : n ≤ 281474976710656) (w : World) :
    (Instr.makeSlice 37 (.int .i64 (n : Int)) (.int .i64 (n : Int))).run Try.prog w = .ok (.slice (some ⟨w.heap.size, 0, none⟩) n n) (w.alloc (.cells (bv (List.replicate n 0)).toArray 5)) := by
  obtain ⟨i0, hi, hz0, hz1, hz2⟩ := info_parts info_u8
  have h := run_make (P := Try.prog) w 37 5 i0 _ Try.underlying37 hi hz0 .i64 .i64 n n (by omega) (by omega) (by rw [hz2]; omega) (by omega)
  simp only [Int.toNat_natCast, hz1, Nat.mul_one] at h
  rw [h]
  have e : madeCells (Value.int .u8 0).cells n = (bv (List.replicate n 0)).toArray := by
    rw [show (Value.int .u8 0).cells = #[.int .u8 0] from rfl, madeCells_one]
    simp [bv]
  rw [e]

theorem bytes_no (g bb hb : Nat) (bs : List UInt8) (hs : List (Int × Int)) (at_ n : Int) (a0 : 0 ≤ at_) (a1 : at_ < 4294967296) (w : World) (h : IsMem w g bb hb bs hs)
    (hr : n < 0 ∨ bs.length - at_ < n) :
    Calls Try.prog 16 #[.pointer (some ⟨g, 0, none⟩), .int .u32 at_, .int .i64 n] w (Gives (.slice none 0 0) w) := by
  have hs1 := h.small
  by_cases hn : n < 0
  · go_enter Try.func16, Try.ntmps16
    go_wp2_with (first | (go_at_call 20; refine (made_any g bb hb bs hs _ h).mono ?_; rintro e w' ⟨rfl, rfl⟩))
    go_ret
    exact ⟨rfl, Below.refl _ _⟩
  · have hr2 : bs.length - at_ < n := by omega
    have h0 : 0 ≤ n := by omega
    clear hr hn
    go_enter Try.func16, Try.ntmps16
    go_wp2_with (first | (go_at_call 20; refine (made_any g bb hb bs hs _ h).mono ?_; rintro e w' ⟨rfl, rfl⟩) | (go_at_call 25; refine (room_any g bb hb bs hs at_ a0 a1 _ h).mono ?_; rintro e w' ⟨rfl, rfl⟩))
    go_ret
    exact ⟨rfl, Below.refl _ _⟩

/-- A slice of new bytes: the block that is made next. -/
def NewBytes (xs : List UInt8) (w : World) (e : Ending) (w' : World) : Prop := e = .returned (.slice (some ⟨w.heap.size, 0, none⟩) xs.length xs.length) ∧ Blok w' w.heap.size 5 (bv xs) ∧ Below w.heap.size w w'
theorem splice_all (zs cs : List Value) (h : zs.length = cs.length) : splice zs 0 cs = cs := by
  simp [splice, ← h]
set_option maxHeartbeats 400000 in
theorem bytes_in (g bb hb : Nat) (bs : List UInt8) (hs : List (Int × Int)) (k m : Nat) (hk : k < 4294967296) (w : World) (h : IsMem w g bb hb bs hs)
    (hr : k + m ≤ bs.length) (hk2 : ¬ bs.length = k) :
    Calls Try.prog 16 #[.pointer (some ⟨g, 0, none⟩), .int .u32 k, .int .i64 m] w (NewBytes ((bs.drop k).take m) w) := by
  have hs1 := h.small
  have hk1 : k ≤ bs.length := by omega
  obtain ⟨xs, hxs⟩ : ∃ xs, (bs.drop k).take m = xs := ⟨_, rfl⟩
  have hxl : xs.length = m := by rw [← hxs]; simp; omega
  have hmk := fun W : World => make_bytes m (by omega) W
  obtain ⟨zs, hzs⟩ : ∃ zs, bv (List.replicate m 0) = zs := ⟨_, rfl⟩
  rw [hzs] at hmk
  have hzl : zs.length = m := by rw [← hzs, length_bv]; simp
  have hy1 := one_bv xs
  have CS := Lib.hid ((h.bytes.alloc (.cells zs.toArray 5)).part k m)
  rw [bv_part, hxs] at CS
  obtain ⟨ys, hys⟩ : ∃ ys, bv xs = ys := ⟨_, rfl⟩
  have hyl : ys.length = m := by rw [← hys, length_bv, hxl]
  rw [hys] at CS hy1
  have HX := Lib.hid hxs
  have HXL := Lib.hid hxl
  have HZL := Lib.hid hzl
  have HY := Lib.hid hys
  have HYL := Lib.hid hyl
  have c0 : (w.alloc (.cells zs.toArray 5)).cell? ⟨g, 0, none⟩ = some (.slice (some ⟨bb, 0, none⟩) bs.length bs.length) := (h.self.alloc _).at_ 0
  clear hxs hxl hzs hzl hys hyl
  go_enter Try.func16, Try.ntmps16
  go_wp2_with (first | (go_at_call 20; refine (made_any g bb hb bs hs _ h).mono ?_; rintro e w' ⟨rfl, rfl⟩) | (go_at_call 25; refine (room_any g bb hb bs hs k (by omega) (by omega) _ h).mono ?_; rintro e w' ⟨rfl, rfl⟩) | (refine wpList_copy_blk rfl (.tmp 24) (.tmp 30) _ _ rfl 5 Try.underlying37 (by kernel_rfl) (some ⟨w.heap.size, 0, none⟩) (some ⟨bb, k, none⟩) m m (bs.length - k) (bs.length - k) rfl rfl w.heap.size 0 zs 5 (Blok.made _ _ _) ys (HYL.out.trans (Nat.min_eq_right (by omega)).symm) (fun hp => ⟨rfl, _, rfl, CS.out⟩) (by rw [HYL.out, HZL.out]; omega) hy1 ?_; intro w2 hb2 hg2))
  go_ret
  rw [HX.out]
  unfold NewBytes
  rw [HXL.out, HY.out]
  rw [splice_all _ _ (HZL.out.trans HYL.out.symm)] at hb2
  exact ⟨rfl, hb2, ((Below.refl w.heap.size w).alloc (Nat.le_refl _) _).grown hg2 (by simp) (fun q hq => by injection hq with hq; omega)⟩
theorem bytes_end (g bb hb : Nat) (bs : List UInt8) (hs : List (Int × Int)) (hk : bs.length < 4294967296) (w : World) (h : IsMem w g bb hb bs hs) :
    Calls Try.prog 16 #[.pointer (some ⟨g, 0, none⟩), .int .u32 bs.length, .int .i64 0] w (NewBytes [] w) := by
  have hs1 := h.small
  have hmk : ∀ W : World, (Instr.makeSlice 37 (.int .i64 0) (.int .i64 0)).run Try.prog W = .ok (.slice (some ⟨W.heap.size, 0, none⟩) 0 0) (W.alloc (.cells #[] 5)) := fun W => make_bytes 0 (by omega) W
  have c0 : (w.alloc (.cells #[] 5)).cell? ⟨g, 0, none⟩ = some (.slice (some ⟨bb, 0, none⟩) bs.length bs.length) := (h.self.alloc _).at_ 0
  go_enter Try.func16, Try.ntmps16
  go_wp2_with (first | (go_at_call 20; refine (made_any g bb hb bs hs _ h).mono ?_; rintro e w' ⟨rfl, rfl⟩) | (go_at_call 25; refine (room_any g bb hb bs hs bs.length (by omega) (by omega) _ h).mono ?_; rintro e w' ⟨rfl, rfl⟩) | (refine wpList_copy_blk rfl (.tmp 24) (.tmp 30) _ _ rfl 5 Try.underlying37 (by kernel_rfl) (some ⟨w.heap.size, 0, none⟩) _ 0 0 _ _ rfl rfl w.heap.size 0 [] 5 (Blok.made _ _ _) [] (by simp) (fun hp => absurd hp (by simp)) (by simp) (by simp) ?_; intro w2 hb2 hg2))
  go_ret
  exact ⟨rfl, by simpa [splice, bv] using hb2, ((Below.refl w.heap.size w).alloc (Nat.le_refl _) _).grown hg2 (by simp) (fun q hq => by injection hq with hq; omega)⟩
theorem bytes_yes (g bb hb : Nat) (bs : List UInt8) (hs : List (Int × Int)) (k m : Nat) (hk : k < 4294967296) (w : World) (h : IsMem w g bb hb bs hs) (hr : k + m ≤ bs.length) :
    Calls Try.prog 16 #[.pointer (some ⟨g, 0, none⟩), .int .u32 k, .int .i64 m] w (NewBytes ((bs.drop k).take m) w) := by
  by_cases hk2 : bs.length = k
  · subst hk2
    obtain rfl : m = 0 := by omega
    simpa using bytes_end g bb hb bs hs hk w h
  · exact bytes_in g bb hb bs hs k m hk w h hr hk2

/-! New -/
theorem info_hole : (Try.prog.info? 59).map (fun i => (i.zero, i.size, i.bytes)) = some (some (.agg #[.int .u32 0, .int .u32 0]), 2, 8) := by kernel_rfl
theorem hv_zero (n : Nat) : hv (List.replicate n (0, 0)) = List.replicate (n * 2) (.int .u32 0) := by
  induction n with
  | zero => rfl
  | succ n ih => rw [List.replicate_succ, hv, ih, show (n + 1) * 2 = n * 2 + 1 + 1 by omega, List.replicate_succ, List.replicate_succ]
theorem make_holes (n : Nat) (hn : n ≤ 16) (w : World) :
    (Instr.makeSlice 30 (.int .i64 (n : Int)) (.int .i64 (n : Int))).run Try.prog w = .ok (.slice (some ⟨w.heap.size, 0, none⟩) n n) (w.alloc (.cells (hv (List.replicate n (0, 0))).toArray 59)) := by
  obtain ⟨i0, hi, hz0, hz1, hz2⟩ := info_parts info_hole
  have h := run_make (P := Try.prog) w 30 59 i0 _ Try.underlying30 hi hz0 .i64 .i64 n n (by omega) (by omega) (by rw [hz2]; omega) (by omega)
  simp only [Int.toNat_natCast, hz1] at h
  rw [h]
  have e : madeCells (Value.agg #[.int .u32 0, .int .u32 0]).cells (n * 2) = (hv (List.replicate n (0, 0))).toArray := by
    rw [show (Value.agg #[.int .u32 0, .int .u32 0]).cells = #[.int .u32 0, .int .u32 0] from rfl, hv_zero]
    apply Array.ext
    · simp [madeCells]
    · intro i h1 h2
      have : i % 2 = 0 ∨ i % 2 = 1 := by omega
      rcases this with e | e <;> simp [madeCells, e]
  rw [e]

theorem copy_none_wide {P : Program} (w : World) (dT sT ty elem : TypeId) (size : Nat) (d a : Option Addr) (dLen dCap sLen sCap : Nat) (hu : P.underlying dT = some (.slice elem)) (hs : (P.info? elem).map (·.size) = some size) (hn : Nat.min sLen dLen = 0) :
    (Builtin.copy_ #[dT, sT] ty #[.slice d dLen dCap, .slice a sLen sCap]).run P w = .ok (goInt 0) w := by
  cases hq : P.info? elem with
  | none => simp [hq] at hs
  | some i =>
    have hl : ∀ (x : Addr), (loadCells x 0).run P w = .ok #[] w := fun x => by simpa using run_loadCells_list (P := P) w x [] (by simp)
    cases d <;> cases a <;> simp [Builtin.copy_, run_underlying hu, Builtin.lenOf, Builtin.firstCells, sizeOf, typeInfo, hq, hn, storeCells, hl]
theorem copy_row_wide {P : Program} (w : World) (dT sT ty elem : TypeId) (size n : Nat) (g o dLen dCap : Nat) (a : Addr) (sLen sCap : Nat) (cur : Array Value) (t : TypeId) (cs : List Value)
    (hu : P.underlying dT = some (.slice elem)) (hs : (P.info? elem).map (·.size) = some size)
    (hg : w.heap[g]? = some (.cells cur t (0, 0))) (hn : n = Nat.min sLen dLen) (hc : cs.length = n * size)
    (hsrc : ∀ j v, cs[j]? = some v → w.cell? (a.add j) = some v) (hfit : o + cs.length ≤ cur.size) (h1 : ∀ v ∈ cs, v.oneCell' = true) :
    (Builtin.copy_ #[dT, sT] ty #[.slice (some ⟨g, o, none⟩) dLen dCap, .slice (some a) sLen sCap]).run P w =
      .ok (goInt n) (w.setRow g (cur.toList.take o ++ cs ++ cur.toList.drop (o + cs.length)).toArray) := by
  have hl := run_loadCells_list (P := P) w a cs hsrc
  rw [hc] at hl
  have hst := run_storeCells_at P g o t cs 0 cur w hg (by simpa using hfit) h1
  cases hq : P.info? elem with
  | none => simp [hq] at hs
  | some i =>
    have hi : i.size = size := by simpa [hq] using hs
    simp [Builtin.copy_, run_underlying hu, Builtin.lenOf, Builtin.firstCells, sizeOf, typeInfo, hq, hi, ← hn, hl, hst]
theorem wpList_copy_wide {P : Program} {w : World} {ops : Array Oper} {rest : List Oper} {o : Oper} {a : Act} {Q : Exit → Act → World → Prop} (hgd : o.guard = none) (d s : Operand) (dT sT : TypeId)
    (ho : o.op = .call { callee := .builtin .copy, args := #[d, s], argTypes := #[dT, sT] }) (elem : TypeId) (size n : Nat) (hu : P.underlying dT = some (.slice elem)) (hsz : (P.info? elem).map (·.size) = some size)
    (dp sp : Option Addr) (dLen dCap sLen sCap : Nat) (hd : a.eval d = .slice dp dLen dCap) (hs : a.eval s = .slice sp sLen sCap)
    (g off : Nat) (cur : List Value) (t : TypeId) (hg : Blok w g t cur) (cs : List Value) (hn : n = Nat.min sLen dLen) (hc : cs.length = n * size)
    (hpos : 0 < n → dp = some ⟨g, off, none⟩ ∧ ∃ ad, sp = some ad ∧ ∀ j v, cs[j]? = some v → w.cell? (ad.add j) = some v)
    (hfit : off + cs.length ≤ cur.length) (h1 : ∀ v ∈ cs, v.oneCell' = true)
    (h : ∀ w', Blok w' g t (splice cur off cs) → w.grownBy w' (some g) → wpList P ops Q rest (a.put o.dst (goInt n)) w') : wpList P ops Q (o :: rest) a w := by
  refine wpList_plain hgd fun K hK => ?_
  by_cases h0 : n = 0
  · subst h0
    obtain rfl : cs = [] := List.eq_nil_of_length_eq_zero (by omega)
    have hrun := copy_none_wide (P := P) w dT sT o.type elem size dp sp dLen dCap sLen sCap hu hsz hn.symm
    unfold Oper.wp
    simp [execOp, ho, resolve, invoke, builtin, hd, hs, hrun, Result.andThen]
    exact hK _ _ (h w (by simpa [splice] using hg) (World.grownBy.refl w _))
  · obtain ⟨rfl, ad, rfl, hsrc⟩ := hpos (by omega)
    have hrun := copy_row_wide (P := P) w dT sT o.type elem size n g off dLen dCap ad sLen sCap cur.toArray t cs hu hsz hg hn hc hsrc (by simpa using hfit) h1
    unfold Oper.wp
    simp [execOp, ho, resolve, invoke, builtin, hd, hs, hrun, Result.andThen]
    refine hK _ _ (h _ (show _ = _ by simpa [splice] using setRow_heap w g _ _ t _ hg) ⟨rfl, rfl, rfl, by simp [World.setRow], fun i hi hne => setRow_other w g i _ (fun e => hne (by rw [e]))⟩)
end Go.Proofs.Ytkcblemiphpmaaa
