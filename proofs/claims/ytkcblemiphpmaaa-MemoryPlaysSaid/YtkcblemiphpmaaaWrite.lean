/- What Write, Put, Bytes, Size and Clone answer. -/
import Derived.Test.YtkcblemiphpmaaaRead
namespace Go.Proofs.Ytkcblemiphpmaaa
open Go.RowKit
set_option linter.unusedVariables false

/-- copy onto a block that is known whole, as one step: the block behind it, and that no other block has turned. -/
theorem wp_copy_blk {P : Program} {o : Oper} {a : Act} {w : World} {K : Act → World → Prop} {Q : Exit → Act → World → Prop} (d s : Operand) (dT sT : TypeId)
    (ho : o.op = .call { callee := .builtin .copy, args := #[d, s], argTypes := #[dT, sT] }) (elem : TypeId) (hu : P.underlying dT = some (.slice elem)) (hsz : (P.info? elem).map (·.size) = some 1)
    (dp sp : Option Addr) (dLen dCap sLen sCap : Nat) (hd : a.eval d = .slice dp dLen dCap) (hs : a.eval s = .slice sp sLen sCap)
    (g off : Nat) (cur : List Value) (t : TypeId) (hg : Blok w g t cur) (cs : List Value) (hn : cs.length = Nat.min sLen dLen)
    (hpos : 0 < cs.length → dp = some ⟨g, off, none⟩ ∧ ∃ ad, sp = some ad ∧ ∀ j v, cs[j]? = some v → w.cell? (ad.add j) = some v)
    (hfit : off + cs.length ≤ cur.length) (h1 : ∀ v ∈ cs, v.oneCell' = true)
    (h : ∀ w', Blok w' g t (splice cur off cs) → w.grownBy w' (some g) → K (a.put o.dst (goInt cs.length)) w') : o.wp P a w K Q := by
  by_cases h0 : cs.length = 0
  · obtain rfl : cs = [] := List.eq_nil_of_length_eq_zero h0
    have hrun := run_copy_none (P := P) w dT sT o.type elem dp sp dLen dCap sLen sCap hu hsz (by simpa using hn.symm)
    unfold Oper.wp
    simp [execOp, ho, resolve, invoke, builtin, hd, hs, hrun, Result.andThen]
    exact h w (by simpa [splice] using hg) (World.grownBy.refl w _)
  · obtain ⟨rfl, ad, rfl, hsrc⟩ := hpos (by omega)
    have hrun := run_copy_row (P := P) w dT sT o.type elem g off dLen dCap ad sLen sCap cur.toArray t cs hu hsz hg hn hsrc (by simpa using hfit) h1
    unfold Oper.wp
    simp [execOp, ho, resolve, invoke, builtin, hd, hs, hrun, Result.andThen]
    refine h _ (show _ = _ by simpa [splice] using setRow_heap w g _ _ t _ hg) ⟨rfl, rfl, rfl, by simp [World.setRow], fun i hi hne => setRow_other w g i _ (fun e => hne (by rw [e]))⟩
theorem step_copy_blk {P : Program} {ops : Array Oper} {o : Oper} {a : Act} {w : World} {K : Act → World → Prop} {Q : Exit → Act → World → Prop} {E : Prop} (hgd : o.guard = none) (d s : Operand) (dT sT : TypeId)
    (ho : o.op = .call { callee := .builtin .copy, args := #[d, s], argTypes := #[dT, sT] }) (elem : TypeId) (hu : P.underlying dT = some (.slice elem)) (hsz : (P.info? elem).map (·.size) = some 1)
    (dp sp : Option Addr) (dLen dCap sLen sCap : Nat) (hd : a.eval d = .slice dp dLen dCap) (hs : a.eval s = .slice sp sLen sCap)
    (g off : Nat) (cur : List Value) (t : TypeId) (hg : Blok w g t cur) (cs : List Value) (hn : cs.length = Nat.min sLen dLen)
    (hpos : 0 < cs.length → dp = some ⟨g, off, none⟩ ∧ ∃ ad, sp = some ad ∧ ∀ j v, cs[j]? = some v → w.cell? (ad.add j) = some v)
    (hfit : off + cs.length ≤ cur.length) (h1 : ∀ v ∈ cs, v.oneCell' = true)
    (h : ∀ w', Blok w' g t (splice cur off cs) → w.grownBy w' (some g) → K (a.put o.dst (goInt cs.length)) w') :
    if Region.wanted o (yielded ops a.tmps) = true then Oper.wp P o a w K Q else E := by
  have hw : Region.wanted o (yielded ops a.tmps) = true := by simp [Region.wanted, hgd]
  rw [if_pos hw]
  exact wp_copy_blk d s dT sT ho elem hu hsz dp sp dLen dCap sLen sCap hd hs g off cur t hg cs hn hpos hfit h1 h
theorem wpList_copy_blk {P : Program} {w : World} {ops : Array Oper} {rest : List Oper} {o : Oper} {a : Act} {Q : Exit → Act → World → Prop} (hgd : o.guard = none) (d s : Operand) (dT sT : TypeId)
    (ho : o.op = .call { callee := .builtin .copy, args := #[d, s], argTypes := #[dT, sT] }) (elem : TypeId) (hu : P.underlying dT = some (.slice elem)) (hsz : (P.info? elem).map (·.size) = some 1)
    (dp sp : Option Addr) (dLen dCap sLen sCap : Nat) (hd : a.eval d = .slice dp dLen dCap) (hs : a.eval s = .slice sp sLen sCap)
    (g off : Nat) (cur : List Value) (t : TypeId) (hg : Blok w g t cur) (cs : List Value) (hn : cs.length = Nat.min sLen dLen)
    (hpos : 0 < cs.length → dp = some ⟨g, off, none⟩ ∧ ∃ ad, sp = some ad ∧ ∀ j v, cs[j]? = some v → w.cell? (ad.add j) = some v)
    (hfit : off + cs.length ≤ cur.length) (h1 : ∀ v ∈ cs, v.oneCell' = true)
    (h : ∀ w', Blok w' g t (splice cur off cs) → w.grownBy w' (some g) → wpList P ops Q rest (a.put o.dst (goInt cs.length)) w') : wpList P ops Q (o :: rest) a w :=
  wpList_plain hgd fun _ hK => wp_copy_blk d s dT sT ho elem hu hsz dp sp dLen dCap sLen sCap hd hs g off cur t hg cs hn hpos hfit h1 fun w' h2 h3 => hK _ _ (h w' h2 h3)

theorem bv_splice (bs xs : List UInt8) (k : Nat) : splice (bv bs) k (bv xs) = bv (splice bs k xs) := by simp [splice, bv]
theorem only_trans {a b c : World} {row : Option Nat} (h : Below a.heap.size a b) (k : b.grownBy c row) : a.grownBy c row :=
  ⟨k.os.trans h.os, k.tape.trans h.tape, k.output.trans h.output, Nat.le_trans h.size k.size, fun i hi hne => (k.block i (Nat.lt_of_lt_of_le hi h.size) hne).trans (h.block i hi)⟩
theorem IsMem.wrote {w w' : World} {g bb hb : Nat} {bs : List UInt8} {hs : List (Int × Int)} (h : IsMem w g bb hb bs hs) (hg : w.grownBy w' (some bb)) {k : Nat} {xs : List UInt8}
    (hb2 : Blok w' bb 5 (splice (bv bs) k (bv xs))) (hl : k + xs.length ≤ bs.length) : IsMem w' g bb hb (splice bs k xs) hs := by
  have e := length_splice bs k xs hl
  have n1 : g ≠ bb := h.self.apart h.bytes (by decide)
  have n2 : hb ≠ bb := h.holes.apart h.bytes (by decide)
  rw [bv_splice] at hb2
  exact ⟨by rw [e]; exact h.self.keep (hg.block g h.self.lt (fun q => n1 (by injection q))), hb2, h.holes.keep (hg.block hb h.holes.lt (fun q => n2 (by injection q))), by rw [e]; exact h.small, h.few, h.ok, by rw [e]; exact h.fit, h.up⟩
theorem IsMem.drew {w : World} {g bb hb : Nat} {bs : List UInt8} {hs : List (Int × Int)} (h : IsMem w g bb hb bs hs) : IsMem w.drew g bb hb bs hs := h.keep rfl rfl rfl
def byteOf (x : Int) : UInt8 := UInt8.ofNat x.toNat
theorem byteOf_toNat (x : Int) (h0 : 0 ≤ x) (h1 : x < 256) : ((byteOf x).toNat : Int) = x := by
  unfold byteOf
  rw [UInt8.toNat_ofNat']
  omega
/-- The four bytes of a word, the lowest first. -/
def word4 (v : Int) : List UInt8 := [byteOf (v % 256), byteOf (v / 256 % 256), byteOf (v / 65536 % 256), byteOf (v / 16777216)]
def cell4 (v : Int) : Nat → List Value
  | 0 => [.int .u8 0, .int .u8 0, .int .u8 0, .int .u8 0]
  | 1 => [.int .u8 (v % 256), .int .u8 0, .int .u8 0, .int .u8 0]
  | 2 => [.int .u8 (v % 256), .int .u8 (v / 256 % 256), .int .u8 0, .int .u8 0]
  | 3 => [.int .u8 (v % 256), .int .u8 (v / 256 % 256), .int .u8 (v / 65536 % 256), .int .u8 0]
  | _ => [.int .u8 (v % 256), .int .u8 (v / 256 % 256), .int .u8 (v / 65536 % 256), .int .u8 (v / 16777216)]
theorem word4_cells (v : Int) (v0 : 0 ≤ v) (v1 : v < 4294967296) : bv (word4 v) = cell4 v 4 := by
  simp only [bv, word4, cell4, List.map_cons, List.map_nil]
  rw [byteOf_toNat _ (by omega) (by omega), byteOf_toNat _ (by omega) (by omega), byteOf_toNat _ (by omega) (by omega), byteOf_toNat _ (by omega) (by omega)]

set_option maxHeartbeats 400000 in
theorem write_yes (g bb hb : Nat) (bs : List UInt8) (hs : List (Int × Int)) (k m : Nat) (v : Int) (hk : k < 4294967296) (v0 : 0 ≤ v) (v1 : v < 4294967296) (w : World) (h : IsMem w g bb hb bs hs)
    (he : errV bs.length hs k m = 0) :
    Calls Try.prog 18 #[.pointer (some ⟨g, 0, none⟩), .int .u32 k, .int .i64 m, .int .u32 v] w fun e w' => e = .returned (.int .i64 0) ∧ IsMem w' g bb hb (splice bs k ((word4 v).take m)) hs ∧ w.grownBy w' (some bb) := by
  obtain ⟨hm, ha, hroom⟩ := errV_ok he
  have hm1 : 1 ≤ m := by omega
  have hm4 : m ≤ 4 := by omega
  have hmi : (m : Int) ≤ 4 := by omega
  clear hm ha
  have hs1 := h.small
  have HE := Lib.hid he
  clear he
  go_enter Try.func18, Try.ntmps18
  go_wp2_with (first | (go_at_call 26; refine (refusal_any g bb hb bs hs k m (by omega) (by omega) _ h).mono ?_; rw [HE.out]; rintro e w1 ⟨rfl, hb1⟩))
  have h1 := h.below hb1
  go_loopw [19] (fun i wr => ∃ j : Nat, j ≤ 4 ∧ i = .int .i64 j ∧ Blok wr w1.heap.size 67 (cell4 v j) ∧ Below w1.heap.size w1 wr) (fun i _ => 4 - (intOf i).toNat)
  case atStart => exact ⟨0, by omega, rfl, Blok.made _ _ _, (Below.refl _ _).alloc (Nat.le_refl _) _⟩
  case round =>
    obtain ⟨j, hj, rfl, hblk, hbl⟩ := hrel
    have hj5 : j = 0 ∨ j = 1 ∨ j = 2 ∨ j = 3 ∨ j = 4 := by omega
    rcases hj5 with rfl | rfl | rfl | rfl | rfl
    · have q0 := hblk.at_ 0
      have f0 := hblk.free 0
      simp only [cell4, List.getElem?_cons_zero] at q0
      go_wp2
      go_roundw
      case rel => exact ⟨1, by omega, rfl, hblk.set_ 0 _, hbl.setCell (Nat.le_refl _) _⟩
      case measure => simp [intOf]
    · have q0 := hblk.at_ 1
      have f0 := hblk.free 1
      simp only [cell4, List.getElem?_cons_zero, List.getElem?_cons_succ] at q0
      go_wp2
      go_roundw
      case rel => exact ⟨2, by omega, rfl, hblk.set_ 1 _, hbl.setCell (Nat.le_refl _) _⟩
      case measure => simp [intOf]
    · have q0 := hblk.at_ 2
      have f0 := hblk.free 2
      simp only [cell4, List.getElem?_cons_zero, List.getElem?_cons_succ] at q0
      go_wp2
      go_roundw
      case rel => exact ⟨3, by omega, rfl, hblk.set_ 2 _, hbl.setCell (Nat.le_refl _) _⟩
      case measure => simp [intOf]
    · have q0 := hblk.at_ 3
      have f0 := hblk.free 3
      simp only [cell4, List.getElem?_cons_zero, List.getElem?_cons_succ] at q0
      go_wp2
      go_roundw
      case rel => exact ⟨4, by omega, rfl, hblk.set_ 3 _, hbl.setCell (Nat.le_refl _) _⟩
      case measure => simp [intOf]
    · have h2 := h1.below hbl
      have c0 : wr.cell? ⟨g, 0, none⟩ = some (.slice (some ⟨bb, 0, none⟩) bs.length bs.length) := h2.self.at_ 0
      have hkn : k + m ≤ bs.length := by omega
      have hk1 : k ≤ bs.length := by omega
      have hk2 : ¬ bs.length = k := by omega
      obtain ⟨ys, hys⟩ : ∃ ys, bv ((word4 v).take m) = ys := ⟨_, rfl⟩
      have hyl : ys.length = m := by rw [← hys, length_bv]; simp [word4]; omega
      have hy1 : ∀ v ∈ ys, v.oneCell' = true := by rw [← hys]; exact one_bv _
      have CS : Hid (∀ j u, ys[j]? = some u → wr.drew.cell? ((⟨w1.heap.size, 0, none⟩ : Addr).add j) = some u) := by
        have e := hblk.drew.part 0 m
        rw [← word4_cells v v0 v1, bv_part, List.drop_zero, hys] at e
        exact e
      have HY := Lib.hid hys
      have HYL := Lib.hid hyl
      clear hys hyl
      have hbb : bb ≠ w1.heap.size := Nat.ne_of_lt h1.bytes.lt
      go_wp2
      go_region_law (refine step_copy_blk rfl (.tmp 35) (.tmp 37) _ _ rfl 5 Try.underlying37 (by kernel_rfl) (some ⟨bb, k, none⟩) (some ⟨w1.heap.size, 0, none⟩) (bs.length - k) (bs.length - k) m 4 (by simp [Act.eval, Act.put]) (by simp [Act.eval, Act.put]) bb k (bv bs) 5 h2.bytes.drew ys (HYL.out.trans (Nat.min_eq_left (by omega)).symm) (fun _ => ⟨rfl, _, rfl, CS.out⟩) (by rw [HYL.out, length_bv]; omega) hy1 ?_; intro w2 hb2 hg2)
      go_wp2
      go_ret
      rw [← HY.out] at hb2
      exact ⟨rfl, h2.drew.wrote hg2 hb2 (by rw [List.length_take]; simp [word4]; omega), only_trans ((hb1.trans (hbl.mono hb1.size)).drew) hg2⟩

set_option maxHeartbeats 400000 in
theorem write_no (g bb hb : Nat) (bs : List UInt8) (hs : List (Int × Int)) (at_ n v r : Int) (a0 : 0 ≤ at_) (a1 : at_ < 4294967296) (w : World) (h : IsMem w g bb hb bs hs)
    (he : errV bs.length hs at_ n = r) (hr : (r != 0) = true) :
    Calls Try.prog 18 #[.pointer (some ⟨g, 0, none⟩), .int .u32 at_, .int .i64 n, .int .u32 v] w (Gives (.int .i64 r) w) := by
  have HE := Lib.hid he
  clear he
  go_enter Try.func18, Try.ntmps18
  go_wp2_with (first | (go_at_call 26; refine (refusal_any g bb hb bs hs at_ n a0 a1 _ h).mono ?_; rw [HE.out]; rintro e w' ⟨rfl, hb1⟩))
  go_ret
  exact ⟨rfl, hb1⟩

theorem size_any (g bb hb : Nat) (bs : List UInt8) (hs : List (Int × Int)) (w : World) (h : IsMem w g bb hb bs hs) :
    Calls Try.prog 15 #[.pointer (some ⟨g, 0, none⟩)] w fun e w' => e = .returned (.int .i64 bs.length) ∧ w = w' := by
  have c0 : w.cell? ⟨g, 0, none⟩ = some (.slice (some ⟨bb, 0, none⟩) bs.length bs.length) := h.self.at_ 0
  go_enter Try.func15, Try.ntmps15
  go_wp2_with (first | (go_at_call 20; refine (made_any g bb hb bs hs _ h).mono ?_; rintro e w' ⟨rfl, rfl⟩))
  go_ret
  exact ⟨rfl, rfl⟩

set_option maxHeartbeats 400000 in
theorem put_no (g bb hb : Nat) (bs : List UInt8) (hs : List (Int × Int)) (at_ : Int) (a0 : 0 ≤ at_) (a1 : at_ < 4294967296) (A : Option Addr) (n c : Nat) (w : World) (h : IsMem w g bb hb bs hs)
    (hr : (bs.length : Int) - at_ < n) :
    Calls Try.prog 19 #[.pointer (some ⟨g, 0, none⟩), .int .u32 at_, .slice A n c] w (Gives (.int .i64 30) w) := by
  go_enter Try.func19, Try.ntmps19
  go_wp2_with (first | (go_at_call 20; refine (made_any g bb hb bs hs _ h).mono ?_; rintro e w' ⟨rfl, rfl⟩) | (go_at_call 25; refine (room_any g bb hb bs hs at_ a0 a1 _ h).mono ?_; rintro e w' ⟨rfl, rfl⟩))
  go_ret
  exact ⟨rfl, Below.refl _ _⟩
/-- The bytes that a slice holds, read in a world; nothing is asked of the address of none. -/
def Holds (w : World) (A : Option Addr) (xs : List UInt8) : Prop := 0 < xs.length → ∃ ad, A = some ad ∧ ∀ j u, (bv xs)[j]? = some u → w.cell? (ad.add j) = some u

set_option maxHeartbeats 400000 in
theorem put_in (g bb hb : Nat) (bs : List UInt8) (hs : List (Int × Int)) (k : Nat) (hk : k < 4294967296) (A : Option Addr) (xs : List UInt8) (c : Nat) (w : World) (h : IsMem w g bb hb bs hs)
    (hx : Holds w A xs) (hr : k + xs.length ≤ bs.length) (hk2 : ¬ bs.length = k) :
    Calls Try.prog 19 #[.pointer (some ⟨g, 0, none⟩), .int .u32 k, .slice A xs.length c] w fun e w' => e = .returned (.int .i64 0) ∧ IsMem w' g bb hb (splice bs k xs) hs ∧ w.grownBy w' (some bb) := by
  have c0 : w.cell? ⟨g, 0, none⟩ = some (.slice (some ⟨bb, 0, none⟩) bs.length bs.length) := h.self.at_ 0
  have hs1 := h.small
  have hk1 : k ≤ bs.length := by omega
  obtain ⟨ys, hys⟩ : ∃ ys, bv xs = ys := ⟨_, rfl⟩
  have hyl : ys.length = xs.length := by rw [← hys, length_bv]
  have hy1 : ∀ v ∈ ys, v.oneCell' = true := by rw [← hys]; exact one_bv _
  unfold Holds at hx
  rw [hys] at hx
  have HX := Lib.hid hx
  have HY := Lib.hid hys
  have HYL := Lib.hid hyl
  clear hys hyl hx
  have hmin : Hid (ys.length = Nat.min xs.length (bs.length - k)) := HYL.out.trans (Nat.min_eq_left (by omega)).symm
  go_enter Try.func19, Try.ntmps19
  go_wp2_with (first | (go_at_call 20; refine (made_any g bb hb bs hs _ h).mono ?_; rintro e w' ⟨rfl, rfl⟩) | (go_at_call 25; refine (room_any g bb hb bs hs k (by omega) (by omega) _ h).mono ?_; rintro e w' ⟨rfl, rfl⟩) | (refine wpList_copy_blk rfl (.tmp 21) (.tmp 22) _ _ rfl 5 Try.underlying37 (by kernel_rfl) (some ⟨bb, k, none⟩) A (bs.length - k) (bs.length - k) xs.length c rfl rfl bb k (bv bs) 5 h.bytes ys hmin.out (fun hp => ⟨rfl, HX.out (by have := HYL.out; omega)⟩) (by rw [HYL.out, length_bv]; exact hr) hy1 ?_; intro w2 hb2 hg2))
  go_ret
  rw [← HY.out] at hb2
  exact ⟨rfl, h.wrote hg2 hb2 hr, hg2⟩
set_option maxHeartbeats 400000 in
theorem put_end (g bb hb : Nat) (bs : List UInt8) (hs : List (Int × Int)) (hk : bs.length < 4294967296) (A : Option Addr) (c : Nat) (w : World) (h : IsMem w g bb hb bs hs) :
    Calls Try.prog 19 #[.pointer (some ⟨g, 0, none⟩), .int .u32 bs.length, .slice A 0 c] w fun e w' => e = .returned (.int .i64 0) ∧ IsMem w' g bb hb bs hs ∧ w.grownBy w' (some bb) := by
  have c0 : w.cell? ⟨g, 0, none⟩ = some (.slice (some ⟨bb, 0, none⟩) bs.length bs.length) := h.self.at_ 0
  have hs1 := h.small
  have hsp := length_splice bs bs.length ([] : List UInt8) (by simp)
  go_enter Try.func19, Try.ntmps19
  go_wp2_with (first | (go_at_call 20; refine (made_any g bb hb bs hs _ h).mono ?_; rintro e w' ⟨rfl, rfl⟩) | (go_at_call 25; refine (room_any g bb hb bs hs bs.length (by omega) (by omega) _ h).mono ?_; rintro e w' ⟨rfl, rfl⟩) | (refine wpList_copy_blk rfl (.tmp 21) (.tmp 22) _ _ rfl 5 Try.underlying37 (by kernel_rfl) _ A _ _ 0 c rfl rfl bb 0 (bv bs) 5 h.bytes [] (by simp) (fun hp => absurd hp (by simp)) (by simp) (by simp) ?_; intro w2 hb2 hg2))
  go_ret
  exact ⟨rfl, by simpa [splice] using h.wrote (k := 0) (xs := []) hg2 hb2 (by simp), hg2⟩
theorem put_yes (g bb hb : Nat) (bs : List UInt8) (hs : List (Int × Int)) (k : Nat) (hk : k < 4294967296) (A : Option Addr) (xs : List UInt8) (c : Nat) (w : World) (h : IsMem w g bb hb bs hs)
    (hx : Holds w A xs) (hr : k + xs.length ≤ bs.length) :
    Calls Try.prog 19 #[.pointer (some ⟨g, 0, none⟩), .int .u32 k, .slice A xs.length c] w fun e w' => e = .returned (.int .i64 0) ∧ IsMem w' g bb hb (splice bs k xs) hs ∧ w.grownBy w' (some bb) := by
  by_cases hk2 : bs.length = k
  · subst hk2
    obtain rfl : xs = [] := List.eq_nil_of_length_eq_zero (by omega)
    have e : splice bs bs.length [] = bs := by simp [splice]
    rw [e]
    exact put_end g bb hb bs hs hk A c w h
  · exact put_in g bb hb bs hs k hk A xs c w h hx hr hk2
end Go.Proofs.Ytkcblemiphpmaaa
