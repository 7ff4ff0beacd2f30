/- What a port is in the program's heap; calls that communicate over a channel of the goroutine's own, walked piece by piece. -/
import Derived.Test.YtadaiomlildhjaaCell
import Derived.Conc.LoneCalls
import Derived.Conc.LoneSelect
import Derived.Conc.LoneSelectN
namespace Go.Proofs.Ytadaiomlildhjaa
open Go.RowKit Go.Conc
set_option linter.unusedVariables false

/-! ### a walk of the machine of one, with pieces by the walk of codes -/
section
variable {P : Program} {Q : Goroutine → World → Prop} {b : Frame} {a : Act} {k : List Item} {cs : List Frame} {w : World} {c x y : Code}
/-- What stands behind a piece. -/
def Behind (P : Program) (Q : Goroutine → World → Prop) (b : Frame) (k : List Item) (cs : List Frame) (e : Exit) (a : Act) (w : World) : Prop := e = .normal ∧ LoneTo P Q (G (b.at a k) cs) w
theorem lone_wp (h : c.wp P (Behind P Q b k cs) a w) : LoneTo P Q (G (b.at a (.code c :: k)) cs) w := by
  obtain ⟨e, a', w', hq, harr⟩ := h b k cs
  obtain ⟨rfl, g', w2, hs, hq2⟩ := hq
  exact ⟨g', w2, Steps.trans harr hs, hq2⟩
theorem lone_seq (h : LoneTo P Q (G (b.at a (.code x :: .code y :: k)) cs) w) : LoneTo P Q (G (b.at a (.code (x.seq y) :: k)) cs) w := LoneTo.step step_seq h
theorem lone_block {id : Nat} (h : LoneTo P Q (G (b.at a (.code c :: .inBlock id :: k)) cs) w) : LoneTo P Q (G (b.at a (.code (.block id c) :: k)) cs) w := LoneTo.step step_block h
theorem lone_loop (h : LoneTo P Q (G (b.at a (.code c :: .inLoop c :: k)) cs) w) : LoneTo P Q (G (b.at a (.code (.loop c) :: k)) cs) w := LoneTo.step step_loop h
theorem lone_again (h : LoneTo P Q (G (b.at a (.code c :: .inLoop c :: k)) cs) w) : LoneTo P Q (G (b.at a (.inLoop c :: k)) cs) w := LoneTo.step step_inLoop h
theorem lone_out {id : Nat} (h : LoneTo P Q (G (b.at a k) cs) w) : LoneTo P Q (G (b.at a (.inBlock id :: k)) cs) w := LoneTo.step step_inBlock h
/-- What a call's walk comes to. -/
def Leaving (P : Program) (f : FuncId) (cs : List Frame) (R : Ending → World → Prop) (g' : Goroutine) (w' : World) : Prop := ∃ e fr, g' = G fr cs ∧ R e w' ∧ fr.fn = f ∧ fr.leaving P w' e
theorem lone_tail {f : FuncId} {fn : Func} {R : Ending → World → Prop} (hf : P.funcs[b.fn]? = some fn) (hfn : b.fn = f) (hk : b.kind = .normal) (hno : ∀ w', ¬ R .outgrown w') (h : c.wp P (bodyPost P fn R) a w) :
    LoneTo P (Leaving P f cs R) (G (b.at a [.code c]) cs) w := by
  obtain ⟨e, a', w', hq, harr⟩ := h b [] cs
  cases e with
  | normal =>
    obtain ⟨hd, v, hr, hR⟩ := hq
    exact ⟨_, w', Steps.trans harr (.one step_end), .returned v, _, rfl, hR, hfn, rfl, hd, hk, fn, hf, hr⟩
  | ret =>
    obtain ⟨hd, v, hr, hR⟩ := hq
    obtain ⟨todo, hs⟩ := harr
    exact ⟨_, w', hs, .returned v, _, rfl, hR, hfn, rfl, hd, hk, fn, hf, hr⟩
  | panic chain =>
    obtain ⟨hd, hR⟩ := hq
    obtain ⟨todo, hs⟩ := harr
    exact ⟨_, w', hs, .panicked chain, _, rfl, hR, hfn, rfl, hd, fn, hf⟩
  | exit id => exact hq.elim
  | goto l => exact hq.elim
  | outgrown => exact absurd hq (hno _)
end

/-! ### worlds that part in few blocks -/
/-- No block that was there has turned but those of S. -/
structure Only (S : Nat → Prop) (w w' : World) : Prop where
  os : w'.os = w.os
  tape : w'.tape = w.tape
  output : w'.output = w.output
  size : w.heap.size ≤ w'.heap.size
  block : ∀ k, k < w.heap.size → ¬ S k → w'.heap[k]? = w.heap[k]?
section
variable {S S' : Nat → Prop} {w w1 w2 : World} {B : Nat}
theorem Only.refl (S : Nat → Prop) (w : World) : Only S w w := ⟨rfl, rfl, rfl, Nat.le_refl _, fun _ _ _ => rfl⟩
theorem Only.trans (h : Only S w w1) (k : Only S' w1 w2) : Only (fun i => S i ∨ S' i) w w2 :=
  ⟨k.os.trans h.os, k.tape.trans h.tape, k.output.trans h.output, Nat.le_trans h.size k.size, fun i hi hn => (k.block i (Nat.lt_of_lt_of_le hi h.size) (fun q => hn (.inr q))).trans (h.block i hi (fun q => hn (.inl q)))⟩
theorem Only.mono (h : Only S w w1) (hs : ∀ i, i < w.heap.size → S i → S' i) : Only S' w w1 := ⟨h.os, h.tape, h.output, h.size, fun i hi hn => h.block i hi (fun q => hn (hs i hi q))⟩
theorem Only.of_below (h : Below w.heap.size w w1) : Only S w w1 := ⟨h.os, h.tape, h.output, h.size, fun i hi _ => h.block i hi⟩
theorem Only.of_grown {row : Option Nat} (h : w.grownBy w1 row) : Only (fun i => row = some i) w w1 := ⟨h.os, h.tape, h.output, h.size, fun i hi hn => h.block i hi (fun q => hn q.symm)⟩
theorem Only.below {a : World} (h : Below B a w) (k : Only S w w1) (hB : B ≤ w.heap.size) (hS : ∀ i, S i → B ≤ i) : Below B a w1 :=
  ⟨k.os.trans h.os, k.tape.trans h.tape, k.output.trans h.output, Nat.le_trans h.size k.size, fun i hi => (k.block i (by omega) (fun q => by have := hS i q; omega)).trans (h.block i hi)⟩
theorem only_set (w : World) (g i : Nat) (u : Value) : Only (· = g) w (w.setCell ⟨g, i, none⟩ u) := (Only.of_grown (grown_set w g i u)).mono fun _ _ e => by injection e with e; exact e.symm
theorem only_chan (w : World) (c cap : Nat) (buf : Array Value) (cl : Bool) (s r : Nat) (tm : Bool) : Only (· = c) w (w.setChan c cap buf cl s r tm) :=
  ⟨rfl, rfl, rfl, by simp [World.setChan], fun i hi hn => by simp only [World.setChan]; rw [Array.getElem?_setIfInBounds_ne (fun e => hn e.symm)]⟩
theorem Blok.keeps {g : Nat} {t : TypeId} {cs : List Value} (h : Blok w g t cs) (k : Only S w w1) (hg : ¬ S g) : Blok w1 g t cs := h.keep (k.block g h.lt hg)
theorem row_keeps {n size : Nat} {e : TypeId} {v : Value} {xs : List Value} (h : w.ownsRow B e size v n xs) (k : Only S w w1) (hv : ∀ i, v.ownBlock = some i → ¬ S i) : w1.ownsRow B e size v n xs := by
  refine ⟨h.1, ?_⟩
  rcases h.2 with hn | ⟨g, cap, cur, rfl, hb, hgg, rest⟩
  · exact .inl hn
  · refine .inr ⟨g, cap, cur, rfl, hb, ?_, rest⟩
    rw [k.block g (Array.getElem?_eq_some_iff.1 hgg).1 (hv g rfl)]
    exact hgg
end

/-- A channel of the call's own, open, with these bytes in its buffer. -/
def Chan (w : World) (c : Nat) (xs : List UInt8) : Prop := ∃ cap s r, w.heap[c]? = some (.chan cap (bv xs).toArray false s r false)
section
variable {w w1 : World} {c : Nat} {xs : List UInt8}
theorem Chan.lt (h : Chan w c xs) : c < w.heap.size := by
  obtain ⟨cap, s, r, h⟩ := h
  exact (Array.getElem?_eq_some_iff.1 h).1
theorem Chan.keep (h : Chan w c xs) (e : w1.heap[c]? = w.heap[c]?) : Chan w1 c xs := by
  obtain ⟨cap, s, r, h⟩ := h
  exact ⟨cap, s, r, e.trans h⟩
theorem Chan.ne_blok {g : Nat} {t : TypeId} {cs : List Value} (h : Chan w c xs) (hb : Blok w g t cs) : c ≠ g := by
  rintro rfl
  obtain ⟨cap, s, r, h⟩ := h
  unfold Blok at hb
  rw [h] at hb
  cases hb
theorem Chan.ne_row {B n size : Nat} {e : TypeId} {v : Value} {ys : List Value} (h : Chan w c xs) (hr : w.ownsRow B e size v n ys) : v.ownBlock ≠ some c := by
  intro hv
  rcases hr.2 with ⟨rfl, _⟩ | ⟨g, cap, cur, rfl, hb, hgg, rest⟩
  · cases hv
  · obtain rfl : g = c := by injection hv
    obtain ⟨cap, s, r, h⟩ := h
    rw [h] at hgg
    cases hgg
end
theorem blok_ne_row {w : World} {g B n size : Nat} {t e : TypeId} {cs ys : List Value} {v : Value} (h : Blok w g t cs) (hr : w.ownsRow B e size v n ys) (hne : t ≠ e) : v.ownBlock ≠ some g := by
  intro hv
  rcases hr.2 with ⟨rfl, _⟩ | ⟨g', cap, cur, rfl, hb, hgg, rest⟩
  · cases hv
  · obtain rfl : g' = g := by injection hv
    unfold Blok at h
    rw [h] at hgg
    injection hgg with hgg
    injection hgg with _ ht
    exact hne ht

/-- What New's port is: its own block, its channel, the bytes that were put out. -/
structure IsPort (w : World) (B g c : Nat) (ins outs : List UInt8) (ov : Value) (code : Int) (ht : Bool) : Prop where
  self : Blok w g 46 [.chan (some c), ov, .int .u32 code, .bool ht, .pointer (some ⟨g, 0, none⟩)]
  chan : Chan w c ins
  out : w.ownsRow B 5 1 ov outs.length (bv outs)
  lim : outs.length ≤ 65536
  many : ins.length ≤ 65536
  b1 : B ≤ g
  b2 : B ≤ c
section
variable {w w1 : World} {B g c : Nat} {ins outs : List UInt8} {ov : Value} {code : Int} {ht : Bool}
theorem IsPort.keeps {S : Nat → Prop} (h : IsPort w B g c ins outs ov code ht) (k : Only S w w1) (hg : ¬ S g) (hc : ¬ S c) (hv : ∀ i, ov.ownBlock = some i → ¬ S i) : IsPort w1 B g c ins outs ov code ht :=
  ⟨h.self.keeps k hg, h.chan.keep (k.block c h.chan.lt hc), row_keeps h.out k hv, h.lim, h.many, h.b1, h.b2⟩
theorem IsPort.below (h : IsPort w B g c ins outs ov code ht) (hb : Below w.heap.size w w1) : IsPort w1 B g c ins outs ov code ht :=
  h.keeps (Only.of_below (S := fun _ => False) hb) (fun q => q) (fun q => q) (fun _ _ q => q)
theorem IsPort.drew (h : IsPort w B g c ins outs ov code ht) : IsPort w.drew B g c ins outs ov code ht := h.below (Below.refl _ _).drew
end

theorem made_any {w : World} {g : Nat} {v0 v1 v2 v3 : Value} (h : Blok w g 46 [v0, v1, v2, v3, .pointer (some ⟨g, 0, none⟩)]) :
    Calls Try.prog 20 #[.pointer (some ⟨g, 0, none⟩)] w fun e w' => e = .returned (.bool true) ∧ w = w' := by
  have c4 : w.cell? ⟨g, 4, none⟩ = some (.pointer (some ⟨g, 0, none⟩)) := h.at_ 4
  have hs : ∀ W, _ := fun W : World => run_eql_ptr_same (P := Try.prog) W (j := _) ⟨g, 0, none⟩ Try.underlying25 rfl
  go_enter Try.func20, Try.ntmps20
  go_wp2
  go_ret
  exact ⟨rfl, rfl⟩
theorem made_nil (w : World) :
    Calls Try.prog 20 #[.pointer none] w fun e w' => e = .returned (.bool false) ∧ w = w' := by
  go_enter Try.func20, Try.ntmps20
  go_wp2
  go_ret
  exact ⟨rfl, rfl⟩

theorem calls_of_lone {P : Program} {f : FuncId} {args : Array Value} {w : World} {R : Ending → World → Prop} (h : ∀ cs, LoneTo P (Leaving P f cs R) (G (Frame.enter P f args .normal) cs) w) (hno : ∀ w', ¬ R .outgrown w') : Calls P f args w R := calls_of_loneTo h hno

/-! In: the select -/
/-- What In leaves. -/
def GotIn (B g c : Nat) (ins outs : List UInt8) (ov : Value) (code : Int) (ht : Bool) (x : Int) (w : World) (e : Ending) (w' : World) : Prop := e = .returned (.int .u32 x) ∧ IsPort w' B g c ins outs ov code ht ∧ Only (· = c) w w'
set_option maxRecDepth 100000 in
theorem in_some (B g c : Nat) (x : UInt8) (ins outs : List UInt8) (ov : Value) (code : Int) (ht : Bool) (w : World) (h : IsPort w B g c (x :: ins) outs ov code ht) :
    Calls Try.prog 10 #[.pointer (some ⟨g, 0, none⟩)] w (GotIn B g c ins outs ov code ht x.toNat w) := by
  have c0 : w.cell? ⟨g, 0, none⟩ = some (.chan (some c)) := h.self.at_ 0
  have hclt := h.chan.lt
  obtain ⟨cap, s, r, hch⟩ := h.chan
  refine calls_of_lone (fun cs => ?_) (fun w' q => by cases q.1)
  have e : Frame.enter Try.prog 10 #[.pointer (some ⟨g, 0, none⟩)] .normal = (base 10).at ⟨#[.pointer (some ⟨g, 0, none⟩), undef, undef, undef, undef, undef, undef, undef, undef, undef, undef, undef, undef, undef, undef, undef, undef], []⟩ [.code (Try.f10.body.getD .skip)] := by
    simp [Frame.enter, Frame.at, Try.func10, base, Try.f10]
  rw [e]
  clear e
  simp only [Try.f10, Option.getD_some]
  refine lone_seq (lone_wp ?_)
  go_wp2
  refine ⟨rfl, lone_seq (lone_wp ?_)⟩
  go_wp2_with (go_at_call 20; refine (made_any h.self).mono ?_; rintro e w' ⟨rfl, rfl⟩)
  refine ⟨rfl, lone_seq (lone_wp ?_)⟩
  go_wp2
  refine ⟨rfl, lone_seq ?_⟩
  refine LoneTo.goes (n := 1) ?_
  s_reg
  s_stop
  refine LoneTo.step (step_lone_select_recv_buf (c := c) (z := .int .u8 0) (cap := cap) (buf := (bv (x :: ins)).toArray) (closed := false) (s := s) (r := r) (tm := false)
    (stepG_comm (cases := #[rcase c (.int .u8 0)]) (blocking := false) (shape := .select) (w' := w) rfl rfl (by decide) (by simp [go_sem, execOp, rcase, Act.eval])) hch (by simp [bv])) ?_
  rw [Frame.finish_at]
  walk_nrm
  have e1 : (bv (x :: ins))[0]?.getD undef = .int .u8 (x.toNat : Int) := rfl
  have e2 : (bv (x :: ins)).toArray.extract 1 (bv (x :: ins)).length = (bv ins).toArray := by
    simp only [bv, List.map_cons, List.length_cons, List.extract_toArray, List.extract_eq_take_drop, List.drop_one, List.tail_cons, Nat.add_sub_cancel]
    rw [List.take_length]
  rw [e1, e2]
  have hk := only_chan w c cap (bv ins).toArray false s (r + 1) false
  have hc1 : Chan (w.setChan c cap (bv ins).toArray false s (r + 1) false) c ins := ⟨cap, s, r + 1, heap_setChan w c cap (bv ins).toArray false s (r + 1) false hclt⟩
  generalize w.setChan c cap (bv ins).toArray false s (r + 1) false = w1 at hk hc1
  have hx := x.toNat_lt
  have hp1 : IsPort w1 B g c ins outs ov code ht := ⟨h.self.keeps hk (fun q => h.chan.ne_blok h.self q.symm), hc1, row_keeps h.out hk (fun i hi q => h.chan.ne_row h.out (by rw [hi]; exact congrArg some q)), h.lim, by have := h.many; simp at this; omega, h.b1, h.b2⟩
  clear e1 e2 hch hc1
  refine LoneTo.goes (n := 3) ?_
  s_op
  s_op
  s_c stepG_region_end
  s_stop
  refine lone_tail Try.func10 rfl rfl (fun w' q => by cases q.1) ?_
  go_wp2
  go_ret
  exact ⟨rfl, hp1, hk⟩
set_option maxRecDepth 100000 in
theorem in_none (B g c : Nat) (outs : List UInt8) (ov : Value) (code : Int) (ht : Bool) (w : World) (h : IsPort w B g c [] outs ov code ht) :
    Calls Try.prog 10 #[.pointer (some ⟨g, 0, none⟩)] w (GotIn B g c [] outs ov code ht 4294967295 w) := by
  have c0 : w.cell? ⟨g, 0, none⟩ = some (.chan (some c)) := h.self.at_ 0
  obtain ⟨cap, s, r, hch⟩ := h.chan
  refine calls_of_lone (fun cs => ?_) (fun w' q => by cases q.1)
  have e : Frame.enter Try.prog 10 #[.pointer (some ⟨g, 0, none⟩)] .normal = (base 10).at ⟨#[.pointer (some ⟨g, 0, none⟩), undef, undef, undef, undef, undef, undef, undef, undef, undef, undef, undef, undef, undef, undef, undef, undef], []⟩ [.code (Try.f10.body.getD .skip)] := by
    simp [Frame.enter, Frame.at, Try.func10, base, Try.f10]
  rw [e]
  clear e
  simp only [Try.f10, Option.getD_some]
  refine lone_seq (lone_wp ?_)
  go_wp2
  refine ⟨rfl, lone_seq (lone_wp ?_)⟩
  go_wp2_with (go_at_call 20; refine (made_any h.self).mono ?_; rintro e w' ⟨rfl, rfl⟩)
  refine ⟨rfl, lone_seq (lone_wp ?_)⟩
  go_wp2
  refine ⟨rfl, lone_seq ?_⟩
  refine LoneTo.goes (n := 1) ?_
  s_reg
  s_stop
  refine LoneTo.step (step_lone_select_default (c := c) (z := .int .u8 0) (cap := cap) (s := s) (r := r) (tm := false)
    (stepG_comm (cases := #[rcase c (.int .u8 0)]) (blocking := false) (shape := .select) (w' := w) rfl rfl (by decide) (by simp [go_sem, execOp, rcase, Act.eval])) hch) ?_
  rw [Frame.finish_at]
  walk_nrm
  refine LoneTo.goes (n := 3) ?_
  s_op
  s_op
  s_c stepG_region_end
  s_stop
  refine lone_tail Try.func10 rfl rfl (fun w' q => by cases q.1) ?_
  go_wp2
  go_ret
  exact ⟨rfl, h, Only.refl _ _⟩
/-- What In answers. -/
def inV : List UInt8 → Int
  | [] => 4294967295
  | x :: _ => x.toNat
theorem inV_bd (l : List UInt8) : 0 ≤ inV l ∧ inV l < 4294967296 := by
  cases l with
  | nil => exact ⟨by decide, by decide⟩
  | cons x r =>
    have := x.toNat_lt
    show 0 ≤ (x.toNat : Int) ∧ (x.toNat : Int) < 4294967296
    omega
theorem in_any (B g c : Nat) (ins outs : List UInt8) (ov : Value) (code : Int) (ht : Bool) (w : World) (h : IsPort w B g c ins outs ov code ht) :
    Calls Try.prog 10 #[.pointer (some ⟨g, 0, none⟩)] w (GotIn B g c ins.tail outs ov code ht (inV ins) w) := by
  cases ins with
  | nil => exact in_none B g c outs ov code ht w h
  | cons x r => exact in_some B g c x r outs ov code ht w h
end Go.Proofs.Ytadaiomlildhjaa
