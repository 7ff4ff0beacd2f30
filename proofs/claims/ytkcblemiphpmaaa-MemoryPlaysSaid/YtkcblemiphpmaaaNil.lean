/- The walk of the law on no memory, and on one that nobody made. -/
import Derived.Test.YtkcblemiphpmaaaCalls
import Derived.Outline
namespace Go.Proofs.Ytkcblemiphpmaaa
open Go.RowKit
set_option linter.unusedVariables false

/-- No memory, or one whose fields are all zero. -/
def Unmade (w : World) (p : Option Addr) : Prop := p = none ∨ ∃ g, p = some ⟨g, 0, none⟩ ∧ Blok w g 52 [.slice none 0 0, .slice none 0 0, .pointer none]
theorem Unmade.below {w w' : World} {p : Option Addr} (h : Unmade w p) (hb : Below w.heap.size w w') : Unmade w' p := by
  rcases h with h | ⟨g, h, hg⟩
  · exact .inl h
  · exact .inr ⟨g, h, hg.below hb hg.lt⟩
theorem eql_none_some {P : Program} (w : World) {tp te : TypeId} (a : Addr) (hp : P.underlying tp = some (.pointer te)) :
    (binOp .eql tp (.pointer none) (.pointer (some a))).run P w = .ok (.bool false) w := by
  have h : ∀ d : Nat, (Op.equalIn (d + 1) tp (.pointer none) (.pointer (some a))).run P w = .ok false w := fun d => by
    simp [Op.equalIn, run_underlying hp, sizeOf, typeInfo]
  simp only [binOp]
  simp [Op.equal, Op.maxDepth, h 9999]
theorem made_zero (g : Nat) (w : World) (h : Blok w g 52 [.slice none 0 0, .slice none 0 0, .pointer none]) :
    Calls Try.prog 20 #[.pointer (some ⟨g, 0, none⟩)] w fun e w' => e = .returned (.bool false) ∧ w = w' := by
  have c2 : w.cell? ⟨g, 2, none⟩ = some (.pointer none) := h.at_ 2
  have he : ∀ W, _ := fun W : World => eql_none_some (P := Try.prog) W ⟨g, 0, none⟩ Try.underlying26
  go_enter Try.func20, Try.ntmps20
  go_wp2
  go_ret
  exact ⟨rfl, rfl⟩
theorem made_not (p : Option Addr) (w : World) (h : Unmade w p) :
    Calls Try.prog 20 #[.pointer p] w fun e w' => e = .returned (.bool false) ∧ w = w' := by
  rcases h with rfl | ⟨g, rfl, hg⟩
  · exact made_nil w
  · exact made_zero g w hg
theorem refusal_not (p : Option Addr) (at_ n : Int) (w : World) (h : Unmade w p) :
    Calls Try.prog 26 #[.pointer p, .int .u32 at_, .int .i64 n] w fun e w' => e = .returned (.int .i64 1) ∧ w = w' := by
  go_enter Try.func26, Try.ntmps26
  go_wp2_with (first | (go_at_call 20; refine (made_not p _ h).mono ?_; rintro e w' ⟨rfl, rfl⟩))
  go_ret
  exact ⟨rfl, rfl⟩
theorem read_not (p : Option Addr) (at_ n : Int) (w : World) (h : Unmade w p) :
    Calls Try.prog 17 #[.pointer p, .int .u32 at_, .int .i64 n] w fun e w' => e = .returned (.tuple #[.int .u32 0, .int .i64 1]) ∧ w = w' := by
  go_enter Try.func17, Try.ntmps17
  go_wp2_with (first | (go_at_call 26; refine (refusal_not p at_ n _ h).mono ?_; rintro e w' ⟨rfl, rfl⟩))
  go_ret2
  exact ⟨rfl, rfl⟩
theorem write_not (p : Option Addr) (at_ n v : Int) (w : World) (h : Unmade w p) :
    Calls Try.prog 18 #[.pointer p, .int .u32 at_, .int .i64 n, .int .u32 v] w fun e w' => e = .returned (.int .i64 1) ∧ w = w' := by
  go_enter Try.func18, Try.ntmps18
  go_wp2_with (first | (go_at_call 26; refine (refusal_not p at_ n _ h).mono ?_; rintro e w' ⟨rfl, rfl⟩))
  go_ret
  exact ⟨rfl, rfl⟩
theorem bytes_not (p : Option Addr) (at_ n : Int) (w : World) (h : Unmade w p) :
    Calls Try.prog 16 #[.pointer p, .int .u32 at_, .int .i64 n] w fun e w' => e = .returned (.slice none 0 0) ∧ w = w' := by
  go_enter Try.func16, Try.ntmps16
  go_wp2_with (first | (go_at_call 20; refine (made_not p _ h).mono ?_; rintro e w' ⟨rfl, rfl⟩))
  go_ret
  exact ⟨rfl, rfl⟩
theorem put_not (p : Option Addr) (at_ : Int) (A : Option Addr) (l c : Nat) (w : World) (h : Unmade w p) :
    Calls Try.prog 19 #[.pointer p, .int .u32 at_, .slice A l c] w fun e w' => e = .returned (.int .i64 1) ∧ w = w' := by
  go_enter Try.func19, Try.ntmps19
  go_wp2_with (first | (go_at_call 20; refine (made_not p _ h).mono ?_; rintro e w' ⟨rfl, rfl⟩))
  go_ret
  exact ⟨rfl, rfl⟩
theorem size_not (p : Option Addr) (w : World) (h : Unmade w p) :
    Calls Try.prog 15 #[.pointer p] w fun e w' => e = .returned (.int .i64 0) ∧ w = w' := by
  go_enter Try.func15, Try.ntmps15
  go_wp2_with (first | (go_at_call 20; refine (made_not p _ h).mono ?_; rintro e w' ⟨rfl, rfl⟩))
  go_ret
  exact ⟨rfl, rfl⟩
theorem clone_not (p : Option Addr) (w : World) (h : Unmade w p) :
    Calls Try.prog 13 #[.pointer p] w fun e w' => e = .returned (.pointer none) ∧ w = w' := by
  go_enter Try.func13, Try.ntmps13
  go_wp2_with (first | (go_at_call 20; refine (made_not p _ h).mono ?_; rintro e w' ⟨rfl, rfl⟩))
  go_ret
  exact ⟨rfl, rfl⟩

/-! Acts. -/
structure ActD where
  kind : Int
  n : Int
  at_ : Int
  v : Int
  A : Option Addr
  xs : List UInt8
  c : Nat
def av : List ActD → List Value
  | [] => []
  | a :: r => .int .i64 a.kind :: .int .i64 a.n :: .int .u32 a.at_ :: .int .u32 a.v :: .slice a.A a.xs.length a.c :: av r
/-- The cells of one act. -/
def ActAt (w : World) (b p : Nat) (a : ActD) : Prop := w.cell? ⟨b, p, none⟩ = some (.int .i64 a.kind) ∧ w.cell? ⟨b, p + 1, none⟩ = some (.int .i64 a.n) ∧ w.cell? ⟨b, p + 2, none⟩ = some (.int .u32 a.at_) ∧ w.cell? ⟨b, p + 3, none⟩ = some (.int .u32 a.v) ∧ w.cell? ⟨b, p + 4, none⟩ = some (.slice a.A a.xs.length a.c)
def okAct (w : World) (a : ActD) : Prop := (-9223372036854775808 ≤ a.kind ∧ a.kind ≤ 9223372036854775807) ∧ (-9223372036854775808 ≤ a.n ∧ a.n ≤ 9223372036854775807) ∧ (0 ≤ a.at_ ∧ a.at_ < 4294967296) ∧ (0 ≤ a.v ∧ a.v < 4294967296) ∧ Holds w a.A a.xs ∧ a.xs.length ≤ 9223372036854775807
def HoldsActs (w : World) (A : Option Addr) (l : List ActD) : Prop := (0 < l.length → ∃ b o, A = some ⟨b, o, none⟩ ∧ ∀ k a, l[k]? = some a → ActAt w b (o + k * 5) a) ∧ ∀ a ∈ l, okAct w a
def lightB (l : List ActD) : Bool := l.all (fun a => decide (a.xs.length ≤ 400)) && decide (l.length ≤ 50)
theorem all_next {α : Type} {f : α → Bool} {hs : List α} {k : Nat} {p : α} (hk : hs[k]? = some p) (ht : (hs.take k).all f = true) (hp : f p = true) : (hs.take (k + 1)).all f = true := by
  rw [List.take_add_one, hk]
  simp only [List.all_append, ht, Option.toList_some, List.all_cons, hp, List.all_nil, Bool.and_self]
set_option maxHeartbeats 400000 in
theorem light_any (A : Option Addr) (l : List ActD) (c : Nat) (w : World) (hl : l.length ≤ 9223372036854775807) (h : HoldsActs w A l) :
    Calls Try.prog 7 #[.slice A l.length c] w fun e w' => e = .returned (.bool (lightB l)) ∧ w = w' := by
  have cs0 : Try.prog.cellsOf 39 = 5 := by kernel_rfl
  go_enter Try.func7, Try.ntmps7
  go_wp2
  go_loop [3] (fun i => ∃ k : Nat, k ≤ l.length ∧ k ≤ 60 ∧ i = .int .i64 k ∧ (l.take k).all (fun a => decide (a.xs.length ≤ 400)) = true) (fun i => 60 - (intOf i).toNat)
  case atStart => exact ⟨0, Nat.zero_le _, by omega, rfl, by simp⟩
  case round =>
    obtain ⟨k, hk, hk60, rfl, hno⟩ := hrel
    have HNO := Lib.hid hno
    clear hno
    by_cases hlt : k < l.length ∧ k < 60
    · obtain ⟨h1, h2⟩ := hlt
      have hp := List.getElem?_eq_getElem h1
      generalize l[k] = a at hp
      obtain ⟨b, o, rfl, hc⟩ := h.1 (by omega)
      have q4 := (hc k a hp).2.2.2.2
      have hok := (h.2 a (List.mem_of_getElem? hp)).2.2.2.2.2
      have HP := Lib.hid hp
      clear hp hc
      by_cases hb : 400 < a.xs.length
      · have hbi : (400 : Int) < a.xs.length := by omega
        have e : lightB l = false := by
          have hm := List.mem_of_getElem? HP.out
          unfold lightB
          rw [Bool.and_eq_false_iff]
          left
          rw [List.all_eq_false]
          exact ⟨a, hm, by simp; omega⟩
        have E := Lib.hid e
        clear e
        go_wp2
        go_ret
        exact ⟨ret_bool E.out.symm, rfl⟩
      · have hbi : (a.xs.length : Int) ≤ 400 := by omega
        clear hb
        go_wp2
        go_round
        case rel => exact ⟨k + 1, by omega, by omega, by go_num, all_next HP.out HNO.out (by simp; omega)⟩
        case measure => simp [intOf]; omega
    · by_cases h1 : k < l.length
      · have h2 : 60 ≤ k := by omega
        have e : lightB l = decide ((l.length : Int) ≤ 50) := by
          unfold lightB
          have : ¬ l.length ≤ 50 := by omega
          have h3 : ¬ (l.length : Int) ≤ 50 := by omega
          simp [this, h3]
        have E := Lib.hid e
        clear e hlt
        go_wp2
        go_ret
        exact ⟨ret_bool E.out.symm, rfl⟩
      · have e : lightB l = decide ((l.length : Int) ≤ 50) := by
          unfold lightB
          have h2 := HNO.out
          rw [List.take_of_length_le (by omega)] at h2
          rw [h2, Bool.true_and, decide_eq_decide]
          omega
        have E := Lib.hid e
        clear e hlt
        go_wp2
        go_ret
        exact ⟨ret_bool E.out.symm, rfl⟩

theorem okAct.below {w w' : World} {a : ActD} (h : okAct w a) (hb : Below w.heap.size w w') : okAct w' a := ⟨h.1, h.2.1, h.2.2.1, h.2.2.2.1, h.2.2.2.2.1.below hb, h.2.2.2.2.2⟩
theorem nil_any (a : ActD) (w : World) (h : okAct w a) :
    Calls Try.prog 4 #[.agg #[.int .i64 a.kind, .int .i64 a.n, .int .u32 a.at_, .int .u32 a.v, .slice a.A a.xs.length a.c]] w (Yes w) := by
  have hl1 : HoldsActs ((w.alloc (.cells #[.int .i64 a.kind, .int .i64 a.n, .int .u32 a.at_, .int .u32 a.v, .slice a.A a.xs.length a.c] 39)).alloc (.cells #[.int .i64 a.kind, .int .i64 a.n, .int .u32 a.at_, .int .u32 a.v, .slice a.A a.xs.length a.c] 39)) (some ⟨w.heap.size + 1, 0, none⟩) [a] := by
    refine ⟨fun _ => ⟨_, 0, rfl, fun k u hk => ?_⟩, fun x hx => ?_⟩
    · have hk0 : k = 0 := by
        have := (List.getElem?_eq_some_iff.1 hk).1
        simpa using this
      subst hk0
      obtain rfl : a = u := by simpa using hk
      have e := Blok.made (w.alloc (.cells #[.int .i64 a.kind, .int .i64 a.n, .int .u32 a.at_, .int .u32 a.v, .slice a.A a.xs.length a.c] 39)) 39 (av [a])
      rw [World.size_alloc] at e
      exact ⟨e.at_ 0, e.at_ 1, e.at_ 2, e.at_ 3, e.at_ 4⟩
    · obtain rfl : x = a := by simpa using hx
      exact h.below (((Below.refl w.heap.size w).alloc (Nat.le_refl _) _).alloc (by simp) _)
  have hl : Calls Try.prog 7 #[.slice (some ⟨w.heap.size + 1, 0, none⟩) 1 1] _ _ := light_any (some ⟨w.heap.size + 1, 0, none⟩) [a] 1 _ (by simp) hl1
  have hb0 : Below w.heap.size w ((w.alloc (.cells #[.int .i64 a.kind, .int .i64 a.n, .int .u32 a.at_, .int .u32 a.v, .slice a.A a.xs.length a.c] 39)).alloc (.cells #[.int .i64 a.kind, .int .i64 a.n, .int .u32 a.at_, .int .u32 a.v, .slice a.A a.xs.length a.c] 39)) := ((Below.refl w.heap.size w).alloc (Nat.le_refl _) _).alloc (by simp) _
  have HL := Lib.hid hl
  clear hl hl1
  by_cases hlt : lightB [a] = true
  · rw [hlt] at HL
    clear hlt
    go_enter Try.func4, Try.ntmps4
    go_wp2_with fail
    refine HL.out.mono ?_
    rintro e w1 ⟨rfl, rfl⟩
    go_wp2_with fail
    go_loopw [3, 4] (fun m i wr => ∃ (j : Nat) (p : Option Addr), j ≤ 2 ∧ i = .int .i64 j ∧ m = .pointer p ∧ Unmade wr p ∧ Blok wr w.heap.size 39 (av [a]) ∧ Below w.heap.size w wr) (fun _ i _ => 2 - (intOf i).toNat)
    case atStart => exact ⟨0, none, by omega, rfl, rfl, .inl rfl, (Blok.made w 39 (av [a])).alloc _, hb0⟩
    case round =>
      obtain ⟨j, p, hj, rfl, rfl, hun, hblk, hbl⟩ := hrel
      have k1 : wr.cell? ⟨w.heap.size, 1, none⟩ = some (.int .i64 a.n) := hblk.at_ 1
      have k2 : wr.cell? ⟨w.heap.size, 2, none⟩ = some (.int .u32 a.at_) := hblk.at_ 2
      have k3 : wr.cell? ⟨w.heap.size, 3, none⟩ = some (.int .u32 a.v) := hblk.at_ 3
      have k4 : wr.cell? ⟨w.heap.size, 4, none⟩ = some (.slice a.A a.xs.length a.c) := hblk.at_ 4
      by_cases hlt : j < 2
      · go_wp2_with (first | (go_at_call 17; refine (read_not p _ _ _ hun).mono ?_; rintro e w' ⟨rfl, rfl⟩) | (go_at_call 18; refine (write_not p _ _ _ _ hun).mono ?_; rintro e w' ⟨rfl, rfl⟩) | (go_at_call 16; refine (bytes_not p _ _ _ hun).mono ?_; rintro e w' ⟨rfl, rfl⟩) | (go_at_call 19; refine (put_not p _ _ _ _ _ hun).mono ?_; rintro e w' ⟨rfl, rfl⟩) | (go_at_call 15; refine (size_not p _ hun).mono ?_; rintro e w' ⟨rfl, rfl⟩) | (go_at_call 13; refine (clone_not p _ hun).mono ?_; rintro e w' ⟨rfl, rfl⟩) | (go_at_call 12; refine (num_any _ (by decide) (by decide) _).mono ?_; rintro e w' ⟨rfl, rfl⟩))
        go_roundw
        case rel => exact ⟨j + 1, some ⟨wr.heap.size, 0, none⟩, by omega, by go_num, rfl, .inr ⟨_, rfl, Blok.made wr 52 [.slice none 0 0, .slice none 0 0, .pointer none]⟩, hblk.alloc _, hbl.alloc hbl.size _⟩
        case measure => simp [intOf]; omega
      · go_wp2_with fail
        refine (knows_any _).mono ?_
        rintro e w1 ⟨rfl, hb1⟩
        go_wp2_with fail
        go_ret
        exact ⟨rfl, hbl.trans (hb1.mono hbl.size)⟩
  · have hlf : lightB [a] = false := by simpa using hlt
    rw [hlf] at HL
    clear hlt hlf
    go_enter Try.func4, Try.ntmps4
    go_wp2_with fail
    refine HL.out.mono ?_
    rintro e w1 ⟨rfl, rfl⟩
    go_wp2_with fail
    refine (knows_any _).mono ?_
    rintro e w1 ⟨rfl, hb1⟩
    go_wp2_with fail
    go_ret
    exact ⟨rfl, hb0.trans (hb1.mono hb0.size)⟩
end Go.Proofs.Ytkcblemiphpmaaa
