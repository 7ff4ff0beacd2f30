/- How an argument that holds acts or holes is opened: the cells of a struct's fields, one by one. -/
import Derived.Test.YtkcblemiphpmaaaNil
import Derived.Test.YtkcblemiphpmaaaApart
import Derived.Deep.Slices
import Derived.Deep.Fields
import Derived.ChangeSame
import Derived.OpenShut
namespace Go.Proofs.Ytkcblemiphpmaaa
open Go.RowKit Go.ChangeShapes Go.WideShapes Go.Deep
set_option linter.unusedVariables false
section
variable {H : Type} {enc : TypeId × Value → H} {P : Program} {w : World} {base : Nat} {spare : Nat → Bool} {held : Bool}
theorem fields_of {e : TypeId} {fs : Array Field} {fuel : Nat} {cs : List Value} {x : DataW H × List MemPlace} (he : P.underlying e = some (.struct fs)) (hone : oneCellFields P fs = true)
    (h : DataW.trod enc P w base spare held fuel e cs = some x) (hl : fs.size ≤ cs.length) :
    ∃ n : Nat, ∀ (j : Nat) (f : Field), fs[j]? = some f → ∃ (u : Value) (y : DataW H × List MemPlace), cs[j]? = some u ∧ DataW.trod enc P w base spare held n f.type [u] = some y := by
  obtain ⟨ys, n, _, _, _, hyl, hf⟩ := DataW.trod_struct he h
  refine ⟨n, fun j f hj => ?_⟩
  obtain ⟨ho, hk⟩ := hone_of hone j f hj
  have hjl : j < fs.size := (Array.getElem?_eq_some_iff.1 hj).1
  have hjc : j < cs.length := by omega
  have h1 := hf j f hj
  rw [ho, hk] at h1
  have e1 : (cs.drop j).take 1 = [cs[j]] := by
    rw [List.drop_eq_getElem_cons hjc]
    rfl
  rw [e1, List.getElem?_eq_getElem (by omega)] at h1
  exact ⟨_, _, List.getElem?_eq_getElem hjc, h1⟩

theorem act_of {fuel : Nat} {cs : List Value} {x : DataW H × List MemPlace} (h : DataW.trod enc Try.prog w base (fun _ => true) held fuel 39 cs = some x) (hl : cs.length = 5) :
    ∃ a : ActD, cs = av [a] ∧ okAct w a := by
  obtain ⟨n, hf⟩ := fields_of Try.underlying39 (by kernel_rfl) h (by rw [hl]; decide)
  obtain ⟨u0, y0, c0, t0⟩ := hf 0 _ rfl
  obtain ⟨u1, y1, c1, t1⟩ := hf 1 _ rfl
  obtain ⟨u2, y2, c2, t2⟩ := hf 2 _ rfl
  obtain ⟨u3, y3, c3, t3⟩ := hf 3 _ rfl
  obtain ⟨u4, y4, c4, t4⟩ := hf 4 _ rfl
  obtain ⟨z0, e0, _, w0⟩ := DataW.trod_int Try.underlying3 t0
  obtain ⟨z1, e1, _, w1⟩ := DataW.trod_int Try.underlying3 t1
  obtain ⟨z2, e2, _, w2⟩ := DataW.trod_int Try.underlying36 t2
  obtain ⟨z3, e3, _, w3⟩ := DataW.trod_int Try.underlying36 t3
  obtain ⟨A, l, c, xs, e4, hxl, hlm, hh⟩ : ∃ A l c, ∃ xs : List UInt8, u4 = .slice A l c ∧ xs.length = l ∧ l ≤ maxLen ∧ Holds w A xs := by
    rcases open_ints Try.underlying37 Try.underlying5 (by kernel_rfl) t4 with ⟨hcs, _⟩ | ⟨ad, l, c, zs, hcs, _, hl, hm, hz, _, hcell, hwz⟩
    · obtain rfl : u4 = .slice none 0 0 := by simpa using hcs
      exact ⟨none, 0, 0, [], rfl, rfl, by unfold maxLen; omega, fun h => by simp at h⟩
    · obtain rfl : u4 = .slice (some ad) l c := by simpa using hcs
      obtain ⟨xs, h1, h2, h3⟩ := holds_row w (some ad) l c zs (.inr ⟨ad, rfl, hl, hm, by simpa using hz, hcell, hwz⟩)
      exact ⟨_, _, _, xs, rfl, h1, h2, h3⟩
  have b0 := bounds_i64 w0
  have b1 := bounds_i64 w1
  have b2 := bounds_u32 w2
  have b3 := bounds_u32 w3
  subst hxl
  refine ⟨⟨z0, z1, z2, z3, A, xs, c⟩, ?_, ⟨b0.1, b0.2⟩, ⟨b1.1, b1.2⟩, ⟨b2.1, by have := b2.2; show z2 < _; omega⟩, ⟨b3.1, by have := b3.2; show z3 < _; omega⟩, hh, by unfold maxLen at hlm; show xs.length ≤ _; omega⟩
  simp only [List.cons.injEq, and_true] at e0 e1 e2 e3
  subst e0 e1 e2 e3 e4
  match cs, hl with
  | [d0, d1, d2, d3, d4], _ =>
    simp only [List.getElem?_cons_zero, List.getElem?_cons_succ, Option.some.injEq] at c0 c1 c2 c3 c4
    subst c0 c1 c2 c3 c4
    rfl
theorem hole_of {fuel : Nat} {cs : List Value} {x : DataW H × List MemPlace} (h : DataW.trod enc Try.prog w base (fun _ => true) held fuel 60 cs = some x) (hl : cs.length = 2) :
    ∃ p : Int × Int, cs = hv [p] ∧ 0 ≤ p.1 ∧ p.1 < 4294967296 ∧ 0 ≤ p.2 ∧ p.2 < 4294967296 := by
  obtain ⟨n, hf⟩ := fields_of Try.underlying60 (by kernel_rfl) h (by rw [hl]; decide)
  obtain ⟨u0, y0, c0, t0⟩ := hf 0 _ rfl
  obtain ⟨u1, y1, c1, t1⟩ := hf 1 _ rfl
  obtain ⟨z0, e0, _, w0⟩ := DataW.trod_int Try.underlying36 t0
  obtain ⟨z1, e1, _, w1⟩ := DataW.trod_int Try.underlying36 t1
  have b0 := bounds_u32 w0
  have b1 := bounds_u32 w1
  refine ⟨(z0, z1), ?_, b0.1, by have := b0.2; show z0 < _; omega, b1.1, by have := b1.2; show z1 < _; omega⟩
  simp only [List.cons.injEq, and_true] at e0 e1
  subst e0 e1
  match cs, hl with
  | [d0, d1], _ =>
    simp only [List.getElem?_cons_zero, List.getElem?_cons_succ, Option.some.injEq] at c0 c1
    subst c0 c1
    rfl
end
theorem list_of {α : Type} (P : Nat → α → Prop) : ∀ n : Nat, (∀ i, i < n → ∃ a, P i a) → ∃ l : List α, l.length = n ∧ ∀ i a, l[i]? = some a → P i a
  | 0, _ => ⟨[], rfl, fun i a h => by simp at h⟩
  | n + 1, h => by
    obtain ⟨l, hl, hp⟩ := list_of P n (fun i hi => h i (by omega))
    obtain ⟨a, ha⟩ := h n (by omega)
    refine ⟨l ++ [a], by simp [hl], fun i b hb => ?_⟩
    rcases Nat.lt_or_ge i n with hi | hi
    · rw [List.getElem?_append_left (by omega)] at hb
      exact hp i b hb
    · rw [List.getElem?_append_right (by omega)] at hb
      have hi2 : i - l.length = 0 := by
        have := (List.getElem?_eq_some_iff.1 hb).1
        simp at this
        omega
      rw [hi2] at hb
      obtain rfl : a = b := by simpa using hb
      rw [show i = n by omega]
      exact ha

/-- The holes that a slice of the reference's holes shows. -/
def HoldsR (w : World) (A : Option Addr) (hs : List (Int × Int)) : Prop := (0 < hs.length → ∃ b o, A = some ⟨b, o, none⟩ ∧ ∀ k p, hs[k]? = some p → w.cell? ⟨b, o + k * 2, none⟩ = some (.int .u32 p.1) ∧ w.cell? ⟨b, o + k * 2 + 1, none⟩ = some (.int .u32 p.2)) ∧ okHoles hs
section
variable {H : Type} {enc : TypeId × Value → H} {w : World} {base : Nat} {held : Bool}
theorem plain_add {a : Addr} {k : Nat} {v : Value} (h : w.cell? ((a.add (0 * k)).add 0) = some v) : a.spot = none := by
  have e := World.cell?_spot h
  simpa [Addr.add] using e
theorem acts_of {fuel : Nat} {A : Option Addr} {l c : Nat} {x : DataW H × List MemPlace} (h : DataW.trod enc Try.prog w base (fun _ => true) held fuel 23 [.slice A l c] = some x) :
    ∃ acts : List ActD, acts.length = l ∧ l ≤ maxLen ∧ HoldsActs w A acts := by
  have cs0 : Try.prog.cellsOf 39 = 5 := by kernel_rfl
  rcases open_slice Try.underlying23 h with ⟨hcs, _⟩ | ⟨a, len, cap, m, n, D, Pl, hcs, hb, hl, hm, hmm, hx, hi⟩
  · obtain ⟨rfl, rfl, rfl⟩ : A = none ∧ l = 0 ∧ c = 0 := by simpa using hcs
    exact ⟨[], rfl, by unfold maxLen; omega, fun h => by simp at h, fun a ha => by simp at ha⟩
  · obtain ⟨rfl, rfl, rfl⟩ : A = some a ∧ l = len ∧ c = cap := by simpa using hcs
    have hmc : m = c := by simpa using hmm
    rw [cs0] at hi
    obtain ⟨acts, hal, hap⟩ := list_of (fun i (ac : ActD) => (∀ j, j < 5 → w.cell? ((a.add (i * 5)).add j) = (av [ac])[j]?) ∧ okAct w ac) l (fun i hil => by
      obtain ⟨cs', hc', ht⟩ := hi i (by omega)
      obtain ⟨_, hcl, hat⟩ := World.cells?_some hc'
      obtain ⟨ac, rfl, hok⟩ := act_of ht hcl
      exact ⟨ac, hat, hok⟩)
    refine ⟨acts, hal, by omega, fun h0 => ?_, fun ac hac => ?_⟩
    · obtain ⟨ac0, h00⟩ : ∃ ac, acts[0]? = some ac := ⟨_, List.getElem?_eq_getElem h0⟩
      have hsp : a.spot = none := plain_add ((hap 0 ac0 h00).1 0 (by omega))
      obtain ⟨b, o, sp⟩ := a
      obtain rfl : sp = none := hsp
      refine ⟨b, o, rfl, fun k ac hk => ?_⟩
      have hc := (hap k ac hk).1
      have e : ∀ j, ((⟨b, o, none⟩ : Addr).add (k * 5)).add j = ⟨b, o + k * 5 + j, none⟩ := fun j => by rw [addr_add, addr_add]
      simp only [e] at hc
      exact ⟨hc 0 (by omega), hc 1 (by omega), hc 2 (by omega), hc 3 (by omega), hc 4 (by omega)⟩
    · obtain ⟨k, hk⟩ := List.getElem?_of_mem hac
      exact (hap k ac hk).2
theorem holes_of {fuel : Nat} {A : Option Addr} {l c : Nat} {x : DataW H × List MemPlace} (h : DataW.trod enc Try.prog w base (fun _ => true) held fuel 22 [.slice A l c] = some x) :
    ∃ hs : List (Int × Int), hs.length = l ∧ l ≤ maxLen ∧ HoldsR w A hs := by
  have cs0 : Try.prog.cellsOf 60 = 2 := by kernel_rfl
  rcases open_slice Try.underlying22 h with ⟨hcs, _⟩ | ⟨a, len, cap, m, n, D, Pl, hcs, hb, hl, hm, hmm, hx, hi⟩
  · obtain ⟨rfl, rfl, rfl⟩ : A = none ∧ l = 0 ∧ c = 0 := by simpa using hcs
    exact ⟨[], rfl, by unfold maxLen; omega, fun h => by simp at h, fun a ha => by simp at ha⟩
  · obtain ⟨rfl, rfl, rfl⟩ : A = some a ∧ l = len ∧ c = cap := by simpa using hcs
    have hmc : m = c := by simpa using hmm
    rw [cs0] at hi
    obtain ⟨hs, hal, hap⟩ := list_of (fun i (p : Int × Int) => (∀ j, j < 2 → w.cell? ((a.add (i * 2)).add j) = (hv [p])[j]?) ∧ (0 ≤ p.1 ∧ p.1 < 4294967296 ∧ 0 ≤ p.2 ∧ p.2 < 4294967296)) l (fun i hil => by
      obtain ⟨cs', hc', ht⟩ := hi i (by omega)
      obtain ⟨_, hcl, hat⟩ := World.cells?_some hc'
      obtain ⟨p, rfl, hok⟩ := hole_of ht hcl
      exact ⟨p, hat, hok⟩)
    refine ⟨hs, hal, by omega, fun h0 => ?_, fun p hp => ?_⟩
    · obtain ⟨p0, h00⟩ : ∃ p, hs[0]? = some p := ⟨_, List.getElem?_eq_getElem h0⟩
      have hsp : a.spot = none := plain_add ((hap 0 p0 h00).1 0 (by omega))
      obtain ⟨b, o, sp⟩ := a
      obtain rfl : sp = none := hsp
      refine ⟨b, o, rfl, fun k p hk => ?_⟩
      have hc := (hap k p hk).1
      have e : ∀ j, ((⟨b, o, none⟩ : Addr).add (k * 2)).add j = ⟨b, o + k * 2 + j, none⟩ := fun j => by rw [addr_add, addr_add]
      simp only [e] at hc
      exact ⟨hc 0 (by omega), hc 1 (by omega)⟩
    · obtain ⟨k, hk⟩ := List.getElem?_of_mem hp
      exact (hap k p hk).2
theorem act_in {r : Reach} {b0 : Nat} {v : Value} {d : DataW H} {ps : List MemPlace} (hv' : Value.okWide Try.prog w r b0 39 v) (h : DataW.Trod enc Try.prog w base (fun _ => true) held 39 v d ps) :
    ∃ a : ActD, v = .agg #[.int .i64 a.kind, .int .i64 a.n, .int .u32 a.at_, .int .u32 a.v, .slice a.A a.xs.length a.c] ∧ okAct w a := by
  have cs0 : Try.prog.cellsOf 39 = 5 := by kernel_rfl
  obtain ⟨cs, rfl, hsz⟩ := okWide_struct Try.underlying39 hv'
  obtain ⟨fuel, hf⟩ := h
  obtain ⟨a, ha, hok⟩ := act_of hf (by rw [cs0] at hsz; simpa [Value.cells] using hsz)
  refine ⟨a, ?_, hok⟩
  have e : cs.toList = av [a] := by simpa [Value.cells] using ha
  have e2 : cs = (av [a]).toArray := by rw [← e]
  rw [e2]
  rfl
end
end Go.Proofs.Ytkcblemiphpmaaa
