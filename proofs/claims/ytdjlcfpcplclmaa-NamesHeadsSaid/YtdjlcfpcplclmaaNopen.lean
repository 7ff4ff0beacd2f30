/- How an argument that is a head is opened. -/
import Derived.Test.YtdjlcfpcplclmaaNbytes
import Derived.Deep.Slices
import Derived.Deep.Fields
import Derived.ChangeSame
import Derived.OpenShut
namespace Go.Proofs.Ytdjlcfpcplclmaa
open Go.RowKit Go.ChangeShapes Go.WideShapes Go.Deep T9
set_option linter.unusedVariables false
section
variable {H : Type} {enc : TypeId × Value → H} {P : Program} {w : World} {base : Nat} {spare : Nat → Bool} {held : Bool}
theorem fields_of {e : TypeId} {fs : Array Field} {fuel : Nat} {cs : List Value} {x : DataW H × List MemPlace} (he : P.underlying e = some (.struct fs)) (hone : oneCellFields P fs = true)
    (h : DataW.trod enc P w base spare held fuel e cs = some x) (hl : fs.size ≤ cs.length) :
    ∃ n : Nat, ∀ (j : Nat) (f : Field), fs[j]? = some f → ∃ (u : Value) (y : DataW H × List MemPlace), cs[j]? = some u ∧ DataW.trod enc P w base spare held n f.type [u] = some y := by
  obtain ⟨ys, n, _, _, _, hyl, hf⟩ := DataW.trod_struct he h
  refine ⟨n, fun j f hj => ?_⟩
  obtain ⟨ho, hk⟩ := hone_of hone j f hj
  have hjl : j < fs.size := (Array.getElem?_eq_some_iff.1 hj).1
  have hjc : j < cs.length := by omega
  have h1 := hf j f hj
  rw [ho, hk] at h1
  have e1 : (cs.drop j).take 1 = [cs[j]] := by
    rw [List.drop_eq_getElem_cons hjc]
    rfl
  rw [e1, List.getElem?_eq_getElem (by omega)] at h1
  exact ⟨_, _, List.getElem?_eq_getElem hjc, h1⟩
theorem nat_of {x : Int} (h0 : 0 ≤ x) : ∃ n : Nat, x = n := ⟨x.toNat, by omega⟩
theorem hd_of {fuel : Nat} {cs : List Value} {x : DataW H × List MemPlace} (h : DataW.trod enc Try.prog w base (fun _ => true) held fuel 27 cs = some x) (hl : cs.length = 5) :
    ∃ h : Hd, cs = hc h ∧ h.Ok ∧ h.name.length ≤ maxLen := by
  obtain ⟨n, hf⟩ := fields_of Try.underlying27 (by kernel_rfl) h (by rw [hl]; decide)
  obtain ⟨u0, y0, c0, t0⟩ := hf 0 _ rfl
  obtain ⟨u1, y1, c1, t1⟩ := hf 1 _ rfl
  obtain ⟨u2, y2, c2, t2⟩ := hf 2 _ rfl
  obtain ⟨u3, y3, c3, t3⟩ := hf 3 _ rfl
  obtain ⟨u4, y4, c4, t4⟩ := hf 4 _ rfl
  obtain ⟨z0, e0, _, w0⟩ := DataW.trod_string Try.underlying9 t0
  obtain ⟨z1, e1, _, w1⟩ := DataW.trod_int Try.underlying3 t1
  obtain ⟨z2, e2, _, w2⟩ := DataW.trod_int Try.underlying25 t2
  obtain ⟨z3, e3, _, w3⟩ := DataW.trod_int Try.underlying25 t3
  obtain ⟨z4, e4, _, w4⟩ := DataW.trod_int Try.underlying25 t4
  have b2 := bounds_u32 w2
  have b3 := bounds_u32 w3
  have b4 := bounds_u32 w4
  obtain ⟨n2, rfl⟩ := nat_of b2.1
  obtain ⟨n3, rfl⟩ := nat_of b3.1
  obtain ⟨n4, rfl⟩ := nat_of b4.1
  obtain ⟨s, rfl⟩ : ∃ s : List UInt8, z0 = ⟨s.toArray⟩ := ⟨z0.data.toList, by cases z0; simp⟩
  refine ⟨⟨s, z1, n2, n3, n4⟩, ?_, ⟨by have := b2.2; show n2 < _; omega, by have := b3.2; show n3 < _; omega, by have := b4.2; show n4 < _; omega⟩, ?_⟩
  · simp only [List.cons.injEq, and_true] at e0 e1 e2 e3 e4
    subst e0 e1 e2 e3 e4
    match cs, hl with
    | [d0, d1, d2, d3, d4], _ =>
      simp only [List.getElem?_cons_zero, List.getElem?_cons_succ, Option.some.injEq] at c0 c1 c2 c3 c4
      subst c0 c1 c2 c3 c4
      rfl
  · show s.length ≤ maxLen
    exact w0
theorem head_in {r : Reach} {b0 : Nat} {v : Value} {d : DataW H} {ps : List MemPlace} (hv' : Value.okWide Try.prog w r b0 27 v) (h : DataW.Trod enc Try.prog w base (fun _ => true) held 27 v d ps) :
    ∃ h : Hd, v = hv h ∧ h.Ok ∧ h.name.length ≤ maxLen := by
  have cs0 : Try.prog.cellsOf 27 = 5 := by kernel_rfl
  obtain ⟨cs, rfl, hsz⟩ := okWide_struct Try.underlying27 hv'
  obtain ⟨fuel, hf⟩ := h
  obtain ⟨a, ha, hok⟩ := hd_of hf (by rw [cs0] at hsz; simpa [Value.cells] using hsz)
  refine ⟨a, ?_, hok⟩
  have e : cs.toList = hc a := by simpa [Value.cells] using ha
  have e2 : cs = (hc a).toArray := by rw [← e]
  rw [e2]
  rfl
end
theorem bytes_cap {H : Type} {enc : TypeId × Value → H} {w : World} {base : Nat} {held : Bool} {fuel : Nat} {A : Option Addr} {l c : Nat} {x : DataW H × List MemPlace} (h : DataW.trod enc Try.prog w base (fun _ => true) held fuel 28 [.slice A l c] = some x) :
    ∃ xs : List UInt8, xs.length = l ∧ l ≤ maxLen ∧ (Holds w A xs ∧ xs.length ≤ c) := by
  rcases open_ints Try.underlying28 Try.underlying5 (by kernel_rfl) h with ⟨hcs, _⟩ | ⟨ad, l2, c2, zs, hcs, _, hl, hm, hz, _, hcell, hwz⟩
  · obtain ⟨rfl, rfl, rfl⟩ : A = none ∧ l = 0 ∧ c = 0 := by simpa using hcs
    exact ⟨[], rfl, by unfold maxLen; omega, (fun h => by simp at h), by simp⟩
  · obtain ⟨rfl, rfl, rfl⟩ : A = some ad ∧ l = l2 ∧ c = c2 := by simpa using hcs
    obtain ⟨xs, h1, h2, h3⟩ := holds_row w (some ad) l c zs (.inr ⟨ad, rfl, hl, hm, by simpa using hz, hcell, hwz⟩)
    exact ⟨xs, h1, h2, h3, by omega⟩
end Go.Proofs.Ytdjlcfpcplclmaa
