/- Both ports side by side: what is held of them while they act. -/
import Derived.Test.YtadaiomlildhjaaPref
import Derived.Test.YtadaiomlildhjaaBytes
namespace Go.Proofs.Ytadaiomlildhjaa
open Go.RowKit Go.Conc
set_option linter.unusedVariables false

/-- Both ports have the same ahead of them and behind them, in blocks of their own, all from B on. -/
structure Both (w : World) (B g c rg rb : Nat) (ov av pv : Value) (ins outs : List UInt8) (code : Int) (ht : Bool) : Prop where
  p : IsPort w B g c ins outs ov code ht
  r : IsRef w B rg rb av pv ins outs code ht
  n0 : B ≤ rb
  n1 : rb < w.heap.size
  n2 : ov.ownBlock ≠ some rb
  n3 : pv.ownBlock ≠ some rb
  n4 : ∀ i, ov.ownBlock = some i → pv.ownBlock ≠ some i
  n5 : rb ≠ g
  n6 : rb ≠ c
  n7 : rb ≠ rg
section
variable {w w1 : World} {B g c rg rb : Nat} {ov av pv : Value} {ins outs : List UInt8} {code : Int} {ht : Bool}
theorem Both.size (h : Both w B g c rg rb ov av pv ins outs code ht) : B ≤ w.heap.size := by have := h.n0; have := h.n1; omega
theorem Both.far {S : Nat → Prop} (h : Both w B g c rg rb ov av pv ins outs code ht) (k : Only S w w1) (hS : ∀ i, S i → i < w.heap.size → i < B) : Both w1 B g c rg rb ov av pv ins outs code ht := by
  have hg := h.p.self.lt
  have hc := h.p.chan.lt
  have hrg := h.r.self.lt
  refine ⟨h.p.keeps k (fun q => ?_) (fun q => ?_) (fun i hi q => ?_), h.r.keeps k (fun q => ?_) (fun q => ?_) h.n1 (fun i hi q => ?_), h.n0, by have := k.size; have := h.n1; omega, h.n2, h.n3, h.n4, h.n5, h.n6, h.n7⟩
  · have := hS _ q hg; have := h.p.b1; omega
  · have := hS _ q hc; have := h.p.b2; omega
  · have h1 := h.p.out.lt i hi; have := hS _ q h1.2; omega
  · have := hS _ q hrg; have := h.r.b1; omega
  · have := hS _ q h.n1; have := h.n0; omega
  · have h1 := h.r.put.lt i hi; have := hS _ q h1.2; omega
theorem Both.below (h : Both w B g c rg rb ov av pv ins outs code ht) (hb : Below w.heap.size w w1) : Both w1 B g c rg rb ov av pv ins outs code ht :=
  h.far (Only.of_below (S := fun _ => False) hb) (fun _ q => q.elim)
theorem Both.drew (h : Both w B g c rg rb ov av pv ins outs code ht) : Both w.drew B g c rg rb ov av pv ins outs code ht := h.below (Below.refl _ _).drew
theorem Both.gr (h : Both w B g c rg rb ov av pv ins outs code ht) : g ≠ rg := h.p.self.apart h.r.self (by decide)
theorem Both.cr (h : Both w B g c rg rb ov av pv ins outs code ht) : c ≠ rg := h.p.chan.ne_blok h.r.self
/-- Behind a step of the port: the document's is as it was. -/
theorem Both.ref_c (h : Both w B g c rg rb ov av pv ins outs code ht) (k : Only (· = c) w w1) : IsRef w1 B rg rb av pv ins outs code ht :=
  h.r.keeps k (fun q => h.cr q.symm) h.n6 h.n1 (fun i hi q => by subst q; exact h.p.chan.ne_row h.r.put hi)
theorem Both.ref_g (h : Both w B g c rg rb ov av pv ins outs code ht) (k : Only (fun i => i = g ∨ ov.ownBlock = some i) w w1) : IsRef w1 B rg rb av pv ins outs code ht := by
  refine h.r.keeps k (fun q => ?_) (fun q => ?_) h.n1 (fun i hi q => ?_)
  · rcases q with q | q
    · exact h.gr q.symm
    · exact blok_ne_row h.r.self h.p.out (by decide) q
  · rcases q with q | q
    · exact h.n5 q
    · exact h.n2 q
  · rcases q with q | q
    · subst q
      exact blok_ne_row h.p.self h.r.put (by decide) hi
    · exact h.n4 i q hi
/-- Behind a step of the document's port: the port is as it was. -/
theorem port_r {p w2 : World} {B2 : Nat} {ins2 outs2 : List UInt8} {ov2 : Value} {code2 : Int} {ht2 : Bool} {S : Nat → Prop} (h : IsPort p B g c ins2 outs2 ov2 code2 ht2) (k : Only S p w2) (h1 : ¬ S g) (h2 : ¬ S c) (h3 : ∀ i, ov2.ownBlock = some i → ¬ S i) : IsPort w2 B g c ins2 outs2 ov2 code2 ht2 := h.keeps k h1 h2 h3

end
end Go.Proofs.Ytadaiomlildhjaa
