/- How an argument that is a slice of bytes is opened, with its datum: for the frame that knows the reach. -/
import Derived.Test.YtadaiomlildhjaaPgood
import Derived.Test.YtadaiomlildhjaaBytes
namespace Go.Proofs.Ytadaiomlildhjaa
open Go.RowKit Go.ChangeShapes Go.WideShapes Go.Deep
set_option linter.unusedVariables false
theorem bytes_reach {H : Type} {enc : TypeId × Value → H} {w : World} {base : Nat} {held : Bool} {fuel : Nat} {A : Option Addr} {l c : Nat} {x : DataW H × List MemPlace} (h : DataW.trod enc Try.prog w base (fun _ => true) held fuel 22 [.slice A l c] = some x) :
    ∃ xs : List UInt8, xs.length = l ∧ l ≤ maxLen ∧ Holds w A xs ∧ (l = 0 ∨ ∃ elems spare, x.1 = .slice elems spare ∧ elems.length = l) := by
  obtain ⟨xs, h1, h2, h3⟩ := bytes_of h
  refine ⟨xs, h1, h2, h3, ?_⟩
  rcases open_ints Try.underlying22 Try.underlying5 (by kernel_rfl) h with ⟨hcs, _⟩ | ⟨ad, l2, c2, zs, hcs, _, hl, hm, hz, hd, hcell, hwz⟩
  · obtain ⟨rfl, rfl, rfl⟩ : A = none ∧ l = 0 ∧ c = 0 := by simpa using hcs
    exact .inl rfl
  · obtain ⟨rfl, rfl, rfl⟩ : A = some ad ∧ l = l2 ∧ c = c2 := by simpa using hcs
    exact .inr ⟨_, _, congrArg Prod.fst hd, by simp [lits] at hz ⊢; omega⟩
end Go.Proofs.Ytadaiomlildhjaa
