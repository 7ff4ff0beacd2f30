/- How an argument that is a slice of bytes is opened. -/
import Derived.Test.YtadaiomlildhjaaCell
import Derived.Deep.Slices
import Derived.Deep.Fields
import Derived.ChangeSame
import Derived.OpenShut
namespace Go.Proofs.Ytadaiomlildhjaa
open Go.RowKit Go.ChangeShapes Go.WideShapes Go.Deep
set_option linter.unusedVariables false
theorem bytes_of {H : Type} {enc : TypeId × Value → H} {w : World} {base : Nat} {held : Bool} {fuel : Nat} {A : Option Addr} {l c : Nat} {x : DataW H × List MemPlace} (h : DataW.trod enc Try.prog w base (fun _ => true) held fuel 22 [.slice A l c] = some x) :
    ∃ xs : List UInt8, xs.length = l ∧ l ≤ maxLen ∧ Holds w A xs := by
  rcases open_ints Try.underlying22 Try.underlying5 (by kernel_rfl) h with ⟨hcs, _⟩ | ⟨ad, l2, c2, zs, hcs, _, hl, hm, hz, _, hcell, hwz⟩
  · obtain ⟨rfl, rfl, rfl⟩ : A = none ∧ l = 0 ∧ c = 0 := by simpa using hcs
    exact ⟨[], rfl, by unfold maxLen; omega, fun h => by simp at h⟩
  · obtain ⟨rfl, rfl, rfl⟩ : A = some ad ∧ l = l2 ∧ c = c2 := by simpa using hcs
    obtain ⟨xs, h1, h2, h3⟩ := holds_row w (some ad) l c zs (.inr ⟨ad, rfl, hl, hm, by simpa using hz, hcell, hwz⟩)
    exact ⟨xs, h1, h2, h3⟩
end Go.Proofs.Ytadaiomlildhjaa
