/-
  No cell of these rows narrows 'for every input' (looked for: loops, veiled, ifaces, maps, wideKeys, modest, calm, conditions, laid).
  DERIVED. THE GIVEN ROWS OF THIS SEAT. 4 by the template 'for every input the law returns true; each argument reads behind the call as it read before'; 0 by the template 'total and deterministic' (their statements: YtdjlcfpcplclmaaTotals.lean).
  GIVEN WITH THE SEED: the statements are not yours to turn. If you find one false, say at which input.
  Laid BY PROGRAM, IN A SANDBOX (cutbox-rows.mjs): the forced cells as the released guide's own fill.sh prints them over the translation 25ed93e92c64b302… (all of the seat's roots in one cut). By AI agents, Wed Nov 11 2026. No macro, syntax, notation, axiom, sorry.
-/
import Derived.Test.YtdjlcfpcplclmaaChecked
import GoSem.Claim
import GoSem.ClaimJoined
import GoSem.ClaimMapViews
import Derived.JoinedTies
import Derived.KernelRfl
namespace Go.Proofs.Ytdjlcfpcplclmaa
/- THE CELL 'sum', in the pinned program and in every row, IS THE sha256 OF THE DUMP (.gsa) THAT YtdjlcfpcplclmaaProg.lean LOADS. Nothing in Lean hashes anything: it is a label: what it is worth is what the hold of that sum in a sandbox is worth. -/
noncomputable def Try.pinned : Pinned := { name := "ytdjlcfpcplclmaa", sum := "25ed93e92c64b302576097d98d2f0b938131dfb487133e6cfbd379c9834388dc", checked := Try.checked }
namespace Rows
def none {H : Type} : Left H := { results := [], args := [] }

/-- 'swagelaw09.NamesLooks': WHATEVER THE INPUT: true; the input reads as it did. -/
def namesLooksSpec : ChangeSpec := { name := "namesLooks", fn := fun _ => fun
  | [d] => { results := [.lit (.bool true)], args := [d] }
  | _ => none }
def namesLooksRow : OpenClaim := { program := "ytdjlcfpcplclmaa", sum := "25ed93e92c64b302576097d98d2f0b938131dfb487133e6cfbd379c9834388dc", func := "swage/swagelaw09.NamesLooks", spec := "namesLooks", apart := false }
def NamesLooksSaid : Prop := namesLooksRow.holds Try.pinned (OpenSpec.ofChange namesLooksSpec)

/-- ITS FALSE NEIGHBOUR: 'it returns false'. Refute it at one input. -/
def namesLooksWrong : ChangeSpec := { name := "namesLooks", fn := fun _ => fun
  | [d] => { results := [.lit (.bool false)], args := [d] }
  | _ => none }
def NamesLooksWrongFalsely : Prop := namesLooksRow.holds Try.pinned (OpenSpec.ofChange namesLooksWrong)

/-- 'swagelaw09.NamesHeads': WHATEVER THE INPUT: true; the input reads as it did. -/
def namesHeadsSpec : ChangeSpec := { name := "namesHeads", fn := fun _ => fun
  | [d1, d2] => { results := [.lit (.bool true)], args := [d1, d2] }
  | _ => none }
def namesHeadsRow : OpenClaim := { program := "ytdjlcfpcplclmaa", sum := "25ed93e92c64b302576097d98d2f0b938131dfb487133e6cfbd379c9834388dc", func := "swage/swagelaw09.NamesHeads", spec := "namesHeads", apart := false }
def NamesHeadsSaid : Prop := namesHeadsRow.holds Try.pinned (OpenSpec.ofChange namesHeadsSpec)

/-- ITS FALSE NEIGHBOUR: 'it returns false'. Refute it at one input. -/
def namesHeadsWrong : ChangeSpec := { name := "namesHeads", fn := fun _ => fun
  | [d1, d2] => { results := [.lit (.bool false)], args := [d1, d2] }
  | _ => none }
def NamesHeadsWrongFalsely : Prop := namesHeadsRow.holds Try.pinned (OpenSpec.ofChange namesHeadsWrong)

/-- 'swagelaw09.NamesBack': WHATEVER THE INPUT: true; the input reads as it did. -/
def namesBackSpec : ChangeSpec := { name := "namesBack", fn := fun _ => fun
  | [d1, d2, d3] => { results := [.lit (.bool true)], args := [d1, d2, d3] }
  | _ => none }
def namesBackRow : OpenClaim := { program := "ytdjlcfpcplclmaa", sum := "25ed93e92c64b302576097d98d2f0b938131dfb487133e6cfbd379c9834388dc", func := "swage/swagelaw09.NamesBack", spec := "namesBack", apart := false }
def NamesBackSaid : Prop := namesBackRow.holds Try.pinned (OpenSpec.ofChange namesBackSpec)

/-- ITS FALSE NEIGHBOUR: 'it returns false'. Refute it at one input. -/
def namesBackWrong : ChangeSpec := { name := "namesBack", fn := fun _ => fun
  | [d1, d2, d3] => { results := [.lit (.bool false)], args := [d1, d2, d3] }
  | _ => none }
def NamesBackWrongFalsely : Prop := namesBackRow.holds Try.pinned (OpenSpec.ofChange namesBackWrong)

/-- 'swagelaw09.NamesApart': WHATEVER THE INPUT: true; the input reads as it did. -/
def namesApartSpec : ChangeSpec := { name := "namesApart", fn := fun _ => fun
  | [d1, d2] => { results := [.lit (.bool true)], args := [d1, d2] }
  | _ => none }
def namesApartRow : OpenClaim := { program := "ytdjlcfpcplclmaa", sum := "25ed93e92c64b302576097d98d2f0b938131dfb487133e6cfbd379c9834388dc", func := "swage/swagelaw09.NamesApart", spec := "namesApart", apart := false }
def NamesApartSaid : Prop := namesApartRow.holds Try.pinned (OpenSpec.ofChange namesApartSpec)

/-- ITS FALSE NEIGHBOUR: 'it returns false'. Refute it at one input. -/
def namesApartWrong : ChangeSpec := { name := "namesApart", fn := fun _ => fun
  | [d1, d2] => { results := [.lit (.bool false)], args := [d1, d2] }
  | _ => none }
def NamesApartWrongFalsely : Prop := namesApartRow.holds Try.pinned (OpenSpec.ofChange namesApartWrong)

/- THE SECOND FORM. 'bulk': how many values and letters a reading holds, each counted each time it is reached (what is shared counts as often as it is met; a slice's spare places count too). A statement '..UptoSaid' is the law's where the arguments, and the package variables that the reading takes, are together of bulk at most 1048576: NARROWER than '..Said'. Prove '..Said' where nothing that the law and all that it calls make is longer than what came in: it says more and counts as full. Else prove '..UptoSaid'. A law counts once. -/
mutual
def uptoBulk {H : Type} : DataW H → Nat
  | .lit (.string bytes) => bytes.length + 1
  | .lit _ => 1
  | .nil => 1
  | .ptr d => uptoBulk d + 1
  | .slice elems spare => uptoBulkAll elems + uptoBulkAll spare + 1
  | .agg parts => uptoBulkAll parts + 1
  | .iface _ d => uptoBulk d + 1
  | .map entries => uptoBulkEntries entries + 1
  | .held _ => 1
def uptoBulkAll {H : Type} : List (DataW H) → Nat
  | [] => 0
  | d :: r => uptoBulk d + uptoBulkAll r
def uptoBulkEntries {H : Type} : List (Lit × DataW H) → Nat
  | [] => 0
  | x :: r => uptoBulkEntry x + uptoBulkEntries r
def uptoBulkEntry {H : Type} : Lit × DataW H → Nat
  | (.string bytes, d) => bytes.length + uptoBulk d + 1
  | (_, d) => uptoBulk d + 1
 end
def uptoSmall : (H : Type) → List (DataW H) → Bool := fun _ ds => decide (uptoBulkAll ds ≤ 1048576)
def OpenSpec.upto (s : _root_.Go.ChangeSpec) : _root_.Go.OpenSpec := { _root_.Go.OpenSpec.ofChange s with cond := some uptoSmall }

/-- 'swagelaw09.NamesLooks', WHERE WHAT IT READS IS OF BULK AT MOST 1048576: true; the input reads as it did. -/
def namesLooksUptoRow : OpenClaim := { program := "ytdjlcfpcplclmaa", sum := "25ed93e92c64b302576097d98d2f0b938131dfb487133e6cfbd379c9834388dc", func := "swage/swagelaw09.NamesLooks", spec := "namesLooks", apart := false, narrowed := true }
def NamesLooksUptoSaid : Prop := namesLooksUptoRow.holds Try.pinned (OpenSpec.upto namesLooksSpec)

/-- 'swagelaw09.NamesHeads', WHERE WHAT IT READS IS OF BULK AT MOST 1048576: true; the input reads as it did. -/
def namesHeadsUptoRow : OpenClaim := { program := "ytdjlcfpcplclmaa", sum := "25ed93e92c64b302576097d98d2f0b938131dfb487133e6cfbd379c9834388dc", func := "swage/swagelaw09.NamesHeads", spec := "namesHeads", apart := false, narrowed := true }
def NamesHeadsUptoSaid : Prop := namesHeadsUptoRow.holds Try.pinned (OpenSpec.upto namesHeadsSpec)

/-- 'swagelaw09.NamesBack', WHERE WHAT IT READS IS OF BULK AT MOST 1048576: true; the input reads as it did. -/
def namesBackUptoRow : OpenClaim := { program := "ytdjlcfpcplclmaa", sum := "25ed93e92c64b302576097d98d2f0b938131dfb487133e6cfbd379c9834388dc", func := "swage/swagelaw09.NamesBack", spec := "namesBack", apart := false, narrowed := true }
def NamesBackUptoSaid : Prop := namesBackUptoRow.holds Try.pinned (OpenSpec.upto namesBackSpec)

/-- 'swagelaw09.NamesApart', WHERE WHAT IT READS IS OF BULK AT MOST 1048576: true; the input reads as it did. -/
def namesApartUptoRow : OpenClaim := { program := "ytdjlcfpcplclmaa", sum := "25ed93e92c64b302576097d98d2f0b938131dfb487133e6cfbd379c9834388dc", func := "swage/swagelaw09.NamesApart", spec := "namesApart", apart := false, narrowed := true }
def NamesApartUptoSaid : Prop := namesApartUptoRow.holds Try.pinned (OpenSpec.upto namesApartSpec)

end Rows
end Go.Proofs.Ytdjlcfpcplclmaa
