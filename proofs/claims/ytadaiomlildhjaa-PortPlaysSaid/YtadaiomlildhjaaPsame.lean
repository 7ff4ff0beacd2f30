/- What the law's comparison of both ports answers. -/
import Derived.Test.YtadaiomlildhjaaPboth
namespace Go.Proofs.Ytadaiomlildhjaa
open Go.RowKit Go.Conc
set_option linter.unusedVariables false
section
variable {w w1 : World} {B g c rg rb : Nat} {ov av pv : Value} {ins outs : List UInt8} {code : Int} {ht : Bool}
set_option maxRecDepth 100000 in
set_option maxHeartbeats 8000000 in
theorem same_any (h : Both w B g c rg rb ov av pv ins outs code ht) :
    Calls Try.prog 17 #[.pointer (some ⟨g, 0, none⟩), .pointer (some ⟨rg, 0, none⟩)] w (Yes w) := by
  go_enter Try.func17, Try.ntmps17
  go_wp2_with fail
  refine (halted_any h.p).mono ?_
  rintro e w1 ⟨rfl, hb1⟩
  have h1 := h.below hb1
  obtain ⟨R, rc, hpv⟩ := row_slice h1.r.put
  obtain ⟨A, ac, hav, _, _⟩ := h1.r.ahead
  have r0 : w1.drew.cell? ⟨rg, 0, none⟩ = some (.slice A ins.length ac) := (h1.r.self.at_ 0).trans (congrArg some hav)
  have r1 : w1.drew.cell? ⟨rg, 1, none⟩ = some (.slice R outs.length rc) := (h1.r.self.at_ 1).trans (congrArg some hpv)
  have r2 : w1.drew.cell? ⟨rg, 2, none⟩ = some (.bool ht) := h1.r.self.at_ 2
  have r3 : w1.drew.cell? ⟨rg, 3, none⟩ = some (.int .u32 code) := h1.r.self.at_ 3
  have hput := h1.r.put
  rw [hpv] at hput
  have cr0 := conv_holds w1.drew R outs _ rc rfl (row_holds hput.drew rfl)
  have HPV := Lib.hid hpv
  have HAV := Lib.hid hav
  clear hpv hav
  go_wp2
  first | go_region_with (first | (go_at_call 19; refine (left_any h1.drew.p).mono ?_; rintro e w' ⟨rfl, rfl⟩) | (go_at_call 16; refine (output_any h1.drew.p).mono ?_; rintro e w5 ⟨A5, rfl, ho5, hb5⟩; have h5 := h1.drew.below hb5; have s0 : w5.cell? ⟨rg, 0, none⟩ = some (.slice A ins.length ac) := (h5.r.self.at_ 0).trans (congrArg some HAV.out); have s1 : w5.cell? ⟨rg, 1, none⟩ = some (.slice R outs.length rc) := (h5.r.self.at_ 1).trans (congrArg some HPV.out); have s2 : w5.cell? ⟨rg, 2, none⟩ = some (.bool ht) := h5.r.self.at_ 2; have s3 : w5.cell? ⟨rg, 3, none⟩ = some (.int .u32 code) := h5.r.self.at_ 3; have cr5 := conv_holds w5 R outs _ rc rfl ((row_holds hput.drew rfl).below (w := w1.drew) hb5); have cv5 := conv_holds w5 A5 outs _ outs.length rfl ho5.holds)) | fail
  all_goals
    go_wp2
    go_ret
    exact ⟨rfl, (hb1.drew).trans (hb5.mono hb1.size)⟩
end
end Go.Proofs.Ytadaiomlildhjaa
