/- The walk of the stage's law where there are memories. -/
import Derived.Test.YtkcblemiphpmaaaPlays
import Derived.Deep.RegionWith
namespace Go.Proofs.Ytkcblemiphpmaaa
open Go.RowKit
set_option linter.unusedVariables false

theorem eq_bool {a b : Int} (h : a = b) : (a != b) = false := by rw [bne_eq_false_iff_eq]; exact h
theorem rnew_fresh (n : Int) (A : Option Addr) (hs : List (Int × Int)) (c : Nat) (w : World) (hn : sizeOk n) (hl : hs.length ≤ 16) (hh : HoldsR w A hs) (hu : hs.all upright = true) :
    Calls Try.prog 11 #[.int .i64 n, .slice A hs.length c] w fun e w' => ∃ g rb R rc, e = .returned (.tuple #[.pointer (some ⟨g, 0, none⟩), .int .i64 0]) ∧ IsRef w' g rb R rc (List.replicate n.toNat 0) hs ∧ Below w.heap.size w w' ∧ w.heap.size ≤ g ∧ w.heap.size ≤ rb := by
  obtain ⟨m, rfl⟩ := Int.eq_ofNat_of_zero_le (show 0 ≤ n by have := hn.1; omega)
  exact rnew_yes m A hs c w hn hl hh hu
/-- What stands at the loop's head. -/
def Head (w0 : World) (rg rb : Nat) (R : Option Addr) (rc n : Nat) (hs : List (Int × Int)) (m : Value) (wx : World) : Prop := ∃ g bb hb bs, m = .pointer (some ⟨g, 0, none⟩) ∧ bs.length = n ∧ Both wx w0.heap.size g bb hb rg rb R rc bs hs ∧ Below w0.heap.size w0 wx
theorem light_len {l : List ActD} (h : lightB l = true) : ∀ a ∈ l, a.xs.length ≤ 400 := by
  unfold lightB at h
  rw [Bool.and_eq_true] at h
  intro a ha
  have := List.all_eq_true.1 h.1 a ha
  simpa using this
set_option maxRecDepth 100000 in
set_option maxHeartbeats 20000000 in
theorem plays_good (size : Int) (A : Option Addr) (hs : List (Int × Int)) (c : Nat) (A2 : Option Addr) (l : List ActD) (c2 : Nat) (w : World) (hl1 : hs.length ≤ 16) (hl2 : l.length ≤ 9223372036854775807) (h1 : HoldsR w A hs) (h2 : HoldsActs w A2 l)
    (hlight : lightB l = true) (hsz : size ≤ 4096) (hok : sizeOk size) (hu : hs.all upright = true) :
    Calls Try.prog 3 #[.int .i64 size, .slice A hs.length c, .slice A2 l.length c2] w (Yes w) := by
  have hll := light_len hlight
  have hlt := light_any A2 l c2 w hl2 h2
  rw [hlight] at hlt
  have HLT := Lib.hid hlt
  clear hlt hlight
  have hl1i : (hs.length : Int) ≤ 30 := by omega
  have hs4 := hok.1
  go_enter Try.func3, Try.ntmps3
  go_wp2_with fail
  refine HLT.out.mono ?_
  rintro e w1 ⟨rfl, rfl⟩
  go_wp2_with fail
  refine (holes_any A hs c _ (by omega) h1).mono ?_
  rintro e w2 ⟨A', c', rfl, hh2, hb2⟩
  go_wp2_with fail
  refine (new_fresh size A' hs c' _ hok hl1 hh2 h1.2 hu).mono ?_
  rintro e w3 ⟨g, bb, hb, rfl, hm3, hb3, q1, q2, q3⟩
  have z2 := hb2.size
  have z3 := hb3.size
  have t3 := hb2.trans (hb3.mono hb2.size)
  go_wp2_with fail
  refine (rnew_fresh size A hs c _ hok hl1 (h1.below t3) hu).mono ?_
  rintro e w4 ⟨rg, rb, R, rc, rfl, hr4, hb4, q4, q5⟩
  have z4 := hb4.size
  have t4 := t3.trans (hb4.mono t3.size)
  have l3 := hm3.bytes.lt
  have hbo : Both w4 w.heap.size g bb hb rg rb R rc (List.replicate size.toNat 0) hs := ⟨hm3.below hb4, hr4, by omega, by omega, by omega, by omega⟩
  have hn : ((List.replicate size.toNat (0 : UInt8)).length) = size.toNat := List.length_replicate
  have hnz : ((size.toNat : Nat) : Int) = size := by omega
  generalize List.replicate size.toNat (0 : UInt8) = bs at hbo hn
  generalize size.toNat = n at hn hnz
  have HN := Lib.hid hn
  have HNZ := Lib.hid hnz
  have hn16 : n ≤ 4096 := by omega
  clear hn hnz hm3 hr4 q1 q2 q3 q4 q5 l3 z2 z3 z4 hb2 hb3 hb4 t3 hh2
  go_upto_block 0 with (go_at_call 12; refine (num_any _ (by decide) (by decide) _).mono ?_; rintro e w' ⟨rfl, rfl⟩)
  go_cut [7, 11] from 12 to 84 (fun m i wx => Head w rg rb R rc n hs m wx)
  case first =>
    have cs0 : Try.prog.cellsOf 39 = 5 := by kernel_rfl
    go_wp2_with fail
    go_loopw [7, 11] (fun m i wr => ∃ k : Nat, k ≤ l.length ∧ i = .int .i64 k ∧ Head w rg rb R rc n hs m wr) (fun _ i _ => l.length - (intOf i).toNat)
    case atStart => exact ⟨0, Nat.zero_le _, rfl, g, bb, hb, bs, rfl, HN.out, hbo, t4⟩
    case round =>
      obtain ⟨k, hk, rfl, g, bb, hb, bs, rfl, hbl, hbo, hbe⟩ := hrel
      have HBL := Lib.hid hbl
      clear hbl
      by_cases hlt : k < l.length
      · have hp := List.getElem?_eq_getElem hlt
        generalize l[k] = a at hp
        have hmem := List.mem_of_getElem? hp
        have h2' := h2.below hbe
        obtain ⟨ab, ao, rfl, hc⟩ := h2'.1 (by omega)
        obtain ⟨c0, c1, c2', c3, c4⟩ := hc k a hp
        have hoka := h2.2 a hmem
        have hla := hll a hmem
        clear hp hmem hc
        by_cases hk4 : a.kind = 4
        · have hkb : (a.kind == 4) = true := by simp [hk4]
          clear hk4
          go_wp2_with fail
          refine (clone_any g bb hb bs hs _ hbo.mem).mono ?_
          rintro e w5 ⟨g', bb', hb', rfl, hm5, hb5, r1, r2, r3⟩
          have l5 := hbo.ref.bytes.lt
          have hbo5 : Both w5 w.heap.size g' bb' hb' rg rb R rc bs hs := ⟨hm5, hbo.ref.below hb5, by have := hbo.b3; omega, hbo.b2, Nat.le_trans hbo.b3 hb5.size, by omega⟩
          have hbe5 := hbe.trans (hb5.mono hbo.b3)
          have d0 := (hb5.cell (block_lt_of_cell c0)).trans c0
          have d1 := (hb5.cell (block_lt_of_cell c1)).trans c1
          have d2 := (hb5.cell (block_lt_of_cell c2')).trans c2'
          have d3 := (hb5.cell (block_lt_of_cell c3)).trans c3
          have d4 := (hb5.cell (block_lt_of_cell c4)).trans c4
          clear c0 c1 c2' c3 c4 hkb
          go_wp2_with fail
          refine (do_any a g' bb' hb' rg rb R rc bs hs w _ hbo5 hbe5 hoka hla).mono ?_
          rintro e w6 ⟨rfl, bs', hln, hbo', hbe'⟩
          have hsz6 := size_any g' bb' hb' bs' hs _ hbo'.mem
          rw [hln, HBL.out, HNZ.out] at hsz6
          have HSZ := Lib.hid hsz6
          have HLN := Lib.hid hln
          clear hln hsz6
          go_wp2_with (go_at_call 15; refine HSZ.out.mono ?_; rintro e w7 ⟨rfl, rfl⟩)
          go_roundw
          case rel => exact ⟨k + 1, by omega, by go_num, g', bb', hb', bs', rfl, HLN.out.trans HBL.out, hbo', hbe'⟩
          case measure => simp [intOf]; omega
        · have hkb : (a.kind == 4) = false := by simp [hk4]
          clear hk4
          go_wp2_with fail
          refine (do_any a g bb hb rg rb R rc bs hs w _ hbo hbe hoka hla).mono ?_
          rintro e w6 ⟨rfl, bs', hln, hbo', hbe'⟩
          have hsz6 := size_any g bb hb bs' hs _ hbo'.mem
          rw [hln, HBL.out, HNZ.out] at hsz6
          have HSZ := Lib.hid hsz6
          have HLN := Lib.hid hln
          clear hln hsz6
          go_wp2_with (go_at_call 15; refine HSZ.out.mono ?_; rintro e w7 ⟨rfl, rfl⟩)
          go_roundw
          case rel => exact ⟨k + 1, by omega, by go_num, g, bb, hb, bs', rfl, HLN.out.trans HBL.out, hbo', hbe'⟩
          case measure => simp [intOf]; omega
      · go_wp2_with fail
        go_meet
        exact ⟨g, bb, hb, bs, rfl, HBL.out, hbo, hbe⟩
  case rest =>
    obtain ⟨g, bb, hb, bs, rfl, hbl, hbo, hbe⟩ := hcut
    have HNS : Hid ((bs.length : Int) = size) := by
      have e := HNZ.out
      rw [← hbl] at e
      exact e
    clear hbl HNZ HN HLT h1 h2 hll hu hok
    have c0 : wc.drew.cell? ⟨rg, 0, none⟩ = some (.slice (some ⟨rb, 0, none⟩) bs.length bs.length) := hbo.ref.self.at_ 0
    have hr1 : Holds wc (some ⟨rb, 0, none⟩) bs := fun _ => ⟨_, rfl, fun j u hj => by rw [addr_add, Nat.zero_add, hbo.ref.bytes.at_]; exact hj⟩
    have cr0 := conv_holds wc.drew (some ⟨rb, 0, none⟩) bs _ bs.length rfl hr1
    go_wp2
    first | go_region_with (first | (go_at_call 16; refine (bytes_all g bb hb bs hs size HNS.out _ hbo.mem.drew).mono ?_; rintro e w5 ⟨B5, rfl, ho5, hb5⟩; have c5 : w5.cell? ⟨rg, 0, none⟩ = some (.slice (some ⟨rb, 0, none⟩) bs.length bs.length) := (hbo.ref.drew.below hb5).self.at_ 0; have cr5 := conv_holds w5 (some ⟨rb, 0, none⟩) bs _ bs.length rfl (Holds.below (w := wc.drew) hr1 hb5); have cb5 := conv_holds w5 B5 bs _ bs.length rfl ho5.holds) | (go_at_call 8; refine (knows_any _).mono ?_; rintro e w6 ⟨rfl, hb6⟩)) | fail
    all_goals
      have t5 := hbe.drew.trans (hb5.mono hbo.b3)
      go_wp2
      go_ret
      exact ⟨rfl, t5.trans (hb6.mono t5.size)⟩
theorem plays_any (size : Int) (A : Option Addr) (hs : List (Int × Int)) (c : Nat) (A2 : Option Addr) (l : List ActD) (c2 : Nat) (s0 : -9223372036854775808 ≤ size) (s1 : size ≤ 9223372036854775807) (w : World) (hl1 : hs.length ≤ maxLen) (hl2 : l.length ≤ maxLen) (h1 : HoldsR w A hs) (h2 : HoldsActs w A2 l) :
    Calls Try.prog 3 #[.int .i64 size, .slice A hs.length c, .slice A2 l.length c2] w (Yes w) := by
  unfold maxLen at hl1 hl2
  by_cases hq1 : lightB l = false
  · exact plays_heavy size A hs c A2 l c2 s0 s1 w (by omega) (by omega) h2 (.inl hq1)
  by_cases hq2 : 30 < hs.length
  · exact plays_heavy size A hs c A2 l c2 s0 s1 w (by omega) (by omega) h2 (.inr (.inl hq2))
  by_cases hq3 : 4096 < size ∧ size ≤ 1048576
  · exact plays_heavy size A hs c A2 l c2 s0 s1 w (by omega) (by omega) h2 (.inr (.inr hq3))
  have hlt : lightB l = true := by simpa using hq1
  by_cases hr1 : sizeOk size
  · by_cases hr2 : 16 < hs.length
    · exact plays_refused size A hs c A2 l c2 s0 s1 w (by omega) (by omega) h1 h2 hlt hq3 (.inr (.inl hr2))
    by_cases hr3 : hs.all upright = true
    · have := hr1.2.1
      exact plays_good size A hs c A2 l c2 w (by omega) (by omega) h1 h2 hlt (by omega) hr1 hr3
    · exact plays_refused size A hs c A2 l c2 s0 s1 w (by omega) (by omega) h1 h2 hlt hq3 (.inr (.inr (by simpa using hr3)))
  · exact plays_refused size A hs c A2 l c2 s0 s1 w (by omega) (by omega) h1 h2 hlt hq3 (.inl hr1)
end Go.Proofs.Ytkcblemiphpmaaa
