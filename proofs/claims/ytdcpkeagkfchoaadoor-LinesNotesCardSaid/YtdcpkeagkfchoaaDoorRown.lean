/- Own: the document's lines as the program's. -/
import Derived.Test.YtdcpkeagkfchoaaDoorRref
namespace Go.Proofs.YtdcpkeagkfchoaaDoor
open Go.RowKit T6
set_option linter.unusedVariables false
/-- A line is appended, its rows made in the same world. -/
theorem lineP_appended {w w6 : World} {b B0 B2 : Nat} {v v' : Value} {cs : List Value} {ds : List LineD} {d : LineD} {v0 v2 : Value} (hrow : w.ownsRow b 43 3 v ds.length cs) (hlv : LinesV w cs ds)
    (h0 : w.ownsRow B0 9 1 v0 d.labels.length (sv d.labels)) (h2 : w.ownsRow B2 9 1 v2 d.args.length (sv d.args))
    (hown : w6.ownsRow b 43 3 v' (ds.length + 1) (cs ++ [v0, .string ⟨d.word.toArray⟩, v2])) (hgrow : w.grownBy w6 v.ownBlock) :
    LinesOwn b w6 v' (ds ++ [d]) := by
  have hS : ∀ r, v.ownBlock = some r → ∀ cur, w.heap[r]? ≠ some (.cells cur 9 (0, 0)) := row_type hrow (by decide)
  have k0 := row_ne h0 hgrow hS
  have k2 := row_ne h2 hgrow hS
  have kl := hlv.kept hgrow hS
  exact ⟨cs ++ [v0, .string ⟨d.word.toArray⟩, v2], by rw [List.length_append]; exact hown, kl.snoc ⟨k0.mono (Nat.zero_le _), rfl, k2.mono (Nat.zero_le _)⟩⟩
set_option maxRecDepth 100000 in
set_option maxHeartbeats 4000000 in
theorem Own_any (v : Value) (ds : List LineD) (hn : ds.length ≤ 40000) (hl : ∀ d ∈ ds, d.labels.length ≤ 1000000 ∧ d.args.length ≤ 1000000) (w : World) (h : LinesAt w v ds) :
    Calls Tryd.prog 16 #[v] w fun e w' => ∃ v', e = .returned v' ∧ LinesAt w' v' ds ∧ Below w.heap.size w w' := by
  obtain ⟨i0, hi, hz0, hz1, hz2⟩ := info_parts info_l
  obtain ⟨j0, hj, hy0, hy1, hy2⟩ := info_parts info_s
  obtain ⟨A1, c1, rfl, hA1⟩ := h
  have HA := Lib.hid hA1
  have HL := Lib.hid hl
  clear hA1 hl
  go_enter Tryd.func16, Tryd.ntmps16
  go_wp2
  go_loopw [3, 4] (fun v i wr => ∃ (k : Nat) (A0 : Option Addr) (K0 : Nat), k ≤ ds.length ∧ i = .int .i64 k ∧ v = .slice A0 k K0 ∧ LinesOwn w.heap.size wr (.slice A0 k K0) (ds.take k) ∧ Below w.heap.size w wr) (fun _ i _ => ds.length - (intOf i).toNat)
  case atStart => exact ⟨0, none, 0, Nat.zero_le _, rfl, rfl, ⟨[], World.ownsRow_nil _ _ _ _, trivial⟩, Below.refl _ _⟩
  case round =>
    obtain ⟨k, A0, K0, hk, rfl, rfl, hown, hbel⟩ := hrel
    by_cases hlt : k < ds.length
    · obtain ⟨b1, o1, rfl, hc1⟩ := HA.out (by omega)
      obtain ⟨p0, p2, q0, q1, q2, hp0, hp2⟩ := hc1 k _ (List.getElem?_eq_getElem hlt)
      have hd := HL.out _ (List.getElem_mem hlt)
      obtain ⟨d, hdd⟩ : ∃ d, ds[k] = d := ⟨_, rfl⟩
      rw [hdd] at q1 hp0 hp2 hd
      have HD := Lib.hid hdd
      have hblk := block_lt_of_cell q0
      have z0 := (hbel.cell (block_lt_of_cell q0)).trans q0
      have z1 := (hbel.cell (block_lt_of_cell q1)).trans q1
      have z2 := (hbel.cell (block_lt_of_cell q2)).trans q2
      obtain ⟨P0, C0, rfl, hP0⟩ := hp0
      obtain ⟨P2, C2, rfl, hP2⟩ := hp2
      have S0 : Hid (∀ w', Below w.heap.size w w' → Src w' P0 d.labels.length 1 (sv d.labels)) := fun w' hb => (strs_src (xs := d.labels) (c := C0) ⟨P0, C0, rfl, hP0⟩ hb).2
      have S2 : Hid (∀ w', Below w.heap.size w w' → Src w' P2 d.args.length 1 (sv d.args)) := fun w' hb => (strs_src (xs := d.args) (c := C2) ⟨P2, C2, rfl, hP2⟩ hb).2
      clear hP0 hP2 hc1 HA q0 q1 q2 hdd
      obtain ⟨cs, hrow, hlv⟩ := hown
      rw [List.length_take, Nat.min_eq_left hk] at hrow
      have hD0 := hbel.drew
      have L1 : (wr.drew.alloc (.cells #[] 9)).ownsRow 0 9 1 (.slice (some ⟨wr.heap.size, 0, none⟩) 0 0) 0 [] := lit_row wr.drew 9 1
      have L2 := L1.alloc (.cells #[] 9)
      have L3 : ((wr.drew.alloc (.cells #[] 9)).alloc (.cells #[] 9)).ownsRow 0 9 1 (.slice (some ⟨wr.heap.size + 1, 0, none⟩) 0 0) 0 [] := by
        have := lit_row (wr.drew.alloc (.cells #[] 9)) 9 1
        rw [World.size_alloc] at this
        exact this
      have V1 : Below wr.heap.size wr (wr.drew.alloc (.cells #[] 9)) := ((Below.refl _ wr).drew).alloc (Nat.le_refl _) _
      have V2 : Below wr.heap.size wr ((wr.drew.alloc (.cells #[] 9)).alloc (.cells #[] 9)) := V1.alloc V1.size _
      have T1 := hbel.trans (V1.mono hbel.size)
      have T2 := hbel.trans (V2.mono hbel.size)
      have G1 := Lib.hid (And.intro L1 (And.intro L2 L3))
      have G2 := Lib.hid (And.intro V1 V2)
      have G3 := Lib.hid (And.intro T1 T2)
      have G4 := Lib.hid (And.intro hrow hlv)
      have G5 := Lib.hid hbel
      clear L1 L2 L3 V1 V2 T1 T2 hrow hlv
      go_wp2
      go_region_held3 (fun w' => w'.cell? ⟨b1, o1 + k * 3, none⟩ = some (.slice P0 d.labels.length C0) ∧ w'.cell? ⟨b1, o1 + k * 3 + 1, none⟩ = some (.string ⟨d.word.toArray⟩) ∧ w'.cell? ⟨b1, o1 + k * 3 + 2, none⟩ = some (.slice P2 d.args.length C2) ∧ Below w.heap.size w w')
        (first | exact ⟨z0, z1, z2, hD0⟩ | exact keepA (by assumption) hblk hblk hblk _ | exact keepS (by assumption) hblk hblk hblk T33.out | exact keepS (by assumption) hblk hblk hblk T30.out | exact keepS (by assumption) hblk hblk hblk T18.out)
        (first
          | (refine step_append_lit rfl (.tmp 12) (.tmp 17) _ rfl 0 9 j0 _ 1 16 Tryd.underlying41 hj hy0 hy1 hy2 rfl (by decide) _ (by simp [Act.eval]; rfl) (by first | exact G1.out.1 | exact G1.out.2.1 | exact G1.out.2.2) P0 d.labels.length C0 (sv d.labels) (by simp [Act.eval]) (S0.out _ (by first | exact G3.out.1 | exact G3.out.2)) (by have := hd.1; unfold maxLen; omega) (by have := hd.1; omega) (Nat.zero_le _) ?_; intro v18 w18 hr18 hb18; obtain ⟨X18, k18, rfl⟩ := row_slice hr18; have B18 : Hid (Below wr.heap.size wr w18) := (by first | exact below3 G2.out.1 hb18 | exact below3 G2.out.2 hb18); have T18 : Hid (Below w.heap.size w w18) := G5.out.trans (B18.out.mono G5.out.size); have R18 := Lib.hid (And.intro hr18 hb18); clear hr18 hb18)
          | (refine step_append_lit rfl (.tmp 24) (.tmp 29) _ rfl 0 9 j0 _ 1 16 Tryd.underlying41 hj hy0 hy1 hy2 rfl (by decide) _ (by simp [Act.eval]; rfl) (by first | exact lit_row _ _ _ | exact row_belowN G1.out.2.2 R18.out.2 | exact row_belowN G1.out.2.1 R18.out.2) P2 d.args.length C2 (sv d.args) (by simp [Act.eval]) (S2.out _ (by first | exact T18.out | exact T18.out.alloc T18.out.size _)) (by have := hd.2; unfold maxLen; omega) (by have := hd.2; omega) (Nat.zero_le _) ?_; intro v30 w30 hr30 hb30; obtain ⟨X30, k30, rfl⟩ := row_slice hr30; have B30 : Hid (Below wr.heap.size wr w30) := (by first | exact below3 B18.out hb30 | exact below3 (B18.out.alloc B18.out.size _) hb30); have T30 : Hid (Below w.heap.size w w30) := G5.out.trans (B30.out.mono G5.out.size); have R30 := Lib.hid (And.intro hr30 (row_belowN R18.out.1 (by first | exact hb30 | exact below3 ((Below.refl _ _).alloc (Nat.le_refl _) _) hb30))); have hOne := one_cells (l := d.word) R30.out.2 R30.out.1; have hR33 := row_belowN G4.out.1 (B30.out.alloc B30.out.size (.cells #[.slice X18 d.labels.length k18, .string ⟨d.word.toArray⟩, .slice X30 d.args.length k30] 43)); have H33 := Lib.hid (And.intro hOne hR33); clear hr30 hb30 hOne hR33)
          | (refine step_append_lies _ rfl (.tmp 11) (.tmp 32) _ rfl w.heap.size 43 i0 _ 3 64 Tryd.underlying23 hi hz0 hz1 hz2 rfl (by decide) (.slice A0 k K0) k cs (by simp [Act.eval]) H33.out.2 ⟨w30.heap.size, 0, none⟩ 1 1 [.slice X18 d.labels.length k18, .string ⟨d.word.toArray⟩, .slice X30 d.args.length k30] (by simp [Act.eval]) rfl (fun j u hu => by rw [addr_add, Nat.zero_add]; exact ((Blok.made w30 _ [.slice X18 d.labels.length k18, .string ⟨d.word.toArray⟩, .slice X30 d.args.length k30]).at_ j).trans hu) H33.out.1 (by decide) (by unfold maxLen; omega) (by omega) (by simp; have := T30.out.size; omega) _ rfl ?_; intro g2 cap w4 hown4 hgrow4 hat4 hlt4; have T33 : Hid (Below w.heap.size w w4) := (T30.out.alloc T30.out.size _).grown hgrow4 (by simp; have := T30.out.size; omega) (fun q hq => (H33.out.2.lt q hq).1); have F33 := Lib.hid (And.intro hown4 hgrow4); clear hown4 hgrow4))
      all_goals
        go_wp2
        go_roundw
        case rel =>
          have hml : (ds.take k).length = k := by simp; omega
          have happ := lineP_appended (ds := ds.take k) (d := d) (by rw [hml]; exact H33.out.2) (G4.out.2.below (B30.out.alloc B30.out.size _)) (R30.out.2.alloc _) (R30.out.1.alloc _) (by rw [hml]; exact F33.out.1) F33.out.2
          exact ⟨k + 1, some ⟨g2, 0, none⟩, cap, by omega, by go_num, rfl, by rw [List.take_succ_eq_append_getElem hlt, HD.out]; exact happ, T33.out⟩
        case measure => simp [intOf]; omega
    · have hkl : k = ds.length := by omega
      have HKL := Lib.hid hkl
      clear hkl
      go_wp2
      go_ret
      refine ⟨_, rfl, ?_, hbel⟩
      have := hown.at_
      rwa [List.take_of_length_le (by have := HKL.out; omega)] at this
end Go.Proofs.YtdcpkeagkfchoaaDoor
