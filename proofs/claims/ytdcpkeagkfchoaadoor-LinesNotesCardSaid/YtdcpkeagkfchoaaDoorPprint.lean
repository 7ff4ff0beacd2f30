/- Print. -/
import Derived.Test.YtdcpkeagkfchoaaDoorBuild
namespace Go.Proofs.YtdcpkeagkfchoaaDoor
open Go.RowKit T6
set_option linter.unusedVariables false
theorem builder_below {T e : TypeId} {B b : Nat} {bs : List Value} {w w' : World} (h : Lib.IsBuilder T e B b bs w) (hb : Below w.heap.size w w') : Lib.IsBuilder T e B b bs w' := by
  have one : ∀ p, Lib.BuilderAt T e B b p bs w → Lib.BuilderAt T e B b p bs w' := fun p h => by
    have hlt := h.lt
    obtain ⟨hB, v, hbk, hown, hne⟩ := h
    exact ⟨hB, v, (hb.block b hlt).trans hbk, row_belowN hown hb, hne⟩
  rcases h with h | h
  · exact .inl (one _ h)
  · exact .inr (one _ h)
theorem cells_app (a b : Str) : Lib.byteCells (a ++ b) = Lib.byteCells a ++ Lib.byteCells b := by simp [Lib.byteCells]
theorem cells_str (a : Str) : Lib.strCells ⟨a.toArray⟩ = Lib.byteCells a := rfl
section
attribute [local go_sem] ext_to ext_from ext_all byte_at cat_str
set_option maxRecDepth 100000 in
set_option maxHeartbeats 4000000 in
theorem print_any (v : Value) (ds : List LineD) (hn : ds.length ≤ 40000) (hpt : ∀ k, (printT (ds.take k)).length ≤ 100000000000000) (hsh : ∀ d ∈ ds, ShortL d) (w : World) (h : LinesAt w v ds) :
    Calls Tryd.prog 15 #[v] w fun e w' => e = .returned (.tuple #[.string ⟨(printR ds).1.toArray⟩, .int .i64 ((printR ds).2 : Int)]) ∧ Below w.heap.size w w' := by
  obtain ⟨A1, c1, rfl, hA1⟩ := h
  have HA := Lib.hid hA1
  have HSH := Lib.hid hsh
  clear hA1 hsh
  go_enter Tryd.func15, Tryd.ntmps15
  go_wp2
  have hb0 : Lib.IsBuilder 64 5 w.heap.size w.heap.size [] (w.alloc (.cells #[.pointer none, .slice none 0 0] 64)) := .inl ⟨Nat.le_refl _, .slice none 0 0, Blok.made w 64 [.pointer none, .slice none 0 0], World.ownsRow_nil _ _ _ _, by simp [Value.ownBlock]⟩
  have hB0 : Below w.heap.size w (w.alloc (.cells #[.pointer none, .slice none 0 0] 64)) := (Below.refl _ w).alloc (Nat.le_refl _) _
  go_loopw [9] (fun i wr => ∃ k : Nat, k ≤ ds.length ∧ i = .int .i64 k ∧ Lib.IsBuilder 64 5 w.heap.size w.heap.size (Lib.byteCells (printT (ds.take k))) wr ∧ (∀ j, j < k → ∀ h : j < ds.length, rightB ds[j] = true) ∧ Below w.heap.size w wr) (fun i _ => ds.length - (intOf i).toNat)
  case atStart => exact ⟨0, Nat.zero_le _, rfl, hb0, fun j hj => absurd hj (Nat.not_lt_zero _), hB0⟩
  case round =>
    obtain ⟨k, hk, rfl, hbd, hal, hbel⟩ := hrel
    clear hb0 hB0
    have HAL := Lib.hid hal
    have HBD := Lib.hid hbd
    clear hal hbd
    by_cases hlt : k < ds.length
    · obtain ⟨b1, o1, rfl, hc1⟩ := HA.out (by omega)
      obtain ⟨p0, p2, q0, q1, q2, hp0, hp2⟩ := hc1 k _ (List.getElem?_eq_getElem hlt)
      have hd := HSH.out _ (List.getElem_mem hlt)
      have hbad := printR_bad ds k hlt
      have htk : printT (ds.take (k + 1)) = printT (ds.take k) ++ textB (ds[k]'hlt) ++ [10] := by rw [List.take_succ_eq_append_getElem hlt, printT_snoc]
      have hpb := hpt k
      obtain ⟨d, hdd⟩ : ∃ d, ds[k] = d := ⟨_, rfl⟩
      rw [hdd] at q1 hp0 hp2 hd hbad htk
      have htb := textB_le hd
      have HD := Lib.hid hdd
      have HBAD := Lib.hid hbad
      have HTK := Lib.hid htk
      have z0 := (hbel.cell (block_lt_of_cell q0)).trans q0
      have z1 := (hbel.cell (block_lt_of_cell q1)).trans q1
      have z2 := (hbel.cell (block_lt_of_cell q2)).trans q2
      have hr := fun w' (hb : Below w.heap.size w w') => right_any p0 p2 d hd w' (hp0.below hb) (hp2.below hb)
      have ht := fun w' (hb : Below w.heap.size w w') => text_any p0 p2 d hd w' (hp0.below hb) (hp2.below hb)
      have hbsz := hbel.size
      obtain ⟨P0, C0, rfl, _⟩ := hp0
      obtain ⟨P2, C2, rfl, _⟩ := hp2
      clear hc1 HA q0 q1 q2 hdd hbad htk hd
      have bX := Blok.made wr 43 [.slice P0 d.labels.length C0, .string ⟨d.word.toArray⟩, .slice P2 d.args.length C2]
      have B1 : Below wr.heap.size wr (wr.alloc (.cells #[.slice P0 d.labels.length C0, .string ⟨d.word.toArray⟩, .slice P2 d.args.length C2] 43)) := (Below.refl _ wr).alloc (Nat.le_refl _) _
      have B2 := hbel.trans (B1.mono hbel.size)
      have x0 := bX.at_ 0
      have x1 := bX.at_ 1
      have x2 := bX.at_ 2
      simp only [List.getElem?_cons_zero, List.getElem?_cons_succ] at x0 x1 x2
      cases hv : rightB d with
      | false =>
        have hf := Lib.hid (HBAD.out hv)
        go_wp2_with (go_at_call 18; refine (hr _ B2).mono ?_; rintro e w2 ⟨rfl, hb2⟩; rw [hv])
        go_ret2
        rw [hf.out]
        exact ⟨rfl, B2.trans (hb2.mono B2.size)⟩
      | true =>
        have HV := Lib.hid hv
        have HB1 := Lib.hid B1
        go_wp2_with (first
          | (go_at_call 18; refine (hr _ B2).mono ?_; rintro e w2 ⟨rfl, hb2⟩; rw [hv]; have y0 := (hb2.cell (block_lt_of_cell x0)).trans x0; have y1 := (hb2.cell (block_lt_of_cell x1)).trans x1; have y2 := (hb2.cell (block_lt_of_cell x2)).trans x2; have B3 := B2.trans (hb2.mono B2.size); have b3 := builder_below (builder_below HBD.out HB1.out) hb2)
          | (go_at_call 33; refine (ht _ B3).mono ?_; rintro e w3 ⟨rfl, hb3⟩; have B4 := B3.trans (hb3.mono B3.size); have b4 := builder_below b3 hb3)
          | (go_at_call 32; refine (wstring_any _ _ _ (textB d) _ b4 (by rw [Lib.byteCells_length]; omega) B4.size).mono ?_; rintro e w4 ⟨rfl, b5, hb4⟩; have B5 := B4.trans hb4)
          | (go_at_call 34; refine (wbyte_any _ _ _ 10 _ (.inr b5) (by rw [List.length_append, Lib.strCells_length, Lib.byteCells_length]; show _ + (textB d).length + 1 ≤ _; omega) B5.size).mono ?_; rintro e w5 ⟨rfl, b6, hb5⟩; have B6 := B5.trans hb5))
        go_roundw
        case rel =>
          refine ⟨k + 1, by omega, by go_num, ?_, fun j hj h => (Nat.lt_or_ge j k).elim (fun h2 => HAL.out j h2 h) (fun h2 => by obtain rfl : j = k := (by omega); rw [HD.out]; exact HV.out), B6⟩
          rw [HTK.out, cells_app, cells_app]
          exact .inr b6
        case measure => simp [intOf]; omega
    · have hR := Lib.hid (printR_good ds (fun j h => HAL.out j (by omega) h))
      have hT : printT (ds.take k) = printT ds := by rw [List.take_of_length_le (by omega)]
      rw [hT] at HBD
      clear hT HAL HA
      go_wp2_with (go_at_call 35; refine (Tryd.Builder_String_any w.heap.size w.heap.size _ _ HBD.out hbel.size).mono ?_; rintro e w2 ⟨rfl, hb2⟩)
      go_ret2
      rw [hR.out]
      exact ⟨rfl, hbel.trans hb2⟩
end
end Go.Proofs.YtdcpkeagkfchoaaDoor
