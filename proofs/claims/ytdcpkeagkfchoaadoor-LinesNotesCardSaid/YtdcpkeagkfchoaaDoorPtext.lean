/- A line's text. -/
import Derived.Test.YtdcpkeagkfchoaaDoorRprint
namespace Go.Proofs.YtdcpkeagkfchoaaDoor
open Go.RowKit T6
set_option linter.unusedVariables false
theorem join_sp : ∀ l : List Str, Lib.join l [32] = (sp l).drop 1
  | [] => rfl
  | [x] => by simp [Lib.join, sp]
  | x :: y :: l => by
    have h := join_sp (y :: l)
    have e : Lib.join (x :: y :: l) [32] = x ++ [32] ++ Lib.join (y :: l) [32] := by simp [Lib.join, List.intercalate]
    rw [e, h]
    simp [sp]
def bas (l : List Str) : List ByteArray := l.map (fun x => ⟨x.toArray⟩)
theorem bas_len (l : List Str) : (bas l).length = l.length := by simp [bas]
theorem bas_data (l : List Str) : (bas l).map (·.data.toList) = l := by
  simp only [bas, List.map_map]
  induction l with
  | nil => rfl
  | cons x l ih =>
    rw [List.map_cons, ih]
    rfl
theorem join_any (v : Value) (l : List Str) (B : Nat) (w : World) (hrow : w.ownsRow B 9 1 v l.length (sv l)) (hl : l.length ≤ 1000000000) (hs : (sp l).length ≤ 100000000000000) :
    Calls Tryd.prog 56 #[v, .string ⟨#[32]⟩] w fun e w' => e = .returned (.string ⟨((sp l).drop 1).toArray⟩) ∧ Below w.heap.size w w' := by
  rcases hrow.2 with ⟨rfl, h0⟩ | ⟨g, cap, cur, rfl, _, hgb, hcap, _⟩
  · obtain rfl : l = [] := List.eq_nil_of_length_eq_zero h0
    refine (Tryd.strings_Join_none none 0 ⟨#[32]⟩ w).mono ?_
    rintro e w' ⟨rfl, rfl⟩
    exact ⟨rfl, Below.refl _ _⟩
  · have hc := hrow.cells (g := g) rfl
    simp only [addr_add] at hc
    have hg : g < w.heap.size := by
      have h := Array.getElem?_eq_some_iff.1 hgb
      exact h.1
    have hj := Tryd.strings_Join g 0 cap (bas l) ⟨#[32]⟩ w (fun j x hx => by
      have : ∃ y, l[j]? = some y ∧ x = ⟨y.toArray⟩ := by
        simp only [bas, List.getElem?_map, Option.map_eq_some_iff] at hx
        obtain ⟨y, hy, rfl⟩ := hx
        exact ⟨y, hy, rfl⟩
      obtain ⟨y, hy, rfl⟩ := this
      have := hc j (.string ⟨y.toArray⟩) (by simp [sv, hy])
      simpa using this) hg (by rw [bas_len]; omega) (by rw [bas_len]; exact hcap) (by
        rw [bas_data]
        show (Lib.join l [32]).length ≤ _
        rw [join_sp, List.length_drop]
        omega)
    rw [bas_len, bas_data] at hj
    rw [show Lib.join l (⟨#[32]⟩ : ByteArray).data.toList = (sp l).drop 1 from join_sp l] at hj
    exact hj
section
attribute [local go_sem] ext_to ext_from ext_all byte_at cat_str
set_option maxRecDepth 100000 in
set_option maxHeartbeats 4000000 in
theorem text_any (c0 c2 : Value) (d : LineD) (hd : ShortL d) (w : World) (h0 : StrsAt w c0 d.labels) (h2 : StrsAt w c2 d.args) :
    Calls Tryd.prog 33 #[.agg #[c0, .string ⟨d.word.toArray⟩, c2]] w fun e w' => e = .returned (.string ⟨(textB d).toArray⟩) ∧ Below w.heap.size w w' := by
  obtain ⟨j0, hj, hy0, hy1, hy2⟩ := info_parts info_s
  have hsb := sp_pre hd (List.prefix_refl _)
  have hil := (items_len hd).1
  obtain ⟨⟨hl, hlx⟩, hwd, ha, hax⟩ := hd
  obtain ⟨A0, C0, rfl, hA0⟩ := h0
  have S2 : Hid (∀ A n c, c2 = .slice A n c → n = d.args.length ∧ ∀ w', Below w.heap.size w w' → Src w' A d.args.length 1 (sv d.args)) := fun A n c e => by subst e; exact ⟨(strs_src h2 (Below.refl _ _)).1, fun w' hb => (strs_src h2 hb).2⟩
  obtain ⟨A2, C2, rfl, _⟩ := h2
  have hS2 := Lib.hid ((S2.out _ _ _ rfl).2)
  have HA0 := Lib.hid hA0
  have HLX := Lib.hid hlx
  have HSB := Lib.hid hsb
  have HIL := Lib.hid hil
  clear hA0 hlx hax S2 hsb hil
  go_enter Tryd.func33, Tryd.ntmps33
  have bX := Blok.made w 43 [.slice A0 d.labels.length C0, .string ⟨d.word.toArray⟩, .slice A2 d.args.length C2]
  have hB0 : Below w.heap.size w (w.alloc (.cells #[.slice A0 d.labels.length C0, .string ⟨d.word.toArray⟩, .slice A2 d.args.length C2] 43)) := (Below.refl _ w).alloc (Nat.le_refl _) _
  go_wp2
  go_loopw [3, 9] (fun v i wr => ∃ (k : Nat) (P : Option Addr) (K : Nat), k ≤ d.labels.length ∧ i = .int .i64 k ∧ v = .slice P k K ∧ Blok wr w.heap.size 43 [.slice A0 d.labels.length C0, .string ⟨d.word.toArray⟩, .slice A2 d.args.length C2] ∧ wr.ownsRow (w.heap.size + 1) 9 1 (.slice P k K) k (sv ((labsT d).take k)) ∧ Below w.heap.size w wr) (fun _ i _ => d.labels.length - (intOf i).toNat)
  case atStart => exact ⟨0, none, 0, Nat.zero_le _, rfl, rfl, bX, World.ownsRow_nil _ _ _ _, hB0⟩
  case round =>
    obtain ⟨k, P, K, hk, rfl, rfl, hX, hown0, hbel⟩ := hrel
    clear bX hB0
    obtain ⟨wo, rfl⟩ : ∃ wo : World, wo = wr := ⟨_, rfl⟩
    have hlX := hX.lt
    by_cases hlt : k < d.labels.length
    · obtain ⟨b1, o1, rfl, hc1⟩ := HA0.out (by omega)
      have q0 := hc1 k _ (List.getElem?_eq_getElem hlt)
      have q1 := (hbel.cell (block_lt_of_cell q0)).trans q0
      have hxl := HLX.out _ (List.getElem_mem hlt)
      have hst : (labsT d).take (k + 1) = (labsT d).take k ++ [d.labels[k] ++ [58]] := by
        rw [List.take_succ_eq_append_getElem (by simpa [labsT] using hlt)]
        simp [labsT]
      have HST := Lib.hid hst
      clear q0 hc1 HA0 hst
      go_wp2_with (refine wpList_append_lies _ rfl (.tmp 13) (.tmp 16) _ rfl (w.heap.size + 1) 9 j0 _ 1 16 Tryd.underlying41 hj hy0 hy1 hy2 rfl (by decide) (.slice P k K) k (sv ((labsT d).take k)) rfl (hown0.alloc _) ⟨wo.heap.size, 0, none⟩ 1 1 [.string ⟨(d.labels[k] ++ [58]).toArray⟩] rfl rfl (fun jj u hu => by rw [addr_add, Nat.zero_add]; exact ((Blok.made wo _ [.string ⟨(d.labels[k] ++ [58]).toArray⟩]).at_ jj).trans hu) (fun u hu => by simp at hu; subst hu; rfl) (by decide) (by unfold maxLen; omega) (by omega) (by simp; omega) _ rfl ?_; intro g2 cap w2 hown hgrow hat hlt2)
      go_roundw
      case rel =>
        refine ⟨k + 1, some ⟨g2, 0, none⟩, cap, by omega, by go_num, rfl, blok_grown hX hown0 (by omega) hgrow, by rw [HST.out, sv_snoc]; exact hown, (hbel.alloc hbel.size _).grown hgrow (by have := hbel.size; simp; omega) (fun q hq => by have := (hown0.lt q hq).1; omega)⟩
      case measure => simp [intOf]; omega
    · have hlab : (labsT d).take k = labsT d := List.take_of_length_le (by simp [labsT]; omega)
      have hkl : k = d.labels.length := by omega
      rw [hlab] at hown0
      have x1 : wo.cell? ⟨w.heap.size, 1, none⟩ = some (.string ⟨d.word.toArray⟩) := hX.at_ 1
      have x2 : wo.cell? ⟨w.heap.size, 2, none⟩ = some (.slice A2 d.args.length C2) := hX.at_ 2
      have x0 : wo.cell? ⟨w.heap.size, 0, none⟩ = some (.slice A0 d.labels.length C0) := hX.at_ 0
      have hjoin := fun (v : Value) (B : Nat) (w' : World) => join_any v (itemsB d) B w'
      clear hlab HA0 hlt
      subst hkl
      by_cases hw0 : d.word = []
      · have he : d.word.isEmpty = true := by rw [hw0]; rfl
        have hit : itemsB d = labsT d ++ d.args := by unfold itemsB wordI; rw [if_pos hw0, List.append_nil]
        have HIT := Lib.hid hit
        clear hit hw0
        go_wp2_with (first
          | (refine wpList_append_src rfl (.tmp 27) (.tmp 29) _ rfl (w.heap.size + 1) 9 j0 _ 1 16 Tryd.underlying41 hj hy0 hy1 hy2 rfl (by decide) (.slice P d.labels.length K) d.labels.length (sv (labsT d)) rfl hown0 A2 d.args.length C2 (sv d.args) rfl (hS2.out _ hbel) (by unfold maxLen; omega) (by omega) (by omega) ?_; intro v5 w5 hown5 hgrow5; obtain ⟨P5, K5, rfl⟩ := row_slice hown5; have hrow5 : w5.ownsRow (w.heap.size + 1) 9 1 (.slice P5 (d.labels.length + d.args.length) K5) (itemsB d).length (sv (itemsB d)) := (by rw [HIT.out]; simpa [sv, labsT] using hown5))
          | (go_at_call 56; refine (hjoin _ _ _ hrow5 (by have := HIL.out; omega) (by have := HSB.out; omega)).mono ?_; rintro e w6 ⟨rfl, hb6⟩))
        have B5 := hbel.grown hgrow5 (by omega) (fun q hq => by have := (hown0.lt q hq).1; omega)
        go_ret
        exact ⟨by show Ending.returned (.string ⟨(List.tail (sp (itemsB d))).toArray⟩) = _; unfold textB; rw [List.drop_one], B5.trans (hb6.mono B5.size)⟩
      · have he : d.word.isEmpty = false := by simp [hw0]
        have hit : itemsB d = labsT d ++ [d.word] ++ d.args := by unfold itemsB wordI; rw [if_neg hw0]
        have HIL2 : Hid ((itemsB d).length = d.labels.length + 1 + d.args.length) := by
          show (itemsB d).length = _
          rw [hit]
          simp [labsT]
          omega
        have HSV : Hid (sv (itemsB d) = sv (labsT d) ++ [.string ⟨d.word.toArray⟩] ++ sv d.args) := by
          show sv (itemsB d) = _
          rw [hit]
          simp only [sv, List.map_append, List.map_cons, List.map_nil]
        clear hit hw0
        go_wp2_with (first
          | (refine wpList_append_lies _ rfl (.tmp 22) (.tmp 25) _ rfl (w.heap.size + 1) 9 j0 _ 1 16 Tryd.underlying41 hj hy0 hy1 hy2 rfl (by decide) (.slice P d.labels.length K) d.labels.length (sv (labsT d)) rfl (hown0.alloc _) ⟨wo.heap.size, 0, none⟩ 1 1 [.string ⟨d.word.toArray⟩] rfl rfl (fun jj u hu => by rw [addr_add, Nat.zero_add]; exact ((Blok.made wo _ [.string ⟨d.word.toArray⟩]).at_ jj).trans hu) (fun u hu => by simp at hu; subst hu; rfl) (by decide) (by unfold maxLen; omega) (by omega) (by simp; omega) _ rfl ?_; intro g4 cap4 w4 hown4 hgrow4 hat4 hlt4; have hX4 := blok_grown hX hown0 (by omega) hgrow4; have z2 : w4.cell? ⟨w.heap.size, 2, none⟩ = some (.slice A2 d.args.length C2) := hX4.at_ 2; have B4 := Lib.hid ((hbel.alloc hbel.size _).grown hgrow4 (by have := hbel.size; simp; omega) (fun q hq => by have := (hown0.lt q hq).1; omega)))
          | (refine wpList_append_src rfl (.tmp 27) (.tmp 29) _ rfl (w.heap.size + 1) 9 j0 _ 1 16 Tryd.underlying41 hj hy0 hy1 hy2 rfl (by decide) (.slice (some ⟨g4, 0, none⟩) (d.labels.length + 1) cap4) (d.labels.length + 1) (sv (labsT d) ++ [.string ⟨d.word.toArray⟩]) rfl hown4 A2 d.args.length C2 (sv d.args) rfl (hS2.out _ B4.out) (by unfold maxLen; omega) (by omega) (by have := hX4.lt; omega) ?_; intro v5 w5 hown5 hgrow5; obtain ⟨P5, K5, rfl⟩ := row_slice hown5; have hrow5 : w5.ownsRow (w.heap.size + 1) 9 1 (.slice P5 (d.labels.length + 1 + d.args.length) K5) (itemsB d).length (sv (itemsB d)) := (by rw [HIL2.out, HSV.out]; exact hown5))
          | (go_at_call 56; refine (hjoin _ _ _ hrow5 (by have := HIL.out; omega) (by have := HSB.out; omega)).mono ?_; rintro e w6 ⟨rfl, hb6⟩))
        have B5 := B4.out.grown hgrow5 (by have := B4.out.size; omega) (fun q hq => by have := (hown4.lt q hq).1; omega)
        go_ret
        exact ⟨by show Ending.returned (.string ⟨(List.tail (sp (itemsB d))).toArray⟩) = _; unfold textB; rw [List.drop_one], B5.trans (hb6.mono B5.size)⟩
end
end Go.Proofs.YtdcpkeagkfchoaaDoor
