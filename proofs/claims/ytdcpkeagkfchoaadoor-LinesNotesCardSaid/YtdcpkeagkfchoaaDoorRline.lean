/- The document's answer: a line of words. -/
import Derived.Test.YtdcpkeagkfchoaaDoorParse
import Derived.Test.YtdcpkeagkfchoaaDoorRsplit
namespace Go.Proofs.YtdcpkeagkfchoaaDoor
open Go.RowKit T6
set_option linter.unusedVariables false
/-! ### The plain mathematics -/
def nLab (ws : List Str) : Nat := (ws.takeWhile labR).length
def lineR (ws : List Str) : LineD := ⟨(ws.take (nLab ws)).map List.dropLast, ws[nLab ws]?.getD [], ws.drop (nLab ws + 1)⟩
theorem addW_word (d : LineD) (hw : d.word ≠ []) : ∀ ws : List Str, ws.foldl addW d = { d with args := d.args ++ ws }
  | [] => by simp
  | x :: ws => by
    have e : addW d x = { d with args := d.args ++ [x] } := by unfold addW; rw [if_pos hw]
    rw [List.foldl_cons, e, addW_word _ (by exact hw) ws]
    simp
/-- What is read as a word: it is not empty, and where it begins with a quote it ends with one. -/
def okW (w : Str) : Prop := w ≠ [] ∧ (w[0]?.getD 0 = 34 → w.getLast? = some 34)
theorem lab_same (w : Str) (h : okW w) : isLab w = labR w := by
  obtain ⟨h0, h1⟩ := h
  unfold isLab labR
  rw [Bool.eq_iff_iff]
  have hlast : w.getLast? = w[w.length - 1]? := List.getLast?_eq_getElem?
  have hpos : 0 < w.length := List.length_pos_iff.2 h0
  have hl : w[w.length - 1]? = some (w[w.length - 1]'(by omega)) := List.getElem?_eq_getElem _
  rw [hlast, hl]
  rw [hlast, hl] at h1
  clear hlast hl
  simp only [Bool.and_eq_true, decide_eq_true_eq, beq_iff_eq, bne_iff_ne, Option.getD_some, Option.some.injEq] at *
  constructor
  · rintro ⟨a, b⟩
    refine ⟨⟨by omega, b⟩, fun e => ?_⟩
    have := h1 e
    rw [b] at this
    exact absurd this (by decide)
  · rintro ⟨⟨a, b⟩, c⟩
    exact ⟨by omega, b⟩
theorem lineOf_go (ls : List Str) : ∀ (ws : List Str), (∀ w ∈ ws, okW w) → ws.foldl addW ⟨ls, [], []⟩ = ⟨ls ++ (ws.take (nLab ws)).map List.dropLast, ws[nLab ws]?.getD [], ws.drop (nLab ws + 1)⟩
  | [], _ => by simp [nLab]
  | w :: ws, h => by
    have hw := lab_same w (h w (by simp))
    rw [List.foldl_cons]
    cases hl : labR w with
    | true =>
      have e : addW ⟨ls, [], []⟩ w = ⟨ls ++ [w.dropLast], [], []⟩ := by unfold addW; rw [if_neg (by simp), if_pos (by rw [hw, hl])]
      have hn : nLab (w :: ws) = nLab ws + 1 := by simp [nLab, hl]
      rw [e, lineOf_go (ls ++ [w.dropLast]) ws (fun x hx => h x (by simp [hx])), hn]
      simp
    | false =>
      have e : addW ⟨ls, [], []⟩ w = ⟨ls, w, []⟩ := by unfold addW; rw [if_neg (by simp), if_neg (by rw [hw, hl]; simp)]
      have hn : nLab (w :: ws) = 0 := by simp [nLab, hl]
      rw [e, addW_word ⟨ls, w, []⟩ (h w (by simp)).1 ws, hn]
      simp
theorem line_same (ws : List Str) (h : ∀ w ∈ ws, okW w) : lineOf ws = lineR ws := by
  unfold lineOf lineR
  rw [lineOf_go [] ws h]
  simp
theorem last_take (l : Str) (n : Nat) (h : n < l.length) : (l.take (n + 1)).getLast? = some l[n] := by
  have e : l.take (n + 1) = l.take n ++ [l[n]] := List.take_succ_eq_append_getElem h
  rw [e, List.getLast?_append]
  rfl
/-- The whole words of a line are so. -/
theorem toksF_ok (k : Nat) : ∀ s, ∀ p ∈ toksF k s, p.2 = true → okW p.1 := by
  induction k with
  | zero => intro s p hp; simp [toksF] at hp
  | succ k ih =>
    intro s p hp hw
    rw [toksF] at hp
    cases ht : trimB s with
    | nil => rw [ht] at hp; simp at hp
    | cons b t =>
      rw [ht] at hp
      have hb := trimB_head s ht
      simp only at hp
      split at hp
      · simp at hp
      · rcases List.mem_cons.1 hp with e | h
        · subst e
          have h1 := firstN_pos b t hb
          refine ⟨fun e => ?_, fun h0 => ?_⟩
          · have := congrArg List.length e
            simp only [List.length_take, List.length_cons, List.length_nil] at this
            omega
          · simp only at hw h0 ⊢
            have hb34 : b = 34 := by
              rw [List.getElem?_take, if_pos (by omega)] at h0
              simpa using h0
            subst hb34
            rw [firstN_cons, if_pos rfl] at hw ⊢
            by_cases hl : (upTo 34 t).length = t.length
            · rw [if_pos hl] at hw
              cases hw
            · rw [if_neg hl]
              have hle := upTo_le 34 t
              have hlt : (upTo 34 t).length < t.length := by omega
              simp only
              rw [last_take (34 :: t) ((upTo 34 t).length + 1) (by simp; omega)]
              congr 1
              rw [List.getElem_cons_succ]
              have := List.head?_dropWhile_not (fun c => c != 34) t
              have hd : t.dropWhile (fun c => c != 34) = t.drop (upTo 34 t).length := by
                have h3 := List.takeWhile_append_dropWhile (p := fun c => c != 34) (l := t)
                have h4 : t.takeWhile (fun c => c != 34) = upTo 34 t := rfl
                rw [h4] at h3
                have h5 : (upTo 34 t ++ t.dropWhile (fun c => c != 34)).drop (upTo 34 t).length = t.dropWhile (fun c => c != 34) := List.drop_left
                rw [h3] at h5
                exact h5.symm
              rw [hd, List.head?_drop, List.getElem?_eq_getElem hlt] at this
              simpa using this
        · exact ih _ p h hw
theorem toks_ok (s : Str) (p : Str × Bool) (hp : p ∈ toks s) (hw : p.2 = true) : okW p.1 := toksF_ok _ s p hp hw
theorem lineT_R (t : Str) (ws : List Str) (h : wordsO t = some ws) : lineT t = lineR ws := by
  unfold wordsO at h
  by_cases ha : (toks t).all (·.2) = true
  · rw [if_pos ha] at h
    injection h with h
    unfold lineT
    rw [h]
    refine line_same ws (fun w hw => ?_)
    rw [← h] at hw
    obtain ⟨p, hp, rfl⟩ := List.mem_map.1 hw
    exact toks_ok t p hp (List.all_eq_true.1 ha p hp)
  · rw [if_neg ha] at h
    cases h
/-! ### The walk -/
section
attribute [local go_sem] ext_to ext_from ext_all byte_at
/-- What line tells: a line's cells, its rows the call's own. -/
def LineTold (d : LineD) (w : World) (e : Ending) (w' : World) : Prop := ∃ v0 v2, e = .returned (.agg #[v0, .string ⟨d.word.toArray⟩, v2]) ∧ w'.ownsRow w.heap.size 9 1 v0 d.labels.length (sv d.labels) ∧ w'.ownsRow w.heap.size 9 1 v2 d.args.length (sv d.args) ∧ Below w.heap.size w w'
theorem nLab_all (ws : List Str) (k : Nat) (hk : k ≤ ws.length) (h : ∀ j (hj : j < k), labR (ws[j]'(by omega)) = true) (hs : k = ws.length ∨ ∃ h : k < ws.length, labR ws[k] = false) : nLab ws = k := by
  unfold nLab
  induction ws generalizing k with
  | nil => simp at hk; simp [hk]
  | cons x t ih =>
    cases k with
    | zero =>
      rcases hs with e | ⟨h0, e⟩
      · simp at e
      · have : labR x = false := e
        simp [this]
    | succ k =>
      have hx : labR x = true := h 0 (by omega)
      have := ih k (by simpa using hk) (fun j hj => by have := h (j + 1) (by omega); simpa using this) (by
        rcases hs with e | ⟨h0, e⟩
        · exact .inl (by simpa using e)
        · exact .inr ⟨by simpa using h0, by simpa using e⟩)
      simp [hx, this]
theorem info_r : (Tryd.prog.info? 45).map (·.size) = some 3 := by kernel_rfl
theorem sv_take (ws : List Str) (k : Nat) (hk : k < ws.length) : sv ((ws.take (k + 1)).map List.dropLast) = sv ((ws.take k).map List.dropLast) ++ [.string ⟨(ws[k].dropLast).toArray⟩] := by
  rw [List.take_succ_eq_append_getElem hk, List.map_append, List.map_singleton, sv_snoc]
set_option maxRecDepth 100000 in
set_option maxHeartbeats 4000000 in
theorem rline_any (v : Value) (B : Nat) (ws : List Str) (hl : ws.length ≤ 1000000) (hwl : ∀ x ∈ ws, x.length ≤ 1000000) (w : World) (hrow : w.ownsRow B 9 1 v ws.length (sv ws)) :
    Calls Tryd.prog 30 #[v] w (LineTold (lineR ws) w) := by
  obtain ⟨i0, hi, hz0, hz1, hz2⟩ := info_parts info_s
  have hat := strs_of_row hrow
  obtain ⟨A, c, rfl, hA⟩ := hat
  go_enter Tryd.func30, Tryd.ntmps30
  go_wp2
  have bR := (Blok.made w 45 [.slice none 0 0, .string ⟨#[]⟩, .slice none 0 0]).alloc (.cells #[.slice none 0 0, .string ⟨#[]⟩, .slice none 0 0] 45)
  have bX := Blok.made (w.alloc (.cells #[.slice none 0 0, .string ⟨#[]⟩, .slice none 0 0] 45)) 45 [.slice none 0 0, .string ⟨#[]⟩, .slice none 0 0]
  have hB0 : Below w.heap.size w ((w.alloc (.cells #[.slice none 0 0, .string ⟨#[]⟩, .slice none 0 0] 45)).alloc (.cells #[.slice none 0 0, .string ⟨#[]⟩, .slice none 0 0] 45)) := ((Below.refl _ w).alloc (Nat.le_refl _) _).alloc (by simp) _
  rw [World.size_alloc] at bX
  go_loopw [4] (fun i wr => ∃ (k : Nat) (A0 : Option Addr) (K0 : Nat), k ≤ ws.length ∧ i = .int .i64 k ∧ Blok wr w.heap.size 45 [.slice none 0 0, .string ⟨#[]⟩, .slice none 0 0] ∧ Blok wr (w.heap.size + 1) 45 [.slice A0 k K0, .string ⟨#[]⟩, .slice none 0 0] ∧ wr.ownsRow (w.heap.size + 2) 9 1 (.slice A0 k K0) k (sv ((ws.take k).map List.dropLast)) ∧ (∀ j (hj : j < k) (h2 : j < ws.length), labR (ws[j]'h2) = true) ∧ Below w.heap.size w wr) (fun i _ => ws.length - (intOf i).toNat)
  case atStart => exact ⟨0, none, 0, Nat.zero_le _, rfl, bR, bX, World.ownsRow_nil _ _ _ _, fun j hj => absurd hj (Nat.not_lt_zero _), hB0⟩
  case round =>
    obtain ⟨k, A0, K0, hk, rfl, hR, hX, hown0, hlab, hbel⟩ := hrel
    have HLAB := Lib.hid hlab
    clear hlab bR bX hB0
    have hlt2 := hX.lt
    by_cases hlt : k < ws.length
    · obtain ⟨ab, ao, rfl, hc⟩ := hA (by omega)
      have q0 := hc k (ws[k]) (List.getElem?_eq_getElem hlt)
      have q1 : wr.cell? ⟨ab, ao + k, none⟩ = some (.string ⟨(ws[k]).toArray⟩) := (hbel.cell (block_lt_of_cell q0)).trans q0
      have hwk := hwl _ (List.getElem_mem hlt)
      have hlb := label_any (ws[k])
      have HC := Lib.hid hc
      clear q0 hc
      have x0 : wr.cell? ⟨w.heap.size + 1, 0, none⟩ = some (.slice A0 k K0) := hX.at_ 0
      have x1 : wr.cell? ⟨w.heap.size + 1, 1, none⟩ = some (.string ⟨#[]⟩) := hX.at_ 1
      have x2 : wr.cell? ⟨w.heap.size + 1, 2, none⟩ = some (.slice none 0 0) := hX.at_ 2
      have y0 := hX.free 0
      have y1 := hX.free 1
      have y2 := hX.free 2
      cases hlk : labR (ws[k]'hlt) with
      | true =>
        have h2 : 2 ≤ (ws[k]'hlt).length := by
          unfold labR at hlk
          simp only [Bool.and_eq_true, decide_eq_true_eq] at hlk
          omega
        obtain ⟨m, hm⟩ : ∃ m, (ws[k]'hlt).length = m + 1 := ⟨(ws[k]'hlt).length - 1, by omega⟩
        have hdl : (ws[k]'hlt).take m = (ws[k]'hlt).dropLast := by rw [← take_last, show (ws[k]'hlt).length - 1 = m by omega]
        have HDL := Lib.hid hdl
        have E1 : IntKind.i64.wrap (((ws[k]'hlt).length : Int) - 1) = (m : Int) := by rw [IntWalk.i64_in _ (by omega)]; omega
        have E2 : (0 : Int) ≤ (m : Int) := by omega
        have E3 : (m : Int) ≤ ((ws[k]'hlt).length : Int) := by omega
        have hown2 := (hown0.alloc (.cells #[.string ⟨((ws[k]'hlt).take m).toArray⟩] 9)).drew
        have HNEW : Hid (∀ j u, ([.string ⟨((ws[k]'hlt).take m).toArray⟩] : List Value)[j]? = some u → ((wr.alloc (.cells #[.string ⟨((ws[k]'hlt).take m).toArray⟩] 9)).drew).cell? ((⟨wr.heap.size, 0, none⟩ : Addr).add j) = some u) := fun j u hj => by
          rw [addr_add, Nat.zero_add]
          exact ((Blok.made wr 9 [.string ⟨((ws[k]'hlt).take m).toArray⟩]).at_ j).trans hj
        clear hm hdl
        go_wp2_with (go_at_call 40; refine (hlb _ (by omega)).mono ?_; rintro e w' ⟨rfl, rfl⟩; rw [hlk])
        go_region_law (refine step_append_lies _ rfl (.tmp 18) (.tmp 30) _ rfl (w.heap.size + 2) 9 i0 _ 1 16 Tryd.underlying41 hi hz0 hz1 hz2 rfl (by decide) (.slice A0 k K0) k (sv ((ws.take k).map List.dropLast)) (by simp [Act.eval]) hown2 ⟨wr.heap.size, 0, none⟩ 1 1 [.string ⟨((ws[k]'hlt).take m).toArray⟩] (by simp [Act.eval]) rfl HNEW.out (by simp; rfl) (by decide) (by unfold maxLen; omega) (by omega) (by simp; omega) _ rfl ?_; intro g2 cap w2 hown hgrow hat hlt2; have hX2 := blok_grown hX.drew hown0.drew (show w.heap.size + 1 < w.heap.size + 2 by omega) hgrow; have z0 : w2.cell? ⟨w.heap.size + 1, 0, none⟩ = some (.slice A0 k K0) := hX2.at_ 0; have z1 := hX2.free 0)
        all_goals
          go_wp2
          have hR2 := blok_grown hR.drew hown0.drew (show w.heap.size < w.heap.size + 2 by omega) hgrow
          go_roundw
          case rel =>
            refine ⟨k + 1, some ⟨g2, 0, none⟩, cap, by omega, by go_num, hR2.far (by simp) _, by have := hX2.set_ 0 (.slice (some ⟨g2, 0, none⟩) (k + 1) cap); simpa using this, ?_, fun j hj h2 => ?_, ?_⟩
            · rw [sv_take ws k hlt, ← HDL.out]
              exact hown.kept (grown_set w2 (w.heap.size + 1) 0 _) (.inr (own_block_ge hown (by omega)))
            · by_cases e : j = k
              · subst e; exact hlk
              · exact HLAB.out j (by omega) h2
            · have h1 := ((hbel.drew).alloc hbel.size (.cells #[.string ⟨((ws[k]'hlt).take m).toArray⟩] 9)).grown hgrow (by have := hbel.size; simp; omega) (fun q hq => by have := (hown0.lt q hq).1; omega)
              exact h1.setCell (p := ⟨w.heap.size + 1, 0, none⟩) (by simp) _
          case measure => simp [intOf]; omega
      | false =>
        have hcap : ws.length ≤ c := by
          rcases hrow.2 with ⟨h, _⟩ | ⟨g, cap, cur, h, _, _, h2, _⟩
          · cases h
          · injection h with _ _ h3
            omega
        have hab : ab < w.heap.size := by
          have := block_lt_of_cell (HC.out k _ (List.getElem?_eq_getElem hlt))
          exact this
        obtain ⟨P, hP⟩ : ∃ P : Option Addr, (if c = k + 1 then some (⟨ab, ao, none⟩ : Addr) else some ⟨ab, ao + (k + 1), none⟩) = P := ⟨_, rfl⟩
        have f1 : (0 : Int) ≤ (k : Int) + 1 := by omega
        have f2 : (k : Int) + 1 ≤ (ws.length : Int) := by omega
        have hX1 := (hX.set_ 1 (.string ⟨(ws[k]'hlt).toArray⟩)).drew
        have hR1 := (hR.far (p := ⟨w.heap.size + 1, 1, none⟩) (by simp) (.string ⟨(ws[k]'hlt).toArray⟩)).drew
        simp only [List.set_cons_succ, List.set_cons_zero] at hX1
        have u0 : (wr.setCell ⟨w.heap.size + 1, 1, none⟩ (.string ⟨(ws[k]'hlt).toArray⟩)).drew.cell? ⟨w.heap.size + 1, 2, none⟩ = some (.slice none 0 0) := hX1.at_ 2
        have hrow1 : (wr.setCell ⟨w.heap.size + 1, 1, none⟩ (.string ⟨(ws[k]'hlt).toArray⟩)).drew.ownsRow (w.heap.size + 2) 9 1 (.slice A0 k K0) k (sv ((ws.take k).map List.dropLast)) := (hown0.kept (grown_set wr (w.heap.size + 1) 1 _) (.inr (own_block_ge hown0 (by omega)))).drew
        have hbel1 : Below w.heap.size w (wr.setCell ⟨w.heap.size + 1, 1, none⟩ (.string ⟨(ws[k]'hlt).toArray⟩)).drew := (hbel.setCell (p := ⟨w.heap.size + 1, 1, none⟩) (by simp) _).drew
        have hsrc : Src (wr.setCell ⟨w.heap.size + 1, 1, none⟩ (.string ⟨(ws[k]'hlt).toArray⟩)).drew P (ws.length - (k + 1)) 1 (sv (ws.drop (k + 1))) := by
          refine ⟨by rw [sv_length, List.length_drop]; omega, fun h0 => ⟨⟨ab, ao + (k + 1), none⟩, by rw [← hP, if_neg (by omega)], fun j u hu => ?_⟩, sv_one _⟩
          rw [addr_add]
          have hj : ∃ x, ws[k + 1 + j]? = some x ∧ u = .string ⟨x.toArray⟩ := by
            simp only [sv, List.getElem?_map, List.getElem?_drop, Option.map_eq_some_iff] at hu
            obtain ⟨x, hx, rfl⟩ := hu
            exact ⟨x, hx, rfl⟩
          obtain ⟨x, hx, rfl⟩ := hj
          have hq := HC.out (k + 1 + j) x hx
          have hq2 := (hbel1.cell (block_lt_of_cell hq)).trans hq
          rw [show ao + (k + 1) + j = ao + (k + 1 + j) by omega]
          exact hq2
        have HSRC := Lib.hid hsrc
        have HB1 := Lib.hid hbel1
        have hsz1 : w.heap.size + 1 < (wr.setCell ⟨w.heap.size + 1, 1, none⟩ (.string ⟨(ws[k]'hlt).toArray⟩)).drew.heap.size := hX1.lt
        have hnl := Lib.hid (nLab_all ws k hk (fun j hj => HLAB.out j hj (by omega)) (.inr ⟨hlt, hlk⟩))
        clear hsrc hbel1
        go_wp2_with (go_at_call 40; refine (hlb _ (by omega)).mono ?_; rintro e w' ⟨rfl, rfl⟩; rw [hlk])
        have E1 : IntKind.i64.wrap ((k : Int) + 1) = ((k + 1 : Nat) : Int) := by rw [IntWalk.i64_in _ (by omega)]; omega
        go_region_law (refine step_append_src rfl (.tmp 45) (.tmp 49) _ rfl (w.heap.size + 2) 9 i0 _ 1 16 Tryd.underlying41 hi hz0 hz1 hz2 rfl (by decide) (.slice none 0 0) 0 [] (by simp [Act.eval]) (World.ownsRow_nil _ _ _ _) P (ws.length - (k + 1)) (c - (k + 1)) (sv (ws.drop (k + 1))) (by simp [Act.eval]) HSRC.out (by unfold maxLen; omega) (by omega) (by omega) ?_; intro v' w2 hown hgrow; obtain ⟨R2, rc, rfl⟩ := row_slice hown; have hX2 := hX1.keep (hgrow.block _ hX1.lt (by simp [Value.ownBlock])); have z0 : w2.cell? ⟨w.heap.size + 1, 2, none⟩ = some (.slice none 0 0) := hX2.at_ 2; have z1 := hX2.free 2; have hR2 := hR1.keep (hgrow.block _ hR1.lt (by simp [Value.ownBlock])); have z2 : w2.cell? ⟨w.heap.size + 1, 0, none⟩ = some (.slice A0 k K0) := hX2.at_ 0; have z3 : w2.cell? ⟨w.heap.size + 1, 1, none⟩ = some (.string ⟨(ws[k]'hlt).toArray⟩) := hX2.at_ 1; have r0 : w2.cell? ⟨w.heap.size, 0, none⟩ = some (.slice none 0 0) := hR2.at_ 0; have r1 : w2.cell? ⟨w.heap.size, 1, none⟩ = some (.string ⟨#[]⟩) := hR2.at_ 1; have r2 : w2.cell? ⟨w.heap.size, 2, none⟩ = some (.slice none 0 0) := hR2.at_ 2; have s0 := hR2.free 0; have s1 := hR2.free 1; have s2 := hR2.free 2)
        all_goals
          go_wp2
          have hR3 := (((hR2.far (p := ⟨w.heap.size + 1, 2, none⟩) (by simp) (.slice R2 (ws.length - (k + 1)) rc)).set_ 0 (.slice A0 k K0)).set_ 1 (.string ⟨(ws[k]'hlt).toArray⟩)).set_ 2 (.slice R2 (ws.length - (k + 1)) rc)
          simp only [List.set_cons_succ, List.set_cons_zero] at hR3
          simp only [Nat.zero_add, List.nil_append] at hown
          have hL : lineR ws = ⟨(ws.take k).map List.dropLast, ws[k]'hlt, ws.drop (k + 1)⟩ := by
            unfold lineR
            rw [hnl.out]
            simp [List.getElem?_eq_getElem hlt]
          have o0 : w2.ownsRow (w.heap.size + 2) 9 1 (.slice A0 k K0) k (sv ((ws.take k).map List.dropLast)) := hrow1.kept hgrow (by cases A0 with | none => exact .inl rfl | some a => exact .inr (by simp [Value.ownBlock]))
          have o0' := (((o0.kept (grown_set w2 (w.heap.size + 1) 2 (.slice R2 (ws.length - (k + 1)) rc)) (.inr (own_block_ge o0 (by omega)))).kept (grown_set _ w.heap.size 0 (.slice A0 k K0)) (.inr (own_block_ge o0 (by omega)))).kept (grown_set _ w.heap.size 1 (.string ⟨(ws[k]'hlt).toArray⟩)) (.inr (own_block_ge o0 (by omega)))).kept (grown_set _ w.heap.size 2 (.slice R2 (ws.length - (k + 1)) rc)) (.inr (own_block_ge o0 (by omega)))
          have o2' := (((hown.kept (grown_set w2 (w.heap.size + 1) 2 (.slice R2 (ws.length - (k + 1)) rc)) (.inr (own_block_ge hown (by omega)))).kept (grown_set _ w.heap.size 0 (.slice A0 k K0)) (.inr (own_block_ge hown (by omega)))).kept (grown_set _ w.heap.size 1 (.string ⟨(ws[k]'hlt).toArray⟩)) (.inr (own_block_ge hown (by omega)))).kept (grown_set _ w.heap.size 2 (.slice R2 (ws.length - (k + 1)) rc)) (.inr (own_block_ge hown (by omega)))
          have B2 := HB1.out.grown hgrow (by omega) (fun q hq => by simp [Value.ownBlock] at hq)
          have B3 := (((B2.setCell (p := ⟨w.heap.size + 1, 2, none⟩) (by simp) (.slice R2 (ws.length - (k + 1)) rc)).setCell (p := ⟨w.heap.size, 0, none⟩) (by simp) (.slice A0 k K0)).setCell (p := ⟨w.heap.size, 1, none⟩) (by simp) (.string ⟨(ws[k]'hlt).toArray⟩)).setCell (p := ⟨w.heap.size, 2, none⟩) (by simp) (.slice R2 (ws.length - (k + 1)) rc)
          rw [hL]
          refine bodyPost_ret (results_cell_row rfl _ _ w.heap.size 45 #[.slice A0 k K0, .string ⟨(ws[k]'hlt).toArray⟩, .slice R2 (ws.length - (k + 1)) rc] (0, 0) _ rfl hR3 Tryd.underlying45 rfl info_r) rfl ⟨.slice A0 k K0, .slice R2 (ws.length - (k + 1)) rc, rfl, ?_, ?_, B3⟩
          · have e : ((ws.take k).map List.dropLast).length = k := by simp; omega
            show World.ownsRow _ w.heap.size 9 1 (.slice A0 k K0) ((ws.take k).map List.dropLast).length _
            rw [e]
            exact o0'.mono (by omega)
          · have e : (ws.drop (k + 1)).length = ws.length - (k + 1) := by simp
            show World.ownsRow _ w.heap.size 9 1 _ (ws.drop (k + 1)).length _
            rw [e]
            exact o2'.mono (by omega)
    · have hkl : k = ws.length := by omega
      have x0 : wr.cell? ⟨w.heap.size + 1, 0, none⟩ = some (.slice A0 k K0) := hX.at_ 0
      have x1 : wr.cell? ⟨w.heap.size + 1, 1, none⟩ = some (.string ⟨#[]⟩) := hX.at_ 1
      have x2 : wr.cell? ⟨w.heap.size + 1, 2, none⟩ = some (.slice none 0 0) := hX.at_ 2
      have r0 : wr.cell? ⟨w.heap.size, 0, none⟩ = some (.slice none 0 0) := hR.at_ 0
      have r1 : wr.cell? ⟨w.heap.size, 1, none⟩ = some (.string ⟨#[]⟩) := hR.at_ 1
      have r2 : wr.cell? ⟨w.heap.size, 2, none⟩ = some (.slice none 0 0) := hR.at_ 2
      have s0 := hR.free 0
      have s1 := hR.free 1
      have s2 := hR.free 2
      have E1 : ¬ ((k : Int) < (ws.length : Int)) := by omega
      have hnl := Lib.hid (nLab_all ws k hk (fun j hj => HLAB.out j hj (by omega)) (.inl hkl))
      have HKL := Lib.hid hkl
      clear hkl
      go_wp2
      have hR3 := ((hR.set_ 0 (.slice A0 k K0)).set_ 1 (.string ⟨#[]⟩)).set_ 2 (.slice none 0 0)
      simp only [List.set_cons_succ, List.set_cons_zero] at hR3
      have hL : lineR ws = ⟨(ws.take k).map List.dropLast, [], []⟩ := by
        unfold lineR
        rw [hnl.out]
        have := HKL.out
        simp [this]
      have o0' := ((hown0.kept (grown_set _ w.heap.size 0 (.slice A0 k K0)) (.inr (own_block_ge hown0 (by omega)))).kept (grown_set _ w.heap.size 1 (.string ⟨#[]⟩)) (.inr (own_block_ge hown0 (by omega)))).kept (grown_set _ w.heap.size 2 (.slice none 0 0)) (.inr (own_block_ge hown0 (by omega)))
      have B3 := ((hbel.setCell (p := ⟨w.heap.size, 0, none⟩) (by simp) (.slice A0 k K0)).setCell (p := ⟨w.heap.size, 1, none⟩) (by simp) (.string ⟨#[]⟩)).setCell (p := ⟨w.heap.size, 2, none⟩) (by simp) (.slice none 0 0)
      rw [hL]
      refine bodyPost_ret (results_cell_row rfl _ _ w.heap.size 45 #[.slice A0 k K0, .string ⟨#[]⟩, .slice none 0 0] (0, 0) _ rfl hR3 Tryd.underlying45 rfl info_r) rfl ⟨.slice A0 k K0, .slice none 0 0, rfl, ?_, World.ownsRow_nil _ _ _ _, B3⟩
      have e : ((ws.take k).map List.dropLast).length = k := by simp; omega
      show World.ownsRow _ w.heap.size 9 1 (.slice A0 k K0) ((ws.take k).map List.dropLast).length _
      rw [e]
      exact o0'.mono (by omega)
end
end Go.Proofs.YtdcpkeagkfchoaaDoor
