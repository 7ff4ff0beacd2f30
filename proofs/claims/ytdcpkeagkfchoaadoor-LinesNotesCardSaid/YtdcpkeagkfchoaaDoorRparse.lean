/- The document's Parse. -/
import Derived.Test.YtdcpkeagkfchoaaDoorParse
import Derived.Test.YtdcpkeagkfchoaaDoorRline
import Derived.Test.YtdcpkeagkfchoaaDoorRwords
namespace Go.Proofs.YtdcpkeagkfchoaaDoor
open Go.RowKit T6
set_option linter.unusedVariables false
theorem info_rl : (Tryd.prog.info? 45).map (fun i => (i.zero, i.size, i.bytes)) = some (some (.agg #[.slice none 0 0, .string ⟨#[]⟩, .slice none 0 0]), 3, 64) := by kernel_rfl
theorem toksF_wlen (k : Nat) : ∀ s, ∀ p ∈ toksF k s, p.1.length ≤ s.length := by
  induction k with
  | zero => intro s p hp; simp [toksF] at hp
  | succ k ih =>
    intro s p hp
    rw [toksF] at hp
    have hl := trimB_le s
    split at hp
    · simp at hp
    · rename_i b t hbt
      rw [hbt] at hl
      split at hp
      · simp at hp
      · rcases List.mem_cons.1 hp with rfl | h
        · simp only [List.length_take]
          omega
        · have := ih _ p h
          rw [List.length_drop] at this
          omega
theorem wordsO_len {x : Str} {ws : List Str} (h : wordsO x = some ws) : ws.length ≤ x.length ∧ ∀ u ∈ ws, u.length ≤ x.length := by
  unfold wordsO at h
  split at h
  · injection h with h
    subst h
    refine ⟨by rw [List.length_map]; exact toks_len x, fun u hu => ?_⟩
    obtain ⟨p, hp, rfl⟩ := List.mem_map.1 hu
    exact toksF_wlen _ x p hp
  · cases h
theorem errOf_some {x : Str} {ws : List Str} (hx : x.length ≤ 256) (h : wordsO x = some ws) : errOf x = 0 := by
  unfold errOf
  rw [if_neg (by omega), h]
  rfl
theorem errOf_none {x : Str} (hx : x.length ≤ 256) (h : wordsO x = none) : errOf x = 40 := by
  unfold errOf
  rw [if_neg (by omega), h]
  rfl
/-- What the document's Parse keeps of the lines that it has read. -/
def LinesOwnR (B : Nat) (w : World) (v : Value) (ds : List LineD) : Prop := ∃ cs, w.ownsRow B 45 3 v ds.length cs ∧ LinesV w cs ds
theorem LinesOwnR.below {B : Nat} {w w' : World} {v : Value} {ds : List LineD} (h : LinesOwnR B w v ds) (hb : Below w.heap.size w w') : LinesOwnR B w' v ds := by
  obtain ⟨cs, h1, h2⟩ := h
  exact ⟨cs, row_ne h1 (only_below hb none) (fun r e => by cases e), h2.below hb⟩
theorem LinesOwnR.at_ {B : Nat} {w : World} {v : Value} {ds : List LineD} (h : LinesOwnR B w v ds) : LinesAt w v ds := by
  obtain ⟨cs, h1, h2⟩ := h
  obtain ⟨A, c, rfl⟩ := row_slice h1
  refine ⟨A, c, rfl, fun h0 => ?_⟩
  obtain ⟨g, rfl, _, _⟩ := row_at h1 h0
  refine ⟨g, 0, rfl, fun k d hk => ?_⟩
  obtain ⟨c0, c2, e0, e1, e2, r0, r2⟩ := h2.get k d hk
  have hc := h1.cells (g := g) rfl
  simp only [addr_add] at hc
  exact ⟨c0, c2, by simpa using hc _ _ e0, by simpa [Nat.add_assoc] using hc _ _ e1, by simpa [Nat.add_assoc] using hc _ _ e2, strs_of_row r0, strs_of_row r2⟩
/-- A line that has been read is appended. -/
theorem lineR_appended {w w6 : World} {b B0 B2 : Nat} {v v' : Value} {cs : List Value} {ds : List LineD} {d : LineD} {v0 v2 : Value} {tmp : Obj} (hrow : w.ownsRow b 45 3 v ds.length cs) (hlv : LinesV w cs ds)
    (h0 : w.ownsRow B0 9 1 v0 d.labels.length (sv d.labels)) (h2 : w.ownsRow B2 9 1 v2 d.args.length (sv d.args))
    (hown : w6.ownsRow b 45 3 v' (ds.length + 1) (cs ++ [v0, .string ⟨d.word.toArray⟩, v2])) (hgrow : (w.alloc tmp).grownBy w6 v.ownBlock) :
    LinesOwnR b w6 v' (ds ++ [d]) := by
  have hS : ∀ r, v.ownBlock = some r → ∀ cur, (w.alloc tmp).heap[r]? ≠ some (.cells cur 9 (0, 0)) := row_type (hrow.alloc tmp) (by decide)
  have k0 := row_ne (h0.alloc tmp) hgrow hS
  have k2 := row_ne (h2.alloc tmp) hgrow hS
  have kl := (hlv.below ((Below.refl _ w).alloc (Nat.le_refl _) tmp)).kept hgrow hS
  exact ⟨cs ++ [v0, .string ⟨d.word.toArray⟩, v2], by rw [List.length_append]; exact hown, kl.snoc ⟨k0.mono (Nat.zero_le _), rfl, k2.mono (Nat.zero_le _)⟩⟩
theorem one_cells {w : World} {B B2 n m : Nat} {x0 x2 : Value} {xs ys : List Value} {l : Str} (h0 : w.ownsRow B 9 1 x0 n xs) (h2 : w.ownsRow B2 9 1 x2 m ys) : ∀ u ∈ ([x0, .string ⟨l.toArray⟩, x2] : List Value), u.oneCell' = true := by
  obtain ⟨A0, K0, rfl⟩ := row_slice h0
  obtain ⟨A2, K2, rfl⟩ := row_slice h2
  intro u hu
  simp only [List.mem_cons, List.not_mem_nil, or_false] at hu
  rcases hu with rfl | rfl | rfl <;> rfl
section
attribute [local go_sem] ext_to ext_from ext_all byte_at
set_option maxRecDepth 100000 in
set_option maxHeartbeats 4000000 in
theorem rparse_any (s : Str) (hs : s.length ≤ 1000000) (hN : (splitL s).length ≤ 32768) (w : World) :
    Calls Tryd.prog 10 #[.string ⟨s.toArray⟩] w (ParsedAs (parseL 0 [] (splitL s)).1 (parseL 0 [] (splitL s)).2.1 (parseL 0 [] (splitL s)).2.2 w) := by
  obtain ⟨i0, hi, hz0, hz1, hz2⟩ := info_parts info_rl
  have hsp := rsplit_any s hs
  obtain ⟨L, hL⟩ : ∃ L, splitL s = L := ⟨_, rfl⟩
  rw [hL] at hN hsp ⊢
  clear hL
  have hN2 : ((32768 : Int) < (L.length : Int)) = False := by simp; omega
  have HN := Lib.hid hN
  clear hN
  go_enter Tryd.func10, Tryd.ntmps10
  go_wp2_with (go_at_call 28; refine (hsp _).mono ?_; rintro e w1 ⟨v, rfl, ⟨A, c, rfl, hA⟩, hb1⟩)
  have HA := Lib.hid hA
  clear hA
  go_loopw [6, 7] (fun v i wr => ∃ (k : Nat) (A0 : Option Addr) (K0 : Nat), k ≤ L.length ∧ i = .int .i64 k ∧ v = .slice A0 k K0 ∧ LinesOwnR w1.heap.size wr (.slice A0 k K0) ((L.take k).map lineT) ∧ (∀ t ∈ L.take k, errOf t = 0) ∧ Below w1.heap.size w1 wr) (fun _ i _ => L.length - (intOf i).toNat)
  case atStart => exact ⟨0, none, 0, Nat.zero_le _, rfl, rfl, ⟨[], World.ownsRow_nil _ _ _ _, trivial⟩, by simp, Below.refl _ _⟩
  case round =>
    obtain ⟨k, A0, K0, hk, rfl, rfl, hown, hok, hbel⟩ := hrel
    obtain ⟨wo, rfl⟩ : ∃ wo : World, wo = wr := ⟨_, rfl⟩
    have HOK := Lib.hid hok
    clear hok
    by_cases hlt : k < L.length
    · obtain ⟨ab, ao, rfl, hc⟩ := HA.out (by omega)
      have q0 := hc k (L[k]) (List.getElem?_eq_getElem hlt)
      have q1 : wo.cell? ⟨ab, ao + k, none⟩ = some (.string ⟨(L[k]).toArray⟩) := (hbel.cell (block_lt_of_cell q0)).trans q0
      clear q0 hc HA
      have hsplit : L = L.take k ++ L[k] :: L.drop (k + 1) := by
        rw [← List.drop_eq_getElem_cons hlt, List.take_append_drop]
      obtain ⟨x, hx⟩ : ∃ x, L[k] = x := ⟨_, rfl⟩
      have hE := wordsO x
      have hbad : errOf x ≠ 0 → parseL 0 [] L = ([], k + 1, errOf x) := fun h => by
        rw [hx] at hsplit
        rw [hsplit, parseL_bad _ _ _ HOK.out h, List.length_take, Nat.min_eq_left hk, Nat.zero_add]
      have HB := Lib.hid hbad
      have HX := Lib.hid hx
      clear hsplit hbad
      have E1 : IntKind.i64.wrap ((k : Int) + 1) = ((k + 1 : Nat) : Int) := by rw [IntWalk.i64_in _ (by have := HN.out; omega)]; omega
      by_cases hlx : 256 < x.length
      · have hx2 : ((256 : Int) < ((L[k]'hlt).length : Int)) = True := by rw [hx]; simp; omega
        have HLX := Lib.hid hlx
        clear hlx hx hE
        go_wp2
        go_ret3
        have he := errOf_long HLX.out
        have hP := HB.out (by rw [he]; decide)
        rw [hP, he]
        exact ⟨_, rfl, LinesAt.nil _ _, hb1.trans (hbel.mono hb1.size)⟩
      · have hx2 : ((256 : Int) < ((L[k]'hlt).length : Int)) = False := by rw [hx]; simp; omega
        have HLX : Hid (x.length ≤ 256) := by show x.length ≤ 256; omega
        have hwd := rwords_any (L[k]'hlt) (by rw [hx]; have := HLX.out; omega)
        clear hlx hE
        cases hwo : wordsO x with
        | none =>
          have hwo2 := hwo
          rw [← hx] at hwo2
          unfold WordsTold at hwd
          rw [hwo2] at hwd
          have HWO := Lib.hid hwo
          clear hx hwo2 hwo
          go_wp2_with (go_at_call 29; refine (hwd _).mono ?_; rintro e w2 ⟨rfl, hb2⟩)
          go_ret3
          have he := errOf_none HLX.out HWO.out
          have hP := HB.out (by rw [he]; decide)
          rw [hP, he]
          exact ⟨_, rfl, LinesAt.nil _ _, hb1.trans ((hbel.trans (hb2.mono hbel.size)).mono hb1.size)⟩
        | some ws =>
          have hwo2 := hwo
          rw [← hx] at hwo2
          unfold WordsTold at hwd
          rw [hwo2] at hwd
          have hwl := wordsO_len hwo
          have h256 := HLX.out
          have hln := fun (v : Value) (B : Nat) => rline_any v B ws (by omega) (fun u hu => by have := hwl.2 u hu; omega)
          have he := Lib.hid (errOf_some h256 hwo)
          have hlT := Lib.hid (lineT_R x ws hwo)
          clear hx hwo2 hwo hwl h256
          go_wp2_with (first
            | (go_at_call 29; refine (hwd _).mono ?_; rintro e w2 ⟨⟨v2, B2, rfl, hrw⟩, hb2⟩)
            | (go_at_call 30; refine (hln _ _ _ hrw).mono ?_; rintro e w3 ⟨x0, x2, rfl, hr0, hr2, hb3⟩; have hOne : ∀ u ∈ ([x0, .string ⟨(lineR ws).word.toArray⟩, x2] : List Value), u.oneCell' = true := one_cells hr0 hr2; have hlo := (hown.below hb2).below hb3; obtain ⟨cs, hrow, hlv⟩ := hlo; rw [List.length_map, List.length_take, Nat.min_eq_left hk] at hrow)
            | (refine wpList_append_lies _ rfl (.tmp 41) (.tmp 44) _ rfl w1.heap.size 45 i0 _ 3 64 Tryd.underlying27 hi hz0 hz1 hz2 rfl (by decide) (.slice A0 k K0) k cs rfl (hrow.alloc _) ⟨w3.heap.size, 0, none⟩ 1 1 [x0, .string ⟨(lineR ws).word.toArray⟩, x2] rfl rfl (fun j u hu => by rw [addr_add, Nat.zero_add]; exact ((Blok.made w3 _ [x0, .string ⟨(lineR ws).word.toArray⟩, x2]).at_ j).trans hu) hOne (by decide) (by have := HN.out; unfold maxLen; omega) (by have := HN.out; omega) (by simp; have := hbel.size; have := hb2.size; have := hb3.size; omega) _ rfl ?_; intro g2 cap w4 hown4 hgrow hat hlt2))
          go_roundw
          case rel =>
            have hml : ((L.take k).map lineT).length = k := by simp; omega
            have happ := lineR_appended (ds := (L.take k).map lineT) (d := lineR ws) (by rw [hml]; exact hrow) hlv hr0 hr2 (by rw [hml]; exact hown4) hgrow
            have b3 := hbel.trans ((hb2.trans (hb3.mono hb2.size)).mono hbel.size)
            have hbs := b3.size
            refine ⟨k + 1, some ⟨g2, 0, none⟩, cap, by omega, by go_num, rfl, ?_, fun t ht => ?_, (b3.alloc hbs _).grown hgrow (by simp; omega) (fun q hq => (hrow.lt q hq).1)⟩
            · rw [List.take_succ_eq_append_getElem hlt, List.map_append, List.map_singleton, HX.out, hlT.out]
              exact happ
            · rw [List.take_succ_eq_append_getElem hlt] at ht
              rcases List.mem_append.1 ht with h | h
              · exact HOK.out t h
              · obtain rfl : t = L[k] := by simpa using h
                rw [HX.out]
                exact he.out
          case measure => simp [intOf]; omega
    · have hkl : k = L.length := by omega
      have HKL := Lib.hid hkl
      clear hkl
      go_wp2
      go_ret3
      have hat : LinesAt wo (.slice A0 k K0) (L.map lineT) := by
        have := hown.at_
        rwa [List.take_of_length_le (by have := HKL.out; omega)] at this
      have hP := parseL_ok L (fun t ht => HOK.out t (by rwa [List.take_of_length_le (by have := HKL.out; omega)])) 0 []
      rw [hP]
      exact ⟨_, rfl, by simpa using hat, hb1.trans (hbel.mono hb1.size)⟩
end
end Go.Proofs.YtdcpkeagkfchoaaDoor
