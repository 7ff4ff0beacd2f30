/- A line that is being read: where it lies, and add's contract. -/
import Derived.Test.YtdcpkeagkfchoaaDoorIter
import Derived.Deep.Onto
namespace Go.Proofs.YtdcpkeagkfchoaaDoor
open Go.RowKit Go.Shelf T6
set_option linter.unusedVariables false
def sv (l : List Str) : List Value := l.map fun s => .string ⟨s.toArray⟩
theorem sv_length (l : List Str) : (sv l).length = l.length := by simp [sv]
theorem sv_snoc (l : List Str) (x : Str) : sv (l ++ [x]) = sv l ++ [.string ⟨x.toArray⟩] := by simp [sv]
theorem sv_one (l : List Str) : ∀ v ∈ sv l, v.oneCell' = true := by
  intro v hv
  simp only [sv, List.mem_map] at hv
  obtain ⟨b, _, rfl⟩ := hv
  rfl
theorem info_s : (Tryd.prog.info? 9).map (fun i => (i.zero, i.size, i.bytes)) = some (some (.string ⟨#[]⟩), 1, 16) := by kernel_rfl
/-- Block L is a line of the program's that is being read: its labels, its word, its Args, in rows of its own. -/
def LineOwn (w : World) (L : Nat) (d : LineD) : Prop := ∃ v0 v2 B2, Blok w L 43 [v0, .string ⟨d.word.toArray⟩, v2] ∧ w.ownsRow (L + 1) 9 1 v0 d.labels.length (sv d.labels) ∧
  w.ownsRow B2 9 1 v2 d.args.length (sv d.args) ∧ L < B2 ∧ B2 ≤ w.heap.size ∧ (∀ k, v0.ownBlock = some k → k < B2) ∧ (d.word = [] → v2 = .slice none 0 0)
theorem row_below {w w' : World} {B : Nat} {e : TypeId} {size n : Nat} {v : Value} {xs : List Value} (h : w.ownsRow B e size v n xs) (hb : Below w.heap.size w w') : w'.ownsRow B e size v n xs := by
  refine h.kept (only_below hb none) ?_
  cases hv : v.ownBlock with
  | none => exact .inl rfl
  | some k => exact .inr (by simp)
theorem LineOwn.below {w w' : World} {L : Nat} {d : LineD} (h : LineOwn w L d) (hb : Below w.heap.size w w') : LineOwn w' L d := by
  obtain ⟨v0, v2, B2, hB, h0, h2, h3, h4, h5, h6⟩ := h
  exact ⟨v0, v2, B2, hB.below hb hB.lt, row_below h0 hb, row_below h2 hb, h3, Nat.le_trans h4 hb.size, h5, h6⟩
theorem LineOwn.lt {w : World} {L : Nat} {d : LineD} (h : LineOwn w L d) : L < w.heap.size := by
  obtain ⟨v0, v2, B2, hB, _⟩ := h
  exact hB.lt
theorem keeps_below {w w' : World} (hb : Below w.heap.size w w') : KeepsOthers w w' :=
  KeepsOthers.of_grownBy (only_below hb none) (fun j o e _ => by cases e)
theorem clone_any (s : Str) (hs : s.length ≤ 1000000000) (w : World) : Calls Tryd.prog 52 #[.string ⟨s.toArray⟩] w fun e w' => e = .returned (.string ⟨s.toArray⟩) ∧ Below w.heap.size w w' := by
  go_enter Tryd.func52, Tryd.ntmps52
  go_wp2_with (go_at_call 69; refine (Tryd.stringslite_Clone _ _ (show s.length ≤ _ by omega)).mono ?_; rintro e w1 ⟨rfl, hb1⟩)
  go_ret
  exact ⟨rfl, hb1⟩
/-- What add leaves. -/
def Added (L : Nat) (d : LineD) (w : World) (e : Ending) (w' : World) : Prop := (∃ v, e = .returned v) ∧ LineOwn w' L d ∧ Below L w w' ∧ KeepsOthers w w'
theorem own_block_ge {w : World} {B : Nat} {e : TypeId} {size n : Nat} {v : Value} {xs : List Value} (h : w.ownsRow B e size v n xs) {k : Nat} (hk : k < B) : v.ownBlock ≠ some k := fun e' => by
  have := (h.lt k e').1
  omega
theorem keeps_grown {w w' : World} {B : Nat} {e : TypeId} {size n : Nat} {v : Value} {xs : List Value} (h : w.ownsRow B e size v n xs) (hg : w.grownBy w' v.ownBlock) : KeepsOthers w w' :=
  KeepsOthers.of_grownBy hg (fun j o ej hj => by
    rcases h.2 with ⟨rfl, _⟩ | ⟨g, cap, cur, rfl, _, hgb, _⟩
    · simp [Value.ownBlock] at ej
    · obtain rfl : g = j := by simpa [Value.ownBlock] using ej
      rw [hgb] at hj
      cases hj
      rfl)
theorem blok_grown {w1 w2 : World} {L B2 n : Nat} {v2 : Value} {t e : TypeId} {cs xs : List Value} {size : Nat} {o : Obj} (hB : Blok w1 L t cs) (h2 : w1.ownsRow B2 e size v2 n xs) (h3 : L < B2) (hgrow : (w1.alloc o).grownBy w2 v2.ownBlock) : Blok w2 L t cs :=
  (hB.alloc o).keep (hgrow.block L (by have := hB.lt; simp; omega) (fun e => own_block_ge h2 h3 e.symm))
/-- Blocks of cells are never the line's own, where their type is another. -/
theorem args_end {w1 w2 : World} {L B2 : Nat} {v0 v2 v' : Value} {d : LineD} {x : Str} {o : Obj} (hB : Blok w1 L 43 [v0, .string ⟨d.word.toArray⟩, v2]) (h0 : w1.ownsRow (L + 1) 9 1 v0 d.labels.length (sv d.labels))
    (h2 : w1.ownsRow B2 9 1 v2 d.args.length (sv d.args)) (h3 : L < B2) (h4 : B2 ≤ w1.heap.size) (h5 : ∀ k, v0.ownBlock = some k → k < B2) (hw : d.word ≠ [])
    (hown : w2.ownsRow B2 9 1 v' (d.args.length + 1) (sv d.args ++ [.string ⟨x.toArray⟩])) (hgrow : (w1.alloc o).grownBy w2 v2.ownBlock) :
    LineOwn (w2.setCell ⟨L, 2, none⟩ v') L { d with args := d.args ++ [x] } ∧ Below L w1 (w2.setCell ⟨L, 2, none⟩ v') ∧ KeepsOthers w1 (w2.setCell ⟨L, 2, none⟩ v') := by
  have hL2 : v2.ownBlock ≠ some L := own_block_ge h2 h3
  have hLl := hB.lt
  have hB2 := blok_grown hB h2 h3 hgrow
  have hsz := hgrow.size
  have h0' : w2.ownsRow (L + 1) 9 1 v0 d.labels.length (sv d.labels) := (h0.alloc o).kept hgrow (by
    cases hv : v0.ownBlock with
    | none => exact .inl rfl
    | some k =>
      refine .inr fun e => ?_
      have := (h2.lt k e.symm).1
      have := h5 k hv
      omega)
  refine ⟨⟨v0, v', B2, by have := hB2.set_ 2 v'; simpa using this, h0'.kept (grown_set w2 L 2 v') (.inr (own_block_ge h0' (by omega))), ?_, h3, by simp [World.setCell] at hsz ⊢; omega, h5, fun e => absurd e hw⟩, ?_, ?_⟩
  · rw [sv_snoc, List.length_append]
    exact hown.kept (grown_set w2 L 2 v') (.inr (own_block_ge hown h3))
  · exact (((Below.refl L w1).alloc (by omega) o).grown hgrow (by simp; omega) (fun k e => by have := (h2.lt k e).1; omega)).setCell (p := ⟨L, 2, none⟩) (Nat.le_refl _) v'
  · exact ((KeepsOthers.alloc w1 o).trans (keeps_grown (h2.alloc o) hgrow)).trans (KeepsOthers.setCell _ _ _)
set_option maxRecDepth 100000 in
set_option maxHeartbeats 1000000 in
theorem add_args (L : Nat) (d : LineD) (x : Str) (hx : x.length ≤ 1000000) (hx0 : x ≠ []) (hn : d.args.length ≤ 1000000) (hw : d.word ≠ []) (w : World) (hL : LineOwn w L d) :
    Calls Tryd.prog 27 #[.pointer (some ⟨L, 0, none⟩), .string ⟨x.toArray⟩] w (Added L (addW d x) w) := by
  obtain ⟨i0, hi, hz0, hz1, hz2⟩ := info_parts info_s
  have hE : (⟨d.word.toArray⟩ : ByteArray).toList.isEmpty = false := by rw [str_empty]; simpa using hw
  have hE1 : d.word.isEmpty = false := by simpa using hw
  have hA : addW d x = { d with args := d.args ++ [x] } := by unfold addW; rw [if_pos hw]
  rw [hA]
  clear hA
  go_enter Tryd.func27, Tryd.ntmps27
  go_wp2_with (first
    | (go_at_call 52; refine (clone_any x (by omega) _).mono ?_; rintro e w1 ⟨rfl, hb1⟩; obtain ⟨v0, v2, B2, hB, h0, h2, h3, h4, h5, h6⟩ := hL.below hb1; obtain ⟨A2, K2, rfl⟩ := row_slice h2; have c0 : w1.cell? ⟨L, 0, none⟩ = some v0 := hB.at_ 0; have c1 : w1.cell? ⟨L, 1, none⟩ = some (.string ⟨d.word.toArray⟩) := hB.at_ 1; have c2 : w1.cell? ⟨L, 2, none⟩ = some (.slice A2 d.args.length K2) := hB.at_ 2; have f0 := hB.free 0; have f1 := hB.free 1; have f2 := hB.free 2; have hlt := hB.lt)
    | (refine wpList_append_lies _ rfl (.tmp 20) (.tmp 22) _ rfl B2 9 i0 _ 1 16 Tryd.underlying41 hi hz0 hz1 hz2 rfl (by decide) (.slice A2 d.args.length K2) d.args.length (sv d.args) rfl (h2.alloc _) ⟨w1.heap.size, 0, none⟩ 1 1 [.string ⟨x.toArray⟩] rfl rfl (fun j u hu => by rw [addr_add, Nat.zero_add]; exact (Blok.made w1 _ [.string ⟨x.toArray⟩]).at_ j ▸ hu) (fun u hu => by simp at hu; subst hu; rfl) (by decide) (by unfold maxLen; omega) (by omega) (by simp; omega) _ rfl ?_; intro g2 cap w2 hown hgrow hat hlt2; have hB2 := blok_grown hB h2 h3 hgrow; have q2 : w2.cell? ⟨L, 2, none⟩ = some (.slice A2 d.args.length K2) := hB2.at_ 2; have p2 := hB2.free 2))
  go_end0
  obtain ⟨r1, r2, r3⟩ := args_end hB h0 h2 h3 h4 h5 hw hown hgrow
  exact ⟨⟨_, rfl⟩, r1, (hb1.mono (Nat.le_of_lt (Nat.lt_of_lt_of_le hL.lt (Nat.le_refl _)))).trans r2, (keeps_below hb1).trans r3⟩
theorem labels_end {w1 w2 : World} {L B2 : Nat} {v0 v' : Value} {d : LineD} {y : Str} {o : Obj} (hB : Blok w1 L 43 [v0, .string ⟨d.word.toArray⟩, .slice none 0 0]) (h0 : w1.ownsRow (L + 1) 9 1 v0 d.labels.length (sv d.labels))
    (h2 : w1.ownsRow B2 9 1 (.slice none 0 0) d.args.length (sv d.args))
    (hown : w2.ownsRow (L + 1) 9 1 v' (d.labels.length + 1) (sv d.labels ++ [.string ⟨y.toArray⟩])) (hgrow : (w1.alloc o).grownBy w2 v0.ownBlock) :
    LineOwn (w2.setCell ⟨L, 0, none⟩ v') L { d with labels := d.labels ++ [y] } ∧ Below L w1 (w2.setCell ⟨L, 0, none⟩ v') ∧ KeepsOthers w1 (w2.setCell ⟨L, 0, none⟩ v') := by
  have hLl := hB.lt
  have hB2 := blok_grown hB h0 (Nat.lt_succ_self L) hgrow
  have hsz := hgrow.size
  have hargs : d.args = [] := by
    have hl := h2.1
    rcases h2.2 with ⟨_, h⟩ | ⟨g, cap, cur, e, _⟩
    · exact List.eq_nil_of_length_eq_zero h
    · cases e
  refine ⟨⟨v', .slice none 0 0, w2.heap.size, by have := hB2.set_ 0 v'; simpa using this, ?_, by rw [show ({ d with labels := d.labels ++ [y] } : LineD).args = [] from hargs]; exact World.ownsRow_nil _ _ _ _, ?_, by simp [World.setCell], fun k hk => (hown.lt k hk).2, fun _ => rfl⟩, ?_, ?_⟩
  · rw [sv_snoc, List.length_append]
    exact hown.kept (grown_set w2 L 0 v') (.inr (own_block_ge hown (Nat.lt_succ_self L)))
  · simp at hsz
    omega
  · exact (((Below.refl L w1).alloc (by omega) o).grown hgrow (by simp; omega) (fun k e => by have := (h0.lt k e).1; omega)).setCell (p := ⟨L, 0, none⟩) (Nat.le_refl _) v'
  · exact ((KeepsOthers.alloc w1 o).trans (keeps_grown (h0.alloc o) hgrow)).trans (KeepsOthers.setCell _ _ _)
theorem word_end {w1 : World} {L B2 : Nat} {v0 v2 : Value} {d : LineD} {x : Str} (hB : Blok w1 L 43 [v0, .string ⟨d.word.toArray⟩, v2]) (h0 : w1.ownsRow (L + 1) 9 1 v0 d.labels.length (sv d.labels))
    (h2 : w1.ownsRow B2 9 1 v2 d.args.length (sv d.args)) (h3 : L < B2) (h4 : B2 ≤ w1.heap.size) (h5 : ∀ k, v0.ownBlock = some k → k < B2) (hx : x ≠ []) :
    LineOwn (w1.setCell ⟨L, 1, none⟩ (.string ⟨x.toArray⟩)) L { d with word := x } ∧ Below L w1 (w1.setCell ⟨L, 1, none⟩ (.string ⟨x.toArray⟩)) ∧ KeepsOthers w1 (w1.setCell ⟨L, 1, none⟩ (.string ⟨x.toArray⟩)) :=
  ⟨⟨v0, v2, B2, by have := hB.set_ 1 (.string ⟨x.toArray⟩); simpa using this, h0.kept (grown_set w1 L 1 _) (.inr (own_block_ge h0 (Nat.lt_succ_self L))), h2.kept (grown_set w1 L 1 _) (.inr (own_block_ge h2 h3)), h3, by simpa [World.setCell] using h4, h5, fun e => absurd e hx⟩,
    (Below.refl L w1).setCell (p := ⟨L, 1, none⟩) (Nat.le_refl _) _, KeepsOthers.setCell _ _ _⟩
section
attribute [local go_sem] ext_to ext_from
theorem take_last (x : Str) : x.take (x.length - 1) = x.dropLast := by rw [List.dropLast_eq_take]
set_option maxRecDepth 100000 in
set_option maxHeartbeats 1000000 in
theorem add_label (L : Nat) (d : LineD) (x : Str) (hx : x.length ≤ 1000000) (hx0 : 0 < x.length) (hn : d.labels.length ≤ 1000000) (hw : d.word = []) (hlab : isLab x = true) (w : World) (hL : LineOwn w L d) :
    Calls Tryd.prog 27 #[.pointer (some ⟨L, 0, none⟩), .string ⟨x.toArray⟩] w (Added L (addW d x) w) := by
  obtain ⟨i0, hi, hz0, hz1, hz2⟩ := info_parts info_s
  obtain ⟨m, hm⟩ : ∃ m, x.length = m + 1 := ⟨x.length - 1, by omega⟩
  have hA : addW d x = { d with labels := d.labels ++ [x.take m] } := by unfold addW; rw [if_neg (by simp [hw]), if_pos hlab, ← take_last, show x.length - 1 = m by omega]
  rw [hA]
  clear hA
  obtain ⟨labels, word, args⟩ := d
  simp only at hw hn
  subst hw
  go_enter Tryd.func27, Tryd.ntmps27
  go_wp2_with (first
    | (go_at_call 52; refine (clone_any x (by omega) _).mono ?_; rintro e w1 ⟨rfl, hb1⟩; obtain ⟨v0, v2, B2, hB, h0, h2, h3, h4, h5, h6⟩ := hL.below hb1; obtain rfl := h6 rfl; obtain ⟨A0, K0, rfl⟩ := row_slice h0; have c0 : w1.cell? ⟨L, 0, none⟩ = some (.slice A0 labels.length K0) := hB.at_ 0; have c1 : w1.cell? ⟨L, 1, none⟩ = some (.string ⟨#[]⟩) := hB.at_ 1; have f0 := hB.free 0; have f1 := hB.free 1; have hlt := hB.lt)
    | (go_at_call 38; refine (islab_any x _ (by omega)).mono ?_; rintro e w' ⟨rfl, rfl⟩; rw [hlab]))
  have hown2 := (h0.alloc (.cells #[.string ⟨(x.take m).toArray⟩] 9)).drew
  have HNEW : Hid (∀ j u, ([.string ⟨(x.take m).toArray⟩] : List Value)[j]? = some u → ((w1.alloc (.cells #[.string ⟨(x.take m).toArray⟩] 9)).drew).cell? ((⟨w1.heap.size, 0, none⟩ : Addr).add j) = some u) := fun j u hj => by
    rw [addr_add, Nat.zero_add]
    exact ((Blok.made w1 9 [.string ⟨(x.take m).toArray⟩]).at_ j).trans hj
  have E1 : IntKind.i64.wrap ((x.length : Int) - 1) = (m : Int) := by rw [IntWalk.i64_in _ (by omega)]; omega
  have E2 : (0 : Int) ≤ (m : Int) := by omega
  have E3 : (m : Int) ≤ (x.length : Int) := by omega
  clear hm
  go_region_law (refine step_append_lies _ rfl (.tmp 33) (.tmp 39) _ rfl (L + 1) 9 i0 _ 1 16 Tryd.underlying41 hi hz0 hz1 hz2 rfl (by decide) (.slice A0 labels.length K0) labels.length (sv labels) (by simp [Act.eval]) hown2 ⟨w1.heap.size, 0, none⟩ 1 1 [.string ⟨(x.take m).toArray⟩] (by simp [Act.eval]) rfl HNEW.out (by simp; rfl) (by decide) (by unfold maxLen; omega) (by omega) (by simp; omega) _ rfl ?_; intro g2 cap w2 hown hgrow hat hlt2; have hB2 := blok_grown hB.drew h0.drew (Nat.lt_succ_self L) hgrow; have q2 : w2.cell? ⟨L, 0, none⟩ = some (.slice A0 labels.length K0) := hB2.at_ 0; have p2 := hB2.free 0)
  all_goals
    go_wp2
    go_end0
    obtain ⟨r1, r2, r3⟩ := labels_end (w1 := w1.drew) (d := ⟨labels, [], args⟩) (y := x.take m) (o := .cells #[.string ⟨(x.take m).toArray⟩] 9) hB.drew h0.drew h2.drew hown ⟨hgrow.os, hgrow.tape, hgrow.output, hgrow.size, hgrow.block⟩
    exact ⟨⟨_, rfl⟩, r1, (hb1.mono (Nat.le_of_lt hL.lt)).trans ⟨r2.os, r2.tape, r2.output, r2.size, r2.block⟩, (keeps_below hb1).trans ⟨r3.size, r3.same⟩⟩
set_option maxRecDepth 100000 in
set_option maxHeartbeats 1000000 in
theorem add_word (L : Nat) (d : LineD) (x : Str) (hx : x.length ≤ 1000000) (hx0 : x ≠ []) (hw : d.word = []) (hlab : isLab x = false) (w : World) (hL : LineOwn w L d) :
    Calls Tryd.prog 27 #[.pointer (some ⟨L, 0, none⟩), .string ⟨x.toArray⟩] w (Added L (addW d x) w) := by
  have hA : addW d x = { d with word := x } := by unfold addW; rw [if_neg (by simp [hw]), if_neg (by simp [hlab])]
  rw [hA]
  clear hA
  obtain ⟨labels, word, args⟩ := d
  simp only at hw
  subst hw
  go_enter Tryd.func27, Tryd.ntmps27
  go_wp2_with (first
    | (go_at_call 52; refine (clone_any x (by omega) _).mono ?_; rintro e w1 ⟨rfl, hb1⟩; obtain ⟨v0, v2, B2, hB, h0, h2, h3, h4, h5, h6⟩ := hL.below hb1; have c1 : w1.cell? ⟨L, 1, none⟩ = some (.string ⟨#[]⟩) := hB.at_ 1; have f1 := hB.free 1; have hlt := hB.lt)
    | (go_at_call 38; refine (islab_any x _ (by omega)).mono ?_; rintro e w' ⟨rfl, rfl⟩; rw [hlab]))
  go_end0
  obtain ⟨r1, r2, r3⟩ := word_end (d := ⟨labels, [], args⟩) hB h0 h2 h3 h4 h5 hx0
  exact ⟨⟨_, rfl⟩, r1, (hb1.mono (Nat.le_of_lt hL.lt)).trans r2, (keeps_below hb1).trans r3⟩
/-- add: every word that is not empty. -/
theorem add_any (L : Nat) (d : LineD) (x : Str) (hx : x.length ≤ 1000000) (hx0 : x ≠ []) (hl : d.labels.length ≤ 1000000) (hn : d.args.length ≤ 1000000) (w : World) (hL : LineOwn w L d) :
    Calls Tryd.prog 27 #[.pointer (some ⟨L, 0, none⟩), .string ⟨x.toArray⟩] w (Added L (addW d x) w) := by
  by_cases hw : d.word = []
  · cases hlab : isLab x with
    | true => exact add_label L d x hx (by cases x with | nil => exact absurd rfl hx0 | cons _ _ => simp) hl hw hlab w hL
    | false => exact add_word L d x hx hx0 hw hlab w hL
  · exact add_args L d x hx hx0 hn hw w hL
end
end Go.Proofs.YtdcpkeagkfchoaaDoor
