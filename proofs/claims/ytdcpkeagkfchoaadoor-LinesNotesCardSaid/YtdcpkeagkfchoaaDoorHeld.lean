/- Lines in memory: rows of a call's own, and what is read of them. -/
import Derived.Test.YtdcpkeagkfchoaaDoorMany
namespace Go.Proofs.YtdcpkeagkfchoaaDoor
open Go.RowKit Go.Shelf T6
set_option linter.unusedVariables false
theorem info_l : (Tryd.prog.info? 43).map (fun i => (i.zero, i.size, i.bytes)) = some (some (.agg #[.slice none 0 0, .string ⟨#[]⟩, .slice none 0 0]), 3, 64) := by kernel_rfl
/-- What is read of a slice of texts. -/
def StrsAt (w : World) (v : Value) (xs : List Str) : Prop := ∃ A c, v = .slice A xs.length c ∧ (0 < xs.length → ∃ b o, A = some ⟨b, o, none⟩ ∧ ∀ j x, xs[j]? = some x → w.cell? ⟨b, o + j, none⟩ = some (.string ⟨x.toArray⟩))
/-- What is read of a slice of lines. -/
def LinesAt (w : World) (v : Value) (ds : List LineD) : Prop := ∃ A c, v = .slice A ds.length c ∧ (0 < ds.length → ∃ b o, A = some ⟨b, o, none⟩ ∧ ∀ k d, ds[k]? = some d →
  ∃ c0 c2, w.cell? ⟨b, o + k * 3, none⟩ = some c0 ∧ w.cell? ⟨b, o + k * 3 + 1, none⟩ = some (.string ⟨d.word.toArray⟩) ∧ w.cell? ⟨b, o + k * 3 + 2, none⟩ = some c2 ∧ StrsAt w c0 d.labels ∧ StrsAt w c2 d.args)
theorem cell_below {w w' : World} (hb : Below w.heap.size w w') {a : Addr} {u : Value} (h : w.cell? a = some u) : w'.cell? a = some u := (hb.cell (block_lt_of_cell h)).trans h
theorem StrsAt.below {w w' : World} {v : Value} {xs : List Str} (h : StrsAt w v xs) (hb : Below w.heap.size w w') : StrsAt w' v xs := by
  obtain ⟨A, c, e, hc⟩ := h
  refine ⟨A, c, e, fun h0 => ?_⟩
  obtain ⟨b, o, e2, hx⟩ := hc h0
  exact ⟨b, o, e2, fun j x hj => cell_below hb (hx j x hj)⟩
theorem LinesAt.below {w w' : World} {v : Value} {ds : List LineD} (h : LinesAt w v ds) (hb : Below w.heap.size w w') : LinesAt w' v ds := by
  obtain ⟨A, c, e, hc⟩ := h
  refine ⟨A, c, e, fun h0 => ?_⟩
  obtain ⟨b, o, e2, hx⟩ := hc h0
  refine ⟨b, o, e2, fun k d hk => ?_⟩
  obtain ⟨c0, c2, h1, h2, h3, h4, h5⟩ := hx k d hk
  exact ⟨c0, c2, cell_below hb h1, cell_below hb h2, cell_below hb h3, h4.below hb, h5.below hb⟩
theorem StrsAt.nil (w : World) (c : Nat) : StrsAt w (.slice none 0 c) [] := ⟨none, c, rfl, fun h => by simp at h⟩
theorem LinesAt.nil (w : World) (c : Nat) : LinesAt w (.slice none 0 c) [] := ⟨none, c, rfl, fun h => by simp at h⟩
theorem strs_of_row {w : World} {B : Nat} {v : Value} {xs : List Str} (h : w.ownsRow B 9 1 v xs.length (sv xs)) : StrsAt w v xs := by
  obtain ⟨A, c, rfl⟩ := row_slice h
  refine ⟨A, c, rfl, fun h0 => ?_⟩
  obtain ⟨g, rfl, _, _⟩ := row_at h h0
  refine ⟨g, 0, rfl, fun j x hj => ?_⟩
  have := h.cells (g := g) rfl j (.string ⟨x.toArray⟩) (by simp [sv, hj])
  rwa [addr_add] at this
/-! ### A row of lines of the call's own -/
def LineV (w : World) (d : LineD) (c0 c1 c2 : Value) : Prop := w.ownsRow 0 9 1 c0 d.labels.length (sv d.labels) ∧ c1 = .string ⟨d.word.toArray⟩ ∧ w.ownsRow 0 9 1 c2 d.args.length (sv d.args)
def LinesV (w : World) : List Value → List LineD → Prop
  | [], [] => True
  | c0 :: c1 :: c2 :: cs, d :: ds => LineV w d c0 c1 c2 ∧ LinesV w cs ds
  | _, _ => False
theorem LinesV.snoc {w : World} : ∀ {cs : List Value} {ds : List LineD} {d : LineD} {c0 c1 c2 : Value}, LinesV w cs ds → LineV w d c0 c1 c2 → LinesV w (cs ++ [c0, c1, c2]) (ds ++ [d])
  | [], [], _, _, _, _, _, h => ⟨h, trivial⟩
  | _ :: _ :: _ :: cs, _ :: ds, _, _, _, _, ⟨h1, h2⟩, h => ⟨h1, LinesV.snoc h2 h⟩
  | [], _ :: _, _, _, _, _, h, _ => by simp [LinesV] at h
  | [_], _, _, _, _, _, h, _ => by simp [LinesV] at h
  | [_, _], _, _, _, _, _, h, _ => by simp [LinesV] at h
  | _ :: _ :: _ :: _, [], _, _, _, _, h, _ => by simp [LinesV] at h
theorem LinesV.len {w : World} : ∀ {cs : List Value} {ds : List LineD}, LinesV w cs ds → cs.length = ds.length * 3
  | [], [], _ => rfl
  | _ :: _ :: _ :: cs, _ :: ds, ⟨_, h2⟩ => by
    have := LinesV.len h2
    simp only [List.length_cons]
    omega
  | [], _ :: _, h => by simp [LinesV] at h
  | [_], _, h => by simp [LinesV] at h
  | [_, _], _, h => by simp [LinesV] at h
  | _ :: _ :: _ :: _, [], h => by simp [LinesV] at h
theorem LinesV.get {w : World} : ∀ {cs : List Value} {ds : List LineD}, LinesV w cs ds → ∀ (k : Nat) (d : LineD), ds[k]? = some d → ∃ c0 c2, cs[k * 3]? = some c0 ∧ cs[k * 3 + 1]? = some (.string ⟨d.word.toArray⟩) ∧ cs[k * 3 + 2]? = some c2 ∧ w.ownsRow 0 9 1 c0 d.labels.length (sv d.labels) ∧ w.ownsRow 0 9 1 c2 d.args.length (sv d.args)
  | [], [], _, _, _, h => by simp at h
  | c0 :: c1 :: c2 :: cs, d0 :: ds, ⟨h1, h2⟩, 0, d, h => by
    obtain ⟨a, b, c⟩ := h1
    simp at h
    subst h
    subst b
    exact ⟨c0, c2, rfl, rfl, rfl, a, c⟩
  | c0 :: c1 :: c2 :: cs, d0 :: ds, ⟨_, h2⟩, k + 1, d, h => by
    obtain ⟨x0, x2, e0, e1, e2, r0, r2⟩ := LinesV.get h2 k d (by simpa using h)
    have e : (k + 1) * 3 = k * 3 + 3 := by omega
    refine ⟨x0, x2, ?_, ?_, ?_, r0, r2⟩
    · rw [e]; simpa using e0
    · rw [show (k + 1) * 3 + 1 = (k * 3 + 1) + 3 by omega]; simpa using e1
    · rw [show (k + 1) * 3 + 2 = (k * 3 + 2) + 3 by omega]; simpa using e2
  | [], _ :: _, h, _, _, _ => by simp [LinesV] at h
  | [_], _, h, _, _, _ => by simp [LinesV] at h
  | [_, _], _, h, _, _, _ => by simp [LinesV] at h
  | _ :: _ :: _ :: _, [], h, _, _, _ => by simp [LinesV] at h
theorem row_ne {w w' : World} {B : Nat} {e : TypeId} {size n : Nat} {v : Value} {xs : List Value} {row : Option Nat} (h : w.ownsRow B e size v n xs) (hg : w.grownBy w' row) (hr : ∀ r, row = some r → ∀ cur, w.heap[r]? ≠ some (.cells cur e (0, 0))) : w'.ownsRow B e size v n xs := by
  refine h.kept hg ?_
  rcases h.2 with ⟨rfl, _⟩ | ⟨g, cap, cur, rfl, _, hgb, _⟩
  · exact .inl rfl
  · refine .inr fun e' => ?_
    exact hr g (by simpa [Value.ownBlock] using e'.symm) cur hgb
theorem LinesV.kept {w w' : World} {row : Option Nat} (hg : w.grownBy w' row) (hr : ∀ r, row = some r → ∀ cur, w.heap[r]? ≠ some (.cells cur 9 (0, 0))) : ∀ {cs : List Value} {ds : List LineD}, LinesV w cs ds → LinesV w' cs ds
  | [], [], _ => trivial
  | _ :: _ :: _ :: cs, _ :: ds, ⟨⟨a, b, c⟩, h2⟩ => ⟨⟨row_ne a hg hr, b, row_ne c hg hr⟩, LinesV.kept hg hr h2⟩
  | [], _ :: _, h => by simp [LinesV] at h
  | [_], _, h => by simp [LinesV] at h
  | [_, _], _, h => by simp [LinesV] at h
  | _ :: _ :: _ :: _, [], h => by simp [LinesV] at h
theorem LinesV.below {w w' : World} (hb : Below w.heap.size w w') {cs : List Value} {ds : List LineD} (h : LinesV w cs ds) : LinesV w' cs ds := h.kept (only_below hb none) (fun r e => by cases e)
/-- What Parse keeps of the lines that it has read: a row of lines and the rows of their words. -/
def LinesOwn (B : Nat) (w : World) (v : Value) (ds : List LineD) : Prop := ∃ cs, w.ownsRow B 43 3 v ds.length cs ∧ LinesV w cs ds
theorem LinesOwn.kept {B : Nat} {w w' : World} {row : Option Nat} {v : Value} {ds : List LineD} (h : LinesOwn B w v ds) (hg : w.grownBy w' row) (hr : ∀ r, row = some r → ∀ cur, w.heap[r]? ≠ some (.cells cur 9 (0, 0)) ∧ w.heap[r]? ≠ some (.cells cur 43 (0, 0))) : LinesOwn B w' v ds := by
  obtain ⟨cs, h1, h2⟩ := h
  exact ⟨cs, row_ne h1 hg (fun r e cur => (hr r e cur).2), h2.kept hg (fun r e cur => (hr r e cur).1)⟩
theorem LinesOwn.below {B : Nat} {w w' : World} {v : Value} {ds : List LineD} (h : LinesOwn B w v ds) (hb : Below w.heap.size w w') : LinesOwn B w' v ds := h.kept (only_below hb none) (fun r e => by cases e)
theorem LinesOwn.at_ {B : Nat} {w : World} {v : Value} {ds : List LineD} (h : LinesOwn B w v ds) : LinesAt w v ds := by
  obtain ⟨cs, h1, h2⟩ := h
  obtain ⟨A, c, rfl⟩ := row_slice h1
  refine ⟨A, c, rfl, fun h0 => ?_⟩
  obtain ⟨g, rfl, _, _⟩ := row_at h1 h0
  refine ⟨g, 0, rfl, fun k d hk => ?_⟩
  obtain ⟨c0, c2, e0, e1, e2, r0, r2⟩ := h2.get k d hk
  have hc := h1.cells (g := g) rfl
  simp only [addr_add] at hc
  exact ⟨c0, c2, by simpa using hc _ _ e0, by simpa [Nat.add_assoc] using hc _ _ e1, by simpa [Nat.add_assoc] using hc _ _ e2, strs_of_row r0, strs_of_row r2⟩
end Go.Proofs.YtdcpkeagkfchoaaDoor
