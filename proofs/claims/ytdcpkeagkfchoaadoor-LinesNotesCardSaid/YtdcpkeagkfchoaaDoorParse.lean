/- Parse: the lines of every text of not too many lines, or its first line that is none. -/
import Derived.Test.YtdcpkeagkfchoaaDoorHeld
import Derived.Scope
namespace Go.Proofs.YtdcpkeagkfchoaaDoor
open Go.RowKit Go.Shelf T6
set_option linter.unusedVariables false
attribute [local go_sem] Oper.semAt_some
theorem wpIn_scope_wide {n : Nat} {P : Program} {c : Code} {Q : Exit → Act → World → Prop} {a : Act} {w : World} (h : c.wpIn Fence.wide n P (Exit.noGoto Q) a w) : (Code.scope c).wpIn Fence.wide n P Q a w :=
  wpIn_wide.2 (wp_scope_straight (wpIn_wide.1 h))
theorem ne_cells {w : World} {r : Nat} {o : Obj} (h : w.heap[r]? = some o) (ho : o.isCells = false) (cur : Array Value) (e : TypeId) : w.heap[r]? ≠ some (.cells cur e (0, 0)) := fun h' => by
  rw [h] at h'
  injection h' with h'
  subst h'
  cases ho
theorem LineOwn.kept {w w' : World} {row : Option Nat} {L : Nat} {d : LineD} (h : LineOwn w L d) (hg : w.grownBy w' row) (hr : ∀ r, row = some r → ∃ o : Obj, w.heap[r]? = some o ∧ o.isCells = false) : LineOwn w' L d := by
  obtain ⟨v0, v2, B2, hB, h0, h2, h3, h4, h5, h6⟩ := h
  have hn : ∀ r, row = some r → ∀ cur e, w.heap[r]? ≠ some (.cells cur e (0, 0)) := fun r e cur t => by
    obtain ⟨o, ho, hc⟩ := hr r e
    exact ne_cells ho hc cur t
  exact ⟨v0, v2, B2, hB.keep (hg.block L hB.lt (fun e => hn L e.symm _ _ hB)), row_ne h0 hg (fun r e cur => hn r e cur _), row_ne h2 hg (fun r e cur => hn r e cur _), h3, Nat.le_trans h4 hg.size, h5, h6⟩
theorem lineOwn_own {β : Type} (L : Nat) (f : β → LineD) : Own (fun s W => LineOwn W L (f s)) := fun s X Y row hs hg hr => hs.kept hg hr
theorem linesBox_own {β : Type} (b : Nat) (f : β → List LineD) : Own (fun s W => ∃ v, Boxed W b 23 v ∧ LinesOwn b W v (f s)) := fun s X Y row ⟨v, hb, ho⟩ hg hr =>
  ⟨v, hb.kept hg (fun e => by obtain ⟨o, ho', hc⟩ := hr b e.symm; exact ne_cells ho' hc _ _ hb), ho.kept hg (fun r e cur => by obtain ⟨o, ho', hc⟩ := hr r e; exact ⟨ne_cells ho' hc _ _, ne_cells ho' hc _ _⟩)⟩
def lastErr (pre : List Str) : Nat := errOf (pre.getLast?.getD [])
theorem lastErr_snoc (p : List Str) (t : Str) : lastErr (p ++ [t]) = errOf t := by simp [lastErr]
theorem lineOf_snoc (ws : List Str) (x : Str) : lineOf (ws ++ [x]) = addW (lineOf ws) x := by simp [lineOf]
theorem addW_len (d : LineD) (x : Str) : (addW d x).labels.length ≤ d.labels.length + 1 ∧ (addW d x).args.length ≤ d.args.length + 1 := by
  unfold addW
  split
  · simp
  · split <;> simp
theorem foldl_len (ws : List Str) : ∀ d : LineD, (ws.foldl addW d).labels.length ≤ d.labels.length + ws.length ∧ (ws.foldl addW d).args.length ≤ d.args.length + ws.length := by
  induction ws with
  | nil => intro d; simp
  | cons x ws ih =>
    intro d
    have h1 := ih (addW d x)
    have h2 := addW_len d x
    simp only [List.foldl_cons, List.length_cons]
    omega
theorem lineOf_len (ws : List Str) : (lineOf ws).labels.length ≤ ws.length ∧ (lineOf ws).args.length ≤ ws.length := by
  have := foldl_len ws ⟨[], [], []⟩
  simpa [lineOf] using this
theorem toksF_len (k : Nat) : ∀ s, (toksF k s).length ≤ k := by
  induction k with
  | zero => intro s; simp [toksF]
  | succ k ih =>
    intro s
    rw [toksF]
    split
    · simp
    · split
      · simp
      · simp only [List.length_cons]
        have := ih
        exact Nat.succ_le_succ (this _)
theorem toks_len (s : Str) : (toks s).length ≤ s.length := toksF_len _ s
theorem errOf_ok {x : Str} (hx : x.length ≤ 256) (h : ∀ p ∈ toks x, p.2 = true) : errOf x = 0 := by
  unfold errOf wordsO
  have h2 : (toks x).all (·.2) = true := List.all_eq_true.2 h
  rw [if_neg (by omega), h2]
  rfl
theorem errOf_open {x : Str} (hx : x.length ≤ 256) (h : ∃ p ∈ toks x, p.2 = false) : errOf x = 40 := by
  unfold errOf wordsO
  obtain ⟨p, hp, h2⟩ := h
  have h3 : (toks x).all (·.2) = false := by
    cases hh : (toks x).all (·.2) with
    | false => rfl
    | true =>
      have := List.all_eq_true.1 hh p hp
      rw [h2] at this
      cases this
  rw [if_neg (by omega), h3]
  rfl
theorem errOf_long {x : Str} (hx : 256 < x.length) : errOf x = 6 := by
  unfold errOf
  rw [if_pos hx]
theorem boxed_below {W W' : World} {B n : Nat} {t : TypeId} {v : Value} (h : Boxed W B t v) (hb : Below n W W') (hB : B < n) : Boxed W' B t v := (hb.block B hB).trans h
theorem row_type {w : World} {B : Nat} {e : TypeId} {size n : Nat} {v : Value} {xs : List Value} (h : w.ownsRow B e size v n xs) {e' : TypeId} (hne : e ≠ e') : ∀ r, v.ownBlock = some r → ∀ cur, w.heap[r]? ≠ some (.cells cur e' (0, 0)) := fun r hr cur hc => by
  rcases h.2 with ⟨rfl, _⟩ | ⟨g, cap, cur', rfl, _, hgb, _⟩
  · simp [Value.ownBlock] at hr
  · obtain rfl : g = r := by simpa [Value.ownBlock] using hr
    rw [hgb] at hc
    injection hc with hc
    injection hc with _ hc
    exact hne hc
theorem cells_type {w : World} {r : Nat} {e e' : TypeId} {cs : Array Value} (h : w.heap[r]? = some (.cells cs e (0, 0))) (hne : e ≠ e') (cur : Array Value) : w.heap[r]? ≠ some (.cells cur e' (0, 0)) := fun hc => by
  rw [h] at hc
  injection hc with hc
  injection hc with _ hc
  exact hne hc
/-- A line that has been read is appended to the lines. -/
theorem line_appended {w w6 : World} {b L B2 : Nat} {v v' : Value} {cs : List Value} {ds : List LineD} {d : LineD} {v0 v2 : Value} {tmp : Obj} (hv : Boxed w b 23 v) (hrow : w.ownsRow b 43 3 v ds.length cs) (hlv : LinesV w cs ds)
    (h0 : w.ownsRow (L + 1) 9 1 v0 d.labels.length (sv d.labels)) (h2 : w.ownsRow B2 9 1 v2 d.args.length (sv d.args)) (hb : b ≤ w.heap.size)
    (hown : w6.ownsRow b 43 3 v' (ds.length + 1) (cs ++ [v0, .string ⟨d.word.toArray⟩, v2])) (hgrow : (w.alloc tmp).grownBy w6 v.ownBlock) :
    Boxed w6 b 23 v ∧ (∃ v, Boxed (w6.setCell ⟨b, 0, none⟩ v') b 23 v ∧ LinesOwn b (w6.setCell ⟨b, 0, none⟩ v') v (ds ++ [d])) ∧ KeepsOthers w (w6.setCell ⟨b, 0, none⟩ v') ∧ Below b w (w6.setCell ⟨b, 0, none⟩ v') := by
  obtain ⟨p1, p2, p3, p4, p5⟩ := Boxed.appended hv (by decide) hrow hb (Nat.le_refl b) hown hgrow
  have hS : ∀ r, v.ownBlock = some r → ∀ cur, (w.alloc tmp).heap[r]? ≠ some (.cells cur 9 (0, 0)) := row_type (hrow.alloc tmp) (by decide)
  have hS2 : ∀ r, some b = some r → ∀ cur, w6.heap[r]? ≠ some (.cells cur 9 (0, 0)) := fun r e cur => by
    injection e with e
    subst e
    exact cells_type p1 (by decide) cur
  have k0 := row_ne (row_ne (h0.alloc tmp) hgrow hS) (grownBy_setCell' w6 b v') hS2
  have k2 := row_ne (row_ne (h2.alloc tmp) hgrow hS) (grownBy_setCell' w6 b v') hS2
  have kl := ((hlv.below ((Below.refl _ w).alloc (Nat.le_refl _) tmp)).kept hgrow hS).kept (grownBy_setCell' w6 b v') hS2
  refine ⟨p1, ⟨v', p2, cs ++ [v0, .string ⟨d.word.toArray⟩, v2], by rw [List.length_append]; exact p3, kl.snoc ⟨k0.mono (Nat.zero_le _), rfl, k2.mono (Nat.zero_le _)⟩⟩, p4, p5⟩
theorem box_appended {w w6 : World} {b b' : Nat} {t : TypeId} {u v v' : Value} {cs : List Value} {n : Nat} {tmp : Obj} (hb' : Boxed w b' t u) (ht : t ≠ 43) (hne : b' ≠ b) (hrow : w.ownsRow b 43 3 v n cs) (hgrow : (w.alloc tmp).grownBy w6 v.ownBlock) : Boxed (w6.setCell ⟨b, 0, none⟩ v') b' t u :=
  ((hb'.alloc tmp).kept hgrow (hb'.not_row ht hrow)).other hne _
/-- What Parse tells. -/
def ParsedAs (ds : List LineD) (n err : Nat) (w : World) (e : Ending) (w' : World) : Prop := ∃ v, e = .returned (.tuple #[v, .int .i64 (n : Int), .int .i64 (err : Int)]) ∧ LinesAt w' v ds ∧ Below w.heap.size w w'
set_option maxRecDepth 100000 in
set_option maxHeartbeats 4000000 in
theorem parse_any (s : Str) (hs : s.length ≤ 1000000) (hN : (splitL s).length ≤ 32768) (w : World) :
    Calls Tryd.prog 9 #[.string ⟨s.toArray⟩] w (ParsedAs (parseL 0 [] (splitL s)).1 (parseL 0 [] (splitL s)).2.1 (parseL 0 [] (splitL s)).2.2 w) := by
  refine (callsIn_wide (n := 12)).1 ?_
  refine callsIn_of_wp_marks Tryd.func9 rfl trivial ?_ rfl
  simp only [Tryd.ntmps9, List.size_toArray, List.length_cons, List.length_nil, Nat.reduceAdd, Nat.reduceSub, Array.replicate_succ, Array.replicate_zero, List.push_toArray, List.append_toArray, List.nil_append, List.cons_append]
  gi_wp2
  refine wpIn_scope_wide ?_
  gi_wp2_with (refine ⟨trivial, ?_⟩; gi_at_call 24; refine (callsIn_wide.2 (many_any s (by omega) hN _)).mono ?_; rintro e w1 ⟨rfl, hb1⟩)
  refine wpIn_label ?_
  gi_wp2_with (refine ⟨trivial, ?_⟩; gi_at_call 25; refine (split_in _ s _).mono ?_; rintro e w' ⟨rfl, rfl⟩)
  have bL := (((Boxed.new w1 23 (.slice none 0 0)).alloc (.cells #[.int .i64 0] 3)).alloc (.cells #[.int .i64 0] 24)).alloc (.cells #[.string ⟨s.toArray⟩] 9)
  have bA := ((Boxed.new (w1.alloc (.cells #[.slice none 0 0] 23)) 3 (.int .i64 0)).alloc (.cells #[.int .i64 0] 24)).alloc (.cells #[.string ⟨s.toArray⟩] 9)
  have bE := (Boxed.new ((w1.alloc (.cells #[.slice none 0 0] 23)).alloc (.cells #[.int .i64 0] 3)) 24 (.int .i64 0)).alloc (.cells #[.string ⟨s.toArray⟩] 9)
  have bS := Boxed.new (((w1.alloc (.cells #[.slice none 0 0] 23)).alloc (.cells #[.int .i64 0] 3)).alloc (.cells #[.int .i64 0] 24)) 9 (.string ⟨s.toArray⟩)
  simp only [World.size_alloc] at bL bA bE bS
  have hB0 : Below w1.heap.size w1 ((((w1.alloc (.cells #[.slice none 0 0] 23)).alloc (.cells #[.int .i64 0] 3)).alloc (.cells #[.int .i64 0] 24)).alloc (.cells #[.string ⟨s.toArray⟩] 9)) := ((((Below.refl _ w1).alloc (Nat.le_refl _) _).alloc (by simp) _).alloc (by simp; omega) _).alloc (by simp; omega) _
  have hsz : ((((w1.alloc (.cells #[.slice none 0 0] 23)).alloc (.cells #[.int .i64 0] 3)).alloc (.cells #[.int .i64 0] 24)).alloc (.cells #[.string ⟨s.toArray⟩] 9)).heap.size = w1.heap.size + 4 := by simp
  obtain ⟨W0, hW0⟩ : ∃ W0, (((w1.alloc (.cells #[.slice none 0 0] 23)).alloc (.cells #[.int .i64 0] 3)).alloc (.cells #[.int .i64 0] 24)).alloc (.cells #[.string ⟨s.toArray⟩] 9) = W0 := ⟨_, rfl⟩
  rw [hW0] at bL bA bE bS hB0 hsz ⊢
  clear hW0
  have hlo0 : LinesOwn w1.heap.size W0 (.slice none 0 0) [] := ⟨[], World.ownsRow_nil _ _ _ _, trivial⟩
  refine wpIn_rangeFunc_ownH rfl (by omega) (gf := 46) (lb := #[.pointer (some ⟨w1.heap.size + 1 + 1 + 1, 0, none⟩)]) rfl trivial (enters_of Tryd.func46 (by kernel_rfl) rfl)
    (split_stops Fence.wide _ rfl (by omega) (w1.heap.size + 1 + 1 + 1) s (by omega) W0 bS.lt bS.cell) free_t free_b (Below.refl _ _) (fun _ => rfl)
    (fun pre W => ((((∃ v, Boxed W w1.heap.size 23 v ∧ LinesOwn w1.heap.size W v (pre.map lineT)) ∧ Boxed W (w1.heap.size + 1) 3 (.int .i64 (pre.length : Int))) ∧ Boxed W (w1.heap.size + 1 + 1) 24 (.int .i64 0)) ∧ (∀ t ∈ pre, errOf t = 0)) ∧ Below w1.heap.size w1 W)
    (fun c pre W => (((c = .exit 0 ∧ ∃ p t, pre = p ++ [t] ∧ (∀ x ∈ p, errOf x = 0) ∧ errOf t ≠ 0) ∧ Boxed W (w1.heap.size + 1) 3 (.int .i64 (pre.length : Int))) ∧ Boxed W (w1.heap.size + 1 + 1) 24 (.int .i64 (lastErr pre : Int))) ∧ Below w1.heap.size w1 W)
    (OwnFrom.and (OwnFrom.and (OwnFrom.and (OwnFrom.and (Own.from (linesBox_own _ _) _) (Own.from (boxed_own _ _ (fun pre : List Str => .int .i64 (pre.length : Int))) _)) (Own.from (boxed_own _ _ _) _)) (ownFrom_pure _ _)) (ownFrom_below (Nat.le_refl _) (by omega)))
    (fun c => OwnFrom.and (OwnFrom.and (OwnFrom.and (ownFrom_pure _ _) (Own.from (boxed_own _ _ (fun pre : List Str => .int .i64 (pre.length : Int))) _)) (Own.from (boxed_own _ _ (fun pre : List Str => .int .i64 (lastErr pre : Int))) _)) (ownFrom_below (Nat.le_refl _) (by omega)))
    ⟨⟨⟨⟨⟨_, bL, hlo0⟩, bA⟩, bE⟩, by simp⟩, hB0⟩
    (fun x a' _ => a' = { tmps := #[.string ⟨s.toArray⟩, undef, .slice none 0 0, .int .i64 0, .int .i64 0, .pointer (some ⟨w1.heap.size, 0, none⟩), .pointer (some ⟨w1.heap.size + 1, 0, none⟩), .pointer (some ⟨w1.heap.size + 1 + 1, 0, none⟩), .string ⟨x.toArray⟩, undef, undef, undef, .string ⟨s.toArray⟩, .bool false, .string ⟨s.toArray⟩, .func (.func 46) #[] #[.pointer (some ⟨w1.heap.size + 1 + 1 + 1, 0, none⟩)], .string ⟨x.toArray⟩, undef, undef, undef, undef, undef, undef, undef, undef, undef, undef, undef, undef, undef, undef, undef, undef, undef, undef, undef, undef, undef, undef, undef], defers := [] })
    (fun _ _ _ _ _ _ hs _ _ => hs)
    ?assign ?body ?done ?stop
  case assign =>
    rintro l pre x W K hi hK
    dsimp only [encT]
    gi_wp2
    exact hK _ _ (KeepsFrom.refl _ _) trivial hi (by simp)
  case body =>
    rintro l pre x a' W hl ⟨r, hr⟩ ⟨⟨⟨⟨⟨v, bL1, hlo⟩, bA1⟩, bE1⟩, hok⟩, hB⟩ rfl hlt
    have hm0 : (pre.length : Int) ≤ 40000 := by omega
    obtain ⟨m, hm⟩ : ∃ m : Int, (pre.length : Int) = m := ⟨_, rfl⟩
    have hp0 : 0 ≤ m := by omega
    have hp : (m ≤ 40000) = True := by simp; omega
    have hp3 : IntKind.i64.wrap (m + 1) = m + 1 := IntWalk.i64_in _ (by omega)
    have hp4 : wrap64 (m + 1) = m + 1 := IntWalk.wrap64_in _ (by omega)
    have HM := Lib.hid hm
    have HL := Lib.hid hlt
    have HNN := Lib.hid hN
    have HSS := Lib.hid hs
    have HOK := Lib.hid hok
    rw [hm] at bA1
    have cA := bA1.cell
    have fA := bA1.frozen
    have cE := bE1.cell
    have fE := bE1.frozen
    clear hm hm0 hlt hN hs hok
    have hsucc : (((pre ++ [x]).length : Nat) : Int) = m + 1 := by rw [← HM.out]; simp
    by_cases hx : 256 < x.length
    · have hx2 : ((256 : Int) < (x.length : Int)) = True := by simp; omega
      have HX := Lib.hid hx
      have HSU := Lib.hid hsucc
      clear hx hsucc
      gi_wp2
      refine ⟨((KeepsOthers.setCell _ _ _).trans (KeepsOthers.setCell _ _ _)).from _, ⟨⟨⟨rfl, pre, x, rfl, HOK.out, by rw [errOf_long HX.out]; decide⟩, ?_⟩, ?_⟩, (hB.setCell (p := ⟨w1.heap.size + 1, 0, none⟩) (by simp) _).setCell (p := ⟨w1.heap.size + 1 + 1, 0, none⟩) (by simp; omega) _⟩
      · rw [HSU.out]
        exact (bA1.set _).other (by omega) _
      · rw [lastErr_snoc, errOf_long HX.out]
        exact (bE1.other (by omega) _).set _
    · have hx2 : ((256 : Int) < (x.length : Int)) = False := by simp; omega
      have HX : Hid (x.length ≤ 256) := by show x.length ≤ 256; omega
      have HSU := Lib.hid hsucc
      clear hx hsucc
      gi_wp2_with (refine ⟨trivial, ?_⟩; gi_at_call 26; refine (CallsIn.inRound l (words_in _ x _)).mono ?_; rintro e w' ⟨rfl, rfl⟩)
      have hLt : w1.heap.size + 1 + 1 < W.heap.size := bE1.lt
      obtain ⟨W1, hW1⟩ : ∃ W1, W.setCell ⟨w1.heap.size + 1, 0, none⟩ (.int .i64 (m + 1)) = W1 := ⟨_, rfl⟩
      have hsz1 : W1.heap.size = W.heap.size := by rw [← hW1]; simp [World.setCell]
      have kW1 : KeepsOthers W W1 := by rw [← hW1]; exact KeepsOthers.setCell _ _ _
      have bW1 : Below w1.heap.size w1 W1 := by rw [← hW1]; exact hB.setCell (p := ⟨w1.heap.size + 1, 0, none⟩) (by simp) _
      have bL2 : Boxed W1 w1.heap.size 23 v := by rw [← hW1]; exact bL1.other (by omega) _
      have bA2 : Boxed W1 (w1.heap.size + 1) 3 (.int .i64 (m + 1)) := by rw [← hW1]; exact bA1.set _
      have bE2 : Boxed W1 (w1.heap.size + 1 + 1) 24 (.int .i64 0) := by rw [← hW1]; exact bE1.other (by omega) _
      have hlo2 : LinesOwn w1.heap.size W1 v (pre.map lineT) := by
        rw [← hW1]
        exact hlo.kept (grownBy_setCell' W _ _) (fun r e cur => by injection e with e; subst e; exact ⟨cells_type bA1 (by decide) cur, cells_type bA1 (by decide) cur⟩)
      rw [hW1]
      have hrW1 := kW1.same l _ hr rfl
      clear hW1 cA fA cE fE bL1 bA1 bE1 hlo
      have hLO0 : LineOwn ((W1.alloc (.cells #[.slice none 0 0, .string ⟨#[]⟩, .slice none 0 0] 43)).alloc (.cells #[.string ⟨x.toArray⟩] 9)) W1.heap.size (lineOf []) :=
        ⟨.slice none 0 0, .slice none 0 0, W1.heap.size + 1, (Blok.made W1 43 [.slice none 0 0, .string ⟨#[]⟩, .slice none 0 0]).alloc _, World.ownsRow_nil _ _ _ _, World.ownsRow_nil _ _ _ _, by omega, by simp, fun k hk => by simp [Value.ownBlock] at hk, fun _ => rfl⟩
      have bN := Boxed.new (W1.alloc (.cells #[.slice none 0 0, .string ⟨#[]⟩, .slice none 0 0] 43)) 9 (.string ⟨x.toArray⟩)
      rw [World.size_alloc, hsz1] at bN
      rw [hsz1] at hLO0
      have bl2 : Below W.heap.size W1 ((W1.alloc (.cells #[.slice none 0 0, .string ⟨#[]⟩, .slice none 0 0] 43)).alloc (.cells #[.string ⟨x.toArray⟩] 9)) := ((Below.refl _ W1).alloc (by omega) _).alloc (by simp; omega) _
      have kf2 : KeepsFrom W0.heap.size W ((W1.alloc (.cells #[.slice none 0 0, .string ⟨#[]⟩, .slice none 0 0] 43)).alloc (.cells #[.string ⟨x.toArray⟩] 9)) := ((kW1.trans (KeepsOthers.alloc _ _)).trans (KeepsOthers.alloc _ _)).from _
      have hr' : ((W1.alloc (.cells #[.slice none 0 0, .string ⟨#[]⟩, .slice none 0 0] 43)).alloc (.cells #[.string ⟨x.toArray⟩] 9)).heap[l]? = some (.loop r) := ((KeepsOthers.alloc _ _).trans (KeepsOthers.alloc _ _)).same l _ hrW1 rfl
      have hsz2 : ((W1.alloc (.cells #[.slice none 0 0, .string ⟨#[]⟩, .slice none 0 0] 43)).alloc (.cells #[.string ⟨x.toArray⟩] 9)).heap.size = W.heap.size + 2 := by simp [hsz1]
      obtain ⟨W2, hW2⟩ : ∃ W2, (W1.alloc (.cells #[.slice none 0 0, .string ⟨#[]⟩, .slice none 0 0] 43)).alloc (.cells #[.string ⟨x.toArray⟩] 9) = W2 := ⟨_, rfl⟩
      rw [hW2] at hLO0 bN bl2 kf2 hr' hsz2 ⊢
      clear hW2 hrW1
      refine wpIn_rangeFunc_ownN (l₀ := l) (r₀ := r) rfl hr' (by omega) (gf := 48) (lb := #[.pointer (some ⟨W.heap.size + 1, 0, none⟩)]) rfl trivial (enters_of Tryd.func48 (by kernel_rfl) rfl)
        ((words_stops Fence.wide (12 - 1 - 1 - 1) rfl (by omega) (W.heap.size + 1) x (by have := HX.out; omega) W2 bN.lt bN.cell).inRound l) free_t free_b (Below.refl _ _) (fun _ => rfl)
        (fun pre' W' => (LineOwn W' W.heap.size (lineOf ((vals pre').map (·.1))) ∧ (∀ p ∈ vals pre', p.2 = true)) ∧ (Below W.heap.size W1 W' ∧ KeepsFrom W0.heap.size W W'))
        (fun c pre' W' => (((c = .exit 0 ∧ ∃ p ∈ vals pre', p.2 = false) ∧ Boxed W' (w1.heap.size + 1) 3 (.int .i64 (m + 1))) ∧ Boxed W' (w1.heap.size + 1 + 1) 24 (.int .i64 40)) ∧ (Below w1.heap.size w1 W' ∧ KeepsFrom W0.heap.size W W'))
        (OwnFrom.and (OwnFrom.and (Own.from (lineOwn_own W.heap.size (fun pre' : List WordT => lineOf ((vals pre').map (·.1)))) _) (ownFrom_pure _ _)) (OwnFrom.and (ownFrom_below (by omega) (by omega)) (ownFrom_keepsFrom (by omega))))
        (fun c => OwnFrom.and (OwnFrom.and (OwnFrom.and (ownFrom_pure _ _) (Own.from (boxed_own _ _ _) _)) (Own.from (boxed_own _ _ _) _)) (OwnFrom.and (ownFrom_below (Nat.le_refl _) (by omega)) (ownFrom_keepsFrom (by omega))))
        ⟨⟨hLO0, by simp [vals]⟩, bl2, kf2⟩
        (fun p a'' _ => a'' = { tmps := #[.string ⟨s.toArray⟩, undef, .slice none 0 0, .int .i64 0, .int .i64 0, .pointer (some ⟨w1.heap.size, 0, none⟩), .pointer (some ⟨w1.heap.size + 1, 0, none⟩), .pointer (some ⟨w1.heap.size + 1 + 1, 0, none⟩), .string ⟨x.toArray⟩, .pointer (some ⟨W.heap.size, 0, none⟩), .string ⟨p.1.1.toArray⟩, .bool p.1.2, .string ⟨s.toArray⟩, .bool false, .string ⟨s.toArray⟩, .func (.func 46) #[] #[.pointer (some ⟨w1.heap.size + 1 + 1 + 1, 0, none⟩)], .string ⟨x.toArray⟩, .int .i64 m, .int .i64 (m + 1), .string ⟨x.toArray⟩, .int .i64 (x.length : Int), .bool false, .agg #[.slice none 0 0, .string ⟨#[]⟩, .slice none 0 0], .string ⟨x.toArray⟩, .func (.func 48) #[] #[.pointer (some ⟨W.heap.size + 1, 0, none⟩)], .string ⟨p.1.1.toArray⟩, .bool p.1.2, undef, undef, undef, undef, undef, undef, undef, undef, undef, undef, undef, undef, undef], defers := [] })
        (fun _ _ _ _ _ _ hs _ _ => hs)
        ?assign2 ?body2 ?done2 ?stop2
      case assign2 =>
        rintro l2 pre' p W' K hi hK
        dsimp only [encW]
        gi_wp2
        exact hK _ _ (KeepsFrom.refl _ _) trivial hi (by simp)
      case body2 =>
        rintro l2 pre' ⟨⟨u, ok⟩, hu0, hul⟩ a'' W' _ _ ⟨⟨hLO, hall⟩, hBL, hKF⟩ rfl hlt2
        simp only at hu0 hul
        cases ok with
        | false =>
          have bE3 := boxed_below bE2 hBL hLt
          have bA3 := boxed_below bA2 hBL (by omega)
          have cE := bE3.cell
          have fE := bE3.frozen
          gi_wp2
          exact ⟨(KeepsOthers.setCell _ _ _).from _, ⟨⟨⟨rfl, (u, false), by simp [vals], rfl⟩, bA3.other (by omega) _⟩, bE3.set _⟩, (bW1.trans (hBL.mono (by omega))).setCell (p := ⟨w1.heap.size + 1 + 1, 0, none⟩) (by simp; omega) _, hKF.trans ((KeepsOthers.setCell _ _ _).from _)⟩
        | true =>
          have hw := lineOf_len ((vals pre').map (·.1))
          have htl := toks_len x
          have hwl : ((vals pre').map (·.1)).length = pre'.length := by simp [vals]
          have h256 := HX.out
          gi_wp2_with (refine ⟨trivial, ?_⟩; gi_at_call 27; refine (CallsIn.inRound l2 (CallsIn.inRound l (callsIn_wide.2 (add_any W.heap.size _ u hul hu0 (by omega) (by omega) _ hLO)))).mono ?_; rintro e w5 ⟨⟨v5, rfl⟩, hLO5, hb5, hk5⟩)
          refine ⟨hk5.from _, trivial, ⟨by rw [vals_snoc, List.map_append, List.map_singleton, lineOf_snoc]; exact hLO5, fun p hp => ?_⟩, hBL.trans hb5, hKF.trans (hk5.from _)⟩
          rw [vals_snoc] at hp
          rcases List.mem_append.1 hp with h | h
          · exact hall p h
          · obtain rfl : p = (u, true) := by simpa using h
            rfl
      case done2 =>
        rintro xs W' hS ⟨⟨hLO, hall⟩, hBL, hKF⟩
        have hlineT : lineT x = lineOf ((vals xs).map (·.1)) := by unfold lineT; rw [hS]
        have herr : errOf x = 0 := errOf_ok HX.out (by rw [← hS]; exact hall)
        have HLT := Lib.hid hlineT
        have HERR := Lib.hid herr
        obtain ⟨v0, v2, B2, hBk, h0, h2, h3, h4, h5, h6⟩ := hLO
        generalize lineOf ((vals xs).map (·.1)) = d at *
        obtain ⟨i0, hi, hz0, hz1, hz2⟩ := info_parts info_l
        have bL3 := boxed_below bL2 hBL (by omega)
        have bA3 := boxed_below bA2 hBL (by omega)
        have bE3 := boxed_below bE2 hBL hLt
        obtain ⟨cs, hrow, hlv⟩ := hlo2.below (hBL.mono (by omega))
        rw [List.length_map] at hrow
        obtain ⟨A, K, rfl⟩ := row_slice hrow
        have hml : (pre.map lineT).length = pre.length := by simp
        have hple : pre.length ≤ 40000 := by have := HL.out; have := HNN.out; omega
        have cL := bL3.cell
        have fL := bL3.frozen
        have c0 : W'.cell? ⟨W.heap.size, 0, none⟩ = some v0 := hBk.at_ 0
        have c1 : W'.cell? ⟨W.heap.size, 1, none⟩ = some (.string ⟨d.word.toArray⟩) := hBk.at_ 1
        have c2 : W'.cell? ⟨W.heap.size, 2, none⟩ = some v2 := hBk.at_ 2
        have hbW : w1.heap.size ≤ W'.heap.size := by have := hBL.size; have := bW1.size; omega
        have hOne : ∀ u ∈ ([v0, .string ⟨d.word.toArray⟩, v2] : List Value), u.oneCell' = true := by
          obtain ⟨A0, K0, rfl⟩ := row_slice h0
          obtain ⟨A2, K2, rfl⟩ := row_slice h2
          intro u hu
          simp only [List.mem_cons, List.not_mem_nil, or_false] at hu
          rcases hu with rfl | rfl | rfl <;> rfl
        have HPL := Lib.hid hple
        have HML := Lib.hid hml
        have HH5 := Lib.hid h5
        have HH6 := Lib.hid h6
        clear hS hall hlineT herr hple h5 h6
        gi_wp2_with (refine wpListIn_append_own _ rfl (.tmp 31) (.tmp 33) 23 rfl w1.heap.size 43 i0 _ 3 64 Tryd.underlying23 hi hz0 hz1 hz2 rfl (by decide) (.slice A pre.length K) pre.length cs rfl (hrow.alloc _) ⟨W'.heap.size, 0, none⟩ 1 1 [v0, .string ⟨d.word.toArray⟩, v2] rfl rfl (fun j u hu => by rw [addr_add, Nat.zero_add]; exact ((Blok.made W' _ [v0, .string ⟨d.word.toArray⟩, v2]).at_ j).trans hu) hOne (by have := HPL.out; unfold maxLen; omega) (by have := HPL.out; omega) (by simp; omega) ?_; intro v' w6 hown hgrow _; have happ := line_appended (ds := pre.map lineT) (d := d) bL3 (by rw [List.length_map]; exact hrow) hlv h0 h2 hbW (by rw [List.length_map]; exact hown) hgrow; have q1 := happ.1.cell; have q2 := happ.1.frozen; have HAPP := Lib.hid happ; clear happ; obtain ⟨g', K', rfl⟩ := ownsRow_succ hown)
        obtain ⟨_, r2, r3, r4⟩ := HAPP.out
        refine ⟨hKF.trans (r3.from _), trivial, ⟨⟨⟨by rw [List.map_append, List.map_singleton, HLT.out]; exact r2, by rw [HSU.out]; exact box_appended bA3 (by decide) (by omega) hrow hgrow⟩, box_appended bE3 (by decide) (by omega) hrow hgrow⟩, fun t ht => ?_⟩, (bW1.trans (hBL.mono (by omega))).trans r4⟩
        rcases List.mem_append.1 ht with h | h
        · exact HOK.out t h
        · obtain rfl : t = x := by simpa using h
          exact HERR.out
      case stop2 =>
        rintro c pre' W' hSp ⟨⟨⟨⟨rfl, p, hp, hpf⟩, bA3⟩, bE3⟩, hBb, hKF⟩
        have hex : errOf x = 40 := errOf_open HX.out ⟨p, hSp.subset hp, hpf⟩
        have HE := Lib.hid hex
        clear hex
        gi_wp2
        exact ⟨hKF, ⟨⟨⟨rfl, pre, x, rfl, HOK.out, by rw [HE.out]; decide⟩, by rw [HSU.out]; exact bA3⟩, by rw [lastErr_snoc, HE.out]; exact bE3⟩, hBb⟩
  case done =>
    rintro D ys W hD rfl ⟨⟨⟨⟨⟨v, bL1, hlo⟩, bA1⟩, bE1⟩, hok⟩, hB⟩ hK
    have cL := bL1.cell
    have cE := bE1.cell
    have hP := parseL_ok (splitL s) hok 0 []
    have hput := belowK_b (w := w1) (Nat.le_refl _) W D _ (.deferred none) (by omega) hK rfl rfl
    have hlo2 := (hlo.kept (grownBy_putObj' W D (.deferred none)) (fun r e cur => by cases e; exact ⟨ne_cells hK rfl _ _, ne_cells hK rfl _ _⟩)).at_
    clear hlo bL1 bE1 bA1
    have HP := Lib.hid hP
    clear hP
    gi_wp2
    rw [Exit.noGoto_ret]
    refine ⟨by simp, .inl ⟨_, _, rfl, run_takeDeferred hK, ?_⟩⟩
    refine ⟨.tuple #[v, .int .i64 0, .int .i64 0], ?_, ?_⟩
    · simp [results, Tryd.f9, go_sem]
    · rw [HP.out]
      exact ⟨v, rfl, by simpa using hlo2, hb1.trans ((hB.trans hput).mono hb1.size)⟩
  case stop =>
    rintro D c pre W hD hpre ⟨⟨⟨⟨rfl, p, t, rfl, hp, ht⟩, bA1⟩, bE1⟩, hB⟩ hK
    obtain ⟨rest, hrest⟩ := hpre
    have hsp : splitL s = p ++ t :: rest := by rw [← hrest]; simp
    have hP := parseL_bad p t rest hp ht 0 []
    rw [← hsp] at hP
    rw [lastErr_snoc] at bE1
    have cA := bA1.cell
    have cE := bE1.cell
    have hput := belowK_b (w := w1) (Nat.le_refl _) W D _ (.deferred none) (by omega) hK rfl rfl
    have hEne : (((errOf t : Nat) : Int) != 0) = true := by simp; omega
    have hl1 : (((p ++ [t]).length : Nat) : Int) = ((0 + p.length + 1 : Nat) : Int) := by simp
    obtain ⟨E, hE⟩ : ∃ E : Int, ((errOf t : Nat) : Int) = E := ⟨_, rfl⟩
    obtain ⟨M, hM⟩ : ∃ M : Int, (((p ++ [t]).length : Nat) : Int) = M := ⟨_, rfl⟩
    rw [hE] at cE hEne
    rw [hM] at cA
    rw [hM] at hl1
    have HP := Lib.hid hP
    have HM1 := Lib.hid hl1
    have HE1 := Lib.hid hE
    clear hE hM
    clear hP hsp hrest hl1 ht hp bA1 bE1
    gi_wp2
    refine wpIn_wide.2 ?_
    go_quiet (fail)
    gi_wp2
    rw [Exit.noGoto_ret]
    refine ⟨by simp, .inl ⟨_, _, rfl, run_takeDeferred (w := W.drewN nq) hK, ?_⟩⟩
    refine ⟨.tuple #[.slice none 0 0, .int .i64 M, .int .i64 E], ?_, ?_⟩
    · simp [results, Tryd.f9, go_sem]
    · rw [HP.out, ← HE1.out, HM1.out]
      have hfin := hb1.trans ((hB.trans hput).mono hb1.size)
      exact ⟨_, rfl, LinesAt.nil _ _, ⟨hfin.os, hfin.tape, hfin.output, hfin.size, hfin.block⟩⟩
end Go.Proofs.YtdcpkeagkfchoaaDoor
