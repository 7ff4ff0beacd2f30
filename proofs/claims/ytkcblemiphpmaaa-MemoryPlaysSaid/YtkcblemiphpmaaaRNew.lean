/- append from a source that may be nil; what the document's New answers. -/
import Derived.Test.YtkcblemiphpmaaaRefNew
import Derived.Maps.AppendAt
import Derived.Deep.RegionLaw
import Derived.RegionTactic
import Derived.Deep.QuietTactic
namespace Go.Proofs.Ytkcblemiphpmaaa
open Go.RowKit
set_option linter.unusedVariables false
section
variable {P : Program}
/-- What is appended: nothing, or cells at an address. -/
def Src (w : World) (A : Option Addr) (m size : Nat) (news : List Value) : Prop := news.length = m * size ∧ (0 < m → ∃ ad, A = some ad ∧ ∀ j u, news[j]? = some u → w.cell? (ad.add j) = some u) ∧ ∀ u ∈ news, u.oneCell' = true
theorem append_src (w : World) (base : Nat) (t ty e : TypeId) (i : TypeInfo) (z : Value) (size bytes : Nat) (ht : P.underlying t = some (.slice e)) (hi : P.info? e = some i) (hz : i.zero = some z)
    (hsize : i.size = size) (hby : i.bytes = bytes) (hzs : z.cells.size = size) (hsz : 0 < size) (v : Value) (n : Nat) (xs : List Value) (hown : w.ownsRow base e size v n xs)
    (A : Option Addr) (m c : Nat) (news : List Value) (hs : Src w A m size news) (h63 : n + m ≤ maxLen) (hbytes : (n + m) * bytes ≤ 140737488355328) (hbase : base ≤ w.heap.size) :
    ∃ v' w', (Builtin.append_ #[t, t] ty #[v, .slice A m c]).run P w = .ok v' w' ∧ w'.ownsRow base e size v' (n + m) (xs ++ news) ∧ w.grownBy w' v.ownBlock := by
  obtain ⟨hl, hc, h1⟩ := hs
  cases A with
  | some ad =>
    have hcells : ∀ j u, news[j]? = some u → w.cell? (ad.add j) = some u := by
      intro j u hj
      have hm : 0 < m := by
        rcases Nat.eq_zero_or_pos m with h0 | h0
        · subst h0
          have : news = [] := List.eq_nil_of_length_eq_zero (by simpa using hl)
          subst this
          simp at hj
        · exact h0
      obtain ⟨ad', e', h'⟩ := hc hm
      injection e' with e'
      subst e'
      exact h' j u hj
    obtain ⟨v', w', hrun, h2, h3, _⟩ := run_append_own (P := P) w base t ty e i z size bytes ht hi hz hsize hby hzs hsz v n xs hown ad m c news hl hcells h1 h63 hbytes hbase
    exact ⟨v', w', hrun, h2, h3⟩
  | none =>
    have hm : m = 0 := by
      rcases Nat.eq_zero_or_pos m with h0 | h0
      · exact h0
      · obtain ⟨ad', e', _⟩ := hc h0
        cases e'
    subst hm
    obtain rfl : news = [] := List.eq_nil_of_length_eq_zero (by simpa using hl)
    refine ⟨v, w, ?_, by simpa using hown, World.grownBy.refl w _⟩
    rcases hown.2 with ⟨rfl, rfl⟩ | ⟨g, cap, cur, rfl, _, _, hnc, _⟩
    · simp [Builtin.append_, run_underlying ht, sizeOf, typeInfo, hi, Builtin.lenOf, Builtin.firstCells]
    · simp [Builtin.append_, run_underlying ht, sizeOf, typeInfo, hi, Builtin.lenOf, Builtin.firstCells, hnc, storeCells]
theorem wp_append_src {w : World} {o : Oper} {a : Act} {K : Act → World → Prop} {Q : Exit → Act → World → Prop} (s x : Operand) (t : TypeId)
    (ho : o.op = .call { callee := .builtin .append, args := #[s, x], argTypes := #[t, t] })
    (base : Nat) (e : TypeId) (i : TypeInfo) (z : Value) (size bytes : Nat) (ht : P.underlying t = some (.slice e)) (hi : P.info? e = some i) (hz : i.zero = some z)
    (hsize : i.size = size) (hby : i.bytes = bytes) (hzs : z.cells.size = size) (hsz : 0 < size) (v : Value) (n : Nat) (xs : List Value) (hs : a.eval s = v) (hown : w.ownsRow base e size v n xs)
    (A : Option Addr) (m c : Nat) (news : List Value) (hx : a.eval x = .slice A m c) (hr : Src w A m size news) (h63 : n + m ≤ maxLen) (hbytes : (n + m) * bytes ≤ 140737488355328) (hbase : base ≤ w.heap.size)
    (h : ∀ v' w', w'.ownsRow base e size v' (n + m) (xs ++ news) → w.grownBy w' v.ownBlock → K (a.put o.dst v') w') : o.wp P a w K Q := by
  obtain ⟨v', w', hrun, h2, h3⟩ := append_src w base t o.type e i z size bytes ht hi hz hsize hby hzs hsz v n xs hown A m c news hr h63 hbytes hbase
  unfold Oper.wp execOp
  simp only [ho, resolve, invoke, builtin, Sem.run_bind, Sem.run_pure, Result.andThen_ok, List.map_toArray, List.map_cons, List.map_nil, hs, hx, hrun]
  exact h v' w' h2 h3
theorem wpList_append_src {w : World} {ops : Array Oper} {rest : List Oper} {o : Oper} {a : Act} {Q : Exit → Act → World → Prop} (hgd : o.guard = none) (s x : Operand) (t : TypeId)
    (ho : o.op = .call { callee := .builtin .append, args := #[s, x], argTypes := #[t, t] })
    (base : Nat) (e : TypeId) (i : TypeInfo) (z : Value) (size bytes : Nat) (ht : P.underlying t = some (.slice e)) (hi : P.info? e = some i) (hz : i.zero = some z)
    (hsize : i.size = size) (hby : i.bytes = bytes) (hzs : z.cells.size = size) (hsz : 0 < size) (v : Value) (n : Nat) (xs : List Value) (hs : a.eval s = v) (hown : w.ownsRow base e size v n xs)
    (A : Option Addr) (m c : Nat) (news : List Value) (hx : a.eval x = .slice A m c) (hr : Src w A m size news) (h63 : n + m ≤ maxLen) (hbytes : (n + m) * bytes ≤ 140737488355328) (hbase : base ≤ w.heap.size)
    (h : ∀ v' w', w'.ownsRow base e size v' (n + m) (xs ++ news) → w.grownBy w' v.ownBlock → wpList P ops Q rest (a.put o.dst v') w') : wpList P ops Q (o :: rest) a w :=
  wpList_plain hgd fun _ hK => wp_append_src s x t ho base e i z size bytes ht hi hz hsize hby hzs hsz v n xs hs hown A m c news hx hr h63 hbytes hbase fun v' w' h2 h3 => hK _ _ (h v' w' h2 h3)
theorem step_append_src {w : World} {ops : Array Oper} {o : Oper} {a : Act} {K : Act → World → Prop} {Q : Exit → Act → World → Prop} {E : Prop} (hgd : o.guard = none) (s x : Operand) (t : TypeId)
    (ho : o.op = .call { callee := .builtin .append, args := #[s, x], argTypes := #[t, t] })
    (base : Nat) (e : TypeId) (i : TypeInfo) (z : Value) (size bytes : Nat) (ht : P.underlying t = some (.slice e)) (hi : P.info? e = some i) (hz : i.zero = some z)
    (hsize : i.size = size) (hby : i.bytes = bytes) (hzs : z.cells.size = size) (hsz : 0 < size) (v : Value) (n : Nat) (xs : List Value) (hs : a.eval s = v) (hown : w.ownsRow base e size v n xs)
    (A : Option Addr) (m c : Nat) (news : List Value) (hx : a.eval x = .slice A m c) (hr : Src w A m size news) (h63 : n + m ≤ maxLen) (hbytes : (n + m) * bytes ≤ 140737488355328) (hbase : base ≤ w.heap.size)
    (h : ∀ v' w', w'.ownsRow base e size v' (n + m) (xs ++ news) → w.grownBy w' v.ownBlock → K (a.put o.dst v') w') :
    if Region.wanted o (yielded ops a.tmps) = true then Oper.wp P o a w K Q else E := by
  have hw : Region.wanted o (yielded ops a.tmps) = true := by simp [Region.wanted, hgd]
  rw [if_pos hw]
  exact wp_append_src s x t ho base e i z size bytes ht hi hz hsize hby hzs hsz v n xs hs hown A m c news hx hr h63 hbytes hbase h
end

/-! New -/
theorem rnew_size (n : Int) (A : Option Addr) (l c : Nat) (w : World) (hn : ¬ sizeOk n) (n0 : -9223372036854775808 ≤ n) (n1 : n ≤ 9223372036854775807) :
    Calls Try.prog 11 #[.int .i64 n, .slice A l c] w (Gives (.tuple #[.pointer none, .int .i64 1]) w) := by
  by_cases h1 : n < 4
  · go_enter Try.func11, Try.ntmps11
    go_wp2
    go_ret2
    exact ⟨rfl, Below.refl _ _⟩
  by_cases h2 : 1048576 < n
  · go_enter Try.func11, Try.ntmps11
    go_wp2
    go_ret2
    exact ⟨rfl, Below.refl _ _⟩
  · have h3 : (n % 4 != 0) = true := by
      rw [bne_iff_ne]
      intro e
      exact hn ⟨by omega, by omega, e⟩
    have h4 : 4 ≤ n := by omega
    have h5 : n ≤ 1048576 := by omega
    clear h1 h2 hn
    go_enter Try.func11, Try.ntmps11
    go_wp2
    go_ret2
    exact ⟨rfl, Below.refl _ _⟩
theorem rnew_many (n : Int) (A : Option Addr) (l c : Nat) (w : World) (hn : sizeOk n) (hl : 16 < l) (hm : l ≤ 9223372036854775807) :
    Calls Try.prog 11 #[.int .i64 n, .slice A l c] w (Gives (.tuple #[.pointer none, .int .i64 1]) w) := by
  obtain ⟨h1, h2, h3⟩ := hn
  have h4 : (n % 4 != 0) = false := by simp [h3]
  have h5 : (16 : Int) < l := by omega
  clear h3
  go_enter Try.func11, Try.ntmps11
  go_wp2
  go_ret2
  exact ⟨rfl, Below.refl _ _⟩
theorem below_drewN {B : Nat} {a w : World} (h : Below B a w) (n : Nat) : Below B a (w.drewN n) := ⟨h.os, h.tape, h.output, h.size, h.block⟩
set_option maxHeartbeats 400000 in
theorem rnew_askew (n : Int) (A : Option Addr) (hs : List (Int × Int)) (c : Nat) (w : World) (hn : sizeOk n) (hl : hs.length ≤ 16) (hh : HoldsR w A hs) (hu : hs.all upright = false) :
    Calls Try.prog 11 #[.int .i64 n, .slice A hs.length c] w (Gives (.tuple #[.pointer none, .int .i64 1]) w) := by
  obtain ⟨h1, h2, h3⟩ := hn
  have h4 : (n % 4 != 0) = false := by simp [h3]
  have h5 : (hs.length : Int) ≤ 16 := by omega
  have cs0 : Try.prog.cellsOf 60 = 2 := by kernel_rfl
  have HU := Lib.hid hu
  clear h3 hu
  go_enter Try.func11, Try.ntmps11
  go_wp2
  go_loopw [6] (fun i wr => ∃ k : Nat, k ≤ hs.length ∧ i = .int .i64 k ∧ Below w.heap.size w wr ∧ (hs.take k).all upright = true) (fun i _ => hs.length - (intOf i).toNat)
  case atStart => exact ⟨0, Nat.zero_le _, rfl, Below.refl _ _, by simp⟩
  case round =>
    obtain ⟨k, hk, rfl, hbl, hno⟩ := hrel
    have HNO := Lib.hid hno
    clear hno
    by_cases hlt : k < hs.length
    · have hp := List.getElem?_eq_getElem hlt
      generalize hs[k] = p at hp
      obtain ⟨b, o, rfl, hc⟩ := (hh.below hbl).1 (by omega)
      obtain ⟨q1, q2⟩ := hc k p hp
      have HP := Lib.hid hp
      clear hp hc
      by_cases hpp : p.2 < p.1
      · go_wp2
        go_quiet (fail)
        go_wp2
        go_ret2
        exact ⟨rfl, below_drewN hbl _⟩
      · have hpp2 : p.1 ≤ p.2 := by omega
        clear hpp
        go_wp2
        go_quiet (fail)
        go_wp2
        go_roundw
        case rel => exact ⟨k + 1, by omega, by go_num, below_drewN hbl _, all_take HP.out HNO.out (by simpa [upright] using hpp2)⟩
        case measure => simp [intOf]; omega
    · exfalso
      have e := HNO.out
      rw [List.take_of_length_le (by omega), HU.out] at e
      cases e
theorem HoldsR.src {w W : World} {A : Option Addr} {hs : List (Int × Int)} (h : HoldsR w A hs) (hb : Below w.heap.size w W) : Src W A hs.length 2 (hv hs) := by
  refine ⟨by rw [length_hv]; omega, fun h0 => ?_, one_hv hs⟩
  obtain ⟨b, o, rfl, hc⟩ := (h.below hb).1 h0
  refine ⟨_, rfl, fun j u hj => ?_⟩
  rw [addr_add]
  have hjl : j < 2 * hs.length := by
    have := (List.getElem?_eq_some_iff.1 hj).1
    rwa [length_hv] at this
  obtain ⟨p, hp⟩ : ∃ p, hs[j / 2]? = some p := ⟨_, List.getElem?_eq_getElem (by omega)⟩
  have hq := hv_at hs (j / 2) p hp
  have hcc := hc (j / 2) p hp
  rcases (show j % 2 = 0 ∨ j % 2 = 1 by omega) with e | e
  · rw [show 2 * (j / 2) = j by omega, hj] at hq
    rw [show j / 2 * 2 = j by omega] at hcc
    rw [hcc.1, hq.1]
  · rw [show 2 * (j / 2) + 1 = j by omega, hj] at hq
    rw [show o + j / 2 * 2 + 1 = o + j by omega] at hcc
    rw [hcc.2, hq.2]
theorem row_base {w : World} {B : Nat} {e : TypeId} {size n : Nat} {v : Value} {xs : List Value} (h : w.ownsRow B e size v n xs) : w.ownsRow 0 e size v n xs := by
  refine ⟨h.1, ?_⟩
  rcases h.2 with h2 | ⟨g, cap, cur, hv', _, h3⟩
  · exact .inl h2
  · exact .inr ⟨g, cap, cur, hv', Nat.zero_le _, h3⟩
theorem ref_of {F : World} {g rb B n : Nat} {R : Option Addr} {rc : Nat} {hs : List (Int × Int)} {zs us : List Value} (hz : bv (List.replicate n 0) = zs) (hu : hv hs = us)
    (h1 : Blok F g 45 [.slice (some ⟨rb, 0, none⟩) n n, .slice R hs.length rc]) (h2 : Blok F rb 5 zs) (h3 : F.ownsRow B 60 2 (.slice R hs.length rc) hs.length us)
    (hn : n ≤ 1048576) (hl : hs.length ≤ 16) (ho : okHoles hs) : IsRef F g rb R rc (List.replicate n 0) hs :=
  ⟨by rw [List.length_replicate]; exact h1, by rw [hz]; exact h2, by rw [hu]; exact row_base h3, by rw [List.length_replicate]; exact hn, hl, ho⟩
theorem info_rhole : (Try.prog.info? 60).map (fun i => (i.zero, i.size, i.bytes)) = some (some (.agg #[.int .u32 0, .int .u32 0]), 2, 8) := by kernel_rfl
set_option maxHeartbeats 1000000 in
theorem rnew_yes (n : Nat) (A : Option Addr) (hs : List (Int × Int)) (c : Nat) (w : World) (hn : sizeOk n) (hl : hs.length ≤ 16) (hh : HoldsR w A hs) (hu : hs.all upright = true) :
    Calls Try.prog 11 #[.int .i64 n, .slice A hs.length c] w fun e w' => ∃ g rb R rc, e = .returned (.tuple #[.pointer (some ⟨g, 0, none⟩), .int .i64 0]) ∧ IsRef w' g rb R rc (List.replicate n 0) hs ∧ Below w.heap.size w w' ∧ w.heap.size ≤ g ∧ w.heap.size ≤ rb := by
  obtain ⟨h1, h2, h3⟩ := hn
  have h4 : ((n : Int) % 4 != 0) = false := by simp [h3]
  have h5 : (hs.length : Int) ≤ 16 := by omega
  have cs0 : Try.prog.cellsOf 60 = 2 := by kernel_rfl
  have HU := Lib.hid hu
  clear h3 hu
  go_enter Try.func11, Try.ntmps11
  go_wp2
  go_loopw [6] (fun i wr => ∃ k : Nat, k ≤ hs.length ∧ i = .int .i64 k ∧ Below w.heap.size w wr ∧ (hs.take k).all upright = true) (fun i _ => hs.length - (intOf i).toNat)
  case atStart => exact ⟨0, Nat.zero_le _, rfl, Below.refl _ _, by simp⟩
  case round =>
    obtain ⟨k, hk, rfl, hbl, hno⟩ := hrel
    have HNO := Lib.hid hno
    clear hno
    by_cases hlt : k < hs.length
    · have hp := List.getElem?_eq_getElem hlt
      generalize hs[k] = p at hp
      obtain ⟨b, o, rfl, hc⟩ := (hh.below hbl).1 (by omega)
      obtain ⟨q1, q2⟩ := hc k p hp
      have HP := Lib.hid hp
      clear hp hc
      by_cases hpp : p.2 < p.1
      · exfalso
        have e := List.all_eq_true.1 HU.out p (List.mem_of_getElem? HP.out)
        simp [upright] at e
        omega
      · have hpp2 : p.1 ≤ p.2 := by omega
        clear hpp
        go_wp2
        go_quiet (fail)
        go_wp2
        go_roundw
        case rel => exact ⟨k + 1, by omega, by go_num, below_drewN hbl _, all_take HP.out HNO.out (by simpa [upright] using hpp2)⟩
        case measure => simp [intOf]; omega
    · have hmk := fun W : World => make_bytes n (by omega) W
      obtain ⟨i0, hi, hz0, hz1, hz2⟩ := info_parts info_rhole
      obtain ⟨zs, hzs⟩ : ∃ zs, bv (List.replicate n 0) = zs := ⟨_, rfl⟩
      obtain ⟨us, hus⟩ : ∃ us, hv hs = us := ⟨_, rfl⟩
      rw [hzs] at hmk
      have hsrc := fun W (h : Below w.heap.size w W) => hh.src h
      rw [hus] at hsrc
      have HZ := Lib.hid hzs
      have HUS := Lib.hid hus
      have HSRC := Lib.hid hsrc
      have hle : hs.length ≤ k := by omega
      clear hzs hus hsrc hlt
      have hsz := hbl.size
      have L1 := (World.ownsRow_lit (base := w.heap.size) (e := 60) (size := 2) (wr.alloc (.cells zs.toArray 5)) #[] 0 (by rw [World.size_alloc]; omega) (by unfold maxLen; omega) rfl).drew
      rw [World.size_alloc] at L1
      have L3 := World.ownsRow_lit (base := w.heap.size) (e := 60) (size := 2) wr #[] 0 hsz (by unfold maxLen; omega) rfl
      have L2 := (L3.alloc (.cells zs.toArray 5)).drew
      have T0 := hbl.alloc hsz (.cells zs.toArray 5)
      have T1 := (T0.alloc T0.size (.cells #[] 60)).drew
      have T3a := hbl.alloc hsz (.cells #[] 60)
      have T2 := (T3a.alloc T3a.size (.cells zs.toArray 5)).drew
      have T3 := T3a.drew
      have s1 : ((wr.alloc (.cells zs.toArray 5)).alloc (.cells #[] 60)).heap.size = wr.heap.size + 1 + 1 := by simp
      have s2 : ((wr.alloc (.cells #[] 60)).alloc (.cells zs.toArray 5)).heap.size = wr.heap.size + 1 + 1 := by simp
      have S1 := Lib.hid s1
      have S2 := Lib.hid s2
      clear s1 s2
      go_wp2
      go_region_law (refine step_append_src rfl (.tmp 42) (.tmp 43) _ rfl w.heap.size 60 i0 _ 2 8 Try.underlying22 hi hz0 hz1 hz2 rfl (by decide) _ 0 [] (by simp [Act.eval]; rfl) (by first | exact L1 | exact L2 | exact L3.drew) A hs.length c us (by simp [Act.eval]) (HSRC.out _ (by first | exact T1 | exact T2 | exact T3)) (by unfold maxLen; omega) (by omega) (by first | exact T1.size | exact T2.size | exact T3.size) ?_; intro v' w2 hown2 hg2; obtain ⟨R, rc, rfl⟩ := row_slice hown2)
      · have B1 := ((Blok.made wr 5 zs).alloc (.cells #[] 60)).drew
        have hg3 : (((wr.alloc (.cells zs.toArray 5)).alloc (.cells #[] 60)).drew).grownBy w2 (some (wr.heap.size + 1)) := hg2
        have B2 := B1.only hg3 (by omega)
        have T4 := T1.grown hg3 T1.size (fun q hq => by injection hq with hq; omega)
        have hown3 : w2.ownsRow w.heap.size 60 2 (.slice R hs.length rc) hs.length us := by
          rw [Nat.zero_add, List.nil_append] at hown2
          exact hown2
        have B4 := Blok.made w2 45 [.slice (some ⟨wr.heap.size, 0, none⟩) n n, .slice R hs.length rc]
        have z4 := T4.size
        go_wp2
        go_ret2
        exact ⟨w2.heap.size, wr.heap.size, R, rc, rfl, ref_of HZ.out HUS.out B4 (B2.alloc _) (hown3.alloc _) (by omega) hl hh.2, T4.alloc z4 _, z4, by omega⟩
      · have B1 := (Blok.made (wr.alloc (.cells #[] 60)) 5 zs).drew
        rw [World.size_alloc] at B1
        have hg3 : (((wr.alloc (.cells #[] 60)).alloc (.cells zs.toArray 5)).drew).grownBy w2 (some wr.heap.size) := hg2
        have B2 := B1.only hg3 (by omega)
        have T4 := T2.grown hg3 T2.size (fun q hq => by injection hq with hq; omega)
        have hown3 : w2.ownsRow w.heap.size 60 2 (.slice R hs.length rc) hs.length us := by
          rw [Nat.zero_add, List.nil_append] at hown2
          exact hown2
        have B4 := Blok.made w2 45 [.slice (some ⟨(wr.heap.size + 1), 0, none⟩) n n, .slice R hs.length rc]
        have z4 := T4.size
        go_wp2
        go_ret2
        exact ⟨w2.heap.size, (wr.heap.size + 1), R, rc, rfl, ref_of HZ.out HUS.out B4 (B2.alloc _) (hown3.alloc _) (by omega) hl hh.2, T4.alloc z4 _, z4, by omega⟩
      · have hg3 : ((wr.alloc (.cells #[] 60)).drew).grownBy w2 (some wr.heap.size) := hg2
        have B2 := Blok.made w2 5 zs
        have T4 := T3.grown hg3 T3.size (fun q hq => by injection hq with hq; omega)
        have hown3 : w2.ownsRow w.heap.size 60 2 (.slice R hs.length rc) hs.length us := by
          rw [Nat.zero_add, List.nil_append] at hown2
          exact hown2
        have B4 := Blok.made (w2.alloc (.cells zs.toArray 5)) 45 [.slice (some ⟨w2.heap.size, 0, none⟩) n n, .slice R hs.length rc]
        rw [World.size_alloc] at B4
        have z4 := T4.size
        have T5 := T4.alloc z4 (.cells zs.toArray 5)
        go_wp2
        go_ret2
        exact ⟨w2.heap.size + 1, w2.heap.size, R, rc, rfl, ref_of HZ.out HUS.out B4 (B2.alloc _) ((hown3.alloc _).alloc _) (by omega) hl hh.2, T5.alloc T5.size _, by omega, z4⟩
end Go.Proofs.Ytkcblemiphpmaaa
