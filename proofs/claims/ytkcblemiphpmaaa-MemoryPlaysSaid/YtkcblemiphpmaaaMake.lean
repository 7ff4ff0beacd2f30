/- What New and Clone answer. -/
import Derived.Test.YtkcblemiphpmaaaNew
import Derived.RegionTactic
import Derived.Deep.RegionWith
import Derived.Deep.Heap
namespace Go.Proofs.Ytkcblemiphpmaaa
open Go.RowKit
set_option linter.unusedVariables false

/-- The holes that a slice holds; nothing is asked of the address of none. -/
def HoldsH (w : World) (A : Option Addr) (hs : List (Int × Int)) : Prop := 0 < hs.length → ∃ b, A = some ⟨b, 0, none⟩ ∧ b < w.heap.size ∧ ∀ j u, (hv hs)[j]? = some u → w.cell? ⟨b, j, none⟩ = some u
theorem HoldsH.hole {w w1 : World} {A : Option Addr} {hs : List (Int × Int)} (h : HoldsH w A hs) (hb : Below w.heap.size w w1) {k : Nat} {p : Int × Int} (hk : hs[k]? = some p) :
    ∃ b, A = some ⟨b, 0, none⟩ ∧ w1.cell? ⟨b, k * 2, none⟩ = some (.int .u32 p.1) ∧ w1.cell? ⟨b, k * 2 + 1, none⟩ = some (.int .u32 p.2) := by
  have hl : k < hs.length := (List.getElem?_eq_some_iff.1 hk).1
  obtain ⟨b, rfl, hlt, hc⟩ := h (by omega)
  have e := hv_at hs k p hk
  rw [show 2 * k = k * 2 by omega] at e
  exact ⟨b, rfl, by rw [hb.cell (p := ⟨b, k * 2, none⟩) hlt]; exact hc _ _ e.1, by rw [hb.cell (p := ⟨b, k * 2 + 1, none⟩) hlt]; exact hc _ _ e.2⟩
theorem HoldsH.src {w W : World} {A : Option Addr} {hs : List (Int × Int)} (h : HoldsH w A hs) (hb : Below w.heap.size w W) (h0 : 0 < hs.length) :
    ∃ ad, A = some ad ∧ ∀ j v, (hv hs)[j]? = some v → W.cell? (ad.add j) = some v := by
  obtain ⟨b, rfl, hlt, hc⟩ := h h0
  refine ⟨_, rfl, fun j v hj => ?_⟩
  rw [addr_add, Nat.zero_add, hb.cell (p := ⟨b, j, none⟩) hlt]
  exact hc j v hj
theorem one_hv (l : List (Int × Int)) : ∀ v ∈ hv l, v.oneCell' = true := by
  induction l with
  | nil => simp [hv]
  | cons h r ih =>
    intro v hv'
    simp only [hv, List.mem_cons] at hv'
    rcases hv' with rfl | rfl | h'
    · rfl
    · rfl
    · exact ih v h'
theorem Blok.only {w w' : World} {g x : Nat} {t : TypeId} {cs : List Value} (h : Blok w g t cs) (hg : w.grownBy w' (some x)) (hne : g ≠ x) : Blok w' g t cs :=
  h.keep (hg.block g h.lt (fun e => hne (by injection e)))
theorem three (w : World) (c1 c2 c3 : List Value) (t1 t2 t3 : TypeId) :
    Blok ((((w.alloc (.cells c1.toArray t1)).alloc (.cells c2.toArray t2)).alloc (.cells c3.toArray t3)).drew) w.heap.size t1 c1 ∧
    Blok ((((w.alloc (.cells c1.toArray t1)).alloc (.cells c2.toArray t2)).alloc (.cells c3.toArray t3)).drew) (w.heap.size + 1) t2 c2 ∧
    Blok ((((w.alloc (.cells c1.toArray t1)).alloc (.cells c2.toArray t2)).alloc (.cells c3.toArray t3)).drew) (w.heap.size + 1 + 1) t3 c3 ∧
    Below w.heap.size w ((((w.alloc (.cells c1.toArray t1)).alloc (.cells c2.toArray t2)).alloc (.cells c3.toArray t3)).drew) := by
  have e1 := ((Blok.made w t1 c1).alloc (.cells c2.toArray t2)).alloc (.cells c3.toArray t3)
  have e2 := (Blok.made (w.alloc (.cells c1.toArray t1)) t2 c2).alloc (.cells c3.toArray t3)
  have e3 := Blok.made ((w.alloc (.cells c1.toArray t1)).alloc (.cells c2.toArray t2)) t3 c3
  have s1 : (w.alloc (.cells c1.toArray t1)).heap.size = w.heap.size + 1 := by simp
  have s2 : ((w.alloc (.cells c1.toArray t1)).alloc (.cells c2.toArray t2)).heap.size = w.heap.size + 1 + 1 := by simp
  rw [s1] at e2
  rw [s2] at e3
  exact ⟨e1.drew, e2.drew, e3.drew, ((((Below.refl _ w).alloc (Nat.le_refl _) _).alloc (by rw [s1]; omega) _).alloc (by rw [s2]; omega) _).drew⟩
theorem all_take {f : Int × Int → Bool} {hs : List (Int × Int)} {k : Nat} {p : Int × Int} (hk : hs[k]? = some p) (ht : (hs.take k).all f = true) (hp : f p = true) : (hs.take (k + 1)).all f = true := by
  rw [List.take_add_one, hk]
  simp only [List.all_append, ht, Option.toList_some, List.all_cons, hp, List.all_nil, Bool.and_self]

theorem new_size (n : Int) (A : Option Addr) (l c : Nat) (w : World) (hn : ¬ sizeOk n) (n0 : -9223372036854775808 ≤ n) (n1 : n ≤ 9223372036854775807) :
    Calls Try.prog 9 #[.int .i64 n, .slice A l c] w (Gives (.tuple #[.pointer none, .int .i64 1]) w) := by
  by_cases h1 : n < 4
  · go_enter Try.func9, Try.ntmps9
    go_wp2
    go_ret2
    exact ⟨rfl, Below.refl _ _⟩
  by_cases h2 : 1048576 < n
  · go_enter Try.func9, Try.ntmps9
    go_wp2
    go_ret2
    exact ⟨rfl, Below.refl _ _⟩
  · have h3 : (n % 4 != 0) = true := by
      rw [bne_iff_ne]
      intro e
      exact hn ⟨by omega, by omega, e⟩
    have h4 : 4 ≤ n := by omega
    have h5 : n ≤ 1048576 := by omega
    clear h1 h2 hn
    go_enter Try.func9, Try.ntmps9
    go_wp2
    go_ret2
    exact ⟨rfl, Below.refl _ _⟩
theorem new_many (n : Int) (A : Option Addr) (l c : Nat) (w : World) (hn : sizeOk n) (hl : 16 < l) (hm : l ≤ 9223372036854775807) :
    Calls Try.prog 9 #[.int .i64 n, .slice A l c] w (Gives (.tuple #[.pointer none, .int .i64 1]) w) := by
  obtain ⟨h1, h2, h3⟩ := hn
  have h4 : (n % 4 != 0) = false := by simp [h3]
  have h5 : (16 : Int) < l := by omega
  clear h3
  go_enter Try.func9, Try.ntmps9
  go_wp2
  go_ret2
  exact ⟨rfl, Below.refl _ _⟩
set_option maxHeartbeats 400000 in
theorem new_askew (n : Int) (A : Option Addr) (hs : List (Int × Int)) (c : Nat) (w : World) (hn : sizeOk n) (hl : hs.length ≤ 16) (hh : HoldsH w A hs) (hu : hs.all upright = false) :
    Calls Try.prog 9 #[.int .i64 n, .slice A hs.length c] w (Gives (.tuple #[.pointer none, .int .i64 1]) w) := by
  obtain ⟨h1, h2, h3⟩ := hn
  have h4 : (n % 4 != 0) = false := by simp [h3]
  have h5 : (hs.length : Int) ≤ 16 := by omega
  have cs0 : Try.prog.cellsOf 59 = 2 := by kernel_rfl
  have HU := Lib.hid hu
  clear h3 hu
  go_enter Try.func9, Try.ntmps9
  go_wp2
  go_loopw [27] (fun i wr => ∃ k : Nat, k ≤ hs.length ∧ i = .int .i64 k ∧ Below w.heap.size w wr ∧ (hs.take k).all upright = true) (fun i _ => hs.length - (intOf i).toNat)
  case atStart => exact ⟨0, Nat.zero_le _, rfl, Below.refl _ _, by simp⟩
  case round =>
    obtain ⟨k, hk, rfl, hbl, hno⟩ := hrel
    have HNO := Lib.hid hno
    clear hno
    by_cases hlt : k < hs.length
    · have hp := List.getElem?_eq_getElem hlt
      generalize hs[k] = p at hp
      obtain ⟨b, rfl, q1, q2⟩ := hh.hole hbl hp
      have HP := Lib.hid hp
      clear hp
      by_cases hpp : p.2 < p.1
      · go_wp2
        go_ret2
        exact ⟨rfl, hbl.trans ((((Below.refl wr.heap.size wr).alloc (Nat.le_refl _) _)).mono hbl.size)⟩
      · have hpp2 : p.1 ≤ p.2 := by omega
        clear hpp
        go_wp2
        go_roundw
        case rel => exact ⟨k + 1, by omega, by go_num, hbl.trans ((((Below.refl wr.heap.size wr).alloc (Nat.le_refl _) _)).mono hbl.size), all_take HP.out HNO.out (by simpa [upright] using hpp2)⟩
        case measure => simp [intOf]; omega
    · exfalso
      have e := HNO.out
      rw [List.take_of_length_le (by omega), HU.out] at e
      cases e
set_option maxHeartbeats 400000 in
theorem new_yes (n : Nat) (A : Option Addr) (hs : List (Int × Int)) (c : Nat) (w : World) (hn : sizeOk n) (hl : hs.length ≤ 16) (hh : HoldsH w A hs) (hok : okHoles hs) (hu : hs.all upright = true) :
    Calls Try.prog 9 #[.int .i64 n, .slice A hs.length c] w fun e w' => ∃ g bb hb, e = .returned (.tuple #[.pointer (some ⟨g, 0, none⟩), .int .i64 0]) ∧ IsMem w' g bb hb (List.replicate n 0) hs ∧ Below w.heap.size w w' ∧ w.heap.size ≤ g ∧ w.heap.size ≤ bb ∧ w.heap.size ≤ hb := by
  obtain ⟨h1, h2, h3⟩ := hn
  have h4 : ((n : Int) % 4 != 0) = false := by simp [h3]
  have h5 : (hs.length : Int) ≤ 16 := by omega
  have cs0 : Try.prog.cellsOf 59 = 2 := by kernel_rfl
  have HU := Lib.hid hu
  have HM := Lib.hid h3
  clear h3 hu
  go_enter Try.func9, Try.ntmps9
  go_wp2
  go_loopw [27] (fun i wr => ∃ k : Nat, k ≤ hs.length ∧ i = .int .i64 k ∧ Below w.heap.size w wr ∧ (hs.take k).all upright = true) (fun i _ => hs.length - (intOf i).toNat)
  case atStart => exact ⟨0, Nat.zero_le _, rfl, Below.refl _ _, by simp⟩
  case round =>
    obtain ⟨k, hk, rfl, hbl, hno⟩ := hrel
    have HNO := Lib.hid hno
    clear hno
    by_cases hlt : k < hs.length
    · have hp := List.getElem?_eq_getElem hlt
      generalize hs[k] = p at hp
      obtain ⟨b, rfl, q1, q2⟩ := hh.hole hbl hp
      have HP := Lib.hid hp
      clear hp
      by_cases hpp : p.2 < p.1
      · exfalso
        have e := List.all_eq_true.1 HU.out p (List.mem_of_getElem? HP.out)
        simp [upright] at e
        omega
      · have hpp2 : p.1 ≤ p.2 := by omega
        clear hpp
        go_wp2
        go_roundw
        case rel => exact ⟨k + 1, by omega, by go_num, hbl.trans ((((Below.refl wr.heap.size wr).alloc (Nat.le_refl _) _)).mono hbl.size), all_take HP.out HNO.out (by simpa [upright] using hpp2)⟩
        case measure => simp [intOf]; omega
    · have hmk := fun W : World => make_bytes n (by omega) W
      have hmh := fun W : World => make_holes hs.length (by omega) W
      obtain ⟨zs, hzs⟩ : ∃ zs, bv (List.replicate n 0) = zs := ⟨_, rfl⟩
      obtain ⟨ys, hys⟩ : ∃ ys, hv (List.replicate hs.length (0, 0)) = ys := ⟨_, rfl⟩
      obtain ⟨us, hus⟩ : ∃ us, hv hs = us := ⟨_, rfl⟩
      rw [hzs] at hmk
      rw [hys] at hmh
      have hyl : ys.length = hs.length * 2 := by rw [← hys, length_hv]; simp; omega
      have hul : us.length = hs.length * 2 := by rw [← hus, length_hv]; omega
      have hu1 := one_hv hs
      have hsrc := fun W (h : Below w.heap.size w W) => hh.src h
      rw [hus] at hu1 hsrc
      have HZ := Lib.hid hzs
      have HY := Lib.hid hys
      have HUS := Lib.hid hus
      have HYL := Lib.hid hyl
      have HUL := Lib.hid hul
      have HSRC := Lib.hid hsrc
      clear hzs hys hus hyl hul hsrc
      go_wp2
      go_region
      · obtain ⟨B1, B2, B3, B4⟩ := three wr zs ys [.slice (some ⟨wr.heap.size, 0, none⟩) n n, .slice (some ⟨(wr.heap.size + 1), 0, none⟩) hs.length hs.length, .pointer none] 5 59 52
        have hsz := hbl.size
        have B6 := hbl.trans (B4.mono hsz)
        go_wp2_with (refine wpList_copy_wide rfl (.tmp 47) (.tmp 48) _ _ rfl 59 2 hs.length Try.underlying30 (by kernel_rfl) (some ⟨(wr.heap.size + 1), 0, none⟩) A hs.length hs.length hs.length c rfl rfl (wr.heap.size + 1) 0 ys 59 B2 us (Nat.min_self _).symm HUL.out (fun hp => ⟨rfl, HSRC.out _ B6 hp⟩) (by rw [HUL.out, HYL.out]; omega) hu1 ?_; intro w2 B5 G5; have B7 := B3.only G5 (by omega); have q2 := B7.at_ 2; have f2 := B7.free 2; simp only [List.getElem?_cons_succ, List.getElem?_cons_zero] at q2)
        go_ret2
        rw [splice_all _ _ (HYL.out.trans HUL.out.symm), ← HUS.out] at B5
        have B8 := B1.only G5 (by omega)
        rw [← HZ.out] at B8
        have B9 := B6.grown G5 (by have := B6.size; omega) (fun q hq => by injection hq with hq; omega)
        have B10 := B7.set_ 2 (.pointer (some ⟨wr.heap.size + 1 + 1, 0, none⟩))
        refine ⟨wr.heap.size + 1 + 1, wr.heap.size, (wr.heap.size + 1), rfl, ⟨?_, B8.far (by simp; try omega) _, B5.far (by simp; try omega) _, by simp; omega, hl, hok, by simpa [sizeOk, h1, h2] using HM.out, HU.out⟩, B9.setCell (by simp; omega) _, by omega, by omega, by omega⟩
        rw [List.length_replicate]
        exact B10
      · obtain ⟨B2, B1, B3, B4⟩ := three wr ys zs [.slice (some ⟨(wr.heap.size + 1), 0, none⟩) n n, .slice (some ⟨wr.heap.size, 0, none⟩) hs.length hs.length, .pointer none] 59 5 52
        have hsz := hbl.size
        have B6 := hbl.trans (B4.mono hsz)
        go_wp2_with (refine wpList_copy_wide rfl (.tmp 47) (.tmp 48) _ _ rfl 59 2 hs.length Try.underlying30 (by kernel_rfl) (some ⟨wr.heap.size, 0, none⟩) A hs.length hs.length hs.length c rfl rfl wr.heap.size 0 ys 59 B2 us (Nat.min_self _).symm HUL.out (fun hp => ⟨rfl, HSRC.out _ B6 hp⟩) (by rw [HUL.out, HYL.out]; omega) hu1 ?_; intro w2 B5 G5; have B7 := B3.only G5 (by omega); have q2 := B7.at_ 2; have f2 := B7.free 2; simp only [List.getElem?_cons_succ, List.getElem?_cons_zero] at q2)
        go_ret2
        rw [splice_all _ _ (HYL.out.trans HUL.out.symm), ← HUS.out] at B5
        have B8 := B1.only G5 (by omega)
        rw [← HZ.out] at B8
        have B9 := B6.grown G5 (by have := B6.size; omega) (fun q hq => by injection hq with hq; omega)
        have B10 := B7.set_ 2 (.pointer (some ⟨wr.heap.size + 1 + 1, 0, none⟩))
        refine ⟨wr.heap.size + 1 + 1, (wr.heap.size + 1), wr.heap.size, rfl, ⟨?_, B8.far (by simp; try omega) _, B5.far (by simp; try omega) _, by simp; omega, hl, hok, by simpa [sizeOk, h1, h2] using HM.out, HU.out⟩, B9.setCell (by simp; omega) _, by omega, by omega, by omega⟩
        rw [List.length_replicate]
        exact B10

theorem splice_whole {α : Type} (zs cs : List α) (h : zs.length = cs.length) : splice zs 0 cs = cs := by simp [splice, ← h]
set_option maxHeartbeats 400000 in
theorem clone_any (g bb hb : Nat) (bs : List UInt8) (hs : List (Int × Int)) (w : World) (h : IsMem w g bb hb bs hs) :
    Calls Try.prog 13 #[.pointer (some ⟨g, 0, none⟩)] w fun e w' => ∃ g' bb' hb', e = .returned (.pointer (some ⟨g', 0, none⟩)) ∧ IsMem w' g' bb' hb' bs hs ∧ Below w.heap.size w w' ∧ w.heap.size ≤ g' ∧ w.heap.size ≤ bb' ∧ w.heap.size ≤ hb' := by
  have c0 : w.cell? ⟨g, 0, none⟩ = some (.slice (some ⟨bb, 0, none⟩) bs.length bs.length) := h.self.at_ 0
  have c1 : w.cell? ⟨g, 1, none⟩ = some (.slice (some ⟨hb, 0, none⟩) hs.length hs.length) := h.self.at_ 1
  have hold : HoldsH w (some ⟨hb, 0, none⟩) hs := fun _ => ⟨hb, rfl, h.holes.lt, fun j u hj => (h.holes.at_ j).trans hj⟩
  go_enter Try.func13, Try.ntmps13
  go_wp2_with (first | (go_at_call 20; refine (made_any g bb hb bs hs _ h).mono ?_; rintro e w' ⟨rfl, rfl⟩))
  go_region_with (go_at_call 9; refine (new_yes bs.length (some ⟨hb, 0, none⟩) hs hs.length w.drew h.fit h.few hold h.ok h.up).mono ?_; rintro e w1 ⟨g', bb', hb', rfl, hm, hbl, q1, q2, q3⟩)
  all_goals
    have hbl2 : Below w.heap.size w w1 := ((Below.refl w.heap.size w).drew).trans hbl
    have h2 := h.below hbl2
    have c2 : w1.cell? ⟨g, 0, none⟩ = some (.slice (some ⟨bb, 0, none⟩) bs.length bs.length) := h2.self.at_ 0
    have d0 : w1.cell? ⟨g', 0, none⟩ = some (.slice (some ⟨bb', 0, none⟩) bs.length bs.length) := by
      have e := hm.self.at_ 0
      rw [List.length_replicate] at e
      exact e
    obtain ⟨ys, hys⟩ : ∃ ys, bv bs = ys := ⟨_, rfl⟩
    have hyl : ys.length = bs.length := by rw [← hys, length_bv]
    have hy1 : ∀ v ∈ ys, v.oneCell' = true := by rw [← hys]; exact one_bv _
    have CS : Hid (∀ j u, ys[j]? = some u → w1.drew.cell? ((⟨bb, 0, none⟩ : Addr).add j) = some u) := fun j u hj => by
      rw [addr_add, Nat.zero_add]
      rw [← hys] at hj
      exact (h2.bytes.drew.at_ j).trans hj
    obtain ⟨zs, hzs⟩ : ∃ zs, bv (List.replicate bs.length 0) = zs := ⟨_, rfl⟩
    have hzl : zs.length = bs.length := by rw [← hzs, length_bv]; simp
    have B1 : Blok w1.drew bb' 5 zs := by rw [← hzs]; exact hm.bytes.drew
    have HY := Lib.hid hys
    have HYL := Lib.hid hyl
    have HZ := Lib.hid hzs
    have HZL := Lib.hid hzl
    clear hys hyl hzs hzl
    go_wp2
    go_region_law (refine step_copy_blk rfl (.tmp 24) (.tmp 28) _ _ rfl 5 Try.underlying37 (by kernel_rfl) (some ⟨bb', 0, none⟩) (some ⟨bb, 0, none⟩) bs.length bs.length bs.length bs.length (by simp [Act.eval]) (by simp [Act.eval]) bb' 0 zs 5 B1 ys (HYL.out.trans (Nat.min_self _).symm) (fun _ => ⟨rfl, _, rfl, CS.out⟩) (by rw [HYL.out, HZL.out]; omega) hy1 ?_; intro w2 hb2 hg2)
    all_goals
      rw [← HZ.out, ← HY.out] at hb2
      have hm2 := hm.drew.wrote hg2 (k := 0) (xs := bs) hb2 (by simp)
      rw [splice_whole _ _ (by simp)] at hm2
      go_wp2
      go_ret
      exact ⟨g', bb', hb', rfl, hm2, (hbl2.drew).grown hg2 hbl2.size (fun q hq => by injection hq with hq; subst hq; exact q2), q1, q2, q3⟩
end Go.Proofs.Ytkcblemiphpmaaa
