/- One act on both memories: Put, and what is no act. -/
import Derived.Test.YtkcblemiphpmaaaDo
import Derived.Deep.DeepCutAuto
namespace Go.Proofs.Ytkcblemiphpmaaa
open Go.RowKit
set_option linter.unusedVariables false

theorem Holds.only {w w' : World} {A : Option Addr} {xs : List UInt8} {x : Nat} (h : Holds w A xs) (hg : w.grownBy w' (some x)) (hne : 0 < xs.length → ∀ ad, A = some ad → ad.block ≠ x) : Holds w' A xs := fun h0 => by
  obtain ⟨ad, e, hc⟩ := h h0
  refine ⟨ad, e, fun j u hj => ?_⟩
  have hcj := hc j u hj
  have hb : (ad.add j).block = ad.block := by unfold Addr.add; split <;> rfl
  have hlt : ad.block < w.heap.size := by rw [← hb]; exact block_lt_of_cell hcj
  exact (World.cell?_of_block (w := w) (by rw [hb]; exact hg.block ad.block hlt (fun q => hne h0 ad e (by injection q)))).trans hcj
theorem Holds.src {w : World} {A : Option Addr} {xs : List UInt8} (h : Holds w A xs) : Src w A xs.length 1 (bv xs) :=
  ⟨by rw [length_bv]; omega, fun h0 => h h0, one_bv xs⟩
theorem Holds.lt {w : World} {A : Option Addr} {xs : List UInt8} (h : Holds w A xs) (h0 : 0 < xs.length) {ad : Addr} (e : A = some ad) : ad.block < w.heap.size := by
  obtain ⟨ad', e', hc⟩ := h h0
  rw [e] at e'
  injection e' with e'
  subst e'
  have hcj := hc 0 _ (List.getElem?_eq_getElem (by rw [length_bv]; exact h0))
  have hb : (ad.add 0).block = ad.block := by unfold Addr.add; split <;> rfl
  rw [← hb]
  exact block_lt_of_cell hcj
theorem row_at {w : World} {B : Nat} {A : Option Addr} {n c : Nat} {e : TypeId} {size : Nat} {xs : List Value} (h : w.ownsRow B e size (.slice A n c) n xs) (h0 : 0 < n) : ∃ g, A = some ⟨g, 0, none⟩ ∧ B ≤ g ∧ g < w.heap.size := by
  obtain ⟨g, cap, e', hb, hlt⟩ := h.form h0
  have hA : A = some ⟨g, 0, none⟩ := by injection e'
  exact ⟨g, hA, hb, hlt⟩
theorem length_putA (bs xs : List UInt8) (at_ : Int) (a0 : 0 ≤ at_) : (putA bs at_ xs).length = bs.length := by
  unfold putA
  split
  · rfl
  · rw [length_splice]
    omega
theorem row_only {w w' : World} {B n : Nat} {e : TypeId} {size : Nat} {v : Value} {xs : List Value} {x : Nat} (h : w.ownsRow B e size v n xs) (hg : w.grownBy w' (some x)) (hx : x < B) : w'.ownsRow B e size v n xs := by
  refine h.kept hg ?_
  have hl := h.lt
  cases hv' : v.ownBlock with
  | none => exact .inl rfl
  | some k =>
    right
    have := (hl k hv').1
    intro q
    injection q with q
    omega
theorem row_blok {w : World} {B n c g : Nat} {e : TypeId} {size : Nat} {xs : List Value} (h : w.ownsRow B e size (.slice (some ⟨g, 0, none⟩) n c) n xs) : ∃ cs, Blok w g e cs := by
  rcases h.2 with ⟨e2, _⟩ | ⟨g', cap, cur, e2, _, hh, _⟩
  · cases e2
  · injection e2 with e2
    injection e2 with e2
    injection e2 with e2
    subst e2
    exact ⟨cur.toList, by unfold Blok; simpa using hh⟩
set_option maxRecDepth 100000 in
set_option maxHeartbeats 1000000 in
theorem do_put (a : ActD) (g bb hb rg rb : Nat) (R : Option Addr) (rc : Nat) (bs : List UInt8) (hs : List (Int × Int)) (w0 w : World) (h : Both w w0.heap.size g bb hb rg rb R rc bs hs) (hbl : Below w0.heap.size w0 w) (ha0 : okAct w0 a) (hlen : a.xs.length ≤ 400) (hk : a.kind = 3) :
    Calls Try.prog 14 #[.pointer (some ⟨g, 0, none⟩), .pointer (some ⟨rg, 0, none⟩), .agg #[.int .i64 a.kind, .int .i64 a.n, .int .u32 a.at_, .int .u32 a.v, .slice a.A a.xs.length a.c]] w (Did w0 g bb hb rg rb R rc bs.length hs) := by
  have ha := ha0.below hbl
  have hlt0 := fun h0 ad e => ha0.2.2.2.2.1.lt h0 (ad := ad) e
  obtain ⟨_, _, ⟨a0, a1⟩, _, hh0, _⟩ := ha
  have hbox : Below w.heap.size w (w.alloc (.cells #[.int .i64 3, .int .i64 a.n, .int .u32 a.at_, .int .u32 a.v, .slice a.A a.xs.length a.c] 39)) := (Below.refl _ _).alloc (Nat.le_refl _) _
  have hB := Box.new w a 3
  have hx1 : bb < w.heap.size := h.mem.bytes.lt
  have hx2 : rb < w.heap.size := h.ref.bytes.lt
  have hsz := h.b3
  have hb1 := h.b1
  have hb2 := h.b2
  have hne := h.ne
  have hbox2 := hbox.alloc hbox.size (.cells #[] 5)
  have hB2 := hB.alloc (.cells #[] 5)
  have hh2 := hh0.below hbox2
  have hown := World.ownsRow_lit (base := w.heap.size) (e := 5) (w.alloc (.cells #[.int .i64 3, .int .i64 a.n, .int .u32 a.at_, .int .u32 a.v, .slice a.A a.xs.length a.c] 39)) #[] (size := 1) 0 hbox.size (by unfold maxLen; omega) rfl
  rw [World.size_alloc] at hown
  obtain ⟨i0, hi, hz0, hz1, hz2⟩ := info_parts info_u8
  have k4 : ((w.alloc (.cells #[.int .i64 3, .int .i64 a.n, .int .u32 a.at_, .int .u32 a.v, .slice a.A a.xs.length a.c] 39)).alloc (.cells #[] 5)).cell? ⟨w.heap.size, 4, none⟩ = some (.slice a.A a.xs.length a.c) := hB2.at_ 4
  rw [hk]
  clear hk
  go_enter Try.func14, Try.ntmps14
  go_upto_region 18 with (at_builtin; refine wpList_append_src rfl (.tmp 104) (.tmp 106) _ rfl w.heap.size 5 i0 _ 1 1 Try.underlying37 hi hz0 hz1 hz2 rfl (by decide) _ 0 [] rfl hown a.A a.xs.length a.c (bv a.xs) rfl hh2.src (by unfold maxLen; omega) (by omega) (by simp; omega) ?_; intro v' w1 hown1 hg1; obtain ⟨A2, c2, rfl⟩ := row_slice hown1)
  have hown2 : w1.ownsRow w.heap.size 5 1 (.slice A2 a.xs.length c2) a.xs.length (bv a.xs) := by
    rw [Nat.zero_add] at hown1
    exact hown1
  clear hown1
  have hg1' : ((w.alloc (.cells #[.int .i64 3, .int .i64 a.n, .int .u32 a.at_, .int .u32 a.v, .slice a.A a.xs.length a.c] 39)).alloc (.cells #[] 5)).grownBy w1 (some (w.heap.size + 1)) := hg1
  clear hg1
  have t1 := hbox2.grown hg1' hbox2.size (fun q hq => by injection hq with hq; omega)
  have h1 := h.below t1
  have p1 : Box w1 w.heap.size a 3 := Blok.only hB2 hg1' (by omega)
  have p1d : Box w1.drew w.heap.size a 3 := p1
  have hh3 : Holds w1 a.A a.xs := hh0.below t1
  have hv1 : Holds w1 A2 a.xs := row_holds hown2 rfl
  have cva := conv_holds w1.drew a.A a.xs _ a.c rfl hh3
  have cvb := conv_holds w1.drew A2 a.xs _ c2 rfl hv1
  have hA2 : 0 < a.xs.length → ∀ ad, A2 = some ad → w.heap.size ≤ ad.block := fun h0 ad e => by
    obtain ⟨gg, e2, q, _⟩ := row_at hown2 h0
    rw [e] at e2
    injection e2 with e2
    rw [e2]
    exact q
  go_cut [128] (fun s wx => s = .bool false ∧ ∃ w2, Both wx w0.heap.size g bb hb rg rb R rc (putA bs a.at_ a.xs) hs ∧ w1.drew.grownBy w2 (some bb) ∧ w2.grownBy wx (some rb))
  case first =>
    have k1 := p1d.c2
    have k2 := p1d.c4
    go_region_held3 (fun W => W.cell? ⟨w.heap.size, 2, none⟩ = some (.int .u32 a.at_) ∧ W.cell? ⟨w.heap.size, 4, none⟩ = some (.slice a.A a.xs.length a.c) ∧ (convert 37 9 (.slice A2 a.xs.length c2)).run Try.prog W = .ok (.string ⟨a.xs.toArray⟩) W ∧ (convert 37 9 (.slice a.A a.xs.length a.c)).run Try.prog W = .ok (.string ⟨a.xs.toArray⟩) W) (refine ⟨?_, ?_, ?_, ?_⟩ <;> first | assumption | exact p3.c2 | exact p3.c4 | exact cvb3 | exact cva3 | exact p2.c2 | exact p2.c4 | exact cvb2 | exact cva2 | exact p1d.c2 | exact p1d.c4 | exact cvb | exact cva)
      (first | (go_at_call 19; refine (put_any g bb hb bs hs a.at_ a0 a1 A2 a.xs c2 _ h1.drew.mem (row_holds hown2.drew rfl)).mono ?_; rintro e w2 ⟨rfl, hm2, hg2⟩; have p2 := p1d.only hg2 (by omega); have hv2 := Holds.only (w := w1.drew) hv1 hg2 (fun h0 ad e => by have := hA2 h0 ad e; omega); have hh4 := Holds.only (w := w1.drew) hh3 hg2 (fun h0 ad e => by have := hlt0 h0 ad e; omega); have cva2 := conv_holds w2 a.A a.xs _ a.c rfl hh4; have cvb2 := conv_holds w2 A2 a.xs _ c2 rfl hv2) | (go_at_call 12; refine (num_any _ (by unfold putE; split <;> omega) (by unfold putE; split <;> omega) _).mono ?_; rintro e w' ⟨rfl, rfl⟩) | (go_at_call 24; refine (rput_any rg rb R rc bs hs a.at_ a0 a1 a.A a.xs a.c _ (IsRef.only h1.drew.ref h1.drew.mem.bytes hg2 (by omega)) hh4 (fun h0 ad e => by have := hlt0 h0 ad e; omega) (by omega)).mono ?_; rintro e w3 ⟨rfl, hr3, hg3⟩; have p3 := p2.only hg3 (by omega); have hv3 := Holds.only hv2 hg3 (fun h0 ad e => by have := hA2 h0 ad e; omega); have hh5 := Holds.only hh4 hg3 (fun h0 ad e => by have := hlt0 h0 ad e; omega); have cva3 := conv_holds w3 a.A a.xs _ a.c rfl hh5; have cvb3 := conv_holds w3 A2 a.xs _ c2 rfl hv3))
    all_goals
      go_wp2_with fail
      go_meet
      exact ⟨rfl, w2, ⟨hm2.only8 (IsRef.only h1.drew.ref h1.drew.mem.bytes hg2 (by omega)).bytes hg3 hne, hr3, hb1, hb2, Nat.le_trans (Nat.le_trans h1.drew.b3 hg2.size) hg3.size, hne⟩, hg2, hg3⟩
  case rest =>
    obtain ⟨rfl, w2, hbo, hg2, hg3⟩ := hcut
    have hln := length_putA bs a.xs a.at_ a0
    generalize putA bs a.at_ a.xs = bs' at hbo hln
    have HLN := Lib.hid hln
    clear hln cva cvb
    have hown3 := row_only (row_only hown2.drew hg2 hx1) hg3 hx2
    have z1 : w.heap.size ≤ w2.heap.size := Nat.le_trans t1.size hg2.size
    have t2 := below_of_only ((hbl.trans (t1.mono hsz)).drew) hg2 (Nat.le_trans hsz t1.size) hb1
    have t3 := below_of_only t2 hg3 (by omega) hb2
    have hwc := hg3.size
    by_cases h0 : a.xs.length = 0
    · have hle : a.xs.length ≤ 0 := by omega
      clear h0
      go_wp2
      go_loop [14] (fun i => i = .int .i64 0) (fun _ => 0)
      case atStart => rfl
      case round =>
        subst hrel
        go_wp2
        go_ret
        exact ⟨rfl, bs', HLN.out, hbo, t3⟩
    · obtain ⟨g2, rfl, hg2l, _⟩ := row_at hown3 (by omega)
      go_wp2
      go_loopw [14] (fun i wr => ∃ (k : Nat) (L' : List UInt8), k ≤ a.xs.length ∧ L'.length = a.xs.length ∧ i = .int .i64 k ∧ wr.ownsRow w.heap.size 5 1 (.slice (some ⟨g2, 0, none⟩) a.xs.length c2) a.xs.length (bv L') ∧ Both wr w0.heap.size g bb hb rg rb R rc bs' hs ∧ Below w0.heap.size w0 wr) (fun i _ => a.xs.length - (intOf i).toNat)
      case atStart => exact ⟨0, a.xs, by omega, rfl, rfl, hown3, hbo, t3⟩
      case round =>
        obtain ⟨k, L', hk1, hL', rfl, hbk, hbo', hbe⟩ := hrel
        have HL' := Lib.hid hL'
        clear hL'
        by_cases hlt : k < a.xs.length
        · obtain ⟨x, x0, x1, hx⟩ := byteOf_get L' k (by rw [HL'.out]; exact hlt)
          have c1 : wr.cell? ⟨g2, k, none⟩ = some (.int .u8 x) := (hbk.cellAt k (by omega)).trans hx
          have f1 := hbk.frozenAt k
          clear hx
          go_wp2
          go_roundw
          case rel =>
            have hbe2 := byteOf_toNat ((x + 1) % 256) (by omega) (by omega)
            obtain ⟨cs, hcs⟩ := row_blok hbk
            obtain ⟨hset, hg4⟩ := hbk.stored k (.int .u8 ((byteOf ((x + 1) % 256)).toNat : Int))
            rw [bv_set] at hset
            have hbo2 := hbo'.only hcs hg4 (by omega) (by omega)
            rw [hbe2] at hset hg4 hbo2
            exact ⟨k + 1, L'.set k (byteOf ((x + 1) % 256)), by omega, by simpa using HL'.out, by go_num, hset, hbo2, below_of_only hbe hg4 hbo'.b3 (by omega)⟩
          case measure => simp [intOf]; omega
        · go_wp2
          go_ret
          exact ⟨rfl, bs', HLN.out, hbo', hbe⟩
theorem do_other (a : ActD) (g bb hb rg rb : Nat) (R : Option Addr) (rc : Nat) (bs : List UInt8) (hs : List (Int × Int)) (w0 w : World) (h : Both w w0.heap.size g bb hb rg rb R rc bs hs) (hbl : Below w0.heap.size w0 w) (k0 : (a.kind == 0) = false) (k1 : (a.kind == 1) = false) (k2 : (a.kind == 2) = false) (k3 : (a.kind == 3) = false) :
    Calls Try.prog 14 #[.pointer (some ⟨g, 0, none⟩), .pointer (some ⟨rg, 0, none⟩), .agg #[.int .i64 a.kind, .int .i64 a.n, .int .u32 a.at_, .int .u32 a.v, .slice a.A a.xs.length a.c]] w (Did w0 g bb hb rg rb R rc bs.length hs) := by
  have hbox : Below w.heap.size w (w.alloc (.cells #[.int .i64 a.kind, .int .i64 a.n, .int .u32 a.at_, .int .u32 a.v, .slice a.A a.xs.length a.c] 39)) := (Below.refl _ _).alloc (Nat.le_refl _) _
  go_enter Try.func14, Try.ntmps14
  go_wp2_with fail
  go_ret
  exact ⟨rfl, bs, rfl, h.below hbox, hbl.trans (hbox.mono h.b3)⟩
end Go.Proofs.Ytkcblemiphpmaaa
