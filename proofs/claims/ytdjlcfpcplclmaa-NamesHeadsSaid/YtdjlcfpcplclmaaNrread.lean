/- Read, of the document's answer: one contract. -/
import Derived.Test.YtdjlcfpcplclmaaNread
import Derived.Test.YtdjlcfpcplclmaaNrbytes
namespace Go.Proofs.Ytdjlcfpcplclmaa
open Go.RowKit T9
set_option linter.unusedVariables false
attribute [local go_sem] byte_get
theorem conv_part9 (w : World) (A : Option Addr) (b : Str) (n c : Nat) (xs : Str) (hx : xs = b.take n) (hn : n ≤ b.length) (h : Holds w A b) : (convert 28 9 (.slice A n c)).run Try.prog w = .ok (.string ⟨xs.toArray⟩) w := by
  subst hx
  refine conv_holds w A (b.take n) n c (by rw [List.length_take]; omega) ?_
  intro h0
  obtain ⟨ad, e, hc⟩ := h (by rw [List.length_take] at h0; omega)
  refine ⟨ad, e, fun j u hj => hc j u ?_⟩
  simp only [bv, List.map_take, List.getElem?_take] at hj
  split at hj
  · exact hj
  · cases hj
theorem hold_set {w : World} {ad p : Addr} {xs : List UInt8} (h : Holds w (some ad) xs) (v : Value) (hne : ad.block ≠ p.block) : Holds (w.setCell p v) (some ad) xs := fun h0 => by
  obtain ⟨ad', e, hc⟩ := h h0
  injection e with e
  subst e
  refine ⟨_, rfl, fun j u hj => ?_⟩
  have hb : (ad.add j).block = ad.block := by unfold Addr.add; split <;> rfl
  rw [World.cell?_setCell_far w p (ad.add j) v (by rw [hb]; exact fun q => hne q.symm)]
  exact hc j u hj
theorem rword_0 (b : Str) (ad : Addr) (n c : Nat) (w : World) (hn : n = b.length) (h4 : 14 ≤ b.length) (h5 : b.length ≤ maxLen) (hs : Holds w (some ad) b) : Calls Try.prog 25 #[.slice (some ad) n c, .int .i64 0] w fun e w' => e = .returned (.int .u32 (wordN b 0 : Int)) ∧ ∃ q, w' = w.drewN q := rword_any b 0 (some ad) n c w hn (by omega) h5 hs
theorem rword_4 (b : Str) (ad : Addr) (n c : Nat) (w : World) (hn : n = b.length) (h4 : 14 ≤ b.length) (h5 : b.length ≤ maxLen) (hs : Holds w (some ad) b) : Calls Try.prog 25 #[.slice (some ad) n c, .int .i64 4] w fun e w' => e = .returned (.int .u32 (wordN b 4 : Int)) ∧ ∃ q, w' = w.drewN q := rword_any b 4 (some ad) n c w hn (by omega) h5 hs
theorem rword_8 (b : Str) (ad : Addr) (n c : Nat) (w : World) (hn : n = b.length) (h4 : 14 ≤ b.length) (h5 : b.length ≤ maxLen) (hs : Holds w (some ad) b) : Calls Try.prog 25 #[.slice (some ad) n c, .int .i64 8] w fun e w' => e = .returned (.int .u32 (wordN b 8 : Int)) ∧ ∃ q, w' = w.drewN q := rword_any b 8 (some ad) n c w hn (by omega) h5 hs
theorem rread_short (b : Str) (A : Option Addr) (n c : Nat) (w : World) (hn : b.length = n) (hl : n ≤ maxLen) (hs : Holds w A b) (h : longB b = false) :
    Calls Try.prog 18 #[.slice A n c] w (GaveR b w) := by
  unfold maxLen at hl
  have e : readN b = none := by unfold readN; rw [h]; rfl
  have E := Lib.hid e
  have P : Hid (∀ w w' : World, Below w.heap.size w w' → GaveR b w (.returned (.tuple #[.agg #[.string ⟨#[]⟩, .int .i64 0, .int .u32 0, .int .u32 0, .int .u32 0], .int .i64 0, .int .i64 45])) w') := fun w w' hb => ⟨by unfold readH readL readE; rw [e]; rfl, hb⟩
  by_cases h14 : n < 14
  · clear h e
    go_enter Try.func18, Try.ntmps18
    go_wp2
    exact bodyPost_ret (v := .tuple #[.agg #[.string ⟨#[]⟩, .int .i64 0, .int .u32 0, .int .u32 0, .int .u32 0], .int .i64 0, .int .i64 45]) (by simp [results, Try.results18, go_sem]) rfl (P.out _ _ (by exact ((Below.refl _ _).alloc (Nat.le_refl _) _)))
  · obtain ⟨ad, rfl, hc⟩ := hs (by omega)
    have h13 : 13 < b.length := by omega
    have c13 := hc 13 _ (bv_get b 13 _ (List.getElem?_eq_getElem h13))
    rw [add_succ ad 12] at c13
    have hx := (b[13]'h13).toNat_lt
    have hlong : (n : Int) < (14 : Int) + ((b[13]'h13).toNat : Int) := by
      simp only [longB, Bool.and_eq_false_iff, decide_eq_false_iff_not, List.getElem?_eq_getElem h13, Option.getD_some] at h
      omega
    generalize (b[13]'h13).toNat = x at *
    have hlt := block_lt_of_cell c13
    clear h e hc hs
    go_enter Try.func18, Try.ntmps18
    go_wp2
    exact bodyPost_ret (v := .tuple #[.agg #[.string ⟨#[]⟩, .int .i64 0, .int .u32 0, .int .u32 0, .int .u32 0], .int .i64 0, .int .i64 45]) (by simp [results, Try.results18, go_sem]) rfl (P.out _ _ (by exact ((Below.refl _ _).alloc (Nat.le_refl _) _)))
theorem rread_made {b : Str} {x y : Nat} (hh : headN b = ⟨(b.drop 14).take x, (y : Int), wordN b 0, wordN b 4, wordN b 8⟩) (w : World) :
    Blok ((w.alloc (.cells #[.string ⟨#[]⟩, .int .i64 0, .int .u32 0, .int .u32 0, .int .u32 0] 27)).alloc (.cells #[.string ⟨((b.drop 14).take x).toArray⟩, .int .i64 (y : Int), .int .u32 (wordN b 0 : Int), .int .u32 (wordN b 4 : Int), .int .u32 (wordN b 8 : Int)] 27)).drew (w.heap.size + 1) 27 (hc (headN b)) ∧
    Blok ((w.alloc (.cells #[.string ⟨#[]⟩, .int .i64 0, .int .u32 0, .int .u32 0, .int .u32 0] 27)).alloc (.cells #[.string ⟨((b.drop 14).take x).toArray⟩, .int .i64 (y : Int), .int .u32 (wordN b 0 : Int), .int .u32 (wordN b 4 : Int), .int .u32 (wordN b 8 : Int)] 27)).drew w.heap.size 27 (hc zeroHd) ∧
    Below w.heap.size w ((w.alloc (.cells #[.string ⟨#[]⟩, .int .i64 0, .int .u32 0, .int .u32 0, .int .u32 0] 27)).alloc (.cells #[.string ⟨((b.drop 14).take x).toArray⟩, .int .i64 (y : Int), .int .u32 (wordN b 0 : Int), .int .u32 (wordN b 4 : Int), .int .u32 (wordN b 8 : Int)] 27)).drew := by
  rw [hh]
  refine ⟨?_, ?_, ?_⟩
  · exact (blok_at (w := w.alloc (.cells #[.string ⟨#[]⟩, .int .i64 0, .int .u32 0, .int .u32 0, .int .u32 0] 27)) (g := w.heap.size + 1) 27 (hc ⟨(b.drop 14).take x, (y : Int), wordN b 0, wordN b 4, wordN b 8⟩) (by simp)).drew
  · exact ((Blok.made w 27 (hc zeroHd)).alloc _).drew
  · exact (((Below.refl _ _).alloc (Nat.le_refl _) _).alloc (by simp) _).drew
def Made3 (b : Str) (w W : World) : Prop := Blok W (w.heap.size + 1) 27 (hc (headN b)) ∧ Blok W w.heap.size 27 (hc zeroHd) ∧ Below w.heap.size w W
def PreM (w W : World) : Prop := Blok W (w.heap.size + 1) 27 (hc zeroHd) ∧ Blok W w.heap.size 27 (hc zeroHd) ∧ Below w.heap.size w W
theorem PreM.drewN {w W : World} (h : PreM w W) (q : Nat) : PreM w (W.drewN q) := ⟨h.1.drewN q, h.2.1.drewN q, below_drewN h.2.2 q⟩
theorem PreM.made (w : World) (q : Nat) : PreM w (((w.alloc (.cells #[.string ⟨#[]⟩, .int .i64 0, .int .u32 0, .int .u32 0, .int .u32 0] 27)).drewN q).alloc (.cells #[.string ⟨#[]⟩, .int .i64 0, .int .u32 0, .int .u32 0, .int .u32 0] 27)) :=
  ⟨blok_at (w := (w.alloc (.cells #[.string ⟨#[]⟩, .int .i64 0, .int .u32 0, .int .u32 0, .int .u32 0] 27)).drewN q) (g := w.heap.size + 1) 27 (hc zeroHd) (by show (w.alloc _).heap.size = _; simp),
   ((Blok.made w 27 (hc zeroHd)).drewN q).alloc _,
   (below_drewN ((Below.refl _ _).alloc (Nat.le_refl _) _) q).alloc (by show w.heap.size ≤ (w.alloc _).heap.size; simp) _⟩
theorem PreM.stored {b s : Str} {y : Nat} (hh : headN b = ⟨s, (y : Int), wordN b 0, wordN b 4, wordN b 8⟩) {w W : World} (h : PreM w W) : Made3 b w (((((W.setCell ⟨w.heap.size + 1, 0, none⟩ (.string ⟨s.toArray⟩)).setCell ⟨w.heap.size + 1, 1, none⟩ (.int .i64 (y : Int))).setCell ⟨w.heap.size + 1, 2, none⟩ (.int .u32 (wordN b 0 : Int))).setCell ⟨w.heap.size + 1, 3, none⟩ (.int .u32 (wordN b 4 : Int))).setCell ⟨w.heap.size + 1, 4, none⟩ (.int .u32 (wordN b 8 : Int))) := by
  have hn : w.heap.size ≠ w.heap.size + 1 := by omega
  unfold Made3
  rw [hh]
  exact ⟨((((h.1.set_ 0 _).set_ 1 _).set_ 2 _).set_ 3 _).set_ 4 _, ((((h.2.1.far (p := ⟨w.heap.size + 1, 0, none⟩) hn _).far (p := ⟨w.heap.size + 1, 1, none⟩) hn _).far (p := ⟨w.heap.size + 1, 2, none⟩) hn _).far (p := ⟨w.heap.size + 1, 3, none⟩) hn _).far (p := ⟨w.heap.size + 1, 4, none⟩) hn _, ((((h.2.2.setCell (p := ⟨w.heap.size + 1, 0, none⟩) (Nat.le_succ _) _).setCell (p := ⟨w.heap.size + 1, 1, none⟩) (Nat.le_succ _) _).setCell (p := ⟨w.heap.size + 1, 2, none⟩) (Nat.le_succ _) _).setCell (p := ⟨w.heap.size + 1, 3, none⟩) (Nat.le_succ _) _).setCell (p := ⟨w.heap.size + 1, 4, none⟩) (Nat.le_succ _) _⟩
theorem Made3.base {b s : Str} {y : Nat} (hh : headN b = ⟨s, (y : Int), wordN b 0, wordN b 4, wordN b 8⟩) (w : World) : Made3 b w ((w.alloc (.cells #[.string ⟨#[]⟩, .int .i64 0, .int .u32 0, .int .u32 0, .int .u32 0] 27)).alloc (.cells #[.string ⟨s.toArray⟩, .int .i64 (y : Int), .int .u32 (wordN b 0 : Int), .int .u32 (wordN b 4 : Int), .int .u32 (wordN b 8 : Int)] 27)) := by
  unfold Made3
  rw [hh]
  refine ⟨?_, ?_, ?_⟩
  · exact blok_at (w := w.alloc (.cells #[.string ⟨#[]⟩, .int .i64 0, .int .u32 0, .int .u32 0, .int .u32 0] 27)) (g := w.heap.size + 1) 27 (hc ⟨s, (y : Int), wordN b 0, wordN b 4, wordN b 8⟩) (by simp)
  · exact (Blok.made w 27 (hc zeroHd)).alloc _
  · exact ((Below.refl _ _).alloc (Nat.le_refl _) _).alloc (by simp) _
theorem Made3.base2 {b s : Str} {y : Nat} (hh : headN b = ⟨s, (y : Int), wordN b 0, wordN b 4, wordN b 8⟩) (w : World) (q : Nat) : Made3 b w (((w.alloc (.cells #[.string ⟨#[]⟩, .int .i64 0, .int .u32 0, .int .u32 0, .int .u32 0] 27)).drewN q).alloc (.cells #[.string ⟨s.toArray⟩, .int .i64 (y : Int), .int .u32 (wordN b 0 : Int), .int .u32 (wordN b 4 : Int), .int .u32 (wordN b 8 : Int)] 27)) := by
  unfold Made3
  rw [hh]
  refine ⟨?_, ?_, ?_⟩
  · exact blok_at (w := (w.alloc (.cells #[.string ⟨#[]⟩, .int .i64 0, .int .u32 0, .int .u32 0, .int .u32 0] 27)).drewN q) (g := w.heap.size + 1) 27 (hc ⟨s, (y : Int), wordN b 0, wordN b 4, wordN b 8⟩) (by show (w.alloc _).heap.size = _; simp)
  · exact ((Blok.made w 27 (hc zeroHd)).drewN q).alloc _
  · exact (below_drewN ((Below.refl _ _).alloc (Nat.le_refl _) _) q).alloc (by show w.heap.size ≤ (w.alloc _).heap.size; simp) _
theorem PreM.made0 (w : World) : PreM w ((w.alloc (.cells #[.string ⟨#[]⟩, .int .i64 0, .int .u32 0, .int .u32 0, .int .u32 0] 27)).alloc (.cells #[.string ⟨#[]⟩, .int .i64 0, .int .u32 0, .int .u32 0, .int .u32 0] 27)) :=
  ⟨blok_at (w := w.alloc (.cells #[.string ⟨#[]⟩, .int .i64 0, .int .u32 0, .int .u32 0, .int .u32 0] 27)) (g := w.heap.size + 1) 27 (hc zeroHd) (by simp), (Blok.made w 27 (hc zeroHd)).alloc _, ((Below.refl _ _).alloc (Nat.le_refl _) _).alloc (by simp) _⟩
theorem Made3.drewN {b : Str} {w W : World} (h : Made3 b w W) (q : Nat) : Made3 b w (W.drewN q) := ⟨h.1.drewN q, h.2.1.drewN q, below_drewN h.2.2 q⟩
set_option maxHeartbeats 4000000 in
set_option maxRecDepth 100000 in
theorem rread_long (b : Str) (A : Option Addr) (n c : Nat) (w : World) (hn : b.length = n) (hcap : n ≤ c) (hl : n ≤ maxLen) (hs : Holds w A b) (h : longB b = true) :
    Calls Try.prog 18 #[.slice A n c] w (GaveR b w) := by
  unfold maxLen at hl
  have hl2 := h
  simp only [longB, Bool.and_eq_true, decide_eq_true_eq] at hl2
  obtain ⟨ad, rfl, hc⟩ := hs (by omega)
  have h13 : 13 < b.length := by omega
  have h12 : 12 < b.length := by omega
  rw [List.getElem?_eq_getElem h13, Option.getD_some] at hl2
  have c13 := hc 13 _ (bv_get b 13 _ (List.getElem?_eq_getElem h13))
  have c12 := hc 12 _ (bv_get b 12 _ (List.getElem?_eq_getElem h12))
  rw [add_succ ad 12] at c13
  rw [add_succ ad 11] at c12
  have hx := (b[13]'h13).toNat_lt
  have hx2 := (b[12]'h12).toNat_lt
  have hlong : ¬ (n : Int) < (14 : Int) + ((b[13]'h13).toNat : Int) := by omega
  have H := Lib.hid hs
  have C13 : Hid (∀ W : World, Holds W (some ad) b → W.cell? ⟨ad.block, ad.off + 13, none⟩ = some (.int .u8 ((b[13]'h13).toNat : Int))) := fun W h => by
    have := holds_cells9 h (by omega) 13 _ (bv_get b 13 _ (List.getElem?_eq_getElem h13))
    rw [add_succ ad 12] at this
    exact this
  have C12 : Hid (∀ W : World, Holds W (some ad) b → W.cell? ⟨ad.block, ad.off + 12, none⟩ = some (.int .u8 ((b[12]'h12).toNat : Int))) := fun W h => by
    have := holds_cells9 h (by omega) 12 _ (bv_get b 12 _ (List.getElem?_eq_getElem h12))
    rw [add_succ ad 11] at this
    exact this
  obtain ⟨x, hx13⟩ : ∃ x, (b[13]'h13).toNat = x := ⟨_, rfl⟩
  obtain ⟨y, hy12⟩ : ∃ y, (b[12]'h12).toNat = y := ⟨_, rfl⟩
  have HXY := Lib.hid (And.intro hx13 hy12)
  rw [hx13] at C13 c13 hx hlong hl2
  rw [hy12] at C12 c12 hx2
  have HH := Lib.hid (show headN b = ⟨(b.drop 14).take x, (y : Int), wordN b 0, wordN b 4, wordN b 8⟩ by
    unfold headN
    rw [List.getElem?_eq_getElem h13, List.getElem?_eq_getElem h12, Option.getD_some, Option.getD_some, hx13, hy12])
  clear hx13 hy12
  have hlt := block_lt_of_cell c13
  have LONG := Lib.hid h
  clear h hc hs
  obtain ⟨hl3, hl4⟩ := hl2
  have LB := Lib.hid hn
  have HL := Lib.hid (show n ≤ maxLen by unfold maxLen; exact hl)
  rw [hn] at hl3 hl4
  clear hn
  have L4 := Lib.hid (show 14 ≤ b.length by omega)
  by_cases hne : c = 14
  · subst hne
    obtain rfl : n = 14 := by omega
    obtain rfl : x = 0 := by omega
    have CV : ∀ W : World, Holds W (some ad) b → (convert 28 9 (.slice (some ad) 0 0)).run Try.prog W = .ok (.string ⟨#[]⟩) W := fun W h => conv_holds W _ [] 0 0 rfl (fun h0 => by simp at h0)
    have F : Hid (∀ W : World, Holds W (some ad) b → W.cell? ⟨ad.block, ad.off + 13, none⟩ = some (.int .u8 0) ∧ W.cell? ⟨ad.block, ad.off + 12, none⟩ = some (.int .u8 (y : Int)) ∧ (convert 28 9 (.slice (some ad) 0 0)).run Try.prog W = .ok (.string ⟨#[]⟩) W) := fun W h => ⟨by simpa using C13.out W h, C12.out W h, CV W h⟩
    have HN := Lib.hid (show headN b = ⟨[], (y : Int), wordN b 0, wordN b 4, wordN b 8⟩ from HH.out)
    clear CV C13 C12
    have q1 : (13 : Int) < (14 : Int) := by omega
    have q2 : (12 : Int) < (14 : Int) := by omega
    have q3 : (14 : Int) ≤ (14 : Int) := by omega
    have q4 : (0 : Int) ≤ 0 := by omega
    have q5 : (12 : Int) ≤ (14 : Int) := by omega
    have q6 : (8 : Int) ≤ (14 : Int) := by omega
    have q7 : (4 : Int) ≤ (14 : Int) := by omega
    have q8 : (14 : Int) ≤ (14 : Int) := by omega
    have q9 : (0 : Int) ≤ 0 := by omega
    have q17 : IntKind.i64.wrap (14 : Int) = 14 := by decide
    have q11 : IntKind.i64.wrap ((14 : Int) + (0 : Int)) = (14 : Int) + (0 : Int) := IntWalk.i64_in _ (by omega)
    have q12 : ((14 : Int) + (0 : Int)).toNat = 14 + 0 := by omega
    have q13 : IntKind.i64.wrap (0 : Int) = (0 : Int) := IntWalk.i64_in _ (by omega)
    have q14 : (14 : Int) + (0 : Int) ≤ 14 := by omega
    have q15 : (0 : Int) ≤ (14 : Int) + (0 : Int) := by omega
    have q16 : (14 : Int) ≤ (14 : Int) + (0 : Int) := by omega
    have q10 : IntKind.i64.wrap (y : Int) = (y : Int) := IntWalk.i64_in _ (by omega)
    go_enter Try.func18, Try.ntmps18
    go_upto_region 3 with fail
    go_cut [5] (fun p wx => p = .pointer (some ⟨w.heap.size + 1, 0, none⟩) ∧ Blok wx (w.heap.size + 1) 27 (hc (headN b)) ∧ Blok wx w.heap.size 27 (hc zeroHd) ∧ Below w.heap.size w wx)
    case first =>
      go_region_held3 (fun W => W.cell? ⟨ad.block, ad.off + 13, none⟩ = some (.int .u8 0) ∧ W.cell? ⟨ad.block, ad.off + 12, none⟩ = some (.int .u8 (y : Int)) ∧ (convert 28 9 (.slice (some ad) 0 0)).run Try.prog W = .ok (.string ⟨#[]⟩) W)
        ((refine F.out _ ?_; repeat (first | with_reducible exact H.out | with_reducible refine holds_drewN ?_ _ | with_reducible refine holds_drew ?_ | with_reducible refine hold_alloc ?_ _ | with_reducible refine hold_set ?_ _ (by show ad.block ≠ w.heap.size + 1; omega))))
        (first
          | (go_at_call 25; (with_reducible refine (rword_0 b _ _ _ _ LB.out.symm (by have := L4.out; omega) (by have := HL.out; have := LB.out; omega) (by repeat (first | with_reducible exact H.out | with_reducible refine holds_drewN ?_ _ | with_reducible refine holds_drew ?_ | with_reducible refine hold_alloc ?_ _ | with_reducible refine hold_set ?_ _ (by show ad.block ≠ w.heap.size + 1; omega)))).mono ?_); rintro e w' ⟨rfl, q, rfl⟩)
          | (go_at_call 25; (with_reducible refine (rword_4 b _ _ _ _ LB.out.symm (by have := L4.out; omega) (by have := HL.out; have := LB.out; omega) (by repeat (first | with_reducible exact H.out | with_reducible refine holds_drewN ?_ _ | with_reducible refine holds_drew ?_ | with_reducible refine hold_alloc ?_ _ | with_reducible refine hold_set ?_ _ (by show ad.block ≠ w.heap.size + 1; omega)))).mono ?_); rintro e w' ⟨rfl, q, rfl⟩)
          | (go_at_call 25; (with_reducible refine (rword_8 b _ _ _ _ LB.out.symm (by have := L4.out; omega) (by have := HL.out; have := LB.out; omega) (by repeat (first | with_reducible exact H.out | with_reducible refine holds_drewN ?_ _ | with_reducible refine holds_drew ?_ | with_reducible refine hold_alloc ?_ _ | with_reducible refine hold_set ?_ _ (by show ad.block ≠ w.heap.size + 1; omega)))).mono ?_); rintro e w' ⟨rfl, q, rfl⟩))
      all_goals
        go_wp2_with fail
        go_meet
        refine ⟨rfl, ?_⟩
        show Made3 b w _
        first | (with_reducible refine PreM.stored HN.out ?_; repeat (first | with_reducible refine PreM.drewN ?_ _ | with_reducible exact PreM.made w _ | with_reducible exact PreM.made0 w)) | (repeat (first | with_reducible refine Made3.drewN ?_ _ | with_reducible exact Made3.base HN.out w | with_reducible exact Made3.base2 HN.out w _))
    case rest =>
      obtain ⟨rfl, k1, k0, bel⟩ := hcut
      have hlen : (headN b).name.length ≤ maxLen := by
        have h1 : ((b.drop 14).take (b[13]?.getD 0).toNat).length ≤ b.length := by rw [List.length_take, List.length_drop]; omega
        have h2 := LB.out
        show ((b.drop 14).take (b[13]?.getD 0).toNat).length ≤ maxLen
        unfold maxLen
        omega
      obtain ⟨a0, a1, a2, a3, a4⟩ := hc_cells9 k1
      have k0lt := k0.lt
      have k1lt := k1.lt
      have k1 := Lib.hid k1
      have k0 := Lib.hid k0
      have HB := Lib.hid (H.out.below bel)
      have hz := bel.size
      have bel0 := Lib.hid bel
      clear bel
      by_cases e0 : errN (headN b) = 0
      · cases hp : (outN (headN b)).isPrefixOf b with
        | false =>
          have e : readN b = none := by
            unfold readN goodB
            rw [decide_eq_true e0, show (bytesN (headN b)) = outN (headN b) by unfold outN; rw [if_pos e0], hp]
            simp
          have P : Hid (∀ w w' : World, Below w.heap.size w w' → GaveR b w (.returned (.tuple #[.agg #[.string ⟨#[]⟩, .int .i64 0, .int .u32 0, .int .u32 0, .int .u32 0], .int .i64 0, .int .i64 45])) w') := fun w w' hb => ⟨by unfold readH readL readE; rw [e]; rfl, hb⟩
          have PF := Lib.hid hp
          have E0 := Lib.hid e0
          clear e hp e0
          go_wp2_with (go_at_call 16; refine (rbytes_any (headN b) _ (headN_ok b) hlen).mono ?_; rintro e w5 ⟨A5, c5, rfl, h5, b5⟩; have T5 := Lib.hid (And.intro (bel0.out.trans (b5.mono hz)) (And.intro h5 (HB.out.below b5))); obtain ⟨z0, z1, z2, z3, z4⟩ := hc_cells9 (k0.out.below b5 k0lt); obtain ⟨a0, a1, a2, a3, a4⟩ := hc_cells9 (k1.out.below b5 k1lt); have KB := Lib.hid (k0.out.below b5 k0lt); have f0 := (k0.out.below b5 k0lt).free 0; have f1 := (k0.out.below b5 k0lt).free 1; have f2 := (k0.out.below b5 k0lt).free 2; have f3 := (k0.out.below b5 k0lt).free 3; have f4 := (k0.out.below b5 k0lt).free 4; clear h5 b5; rw [E0.out])
          by_cases hlt : b.length < (outN (headN b)).length
          · have qa : (14 : Int) < ((outN (headN b)).length : Int) := by have := LB.out; omega
            refine region_class (fun W => ∃ q, W = w5.drewN q) (by kernel_rfl) (by kernel_rfl) ⟨1, rfl⟩ ?_
            repeat (first | go_big_quiet_skip | (go_big_quiet_want; go_big_quiet_op; first | go_big_quiet_on | (refine ⟨_, fun _ _ => rfl, ?_⟩; go_big_quiet_on)))
            refine wpQuiet_nil ?_
            rintro w6 ⟨q, rfl⟩
            go_wp2
            obtain ⟨s0, s1, s2, s3, s4⟩ := stored9 (KB.out.drewN q) (.string ⟨#[]⟩) (.int .i64 0) (.int .u32 0) (.int .u32 0) (.int .u32 0)
            exact bodyPost_ret (v := .tuple #[.agg #[.string ⟨#[]⟩, .int .i64 0, .int .u32 0, .int .u32 0, .int .u32 0], .int .i64 0, .int .i64 45]) (by simp [results, Try.results18, go_sem, s0, s1, s2, s3, s4]) rfl (P.out _ _ (by exact ((((((below_drewN T5.out.1 q).setCell (p := ⟨w.heap.size, 0, none⟩) (Nat.le_refl _) _).setCell (p := ⟨w.heap.size, 1, none⟩) (Nat.le_refl _) _).setCell (p := ⟨w.heap.size, 2, none⟩) (Nat.le_refl _) _).setCell (p := ⟨w.heap.size, 3, none⟩) (Nat.le_refl _) _).setCell (p := ⟨w.heap.size, 4, none⟩) (Nat.le_refl _) _)))
          · have hle : (outN (headN b)).length ≤ b.length := by omega
            have qa : ((outN (headN b)).length : Int) ≤ (14 : Int) := by have := LB.out; omega
            have qb : ((outN (headN b)).length : Int) ≤ (14 : Int) := by have := LB.out; omega
            have qc : ¬ ((14 : Int) < ((outN (headN b)).length : Int)) := by omega
            have qd : (0 : Int) ≤ ((outN (headN b)).length : Int) := by omega
            have cvB : ∀ q : Nat, (convert 28 9 (.slice A5 (outN (headN b)).length c5)).run Try.prog (w5.drewN q) = .ok (.string ⟨(outN (headN b)).toArray⟩) (w5.drewN q) := fun q => conv_holds _ A5 _ _ c5 rfl (holds_drewN T5.out.2.1 q)
            have cvA : ∀ q : Nat, (convert 28 9 (.slice (some ad) (outN (headN b)).length 14)).run Try.prog (w5.drewN q) = .ok (.string ⟨(b.take (outN (headN b)).length).toArray⟩) (w5.drewN q) := fun q => conv_part9 _ (some ad) b _ 14 _ (rfl) hle (holds_drewN T5.out.2.2 q)
            have hno : ¬ b.take (outN (headN b)).length = outN (headN b) := fun q => by
              have h2 := PF.out
              rw [show (outN (headN b)).isPrefixOf b = true from List.isPrefixOf_iff_prefix.2 (List.prefix_iff_eq_take.2 q.symm)] at h2
              cases h2
            have hno2 : (b.take (outN (headN b)).length == outN (headN b)) = false := by simpa using hno
            refine region_class (fun W => ∃ q, W = w5.drewN q) (by kernel_rfl) (by kernel_rfl) ⟨1, rfl⟩ ?_
            repeat (first | go_big_quiet_skip | (go_big_quiet_want; go_big_quiet_op; first | go_big_quiet_on | (refine ⟨_, fun _ _ => rfl, ?_⟩; go_big_quiet_on)))
            refine wpQuiet_nil ?_
            rintro w6 ⟨q, rfl⟩
            go_wp2
            obtain ⟨s0, s1, s2, s3, s4⟩ := stored9 (KB.out.drewN q) (.string ⟨#[]⟩) (.int .i64 0) (.int .u32 0) (.int .u32 0) (.int .u32 0)
            exact bodyPost_ret (v := .tuple #[.agg #[.string ⟨#[]⟩, .int .i64 0, .int .u32 0, .int .u32 0, .int .u32 0], .int .i64 0, .int .i64 45]) (by simp [results, Try.results18, go_sem, s0, s1, s2, s3, s4]) rfl (P.out _ _ (by exact ((((((below_drewN T5.out.1 q).setCell (p := ⟨w.heap.size, 0, none⟩) (Nat.le_refl _) _).setCell (p := ⟨w.heap.size, 1, none⟩) (Nat.le_refl _) _).setCell (p := ⟨w.heap.size, 2, none⟩) (Nat.le_refl _) _).setCell (p := ⟨w.heap.size, 3, none⟩) (Nat.le_refl _) _).setCell (p := ⟨w.heap.size, 4, none⟩) (Nat.le_refl _) _)))
        | true =>
          have e : readN b = some (headN b) := by
            unfold readN goodB
            rw [decide_eq_true e0, show (bytesN (headN b)) = outN (headN b) by unfold outN; rw [if_pos e0], hp, LONG.out]
            simp
          have EQ := Lib.hid e
          have PF := Lib.hid hp
          have E0 := Lib.hid e0
          clear e hp e0
          go_wp2_with (go_at_call 16; refine (rbytes_any (headN b) _ (headN_ok b) hlen).mono ?_; rintro e w5 ⟨A5, c5, rfl, h5, b5⟩; have T5 := Lib.hid (And.intro (bel0.out.trans (b5.mono hz)) (And.intro h5 (HB.out.below b5))); obtain ⟨z0, z1, z2, z3, z4⟩ := hc_cells9 (k0.out.below b5 k0lt); obtain ⟨a0, a1, a2, a3, a4⟩ := hc_cells9 (k1.out.below b5 k1lt); have KB := Lib.hid (k0.out.below b5 k0lt); have f0 := (k0.out.below b5 k0lt).free 0; have f1 := (k0.out.below b5 k0lt).free 1; have f2 := (k0.out.below b5 k0lt).free 2; have f3 := (k0.out.below b5 k0lt).free 3; have f4 := (k0.out.below b5 k0lt).free 4; clear h5 b5; rw [E0.out])
          have hle : (outN (headN b)).length ≤ b.length := (List.isPrefixOf_iff_prefix.1 PF.out).length_le
          have qa : ((outN (headN b)).length : Int) ≤ (14 : Int) := by have := LB.out; omega
          have qb : ((outN (headN b)).length : Int) ≤ (14 : Int) := by have := LB.out; omega
          have qc : ¬ ((14 : Int) < ((outN (headN b)).length : Int)) := by omega
          have qd : (0 : Int) ≤ ((outN (headN b)).length : Int) := by omega
          have cvB : ∀ q : Nat, (convert 28 9 (.slice A5 (outN (headN b)).length c5)).run Try.prog (w5.drewN q) = .ok (.string ⟨(outN (headN b)).toArray⟩) (w5.drewN q) := fun q => conv_holds _ A5 _ _ c5 rfl (holds_drewN T5.out.2.1 q)
          have cvA : ∀ q : Nat, (convert 28 9 (.slice (some ad) (outN (headN b)).length 14)).run Try.prog (w5.drewN q) = .ok (.string ⟨(outN (headN b)).toArray⟩) (w5.drewN q) := fun q => conv_part9 _ (some ad) b _ 14 _ (List.prefix_iff_eq_take.1 (List.isPrefixOf_iff_prefix.1 PF.out)) hle (holds_drewN T5.out.2.2 q)
          refine region_class (fun W => ∃ q, W = w5.drewN q) (by kernel_rfl) (by kernel_rfl) ⟨1, rfl⟩ ?_
          repeat (first | go_big_quiet_skip | (go_big_quiet_want; go_big_quiet_op; first | go_big_quiet_on | (refine ⟨_, fun _ _ => rfl, ?_⟩; go_big_quiet_on)))
          refine wpQuiet_nil ?_
          rintro w6 ⟨q, rfl⟩
          go_wp2
          obtain ⟨s0, s1, s2, s3, s4⟩ := stored9 (KB.out.drewN q) (.string ⟨(headN b).name.toArray⟩) (.int .i64 (headN b).flags) (.int .u32 ((headN b).link : Int)) (.int .u32 ((headN b).xt : Int)) (.int .u32 ((headN b).size : Int))
          refine bodyPost_ret (v := .tuple #[.agg #[.string ⟨(headN b).name.toArray⟩, .int .i64 (headN b).flags, .int .u32 ((headN b).link : Int), .int .u32 ((headN b).xt : Int), .int .u32 ((headN b).size : Int)], .int .i64 ((outN (headN b)).length : Int), .int .i64 0]) (by simp [results, Try.results18, go_sem, s0, s1, s2, s3, s4]) rfl ⟨?_, ((((((below_drewN T5.out.1 q).setCell (p := ⟨w.heap.size, 0, none⟩) (Nat.le_refl _) _).setCell (p := ⟨w.heap.size, 1, none⟩) (Nat.le_refl _) _).setCell (p := ⟨w.heap.size, 2, none⟩) (Nat.le_refl _) _).setCell (p := ⟨w.heap.size, 3, none⟩) (Nat.le_refl _) _).setCell (p := ⟨w.heap.size, 4, none⟩) (Nat.le_refl _) _)⟩
          unfold readH readL readE
          rw [EQ.out]
          unfold outN
          rw [if_pos E0.out]
          rfl
      · have e : readN b = none := by
          unfold readN goodB
          rw [decide_eq_false e0]
          simp
        have P : Hid (∀ w w' : World, Below w.heap.size w w' → GaveR b w (.returned (.tuple #[.agg #[.string ⟨#[]⟩, .int .i64 0, .int .u32 0, .int .u32 0, .int .u32 0], .int .i64 0, .int .i64 45])) w') := fun w w' hb => ⟨by unfold readH readL readE; rw [e]; rfl, hb⟩
        obtain ⟨m, hm⟩ : ∃ m, errN (headN b) = m := ⟨_, rfl⟩
        rw [hm] at e0
        have N2 : ((m : Int) != 0) = true := by simp; omega
        have HM := Lib.hid hm
        clear e hm e0
        go_wp2_with (go_at_call 16; refine (rbytes_any (headN b) _ (headN_ok b) hlen).mono ?_; rintro e w5 ⟨A5, c5, rfl, h5, b5⟩; have T5 := Lib.hid (And.intro (bel0.out.trans (b5.mono hz)) (And.intro h5 (HB.out.below b5))); obtain ⟨z0, z1, z2, z3, z4⟩ := hc_cells9 (k0.out.below b5 k0lt); obtain ⟨a0, a1, a2, a3, a4⟩ := hc_cells9 (k1.out.below b5 k1lt); have KB := Lib.hid (k0.out.below b5 k0lt); have f0 := (k0.out.below b5 k0lt).free 0; have f1 := (k0.out.below b5 k0lt).free 1; have f2 := (k0.out.below b5 k0lt).free 2; have f3 := (k0.out.below b5 k0lt).free 3; have f4 := (k0.out.below b5 k0lt).free 4; clear h5 b5; rw [HM.out])
        refine region_class (fun W => ∃ q, W = w5.drewN q) (by kernel_rfl) (by kernel_rfl) ⟨1, rfl⟩ ?_
        repeat (first | go_big_quiet_skip | (go_big_quiet_want; go_big_quiet_op; first | go_big_quiet_on | (refine ⟨_, fun _ _ => rfl, ?_⟩; go_big_quiet_on)))
        refine wpQuiet_nil ?_
        rintro w6 ⟨q, rfl⟩
        go_wp2
        obtain ⟨s0, s1, s2, s3, s4⟩ := stored9 (KB.out.drewN q) (.string ⟨#[]⟩) (.int .i64 0) (.int .u32 0) (.int .u32 0) (.int .u32 0)
        exact bodyPost_ret (v := .tuple #[.agg #[.string ⟨#[]⟩, .int .i64 0, .int .u32 0, .int .u32 0, .int .u32 0], .int .i64 0, .int .i64 45]) (by simp [results, Try.results18, go_sem, s0, s1, s2, s3, s4]) rfl (P.out _ _ (by exact ((((((below_drewN T5.out.1 q).setCell (p := ⟨w.heap.size, 0, none⟩) (Nat.le_refl _) _).setCell (p := ⟨w.heap.size, 1, none⟩) (Nat.le_refl _) _).setCell (p := ⟨w.heap.size, 2, none⟩) (Nat.le_refl _) _).setCell (p := ⟨w.heap.size, 3, none⟩) (Nat.le_refl _) _).setCell (p := ⟨w.heap.size, 4, none⟩) (Nat.le_refl _) _)))
  · have CV : ∀ W : World, Holds W (some ad) b → (convert 28 9 (.slice (some ⟨ad.block, ad.off + 14, none⟩) x (c - 14))).run Try.prog W = .ok (.string ⟨((b.drop 14).take x).toArray⟩) W := fun W h => by
      have hl0 : ((b.drop 14).take x).length = x := by have := LB.out; rw [List.length_take, List.length_drop]; omega
      have := holds_part h 14 x
      rw [add_succ ad 13] at this
      exact conv_holds W _ ((b.drop 14).take x) x (c - 14) hl0 this
    have F : Hid (∀ W : World, Holds W (some ad) b → W.cell? ⟨ad.block, ad.off + 13, none⟩ = some (.int .u8 (x : Int)) ∧ W.cell? ⟨ad.block, ad.off + 12, none⟩ = some (.int .u8 (y : Int)) ∧ (convert 28 9 (.slice (some ⟨ad.block, ad.off + 14, none⟩) x (c - 14))).run Try.prog W = .ok (.string ⟨((b.drop 14).take x).toArray⟩) W) := fun W h => ⟨(C13.out W h), (C12.out W h), CV W h⟩
    have HN := Lib.hid (show headN b = ⟨(b.drop 14).take x, (y : Int), wordN b 0, wordN b 4, wordN b 8⟩ from HH.out)
    clear CV C13 C12
    have q1 : (13 : Int) < (n : Int) := by omega
    have q2 : (12 : Int) < (n : Int) := by omega
    have q3 : (14 : Int) ≤ (n : Int) := by omega
    have q4 : (x : Int) ≤ ((c - 14 : Nat) : Int) := by omega
    have q5 : (12 : Int) ≤ (c : Int) := by omega
    have q6 : (8 : Int) ≤ (c : Int) := by omega
    have q7 : (4 : Int) ≤ (c : Int) := by omega
    have q8 : (14 : Int) ≤ (c : Int) := by omega
    have q9 : (0 : Int) ≤ (x : Int) := by omega
    have q17 : IntKind.i64.wrap (14 : Int) = 14 := by decide
    have q11 : IntKind.i64.wrap ((14 : Int) + (x : Int)) = (14 : Int) + (x : Int) := IntWalk.i64_in _ (by omega)
    have q12 : ((14 : Int) + (x : Int)).toNat = 14 + x := by omega
    have q13 : IntKind.i64.wrap (x : Int) = (x : Int) := IntWalk.i64_in _ (by omega)
    have q14 : (14 : Int) + (x : Int) ≤ (c : Int) := by omega
    have q15 : (0 : Int) ≤ (14 : Int) + (x : Int) := by omega
    have q16 : (14 : Int) ≤ (14 : Int) + (x : Int) := by omega
    have q10 : IntKind.i64.wrap (y : Int) = (y : Int) := IntWalk.i64_in _ (by omega)
    go_enter Try.func18, Try.ntmps18
    go_upto_region 3 with fail
    go_cut [5] (fun p wx => p = .pointer (some ⟨w.heap.size + 1, 0, none⟩) ∧ Blok wx (w.heap.size + 1) 27 (hc (headN b)) ∧ Blok wx w.heap.size 27 (hc zeroHd) ∧ Below w.heap.size w wx)
    case first =>
      go_region_held3 (fun W => W.cell? ⟨ad.block, ad.off + 13, none⟩ = some (.int .u8 (x : Int)) ∧ W.cell? ⟨ad.block, ad.off + 12, none⟩ = some (.int .u8 (y : Int)) ∧ (convert 28 9 (.slice (some ⟨ad.block, ad.off + 14, none⟩) x (c - 14))).run Try.prog W = .ok (.string ⟨((b.drop 14).take x).toArray⟩) W)
        ((refine F.out _ ?_; repeat (first | with_reducible exact H.out | with_reducible refine holds_drewN ?_ _ | with_reducible refine holds_drew ?_ | with_reducible refine hold_alloc ?_ _ | with_reducible refine hold_set ?_ _ (by show ad.block ≠ w.heap.size + 1; omega))))
        (first
          | (go_at_call 25; (with_reducible refine (rword_0 b _ _ _ _ LB.out.symm (by have := L4.out; omega) (by have := HL.out; have := LB.out; omega) (by repeat (first | with_reducible exact H.out | with_reducible refine holds_drewN ?_ _ | with_reducible refine holds_drew ?_ | with_reducible refine hold_alloc ?_ _ | with_reducible refine hold_set ?_ _ (by show ad.block ≠ w.heap.size + 1; omega)))).mono ?_); rintro e w' ⟨rfl, q, rfl⟩)
          | (go_at_call 25; (with_reducible refine (rword_4 b _ _ _ _ LB.out.symm (by have := L4.out; omega) (by have := HL.out; have := LB.out; omega) (by repeat (first | with_reducible exact H.out | with_reducible refine holds_drewN ?_ _ | with_reducible refine holds_drew ?_ | with_reducible refine hold_alloc ?_ _ | with_reducible refine hold_set ?_ _ (by show ad.block ≠ w.heap.size + 1; omega)))).mono ?_); rintro e w' ⟨rfl, q, rfl⟩)
          | (go_at_call 25; (with_reducible refine (rword_8 b _ _ _ _ LB.out.symm (by have := L4.out; omega) (by have := HL.out; have := LB.out; omega) (by repeat (first | with_reducible exact H.out | with_reducible refine holds_drewN ?_ _ | with_reducible refine holds_drew ?_ | with_reducible refine hold_alloc ?_ _ | with_reducible refine hold_set ?_ _ (by show ad.block ≠ w.heap.size + 1; omega)))).mono ?_); rintro e w' ⟨rfl, q, rfl⟩))
      all_goals
        go_wp2_with fail
        go_meet
        refine ⟨rfl, ?_⟩
        show Made3 b w _
        first | (with_reducible refine PreM.stored HN.out ?_; repeat (first | with_reducible refine PreM.drewN ?_ _ | with_reducible exact PreM.made w _ | with_reducible exact PreM.made0 w)) | (repeat (first | with_reducible refine Made3.drewN ?_ _ | with_reducible exact Made3.base HN.out w | with_reducible exact Made3.base2 HN.out w _))
    case rest =>
      obtain ⟨rfl, k1, k0, bel⟩ := hcut
      have hlen : (headN b).name.length ≤ maxLen := by
        have h1 : ((b.drop 14).take (b[13]?.getD 0).toNat).length ≤ b.length := by rw [List.length_take, List.length_drop]; omega
        have h2 := LB.out
        show ((b.drop 14).take (b[13]?.getD 0).toNat).length ≤ maxLen
        unfold maxLen
        omega
      obtain ⟨a0, a1, a2, a3, a4⟩ := hc_cells9 k1
      have k0lt := k0.lt
      have k1lt := k1.lt
      have k1 := Lib.hid k1
      have k0 := Lib.hid k0
      have HB := Lib.hid (H.out.below bel)
      have hz := bel.size
      have bel0 := Lib.hid bel
      clear bel
      by_cases e0 : errN (headN b) = 0
      · cases hp : (outN (headN b)).isPrefixOf b with
        | false =>
          have e : readN b = none := by
            unfold readN goodB
            rw [decide_eq_true e0, show (bytesN (headN b)) = outN (headN b) by unfold outN; rw [if_pos e0], hp]
            simp
          have P : Hid (∀ w w' : World, Below w.heap.size w w' → GaveR b w (.returned (.tuple #[.agg #[.string ⟨#[]⟩, .int .i64 0, .int .u32 0, .int .u32 0, .int .u32 0], .int .i64 0, .int .i64 45])) w') := fun w w' hb => ⟨by unfold readH readL readE; rw [e]; rfl, hb⟩
          have PF := Lib.hid hp
          have E0 := Lib.hid e0
          clear e hp e0
          go_wp2_with (go_at_call 16; refine (rbytes_any (headN b) _ (headN_ok b) hlen).mono ?_; rintro e w5 ⟨A5, c5, rfl, h5, b5⟩; have T5 := Lib.hid (And.intro (bel0.out.trans (b5.mono hz)) (And.intro h5 (HB.out.below b5))); obtain ⟨z0, z1, z2, z3, z4⟩ := hc_cells9 (k0.out.below b5 k0lt); obtain ⟨a0, a1, a2, a3, a4⟩ := hc_cells9 (k1.out.below b5 k1lt); have KB := Lib.hid (k0.out.below b5 k0lt); have f0 := (k0.out.below b5 k0lt).free 0; have f1 := (k0.out.below b5 k0lt).free 1; have f2 := (k0.out.below b5 k0lt).free 2; have f3 := (k0.out.below b5 k0lt).free 3; have f4 := (k0.out.below b5 k0lt).free 4; clear h5 b5; rw [E0.out])
          by_cases hlt : b.length < (outN (headN b)).length
          · have qa : (n : Int) < ((outN (headN b)).length : Int) := by have := LB.out; omega
            refine region_class (fun W => ∃ q, W = w5.drewN q) (by kernel_rfl) (by kernel_rfl) ⟨1, rfl⟩ ?_
            repeat (first | go_big_quiet_skip | (go_big_quiet_want; go_big_quiet_op; first | go_big_quiet_on | (refine ⟨_, fun _ _ => rfl, ?_⟩; go_big_quiet_on)))
            refine wpQuiet_nil ?_
            rintro w6 ⟨q, rfl⟩
            go_wp2
            obtain ⟨s0, s1, s2, s3, s4⟩ := stored9 (KB.out.drewN q) (.string ⟨#[]⟩) (.int .i64 0) (.int .u32 0) (.int .u32 0) (.int .u32 0)
            exact bodyPost_ret (v := .tuple #[.agg #[.string ⟨#[]⟩, .int .i64 0, .int .u32 0, .int .u32 0, .int .u32 0], .int .i64 0, .int .i64 45]) (by simp [results, Try.results18, go_sem, s0, s1, s2, s3, s4]) rfl (P.out _ _ (by exact ((((((below_drewN T5.out.1 q).setCell (p := ⟨w.heap.size, 0, none⟩) (Nat.le_refl _) _).setCell (p := ⟨w.heap.size, 1, none⟩) (Nat.le_refl _) _).setCell (p := ⟨w.heap.size, 2, none⟩) (Nat.le_refl _) _).setCell (p := ⟨w.heap.size, 3, none⟩) (Nat.le_refl _) _).setCell (p := ⟨w.heap.size, 4, none⟩) (Nat.le_refl _) _)))
          · have hle : (outN (headN b)).length ≤ b.length := by omega
            have qa : ((outN (headN b)).length : Int) ≤ (n : Int) := by have := LB.out; omega
            have qb : ((outN (headN b)).length : Int) ≤ (c : Int) := by have := LB.out; omega
            have qc : ¬ ((n : Int) < ((outN (headN b)).length : Int)) := by omega
            have qd : (0 : Int) ≤ ((outN (headN b)).length : Int) := by omega
            have cvB : ∀ q : Nat, (convert 28 9 (.slice A5 (outN (headN b)).length c5)).run Try.prog (w5.drewN q) = .ok (.string ⟨(outN (headN b)).toArray⟩) (w5.drewN q) := fun q => conv_holds _ A5 _ _ c5 rfl (holds_drewN T5.out.2.1 q)
            have cvA : ∀ q : Nat, (convert 28 9 (.slice (some ad) (outN (headN b)).length c)).run Try.prog (w5.drewN q) = .ok (.string ⟨(b.take (outN (headN b)).length).toArray⟩) (w5.drewN q) := fun q => conv_part9 _ (some ad) b _ c _ (rfl) hle (holds_drewN T5.out.2.2 q)
            have hno : ¬ b.take (outN (headN b)).length = outN (headN b) := fun q => by
              have h2 := PF.out
              rw [show (outN (headN b)).isPrefixOf b = true from List.isPrefixOf_iff_prefix.2 (List.prefix_iff_eq_take.2 q.symm)] at h2
              cases h2
            have hno2 : (b.take (outN (headN b)).length == outN (headN b)) = false := by simpa using hno
            refine region_class (fun W => ∃ q, W = w5.drewN q) (by kernel_rfl) (by kernel_rfl) ⟨1, rfl⟩ ?_
            repeat (first | go_big_quiet_skip | (go_big_quiet_want; go_big_quiet_op; first | go_big_quiet_on | (refine ⟨_, fun _ _ => rfl, ?_⟩; go_big_quiet_on)))
            refine wpQuiet_nil ?_
            rintro w6 ⟨q, rfl⟩
            go_wp2
            obtain ⟨s0, s1, s2, s3, s4⟩ := stored9 (KB.out.drewN q) (.string ⟨#[]⟩) (.int .i64 0) (.int .u32 0) (.int .u32 0) (.int .u32 0)
            exact bodyPost_ret (v := .tuple #[.agg #[.string ⟨#[]⟩, .int .i64 0, .int .u32 0, .int .u32 0, .int .u32 0], .int .i64 0, .int .i64 45]) (by simp [results, Try.results18, go_sem, s0, s1, s2, s3, s4]) rfl (P.out _ _ (by exact ((((((below_drewN T5.out.1 q).setCell (p := ⟨w.heap.size, 0, none⟩) (Nat.le_refl _) _).setCell (p := ⟨w.heap.size, 1, none⟩) (Nat.le_refl _) _).setCell (p := ⟨w.heap.size, 2, none⟩) (Nat.le_refl _) _).setCell (p := ⟨w.heap.size, 3, none⟩) (Nat.le_refl _) _).setCell (p := ⟨w.heap.size, 4, none⟩) (Nat.le_refl _) _)))
        | true =>
          have e : readN b = some (headN b) := by
            unfold readN goodB
            rw [decide_eq_true e0, show (bytesN (headN b)) = outN (headN b) by unfold outN; rw [if_pos e0], hp, LONG.out]
            simp
          have EQ := Lib.hid e
          have PF := Lib.hid hp
          have E0 := Lib.hid e0
          clear e hp e0
          go_wp2_with (go_at_call 16; refine (rbytes_any (headN b) _ (headN_ok b) hlen).mono ?_; rintro e w5 ⟨A5, c5, rfl, h5, b5⟩; have T5 := Lib.hid (And.intro (bel0.out.trans (b5.mono hz)) (And.intro h5 (HB.out.below b5))); obtain ⟨z0, z1, z2, z3, z4⟩ := hc_cells9 (k0.out.below b5 k0lt); obtain ⟨a0, a1, a2, a3, a4⟩ := hc_cells9 (k1.out.below b5 k1lt); have KB := Lib.hid (k0.out.below b5 k0lt); have f0 := (k0.out.below b5 k0lt).free 0; have f1 := (k0.out.below b5 k0lt).free 1; have f2 := (k0.out.below b5 k0lt).free 2; have f3 := (k0.out.below b5 k0lt).free 3; have f4 := (k0.out.below b5 k0lt).free 4; clear h5 b5; rw [E0.out])
          have hle : (outN (headN b)).length ≤ b.length := (List.isPrefixOf_iff_prefix.1 PF.out).length_le
          have qa : ((outN (headN b)).length : Int) ≤ (n : Int) := by have := LB.out; omega
          have qb : ((outN (headN b)).length : Int) ≤ (c : Int) := by have := LB.out; omega
          have qc : ¬ ((n : Int) < ((outN (headN b)).length : Int)) := by omega
          have qd : (0 : Int) ≤ ((outN (headN b)).length : Int) := by omega
          have cvB : ∀ q : Nat, (convert 28 9 (.slice A5 (outN (headN b)).length c5)).run Try.prog (w5.drewN q) = .ok (.string ⟨(outN (headN b)).toArray⟩) (w5.drewN q) := fun q => conv_holds _ A5 _ _ c5 rfl (holds_drewN T5.out.2.1 q)
          have cvA : ∀ q : Nat, (convert 28 9 (.slice (some ad) (outN (headN b)).length c)).run Try.prog (w5.drewN q) = .ok (.string ⟨(outN (headN b)).toArray⟩) (w5.drewN q) := fun q => conv_part9 _ (some ad) b _ c _ (List.prefix_iff_eq_take.1 (List.isPrefixOf_iff_prefix.1 PF.out)) hle (holds_drewN T5.out.2.2 q)
          refine region_class (fun W => ∃ q, W = w5.drewN q) (by kernel_rfl) (by kernel_rfl) ⟨1, rfl⟩ ?_
          repeat (first | go_big_quiet_skip | (go_big_quiet_want; go_big_quiet_op; first | go_big_quiet_on | (refine ⟨_, fun _ _ => rfl, ?_⟩; go_big_quiet_on)))
          refine wpQuiet_nil ?_
          rintro w6 ⟨q, rfl⟩
          go_wp2
          obtain ⟨s0, s1, s2, s3, s4⟩ := stored9 (KB.out.drewN q) (.string ⟨(headN b).name.toArray⟩) (.int .i64 (headN b).flags) (.int .u32 ((headN b).link : Int)) (.int .u32 ((headN b).xt : Int)) (.int .u32 ((headN b).size : Int))
          refine bodyPost_ret (v := .tuple #[.agg #[.string ⟨(headN b).name.toArray⟩, .int .i64 (headN b).flags, .int .u32 ((headN b).link : Int), .int .u32 ((headN b).xt : Int), .int .u32 ((headN b).size : Int)], .int .i64 ((outN (headN b)).length : Int), .int .i64 0]) (by simp [results, Try.results18, go_sem, s0, s1, s2, s3, s4]) rfl ⟨?_, ((((((below_drewN T5.out.1 q).setCell (p := ⟨w.heap.size, 0, none⟩) (Nat.le_refl _) _).setCell (p := ⟨w.heap.size, 1, none⟩) (Nat.le_refl _) _).setCell (p := ⟨w.heap.size, 2, none⟩) (Nat.le_refl _) _).setCell (p := ⟨w.heap.size, 3, none⟩) (Nat.le_refl _) _).setCell (p := ⟨w.heap.size, 4, none⟩) (Nat.le_refl _) _)⟩
          unfold readH readL readE
          rw [EQ.out]
          unfold outN
          rw [if_pos E0.out]
          rfl
      · have e : readN b = none := by
          unfold readN goodB
          rw [decide_eq_false e0]
          simp
        have P : Hid (∀ w w' : World, Below w.heap.size w w' → GaveR b w (.returned (.tuple #[.agg #[.string ⟨#[]⟩, .int .i64 0, .int .u32 0, .int .u32 0, .int .u32 0], .int .i64 0, .int .i64 45])) w') := fun w w' hb => ⟨by unfold readH readL readE; rw [e]; rfl, hb⟩
        obtain ⟨m, hm⟩ : ∃ m, errN (headN b) = m := ⟨_, rfl⟩
        rw [hm] at e0
        have N2 : ((m : Int) != 0) = true := by simp; omega
        have HM := Lib.hid hm
        clear e hm e0
        go_wp2_with (go_at_call 16; refine (rbytes_any (headN b) _ (headN_ok b) hlen).mono ?_; rintro e w5 ⟨A5, c5, rfl, h5, b5⟩; have T5 := Lib.hid (And.intro (bel0.out.trans (b5.mono hz)) (And.intro h5 (HB.out.below b5))); obtain ⟨z0, z1, z2, z3, z4⟩ := hc_cells9 (k0.out.below b5 k0lt); obtain ⟨a0, a1, a2, a3, a4⟩ := hc_cells9 (k1.out.below b5 k1lt); have KB := Lib.hid (k0.out.below b5 k0lt); have f0 := (k0.out.below b5 k0lt).free 0; have f1 := (k0.out.below b5 k0lt).free 1; have f2 := (k0.out.below b5 k0lt).free 2; have f3 := (k0.out.below b5 k0lt).free 3; have f4 := (k0.out.below b5 k0lt).free 4; clear h5 b5; rw [HM.out])
        refine region_class (fun W => ∃ q, W = w5.drewN q) (by kernel_rfl) (by kernel_rfl) ⟨1, rfl⟩ ?_
        repeat (first | go_big_quiet_skip | (go_big_quiet_want; go_big_quiet_op; first | go_big_quiet_on | (refine ⟨_, fun _ _ => rfl, ?_⟩; go_big_quiet_on)))
        refine wpQuiet_nil ?_
        rintro w6 ⟨q, rfl⟩
        go_wp2
        obtain ⟨s0, s1, s2, s3, s4⟩ := stored9 (KB.out.drewN q) (.string ⟨#[]⟩) (.int .i64 0) (.int .u32 0) (.int .u32 0) (.int .u32 0)
        exact bodyPost_ret (v := .tuple #[.agg #[.string ⟨#[]⟩, .int .i64 0, .int .u32 0, .int .u32 0, .int .u32 0], .int .i64 0, .int .i64 45]) (by simp [results, Try.results18, go_sem, s0, s1, s2, s3, s4]) rfl (P.out _ _ (by exact ((((((below_drewN T5.out.1 q).setCell (p := ⟨w.heap.size, 0, none⟩) (Nat.le_refl _) _).setCell (p := ⟨w.heap.size, 1, none⟩) (Nat.le_refl _) _).setCell (p := ⟨w.heap.size, 2, none⟩) (Nat.le_refl _) _).setCell (p := ⟨w.heap.size, 3, none⟩) (Nat.le_refl _) _).setCell (p := ⟨w.heap.size, 4, none⟩) (Nat.le_refl _) _)))
theorem rread_any (b : Str) (A : Option Addr) (n c : Nat) (w : World) (hn : b.length = n) (hcap : n ≤ c) (hl : n ≤ maxLen) (hs : Holds w A b) :
    Calls Try.prog 18 #[.slice A n c] w (GaveR b w) := by
  cases h : longB b with
  | false => exact rread_short b A n c w hn hl hs h
  | true => exact rread_long b A n c w hn hcap hl hs h
end Go.Proofs.Ytdjlcfpcplclmaa
