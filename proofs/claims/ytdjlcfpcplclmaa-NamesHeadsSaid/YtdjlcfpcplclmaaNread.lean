/- Read, of the program: one contract. -/
import Derived.Test.YtdjlcfpcplclmaaNbytes
import Derived.Deep.RegionHeld3
namespace Go.Proofs.Ytdjlcfpcplclmaa
open Go.RowKit T9
set_option linter.unusedVariables false
attribute [local go_sem] byte_get
/-- What Read answers: the head or nothing's, its length, the error. -/
def zeroHd : Hd := ⟨[], 0, 0, 0, 0⟩
def readH (b : Str) : Hd := (readN b).getD zeroHd
def readL (b : Str) : Nat := match readN b with | some h => (bytesN h).length | none => 0
def readE (b : Str) : Nat := match readN b with | some _ => 0 | none => 45
def GaveR (b : Str) (w : World) (e : Ending) (w' : World) : Prop := e = .returned (.tuple #[hv (readH b), .int .i64 (readL b : Int), .int .i64 (readE b : Int)]) ∧ Below w.heap.size w w'
theorem str_holds (w : World) (A : Option Addr) (xs : Str) (n c : Nat) (hn : xs.length = n) (h : Holds w A xs) : (convert 28 9 (.slice A n c)).run Try.prog w = .ok (.string ⟨xs.toArray⟩) w := conv_holds w A xs n c hn h
theorem holds_drewN {w : World} {A : Option Addr} {xs : List UInt8} (h : Holds w A xs) (q : Nat) : Holds (w.drewN q) A xs := h
theorem holds_drew {w : World} {A : Option Addr} {xs : List UInt8} (h : Holds w A xs) : Holds w.drew A xs := h
theorem equal_any (xs ys : Str) (A A2 : Option Addr) (n m c c2 : Nat) (w : World) (hn : xs.length = n) (hm : ys.length = m) (hx : Holds w A xs) (hy : Holds w A2 ys) :
    Calls Try.prog 26 #[.slice A n c, .slice A2 m c2] w fun e w' => e = .returned (.bool (decide (xs = ys))) ∧ w = w' := by
  have c1 := str_holds w A xs n c hn hx
  have c2' := str_holds w A2 ys m c2 hm hy
  go_enter Try.func26, Try.ntmps26
  go_wp2
  go_ret
  refine ⟨ret_bool ?_, rfl⟩
  rw [Bool.eq_iff_iff]
  simp
theorem prefix_any (xs ys : Str) (A A2 : Option Addr) (n m c c2 : Nat) (w : World) (hn : xs.length = n) (hm : ys.length = m) (hc : n ≤ c) (hl : n ≤ maxLen) (hx : Holds w A xs) (hy : Holds w A2 ys) :
    Calls Try.prog 24 #[.slice A n c, .slice A2 m c2] w fun e w' => e = .returned (.bool (ys.isPrefixOf xs)) ∧ w = w' := by
  unfold maxLen at hl
  by_cases h : m ≤ n
  · have hx2 : Holds w A (xs.take m) := by
      intro h0
      obtain ⟨ad, e, hcl⟩ := hx (by rw [List.length_take] at h0; omega)
      refine ⟨ad, e, fun j u hj => hcl j u ?_⟩
      have := hj
      simp only [bv, List.map_take, List.getElem?_take] at this
      split at this
      · exact this
      · cases this
    have hl2 : (xs.take m).length = m := by rw [List.length_take]; omega
    have E := Lib.hid (And.intro hl2 (And.intro hm hn))
    have H := Lib.hid (And.intro hx2 hy)
    clear hl2 hm hn hx hx2 hy
    go_enter Try.func24, Try.ntmps24
    go_wp2_with (go_at_call 26; refine (equal_any (xs.take m) ys _ _ _ _ _ _ _ E.out.1 E.out.2.1 H.out.1 H.out.2).mono ?_; rintro e w' ⟨rfl, rfl⟩)
    go_ret
    refine ⟨ret_bool ?_, rfl⟩
    rw [Bool.eq_iff_iff]
    have := E.out.2.1
    simp only [decide_eq_true_eq, List.isPrefixOf_iff_prefix, List.prefix_iff_eq_take, this]
    exact eq_comm
  · have e : ys.isPrefixOf xs = false := by
      rw [Bool.eq_false_iff]
      intro h2
      rw [List.isPrefixOf_iff_prefix] at h2
      have := h2.length_le
      omega
    rw [e]
    clear hn hm e
    go_enter Try.func24, Try.ntmps24
    go_wp2
    go_ret
    exact ⟨rfl, rfl⟩
theorem holds_part {w : World} {ad : Addr} {b : Str} (h : Holds w (some ad) b) (k m : Nat) : Holds w (some (ad.add k)) ((b.drop k).take m) := by
  intro h0
  have hb : 0 < b.length := by simp only [List.length_take, List.length_drop] at h0; omega
  obtain ⟨ad', e, hc⟩ := h hb
  injection e with e
  subst e
  refine ⟨_, rfl, fun j u hj => ?_⟩
  have hj2 : (bv b)[k + j]? = some u := by
    rw [← bv_part, List.getElem?_take] at hj
    split at hj
    · rwa [List.getElem?_drop] at hj
    · cases hj
  have := hc (k + j) u hj2
  have e : (ad.add k).add j = ad.add (k + j) := by
    unfold Addr.add
    by_cases h1 : k = 0
    · subst h1; simp
    · by_cases h2 : j = 0
      · subst h2; simp
      · simp [h1, h2, Nat.add_assoc]
  rw [e]
  exact this
theorem hold_alloc {w : World} {A : Option Addr} {xs : List UInt8} (h : Holds w A xs) (o : Obj) : Holds (w.alloc o) A xs := h.below (Below.alloc (Below.refl _ _) (Nat.le_refl _) _)
theorem add_succ (ad : Addr) (j : Nat) : ad.add (j + 1) = ⟨ad.block, ad.off + (j + 1), none⟩ := by unfold Addr.add; rw [if_neg (by omega)]
theorem word_part (b : Str) (ad : Addr) (c k : Nat) (W : World) (hk : k + 4 ≤ b.length) (h : Holds W (some ad) b) :
    Calls Try.prog 23 #[.slice (some (ad.add k)) 4 c] W fun e w' => e = .returned (.int .u32 (wordN b k : Int)) ∧ W = w' :=
  word_any ((b.drop k).take 4) _ 4 c W (by rw [List.length_take, List.length_drop]; omega) (by rw [List.length_take]; omega) (holds_part h k 4)
theorem word_zero (b : Str) (ad : Addr) (c : Nat) (W : World) (hk : 4 ≤ b.length) (h : Holds W (some ad) b) :
    Calls Try.prog 23 #[.slice (some ad) 4 c] W fun e w' => e = .returned (.int .u32 (wordN b 0 : Int)) ∧ W = w' := word_part b ad c 0 W (by omega) h
theorem word_more (b : Str) (ad : Addr) (c k : Nat) (W : World) (hk : k + 1 + 4 ≤ b.length) (h : Holds W (some ad) b) :
    Calls Try.prog 23 #[.slice (some ⟨ad.block, ad.off + (k + 1), none⟩) 4 c] W fun e w' => e = .returned (.int .u32 (wordN b (k + 1) : Int)) ∧ W = w' := by
  have := word_part b ad c (k + 1) W (by omega) h
  rw [add_succ] at this
  exact this
theorem holds_cells9 {w : World} {ad : Addr} {xs : List UInt8} (h : Holds w (some ad) xs) (h0 : 0 < xs.length) : ∀ j u, (bv xs)[j]? = some u → w.cell? (ad.add j) = some u := by
  obtain ⟨ad', e, hc⟩ := h h0
  injection e with e
  subst e
  exact hc
theorem hc_cells9 {W : World} {b : Nat} {t : TypeId} {h : Hd} (k : Blok W b t (hc h)) : W.cell? ⟨b, 0, none⟩ = some (.string ⟨h.name.toArray⟩) ∧ W.cell? ⟨b, 1, none⟩ = some (.int .i64 h.flags) ∧ W.cell? ⟨b, 2, none⟩ = some (.int .u32 (h.link : Int)) ∧ W.cell? ⟨b, 3, none⟩ = some (.int .u32 (h.xt : Int)) ∧ W.cell? ⟨b, 4, none⟩ = some (.int .u32 (h.size : Int)) :=
  ⟨k.at_ 0, k.at_ 1, k.at_ 2, k.at_ 3, k.at_ 4⟩
theorem stored9 {W : World} {b : Nat} {t : TypeId} {h : Hd} (k : Blok W b t (hc h)) (v0 v1 v2 v3 v4 : Value) :
    (((((W.setCell ⟨b, 0, none⟩ v0).setCell ⟨b, 1, none⟩ v1).setCell ⟨b, 2, none⟩ v2).setCell ⟨b, 3, none⟩ v3).setCell ⟨b, 4, none⟩ v4).cell? ⟨b, 0, none⟩ = some v0 ∧
    (((((W.setCell ⟨b, 0, none⟩ v0).setCell ⟨b, 1, none⟩ v1).setCell ⟨b, 2, none⟩ v2).setCell ⟨b, 3, none⟩ v3).setCell ⟨b, 4, none⟩ v4).cell? ⟨b, 1, none⟩ = some v1 ∧
    (((((W.setCell ⟨b, 0, none⟩ v0).setCell ⟨b, 1, none⟩ v1).setCell ⟨b, 2, none⟩ v2).setCell ⟨b, 3, none⟩ v3).setCell ⟨b, 4, none⟩ v4).cell? ⟨b, 2, none⟩ = some v2 ∧
    (((((W.setCell ⟨b, 0, none⟩ v0).setCell ⟨b, 1, none⟩ v1).setCell ⟨b, 2, none⟩ v2).setCell ⟨b, 3, none⟩ v3).setCell ⟨b, 4, none⟩ v4).cell? ⟨b, 3, none⟩ = some v3 ∧
    (((((W.setCell ⟨b, 0, none⟩ v0).setCell ⟨b, 1, none⟩ v1).setCell ⟨b, 2, none⟩ v2).setCell ⟨b, 3, none⟩ v3).setCell ⟨b, 4, none⟩ v4).cell? ⟨b, 4, none⟩ = some v4 := by
  have S := ((((k.set_ 0 v0).set_ 1 v1).set_ 2 v2).set_ 3 v3).set_ 4 v4
  exact ⟨S.at_ 0, S.at_ 1, S.at_ 2, S.at_ 3, S.at_ 4⟩
theorem read_short (b : Str) (A : Option Addr) (n c : Nat) (w : World) (hn : b.length = n) (hl : n ≤ maxLen) (hs : Holds w A b) (h : longB b = false) :
    Calls Try.prog 17 #[.slice A n c] w (GaveR b w) := by
  unfold maxLen at hl
  have e : readN b = none := by unfold readN; rw [h]; rfl
  have E := Lib.hid e
  have P : Hid (∀ w w' : World, Below w.heap.size w w' → GaveR b w (.returned (.tuple #[.agg #[.string ⟨#[]⟩, .int .i64 0, .int .u32 0, .int .u32 0, .int .u32 0], .int .i64 0, .int .i64 45])) w') := fun w w' hb => ⟨by unfold readH readL readE; rw [e]; rfl, hb⟩
  by_cases h14 : n < 14
  · clear h e
    go_enter Try.func17, Try.ntmps17
    go_wp2
    exact bodyPost_ret (v := .tuple #[.agg #[.string ⟨#[]⟩, .int .i64 0, .int .u32 0, .int .u32 0, .int .u32 0], .int .i64 0, .int .i64 45]) (by simp [results, Try.results17, go_sem]) rfl (P.out _ _ (by exact ((Below.refl _ _).alloc (Nat.le_refl _) _)))
  · obtain ⟨ad, rfl, hc⟩ := hs (by omega)
    have h13 : 13 < b.length := by omega
    have c13 := hc 13 _ (bv_get b 13 _ (List.getElem?_eq_getElem h13))
    rw [add_succ ad 12] at c13
    have hx := (b[13]'h13).toNat_lt
    have hlong : (n : Int) < (14 : Int) + ((b[13]'h13).toNat : Int) := by
      simp only [longB, Bool.and_eq_false_iff, decide_eq_false_iff_not, List.getElem?_eq_getElem h13, Option.getD_some] at h
      omega
    generalize (b[13]'h13).toNat = x at *
    have hlt := block_lt_of_cell c13
    clear h e hc hs
    go_enter Try.func17, Try.ntmps17
    go_wp2
    exact bodyPost_ret (v := .tuple #[.agg #[.string ⟨#[]⟩, .int .i64 0, .int .u32 0, .int .u32 0, .int .u32 0], .int .i64 0, .int .i64 45]) (by simp [results, Try.results17, go_sem]) rfl (P.out _ _ (by exact ((Below.refl _ _).alloc (Nat.le_refl _) _)))
theorem read_made {b : Str} {x y : Nat} (hh : headN b = ⟨(b.drop 14).take x, (y : Int), wordN b 0, wordN b 4, wordN b 8⟩) (w : World) :
    Blok ((w.alloc (.cells #[.string ⟨#[]⟩, .int .i64 0, .int .u32 0, .int .u32 0, .int .u32 0] 32)).alloc (.cells #[.string ⟨((b.drop 14).take x).toArray⟩, .int .i64 (y : Int), .int .u32 (wordN b 0 : Int), .int .u32 (wordN b 4 : Int), .int .u32 (wordN b 8 : Int)] 32)).drew (w.heap.size + 1) 32 (hc (headN b)) ∧
    Blok ((w.alloc (.cells #[.string ⟨#[]⟩, .int .i64 0, .int .u32 0, .int .u32 0, .int .u32 0] 32)).alloc (.cells #[.string ⟨((b.drop 14).take x).toArray⟩, .int .i64 (y : Int), .int .u32 (wordN b 0 : Int), .int .u32 (wordN b 4 : Int), .int .u32 (wordN b 8 : Int)] 32)).drew w.heap.size 32 (hc zeroHd) ∧
    Below w.heap.size w ((w.alloc (.cells #[.string ⟨#[]⟩, .int .i64 0, .int .u32 0, .int .u32 0, .int .u32 0] 32)).alloc (.cells #[.string ⟨((b.drop 14).take x).toArray⟩, .int .i64 (y : Int), .int .u32 (wordN b 0 : Int), .int .u32 (wordN b 4 : Int), .int .u32 (wordN b 8 : Int)] 32)).drew := by
  rw [hh]
  refine ⟨?_, ?_, ?_⟩
  · exact (blok_at (w := w.alloc (.cells #[.string ⟨#[]⟩, .int .i64 0, .int .u32 0, .int .u32 0, .int .u32 0] 32)) (g := w.heap.size + 1) 32 (hc ⟨(b.drop 14).take x, (y : Int), wordN b 0, wordN b 4, wordN b 8⟩) (by simp)).drew
  · exact ((Blok.made w 32 (hc zeroHd)).alloc _).drew
  · exact (((Below.refl _ _).alloc (Nat.le_refl _) _).alloc (by simp) _).drew
set_option maxHeartbeats 4000000 in
set_option maxRecDepth 100000 in
theorem read_long (b : Str) (A : Option Addr) (n c : Nat) (w : World) (hn : b.length = n) (hcap : n ≤ c) (hl : n ≤ maxLen) (hs : Holds w A b) (h : longB b = true) :
    Calls Try.prog 17 #[.slice A n c] w (GaveR b w) := by
  unfold maxLen at hl
  have hl2 := h
  simp only [longB, Bool.and_eq_true, decide_eq_true_eq] at hl2
  obtain ⟨ad, rfl, hc⟩ := hs (by omega)
  have h13 : 13 < b.length := by omega
  have h12 : 12 < b.length := by omega
  rw [List.getElem?_eq_getElem h13, Option.getD_some] at hl2
  have c13 := hc 13 _ (bv_get b 13 _ (List.getElem?_eq_getElem h13))
  have c12 := hc 12 _ (bv_get b 12 _ (List.getElem?_eq_getElem h12))
  rw [add_succ ad 12] at c13
  rw [add_succ ad 11] at c12
  have hx := (b[13]'h13).toNat_lt
  have hx2 := (b[12]'h12).toNat_lt
  have hlong : ¬ (n : Int) < (14 : Int) + ((b[13]'h13).toNat : Int) := by omega
  have H := Lib.hid hs
  have C13 : Hid (∀ W : World, Holds W (some ad) b → W.cell? ⟨ad.block, ad.off + 13, none⟩ = some (.int .u8 ((b[13]'h13).toNat : Int))) := fun W h => by
    have := holds_cells9 h (by omega) 13 _ (bv_get b 13 _ (List.getElem?_eq_getElem h13))
    rw [add_succ ad 12] at this
    exact this
  have C12 : Hid (∀ W : World, Holds W (some ad) b → W.cell? ⟨ad.block, ad.off + 12, none⟩ = some (.int .u8 ((b[12]'h12).toNat : Int))) := fun W h => by
    have := holds_cells9 h (by omega) 12 _ (bv_get b 12 _ (List.getElem?_eq_getElem h12))
    rw [add_succ ad 11] at this
    exact this
  obtain ⟨x, hx13⟩ : ∃ x, (b[13]'h13).toNat = x := ⟨_, rfl⟩
  obtain ⟨y, hy12⟩ : ∃ y, (b[12]'h12).toNat = y := ⟨_, rfl⟩
  have HXY := Lib.hid (And.intro hx13 hy12)
  rw [hx13] at C13 c13 hx hlong hl2
  rw [hy12] at C12 c12 hx2
  have HH := Lib.hid (show headN b = ⟨(b.drop 14).take x, (y : Int), wordN b 0, wordN b 4, wordN b 8⟩ by
    unfold headN
    rw [List.getElem?_eq_getElem h13, List.getElem?_eq_getElem h12, Option.getD_some, Option.getD_some, hx13, hy12])
  clear hx13 hy12
  have hlt := block_lt_of_cell c13
  have LONG := Lib.hid h
  clear h hc hs
  obtain ⟨hl3, hl4⟩ := hl2
  have LB := Lib.hid hn
  have HL := Lib.hid (show n ≤ maxLen by unfold maxLen; exact hl)
  rw [hn] at hl3 hl4
  clear hn
  have L4 := Lib.hid (show 14 ≤ b.length by omega)
  by_cases hne : c = 14
  · subst hne
    obtain rfl : n = 14 := by omega
    obtain rfl : x = 0 := by omega
    have CV : ∀ W : World, Holds W (some ad) b → (convert 28 9 (.slice (some ad) 0 0)).run Try.prog W = .ok (.string ⟨#[]⟩) W := fun W h => conv_holds W _ [] 0 0 rfl (fun h0 => by simp at h0)
    have F : Hid (∀ W : World, Holds W (some ad) b → W.cell? ⟨ad.block, ad.off + 13, none⟩ = some (.int .u8 0) ∧ W.cell? ⟨ad.block, ad.off + 12, none⟩ = some (.int .u8 (y : Int)) ∧ (convert 28 9 (.slice (some ad) 0 0)).run Try.prog W = .ok (.string ⟨#[]⟩) W) := fun W h => ⟨by simpa using C13.out W h, C12.out W h, CV W h⟩
    clear CV C13 C12
    have q1 : (13 : Int) < (14 : Int) := by omega
    have q2 : (12 : Int) < (14 : Int) := by omega
    have q3 : (14 : Int) ≤ (14 : Int) := by omega
    have q4 : (0 : Int) ≤ 0 := by omega
    have q5 : (12 : Int) ≤ (14 : Int) := by omega
    have q6 : (8 : Int) ≤ (14 : Int) := by omega
    have q7 : (4 : Int) ≤ (14 : Int) := by omega
    have q8 : (14 : Int) ≤ (14 : Int) := by omega
    have q9 : (0 : Int) ≤ 0 := by omega
    have q10 : IntKind.i64.wrap (y : Int) = (y : Int) := IntWalk.i64_in _ (by omega)
    go_enter Try.func17, Try.ntmps17
    go_upto_region 3 with fail
    go_cut [5] (fun p wx => p = .pointer (some ⟨w.heap.size + 1, 0, none⟩) ∧ Blok wx (w.heap.size + 1) 32 (hc (headN b)) ∧ Blok wx w.heap.size 32 (hc zeroHd) ∧ Below w.heap.size w wx)
    case first =>
      go_region_held3 (fun W => W.cell? ⟨ad.block, ad.off + 13, none⟩ = some (.int .u8 0) ∧ W.cell? ⟨ad.block, ad.off + 12, none⟩ = some (.int .u8 (y : Int)) ∧ (convert 28 9 (.slice (some ad) 0 0)).run Try.prog W = .ok (.string ⟨#[]⟩) W)
        (first | exact F.out _ (holds_drew (hold_alloc H.out _)) | exact F.out _ (holds_drew (hold_alloc (hold_alloc H.out _) _)) | exact F.out _ (hold_alloc (holds_drew (hold_alloc H.out _)) _))
        (first
          | (go_at_call 23; (with_reducible refine (word_zero b ad 14 _ (by have := L4.out; omega) (by first | exact holds_drew (hold_alloc H.out _) | exact holds_drew (hold_alloc (hold_alloc H.out _) _) | exact hold_alloc (holds_drew (hold_alloc H.out _)) _)).mono ?_); rintro e w' ⟨rfl, rfl⟩)
          | (go_at_call 23; (with_reducible refine (word_more b ad _ 3 _ (by have := L4.out; omega) (by first | exact holds_drew (hold_alloc H.out _) | exact holds_drew (hold_alloc (hold_alloc H.out _) _) | exact hold_alloc (holds_drew (hold_alloc H.out _)) _)).mono ?_); rintro e w' ⟨rfl, rfl⟩)
          | (go_at_call 23; (with_reducible refine (word_more b ad _ 7 _ (by have := L4.out; omega) (by first | exact holds_drew (hold_alloc H.out _) | exact holds_drew (hold_alloc (hold_alloc H.out _) _) | exact hold_alloc (holds_drew (hold_alloc H.out _)) _)).mono ?_); rintro e w' ⟨rfl, rfl⟩))
      all_goals
        go_wp2_with fail
        go_meet
        exact ⟨rfl, read_made HH.out w⟩
    case rest =>
      obtain ⟨rfl, k1, k0, bel⟩ := hcut
      have hlen : (headN b).name.length ≤ maxLen := by
        have h1 : ((b.drop 14).take (b[13]?.getD 0).toNat).length ≤ b.length := by rw [List.length_take, List.length_drop]; omega
        have h2 := LB.out
        show ((b.drop 14).take (b[13]?.getD 0).toNat).length ≤ maxLen
        unfold maxLen
        omega
      obtain ⟨a0, a1, a2, a3, a4⟩ := hc_cells9 k1
      have k0lt := k0.lt
      have k1lt := k1.lt
      have k1 := Lib.hid k1
      have k0 := Lib.hid k0
      have HB := Lib.hid (H.out.below bel)
      have hz := bel.size
      have bel0 := Lib.hid bel
      clear bel
      by_cases e0 : errN (headN b) = 0
      · cases hp : (outN (headN b)).isPrefixOf b with
        | false =>
          have e : readN b = none := by
            unfold readN goodB
            rw [decide_eq_true e0, show (bytesN (headN b)) = outN (headN b) by unfold outN; rw [if_pos e0], hp]
            simp
          have P : Hid (∀ w w' : World, Below w.heap.size w w' → GaveR b w (.returned (.tuple #[.agg #[.string ⟨#[]⟩, .int .i64 0, .int .u32 0, .int .u32 0, .int .u32 0], .int .i64 0, .int .i64 45])) w') := fun w w' hb => ⟨by unfold readH readL readE; rw [e]; rfl, hb⟩
          have PF := Lib.hid hp
          have E0 := Lib.hid e0
          clear e hp e0
          go_wp2_with (first
            | (go_at_call 14; refine (bytes_any (headN b) _ (headN_ok b) hlen).mono ?_; rintro e w5 ⟨A5, c5, rfl, h5, b5⟩; have T5 := Lib.hid (And.intro (bel0.out.trans (b5.mono hz)) (And.intro h5 (HB.out.below b5))); obtain ⟨z0, z1, z2, z3, z4⟩ := hc_cells9 (k0.out.below b5 k0lt); obtain ⟨a0, a1, a2, a3, a4⟩ := hc_cells9 (k1.out.below b5 k1lt); have KB := Lib.hid (k0.out.below b5 k0lt); have f0 := (k0.out.below b5 k0lt).free 0; have f1 := (k0.out.below b5 k0lt).free 1; have f2 := (k0.out.below b5 k0lt).free 2; have f3 := (k0.out.below b5 k0lt).free 3; have f4 := (k0.out.below b5 k0lt).free 4; clear h5 b5; rw [E0.out])
            | (go_at_call 24; refine (prefix_any b (outN (headN b)) (some ad) A5 14 _ 14 c5 _ LB.out rfl hcap HL.out T5.out.2.2 T5.out.2.1).mono ?_; rw [PF.out]; rintro e w' ⟨rfl, rfl⟩))
          obtain ⟨s0, s1, s2, s3, s4⟩ := stored9 KB.out (.string ⟨#[]⟩) (.int .i64 0) (.int .u32 0) (.int .u32 0) (.int .u32 0)
          exact bodyPost_ret (v := .tuple #[.agg #[.string ⟨#[]⟩, .int .i64 0, .int .u32 0, .int .u32 0, .int .u32 0], .int .i64 0, .int .i64 45]) (by simp [results, Try.results17, go_sem, s0, s1, s2, s3, s4]) rfl (P.out _ _ (by exact (((((T5.out.1.setCell (p := ⟨w.heap.size, 0, none⟩) (Nat.le_refl _) _).setCell (p := ⟨w.heap.size, 1, none⟩) (Nat.le_refl _) _).setCell (p := ⟨w.heap.size, 2, none⟩) (Nat.le_refl _) _).setCell (p := ⟨w.heap.size, 3, none⟩) (Nat.le_refl _) _).setCell (p := ⟨w.heap.size, 4, none⟩) (Nat.le_refl _) _)))
        | true =>
          have e : readN b = some (headN b) := by
            unfold readN goodB
            rw [decide_eq_true e0, show (bytesN (headN b)) = outN (headN b) by unfold outN; rw [if_pos e0], hp, LONG.out]
            simp
          have EQ := Lib.hid e
          have PF := Lib.hid hp
          have E0 := Lib.hid e0
          clear e hp e0
          go_wp2_with (first
            | (go_at_call 14; refine (bytes_any (headN b) _ (headN_ok b) hlen).mono ?_; rintro e w5 ⟨A5, c5, rfl, h5, b5⟩; have T5 := Lib.hid (And.intro (bel0.out.trans (b5.mono hz)) (And.intro h5 (HB.out.below b5))); obtain ⟨z0, z1, z2, z3, z4⟩ := hc_cells9 (k0.out.below b5 k0lt); obtain ⟨a0, a1, a2, a3, a4⟩ := hc_cells9 (k1.out.below b5 k1lt); have KB := Lib.hid (k0.out.below b5 k0lt); have f0 := (k0.out.below b5 k0lt).free 0; have f1 := (k0.out.below b5 k0lt).free 1; have f2 := (k0.out.below b5 k0lt).free 2; have f3 := (k0.out.below b5 k0lt).free 3; have f4 := (k0.out.below b5 k0lt).free 4; clear h5 b5; rw [E0.out])
            | (go_at_call 24; refine (prefix_any b (outN (headN b)) (some ad) A5 14 _ 14 c5 _ LB.out rfl hcap HL.out T5.out.2.2 T5.out.2.1).mono ?_; rw [PF.out]; rintro e w' ⟨rfl, rfl⟩))
          obtain ⟨s0, s1, s2, s3, s4⟩ := stored9 KB.out (.string ⟨(headN b).name.toArray⟩) (.int .i64 (headN b).flags) (.int .u32 ((headN b).link : Int)) (.int .u32 ((headN b).xt : Int)) (.int .u32 ((headN b).size : Int))
          refine bodyPost_ret (v := .tuple #[.agg #[.string ⟨(headN b).name.toArray⟩, .int .i64 (headN b).flags, .int .u32 ((headN b).link : Int), .int .u32 ((headN b).xt : Int), .int .u32 ((headN b).size : Int)], .int .i64 ((outN (headN b)).length : Int), .int .i64 0]) (by simp [results, Try.results17, go_sem, s0, s1, s2, s3, s4]) rfl ⟨?_, (((((T5.out.1.setCell (p := ⟨w.heap.size, 0, none⟩) (Nat.le_refl _) _).setCell (p := ⟨w.heap.size, 1, none⟩) (Nat.le_refl _) _).setCell (p := ⟨w.heap.size, 2, none⟩) (Nat.le_refl _) _).setCell (p := ⟨w.heap.size, 3, none⟩) (Nat.le_refl _) _).setCell (p := ⟨w.heap.size, 4, none⟩) (Nat.le_refl _) _)⟩
          unfold readH readL readE
          rw [EQ.out]
          unfold outN
          rw [if_pos E0.out]
          rfl
      · have e : readN b = none := by
          unfold readN goodB
          rw [decide_eq_false e0]
          simp
        have P : Hid (∀ w w' : World, Below w.heap.size w w' → GaveR b w (.returned (.tuple #[.agg #[.string ⟨#[]⟩, .int .i64 0, .int .u32 0, .int .u32 0, .int .u32 0], .int .i64 0, .int .i64 45])) w') := fun w w' hb => ⟨by unfold readH readL readE; rw [e]; rfl, hb⟩
        obtain ⟨m, hm⟩ : ∃ m, errN (headN b) = m := ⟨_, rfl⟩
        rw [hm] at e0
        have N2 : ((m : Int) != 0) = true := by simp; omega
        have HM := Lib.hid hm
        clear e hm e0
        go_wp2_with (go_at_call 14; refine (bytes_any (headN b) _ (headN_ok b) hlen).mono ?_; rintro e w5 ⟨A5, c5, rfl, h5, b5⟩; have T5 := Lib.hid (And.intro (bel0.out.trans (b5.mono hz)) (And.intro h5 (HB.out.below b5))); obtain ⟨z0, z1, z2, z3, z4⟩ := hc_cells9 (k0.out.below b5 k0lt); obtain ⟨a0, a1, a2, a3, a4⟩ := hc_cells9 (k1.out.below b5 k1lt); have KB := Lib.hid (k0.out.below b5 k0lt); have f0 := (k0.out.below b5 k0lt).free 0; have f1 := (k0.out.below b5 k0lt).free 1; have f2 := (k0.out.below b5 k0lt).free 2; have f3 := (k0.out.below b5 k0lt).free 3; have f4 := (k0.out.below b5 k0lt).free 4; clear h5 b5; rw [HM.out])
        obtain ⟨s0, s1, s2, s3, s4⟩ := stored9 KB.out (.string ⟨#[]⟩) (.int .i64 0) (.int .u32 0) (.int .u32 0) (.int .u32 0)
        exact bodyPost_ret (v := .tuple #[.agg #[.string ⟨#[]⟩, .int .i64 0, .int .u32 0, .int .u32 0, .int .u32 0], .int .i64 0, .int .i64 45]) (by simp [results, Try.results17, go_sem, s0, s1, s2, s3, s4]) rfl (P.out _ _ (by exact (((((T5.out.1.setCell (p := ⟨w.heap.size, 0, none⟩) (Nat.le_refl _) _).setCell (p := ⟨w.heap.size, 1, none⟩) (Nat.le_refl _) _).setCell (p := ⟨w.heap.size, 2, none⟩) (Nat.le_refl _) _).setCell (p := ⟨w.heap.size, 3, none⟩) (Nat.le_refl _) _).setCell (p := ⟨w.heap.size, 4, none⟩) (Nat.le_refl _) _)))
  · have CV : ∀ W : World, Holds W (some ad) b → (convert 28 9 (.slice (some ⟨ad.block, ad.off + 14, none⟩) x (c - 14))).run Try.prog W = .ok (.string ⟨((b.drop 14).take x).toArray⟩) W := fun W h => by
      have hl0 : ((b.drop 14).take x).length = x := by have := LB.out; rw [List.length_take, List.length_drop]; omega
      have := holds_part h 14 x
      rw [add_succ ad 13] at this
      exact conv_holds W _ ((b.drop 14).take x) x (c - 14) hl0 this
    have F : Hid (∀ W : World, Holds W (some ad) b → W.cell? ⟨ad.block, ad.off + 13, none⟩ = some (.int .u8 (x : Int)) ∧ W.cell? ⟨ad.block, ad.off + 12, none⟩ = some (.int .u8 (y : Int)) ∧ (convert 28 9 (.slice (some ⟨ad.block, ad.off + 14, none⟩) x (c - 14))).run Try.prog W = .ok (.string ⟨((b.drop 14).take x).toArray⟩) W) := fun W h => ⟨(C13.out W h), (C12.out W h), CV W h⟩
    clear CV C13 C12
    have q1 : (13 : Int) < (n : Int) := by omega
    have q2 : (12 : Int) < (n : Int) := by omega
    have q3 : (14 : Int) ≤ (n : Int) := by omega
    have q4 : (x : Int) ≤ ((c - 14 : Nat) : Int) := by omega
    have q5 : (12 : Int) ≤ (c : Int) := by omega
    have q6 : (8 : Int) ≤ (c : Int) := by omega
    have q7 : (4 : Int) ≤ (c : Int) := by omega
    have q8 : (14 : Int) ≤ (c : Int) := by omega
    have q9 : (0 : Int) ≤ (x : Int) := by omega
    have q10 : IntKind.i64.wrap (y : Int) = (y : Int) := IntWalk.i64_in _ (by omega)
    go_enter Try.func17, Try.ntmps17
    go_upto_region 3 with fail
    go_cut [5] (fun p wx => p = .pointer (some ⟨w.heap.size + 1, 0, none⟩) ∧ Blok wx (w.heap.size + 1) 32 (hc (headN b)) ∧ Blok wx w.heap.size 32 (hc zeroHd) ∧ Below w.heap.size w wx)
    case first =>
      go_region_held3 (fun W => W.cell? ⟨ad.block, ad.off + 13, none⟩ = some (.int .u8 (x : Int)) ∧ W.cell? ⟨ad.block, ad.off + 12, none⟩ = some (.int .u8 (y : Int)) ∧ (convert 28 9 (.slice (some ⟨ad.block, ad.off + 14, none⟩) x (c - 14))).run Try.prog W = .ok (.string ⟨((b.drop 14).take x).toArray⟩) W)
        (first | exact F.out _ (holds_drew (hold_alloc H.out _)) | exact F.out _ (holds_drew (hold_alloc (hold_alloc H.out _) _)) | exact F.out _ (hold_alloc (holds_drew (hold_alloc H.out _)) _))
        (first
          | (go_at_call 23; (with_reducible refine (word_zero b ad c _ (by have := L4.out; omega) (by first | exact holds_drew (hold_alloc H.out _) | exact holds_drew (hold_alloc (hold_alloc H.out _) _) | exact hold_alloc (holds_drew (hold_alloc H.out _)) _)).mono ?_); rintro e w' ⟨rfl, rfl⟩)
          | (go_at_call 23; (with_reducible refine (word_more b ad _ 3 _ (by have := L4.out; omega) (by first | exact holds_drew (hold_alloc H.out _) | exact holds_drew (hold_alloc (hold_alloc H.out _) _) | exact hold_alloc (holds_drew (hold_alloc H.out _)) _)).mono ?_); rintro e w' ⟨rfl, rfl⟩)
          | (go_at_call 23; (with_reducible refine (word_more b ad _ 7 _ (by have := L4.out; omega) (by first | exact holds_drew (hold_alloc H.out _) | exact holds_drew (hold_alloc (hold_alloc H.out _) _) | exact hold_alloc (holds_drew (hold_alloc H.out _)) _)).mono ?_); rintro e w' ⟨rfl, rfl⟩))
      all_goals
        go_wp2_with fail
        go_meet
        exact ⟨rfl, read_made HH.out w⟩
    case rest =>
      obtain ⟨rfl, k1, k0, bel⟩ := hcut
      have hlen : (headN b).name.length ≤ maxLen := by
        have h1 : ((b.drop 14).take (b[13]?.getD 0).toNat).length ≤ b.length := by rw [List.length_take, List.length_drop]; omega
        have h2 := LB.out
        show ((b.drop 14).take (b[13]?.getD 0).toNat).length ≤ maxLen
        unfold maxLen
        omega
      obtain ⟨a0, a1, a2, a3, a4⟩ := hc_cells9 k1
      have k0lt := k0.lt
      have k1lt := k1.lt
      have k1 := Lib.hid k1
      have k0 := Lib.hid k0
      have HB := Lib.hid (H.out.below bel)
      have hz := bel.size
      have bel0 := Lib.hid bel
      clear bel
      by_cases e0 : errN (headN b) = 0
      · cases hp : (outN (headN b)).isPrefixOf b with
        | false =>
          have e : readN b = none := by
            unfold readN goodB
            rw [decide_eq_true e0, show (bytesN (headN b)) = outN (headN b) by unfold outN; rw [if_pos e0], hp]
            simp
          have P : Hid (∀ w w' : World, Below w.heap.size w w' → GaveR b w (.returned (.tuple #[.agg #[.string ⟨#[]⟩, .int .i64 0, .int .u32 0, .int .u32 0, .int .u32 0], .int .i64 0, .int .i64 45])) w') := fun w w' hb => ⟨by unfold readH readL readE; rw [e]; rfl, hb⟩
          have PF := Lib.hid hp
          have E0 := Lib.hid e0
          clear e hp e0
          go_wp2_with (first
            | (go_at_call 14; refine (bytes_any (headN b) _ (headN_ok b) hlen).mono ?_; rintro e w5 ⟨A5, c5, rfl, h5, b5⟩; have T5 := Lib.hid (And.intro (bel0.out.trans (b5.mono hz)) (And.intro h5 (HB.out.below b5))); obtain ⟨z0, z1, z2, z3, z4⟩ := hc_cells9 (k0.out.below b5 k0lt); obtain ⟨a0, a1, a2, a3, a4⟩ := hc_cells9 (k1.out.below b5 k1lt); have KB := Lib.hid (k0.out.below b5 k0lt); have f0 := (k0.out.below b5 k0lt).free 0; have f1 := (k0.out.below b5 k0lt).free 1; have f2 := (k0.out.below b5 k0lt).free 2; have f3 := (k0.out.below b5 k0lt).free 3; have f4 := (k0.out.below b5 k0lt).free 4; clear h5 b5; rw [E0.out])
            | (go_at_call 24; refine (prefix_any b (outN (headN b)) (some ad) A5 n _ c c5 _ LB.out rfl hcap HL.out T5.out.2.2 T5.out.2.1).mono ?_; rw [PF.out]; rintro e w' ⟨rfl, rfl⟩))
          obtain ⟨s0, s1, s2, s3, s4⟩ := stored9 KB.out (.string ⟨#[]⟩) (.int .i64 0) (.int .u32 0) (.int .u32 0) (.int .u32 0)
          exact bodyPost_ret (v := .tuple #[.agg #[.string ⟨#[]⟩, .int .i64 0, .int .u32 0, .int .u32 0, .int .u32 0], .int .i64 0, .int .i64 45]) (by simp [results, Try.results17, go_sem, s0, s1, s2, s3, s4]) rfl (P.out _ _ (by exact (((((T5.out.1.setCell (p := ⟨w.heap.size, 0, none⟩) (Nat.le_refl _) _).setCell (p := ⟨w.heap.size, 1, none⟩) (Nat.le_refl _) _).setCell (p := ⟨w.heap.size, 2, none⟩) (Nat.le_refl _) _).setCell (p := ⟨w.heap.size, 3, none⟩) (Nat.le_refl _) _).setCell (p := ⟨w.heap.size, 4, none⟩) (Nat.le_refl _) _)))
        | true =>
          have e : readN b = some (headN b) := by
            unfold readN goodB
            rw [decide_eq_true e0, show (bytesN (headN b)) = outN (headN b) by unfold outN; rw [if_pos e0], hp, LONG.out]
            simp
          have EQ := Lib.hid e
          have PF := Lib.hid hp
          have E0 := Lib.hid e0
          clear e hp e0
          go_wp2_with (first
            | (go_at_call 14; refine (bytes_any (headN b) _ (headN_ok b) hlen).mono ?_; rintro e w5 ⟨A5, c5, rfl, h5, b5⟩; have T5 := Lib.hid (And.intro (bel0.out.trans (b5.mono hz)) (And.intro h5 (HB.out.below b5))); obtain ⟨z0, z1, z2, z3, z4⟩ := hc_cells9 (k0.out.below b5 k0lt); obtain ⟨a0, a1, a2, a3, a4⟩ := hc_cells9 (k1.out.below b5 k1lt); have KB := Lib.hid (k0.out.below b5 k0lt); have f0 := (k0.out.below b5 k0lt).free 0; have f1 := (k0.out.below b5 k0lt).free 1; have f2 := (k0.out.below b5 k0lt).free 2; have f3 := (k0.out.below b5 k0lt).free 3; have f4 := (k0.out.below b5 k0lt).free 4; clear h5 b5; rw [E0.out])
            | (go_at_call 24; refine (prefix_any b (outN (headN b)) (some ad) A5 n _ c c5 _ LB.out rfl hcap HL.out T5.out.2.2 T5.out.2.1).mono ?_; rw [PF.out]; rintro e w' ⟨rfl, rfl⟩))
          obtain ⟨s0, s1, s2, s3, s4⟩ := stored9 KB.out (.string ⟨(headN b).name.toArray⟩) (.int .i64 (headN b).flags) (.int .u32 ((headN b).link : Int)) (.int .u32 ((headN b).xt : Int)) (.int .u32 ((headN b).size : Int))
          refine bodyPost_ret (v := .tuple #[.agg #[.string ⟨(headN b).name.toArray⟩, .int .i64 (headN b).flags, .int .u32 ((headN b).link : Int), .int .u32 ((headN b).xt : Int), .int .u32 ((headN b).size : Int)], .int .i64 ((outN (headN b)).length : Int), .int .i64 0]) (by simp [results, Try.results17, go_sem, s0, s1, s2, s3, s4]) rfl ⟨?_, (((((T5.out.1.setCell (p := ⟨w.heap.size, 0, none⟩) (Nat.le_refl _) _).setCell (p := ⟨w.heap.size, 1, none⟩) (Nat.le_refl _) _).setCell (p := ⟨w.heap.size, 2, none⟩) (Nat.le_refl _) _).setCell (p := ⟨w.heap.size, 3, none⟩) (Nat.le_refl _) _).setCell (p := ⟨w.heap.size, 4, none⟩) (Nat.le_refl _) _)⟩
          unfold readH readL readE
          rw [EQ.out]
          unfold outN
          rw [if_pos E0.out]
          rfl
      · have e : readN b = none := by
          unfold readN goodB
          rw [decide_eq_false e0]
          simp
        have P : Hid (∀ w w' : World, Below w.heap.size w w' → GaveR b w (.returned (.tuple #[.agg #[.string ⟨#[]⟩, .int .i64 0, .int .u32 0, .int .u32 0, .int .u32 0], .int .i64 0, .int .i64 45])) w') := fun w w' hb => ⟨by unfold readH readL readE; rw [e]; rfl, hb⟩
        obtain ⟨m, hm⟩ : ∃ m, errN (headN b) = m := ⟨_, rfl⟩
        rw [hm] at e0
        have N2 : ((m : Int) != 0) = true := by simp; omega
        have HM := Lib.hid hm
        clear e hm e0
        go_wp2_with (go_at_call 14; refine (bytes_any (headN b) _ (headN_ok b) hlen).mono ?_; rintro e w5 ⟨A5, c5, rfl, h5, b5⟩; have T5 := Lib.hid (And.intro (bel0.out.trans (b5.mono hz)) (And.intro h5 (HB.out.below b5))); obtain ⟨z0, z1, z2, z3, z4⟩ := hc_cells9 (k0.out.below b5 k0lt); obtain ⟨a0, a1, a2, a3, a4⟩ := hc_cells9 (k1.out.below b5 k1lt); have KB := Lib.hid (k0.out.below b5 k0lt); have f0 := (k0.out.below b5 k0lt).free 0; have f1 := (k0.out.below b5 k0lt).free 1; have f2 := (k0.out.below b5 k0lt).free 2; have f3 := (k0.out.below b5 k0lt).free 3; have f4 := (k0.out.below b5 k0lt).free 4; clear h5 b5; rw [HM.out])
        obtain ⟨s0, s1, s2, s3, s4⟩ := stored9 KB.out (.string ⟨#[]⟩) (.int .i64 0) (.int .u32 0) (.int .u32 0) (.int .u32 0)
        exact bodyPost_ret (v := .tuple #[.agg #[.string ⟨#[]⟩, .int .i64 0, .int .u32 0, .int .u32 0, .int .u32 0], .int .i64 0, .int .i64 45]) (by simp [results, Try.results17, go_sem, s0, s1, s2, s3, s4]) rfl (P.out _ _ (by exact (((((T5.out.1.setCell (p := ⟨w.heap.size, 0, none⟩) (Nat.le_refl _) _).setCell (p := ⟨w.heap.size, 1, none⟩) (Nat.le_refl _) _).setCell (p := ⟨w.heap.size, 2, none⟩) (Nat.le_refl _) _).setCell (p := ⟨w.heap.size, 3, none⟩) (Nat.le_refl _) _).setCell (p := ⟨w.heap.size, 4, none⟩) (Nat.le_refl _) _)))
theorem read_any (b : Str) (A : Option Addr) (n c : Nat) (w : World) (hn : b.length = n) (hcap : n ≤ c) (hl : n ≤ maxLen) (hs : Holds w A b) :
    Calls Try.prog 17 #[.slice A n c] w (GaveR b w) := by
  cases h : longB b with
  | false => exact read_short b A n c w hn hl hs h
  | true => exact read_long b A n c w hn hcap hl hs h
end Go.Proofs.Ytdjlcfpcplclmaa
