/- Bytes of a head, of the document's answer: one contract. -/
import Derived.Test.YtdjlcfpcplclmaaNbytes
import Derived.Deep.RegionHeld3
import Derived.Deep.RegionLawGrows
namespace Go.Proofs.Ytdjlcfpcplclmaa
open Go.RowKit T9
set_option linter.unusedVariables false
attribute [local go_sem] byte_get
theorem rbytes_name (h : Hd) (w : World) (hl : h.name.length ≤ maxLen) (hr : rightB h.name = false) : Calls Try.prog 16 #[hv h] w (GaveB h w) := by
  have e : errN h = 41 := by unfold errN; rw [hr]; rfl
  have o : outN h = [] := out_bad (by rw [e]; decide)
  unfold hv
  go_enter Try.func16, Try.ntmps16
  go_wp2_with (go_at_call 9; refine (rright_any h.name _ hl).mono ?_; rw [hr]; rintro e w' ⟨rfl, rfl⟩)
  go_ret2
  exact ⟨none, 0, by rw [o, e]; rfl, by rw [o]; exact holds_nil _, (Below.refl _ _).alloc (Nat.le_refl _) _⟩
theorem rbytes_flags (h : Hd) (w : World) (hl : h.name.length ≤ maxLen) (hr : rightB h.name = true) (hf : ¬ (0 ≤ h.flags ∧ h.flags ≤ 15)) : Calls Try.prog 16 #[hv h] w (GaveB h w) := by
  have e : errN h = 1 := by unfold errN; rw [hr, if_pos rfl, if_neg hf]
  have o : outN h = [] := out_bad (by rw [e]; decide)
  unfold hv
  by_cases h0 : h.flags < 0
  · clear hf
    go_enter Try.func16, Try.ntmps16
    go_wp2_with (go_at_call 9; refine (rright_any h.name _ hl).mono ?_; rw [hr]; rintro e w' ⟨rfl, rfl⟩)
    go_ret2
    exact ⟨none, 0, by rw [o, e]; rfl, by rw [o]; exact holds_nil _, (Below.refl _ _).alloc (Nat.le_refl _) _⟩
  · have h1 : 15 < h.flags := by omega
    clear hf
    go_enter Try.func16, Try.ntmps16
    go_wp2_with (go_at_call 9; refine (rright_any h.name _ hl).mono ?_; rw [hr]; rintro e w' ⟨rfl, rfl⟩)
    go_ret2
    exact ⟨none, 0, by rw [o, e]; rfl, by rw [o]; exact holds_nil _, (Below.refl _ _).alloc (Nat.le_refl _) _⟩
theorem holds_alloc {w : World} {A : Option Addr} {xs : List UInt8} (h : Holds w A xs) (o : Obj) : Holds (w.alloc o) A xs := h.below (Below.alloc (Below.refl _ _) (Nat.le_refl _) _)
theorem four_holds (n : Nat) {w w' : World} (h : w.alloc (.cells (fourB n).toArray 5) = w') : Holds w' (some ⟨w.heap.size, 0, none⟩) (leN 4 n) := by
  subst h
  intro _
  refine ⟨_, rfl, fun j u hu => ?_⟩
  rw [addr_add, Nat.zero_add]
  exact ((Blok.made w 5 (fourB n)).at_ j).trans hu
theorem holds_cells {w : World} {ad : Addr} {xs : List UInt8} (h : Holds w (some ad) xs) (h0 : 0 < xs.length) : ∀ j u, (bv xs)[j]? = some u → w.cell? (ad.add j) = some u := by
  obtain ⟨ad', e, hc⟩ := h h0
  injection e with e
  subst e
  exact hc
theorem below_grown {w w' : World} (g : w.grownBy w' none) : Below w.heap.size w w' := ⟨g.os, g.tape, g.output, g.size, fun j hj => g.block j hj (fun q => by cases q)⟩
/-- Appending bytes to a slice that is full: a new row. -/
theorem step_append_full {ops : Array Oper} {o : Oper} {a : Act} {w : World} {K : Act → World → Prop} {Q : Exit → Act → World → Prop} {E : Prop} (hgd : o.guard = none) (s x : Operand)
    (ho : o.op = .call { callee := .builtin .append, args := #[s, x], argTypes := #[28, 28] }) (A1 A2 : Addr) (xs ys : Str) (n m c : Nat)
    (hs : a.eval s = .slice (some A1) n n) (h1 : Holds w (some A1) xs) (ln : xs.length = n) (hx : a.eval x = .slice (some A2) m c) (h2 : Holds w (some A2) ys) (lm : ys.length = m) (p1 : 0 < n) (p2 : 0 < m) (hb : n + m ≤ 1000000)
    (hK : ∀ A c' w', w'.ownsRow w.heap.size 5 1 (.slice A (n + m) c') (n + m) (bv (xs ++ ys)) → Below w.heap.size w w' → K (a.put o.dst (.slice A (n + m) c')) w') :
    if Region.wanted o (yielded ops a.tmps) = true then Oper.wp Try.prog o a w K Q else E := by
  obtain ⟨i0, hi, hz0, hz1, hz2⟩ := info_parts info_byte
  subst ln lm
  refine step_append_grows hgd s x 28 ho 5 i0 _ 1 1 Try.underlying28 hi hz0 hz1 hz2 rfl (by decide) (some A1) xs.length xs.length (bv xs) hs (fun e => by cases e) (by rw [length_bv]; omega) (fun b e => by injection e with e; subst e; exact holds_cells h1 p1) A2 ys.length c (bv ys) hx (by rw [length_bv]; omega) (holds_cells h2 p2) (one_bv _) (by omega) (by unfold maxLen; omega) (by omega) ?_
  intro v' w' hown hg
  obtain ⟨A, c', rfl⟩ := row_slice hown
  exact hK A c' w' (by simpa [bv] using hown) (below_grown hg)
/-- Appending bytes to a row of the call's own. -/
theorem step_append_own {ops : Array Oper} {o : Oper} {a : Act} {w : World} {K : Act → World → Prop} {Q : Exit → Act → World → Prop} {E : Prop} (hgd : o.guard = none) (s x : Operand)
    (ho : o.op = .call { callee := .builtin .append, args := #[s, x], argTypes := #[28, 28] }) (B : Nat) (A1 A2 : Option Addr) (xs ys : Str) (n m c c1 : Nat)
    (hs : a.eval s = .slice A1 n c1) (h1 : w.ownsRow B 5 1 (.slice A1 n c1) n (bv xs)) (hx : a.eval x = .slice A2 m c) (h2 : Holds w A2 ys) (lm : ys.length = m) (hb : n + m ≤ 1000000) (hB : B ≤ w.heap.size)
    (hK : ∀ A c' w', w'.ownsRow B 5 1 (.slice A (n + m) c') (n + m) (bv (xs ++ ys)) → Below B w w' → K (a.put o.dst (.slice A (n + m) c')) w') :
    if Region.wanted o (yielded ops a.tmps) = true then Oper.wp Try.prog o a w K Q else E := by
  obtain ⟨i0, hi, hz0, hz1, hz2⟩ := info_parts info_byte
  subst lm
  refine step_append_src hgd s x 28 ho B 5 i0 _ 1 1 Try.underlying28 hi hz0 hz1 hz2 rfl (by decide) (.slice A1 n c1) n (bv xs) hs h1 A2 ys.length c (bv ys) hx h2.src (by unfold maxLen; omega) (by omega) hB ?_
  intro v' w' hown hg
  obtain ⟨A, c', rfl⟩ := row_slice hown
  exact hK A c' w' (by simpa [bv] using hown) ((Below.refl B w).grown hg hB (fun q hq => (h1.lt q hq).1))
def lenOfV : Value → Nat
  | .slice _ n _ => n
  | _ => 0
theorem two_holds (w : World) (x y : Nat) (hx : x < 256) (hy : y < 256) : Holds (w.alloc (.cells #[.int .u8 (x : Int), .int .u8 (y : Int)] 5)) (some ⟨w.heap.size, 0, none⟩) [UInt8.ofNat x, UInt8.ofNat y] := by
  have e : bv [UInt8.ofNat x, UInt8.ofNat y] = [.int .u8 (x : Int), .int .u8 (y : Int)] := by
    simp only [bv, List.map_cons, List.map_nil, UInt8.toNat_ofNat']
    rw [Nat.mod_eq_of_lt (by omega), Nat.mod_eq_of_lt (by omega)]
  intro _
  refine ⟨_, rfl, fun j u hu => ?_⟩
  rw [addr_add, Nat.zero_add]
  rw [e] at hu
  exact ((Blok.made w 5 [.int .u8 (x : Int), .int .u8 (y : Int)]).at_ j).trans hu
/-- Appending a string to a row of the call's own. -/
theorem step_append_str {ops : Array Oper} {o : Oper} {a : Act} {w : World} {K : Act → World → Prop} {Q : Exit → Act → World → Prop} {E : Prop} (hgd : o.guard = none) (sl x : Operand)
    (ho : o.op = .call { callee := .builtin .append, args := #[sl, x], argTypes := #[28, 9] }) (B : Nat) (A1 : Option Addr) (xs s : Str) (n c1 : Nat)
    (hs : a.eval sl = .slice A1 n c1) (h1 : w.ownsRow B 5 1 (.slice A1 n c1) n (bv xs)) (hx : a.eval x = .string ⟨s.toArray⟩) (hb : n + s.length ≤ 1000000) (hB : B ≤ w.heap.size)
    (hK : ∀ A c' w', w'.ownsRow B 5 1 (.slice A (n + s.length) c') (n + s.length) (bv (xs ++ s)) → Below B w w' → K (a.put o.dst (.slice A (n + s.length) c')) w') :
    if Region.wanted o (yielded ops a.tmps) = true then Oper.wp Try.prog o a w K Q else E := by
  have hw : Region.wanted o (yielded ops a.tmps) = true := by simp [Region.wanted, hgd]
  rw [if_pos hw]
  obtain ⟨i0, hi, hz0, hz1, hz2⟩ := info_parts info_byte
  have hsz : (⟨s.toArray⟩ : ByteArray).size = s.length := rfl
  obtain ⟨v', w', hr, h2, h3, h4⟩ := Lib.run_append_own_string (P := Try.prog) w B 28 9 o.type 5 i0 Try.underlying28 Try.underlying9 hi hz0 hz1 hz2 (.slice A1 n c1) n (bv xs) h1 ⟨s.toArray⟩ (by rw [hsz]; unfold maxLen; omega) (by rw [hsz]; omega) hB
  rw [hsz] at h2
  obtain ⟨A, c', rfl⟩ := row_slice h2
  unfold Oper.wp execOp
  simp only [ho, resolve, invoke, builtin, Sem.run_bind, Sem.run_pure, Result.andThen_ok, List.map_toArray, List.map_cons, List.map_nil, hs, hx, hr]
  refine hK A c' w' ?_ ((Below.refl B w).grown h3 hB (fun q hq => (h1.lt q hq).1))
  have e : bv (xs ++ s) = bv xs ++ Lib.strCells ⟨s.toArray⟩ := by simp [bv, Lib.strCells]
  rw [e]
  exact h2
set_option maxHeartbeats 4000000 in
set_option maxRecDepth 100000 in
theorem rbytes_good (s : Str) (f a b c : Nat) (w : World) (ok : Hd.Ok ⟨s, f, a, b, c⟩) (e0 : errN ⟨s, f, a, b, c⟩ = 0) : Calls Try.prog 16 #[hv ⟨s, f, a, b, c⟩] w (GaveB ⟨s, f, a, b, c⟩ w) := by
  obtain ⟨i0, hi, hz0, hz1, hz2⟩ := info_parts info_byte
  obtain ⟨hr, f0, f1⟩ := err_right e0
  obtain ⟨l0, l1⟩ := right_len hr
  obtain ⟨k1, k2, k3⟩ := ok
  simp only at hr f0 f1 l0 l1 k1 k2 k3
  have hl : s.length ≤ maxLen := by unfold maxLen; omega
  have E0 := Lib.hid e0
  have HR := Lib.hid hr
  clear e0 hr
  obtain ⟨B, hB⟩ : ∃ B, w.alloc (.cells (hc ⟨s, f, a, b, c⟩).toArray 27) = B := ⟨_, rfl⟩
  have bx : Blok B w.heap.size 27 (hc ⟨s, f, a, b, c⟩) := by rw [← hB]; exact Blok.made w _ _
  have X0 := Lib.hid (fun (W : World) (hb : Below (w.heap.size + 1) B W) => (show W.cell? ⟨w.heap.size, 0, none⟩ = some (.string ⟨s.toArray⟩) from (bx.below hb (Nat.lt_succ_self _)).at_ 0))
  have X1 := Lib.hid (fun (W : World) (hb : Below (w.heap.size + 1) B W) => (show W.cell? ⟨w.heap.size, 1, none⟩ = some (.int .i64 (f : Int)) from (bx.below hb (Nat.lt_succ_self _)).at_ 1))
  have X4 := Lib.hid (fun (W : World) (hb : Below (w.heap.size + 1) B W) => (show W.cell? ⟨w.heap.size, 4, none⟩ = some (.int .u32 (c : Int)) from (bx.below hb (Nat.lt_succ_self _)).at_ 4))
  have TB := Lib.hid (show Below (w.heap.size + 1) B (w.alloc (.cells #[.string ⟨s.toArray⟩, .int .i64 (f : Int), .int .u32 (a : Int), .int .u32 (b : Int), .int .u32 (c : Int)] 27)) from hB ▸ Below.refl _ _)
  have WB := Lib.hid (show Below w.heap.size w B by rw [← hB]; exact (Below.refl _ _).alloc (Nat.le_refl _) _)
  have HBS := Lib.hid (show B.heap.size = w.heap.size + 1 by rw [← hB]; simp)
  clear hB bx
  unfold hv
  go_enter Try.func16, Try.ntmps16
  go_upto_region 5 with (go_at_call 9; refine (rright_any s _ hl).mono ?_; rw [HR.out]; rintro e w' ⟨rfl, rfl⟩)
  go_cut [4] (fun v wx => ∃ A c', v = .slice A 12 c' ∧ wx.ownsRow (w.heap.size + 1) 5 1 (.slice A 12 c') 12 (bv (leN 4 a ++ leN 4 b ++ leN 4 c)) ∧ Below (w.heap.size + 1) B wx)
  case first =>
    go_region_law (first
      | (go_simp; go_at_call_of 22 (Value.int IntKind.u32 (a : Int)); (with_reducible refine (four_any a _ k1).mono ?_); rintro e wa ⟨rfl, hwa⟩; have ha := four_holds a hwa; subst hwa; (try simp only [World.size_alloc, World.size_drew] at ha); have HA := Lib.hid ha; clear ha)
      | (go_simp; go_at_call_of 22 (Value.int IntKind.u32 (b : Int)); (with_reducible refine (four_any b _ k2).mono ?_); rintro e wb ⟨rfl, hwb⟩; have hb := four_holds b hwb; subst hwb; (try simp only [World.size_alloc, World.size_drew] at hb); have HBB := Lib.hid hb; clear hb)
      | (go_simp; go_at_call_of 22 (Value.int IntKind.u32 (c : Int)); (with_reducible refine (four_any c _ k3).mono ?_); rintro e wc ⟨rfl, hwc⟩; have hc := four_holds c hwc; subst hwc; (try simp only [World.size_alloc, World.size_drew] at hc); have HC := Lib.hid hc; clear hc)
      | (refine step_append_full rfl (.tmp 19) (.tmp 22) rfl _ _ (leN 4 a) (leN 4 b) 4 4 4 (by simp [Act.eval]; rfl) (by first | exact HA.out | exact holds_alloc HA.out _ | exact holds_alloc (holds_alloc HA.out _) _) (leN_length _ _) (by simp [Act.eval]; rfl) (by first | exact HBB.out | exact holds_alloc HBB.out _ | exact holds_alloc (holds_alloc HBB.out _) _) (leN_length _ _) (by decide) (by decide) (by decide) ?_; intro A5 c5 w5 r5 b5; have U5 : Below (w.heap.size + 1) B w5 := (by refine Below.trans ?_ (b5.mono (by simp <;> omega)); repeat (first | exact TB.out | refine Below.drew ?_ | refine Below.alloc ?_ (by simp <;> omega) _)); have q4 := X4.out w5 U5; (first | (have HC5 : Hid (Holds w5 _ (leN 4 c)) := Lib.hid (Holds.below (by first | exact HC.out | exact holds_alloc HC.out _ | exact holds_alloc (holds_alloc HC.out _) _) b5)) | skip); have R5 := Lib.hid (r5.mono (show w.heap.size + 1 ≤ _ by simp <;> omega)); have V5 := Lib.hid U5; clear r5 b5 U5)
      | (refine step_append_own rfl (.tmp 23) (.tmp 26) rfl (w.heap.size + 1) A5 _ (leN 4 a ++ leN 4 b) (leN 4 c) 8 4 4 c5 (by simp [Act.eval]) (by first | exact R5.out | exact R5.out.alloc _) (by simp [Act.eval]; rfl) (by first | exact HC5.out | exact HC.out) (leN_length _ _) (by decide) (by have := V5.out.size; have := HBS.out; simp <;> omega) ?_; intro A6 c6 w6 r6 b6; have R6 := Lib.hid r6; have V6 := Lib.hid (Below.trans (by first | exact V5.out | exact V5.out.alloc (by have := V5.out.size; have := HBS.out; omega) _) b6); clear r6 b6))
    all_goals
      go_wp2_with fail
      go_meet
      exact ⟨A6, c6, rfl, R6.out, V6.out⟩
  case rest =>
    obtain ⟨A, c', rfl, r5, b5⟩ := hcut
    have hzB : w.heap.size + 1 ≤ wc.heap.size := by have h1 := b5.size; have h2 := HBS.out; omega
    have z0 := X0.out wc b5
    have z1 := X1.out wc b5
    have y1 := X0.out _ (b5.alloc (by omega) (.cells #[.int .u8 (f : Int), .int .u8 (s.length : Int)] 5))
    have HS := Lib.hid (two_holds wc.drew f s.length (by omega) (by omega))
    have R5 := Lib.hid (r5.drew.alloc (.cells #[.int .u8 (f : Int), .int .u8 (s.length : Int)] 5))
    have T5 := Lib.hid ((b5.drew).alloc (by show w.heap.size + 1 ≤ wc.heap.size; omega) (.cells #[.int .u8 (f : Int), .int .u8 (s.length : Int)] 5))
    have w1 : IntKind.u8.wrap (f : Int) = (f : Int) := IntWalk.u8_in _ (by omega)
    have w2 : IntKind.u8.wrap (s.length : Int) = (s.length : Int) := IntWalk.u8_in _ (by omega)
    clear r5 b5
    go_upto_region 6 with fail
    go_cut [4] (fun v wx => ∃ A c', v = .slice A (14 + s.length) c' ∧ wx.ownsRow (w.heap.size + 1) 5 1 (.slice A (14 + s.length) c') (14 + s.length) (bv (leN 4 a ++ leN 4 b ++ leN 4 c ++ [UInt8.ofNat f, UInt8.ofNat s.length] ++ s)) ∧ Below (w.heap.size + 1) B wx)
    case first =>
      go_region_law (first
        | (refine step_append_own rfl (.tmp 28) (.tmp 36) rfl (w.heap.size + 1) A _ (leN 4 a ++ leN 4 b ++ leN 4 c) [UInt8.ofNat f, UInt8.ofNat s.length] 12 2 2 c' (by simp [Act.eval]) R5.out (by simp [Act.eval]) HS.out rfl (by decide) (by simp <;> omega) ?_; intro A6 c6 w6 r6 b6; have U6 := T5.out.trans b6; have y0 := X0.out w6 U6; have R6 := Lib.hid r6; have V6 := Lib.hid U6; clear r6 b6 U6)
        | (refine step_append_str rfl (.tmp 37) (.tmp 39) rfl (w.heap.size + 1) A6 _ s 14 c6 (by simp [Act.eval]) R6.out (by simp [Act.eval]) (by omega) (by have h1 := V6.out.size; have h2 := HBS.out; omega) ?_; intro A7 c7 w7 r7 b7; have R7 := Lib.hid r7; have V7 := Lib.hid (V6.out.trans b7); clear r7 b7))
      all_goals
        go_wp2_with fail
        go_meet
        exact ⟨A7, c7, rfl, R7.out, V7.out⟩
    case rest =>
      obtain ⟨A7, c7, rfl, r7, b7⟩ := hcut
      obtain ⟨n3, hn3⟩ : ∃ n, 14 + s.length = n := ⟨_, rfl⟩
      obtain ⟨m, hm⟩ : ∃ m, lenN s - n3 = m := ⟨_, rfl⟩
      have hle : lenN s = (s.length + 17) / 4 * 4 := by rw [lenN, if_neg (by omega)]
      have hn3a : n3 ≤ 45 := by omega
      have hm4 : m ≤ 3 := by omega
      have hmod : (n3 + m) % 4 = 0 := by omega
      rw [hn3] at r7 ⊢
      have HM := Lib.hid (And.intro hn3 (And.intro hm hle))
      have R7 := Lib.hid r7
      have T7 := Lib.hid b7
      clear hn3 hm hle r7 b7 R5 HS T5
      obtain ⟨P, hP⟩ : ∃ P, leN 4 a ++ leN 4 b ++ leN 4 c ++ [UInt8.ofNat f, UInt8.ofNat s.length] ++ s = P := ⟨_, rfl⟩
      rw [hP] at R7
      have PP := Lib.hid hP
      clear hP
      go_wp2
      go_loopw [4] (fun v wr => ∃ (k : Nat) (A : Option Addr) (K : Nat), k ≤ m ∧ v = .slice A (n3 + k) K ∧ wr.ownsRow (w.heap.size + 1) 5 1 (.slice A (n3 + k) K) (n3 + k) (bv (P ++ List.replicate k 0)) ∧ Below (w.heap.size + 1) B wr) (fun v _ => 100 - lenOfV v)
      case atStart => exact ⟨0, A7, c7, Nat.zero_le _, rfl, by simpa using R7.out, T7.out⟩
      case round =>
        obtain ⟨k, A8, K8, hk, rfl, hown, hbel⟩ := hrel
        by_cases hkm : k < m
        · have e : ¬ (n3 + k) % 4 = 0 := by omega
          go_wp2_with (refine wpList_append_src rfl _ _ 28 rfl (w.heap.size + 1) 5 i0 _ 1 1 Try.underlying28 hi hz0 hz1 hz2 rfl (by decide) _ _ _ rfl (hown.alloc _) (some ⟨wr.heap.size, 0, none⟩) 1 1 [.int .u8 0] rfl ⟨rfl, fun _ => ⟨_, rfl, fun jj u hu => by rw [addr_add, Nat.zero_add]; exact ((Blok.made wr _ [.int .u8 0]).at_ jj).trans hu⟩, fun u hu => by simp at hu; subst hu; rfl⟩ (by unfold maxLen; omega) (by omega) (by have := hbel.size; have := HBS.out; simp; omega) ?_; intro v' w2 hown' hgrow; obtain ⟨A9, K9, rfl⟩ := row_slice hown')
          go_roundw
          case rel => exact ⟨k + 1, A9, K9, by omega, rfl, by rw [List.replicate_succ', ← List.append_assoc, ← Nat.add_assoc n3 k 1]; simpa [bv] using hown', (hbel.alloc (by have := hbel.size; have := HBS.out; omega) _).grown hgrow (by have := hbel.size; have := HBS.out; simp; omega) (fun k hk => (hown.lt k hk).1)⟩
          case measure => simp [lenOfV]; omega
        · obtain rfl : k = m := by omega
          have hx : bv (P ++ List.replicate k 0) = bv (outN ⟨s, f, a, b, c⟩) ∧ n3 + k = (outN ⟨s, f, a, b, c⟩).length := by
            have h2 := HM.out
            have h1 := bytesN_lenN E0.out
            simp only at h1
            have e : (s.length + 17) / 4 * 4 - (14 + s.length) = k := by omega
            have h3 := PP.out
            unfold outN
            rw [if_pos E0.out]
            refine ⟨?_, by omega⟩
            simp only [bytesN, preN, midN, padN, e, Int.toNat_natCast]
            rw [← h3]
            simp [bv]
          go_wp2
          go_ret2
          refine ⟨A8, K8, by rw [← hx.2, E0.out]; rfl, ?_, WB.out.trans (hbel.mono (Nat.le_succ _))⟩
          have := hown
          rw [hx.1, hx.2] at this
          exact row_holds this rfl
theorem rbytes_any (h : Hd) (w : World) (ok : h.Ok) (hl : h.name.length ≤ maxLen) : Calls Try.prog 16 #[hv h] w (GaveB h w) := by
  cases hr : rightB h.name with
  | false => exact rbytes_name h w hl hr
  | true =>
    by_cases hf : 0 ≤ h.flags ∧ h.flags ≤ 15
    · have e0 : errN h = 0 := by unfold errN; rw [if_pos hr, if_pos hf]
      obtain ⟨s, fl, a, b, c⟩ := h
      obtain ⟨f, rfl⟩ : ∃ f : Nat, fl = f := ⟨fl.toNat, by have := hf.1; simp only at this; omega⟩
      exact rbytes_good s f a b c w ok e0
    · exact rbytes_flags h w hl hr hf
end Go.Proofs.Ytdjlcfpcplclmaa
