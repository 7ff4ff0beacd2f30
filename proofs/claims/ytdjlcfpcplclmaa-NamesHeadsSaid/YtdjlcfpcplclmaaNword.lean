/- Words as bytes, and bytes as words: little, four, both word: one contract each. -/
import Derived.Test.YtdjlcfpcplclmaaCell
import Derived.Test.YtdjlcfpcplclmaaNmath
import Derived.LoopTactic
import Derived.Laws.BitsAllLaws
import Derived.Deep.QuietTactic
import Derived.BigQuiet
import Derived.IntWalk
namespace Go.Proofs.Ytdjlcfpcplclmaa
open Go.RowKit T9
set_option linter.unusedVariables false
/-- The cells of words. -/
def uv (l : List Nat) : List Value := l.map fun (n : Nat) => Value.int .u32 (n : Int)
def littleN (k : Nat) (ws : List Nat) : Str := ws.flatMap (leN k)
theorem little_length (k : Nat) (ws : List Nat) : (littleN k ws).length = k * ws.length := by
  induction ws with
  | nil => simp [littleN]
  | cons n t ih =>
    simp only [littleN, List.flatMap_cons, List.length_append, leN_length, List.length_cons] at ih ⊢
    rw [ih, Nat.mul_succ]
    omega
theorem little_take (k : Nat) (ws : List Nat) (j : Nat) (h : j < ws.length) : littleN k (ws.take (j + 1)) = littleN k (ws.take j) ++ leN k (ws[j]'h) := by
  unfold littleN
  rw [List.take_succ_eq_append_getElem h, List.flatMap_append]
  simp
theorem byte_of (q : Nat) : (Value.int .u8 ((q : Int) % 256)) = .int .u8 ((UInt8.ofNat q).toNat : Int) := by
  rw [UInt8.toNat_ofNat']
  congr 1
def Grows (xs : Str) (w : World) (e : Ending) (w' : World) : Prop := ∃ v, e = .returned v ∧ w'.ownsRow w.heap.size 5 1 v xs.length (bv xs) ∧ Below w.heap.size w w'
theorem info_byte : (Try.prog.info? 5).map (fun i => (i.zero, i.size, i.bytes)) = some (some (.int .u8 0), 1, 1) := by kernel_rfl
set_option maxHeartbeats 1000000 in
theorem little_any (k : Nat) (ws : List Nat) (g : Nat) (w : World) (hk : k ≤ 4) (hn : ws.length ≤ 1000) (hw : ∀ n ∈ ws, n < 4294967296) (hb : Blok w g 25 (uv ws)) :
    Calls Try.prog 21 #[.int .i64 (k : Int), .slice (some ⟨g, 0, none⟩) ws.length ws.length] w (Grows (littleN k ws) w) := by
  obtain ⟨i0, hi, hz0, hz1, hz2⟩ := info_parts info_byte
  go_enter Try.func21, Try.ntmps21
  go_wp2
  go_loopw [5, 10] (fun v i wr => ∃ j : Nat, j ≤ ws.length ∧ i = .int .i64 j ∧ wr.ownsRow w.heap.size 5 1 v (k * j) (bv (littleN k (ws.take j))) ∧ Below w.heap.size w wr) (fun _ i _ => ws.length - (intOf i).toNat)
  case atStart => exact ⟨0, Nat.zero_le _, rfl, World.ownsRow_nil _ _ _ _, Below.refl _ _⟩
  case round =>
    obtain ⟨j, hj, rfl, hown, hbel⟩ := hrel
    by_cases hlt : j < ws.length
    · have hwj := hw _ (List.getElem_mem hlt)
      have hc : wr.cell? ⟨g, j, none⟩ = some (.int .u32 ((ws[j]'hlt : Nat) : Int)) := by
        rw [(hb.below hbel hb.lt).at_]
        simp [uv, hlt]
      obtain ⟨q0, hq0⟩ : ∃ q, ws[j]'hlt = q := ⟨_, rfl⟩
      have L := Lib.hid (little_take k ws j hlt)
      rw [hq0] at hwj hc L
      clear hq0
      have hlen := little_length k (ws.take j)
      rw [List.length_take_of_le hj] at hlen
      have hkj : k * j ≤ 4 * 1000 := Nat.mul_le_mul hk (by omega)
      generalize hP : littleN k (ws.take j) = P at *
      clear hP
      go_wp2
      go_loopw [5, 7, 15] (fun v x i wr2 => ∃ m : Nat, m ≤ k ∧ i = .int .i64 m ∧ x = .int .u32 ((q0 / 256 ^ m : Nat) : Int) ∧ wr2.ownsRow w.heap.size 5 1 v (k * j + m) (bv (P ++ leN m q0)) ∧ Below w.heap.size w wr2) (fun _ _ i _ => k - (intOf i).toNat)
      case atStart => exact ⟨0, Nat.zero_le _, rfl, by rw [Nat.pow_zero, Nat.div_one], by simpa [leN] using hown, hbel⟩
      case round =>
        clear hown hbel hc
        obtain ⟨m, hm, rfl, rfl, hown, hbel⟩ := hrel
        by_cases hmk : m < k
        · have hql : q0 / 256 ^ m < 4294967296 := Nat.lt_of_le_of_lt (Nat.div_le_self _ _) hwj
          have E1 := Lib.hid (leN_snoc m q0)
          have E2 := Lib.hid (show q0 / 256 ^ m / 256 = q0 / 256 ^ (m + 1) by rw [Nat.div_div_eq_div_mul, Nat.pow_succ])
          generalize q0 / 256 ^ m = q at *
          go_wp2_with (refine wpList_append_src rfl _ _ 28 rfl w.heap.size 5 i0 _ 1 1 Try.underlying28 hi hz0 hz1 hz2 rfl (by decide) _ _ _ rfl (hown.alloc _) (some ⟨wr.heap.size, 0, none⟩) 1 1 [.int .u8 ((q : Int) % 256)] rfl ⟨rfl, fun _ => ⟨_, rfl, fun jj u hu => by rw [addr_add, Nat.zero_add]; exact ((Blok.made wr _ [.int .u8 ((q : Int) % 256)]).at_ jj).trans hu⟩, fun u hu => by simp at hu; subst hu; rfl⟩ (by unfold maxLen; omega) (by omega) (by have := hbel.size; simp; omega) ?_; intro v' w2 hown' hgrow)
          go_roundw
          case rel => exact ⟨m + 1, by omega, by go_num, congrArg (Value.int .u32) (by rw [← E2.out]; omega), by rw [E1.out, ← List.append_assoc, ← Nat.add_assoc (k * j) m 1]; simpa [bv, byte_of] using hown', (hbel.alloc (by have := hbel.size; omega) _).grown hgrow (by have := hbel.size; simp; omega) (fun k hk => (hown.lt k hk).1)⟩
          case measure => simp [intOf]; omega
        · obtain rfl : m = k := by omega
          go_wp2
          go_roundw
          case rel => exact ⟨j + 1, by omega, by go_num, by rw [L.out, Nat.mul_succ]; exact hown, hbel⟩
          case measure => simp [intOf]; omega
    · obtain rfl : j = ws.length := by omega
      rw [List.take_length] at hown
      go_wp2
      go_ret
      exact ⟨_, rfl, by rw [little_length]; exact hown, hbel⟩
theorem ofLe_snoc (s : Str) (b : UInt8) : ofLe (s ++ [b]) = ofLe s + b.toNat * 256 ^ s.length := by
  induction s with
  | nil => simp [ofLe]
  | cons c t ih =>
    simp only [List.cons_append, ofLe, ih, List.length_cons, Nat.pow_succ]
    rw [Nat.mul_add, Nat.add_assoc, show 256 * (b.toNat * 256 ^ t.length) = b.toNat * (256 ^ t.length * 256) by rw [Nat.mul_left_comm, Nat.mul_comm 256]]
theorem or_le (s : Str) (b : UInt8) (k : Nat) (hk : s.length = k) : ofLe s ||| b.toNat * 256 ^ k = ofLe (s ++ [b]) := by
  subst hk
  have h := ofLe_lt s
  have e : (256 : Nat) ^ s.length = 2 ^ (8 * s.length) := by rw [Nat.pow_mul]
  rw [ofLe_snoc, e] 
  rw [e] at h
  rw [Nat.or_comm, Nat.mul_comm, ← Nat.two_pow_add_eq_or_of_lt h, Nat.add_comm]
theorem ofLe_four (s : Str) (h : s.length ≤ 4) : ofLe s < 4294967296 := by
  have h1 := ofLe_lt s
  have h3 : 256 ^ s.length ≤ 256 ^ 4 := Nat.pow_le_pow_right (by decide) h
  have h4 : (256 : Nat) ^ 4 = 4294967296 := by decide
  omega
set_option maxHeartbeats 1000000 in
theorem word_any (s : Str) (A : Option Addr) (n c : Nat) (w : World) (hn : n = s.length) (h4 : s.length ≤ 4) (hs : Holds w A s) :
    Calls Try.prog 23 #[.slice A n c] w fun e w' => e = .returned (.int .u32 (ofLe s : Int)) ∧ w = w' := by
  subst hn
  have HS := Lib.hid hs
  clear hs
  go_enter Try.func23, Try.ntmps23
  go_wp2
  go_loop [3, 4, 5, 8] (fun v _ _ i => ∃ k : Nat, k ≤ s.length ∧ i = .int .i64 k ∧ v = .int .u32 (ofLe (s.take k) : Int)) (fun _ _ _ i => s.length - (intOf i).toNat)
  case atStart => exact ⟨0, Nat.zero_le _, rfl, rfl⟩
  case round =>
    obtain ⟨k, hk, rfl, rfl⟩ := hrel
    by_cases hlt : k < s.length
    · obtain ⟨ad, rfl, hc⟩ := HS.out (by omega)
      have hck := hc k _ (bv_get s k _ (List.getElem?_eq_getElem hlt))
      have hl := ofLe_four (s.take k) (by rw [List.length_take]; omega)
      have hb := (s[k]'hlt).toNat_lt
      have O := Lib.hid (or_le (s.take k) (s[k]'hlt) k (List.length_take_of_le hk))
      have T := Lib.hid (List.take_succ_eq_append_getElem hlt)
      clear hc
      generalize s[k]'hlt = x at *
      have hx4 : x.toNat * 256 ^ k < 4294967296 := by
        have h3 : 256 ^ k ≤ 256 ^ 3 := Nat.pow_le_pow_right (by decide) (by omega)
        have e3 : (256 : Nat) ^ 3 = 16777216 := by decide
        have h5 : x.toNat * 256 ^ k ≤ 255 * 16777216 := Nat.mul_le_mul (by omega) (by omega)
        omega
      have X4 := Lib.hid hx4
      clear hx4
      go_wp2
      go_round
      case rel =>
        refine ⟨k + 1, by omega, by go_num, congrArg (Value.int .u32) ?_⟩
        have e : ((x.toNat : Int) * 2 ^ (8 * k) % 4294967296) = ((x.toNat * 256 ^ k : Nat) : Int) := by
          have e2 : ((x.toNat : Int) * 2 ^ (8 * k)) = ((x.toNat * 256 ^ k : Nat) : Int) := by
            rw [show (256 : Nat) ^ k = 2 ^ (8 * k) by rw [Nat.pow_mul]]
            simp
          have := X4.out
          rw [e2]
          omega
        rw [e, u32_or_nat _ _ hl X4.out, O.out, T.out]
      case measure => simp [intOf]; omega
    · have e : s.take k = s := List.take_of_length_le (by omega)
      rw [e]
      clear e
      go_wp2
      go_ret
      exact ⟨rfl, rfl⟩
def fourB (n : Nat) : List Value := bv (leN 4 n)
theorem four_any (n : Nat) (w : World) (hn : n < 4294967296) : Calls Try.prog 22 #[.int .u32 (n : Int)] w fun e w' => e = .returned (.slice (some ⟨w.heap.size, 0, none⟩) 4 4) ∧ w.alloc (.cells (fourB n).toArray 5) = w' := by
  have e : fourB n = [.int .u8 ((n : Int) % 256), .int .u8 ((n : Int) / 256 % 256), .int .u8 ((n : Int) / 65536 % 256), .int .u8 ((n : Int) / 16777216)] := by
    simp only [fourB, leN, bv, List.map_cons, List.map_nil, ← byte_of, Nat.div_div_eq_div_mul]
    have e3 : (((n / (256 * 256 * 256) : Nat) : Int) % 256) = (n : Int) / 16777216 := by omega
    rw [e3]
    simp
  rw [e]
  go_enter Try.func22, Try.ntmps22
  go_wp2
  go_ret
  exact ⟨rfl, rfl⟩
theorem word_sum (b : Str) (k : Nat) (h4 : k + 4 ≤ b.length) : wordN b k = (b[k]'(by omega)).toNat + (b[k + 1]'(by omega)).toNat * 256 + (b[k + 2]'(by omega)).toNat * 65536 + (b[k + 3]'(by omega)).toNat * 16777216 := by
  have e : (b.drop k).take 4 = [b[k]'(by omega), b[k + 1]'(by omega), b[k + 2]'(by omega), b[k + 3]'(by omega)] := by
    rw [List.drop_eq_getElem_cons (by omega), List.drop_eq_getElem_cons (by omega), List.drop_eq_getElem_cons (by omega), List.drop_eq_getElem_cons (by omega)]
    rfl
  unfold wordN
  rw [e]
  simp only [ofLe]
  omega
set_option maxHeartbeats 1000000 in
theorem rword_any (b : Str) (k : Nat) (A : Option Addr) (n c : Nat) (w : World) (hn : n = b.length) (h4 : k + 4 ≤ b.length) (h5 : b.length ≤ maxLen) (hs : Holds w A b) :
    Calls Try.prog 25 #[.slice A n c, .int .i64 (k : Int)] w fun e w' => e = .returned (.int .u32 (wordN b k : Int)) ∧ ∃ q, w' = w.drewN q := by
  subst hn
  unfold maxLen at h5
  obtain ⟨ad, rfl, hc⟩ := hs (by omega)
  have c0 := hc k _ (bv_get b k _ (List.getElem?_eq_getElem (by omega)))
  have c1 := hc (k + 1) _ (bv_get b (k + 1) _ (List.getElem?_eq_getElem (by omega)))
  have c2 := hc (k + 2) _ (bv_get b (k + 2) _ (List.getElem?_eq_getElem (by omega)))
  have c3 := hc (k + 3) _ (bv_get b (k + 3) _ (List.getElem?_eq_getElem (by omega)))
  have ea : ∀ j, ad.add (k + (j + 1)) = ⟨ad.block, ad.off + (k + (j + 1)), none⟩ := fun j => by unfold Addr.add; rw [if_neg (by omega)]
  rw [ea 0] at c1
  rw [ea 1] at c2
  rw [ea 2] at c3
  clear ea
  have x0 := (b[k]'(by omega)).toNat_lt
  have x1 := (b[k + 1]'(by omega)).toNat_lt
  have x2 := (b[k + 2]'(by omega)).toNat_lt
  have x3 := (b[k + 3]'(by omega)).toNat_lt
  have i0 : (k : Int) < (b.length : Int) := by omega
  have i1 : (k : Int) + 1 < (b.length : Int) := by omega
  have i2 : (k : Int) + 2 < (b.length : Int) := by omega
  have i3 : (k : Int) + 3 < (b.length : Int) := by omega
  have j1 : 0 ≤ (k : Int) + 1 := by omega
  have j2 : 0 ≤ (k : Int) + 2 := by omega
  have j3 : 0 ≤ (k : Int) + 3 := by omega
  have n1 : ((k : Int) + 1).toNat = k + 1 := by omega
  have n2 : ((k : Int) + 2).toNat = k + 2 := by omega
  have n3 : ((k : Int) + 3).toNat = k + 3 := by omega
  have E := Lib.hid (word_sum b k h4)
  have w1 : IntKind.i64.wrap ((k : Int) + 1) = (k : Int) + 1 := IntWalk.i64_in _ (by omega)
  have w2 : IntKind.i64.wrap ((k : Int) + 2) = (k : Int) + 2 := IntWalk.i64_in _ (by omega)
  have w3 : IntKind.i64.wrap ((k : Int) + 3) = (k : Int) + 3 := IntWalk.i64_in _ (by omega)
  clear hc
  go_enter Try.func25, Try.ntmps25
  go_wp2
  go_quiet (fail)
  go_wp2
  go_ret
  refine ⟨ret_int ?_, _, rfl⟩
  rw [E.out]

  omega
end Go.Proofs.Ytdjlcfpcplclmaa
