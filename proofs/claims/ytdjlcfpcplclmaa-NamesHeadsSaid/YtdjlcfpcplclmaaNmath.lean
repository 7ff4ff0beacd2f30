/- The plain mathematics of layer 9: names, their hashes, a head's bytes and what is read of bytes. Bytes are UInt8, texts lists of them; nothing of the dump. -/
import Derived.Lib.Hide
namespace Go.Proofs.Ytdjlcfpcplclmaa.T9
set_option linter.unusedVariables false

abbrev Str := List UInt8
def okB (b : UInt8) : Bool := decide (33 ≤ b.toNat) && decide (b.toNat ≤ 126)
def rightB (s : Str) : Bool := decide (0 < s.length) && decide (s.length ≤ 31) && s.all okB
def stepN (v : Nat) (b : UInt8) : Nat := (31 * v + b.toNat) % 4294967296
def hshN (s : Str) : Nat := s.foldl stepN 0
theorem hshN_lt (s : Str) : hshN s < 4294967296 := by
  unfold hshN
  rcases List.eq_nil_or_concat s with rfl | ⟨t, b, rfl⟩
  · decide
  · rw [List.concat_eq_append, List.foldl_append]
    simp only [List.foldl_cons, List.foldl_nil, stepN]
    exact Nat.mod_lt _ (by decide)
theorem hshN_take (s : Str) (k : Nat) (h : k < s.length) : hshN (s.take (k + 1)) = stepN (hshN (s.take k)) (s[k]'h) := by
  unfold hshN
  rw [List.take_succ_eq_append_getElem h, List.foldl_append]
  rfl
def grpN (v : Nat) : Nat → Nat
  | 0 => 0
  | k + 1 => grpN v k ^^^ (v / 16 ^ k % 16)
theorem grpN_lt (v k : Nat) : grpN v k < 16 := by
  induction k with
  | zero => exact Nat.zero_lt_succ 15
  | succ k ih => exact Nat.xor_lt_two_pow (n := 4) ih (Nat.mod_lt _ (by decide))
def hashN (s : Str) : Nat := grpN (hshN s) 8
def lenN (s : Str) : Nat := if 31 < s.length then 0 else (s.length + 17) / 4 * 4

/-! ### Words as bytes -/
def leN : Nat → Nat → Str
  | 0, _ => []
  | k + 1, n => UInt8.ofNat n :: leN k (n / 256)
theorem leN_length (k n : Nat) : (leN k n).length = k := by
  induction k generalizing n with
  | zero => rfl
  | succ k ih => simp [leN, ih]
theorem leN_snoc (k n : Nat) : leN (k + 1) n = leN k n ++ [UInt8.ofNat (n / 256 ^ k)] := by
  induction k generalizing n with
  | zero => simp [leN]
  | succ k ih =>
    rw [leN, ih (n / 256)]
    simp only [leN, List.cons_append, Nat.div_div_eq_div_mul]
    rw [show 256 * 256 ^ k = 256 ^ (k + 1) by rw [Nat.pow_succ, Nat.mul_comm]]
def ofLe : Str → Nat
  | [] => 0
  | b :: t => b.toNat + 256 * ofLe t
theorem ofLe_leN (k n : Nat) : ofLe (leN k n) = n % 256 ^ k := by
  induction k generalizing n with
  | zero => simp [leN, ofLe, Nat.mod_one]
  | succ k ih =>
    rw [leN, ofLe, ih, UInt8.toNat_ofNat', show (256 : Nat) ^ (k + 1) = 256 * 256 ^ k by rw [Nat.pow_succ, Nat.mul_comm], Nat.mod_mul]
theorem ofLe_lt (s : Str) : ofLe s < 256 ^ s.length := by
  induction s with
  | nil => simp [ofLe]
  | cons b t ih =>
    have := b.toNat_lt
    simp only [ofLe, List.length_cons, Nat.pow_succ]
    omega
theorem leN_ofLe (s : Str) : leN s.length (ofLe s) = s := by
  induction s with
  | nil => rfl
  | cons b t ih =>
    have hb := b.toNat_lt
    have e : (b.toNat + 256 * ofLe t) / 256 = ofLe t := by omega
    simp only [ofLe, List.length_cons, leN, e, ih, List.cons.injEq, and_true]
    rw [← UInt8.toNat_inj, UInt8.toNat_ofNat']
    omega

/-! ### Heads -/
structure Hd where
  name : Str
  flags : Int
  link : Nat
  xt : Nat
  size : Nat
def Hd.Ok (h : Hd) : Prop := h.link < 4294967296 ∧ h.xt < 4294967296 ∧ h.size < 4294967296
def errN (h : Hd) : Nat := if rightB h.name then (if 0 ≤ h.flags ∧ h.flags ≤ 15 then 0 else 1) else 41
def padN (s : Str) : Str := List.replicate ((s.length + 17) / 4 * 4 - (14 + s.length)) 0
def preN (h : Hd) : Str := leN 4 h.link ++ (leN 4 h.xt ++ leN 4 h.size)
def midN (h : Hd) : Str := [UInt8.ofNat h.flags.toNat, UInt8.ofNat h.name.length]
def bytesN (h : Hd) : Str := preN h ++ midN h ++ h.name ++ padN h.name
def outN (h : Hd) : Str := if errN h = 0 then bytesN h else []
theorem preN_length (h : Hd) : (preN h).length = 12 := by simp [preN, leN_length]
theorem right_len {s : Str} (h : rightB s = true) : 0 < s.length ∧ s.length ≤ 31 := by
  simp only [rightB, Bool.and_eq_true, decide_eq_true_eq] at h
  exact h.1
theorem err_right {h : Hd} (e : errN h = 0) : rightB h.name = true ∧ 0 ≤ h.flags ∧ h.flags ≤ 15 := by
  unfold errN at e
  by_cases hr : rightB h.name = true
  · rw [if_pos hr] at e
    by_cases hf : 0 ≤ h.flags ∧ h.flags ≤ 15
    · exact ⟨hr, hf⟩
    · rw [if_neg hf] at e
      cases e
  · rw [if_neg hr] at e
    cases e
theorem bytesN_length (h : Hd) : (bytesN h).length = (h.name.length + 17) / 4 * 4 := by
  simp only [bytesN, midN, padN, List.length_append, preN_length, List.length_cons, List.length_nil, List.length_replicate]
  omega
theorem bytesN_lenN {h : Hd} (e : errN h = 0) : (bytesN h).length = lenN h.name := by
  have := (right_len (err_right e).1).2
  rw [bytesN_length, lenN, if_neg (by omega)]
def wordN (b : Str) (k : Nat) : Nat := ofLe ((b.drop k).take 4)
def headN (b : Str) : Hd := ⟨(b.drop 14).take (b[13]?.getD 0).toNat, ((b[12]?.getD 0).toNat : Int), wordN b 0, wordN b 4, wordN b 8⟩
def longB (b : Str) : Bool := decide (14 ≤ b.length) && decide (14 + (b[13]?.getD 0).toNat ≤ b.length)
def goodB (b : Str) : Bool := decide (errN (headN b) = 0) && (bytesN (headN b)).isPrefixOf b
def readN (b : Str) : Option Hd := if longB b && goodB b then some (headN b) else none
theorem wordN_lt (b : Str) (k : Nat) : wordN b k < 4294967296 := by
  have h := ofLe_lt ((b.drop k).take 4)
  have h2 : ((b.drop k).take 4).length ≤ 4 := List.length_take_le _ _
  have h3 : 256 ^ ((b.drop k).take 4).length ≤ 256 ^ 4 := Nat.pow_le_pow_right (by decide) h2
  unfold wordN
  have h4 : (256 : Nat) ^ 4 = 4294967296 := by decide
  omega
theorem headN_ok (b : Str) : (headN b).Ok := ⟨wordN_lt _ _, wordN_lt _ _, wordN_lt _ _⟩
theorem read_some {b : Str} {h : Hd} (e : readN b = some h) : errN h = 0 ∧ (bytesN h).length ≤ b.length ∧ bytesN h = b.take (bytesN h).length ∧ h.Ok := by
  unfold readN at e
  split at e
  · rename_i hc
    obtain rfl : headN b = h := by injection e
    simp only [goodB, Bool.and_eq_true, decide_eq_true_eq, List.isPrefixOf_iff_prefix] at hc
    obtain ⟨_, h1, h2⟩ := hc
    exact ⟨h1, h2.length_le, List.prefix_iff_eq_take.1 h2, headN_ok b⟩
  · cases e
theorem head_bytes (h : Hd) (e : errN h = 0) (ok : h.Ok) (more : Str) : headN (bytesN h ++ more) = h := by
  obtain ⟨hr, hf0, hf1⟩ := err_right e
  have hl := right_len hr
  have e4 : (256 : Nat) ^ 4 = 4294967296 := by decide
  have a1 := leN_length 4 h.link
  have a2 := leN_length 4 h.xt
  have a3 := leN_length 4 h.size
  have hp := preN_length h
  have E : bytesN h ++ more = preN h ++ (midN h ++ (h.name ++ (padN h.name ++ more))) := by simp [bytesN, List.append_assoc]
  have g12 : (bytesN h ++ more)[12]?.getD 0 = UInt8.ofNat h.flags.toNat := by
    rw [E, List.getElem?_append_right (by omega), hp]
    rfl
  have g13 : (bytesN h ++ more)[13]?.getD 0 = UInt8.ofNat h.name.length := by
    rw [E, List.getElem?_append_right (by omega), hp]
    rfl
  have d14 : (bytesN h ++ more).drop 14 = h.name ++ (padN h.name ++ more) := by
    rw [E, List.drop_append, List.drop_of_length_le (by omega), hp]
    rfl
  have w0 : wordN (bytesN h ++ more) 0 = h.link := by
    unfold wordN
    rw [E, List.drop_zero, preN, List.append_assoc, List.take_append_of_le_length (by omega), List.take_of_length_le (by omega), ofLe_leN, e4]
    exact Nat.mod_eq_of_lt ok.1
  have w4 : wordN (bytesN h ++ more) 4 = h.xt := by
    unfold wordN
    rw [E, preN, List.append_assoc, List.drop_append, List.drop_of_length_le (by omega), a1, List.nil_append, Nat.sub_self, List.drop_zero, List.append_assoc, List.take_append_of_le_length (by omega), List.take_of_length_le (by omega), ofLe_leN, e4]
    exact Nat.mod_eq_of_lt ok.2.1
  have w8 : wordN (bytesN h ++ more) 8 = h.size := by
    unfold wordN
    rw [E, preN, List.append_assoc, List.drop_append, List.drop_of_length_le (by omega), a1, List.nil_append, List.append_assoc, List.drop_append, List.drop_of_length_le (by omega), a2, List.nil_append]
    rw [show 8 - 4 - 4 = 0 from rfl, List.drop_zero, List.take_append_of_le_length (by omega), List.take_of_length_le (by omega), ofLe_leN, e4]
    exact Nat.mod_eq_of_lt ok.2.2
  unfold headN
  rw [g12, g13, d14, w0, w4, w8, UInt8.toNat_ofNat', UInt8.toNat_ofNat']
  rw [show h.name.length % 2 ^ 8 = h.name.length from Nat.mod_eq_of_lt (by omega), List.take_left']
  · rw [show ((h.flags.toNat % 2 ^ 8 : Nat) : Int) = h.flags by omega]
  · rfl
theorem read_bytes (h : Hd) (e : errN h = 0) (ok : h.Ok) (more : Str) : readN (bytesN h ++ more) = some h := by
  have hh := head_bytes h e ok more
  have hl := right_len (err_right e).1
  have g13 : ((bytesN h ++ more)[13]?.getD 0).toNat = h.name.length := by
    have E : bytesN h ++ more = preN h ++ (midN h ++ (h.name ++ (padN h.name ++ more))) := by simp [bytesN, List.append_assoc]
    rw [E, List.getElem?_append_right (by rw [preN_length]; omega), preN_length]
    show (UInt8.ofNat h.name.length).toNat = _
    rw [UInt8.toNat_ofNat']
    omega
  have hlen : (bytesN h ++ more).length = (h.name.length + 17) / 4 * 4 + more.length := by rw [List.length_append, bytesN_length]
  unfold readN
  rw [if_pos, hh]
  simp only [longB, goodB, hh, e, g13, Bool.and_eq_true, decide_eq_true_eq, List.isPrefixOf_iff_prefix, hlen]
  exact ⟨⟨by omega, by omega⟩, trivial, List.prefix_append _ _⟩
theorem bytes_inj {g h : Hd} (eg : errN g = 0) (eh : errN h = 0) (kg : g.Ok) (kh : h.Ok) (e : bytesN g = bytesN h) : g = h := by
  have a := read_bytes g eg kg []
  have b := read_bytes h eh kh []
  rw [e, b] at a
  injection a with a
  exact a.symm
end Go.Proofs.Ytdjlcfpcplclmaa.T9
