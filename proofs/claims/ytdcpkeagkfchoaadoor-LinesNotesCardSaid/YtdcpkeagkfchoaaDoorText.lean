/- The plain mathematics of layer 6: the lines of a text, the words of a line, what a line of words is, what is printed. Bytes are UInt8, texts lists of them; nothing of the dump. -/
import Derived.Lib.Hide
namespace Go.Proofs.YtdcpkeagkfchoaaDoor.T6
set_option linter.unusedVariables false

abbrev Str := List UInt8
def blankB (b : UInt8) : Bool := b == 32 || b == 9
def noteB : Str → Bool
  | a :: b :: _ => a == 47 && b == 47
  | _ => false

/-! ### The lines of a text -/
def splitL : Str → List Str
  | [] => []
  | b :: t => if b = 10 then [] :: splitL t else match splitL t with
    | [] => [[b]]
    | x :: xs => (b :: x) :: xs
def upTo (c : UInt8) (s : Str) : Str := s.takeWhile (· != c)
theorem upTo_le (c : UInt8) (s : Str) : (upTo c s).length ≤ s.length := (List.takeWhile_sublist _).length_le
theorem upTo_cons_hit (c : UInt8) (s : Str) : upTo c (c :: s) = [] := by simp [upTo]
theorem upTo_cons (c b : UInt8) (s : Str) (h : b ≠ c) : upTo c (b :: s) = b :: upTo c s := by simp [upTo, h]
theorem splitL_step (s : Str) (h : s ≠ []) : splitL s = upTo 10 s :: splitL (s.drop ((upTo 10 s).length + 1)) := by
  induction s with
  | nil => exact absurd rfl h
  | cons b t ih =>
    by_cases hb : b = 10
    · subst hb
      simp [splitL, upTo]
    · rw [upTo_cons 10 b t hb]
      cases t with
      | nil => simp [splitL, hb, upTo]
      | cons c t' =>
        have := ih (by simp)
        rw [splitL, if_neg hb, this]
        simp
theorem splitL_none (s : Str) (h : ∀ b ∈ s, b ≠ 10) (h0 : s ≠ []) : splitL s = [s] := by
  induction s with
  | nil => exact absurd rfl h0
  | cons b t ih =>
    have hb : b ≠ 10 := h b (by simp)
    cases t with
    | nil => simp [splitL, hb]
    | cons c t' =>
      have := ih (fun x hx => h x (by simp [hx])) (by simp)
      rw [splitL, if_neg hb, this]
theorem splitL_line (s r : Str) (h : ∀ b ∈ s, b ≠ 10) : splitL (s ++ 10 :: r) = s :: splitL r := by
  induction s with
  | nil => simp [splitL]
  | cons b t ih =>
    have hb : b ≠ 10 := h b (by simp)
    have := ih (fun x hx => h x (by simp [hx]))
    rw [List.cons_append, splitL, if_neg hb, this]
theorem splitL_lines (ls : List Str) (h : ∀ t ∈ ls, ∀ b ∈ t, b ≠ 10) : splitL (ls.flatMap (· ++ [10])) = ls := by
  induction ls with
  | nil => rfl
  | cons t ts ih =>
    rw [List.flatMap_cons, List.append_assoc, List.singleton_append, splitL_line t _ (h t (by simp)), ih (fun x hx => h x (by simp [hx]))]
theorem splitL_length (s : Str) : (splitL s).length ≤ s.length := by
  induction s with
  | nil => simp [splitL]
  | cons b t ih =>
    rw [splitL]
    by_cases hb : b = 10
    · rw [if_pos hb]; simpa using ih
    · rw [if_neg hb]
      cases hs : splitL t with
      | nil => simp
      | cons x xs => rw [hs] at ih; simp only [List.length_cons] at ih ⊢; omega

/-! ### The words of a line -/
def nextB : Str → Bool
  | [] => true
  | c :: _ => blankB c
def firstN : Str → Nat × Bool
  | [] => (0, true)
  | b :: t => if b = 34 then
      (if (upTo 34 t).length = t.length then (t.length + 1, false) else ((upTo 34 t).length + 2, nextB (t.drop ((upTo 34 t).length + 1))))
    else (((b :: t).takeWhile (fun c => !blankB c)).length, true)
theorem firstN_cons (b : UInt8) (t : Str) : firstN (b :: t) = if b = 34 then
      (if (upTo 34 t).length = t.length then (t.length + 1, false) else ((upTo 34 t).length + 2, nextB (t.drop ((upTo 34 t).length + 1))))
    else (((b :: t).takeWhile (fun c => !blankB c)).length, true) := rfl
def trimB (s : Str) : Str := s.dropWhile blankB
def toksF : Nat → Str → List (Str × Bool)
  | 0, _ => []
  | k + 1, s => match trimB s with
    | [] => []
    | b :: t => if noteB (b :: t) then [] else ((b :: t).take (firstN (b :: t)).1, (firstN (b :: t)).2) :: toksF k ((b :: t).drop (firstN (b :: t)).1)
def toks (s : Str) : List (Str × Bool) := toksF s.length s
theorem trimB_le (s : Str) : (trimB s).length ≤ s.length := by
  unfold trimB
  exact (List.dropWhile_sublist _).length_le
theorem trimB_head (s : Str) {b : UInt8} {t : Str} (h : trimB s = b :: t) : blankB b = false := by
  unfold trimB at h
  have := List.head?_dropWhile_not blankB s
  rw [h] at this
  simpa using this
theorem firstN_pos (b : UInt8) (t : Str) (hb : blankB b = false) : 1 ≤ (firstN (b :: t)).1 := by
  rw [firstN_cons]
  by_cases h1 : b = 34
  · rw [if_pos h1]
    by_cases h2 : (upTo 34 t).length = t.length
    · rw [if_pos h2]; simp
    · rw [if_neg h2]; simp
  · rw [if_neg h1]
    simp [hb]
theorem firstN_le (s : Str) : (firstN s).1 ≤ s.length := by
  cases s with
  | nil => simp [firstN]
  | cons b t =>
    rw [firstN_cons]
    by_cases h1 : b = 34
    · rw [if_pos h1]
      by_cases h2 : (upTo 34 t).length = t.length
      · rw [if_pos h2]; simp
      · rw [if_neg h2]
        have := upTo_le 34 t
        simp only [List.length_cons]
        omega
    · rw [if_neg h1]
      exact (List.takeWhile_sublist _).length_le
theorem toksF_more (k : Nat) : ∀ (m : Nat) (s : Str), s.length ≤ k → k ≤ m → toksF m s = toksF k s := by
  induction k with
  | zero =>
    intro m s hs hm
    obtain rfl : s = [] := List.eq_nil_of_length_eq_zero (by omega)
    cases m with
    | zero => rfl
    | succ m => simp [toksF, trimB]
  | succ k ih =>
    intro m s hs hm
    obtain ⟨m, rfl⟩ : ∃ m', m = m' + 1 := ⟨m - 1, by omega⟩
    rw [toksF, toksF]
    cases ht : trimB s with
    | nil => rfl
    | cons b t =>
      have hb := trimB_head s ht
      have h1 := firstN_pos b t hb
      have h2 := trimB_le s
      rw [ht] at h2
      simp only
      split
      · rfl
      · rw [ih m ((b :: t).drop (firstN (b :: t)).1) (by rw [List.length_drop]; omega) (by omega)]
theorem toks_eq (s : Str) : toks s = match trimB s with
    | [] => []
    | b :: t => if noteB (b :: t) then [] else ((b :: t).take (firstN (b :: t)).1, (firstN (b :: t)).2) :: toks ((b :: t).drop (firstN (b :: t)).1) := by
  unfold toks
  cases hs : s with
  | nil => simp [toksF, trimB]
  | cons c u =>
    rw [← hs]
    have hl : s.length = u.length + 1 := by rw [hs]; rfl
    conv => lhs; rw [hl, toksF]
    cases ht : trimB s with
    | nil => rfl
    | cons b t =>
      have hb := trimB_head s ht
      have h1 := firstN_pos b t hb
      have h2 := trimB_le s
      rw [ht] at h2
      simp only
      split
      · rfl
      · rw [toksF_more _ u.length ((b :: t).drop (firstN (b :: t)).1) (Nat.le_refl _) (by rw [List.length_drop]; omega)]
theorem toks_nil : toks [] = [] := rfl
theorem toks_trim (s : Str) : toks (trimB s) = toks s := by
  rw [toks_eq (trimB s), toks_eq s]
  have : trimB (trimB s) = trimB s := by
    cases h : trimB s with
    | nil => rfl
    | cons b t =>
      have hb := trimB_head s h
      show List.dropWhile blankB (b :: t) = b :: t
      rw [List.dropWhile_cons, hb]
      rfl
  rw [this]
/-- The words of a line, if all of them are whole. -/
def wordsO (s : Str) : Option (List Str) := if (toks s).all (·.2) then some ((toks s).map (·.1)) else none

/-! ### A line of words -/
structure LineD where
  labels : List Str
  word : Str
  args : List Str
deriving DecidableEq
def isLab (w : Str) : Bool := decide (2 ≤ w.length) && w.getLast? == some 58
def addW (l : LineD) (w : Str) : LineD := if l.word ≠ [] then { l with args := l.args ++ [w] } else if isLab w then { l with labels := l.labels ++ [w.dropLast] } else { l with word := w }
def lineOf (ws : List Str) : LineD := ws.foldl addW ⟨[], [], []⟩

/-! ### Parse -/
def errOf (t : Str) : Nat := if 256 < t.length then 6 else if (wordsO t).isSome then 0 else 40
def lineT (t : Str) : LineD := lineOf ((toks t).map (·.1))
def parseL (k : Nat) (acc : List LineD) : List Str → List LineD × Nat × Nat
  | [] => (acc, 0, 0)
  | t :: ts => if errOf t = 0 then parseL (k + 1) (acc ++ [lineT t]) ts else ([], k + 1, errOf t)
def parseS (s : Str) : List LineD × Nat × Nat := if 32768 < (splitL s).length then ([], 0, 6) else parseL 0 [] (splitL s)
theorem parseL_ok (ts : List Str) (h : ∀ t ∈ ts, errOf t = 0) : ∀ k acc, parseL k acc ts = (acc ++ ts.map lineT, 0, 0) := by
  induction ts with
  | nil => intro k acc; simp [parseL]
  | cons t ts ih =>
    intro k acc
    rw [parseL, if_pos (h t (by simp)), ih (fun x hx => h x (by simp [hx]))]
    simp
theorem parseL_bad (p : List Str) (t : Str) (r : List Str) (h : ∀ x ∈ p, errOf x = 0) (ht : errOf t ≠ 0) : ∀ k acc, parseL k acc (p ++ t :: r) = ([], k + p.length + 1, errOf t) := by
  induction p with
  | nil => intro k acc; simp [parseL, ht]
  | cons x p ih =>
    intro k acc
    rw [List.cons_append, parseL, if_pos (h x (by simp)), ih (fun y hy => h y (by simp [hy]))]
    simp
    omega
end Go.Proofs.YtdcpkeagkfchoaaDoor.T6
