/- Both ports behind each kind of act; acts that come in as an argument. -/
import Derived.Test.YtadaiomlildhjaaPboth
import Derived.Test.YtadaiomlildhjaaBytes
namespace Go.Proofs.Ytadaiomlildhjaa
open Go.RowKit Go.Conc
set_option linter.unusedVariables false

section
variable {w w1 w2 : World} {B g c rg rb : Nat} {ov ov' av av' pv pv' : Value} {ins outs ins' outs' : List UInt8} {code code' : Int} {ht ht' : Bool}
theorem Both.in_ (h : Both w B g c rg rb ov av pv ins outs code ht) (hp : IsPort w1 B g c ins' outs ov code ht) (k1 : Only (· = c) w w1) (hr : IsRef w2 B rg rb av' pv ins' outs code ht) (k2 : Only (· = rg) w1 w2) : Both w2 B g c rg rb ov av' pv ins' outs code ht :=
  ⟨hp.keeps k2 h.gr h.cr (fun i hi q => by subst q; exact blok_ne_row h.r.self h.p.out (by decide) hi), hr, h.n0, by have := k1.size; have := k2.size; have := h.n1; omega, h.n2, h.n3, h.n4, h.n5, h.n6, h.n7⟩
theorem Both.halt_ (h : Both w B g c rg rb ov av pv ins outs code ht) (hp : IsPort w1 B g c ins outs ov code' ht') (k1 : Only (· = g) w w1) (hr : IsRef w2 B rg rb av pv ins outs code' ht') (k2 : Only (· = rg) w1 w2) : Both w2 B g c rg rb ov av pv ins outs code' ht' :=
  ⟨hp.keeps k2 h.gr h.cr (fun i hi q => by subst q; exact blok_ne_row h.r.self h.p.out (by decide) hi), hr, h.n0, by have := k1.size; have := k2.size; have := h.n1; omega, h.n2, h.n3, h.n4, h.n5, h.n6, h.n7⟩
theorem Both.out_ (h : Both w B g c rg rb ov av pv ins outs code ht) (hp : IsPort w1 B g c ins outs' ov' code ht) (k1 : Only (fun i => i = g ∨ ov.ownBlock = some i) w w1) (a1 : ov'.ownBlock = ov.ownBlock ∨ ∃ i, ov'.ownBlock = some i ∧ w.heap.size ≤ i)
    (hr : IsRef w2 B rg rb av pv' ins outs' code ht) (k2 : Only (fun i => i = rg ∨ pv.ownBlock = some i) w1 w2) (a2 : pv'.ownBlock = pv.ownBlock ∨ ∃ i, pv'.ownBlock = some i ∧ w1.heap.size ≤ i) : Both w2 B g c rg rb ov' av pv' ins outs' code ht := by
  have hr1 := h.ref_g k1
  have hs1 := k1.size
  have hs2 := k2.size
  have hrb := h.n1
  have m4 : ∀ i, ov'.ownBlock = some i → pv.ownBlock ≠ some i := fun i hi q => by
    rcases a1 with e | ⟨j, e, hj⟩
    · exact h.n4 i (by rw [← e]; exact hi) q
    · have := (h.r.put.lt i q).2
      rw [hi] at e
      injection e with e
      omega
  refine ⟨hp.keeps k2 (fun q => ?_) (fun q => ?_) (fun i hi q => ?_), hr, h.n0, by omega, fun q => ?_, fun q => ?_, fun i hi q => ?_, h.n5, h.n6, h.n7⟩
  · rcases q with q | q
    · exact h.gr q
    · exact blok_ne_row h.p.self h.r.put (by decide) q
  · rcases q with q | q
    · exact h.cr q
    · exact h.p.chan.ne_row h.r.put q
  · rcases q with q | q
    · subst q
      exact blok_ne_row hr1.self hp.out (by decide) hi
    · exact m4 i hi q
  · rcases a1 with e | ⟨j, e, hj⟩
    · exact h.n2 (by rw [← e]; exact q)
    · rw [q] at e
      injection e with e
      omega
  · rcases a2 with e | ⟨j, e, hj⟩
    · exact h.n3 (by rw [← e]; exact q)
    · rw [q] at e
      injection e with e
      omega
  · rcases a2 with e | ⟨j, e, hj⟩
    · exact m4 i hi (by rw [← e]; exact q)
    · have := (hp.out.lt i hi).2
      rw [q] at e
      injection e with e
      omega
theorem Both.ref_c' (h : Both w B g c rg rb ov av pv ins outs code ht) (k : Only (· = g) w w1) : IsRef w1 B rg rb av pv ins outs code ht := h.ref_g (k.mono fun _ _ q => .inl q)
end

/-! acts -/
/-- The kind and the word of an act. -/
def av2 : List (Int × Int) → List Value
  | [] => []
  | a :: r => .int .i64 a.1 :: .int .u32 a.2 :: av2 r
def okAct (a : Int × Int) : Prop := -9223372036854775808 ≤ a.1 ∧ a.1 ≤ 9223372036854775807 ∧ 0 ≤ a.2 ∧ a.2 < 4294967296
def HoldsActs (w : World) (A : Option Addr) (l : List (Int × Int)) : Prop :=
  (0 < l.length → ∃ b o, A = some ⟨b, o, none⟩ ∧ ∀ k a, l[k]? = some a → w.cell? ⟨b, o + k * 2, none⟩ = some (.int .i64 a.1) ∧ w.cell? ⟨b, o + k * 2 + 1, none⟩ = some (.int .u32 a.2)) ∧ ∀ a ∈ l, okAct a
theorem HoldsActs.below {w w' : World} {A : Option Addr} {l : List (Int × Int)} (h : HoldsActs w A l) (hb : Below w.heap.size w w') : HoldsActs w' A l := by
  refine ⟨fun h0 => ?_, h.2⟩
  obtain ⟨b, o, e, hc⟩ := h.1 h0
  refine ⟨b, o, e, fun k a hk => ?_⟩
  obtain ⟨q0, q1⟩ := hc k a hk
  exact ⟨(hb.cell (World.block_lt_of_cell? w _ q0)).trans q0, (hb.cell (World.block_lt_of_cell? w _ q1)).trans q1⟩
section
open Go.ChangeShapes Go.WideShapes Go.Deep
variable {H : Type} {enc : TypeId × Value → H} {P : Program} {w : World} {base : Nat} {spare : Nat → Bool} {held : Bool}
theorem fields_of {e : TypeId} {fs : Array Field} {fuel : Nat} {cs : List Value} {x : DataW H × List MemPlace} (he : P.underlying e = some (.struct fs)) (hone : oneCellFields P fs = true)
    (h : DataW.trod enc P w base spare held fuel e cs = some x) (hl : fs.size ≤ cs.length) :
    ∃ n : Nat, ∀ (j : Nat) (f : Field), fs[j]? = some f → ∃ (u : Value) (y : DataW H × List MemPlace), cs[j]? = some u ∧ DataW.trod enc P w base spare held n f.type [u] = some y := by
  obtain ⟨ys, n, _, _, _, hyl, hf⟩ := DataW.trod_struct he h
  refine ⟨n, fun j f hj => ?_⟩
  obtain ⟨ho, hk⟩ := hone_of hone j f hj
  have hjl : j < fs.size := (Array.getElem?_eq_some_iff.1 hj).1
  have hjc : j < cs.length := by omega
  have h1 := hf j f hj
  rw [ho, hk] at h1
  have e1 : (cs.drop j).take 1 = [cs[j]] := by
    rw [List.drop_eq_getElem_cons hjc]
    rfl
  rw [e1, List.getElem?_eq_getElem (by omega)] at h1
  exact ⟨_, _, List.getElem?_eq_getElem hjc, h1⟩
theorem act_of {fuel : Nat} {cs : List Value} {x : DataW H × List MemPlace} (h : DataW.trod enc Try.prog w base (fun _ => true) held fuel 35 cs = some x) (hl : cs.length = 2) :
    ∃ a : Int × Int, cs = av2 [a] ∧ okAct a := by
  obtain ⟨n, hf⟩ := fields_of Try.underlying35 (by kernel_rfl) h (by rw [hl]; decide)
  obtain ⟨u0, y0, c0, t0⟩ := hf 0 _ rfl
  obtain ⟨u1, y1, c1, t1⟩ := hf 1 _ rfl
  obtain ⟨z0, e0, _, w0⟩ := DataW.trod_int Try.underlying3 t0
  obtain ⟨z1, e1, _, w1⟩ := DataW.trod_int Try.underlying33 t1
  have b0 := bounds_i64 w0
  have b1 := bounds_u32 w1
  refine ⟨(z0, z1), ?_, b0.1, b0.2, b1.1, by have := b1.2; show z1 < _; omega⟩
  simp only [List.cons.injEq, and_true] at e0 e1
  subst e0 e1
  match cs, hl with
  | [d0, d1], _ =>
    simp only [List.getElem?_cons_zero, List.getElem?_cons_succ, Option.some.injEq] at c0 c1
    subst c0 c1
    rfl
theorem list_of {α : Type} (P : Nat → α → Prop) : ∀ n : Nat, (∀ i, i < n → ∃ a, P i a) → ∃ l : List α, l.length = n ∧ ∀ i a, l[i]? = some a → P i a
  | 0, _ => ⟨[], rfl, fun i a h => by simp at h⟩
  | n + 1, h => by
    obtain ⟨l, hl, hp⟩ := list_of P n (fun i hi => h i (by omega))
    obtain ⟨a, ha⟩ := h n (by omega)
    refine ⟨l ++ [a], by simp [hl], fun i b hb => ?_⟩
    rcases Nat.lt_or_ge i n with hi | hi
    · rw [List.getElem?_append_left (by omega)] at hb
      exact hp i b hb
    · rw [List.getElem?_append_right (by omega)] at hb
      have hi2 : i - l.length = 0 := by
        have := (List.getElem?_eq_some_iff.1 hb).1
        simp at this
        omega
      rw [hi2] at hb
      obtain rfl : a = b := by simpa using hb
      rw [show i = n by omega]
      exact ha
theorem plain_add {a : Addr} {k : Nat} {v : Value} (h : w.cell? ((a.add (0 * k)).add 0) = some v) : a.spot = none := by
  have e := World.cell?_spot h
  simpa [Addr.add] using e
theorem acts_of {fuel : Nat} {A : Option Addr} {l c : Nat} {x : DataW H × List MemPlace} (h : DataW.trod enc Try.prog w base (fun _ => true) held fuel 23 [.slice A l c] = some x) :
    ∃ acts : List (Int × Int), acts.length = l ∧ l ≤ maxLen ∧ HoldsActs w A acts := by
  have cs0 : Try.prog.cellsOf 35 = 2 := by kernel_rfl
  rcases open_slice Try.underlying23 h with ⟨hcs, _⟩ | ⟨a, len, cap, m, n, D, Pl, hcs, hb, hl, hm, hmm, hx, hi⟩
  · obtain ⟨rfl, rfl, rfl⟩ : A = none ∧ l = 0 ∧ c = 0 := by simpa using hcs
    exact ⟨[], rfl, by unfold maxLen; omega, fun h => by simp at h, fun a ha => by simp at ha⟩
  · obtain ⟨rfl, rfl, rfl⟩ : A = some a ∧ l = len ∧ c = cap := by simpa using hcs
    have hmc : m = c := by simpa using hmm
    rw [cs0] at hi
    obtain ⟨acts, hal, hap⟩ := list_of (fun i (p : Int × Int) => (∀ j, j < 2 → w.cell? ((a.add (i * 2)).add j) = (av2 [p])[j]?) ∧ okAct p) l (fun i hil => by
      obtain ⟨cs', hc', ht⟩ := hi i (by omega)
      obtain ⟨_, hcl, hat⟩ := World.cells?_some hc'
      obtain ⟨p, rfl, hok⟩ := act_of ht hcl
      exact ⟨p, hat, hok⟩)
    refine ⟨acts, hal, by omega, fun h0 => ?_, fun p hp => ?_⟩
    · obtain ⟨p0, h00⟩ : ∃ p, acts[0]? = some p := ⟨_, List.getElem?_eq_getElem h0⟩
      have hsp : a.spot = none := plain_add ((hap 0 p0 h00).1 0 (by omega))
      obtain ⟨b, o, sp⟩ := a
      obtain rfl : sp = none := hsp
      refine ⟨b, o, rfl, fun k p hk => ?_⟩
      have hc := (hap k p hk).1
      have e : ∀ j, ((⟨b, o, none⟩ : Addr).add (k * 2)).add j = ⟨b, o + k * 2 + j, none⟩ := fun j => by rw [addr_add, addr_add]
      simp only [e] at hc
      exact ⟨hc 0 (by omega), hc 1 (by omega)⟩
    · obtain ⟨k, hk⟩ := List.getElem?_of_mem hp
      exact (hap k p hk).2
end
end Go.Proofs.Ytadaiomlildhjaa
