/- The document's port: what it is in the heap, and one contract for each of its calls. -/
import Derived.Test.YtadaiomlildhjaaPnil
namespace Go.Proofs.Ytadaiomlildhjaa
open Go.RowKit Go.Conc
set_option linter.unusedVariables false

/-- What is ahead: a slice of bytes within block rb. -/
def Ahead (w : World) (rb : Nat) (av : Value) (ins : List UInt8) : Prop := ∃ A cap, av = .slice A ins.length cap ∧ ins.length ≤ cap ∧ (0 < ins.length → ∃ o, A = some ⟨rb, o, none⟩ ∧ ∀ j (x : UInt8), ins[j]? = some x → w.cell? ⟨rb, o + j, none⟩ = some (.int .u8 (x.toNat : Int)))
structure IsRef (w : World) (B rg rb : Nat) (av pv : Value) (ins outs : List UInt8) (code : Int) (ht : Bool) : Prop where
  self : Blok w rg 50 [av, pv, .bool ht, .int .u32 code]
  ahead : Ahead w rb av ins
  put : w.ownsRow B 5 1 pv outs.length (bv outs)
  lim : outs.length ≤ 65536
  b1 : B ≤ rg
section
variable {w w1 : World} {B rg rb : Nat} {av pv : Value} {ins outs : List UInt8} {code : Int} {ht : Bool}
theorem Ahead.keep (h : Ahead w rb av ins) (e : w1.heap[rb]? = w.heap[rb]?) : Ahead w1 rb av ins := by
  obtain ⟨A, cap, h1, h2, h3⟩ := h
  refine ⟨A, cap, h1, h2, fun h0 => ?_⟩
  obtain ⟨o, e1, hc⟩ := h3 h0
  exact ⟨o, e1, fun j x hj => (World.cell?_of_block (w := w) (a := ⟨rb, o + j, none⟩) e).trans (hc j x hj)⟩
theorem IsRef.keeps {S : Nat → Prop} (h : IsRef w B rg rb av pv ins outs code ht) (k : Only S w w1) (hg : ¬ S rg) (hb : ¬ S rb) (hbl : rb < w.heap.size) (hv : ∀ i, pv.ownBlock = some i → ¬ S i) : IsRef w1 B rg rb av pv ins outs code ht :=
  ⟨h.self.keeps k hg, h.ahead.keep (k.block rb hbl hb), row_keeps h.put k hv, h.lim, h.b1⟩

/-! In -/
/-- What In leaves. -/
def GotRef (B rg rb : Nat) (pv : Value) (ins outs : List UInt8) (code : Int) (ht : Bool) (x : Int) (w : World) (e : Ending) (w' : World) : Prop := e = .returned (.int .u32 x) ∧ (∃ av, IsRef w' B rg rb av pv ins outs code ht) ∧ Only (· = rg) w w'
theorem rin_none (h : IsRef w B rg rb av pv [] outs code ht) :
    Calls Try.prog 11 #[.pointer (some ⟨rg, 0, none⟩)] w (GotRef B rg rb pv [] outs code ht 4294967295 w) := by
  have ha := h.ahead
  obtain ⟨A, cap, rfl, _, _⟩ := ha
  have c0 : w.cell? ⟨rg, 0, none⟩ = some (.slice A 0 cap) := h.self.at_ 0
  go_enter Try.func11, Try.ntmps11
  go_wp2
  go_ret
  exact ⟨rfl, ⟨_, h⟩, Only.refl _ _⟩
theorem rin_done (h : IsRef w B rg rb av pv ins outs code ht) (hne : rb ≠ rg) (A : Option Addr) (cap : Nat) (ys : List UInt8) (hl : ys.length ≤ cap)
    (ha : 0 < ys.length → ∃ o, A = some ⟨rb, o, none⟩ ∧ ∀ j (x : UInt8), ys[j]? = some x → w.cell? ⟨rb, o + j, none⟩ = some (.int .u8 (x.toNat : Int))) : IsRef (w.setCell ⟨rg, 0, none⟩ (.slice A ys.length cap)) B rg rb (.slice A ys.length cap) pv ys outs code ht := by
  have hk := only_set w rg 0 (.slice A ys.length cap)
  refine ⟨h.self.set_ 0 _, ⟨A, cap, rfl, hl, fun h0 => ?_⟩, row_keeps h.put hk (fun i hi q => by subst q; exact blok_ne_row h.self h.put (by decide) hi), h.lim, h.b1⟩
  obtain ⟨o, e1, hc⟩ := ha h0
  refine ⟨o, e1, fun j x hj => ?_⟩
  have hcj := hc j x hj
  rw [World.cell?_of_block (w := w) (a := ⟨rb, o + j, none⟩) (hk.block rb (World.block_lt_of_cell? w _ hcj) hne)]
  exact hcj
theorem rin_some (x : UInt8) (xs : List UInt8) (h : IsRef w B rg rb av pv (x :: xs) outs code ht) (hne : rb ≠ rg) :
    Calls Try.prog 11 #[.pointer (some ⟨rg, 0, none⟩)] w (GotRef B rg rb pv xs outs code ht x.toNat w) := by
  have ha := h.ahead
  obtain ⟨A, cap, rfl, hcap, hc⟩ := ha
  obtain ⟨o, rfl, hcell⟩ := hc (by simp)
  have c0 : w.cell? ⟨rg, 0, none⟩ = some (.slice (some ⟨rb, o, none⟩) (x :: xs).length cap) := h.self.at_ 0
  have f0 := h.self.free 0
  have d0 : w.cell? ⟨rb, o, none⟩ = some (.int .u8 (x.toNat : Int)) := hcell 0 x rfl
  have hx := x.toNat_lt
  have hx2 : (x.toNat : Int) < 256 := by omega
  obtain ⟨m, hm⟩ : ∃ m, (x :: xs).length = m := ⟨_, rfl⟩
  rw [hm] at c0 hcap
  have hm1 : 0 < m := by rw [← hm]; simp
  have hm2 : ((m : Int) == 0) = false := by rw [beq_eq_false_iff_ne]; omega
  have HC := Lib.hid hcell
  have HM := Lib.hid hm
  have htl : xs.length = m - 1 := by rw [← hm]; rfl
  have HT := Lib.hid htl
  clear hcell hm hx hc htl
  have hn : ∀ j (y : UInt8), xs[j]? = some y → w.cell? ⟨rb, o + 1 + j, none⟩ = some (.int .u8 (y.toNat : Int)) := fun j y hj => by
    have := HC.out (j + 1) y (by simpa using hj)
    rwa [show o + (j + 1) = o + 1 + j by omega] at this
  have HN := Lib.hid hn
  have h' : ∀ (A : Option Addr) (cap : Nat), m - 1 ≤ cap → (0 < m - 1 → A = some ⟨rb, o + 1, none⟩) → IsRef (w.setCell ⟨rg, 0, none⟩ (.slice A (m - 1) cap)) B rg rb (.slice A (m - 1) cap) pv xs outs code ht := fun A cap hl hA => by
    have e := HT.out
    have q := rin_done (ins := x :: xs) h hne A cap xs (by omega) (fun h0 => ⟨o + 1, hA (by omega), HN.out⟩)
    rw [e] at q
    exact q
  have H' := Lib.hid h'
  clear hn h'
  by_cases h1 : cap = 1
  · obtain rfl : m = 1 := by omega
    subst h1
    go_enter Try.func11, Try.ntmps11
    go_wp2
    go_ret
    exact ⟨rfl, ⟨_, H'.out (some ⟨rb, o, none⟩) 0 (by omega) (by omega)⟩, only_set _ _ _ _⟩
  · go_enter Try.func11, Try.ntmps11
    go_wp2
    go_ret
    exact ⟨rfl, ⟨_, H'.out (some ⟨rb, o + 1, none⟩) (cap - 1) (by omega) (fun _ => rfl)⟩, only_set _ _ _ _⟩
theorem rin_any (h : IsRef w B rg rb av pv ins outs code ht) (hne : rb ≠ rg) :
    Calls Try.prog 11 #[.pointer (some ⟨rg, 0, none⟩)] w (GotRef B rg rb pv ins.tail outs code ht (inV ins) w) := by
  cases ins with
  | nil => exact rin_none h
  | cons x r => exact rin_some x r h hne

/-! Halt -/
def HaltsR (B rg rb : Nat) (av pv : Value) (ins outs : List UInt8) (code : Int) (ht : Bool) (w : World) (e : Ending) (w' : World) : Prop := e = .returned (.tuple #[]) ∧ IsRef w' B rg rb av pv ins outs code ht ∧ Only (· = rg) w w'
theorem rhalt_yes (v : Int) (h : IsRef w B rg rb av pv ins outs code true) :
    Calls Try.prog 15 #[.pointer (some ⟨rg, 0, none⟩), .int .u32 v] w (HaltsR B rg rb av pv ins outs code true w) := by
  have c2 : w.cell? ⟨rg, 2, none⟩ = some (.bool true) := h.self.at_ 2
  go_enter Try.func15, Try.ntmps15
  go_wp2
  exact body_none rfl rfl ⟨rfl, h, Only.refl _ _⟩
theorem rhalt_no (v : Int) (h : IsRef w B rg rb av pv ins outs code false) (hne : rb ≠ rg) (hlt : rb < w.heap.size) :
    Calls Try.prog 15 #[.pointer (some ⟨rg, 0, none⟩), .int .u32 v] w (HaltsR B rg rb av pv ins outs v true w) := by
  have c2 : w.cell? ⟨rg, 2, none⟩ = some (.bool false) := h.self.at_ 2
  have c3 : w.cell? ⟨rg, 3, none⟩ = some (.int .u32 code) := h.self.at_ 3
  have f2 := h.self.free 2
  have f3 := h.self.free 3
  go_enter Try.func15, Try.ntmps15
  go_wp2
  have k1 := only_set w rg 2 (.bool true)
  have k2 := only_set (w.setCell ⟨rg, 2, none⟩ (.bool true)) rg 3 (.int .u32 v)
  have k3 := (k1.trans k2).mono (S' := (· = rg)) fun i _ q => by rcases q with q | q <;> exact q
  have h1 := (h.self.set_ 2 (.bool true)).set_ 3 (.int .u32 v)
  exact body_none rfl rfl ⟨rfl, ⟨h1, h.ahead.keep (k3.block rb hlt hne), row_keeps h.put k3 (fun i hi q => by subst q; exact blok_ne_row h.self h.put (by decide) hi), h.lim, h.b1⟩, k3⟩
theorem rhalt_any (v : Int) (h : IsRef w B rg rb av pv ins outs code ht) (hne : rb ≠ rg) (hlt : rb < w.heap.size) :
    Calls Try.prog 15 #[.pointer (some ⟨rg, 0, none⟩), .int .u32 v] w (HaltsR B rg rb av pv ins outs (haltC code ht v) true w) := by
  cases ht with
  | true => exact rhalt_yes v h
  | false => exact rhalt_no v h hne hlt

/-! Out -/
def OutsR (B rg rb : Nat) (av : Value) (ins outs : List UInt8) (pv0 : Value) (code : Int) (ht : Bool) (w : World) (e : Ending) (w' : World) : Prop :=
  e = .returned (.tuple #[]) ∧ ∃ pv, IsRef w' B rg rb av pv ins outs code ht ∧ Only (fun i => i = rg ∨ pv0.ownBlock = some i) w w' ∧ (pv.ownBlock = pv0.ownBlock ∨ ∃ i, pv.ownBlock = some i ∧ w.heap.size ≤ i)
set_option maxRecDepth 100000 in
theorem rout_full (v : Int) (h : IsRef w B rg rb av pv ins outs code ht) (hf : 65536 ≤ outs.length) :
    Calls Try.prog 13 #[.pointer (some ⟨rg, 0, none⟩), .int .u32 v] w (OutsR B rg rb av ins outs pv code ht w) := by
  obtain ⟨A, oc, rfl⟩ := row_slice h.put
  have c1 : w.cell? ⟨rg, 1, none⟩ = some (.slice A outs.length oc) := h.self.at_ 1
  have hd : ((outs.length : Int) < 65536) = False := eq_false (by omega)
  clear hf
  go_enter Try.func13, Try.ntmps13
  go_wp2
  exact body_none rfl rfl ⟨rfl, _, h, Only.refl _ _, .inl rfl⟩
set_option maxRecDepth 100000 in
theorem rout_room (v : Int) (v0 : 0 ≤ v) (v1 : v < 4294967296) (h : IsRef w B rg rb av pv ins outs code ht) (hne : rb ≠ rg) (hlt : rb < w.heap.size) (hnp : pv.ownBlock ≠ some rb) (hf : outs.length < 65536) :
    Calls Try.prog 13 #[.pointer (some ⟨rg, 0, none⟩), .int .u32 v] w (OutsR B rg rb av ins (outs ++ [byteOf (v % 256)]) pv code ht w) := by
  obtain ⟨A, oc, rfl⟩ := row_slice h.put
  obtain ⟨i0, hi, hz0, hz1, hz2⟩ := info_parts info_u8
  have c1 : w.cell? ⟨rg, 1, none⟩ = some (.slice A outs.length oc) := h.self.at_ 1
  have f1 := h.self.free 1
  have hb := (Below.refl w.heap.size w).alloc (Nat.le_refl _) (.cells #[.int .u8 (v % 256)] 5)
  have B1 : Blok (w.alloc (.cells #[.int .u8 (v % 256)] 5)) w.heap.size 5 [.int .u8 (v % 256)] := Blok.made w 5 [.int .u8 (v % 256)]
  have h2s := h.self.below hb h.self.lt
  have hout : (w.alloc (.cells #[.int .u8 (v % 256)] 5)).ownsRow B 5 1 (.slice A outs.length oc) outs.length (bv outs) := row_keeps h.put (Only.of_below (S := fun _ => False) hb) (fun _ _ q => q)
  have hrow := Lib.hid hout
  have hgl := h.self.lt
  have hB1 := h.b1
  have hd : ((outs.length : Int) < 65536) = True := eq_true (by omega)
  have HF := Lib.hid hf
  clear hf
  obtain ⟨ys, hys⟩ : ∃ ys, bv outs = ys := ⟨_, rfl⟩
  rw [hys] at hout
  have HY := Lib.hid hys
  clear hys
  go_enter Try.func13, Try.ntmps13
  go_wp2_with (first | (refine wpList_append_lies _ rfl (.tmp 14) (.tmp 17) _ rfl B 5 i0 _ 1 1 Try.underlying22 hi hz0 hz1 hz2 rfl (by decide) (.slice A outs.length oc) outs.length ys rfl hout ⟨w.heap.size, 0, none⟩ 1 1 [.int .u8 (v % 256)] rfl rfl (fun j u hu => by rw [addr_add, Nat.zero_add, B1.at_]; exact hu) (fun u hu => by simp at hu; subst hu; rfl) (by decide) (by have := HF.out; unfold maxLen; omega) (by have := HF.out; omega) (by simp; omega) _ rfl ?_; intro g2 cap w2 hown hgrow hat hlt2; have h3 : Blok w2 rg 50 [av, .slice A outs.length oc, .bool ht, .int .u32 code] := h2s.keeps (Only.of_grown hgrow) (fun q => blok_ne_row h2s hrow.out (by decide) q); have d1 : w2.cell? ⟨rg, 1, none⟩ = some (.slice A outs.length oc) := h3.at_ 1; have d2 := h3.free 1))
  have hown' : w2.ownsRow B 5 1 (.slice (some ⟨g2, 0, none⟩) (outs.length + 1) cap) (outs ++ [byteOf (v % 256)]).length (bv (outs ++ [byteOf (v % 256)])) := by
    rw [List.length_append, bv_append, HY.out, bv_one v v0]
    exact hown
  have k0 : Only (fun _ => False) w _ := Only.of_below hb
  have k2 := only_set w2 rg 1 (.slice (some ⟨g2, 0, none⟩) (outs.length + 1) cap)
  have K := ((k0.trans (Only.of_grown hgrow)).trans k2).mono (S' := fun i => i = rg ∨ (Value.slice A outs.length oc).ownBlock = some i) fun i _ q => by
    rcases q with (q | q) | q
    · exact q.elim
    · exact .inr q
    · exact .inl q
  have hng : g2 ≠ rg := by
    rintro rfl
    rcases hat with q | q
    · exact blok_ne_row h2s hrow.out (by decide) q
    · rw [World.size_alloc] at q
      omega
  have hF := HF.out
  refine body_none rfl rfl ⟨rfl, .slice (some ⟨g2, 0, none⟩) (outs.length + 1) cap, ⟨h3.set_ 1 _, h.ahead.keep (K.block rb hlt ?_), row_keeps hown' k2 ?_, by simp; omega, h.b1⟩, K, ?_⟩
  · rintro (q | q)
    · exact hne q
    · exact hnp q
  · intro i hi q
    have : g2 = i := by injection hi
    omega
  · rcases hat with q | q
    · exact .inl q.symm
    · exact .inr ⟨g2, rfl, by rw [World.size_alloc] at q; omega⟩
theorem rout_any (v : Int) (v0 : 0 ≤ v) (v1 : v < 4294967296) (h : IsRef w B rg rb av pv ins outs code ht) (hne : rb ≠ rg) (hlt : rb < w.heap.size) (hnp : pv.ownBlock ≠ some rb) :
    Calls Try.prog 13 #[.pointer (some ⟨rg, 0, none⟩), .int .u32 v] w (OutsR B rg rb av ins (putB outs v) pv code ht w) := by
  unfold putB
  split
  · exact rout_room v v0 v1 h hne hlt hnp (by assumption)
  · exact rout_full v h (by omega)
end

theorem row_cap {w : World} {B n c : Nat} {R : Option Addr} {e : TypeId} {size : Nat} {xs : List Value} (h : w.ownsRow B e size (.slice R n c) n xs) : n ≤ c := by
  rcases h.2 with ⟨_, rfl⟩ | ⟨g, cap, cur, hv, _, _, hnc, _⟩
  · omega
  · injection hv with _ _ hc
    omega
/-! New -/
theorem rnew_many (A : Option Addr) (l c : Nat) (w : World) (hl : 65536 < l) (hm : l ≤ 9223372036854775807) :
    Calls Try.prog 8 #[.slice A l c] w fun e w' => e = .returned (.tuple #[.pointer none, .int .i64 1]) ∧ w = w' := by
  have h5 : (65536 : Int) < l := by omega
  go_enter Try.func8, Try.ntmps8
  go_wp2
  go_ret2
  exact ⟨rfl, rfl⟩
def MadeRef (xs : List UInt8) (w : World) (e : Ending) (w' : World) : Prop := ∃ rg rb av, e = .returned (.tuple #[.pointer (some ⟨rg, 0, none⟩), .int .i64 0]) ∧ IsRef w' w.heap.size rg rb av (.slice none 0 0) xs [] 0 false ∧ Below w.heap.size w w' ∧ w.heap.size ≤ rb ∧ rb < w'.heap.size ∧ rb ≠ rg
theorem rnew_yes (A : Option Addr) (xs : List UInt8) (c0 : Nat) (w : World) (hx : Holds w A xs) (hl : xs.length ≤ 65536) :
    Calls Try.prog 8 #[.slice A xs.length c0] w (MadeRef xs w) := by
  have h5 : (xs.length : Int) ≤ 65536 := by omega
  have hb := (Below.refl w.heap.size w).alloc (Nat.le_refl _) (.cells #[] 5)
  obtain ⟨i0, hi, hz0, hz1, hz2⟩ := info_parts info_u8
  have L1 := World.ownsRow_lit (base := w.heap.size) (e := 5) (size := 1) w #[] 0 (Nat.le_refl _) (by unfold maxLen; omega) rfl
  have hsrc := (hx.below hb).src
  obtain ⟨ys, hys⟩ : ∃ ys, bv xs = ys := ⟨_, rfl⟩
  rw [hys] at hsrc
  have HY := Lib.hid hys
  have HL := Lib.hid hl
  clear hys hl
  go_enter Try.func8, Try.ntmps8
  go_wp2_with (first | (refine wpList_append_src rfl (.tmp 7) (.tmp 8) _ rfl w.heap.size 5 i0 _ 1 1 Try.underlying22 hi hz0 hz1 hz2 rfl (by decide) _ 0 [] rfl L1 A xs.length c0 ys rfl hsrc (by have := HL.out; unfold maxLen; omega) (by have := HL.out; omega) hb.size ?_; intro v' w2 hown2 hg2; obtain ⟨R, rc, rfl⟩ := row_slice hown2))
  have hg3 : (w.alloc (.cells #[] 5)).grownBy w2 (some w.heap.size) := hg2
  have T2 := hb.grown hg3 hb.size (fun q hq => by injection hq with hq; omega)
  have hown3 : w2.ownsRow w.heap.size 5 1 (.slice R xs.length rc) xs.length (bv xs) := by
    rw [Nat.zero_add, List.nil_append] at hown2
    rw [HY.out]
    exact hown2
  have hcap : xs.length ≤ rc := row_cap hown3
  have B4 := Blok.made w2 50 [.slice R xs.length rc, .slice none 0 0, .bool false, .int .u32 0]
  have T3 := T2.alloc T2.size (.cells #[.slice R xs.length rc, .slice none 0 0, .bool false, .int .u32 0] 50)
  have hz : w.heap.size < w2.heap.size := by have := hg3.size; rw [World.size_alloc] at this; omega
  have hh := row_holds (hown3.alloc (.cells #[.slice R xs.length rc, .slice none 0 0, .bool false, .int .u32 0] 50)) rfl
  by_cases h0 : xs.length = 0
  · have HB : Hid (IsRef (w2.alloc (.cells #[.slice R xs.length rc, .slice none 0 0, .bool false, .int .u32 0] 50)) w.heap.size w2.heap.size w.heap.size (.slice R xs.length rc) (.slice none 0 0) xs [] 0 false) := ⟨B4, ⟨R, rc, rfl, hcap, fun q => by omega⟩, World.ownsRow_nil _ _ _ _, by simp, by omega⟩
    clear h0
    go_ret2
    exact ⟨w2.heap.size, w.heap.size, _, rfl, HB.out, T3, by omega, by rw [World.size_alloc]; omega, by omega⟩
  · obtain ⟨gb, rfl, q1, q2⟩ := row_at hown3 (by omega)
    have HB : Hid (IsRef (w2.alloc (.cells #[.slice (some ⟨gb, 0, none⟩) xs.length rc, .slice none 0 0, .bool false, .int .u32 0] 50)) w.heap.size w2.heap.size gb (.slice (some ⟨gb, 0, none⟩) xs.length rc) (.slice none 0 0) xs [] 0 false) := ⟨B4, ⟨_, rc, rfl, hcap, fun q => ⟨0, rfl, fun j x hj => hh.flat_at q hj⟩⟩, World.ownsRow_nil _ _ _ _, by simp, by omega⟩
    clear h0
    go_ret2
    exact ⟨w2.heap.size, gb, _, rfl, HB.out, T3, q1, by rw [World.size_alloc]; omega, by omega⟩
end Go.Proofs.Ytadaiomlildhjaa
