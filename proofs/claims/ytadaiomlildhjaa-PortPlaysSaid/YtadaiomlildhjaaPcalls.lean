/- Each call of package port, whatever is asked, in one contract. -/
import Derived.Test.YtadaiomlildhjaaPnew
namespace Go.Proofs.Ytadaiomlildhjaa
open Go.RowKit Go.Conc
set_option linter.unusedVariables false

theorem num_any (e : Int) (h0 : -9223372036854775808 ≤ e) (h1 : e ≤ 9223372036854775807) (w : World) : Calls Try.prog 9 #[.int .i64 e] w fun r w' => r = .returned (.int .i64 e) ∧ w = w' := by
  go_enter Try.func9, Try.ntmps9
  go_wp2
  go_ret
  exact ⟨rfl, rfl⟩
section
variable {B g c : Nat} {ins outs : List UInt8} {ov : Value} {code : Int} {ht : Bool} {w : World}
theorem left_any (h : IsPort w B g c ins outs ov code ht) :
    Calls Try.prog 19 #[.pointer (some ⟨g, 0, none⟩)] w fun e w' => e = .returned (.int .i64 ins.length) ∧ w = w' := by
  have c0 : w.cell? ⟨g, 0, none⟩ = some (.chan (some c)) := h.self.at_ 0
  obtain ⟨cap, s, r, hch⟩ := h.chan
  have hlen := fun ty => run_len_chan (P := Try.prog) 44 ty Try.underlying44 hch
  have e : ((bv ins).toArray.size) = ins.length := by simp [bv]
  rw [e] at hlen
  clear hch e
  go_enter Try.func19, Try.ntmps19
  go_wp2_with (go_at_call 20; refine (made_any h.self).mono ?_; rintro e w' ⟨rfl, rfl⟩)
  go_ret
  exact ⟨rfl, rfl⟩
theorem halted_any (h : IsPort w B g c ins outs ov code ht) :
    Calls Try.prog 18 #[.pointer (some ⟨g, 0, none⟩)] w (Gives (.tuple #[.int .u32 code, .bool ht]) w) := by
  have c2 : w.cell? ⟨g, 2, none⟩ = some (.int .u32 code) := h.self.at_ 2
  have c3 : w.cell? ⟨g, 3, none⟩ = some (.bool ht) := h.self.at_ 3
  go_enter Try.func18, Try.ntmps18
  go_wp2_with (go_at_call 20; refine (made_any h.self).mono ?_; rintro e w' ⟨rfl, rfl⟩)
  go_quiet (fail)
  go_wp2
  go_ret2
  exact ⟨rfl, below_drewN (Below.refl _ _) _⟩
theorem body_none {P : Program} {fn : Func} {R : Ending → World → Prop} {a : Act} {w : World} (hr : fn.results = #[]) (hd : a.defers = []) (h : R (.returned (.tuple #[])) w) : bodyPost P fn R .normal a w :=
  ⟨hd, .tuple #[], by simp [results, hr], h⟩
/-- What Halt leaves. -/
def Halts (B g c : Nat) (ins outs : List UInt8) (ov : Value) (code : Int) (ht : Bool) (w : World) (e : Ending) (w' : World) : Prop := e = .returned (.tuple #[]) ∧ IsPort w' B g c ins outs ov code ht ∧ Only (· = g) w w'
theorem halt_yes (v : Int) (h : IsPort w B g c ins outs ov code true) :
    Calls Try.prog 14 #[.pointer (some ⟨g, 0, none⟩), .int .u32 v] w (Halts B g c ins outs ov code true w) := by
  have c3 : w.cell? ⟨g, 3, none⟩ = some (.bool true) := h.self.at_ 3
  go_enter Try.func14, Try.ntmps14
  go_wp2_with (go_at_call 20; refine (made_any h.self).mono ?_; rintro e w' ⟨rfl, rfl⟩)
  exact body_none rfl rfl ⟨rfl, h, Only.refl _ _⟩
theorem halt_no (v : Int) (h : IsPort w B g c ins outs ov code false) :
    Calls Try.prog 14 #[.pointer (some ⟨g, 0, none⟩), .int .u32 v] w (Halts B g c ins outs ov v true w) := by
  have c3 : w.cell? ⟨g, 3, none⟩ = some (.bool false) := h.self.at_ 3
  have c2 : w.cell? ⟨g, 2, none⟩ = some (.int .u32 code) := h.self.at_ 2
  have f2 := h.self.free 2
  have f3 := h.self.free 3
  go_enter Try.func14, Try.ntmps14
  go_wp2_with (go_at_call 20; refine (made_any h.self).mono ?_; rintro e w' ⟨rfl, rfl⟩)
  have k1 := only_set w g 2 (.int .u32 v)
  have k2 := only_set (w.setCell ⟨g, 2, none⟩ (.int .u32 v)) g 3 (.bool true)
  have k3 := (k1.trans k2).mono (S' := (· = g)) fun i _ q => by rcases q with q | q <;> exact q
  have h1 := (h.self.set_ 2 (.int .u32 v)).set_ 3 (.bool true)
  exact body_none rfl rfl ⟨rfl, ⟨h1, h.chan.keep (k3.block c h.chan.lt (h.chan.ne_blok h.self)), row_keeps h.out k3 (fun i hi q => by subst q; exact blok_ne_row h.self h.out (by decide) hi), h.lim, h.many, h.b1, h.b2⟩, k3⟩
def haltC (code : Int) (ht : Bool) (v : Int) : Int := if ht then code else v
theorem halt_any (v : Int) (h : IsPort w B g c ins outs ov code ht) :
    Calls Try.prog 14 #[.pointer (some ⟨g, 0, none⟩), .int .u32 v] w (Halts B g c ins outs ov (haltC code ht v) true w) := by
  cases ht with
  | true => exact halt_yes v h
  | false => exact halt_no v h
theorem output_any (h : IsPort w B g c ins outs ov code ht) :
    Calls Try.prog 16 #[.pointer (some ⟨g, 0, none⟩)] w (Told outs w) := by
  obtain ⟨A, oc, rfl⟩ := row_slice h.out
  have hlim := h.lim
  have c1 : w.cell? ⟨g, 1, none⟩ = some (.slice A outs.length oc) := h.self.at_ 1
  have hmk := fun W : World => make_bytes outs.length (by omega) W
  obtain ⟨zs, hzs⟩ : ∃ zs, bv (List.replicate outs.length 0) = zs := ⟨_, rfl⟩
  have hzl : zs.length = outs.length := by rw [← hzs, length_bv]; simp
  rw [hzs] at hmk
  have HZ := Lib.hid hzl
  have hb := (Below.refl w.heap.size w).alloc (Nat.le_refl _) (.cells zs.toArray 5)
  have B1 := Blok.made w 5 zs
  have hs1 := (row_holds h.out rfl).below hb
  have c2 : (w.alloc (.cells zs.toArray 5)).cell? ⟨g, 1, none⟩ = some (.slice A outs.length oc) := (hb.cell h.self.lt).trans c1
  clear hzs hzl
  go_enter Try.func16, Try.ntmps16
  go_wp2_with (first | (go_at_call 20; refine (made_any h.self).mono ?_; rintro e w' ⟨rfl, rfl⟩) | (refine wpList_copy_blk rfl (.tmp 13) (.tmp 17) _ _ rfl 5 Try.underlying22 (by kernel_rfl) (some ⟨w.heap.size, 0, none⟩) A outs.length outs.length outs.length oc rfl rfl w.heap.size 0 zs 5 B1 (bv outs) (by rw [length_bv]; simp) (fun h0 => ⟨rfl, hs1 (by rwa [length_bv] at h0)⟩) (by rw [length_bv, HZ.out]; omega) (one_bv outs) ?_; intro w2 hb2 hg2))
  rw [splice_all _ _ (by rw [length_bv, HZ.out])] at hb2
  go_ret
  exact ⟨_, rfl, .inr ⟨rfl, hb2⟩, hb.grown hg2 hb.size (fun q hq => by injection hq with hq; omega)⟩
/-- The output behind Out. -/
def putB (outs : List UInt8) (v : Int) : List UInt8 := if outs.length < 65536 then outs ++ [byteOf (v % 256)] else outs
/-- What Out leaves. -/
def Outs (B g c : Nat) (ins outs : List UInt8) (ov0 : Value) (code : Int) (ht : Bool) (w : World) (e : Ending) (w' : World) : Prop :=
  e = .returned (.tuple #[]) ∧ ∃ ov, IsPort w' B g c ins outs ov code ht ∧ Only (fun i => i = g ∨ ov0.ownBlock = some i) w w' ∧ (ov.ownBlock = ov0.ownBlock ∨ ∃ i, ov.ownBlock = some i ∧ w.heap.size ≤ i)
set_option maxRecDepth 100000 in
theorem out_full (v : Int) (h : IsPort w B g c ins outs ov code ht) (hf : 65536 ≤ outs.length) :
    Calls Try.prog 12 #[.pointer (some ⟨g, 0, none⟩), .int .u32 v] w (Outs B g c ins outs ov code ht w) := by
  obtain ⟨A, oc, rfl⟩ := row_slice h.out
  have c1 : w.cell? ⟨g, 1, none⟩ = some (.slice A outs.length oc) := h.self.at_ 1
  have hd : ((outs.length : Int) < 65536) = False := eq_false (by omega)
  clear hf
  go_enter Try.func12, Try.ntmps12
  go_wp2_with (go_at_call 20; refine (made_any h.self).mono ?_; rintro e w' ⟨rfl, rfl⟩)
  exact body_none rfl rfl ⟨rfl, _, h, Only.refl _ _, .inl rfl⟩
theorem bv_append (a b : List UInt8) : bv (a ++ b) = bv a ++ bv b := by simp [bv]
theorem bv_one (v : Int) (v0 : 0 ≤ v) : bv [byteOf (v % 256)] = [.int .u8 (v % 256)] := by
  have := byteOf_toNat (v % 256) (by omega) (by omega)
  simp [bv, this]
set_option maxRecDepth 100000 in
theorem out_room (v : Int) (v0 : 0 ≤ v) (v1 : v < 4294967296) (h : IsPort w B g c ins outs ov code ht) (hf : outs.length < 65536) :
    Calls Try.prog 12 #[.pointer (some ⟨g, 0, none⟩), .int .u32 v] w (Outs B g c ins (outs ++ [byteOf (v % 256)]) ov code ht w) := by
  obtain ⟨A, oc, rfl⟩ := row_slice h.out
  obtain ⟨i0, hi, hz0, hz1, hz2⟩ := info_parts info_u8
  have c1 : w.cell? ⟨g, 1, none⟩ = some (.slice A outs.length oc) := h.self.at_ 1
  have f1 := h.self.free 1
  have hb := (Below.refl w.heap.size w).alloc (Nat.le_refl _) (.cells #[.int .u8 (v % 256)] 5)
  have B1 : Blok (w.alloc (.cells #[.int .u8 (v % 256)] 5)) w.heap.size 5 [.int .u8 (v % 256)] := Blok.made w 5 [.int .u8 (v % 256)]
  have h2 := h.below hb
  have hout := h2.out
  have hgl := h.self.lt
  have hB1 := h.b1
  have hd : ((outs.length : Int) < 65536) = True := eq_true (by omega)
  have HF := Lib.hid hf
  clear hf
  obtain ⟨ys, hys⟩ : ∃ ys, bv outs = ys := ⟨_, rfl⟩
  rw [hys] at hout
  have HY := Lib.hid hys
  clear hys
  go_enter Try.func12, Try.ntmps12
  go_wp2_with (first | (go_at_call 20; refine (made_any h.self).mono ?_; rintro e w' ⟨rfl, rfl⟩) | (refine wpList_append_lies _ rfl (.tmp 18) (.tmp 21) _ rfl B 5 i0 _ 1 1 Try.underlying22 hi hz0 hz1 hz2 rfl (by decide) (.slice A outs.length oc) outs.length ys rfl hout ⟨w.heap.size, 0, none⟩ 1 1 [.int .u8 (v % 256)] rfl rfl (fun j u hu => by rw [addr_add, Nat.zero_add, B1.at_]; exact hu) (fun u hu => by simp at hu; subst hu; rfl) (by decide) (by have := HF.out; unfold maxLen; omega) (by have := HF.out; omega) (by simp; omega) _ rfl ?_; intro g2 cap w2 hown hgrow hat hlt2; have h3 : Blok w2 g 46 [.chan (some c), .slice A outs.length oc, .int .u32 code, .bool ht, .pointer (some ⟨g, 0, none⟩)] := h2.self.keeps (Only.of_grown hgrow) (fun q => blok_ne_row h2.self h2.out (by decide) q); have d1 : w2.cell? ⟨g, 1, none⟩ = some (.slice A outs.length oc) := h3.at_ 1; have d2 := h3.free 1))
  have hown' : w2.ownsRow B 5 1 (.slice (some ⟨g2, 0, none⟩) (outs.length + 1) cap) (outs ++ [byteOf (v % 256)]).length (bv (outs ++ [byteOf (v % 256)])) := by
    rw [List.length_append, bv_append, HY.out, bv_one v v0]
    exact hown
  have k0 : Only (fun _ => False) w _ := Only.of_below hb
  have k2 := only_set w2 g 1 (.slice (some ⟨g2, 0, none⟩) (outs.length + 1) cap)
  have K := ((k0.trans (Only.of_grown hgrow)).trans k2).mono (S' := fun i => i = g ∨ (Value.slice A outs.length oc).ownBlock = some i) fun i _ q => by
    rcases q with (q | q) | q
    · exact q.elim
    · exact .inr q
    · exact .inl q
  have hne : g2 ≠ g := by
    rintro rfl
    rcases hat with q | q
    · exact blok_ne_row h2.self h2.out (by decide) q
    · rw [World.size_alloc] at q
      omega
  have hF := HF.out
  refine body_none rfl rfl ⟨rfl, .slice (some ⟨g2, 0, none⟩) (outs.length + 1) cap, ⟨h3.set_ 1 _, h.chan.keep (K.block c h.chan.lt ?_), row_keeps hown' k2 ?_, by simp; omega, h.many, h.b1, h.b2⟩, K, ?_⟩
  · rintro (q | q)
    · exact h.chan.ne_blok h.self q
    · exact h.chan.ne_row h.out q
  · intro i hi q
    have : g2 = i := by injection hi
    omega
  · rcases hat with q | q
    · exact .inl q.symm
    · exact .inr ⟨g2, rfl, by rw [World.size_alloc] at q; omega⟩
theorem out_any (v : Int) (v0 : 0 ≤ v) (v1 : v < 4294967296) (h : IsPort w B g c ins outs ov code ht) :
    Calls Try.prog 12 #[.pointer (some ⟨g, 0, none⟩), .int .u32 v] w (Outs B g c ins (putB outs v) ov code ht w) := by
  unfold putB
  split
  · exact out_room v v0 v1 h (by assumption)
  · exact out_full v h (by omega)
end
end Go.Proofs.Ytadaiomlildhjaa
