/- The walk of the stage's law where there are ports. -/
import Derived.Test.YtadaiomlildhjaaPplays
namespace Go.Proofs.Ytadaiomlildhjaa
open Go.RowKit Go.Conc
set_option linter.unusedVariables false

/-- What stands at the loops' heads. -/
def HeadAt (w0 : World) (B g c rg rb : Nat) (w : World) : Prop := ∃ ov av pv ins outs code ht, Both w B g c rg rb ov av pv ins outs code ht ∧ Below w0.heap.size w0 w
theorem head_new {w0 w2 w3 w4 : World} {g c rg rb : Nat} {av : Value} {xs : List UInt8} (h2 : Below w0.heap.size w0 w2) (hp : IsPort w3 w2.heap.size g c xs [] (.slice none 0 0) 0 false) (hb3 : Below w2.heap.size w2 w3) (hr : IsRef w4 w3.heap.size rg rb av (.slice none 0 0) xs [] 0 false)
    (hb4 : Below w3.heap.size w3 w4) (q1 : w3.heap.size ≤ rb) (q2 : rb < w4.heap.size) (q3 : rb ≠ rg) : HeadAt w0 w2.heap.size g c rg rb w4 := by
  have s3 := hb3.size
  have hg := hp.self.lt
  have hc := hp.chan.lt
  exact ⟨.slice none 0 0, av, .slice none 0 0, xs, [], 0, false, ⟨hp.below hb4, ⟨hr.self, hr.ahead, World.ownsRow_nil _ _ _ _, hr.lim, by have := hr.b1; omega⟩, by omega, q2, fun e => (by cases e), fun e => (by cases e), fun i e => (by cases e), by omega, by omega, q3⟩,
    h2.trans ((hb3.mono h2.size).trans (hb4.mono (Nat.le_trans h2.size s3)))⟩
theorem HeadAt.low {w0 w w1 : World} {B g c rg rb gi : Nat} (h : HeadAt w0 B g c rg rb w) (hg : w.grownBy w1 (some gi)) (h0 : w0.heap.size ≤ gi) (h1 : gi < B) : HeadAt w0 B g c rg rb w1 := by
  obtain ⟨ov, av, pv, ins, outs, code, ht, hb, hbe⟩ := h
  exact ⟨ov, av, pv, ins, outs, code, ht, hb.far (Only.of_grown hg) (fun i q _ => by injection q with q; omega), below_only hbe hg hbe.size h0⟩
theorem HeadAt.below {w0 w w1 : World} {B g c rg rb : Nat} (h : HeadAt w0 B g c rg rb w) (hb : Below w.heap.size w w1) : HeadAt w0 B g c rg rb w1 := by
  obtain ⟨ov, av, pv, ins, outs, code, ht, hbo, hbe⟩ := h
  exact ⟨ov, av, pv, ins, outs, code, ht, hbo.below hb, hbe.trans (hb.mono hbe.size)⟩
theorem HeadAt.was {w0 w : World} {B g c rg rb : Nat} (h : HeadAt w0 B g c rg rb w) : Below w0.heap.size w0 w := by
  obtain ⟨ov, av, pv, ins, outs, code, ht, hbo, hbe⟩ := h
  exact hbe
theorem HoldsActs.at_ {w : World} {b o k : Nat} {l : List (Int × Int)} {a : Int × Int} (h : HoldsActs w (some ⟨b, o, none⟩) l) (hk : l[k]? = some a) : w.cell? ⟨b, o + k * 2, none⟩ = some (.int .i64 a.1) ∧ w.cell? ⟨b, o + k * 2 + 1, none⟩ = some (.int .u32 a.2) := by
  obtain ⟨b2, o2, e, hc⟩ := h.1 (by have := (List.getElem?_eq_some_iff.1 hk).1; omega)
  injection e with e
  injection e with e1 e2
  subst e1 e2
  exact hc k a hk
section
variable {w0 w w1 : World} {B g c rg rb : Nat} {ov av pv : Value} {ins outs : List UInt8} {code : Int} {ht : Bool}
theorem IsRef.step_g (h : IsRef w B rg rb av pv ins outs code ht) (hB : w0.heap.size ≤ B) (hbl : Below w0.heap.size w0 w) (hk : Only (· = rg) w w1) : Below w0.heap.size w0 w1 :=
  Only.below hbl hk hbl.size (fun i hi => by have := h.b1; omega)
theorem IsRef.step_o (h : IsRef w B rg rb av pv ins outs code ht) (hB : w0.heap.size ≤ B) (hbl : Below w0.heap.size w0 w) (hk : Only (fun i => i = rg ∨ pv.ownBlock = some i) w w1) : Below w0.heap.size w0 w1 :=
  Only.below hbl hk hbl.size (fun i hi => by
    rcases hi with hi | hi
    · have := h.b1
      omega
    · have := (h.put.lt i hi).1
      omega)
end
set_option maxRecDepth 100000 in
set_option maxHeartbeats 20000000 in
theorem plays_good (A : Option Addr) (xs : List UInt8) (c0 : Nat) (A2 : Option Addr) (l : List (Int × Int)) (c2 : Nat) (w : World) (hl : l.length ≤ 100) (hx : Holds w A xs) (hn : xs.length ≤ 2000) (ha : HoldsActs w A2 l) :
    Calls Try.prog 3 #[.slice A xs.length c0, .slice A2 l.length c2] w (Yes w) := by
  have q1 : ((2000 : Int) < xs.length) = False := eq_false (by omega)
  have q3 : ((100 : Int) < l.length) = False := eq_false (by omega)
  have hb := (Below.refl w.heap.size w).alloc (Nat.le_refl _) (.cells #[] 5)
  obtain ⟨i0, hi, hz0, hz1, hz2⟩ := info_parts info_u8
  have L1 := World.ownsRow_lit (base := w.heap.size) (e := 5) (size := 1) w #[] 0 (Nat.le_refl _) (by unfold maxLen; omega) rfl
  have hsrc := (hx.below hb).src
  have HN := Lib.hid hn
  have HL := Lib.hid hl
  obtain ⟨ys, hys⟩ : ∃ ys, bv xs = ys := ⟨_, rfl⟩
  rw [hys] at hsrc
  have HY := Lib.hid hys
  clear hys hn hl
  go_enter Try.func3, Try.ntmps3
  go_upto_region 4 with (at_builtin; refine wpList_append_src rfl (.tmp 27) (.tmp 28) _ rfl w.heap.size 5 i0 _ 1 1 Try.underlying22 hi hz0 hz1 hz2 rfl (by decide) _ 0 [] rfl L1 A xs.length c0 ys rfl hsrc (by have := HN.out; unfold maxLen; omega) (by have := HN.out; omega) hb.size ?_; intro v' w2 hown2 hg2; obtain ⟨R, rc, rfl⟩ := row_slice hown2)
  have hg3 : (w.alloc (.cells #[] 5)).grownBy w2 (some w.heap.size) := hg2
  have T2 := hb.grown hg3 hb.size (fun q hq => by injection hq with hq; omega)
  have hown3 : w2.ownsRow w.heap.size 5 1 (.slice R xs.length rc) xs.length (bv xs) := by
    rw [Nat.zero_add] at hown2
    rw [HY.out]
    exact hown2
  clear hown2 hg2 hg3
  go_wp2_with fail
  refine (new_yes R xs rc _ (row_holds hown3 rfl) (by have := HN.out; omega)).mono ?_
  rintro e w3 ⟨g, c, rfl, hp3, hb3⟩
  have T3 := T2.trans (hb3.mono T2.size)
  go_wp2_with fail
  refine (rnew_yes A xs c0 _ (hx.below T3) (by have := HN.out; omega)).mono ?_
  rintro e w4 ⟨rg, rb, av, rfl, hr4, hb4, r1, r2, r3⟩
  have HH := head_new T2 hp3 hb3 hr4 hb4 r1 r2 r3
  have hlow := fun i hi => (hown3.lt i hi).2
  have hown4 : w4.ownsRow w.heap.size 5 1 (.slice R xs.length rc) xs.length (bv xs) := row_keeps hown3 (Only.of_below (S := fun _ => False) (hb3.trans (hb4.mono hb3.size))) (fun _ _ q => q)
  have cvR := conv_holds w4 R xs _ rc rfl (row_holds hown4 rfl)
  have cvA := conv_holds w4 A xs _ c0 rfl (hx.below HH.was)
  obtain ⟨B, hB⟩ : ∃ B, w2.heap.size = B := ⟨_, rfl⟩
  rw [hB] at HH hlow
  have hBs : w.heap.size ≤ B := by rw [← hB]; exact T2.size
  clear hB hown3 hp3 hr4 r1 r2 r3 hb3 hb4 T2 T3 hsrc L1
  go_upto_block 0 with (go_at_call 9; refine (num_any _ (by decide) (by decide) _).mono ?_; rintro e w' ⟨rfl, rfl⟩)
  go_cut [10] from 58 to 75 (fun i wx => HeadAt w B g c rg rb wx)
  case first =>
    clear cvR cvA
    by_cases h0 : xs.length = 0
    · have h00 : xs.length ≤ 0 := by omega
      clear h0
      go_wp2_with fail
      go_loop [10] (fun i => i = .int .i64 0) (fun _ => 0)
      case atStart => rfl
      case round =>
        subst hrel
        go_wp2
        go_meet
        exact HH
    · obtain ⟨g2, rfl, hg2l, _⟩ := row_at hown4 (by omega)
      have hg2b := hlow g2 rfl
      go_wp2_with fail
      go_loopw [10] (fun i wr => ∃ (k : Nat) (L' : List UInt8), k ≤ 50 ∧ L'.length = xs.length ∧ i = .int .i64 k ∧ wr.ownsRow w.heap.size 5 1 (.slice (some ⟨g2, 0, none⟩) xs.length rc) xs.length (bv L') ∧ HeadAt w B g c rg rb wr) (fun i _ => 50 - (intOf i).toNat)
      case atStart => exact ⟨0, xs, by omega, rfl, rfl, hown4, HH⟩
      case round =>
        obtain ⟨k, L', hk2, hL', rfl, hbk, hbe⟩ := hrel
        have HL' := Lib.hid hL'
        clear hL'
        by_cases hlt : k < xs.length ∧ k < 50
        · obtain ⟨hk1, hk3⟩ := hlt
          obtain ⟨x, x0, x1, hx'⟩ := byteOf_get L' k (by rw [HL'.out]; exact hk1)
          have c1 : wr.cell? ⟨g2, k, none⟩ = some (.int .u8 x) := (hbk.cellAt k (by omega)).trans hx'
          have f1 := hbk.frozenAt k
          clear hx'
          go_wp2
          go_roundw
          case rel =>
            have hbe2 := byteOf_toNat ((x + 1) % 256) (by omega) (by omega)
            obtain ⟨hset, hg4⟩ := hbk.stored k (.int .u8 ((byteOf ((x + 1) % 256)).toNat : Int))
            rw [bv_set] at hset
            rw [hbe2] at hset hg4
            exact ⟨k + 1, L'.set k (byteOf ((x + 1) % 256)), by omega, by simpa using HL'.out, by go_num, hset, hbe.low hg4 hg2l hg2b⟩
          case measure => simp [intOf]; omega
        · by_cases hk1 : k < xs.length
          · have hk50 : 50 ≤ k := by omega
            clear hlt
            go_wp2
            go_meet
            exact hbe
          · have hk0 : xs.length ≤ k := by omega
            clear hlt
            go_wp2
            go_meet
            exact hbe
  case rest =>
    have H0 : HeadAt w B g c rg rb wc := hcut
    clear hcut HH cvR cvA hown4 hlow
    go_wp2_with fail
    go_loopw [11] (fun i wr => ∃ k : Nat, k ≤ l.length ∧ i = .int .i64 k ∧ HeadAt w B g c rg rb wr) (fun i _ => l.length - (intOf i).toNat)
    case atStart => exact ⟨0, Nat.zero_le _, rfl, H0⟩
    case round =>
      obtain ⟨k, hk, rfl, hH⟩ := hrel
      by_cases hlt : k < l.length
      · have hq := List.getElem?_eq_getElem hlt
        generalize l[k] = a at hq
        have hok := ha.2 a (List.mem_of_getElem? hq)
        obtain ⟨ab, ao, rfl, _⟩ := ha.1 (by omega)
        have hcell := fun W (hW : Below w.heap.size w W) => (ha.below hW).at_ hq
        obtain ⟨d0, d1⟩ := hcell wr hH.was
        obtain ⟨_, _, v0, v1⟩ := hok
        have cs0 : Try.prog.cellsOf 35 = 2 := by kernel_rfl
        have HCELL := Lib.hid hcell
        have HA := Lib.hid ha
        clear hq hcell ha
        go_upto_block 4 with fail
        go_cut [90] from 91 to 129 (fun s wx => HeadAt w B g c rg rb wx)
        case first =>
          obtain ⟨ov, av, pv, ins, outs, code, ht, hbo, hbe⟩ := hH
          by_cases k0 : a.1 = 0
          · have kb : (a.1 == 0) = true := by simp [k0]
            clear k0
            go_wp2_with fail
            refine (in_any B g c ins outs ov code ht _ hbo.p).mono ?_
            rintro e w5 ⟨rfl, hp5, k5⟩
            have hr5 := hbo.ref_c k5
            have t5 := hbo.p.step_c hBs hbe k5
            go_wp2_with fail
            refine (rin_any hr5 hbo.n7).mono ?_
            rintro e w6 ⟨rfl, ⟨av6, hr6⟩, k6⟩
            have t6 := hr5.step_g hBs t5 k6
            have hbo6 := hbo.in_ hp5 k5 hr6 k6
            have hv := inV_bd ins
            generalize inV ins = v at hv ⊢
            go_wp2_with fail
            go_meet
            exact ⟨_, _, _, _, _, _, _, hbo6, t6⟩
          · have kb0 : (a.1 == 0) = false := by simp [k0]
            clear k0
            by_cases k1 : a.1 = 1
            · have kb1 : (a.1 == 1) = true := by simp [k1]
              clear k1
              go_wp2_with fail
              refine (out_any a.2 v0 v1 hbo.p).mono ?_
              rintro e w5 ⟨rfl, ov5, hp5, k5, at5⟩
              have hr5 := hbo.ref_g k5
              have t5 := hbo.p.step_o hBs hbe k5
              have d5 := (HCELL.out w5 t5).2
              go_wp2_with fail
              refine (rout_any a.2 v0 v1 hr5 hbo.n7 (by have := k5.size; have := hbo.n1; omega) hbo.n3).mono ?_
              rintro e w6 ⟨rfl, pv6, hr6, k6, at6⟩
              have t6 := hr5.step_o hBs t5 k6
              have hbo6 := hbo.out_ hp5 k5 at5 hr6 k6 at6
              go_wp2_with fail
              go_meet
              exact ⟨_, _, _, _, _, _, _, hbo6, t6⟩
            · have kb1 : (a.1 == 1) = false := by simp [k1]
              clear k1
              by_cases k2 : a.1 = 2
              · have kb2 : (a.1 == 2) = true := by simp [k2]
                clear k2
                go_wp2_with fail
                refine (halt_any a.2 hbo.p).mono ?_
                rintro e w5 ⟨rfl, hp5, k5⟩
                have hr5 := hbo.ref_c' k5
                have t5 := hbo.p.step_g hBs hbe k5
                have d5 := (HCELL.out w5 t5).2
                go_wp2_with fail
                refine (rhalt_any a.2 hr5 hbo.n7 (by have := k5.size; have := hbo.n1; omega)).mono ?_
                rintro e w6 ⟨rfl, hr6, k6⟩
                have t6 := hr5.step_g hBs t5 k6
                have hbo6 := hbo.halt_ hp5 k5 hr6 k6
                go_wp2_with fail
                go_meet
                exact ⟨_, _, _, _, _, _, _, hbo6, t6⟩
              · have kb2 : (a.1 == 2) = false := by simp [k2]
                clear k2
                go_wp2_with fail
                go_meet
                exact ⟨_, _, _, _, _, _, _, hbo, hbe⟩
        case rest =>
          obtain ⟨ov, av, pv, ins, outs, code, ht, hbo, hbe⟩ := hcut
          clear d0 d1 H0 hH
          have hk100 : (k : Int) ≤ 100 := by have := HL.out; omega
          by_cases h0 : outs.length = 0
          · obtain rfl : outs = [] := List.eq_nil_of_length_eq_zero h0
            clear h0
            go_wp2_with fail
            refine (output_any hbo.p).mono ?_
            rintro e w5 ⟨A5, rfl, ho5, hb5⟩
            have hbo5 := hbo.below hb5
            have t5 := hbe.trans (hb5.mono hbe.size)
            go_wp2_with fail
            refine (same_any hbo5).mono ?_
            rintro e w6 ⟨rfl, hb6⟩
            have hbo6 := hbo5.below hb6
            have t6 := t5.trans (hb6.mono t5.size)
            go_wp2_with fail
            go_roundw
            case rel => exact ⟨k + 1, by omega, by go_num, _, _, _, _, _, _, _, hbo6, t6⟩
            case measure => simp [intOf]; omega
          · have h1 : 0 < outs.length := by omega
            clear h0
            go_wp2_with fail
            refine (output_any hbo.p).mono ?_
            rintro e w5 ⟨A5, rfl, ho5, hb5⟩
            obtain ⟨rfl, hblk⟩ : A5 = some ⟨wc.heap.size, 0, none⟩ ∧ Blok w5 wc.heap.size 5 (bv outs) := by
              rcases ho5 with ⟨_, q⟩ | q
              · subst q
                simp at h1
              · exact q
            obtain ⟨x, x0, x1, hx'⟩ := byteOf_get outs 0 h1
            have e1 : w5.cell? ⟨wc.heap.size, 0, none⟩ = some (.int .u8 x) := (hblk.at_ 0).trans hx'
            have f1 := hblk.free 0
            have hb5' := hb5.setCell (p := ⟨wc.heap.size, 0, none⟩) (Nat.le_refl _) (.int .u8 ((x + 1) % 256))
            have hbo5 := hbo.below hb5'
            have t5 := hbe.trans (hb5'.mono hbe.size)
            clear hx'
            go_wp2_with fail
            refine (same_any hbo5).mono ?_
            rintro e w6 ⟨rfl, hb6⟩
            have hbo6 := hbo5.below hb6
            have t6 := t5.trans (hb6.mono t5.size)
            go_wp2_with fail
            go_roundw
            case rel => exact ⟨k + 1, by omega, by go_num, _, _, _, _, _, _, _, hbo6, t6⟩
            case measure => simp [intOf]; omega
      · have hk0 : l.length ≤ k := by omega
        clear hlt
        go_wp2_with fail
        refine (knows_any _).mono ?_
        rintro e w5 ⟨rfl, hb5⟩
        go_wp2_with fail
        go_ret
        exact ⟨rfl, hH.was.trans (hb5.mono hH.was.size)⟩
theorem plays_any (A : Option Addr) (xs : List UInt8) (c0 : Nat) (A2 : Option Addr) (l : List (Int × Int)) (c2 : Nat) (w : World) (hm : xs.length ≤ 140737488351232) (hl : l.length ≤ maxLen) (hx : Holds w A xs) (ha : HoldsActs w A2 l) :
    Calls Try.prog 3 #[.slice A xs.length c0, .slice A2 l.length c2] w (Yes w) := by
  unfold maxLen at hl
  by_cases h1 : 100 < l.length
  · exact plays_heavy A xs.length c0 A2 l.length c2 w (by omega) (by omega) (.inr h1)
  by_cases h2 : 65536 < xs.length
  · exact plays_refused A xs c0 A2 l.length c2 w hm (by omega) hx h2
  by_cases h3 : 2000 < xs.length
  · exact plays_heavy A xs.length c0 A2 l.length c2 w (by omega) (by omega) (.inl ⟨h3, by omega⟩)
  · exact plays_good A xs c0 A2 l c2 w (by omega) hx (by omega) ha
end Go.Proofs.Ytadaiomlildhjaa
