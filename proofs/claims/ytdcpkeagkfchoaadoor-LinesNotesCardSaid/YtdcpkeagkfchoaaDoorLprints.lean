/- LinesPrints. -/
import Derived.Test.YtdcpkeagkfchoaaDoorLopen
import Derived.Test.YtdcpkeagkfchoaaDoorPprint
import Derived.Test.YtdcpkeagkfchoaaDoorRown
import Derived.Test.YtdcpkeagkfchoaaDoorKnow
namespace Go.Proofs.YtdcpkeagkfchoaaDoor
open Go.RowKit T6
set_option linter.unusedVariables false
theorem printR_err (ds : List LineD) : (printR ds).2 ≤ 1 := by
  unfold printR
  split
  · exact Nat.zero_le _
  · exact Nat.le_refl _
set_option maxRecDepth 100000 in
set_option maxHeartbeats 4000000 in
theorem linesPrints_any (v : Value) (ds : List LineD) (hr : InReach ds) (w : World) (h : LinesAt w v ds) : Calls Tryd.prog 4 #[v] w (Yes w) := by
  have hli := light_any v ds hr w h
  by_cases hT : totN ds ≤ 3000
  · obtain ⟨hn, hsh, hpt⟩ := light_gives hT
    rw [decide_eq_true hT] at hli
    have hown := fun w' (hb : Below w.heap.size w w') => Own_any v ds (by omega) (fun d hd => ⟨(hsh d hd).1.1, (hsh d hd).2.2.1⟩) w' (h.below hb)
    have hpr := fun v1 w' (h1 : LinesAt w' v1 ds) => print_any v1 ds (by omega) (fun k => by have := hpt k; omega) hsh w' h1
    have hrp := fun w' (hb : Below w.heap.size w w') => rprint_any v ds (by omega) hsh w' (h.below hb)
    have hnum := fun w => num_any (((printR ds).2 : Nat) : Int) w (by omega) (by have := printR_err ds; omega)
    generalize printR ds = R at *
    obtain ⟨t, e0⟩ := R
    simp only at hpr hrp hnum
    obtain ⟨E, hE⟩ : ∃ E : Int, ((e0 : Nat) : Int) = E := ⟨_, rfl⟩
    rw [hE] at hpr hrp hnum
    have HSH := Lib.hid hsh
    obtain ⟨A1, c1, rfl, hA1⟩ := h
    have HA := Lib.hid hA1
    clear hA1 hsh hE hpt hr
    go_enter Tryd.func4, Tryd.ntmps4
    go_wp2_with (first
      | (go_at_call 14; refine hli.mono ?_; rintro e w1 ⟨rfl, q1, rfl⟩; have b1 := below_drewN (Below.refl w.heap.size w) q1)
      | (go_at_call 16; refine (hown _ b1).mono ?_; rintro e w2 ⟨v2, rfl, hL2, hb2⟩; have b2 := below3 b1 hb2)
      | (go_at_call 15; refine (hpr _ _ hL2).mono ?_; rintro e w3 ⟨rfl, hb3⟩; have b3 := below3 b2 hb3)
      | (go_at_call 17; refine (hrp _ b3).mono ?_; rintro e w4 ⟨rfl, hb4⟩; have b4 := below3 b3 hb4))
    go_loopw [7] (fun i wr => ∃ k : Nat, k ≤ ds.length ∧ i = .int .i64 k ∧ Below w.heap.size w wr) (fun i _ => ds.length - (intOf i).toNat)
    case atStart => exact ⟨0, Nat.zero_le _, rfl, b4⟩
    case round =>
      obtain ⟨k, hk, rfl, hbel⟩ := hrel
      clear hL2 b1 hb2 b2 hb3 b3 hb4 b4
      by_cases hlt : k < ds.length
      · obtain ⟨b5, o5, rfl, hc5⟩ := HA.out (by omega)
        obtain ⟨p0, p2, q0, q2, q3, hp0, hp2⟩ := hc5 k _ (List.getElem?_eq_getElem hlt)
        have hd := HSH.out _ (List.getElem_mem hlt)
        obtain ⟨d, hdd⟩ : ∃ d, ds[k] = d := ⟨_, rfl⟩
        rw [hdd] at q2 hp0 hp2 hd
        have HG : Hid (ds[k]? = some d) := by show ds[k]? = some d; rw [← hdd]; exact List.getElem?_eq_getElem hlt
        have hblk := block_lt_of_cell q0
        have z0 := (hbel.cell (block_lt_of_cell q0)).trans q0
        have z1 := (hbel.cell (block_lt_of_cell q2)).trans q2
        have z2 := (hbel.cell (block_lt_of_cell q3)).trans q3
        have hD0 := hbel.drew
        have hb5d : b5 < wr.drew.heap.size := Nat.lt_of_lt_of_le hblk hD0.size
        have hR := fun c0 c2 w' h0 h2 => right_any c0 c2 d hd w' h0 h2
        have hRR := fun w' (hb : Below w.heap.size w w') => rright_any p0 p2 d hd w' (hp0.below hb) (hp2.below hb)
        obtain ⟨rb, hrb⟩ : ∃ rb, rightB d = rb := ⟨_, rfl⟩
        rw [hrb] at hR hRR
        obtain ⟨P0, C0, rfl, hP0⟩ := hp0
        obtain ⟨P2, C2, rfl, hP2⟩ := hp2
        clear hdd hc5 HA hP0 hP2 hrb q0 q2 q3
        go_wp2
        first | go_region_with (first
            | (go_at_call 16; refine (hown _ hD0).mono ?_; rintro e w5 ⟨v5, rfl, hL5, hb5⟩; have T5 := Lib.hid (below3 hD0 hb5); have x0 := (hb5.cell hb5d).trans z0; have x1 := (hb5.cell hb5d).trans z1; have x2 := (hb5.cell hb5d).trans z2; obtain ⟨A5, c5, rfl, hA5⟩ := hL5; obtain ⟨b6, o6, rfl, hx6⟩ := hA5 (by omega); obtain ⟨r0, r2, y0, y1, y2, hr0, hr2⟩ := hx6 k _ HG.out; clear hx6 hA5)
            | (go_at_call 18; refine (hR _ _ _ hr0 hr2).mono ?_; rintro e w6 ⟨rfl, hb6⟩; have T6 := Lib.hid (below3 T5.out hb6); have m0 := (hb6.cell (block_lt_of_cell x0)).trans x0; have m1 := (hb6.cell (block_lt_of_cell x1)).trans x1; have m2 := (hb6.cell (block_lt_of_cell x2)).trans x2)
            | (go_at_call 19; refine (hRR _ T6.out).mono ?_; rintro e w7 ⟨rfl, hb7⟩; have T7 := Lib.hid (below3 T6.out hb7))) | fail
        all_goals
          clear z0 z1 z2 x0 x1 x2 y0 y1 y2 m0 m1 m2 hr0 hr2
          go_wp2
          go_roundw
          case rel => exact ⟨k + 1, by omega, by go_num, T7.out⟩
          case measure => simp [intOf]; omega
      · clear HA hk
        go_wp2_with (first
          | (go_at_call 13; refine (hnum _).mono ?_; rintro e w8 ⟨rfl, rfl⟩)
          | (go_at_call 8; refine (knows_any _).mono ?_; rintro e w7 ⟨rfl, hb7⟩))
        go_ret
        exact ⟨rfl, below3 hbel hb7⟩
  · rw [decide_eq_false hT] at hli
    clear hT h
    go_enter Tryd.func4, Tryd.ntmps4
    go_wp2_with (first
      | (go_at_call 14; refine hli.mono ?_; rintro e w1 ⟨rfl, q1, rfl⟩)
      | (go_at_call 8; refine (knows_any _).mono ?_; rintro e w5 ⟨rfl, hb5⟩))
    go_ret
    exact ⟨rfl, below3 (below_drewN (Below.refl _ w) q1) hb5⟩
end Go.Proofs.YtdcpkeagkfchoaaDoor
