/- Light: are lines few and short? -/
import Derived.Test.YtdcpkeagkfchoaaDoorRprint
import Derived.Test.YtdcpkeagkfchoaaDoorRsame
namespace Go.Proofs.YtdcpkeagkfchoaaDoor
open Go.RowKit T6
set_option linter.unusedVariables false
def lensN (xs : List Str) : Nat := (xs.map List.length).sum
def costN (d : LineD) : Nat := 4 + d.word.length + d.labels.length + d.args.length + lensN d.labels + lensN d.args
def totN (ds : List LineD) : Nat := (ds.map costN).sum
/-- Every length is one that a machine may reach. -/
def InReach (ds : List LineD) : Prop := ds.length ≤ 140737488351232 ∧ ∀ d ∈ ds, d.word.length ≤ 140737488351232 ∧ (d.labels.length ≤ 140737488351232 ∧ ∀ x ∈ d.labels, x.length ≤ 140737488351232) ∧ (d.args.length ≤ 140737488351232 ∧ ∀ x ∈ d.args, x.length ≤ 140737488351232)
theorem lensN_step (xs : List Str) (k : Nat) (h : k < xs.length) : lensN (xs.take (k + 1)) = lensN (xs.take k) + xs[k].length := by
  unfold lensN
  rw [List.take_succ_eq_append_getElem h, List.map_append, List.sum_append]
  simp
theorem totN_step (ds : List LineD) (k : Nat) (h : k < ds.length) : totN (ds.take (k + 1)) = totN (ds.take k) + costN ds[k] := by
  unfold totN
  rw [List.take_succ_eq_append_getElem h, List.map_append, List.sum_append]
  simp
theorem lensN_mem : ∀ (xs : List Str), ∀ x ∈ xs, x.length ≤ lensN xs
  | x :: xs, y, hy => by
    rcases List.mem_cons.1 hy with rfl | hy
    · simp [lensN]
    · have := lensN_mem xs y hy
      simp only [lensN, List.map_cons, List.sum_cons] at this ⊢
      omega
theorem totN_mem : ∀ (ds : List LineD), ∀ d ∈ ds, costN d ≤ totN ds
  | x :: xs, y, hy => by
    rcases List.mem_cons.1 hy with rfl | hy
    · simp [totN]
    · have := totN_mem xs y hy
      simp only [totN, List.map_cons, List.sum_cons] at this ⊢
      omega
theorem totN_len : ∀ (ds : List LineD), ds.length * 4 ≤ totN ds
  | [] => Nat.zero_le _
  | x :: xs => by
    have := totN_len xs
    simp only [totN, costN, List.map_cons, List.sum_cons, List.length_cons] at this ⊢
    omega
theorem totN_take (ds : List LineD) (k : Nat) : totN (ds.take k) ≤ totN ds := by
  induction ds generalizing k with
  | nil => simp [totN]
  | cons d ds ih =>
    cases k with
    | zero => simp [totN]
    | succ k =>
      have := ih k
      simp only [totN, List.take_succ_cons, List.map_cons, List.sum_cons] at this ⊢
      omega
theorem sp_cost : ∀ l : List Str, (sp l).length = lensN l + l.length
  | [] => rfl
  | x :: l => by
    have := sp_cost l
    simp only [sp, lensN, List.map_cons, List.flatten_cons, List.length_append, List.length_cons, List.sum_cons] at this ⊢
    omega
theorem lensN_append (a b : List Str) : lensN (a ++ b) = lensN a + lensN b := by simp [lensN]
theorem lensN_labs : ∀ l : List Str, lensN (l.map (· ++ [58])) = lensN l + l.length
  | [] => rfl
  | x :: l => by
    have := lensN_labs l
    simp only [lensN, List.map_cons, List.sum_cons, List.length_cons, List.length_append, List.length_nil] at this ⊢
    omega
theorem textB_cost (d : LineD) : (textB d).length + 1 ≤ 2 * costN d := by
  have h := sp_cost (itemsB d)
  unfold textB
  rw [List.length_drop, h]
  unfold itemsB costN
  rw [lensN_append, lensN_append, List.length_append, List.length_append]
  have h1 : lensN (labsT d) = lensN d.labels + d.labels.length := lensN_labs d.labels
  have h2 : (labsT d).length = d.labels.length := by simp [labsT]
  have h3 : lensN (wordI d) ≤ d.word.length ∧ (wordI d).length ≤ 1 := by
    unfold wordI
    split <;> simp [lensN]
  omega
theorem printT_cost : ∀ ds : List LineD, (printT ds).length ≤ 2 * totN ds
  | [] => Nat.zero_le _
  | d :: ds => by
    have := printT_cost ds
    have h := textB_cost d
    simp only [printT, totN, List.map_cons, List.flatten_cons, List.length_append, List.sum_cons, List.length_cons, List.length_nil] at this ⊢
    omega
/-- What Light gives. -/
theorem light_gives {ds : List LineD} (h : totN ds ≤ 3000) : ds.length ≤ 750 ∧ (∀ d ∈ ds, ShortL d) ∧ (∀ k, (printT (ds.take k)).length ≤ 6000) := by
  refine ⟨by have := totN_len ds; omega, fun d hd => ?_, fun k => ?_⟩
  · have := totN_mem ds d hd
    unfold costN at this
    exact ⟨⟨by omega, fun x hx => by have := lensN_mem _ x hx; omega⟩, by omega, by omega, fun x hx => by have := lensN_mem _ x hx; omega⟩
  · have h1 := printT_cost (ds.take k)
    have h2 := totN_take ds k
    omega
theorem lensN_take (xs : List Str) (k : Nat) : lensN (xs.take k) ≤ lensN xs := by
  induction xs generalizing k with
  | nil => simp [lensN]
  | cons d ds ih =>
    cases k with
    | zero => simp [lensN]
    | succ k =>
      have := ih k
      simp only [lensN, List.take_succ_cons, List.map_cons, List.sum_cons] at this ⊢
      omega
set_option maxRecDepth 100000 in
set_option maxHeartbeats 4000000 in
theorem light_any (v : Value) (ds : List LineD) (hr : InReach ds) (w : World) (h : LinesAt w v ds) :
    Calls Tryd.prog 14 #[v] w fun e w' => e = .returned (.bool (decide (totN ds ≤ 3000))) ∧ ∃ q, w' = w.drewN q := by
  obtain ⟨A1, c1, rfl, hA1⟩ := h
  obtain ⟨hlen, hin⟩ := hr
  have HA := Lib.hid hA1
  have HR := Lib.hid hin
  clear hA1 hin
  go_enter Tryd.func14, Tryd.ntmps14
  go_wp2
  go_loopw [3, 4] (fun lf i wr => ∃ (k q : Nat) (L : Int), k ≤ ds.length ∧ i = .int .i64 k ∧ lf = .int .i64 L ∧ -1125899906842624 ≤ L ∧ L ≤ 3000 ∧ (0 ≤ L → L = 3000 - (totN (ds.take k) : Int)) ∧ (L < 0 → 3000 < totN ds) ∧ wr = w.drewN q) (fun _ i _ => ds.length - (intOf i).toNat)
  case atStart => exact ⟨0, 0, 3000, Nat.zero_le _, rfl, rfl, by decide, by decide, fun _ => rfl, fun h => absurd h (by decide), rfl⟩
  case round =>
    obtain ⟨k, q, L, hk, rfl, rfl, hL0, hL1, hLp, hLn, hwr⟩ := hrel
    have HW := Lib.hid hwr
    have HLP := Lib.hid hLp
    have HLN := Lib.hid hLn
    clear hLp hLn
    by_cases hneg : L < 0
    · have hc : ((0 : Int) ≤ L) = False := by simp; omega
      have hd : decide (totN ds ≤ 3000) = false := by have := HLN.out hneg; simp; omega
      have HD := Lib.hid hd
      clear hwr hd
      by_cases hlt : k < ds.length
      · go_wp2
        go_ret
        exact ⟨by rw [HD.out]; rfl, _, HW.out⟩
      · go_wp2
        go_ret
        exact ⟨by rw [HD.out]; rfl, _, HW.out⟩
    · have hL := HLP.out (by omega)
      have hc : ((0 : Int) ≤ L) = True := by simp; omega
      by_cases hlt : k < ds.length
      · obtain ⟨b1, o1, rfl, hc1⟩ := HA.out (by omega)
        obtain ⟨p0, p2, q0, q1, q2, hp0, hp2⟩ := hc1 k _ (List.getElem?_eq_getElem hlt)
        have hrd := HR.out _ (List.getElem_mem hlt)
        have hts := totN_step ds k hlt
        have htk := totN_take ds (k + 1)
        obtain ⟨d, hdd⟩ : ∃ d, ds[k] = d := ⟨_, rfl⟩
        rw [hdd] at q1 hp0 hp2 hrd hts
        obtain ⟨hrw, ⟨hrl, hrlx⟩, hra, hrax⟩ := hrd
        have HRL := Lib.hid hrlx
        have HRA := Lib.hid hrax
        obtain ⟨P0, C0, rfl, hP0⟩ := hp0
        obtain ⟨P2, C2, rfl, hP2⟩ := hp2
        have HP0 := Lib.hid hP0
        have HP2 := Lib.hid hP2
        unfold costN at hts
        have B0 : Hid (L = 3000 - (totN (ds.take k) : Int) ∧ totN (ds.take (k + 1)) = totN (ds.take k) + (4 + d.word.length + d.labels.length + d.args.length + lensN d.labels + lensN d.args) ∧ totN (ds.take (k + 1)) ≤ totN ds) := ⟨hL, hts, htk⟩
        clear hc1 HA hdd hrlx hrax hP0 hP2 hts htk hL
        have z0 := cell_drewN hwr q0
        have z1 := cell_drewN hwr q1
        have z2 := cell_drewN hwr q2
        clear hwr
        go_wp2
        go_quiet (fail)
        go_wp2
        have hw2 : wr.drewN nq = w.drewN (q + nq) := by rw [HW.out, World.drewN_drewN]
        rw [hw2]
        clear hw2 z0 z1 z2
        have HX := Lib.hid (And.intro q0 q2)
        obtain ⟨C, hC⟩ : ∃ C : Int, L - 4 - (d.word.length : Int) - d.labels.length - d.args.length = C := ⟨_, rfl⟩
        rw [hC]
        have HC := Lib.hid hC
        have hCb : -1125899906842624 ≤ C ∧ C ≤ 3000 := by omega
        clear hC
        go_loopw [3, 5] (fun lf i wr2 => ∃ (j m : Nat) (M : Int), j ≤ d.labels.length ∧ i = .int .i64 j ∧ lf = .int .i64 M ∧ -1125899906842624 ≤ M ∧ M ≤ 3000 ∧ (0 ≤ M → M = C - (lensN (d.labels.take j) : Int)) ∧ (M < 0 → 3000 < totN ds) ∧ wr2 = w.drewN m) (fun _ i _ => d.labels.length - (intOf i).toNat)
        case atStart => exact ⟨0, _, _, Nat.zero_le _, rfl, rfl, hCb.1, hCb.2, fun _ => by simp [lensN], fun hM => by have := B0.out; have := HC.out; omega, rfl⟩
        case round =>
          obtain ⟨j, m, M, hj, rfl, rfl, hM0, hM1, hMp, hMn, hwr2⟩ := hrel
          have HW2 := Lib.hid hwr2
          have HMP := Lib.hid hMp
          have HMN := Lib.hid hMn
          have z0 := cell_drewN hwr2 q0
          clear hMp hMn hCb q1 q0 q2
          by_cases hgo : j < d.labels.length ∧ 0 ≤ M
          · obtain ⟨hjl, hM⟩ := hgo
            have hMe := HMP.out hM
            have hst := lensN_step d.labels j hjl
            have htl := lensN_take d.labels (j + 1)
            obtain ⟨b2, o2, rfl, hx⟩ := HP0.out (by omega)
            have y0 := cell_drewN hwr2 (hx j _ (List.getElem?_eq_getElem hjl))
            have hxl := HRL.out _ (List.getElem_mem hjl)
            have hc2 : ((0 : Int) ≤ M) = True := by simp; omega
            have HS := Lib.hid (And.intro hMe (And.intro hst (And.intro htl hM)))
            clear hx hMe hst htl hwr2 HP0 hM
            go_wp2
            go_roundw
            case rel => exact ⟨j + 1, m, _, by omega, by go_num, rfl, by have := HS.out.2.2.2; omega, by have := HS.out.2.2.2; omega, fun _ => by have := HS.out; omega, fun hn => by have h1 := HS.out; have h2 := B0.out; have h3 := HC.out; omega, HW2.out⟩
            case measure => simp [intOf]; omega
          · have hc2 : j < d.labels.length → ((0 : Int) ≤ M) = False := fun h => by simp; omega
            have hE : Hid (0 ≤ M → M = C - (lensN d.labels : Int)) := fun h => by
              have := HMP.out h
              rwa [List.take_of_length_le (by omega)] at this
            clear hwr2
            by_cases hjl : j < d.labels.length
            case' pos => have hc3 := hc2 hjl
            all_goals
              clear hc2 HMP
              go_wp2
              clear z0
              go_loopw [3, 6] (fun lf i wr2 => ∃ (j2 m2 : Nat) (M2 : Int), j2 ≤ d.args.length ∧ i = .int .i64 j2 ∧ lf = .int .i64 M2 ∧ -1125899906842624 ≤ M2 ∧ M2 ≤ M ∧ (0 ≤ M2 → M2 = M - (lensN (d.args.take j2) : Int)) ∧ (M2 < 0 → 3000 < totN ds) ∧ wr2 = w.drewN m2) (fun _ i _ => d.args.length - (intOf i).toNat)
              case atStart => exact ⟨0, m, M, Nat.zero_le _, rfl, rfl, hM0, Int.le_refl _, fun _ => by simp [lensN], HMN.out, HW2.out⟩
              case round =>
                obtain ⟨j2, m2, M2, hj2, rfl, rfl, hN0, hN1, hNp, hNn, hwr3⟩ := hrel
                have HW3 := Lib.hid hwr3
                have HNP := Lib.hid hNp
                have HNN := Lib.hid hNn
                have z2 := cell_drewN hwr3 HX.out.2
                clear hNp hNn
                by_cases hgo2 : j2 < d.args.length ∧ 0 ≤ M2
                · obtain ⟨hj2l, hM2⟩ := hgo2
                  have hMe := HNP.out hM2
                  have hMe1 := hE.out (by omega)
                  have hst := lensN_step d.args j2 hj2l
                  have htl := lensN_take d.args (j2 + 1)
                  obtain ⟨b2, o2, rfl, hx⟩ := HP2.out (by omega)
                  have y0 := cell_drewN hwr3 (hx j2 _ (List.getElem?_eq_getElem hj2l))
                  have hxl := HRA.out _ (List.getElem_mem hj2l)
                  have hc4 : ((0 : Int) ≤ M2) = True := by simp; omega
                  have HS := Lib.hid (And.intro hMe (And.intro hst (And.intro htl (And.intro hMe1 hM2))))
                  clear hx hMe hst htl hwr3 HP2 hM2 hMe1 hE
                  go_wp2
                  go_roundw
                  case rel => exact ⟨j2 + 1, m2, _, by omega, by go_num, rfl, by have := HS.out.2.2.2.2; omega, by have := HS.out.2.2.2.2; omega, fun _ => by have := HS.out; omega, fun hn => by have h1 := HS.out; have h2 := B0.out; have h3 := HC.out; omega, HW3.out⟩
                  case measure => simp [intOf]; omega
                · have hc5 : j2 < d.args.length → ((0 : Int) ≤ M2) = False := fun h => by simp; omega
                  have hF : Hid (0 ≤ M2 → M2 = 3000 - (totN (ds.take (k + 1)) : Int)) := fun h => by
                    have h1 := HNP.out h
                    rw [List.take_of_length_le (by omega)] at h1
                    have h2 := hE.out (by omega)
                    have h3 := B0.out
                    have h4 := HC.out
                    omega
                  clear hwr3
                  by_cases hj2l : j2 < d.args.length
                  case' pos => have hc6 := hc5 hj2l
                  all_goals
                    clear hc5 HNP hE
                    go_wp2
                    go_roundw
                    case rel => exact ⟨k + 1, m2, M2, by omega, by go_num, rfl, hN0, by omega, hF.out, HNN.out, HW3.out⟩
                    case measure => simp [intOf]; omega
      · have hd : decide (totN ds ≤ 3000) = true := by
          rw [List.take_of_length_le (by omega)] at hL
          simp
          omega
        have HD := Lib.hid hd
        clear hwr hd hL
        go_wp2
        go_ret
        exact ⟨by rw [HD.out]; rfl, _, HW.out⟩
end Go.Proofs.YtdcpkeagkfchoaaDoor
