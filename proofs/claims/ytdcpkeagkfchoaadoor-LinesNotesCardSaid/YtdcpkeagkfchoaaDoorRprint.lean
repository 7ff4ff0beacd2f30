/- The document's Print. -/
import Derived.Test.YtdcpkeagkfchoaaDoorPright
namespace Go.Proofs.YtdcpkeagkfchoaaDoor
open Go.RowKit T6
set_option linter.unusedVariables false
/-- Words, a blank ahead of each. -/
def sp (l : List Str) : Str := (l.map (fun x => (32 : UInt8) :: x)).flatten
def labsT (d : LineD) : List Str := d.labels.map (· ++ [58])
def wordI (d : LineD) : List Str := if d.word = [] then [] else [d.word]
def itemsB (d : LineD) : List Str := labsT d ++ wordI d ++ d.args
def textB (d : LineD) : Str := (sp (itemsB d)).drop 1
def printT (ds : List LineD) : Str := (ds.map (fun d => textB d ++ [10])).flatten
def printR (ds : List LineD) : Str × Nat := if ds.all rightB then (printT ds, 0) else ([], 1)
theorem sp_append (l m : List Str) : sp (l ++ m) = sp l ++ sp m := by simp [sp]
theorem sp_one (x : Str) : sp [x] = [32] ++ x := by simp [sp]
theorem sp_snoc (l : List Str) (x : Str) : sp (l ++ [x]) = sp l ++ [32] ++ x := by rw [sp_append, sp_one, List.append_assoc]
theorem printT_snoc (ds : List LineD) (d : LineD) : printT (ds ++ [d]) = printT ds ++ textB d ++ [10] := by simp [printT]
theorem sp_le (M : Nat) : ∀ l : List Str, (∀ x ∈ l, x.length ≤ M) → (sp l).length ≤ l.length * (M + 1)
  | [], _ => by simp [sp]
  | x :: l, h => by
    have h1 := sp_le M l (fun y hy => h y (by simp [hy]))
    have h2 := h x (by simp)
    have e : sp (x :: l) = [32] ++ x ++ sp l := by rw [show x :: l = [x] ++ l from rfl, sp_append, sp_one]
    rw [e]
    simp only [List.length_append, List.length_cons, List.length_nil, Nat.add_mul, Nat.one_mul]
    omega
theorem items_len {d : LineD} (hd : ShortL d) : (itemsB d).length ≤ 2000001 ∧ ∀ x ∈ itemsB d, x.length ≤ 1000001 := by
  obtain ⟨⟨hl, hlx⟩, hwd, ha, hax⟩ := hd
  have hw : (wordI d).length ≤ 1 := by unfold wordI; split <;> simp
  refine ⟨by unfold itemsB labsT; simp only [List.length_append, List.length_map]; omega, fun x hx => ?_⟩
  unfold itemsB at hx
  rcases List.mem_append.1 hx with h | h
  · rcases List.mem_append.1 h with h | h
    · unfold labsT at h
      obtain ⟨y, hy, rfl⟩ := List.mem_map.1 h
      have := hlx y hy
      simp only [List.length_append, List.length_cons, List.length_nil]
      omega
    · unfold wordI at h
      split at h
      · simp at h
      · obtain rfl := List.mem_singleton.1 h
        omega
  · have := hax x h
    omega
theorem sp_pre {d : LineD} (hd : ShortL d) {l : List Str} (h : l <+: itemsB d) : (sp l).length ≤ 2100000000000 := by
  have h1 := items_len hd
  have h2 := h.length_le
  have h3 := sp_le 1000001 l (fun x hx => h1.2 x (h.subset hx))
  have h4 : l.length * (1000001 + 1) ≤ 2000001 * (1000001 + 1) := Nat.mul_le_mul_right _ (by omega)
  omega
theorem textB_le {d : LineD} (hd : ShortL d) : (textB d).length ≤ 2100000000000 := by
  have := sp_pre hd (List.prefix_refl _)
  unfold textB
  rw [List.length_drop]
  omega
theorem printT_le : ∀ ds : List LineD, (∀ d ∈ ds, ShortL d) → (printT ds).length ≤ ds.length * 2100000000001
  | [], _ => by simp [printT]
  | d :: ds, h => by
    have h1 := printT_le ds (fun y hy => h y (by simp [hy]))
    have h2 := textB_le (h d (by simp))
    have e : printT (d :: ds) = textB d ++ [10] ++ printT ds := by simp [printT]
    rw [e]
    simp only [List.length_append, List.length_cons, List.length_nil, Nat.add_mul, Nat.one_mul]
    omega
theorem labs_pre (d : LineD) (n : Nat) : (labsT d).take n <+: itemsB d := (List.take_prefix _ _).trans (by unfold itemsB; rw [List.append_assoc]; exact List.prefix_append _ _)
theorem args_pre (d : LineD) (n : Nat) : labsT d ++ wordI d ++ d.args.take n <+: itemsB d := by
  unfold itemsB
  exact List.prefix_append_right_inj _ |>.2 (List.take_prefix _ _)
theorem printR_bad (ds : List LineD) (k : Nat) (hk : k < ds.length) (h : rightB ds[k] = false) : printR ds = ([], 1) := by
  have : ds.all rightB = false := by
    rw [← Bool.not_eq_true, List.all_eq_true]
    intro h2
    rw [h2 _ (List.getElem_mem hk)] at h
    cases h
  unfold printR
  rw [this]
  rfl
theorem printR_good (ds : List LineD) (h : ∀ j (hj : j < ds.length), rightB ds[j] = true) : printR ds = (printT ds, 0) := by
  have : ds.all rightB = true := List.all_eq_true.2 fun x hx => by
    obtain ⟨j, hj, rfl⟩ := List.getElem_of_mem hx
    exact h j hj
  unfold printR
  rw [if_pos this]
section
attribute [local go_sem] ext_to ext_from ext_all byte_at cat_str
set_option maxRecDepth 100000 in
set_option maxHeartbeats 4000000 in
theorem rprint_any (v : Value) (ds : List LineD) (hn : ds.length ≤ 40000) (hsh : ∀ d ∈ ds, ShortL d) (w : World) (h : LinesAt w v ds) :
    Calls Tryd.prog 17 #[v] w fun e w' => e = .returned (.tuple #[.string ⟨(printR ds).1.toArray⟩, .int .i64 ((printR ds).2 : Int)]) ∧ Below w.heap.size w w' := by
  obtain ⟨A1, c1, rfl, hA1⟩ := h
  have HA := Lib.hid hA1
  have HSH := Lib.hid hsh
  clear hA1 hsh
  go_enter Tryd.func17, Tryd.ntmps17
  go_wp2
  go_loopw [4, 5] (fun s i wr => ∃ k : Nat, k ≤ ds.length ∧ i = .int .i64 k ∧ s = .string ⟨(printT (ds.take k)).toArray⟩ ∧ (∀ j, j < k → ∀ h : j < ds.length, rightB ds[j] = true) ∧ Below w.heap.size w wr) (fun _ i _ => ds.length - (intOf i).toNat)
  case atStart => exact ⟨0, Nat.zero_le _, rfl, rfl, fun j hj => absurd hj (Nat.not_lt_zero _), Below.refl _ _⟩
  case round =>
    obtain ⟨k, hk, rfl, rfl, hal, hbel⟩ := hrel
    have HAL := Lib.hid hal
    clear hal
    by_cases hlt : k < ds.length
    · obtain ⟨b1, o1, rfl, hc1⟩ := HA.out (by omega)
      obtain ⟨p0, p2, q0, q1, q2, hp0, hp2⟩ := hc1 k _ (List.getElem?_eq_getElem hlt)
      have hd := HSH.out _ (List.getElem_mem hlt)
      have hbad := printR_bad ds k hlt
      have htk : printT (ds.take (k + 1)) = printT (ds.take k) ++ textB (ds[k]'hlt) ++ [10] := by rw [List.take_succ_eq_append_getElem hlt, printT_snoc]
      obtain ⟨d, hdd⟩ : ∃ d, ds[k] = d := ⟨_, rfl⟩
      rw [hdd] at q1 hp0 hp2 hd hbad htk
      have HD := Lib.hid hdd
      have HBAD := Lib.hid hbad
      have HTK := Lib.hid htk
      have z0 := (hbel.cell (block_lt_of_cell q0)).trans q0
      have z1 := (hbel.cell (block_lt_of_cell q1)).trans q1
      have z2 := (hbel.cell (block_lt_of_cell q2)).trans q2
      have hk0 := block_lt_of_cell q0
      have hp0' := fun w' (hb : Below w.heap.size w w') => hp0.below hb
      have hp2' := fun w' (hb : Below w.heap.size w w') => hp2.below hb
      have hr := rright_any p0 p2 d hd wr (hp0' _ hbel) (hp2' _ hbel)
      obtain ⟨P0, C0, rfl, hP0⟩ := hp0
      obtain ⟨P2, C2, rfl, hP2⟩ := hp2
      have HP0 := Lib.hid hP0
      have HP2 := Lib.hid hP2
      have hdS := Lib.hid hd
      obtain ⟨⟨hl, _⟩, hwd, ha, _⟩ := hd
      clear hc1 HA q0 q1 q2 hdd hbad htk hp0' hp2' hP0 hP2
      cases hv : rightB d with
      | false =>
        have hf := Lib.hid (HBAD.out hv)
        go_wp2_with (go_at_call 19; refine hr.mono ?_; rintro e w2 ⟨rfl, hb2⟩; rw [hv])
        go_ret2
        rw [hf.out]
        exact ⟨rfl, hbel.trans (hb2.mono hbel.size)⟩
      | true =>
        have HV := Lib.hid hv
        go_wp2_with (go_at_call 19; refine hr.mono ?_; rintro e w2 ⟨rfl, hb2⟩; rw [hv]; have y0 := (hb2.cell (block_lt_of_cell z0)).trans z0; have y1 := (hb2.cell (block_lt_of_cell z1)).trans z1; have y2 := (hb2.cell (block_lt_of_cell z2)).trans z2; have hbq := hbel.trans (hb2.mono hbel.size))
        go_loop [6, 7] (fun t j => ∃ n : Nat, n ≤ d.labels.length ∧ j = .int .i64 n ∧ t = .string ⟨(sp ((labsT d).take n)).toArray⟩) (fun _ j => d.labels.length - (intOf j).toNat)
        case atStart => exact ⟨0, Nat.zero_le _, rfl, rfl⟩
        case round =>
          obtain ⟨n, hnn, rfl, rfl⟩ := hrel
          by_cases hnl : n < d.labels.length
          · obtain ⟨b0, o0, rfl, hx⟩ := HP0.out (by omega)
            have t0 := hx n _ (List.getElem?_eq_getElem hnl)
            have t1 := (hbq.cell (block_lt_of_cell t0)).trans t0
            have hst : sp ((labsT d).take (n + 1)) = sp ((labsT d).take n) ++ [32] ++ d.labels[n] ++ [58] := by
              rw [List.take_succ_eq_append_getElem (by simpa [labsT] using hnl), sp_snoc]
              simp [labsT]
            have HST := Lib.hid hst
            have hs1 := sp_pre hdS.out (labs_pre d n)
            have hs2 := hdS.out.1.2 _ (List.getElem_mem hnl)
            clear t0 hx hst HP0
            go_wp2
            go_round
            case rel => exact ⟨n + 1, by omega, by go_num, by rw [HST.out]; simp⟩
            case measure => simp [intOf]; omega
          · have hlab : (labsT d).take n = labsT d := List.take_of_length_le (by simp [labsT]; omega)
            have hsb := sp_pre hdS.out (labs_pre d n)
            have hpb : (printT (ds.take k)).length ≤ 100000000000000000 := by
              have h1 := printT_le (ds.take k) (fun x hx => HSH.out x (List.mem_of_mem_take hx))
              have h2 : (ds.take k).length * 2100000000001 ≤ 40000 * 2100000000001 := Nat.mul_le_mul_right _ (by rw [List.length_take]; omega)
              omega
            have HPB := Lib.hid hpb
            rw [hlab] at hsb ⊢
            clear hlab hpb HP0
            by_cases hw0 : d.word = []
            · have he : d.word.isEmpty = true := by rw [hw0]; rfl
              have hwi : sp (labsT d) = sp (labsT d ++ wordI d ++ d.args.take 0) := by simp [wordI, hw0]
              have HWI := Lib.hid hwi
              clear hwi hw0
              go_wp2
              go_loop [6, 8] (fun t j => ∃ m : Nat, m ≤ d.args.length ∧ j = .int .i64 m ∧ t = .string ⟨(sp (labsT d ++ wordI d ++ d.args.take m)).toArray⟩) (fun _ j => d.args.length - (intOf j).toNat)
              case atStart => exact ⟨0, Nat.zero_le _, rfl, by rw [← HWI.out]; try simp⟩
              case round =>
                obtain ⟨m, hm, rfl, rfl⟩ := hrel
                have hs3 := sp_pre hdS.out (args_pre d m)
                by_cases hml : m < d.args.length
                · obtain ⟨b2, o2, rfl, hx⟩ := HP2.out (by omega)
                  have t0 := hx m _ (List.getElem?_eq_getElem hml)
                  have t1 := (hbq.cell (block_lt_of_cell t0)).trans t0
                  have hs2 := hdS.out.2.2.2 _ (List.getElem_mem hml)
                  have hst : sp (labsT d ++ wordI d ++ d.args.take (m + 1)) = sp (labsT d ++ wordI d ++ d.args.take m) ++ [32] ++ d.args[m] := by
                    rw [List.take_succ_eq_append_getElem hml, ← List.append_assoc, sp_snoc]
                  obtain ⟨T, hT⟩ : ∃ T : Str, sp (labsT d ++ wordI d ++ d.args.take m) = T := ⟨_, rfl⟩
                  rw [hT] at hs3 hst ⊢
                  have HST := Lib.hid hst
                  clear t0 hx hst HP2 hT
                  go_wp2
                  go_round
                  case rel => exact ⟨m + 1, by omega, by go_num, by rw [HST.out]; try simp⟩
                  case measure => simp [intOf]; omega
                · have hit : labsT d ++ wordI d ++ d.args.take m = itemsB d := by
                    unfold itemsB
                    rw [List.take_of_length_le (by omega)]
                  rw [hit] at hs3 ⊢
                  have hpb := HPB.out
                  have htx : (sp (itemsB d)).drop 1 = textB d := rfl
                  have htb := textB_le hdS.out
                  clear hit
                  cases hem : (sp (itemsB d)).isEmpty with
                  | true =>
                    have htn : sp (itemsB d) = textB d := by
                      have := List.isEmpty_iff.1 hem
                      unfold textB
                      rw [this]
                      rfl
                    have HTN := Lib.hid htn
                    clear htx htn
                    go_wp2
                    go_roundw
                    case rel => exact ⟨k + 1, by omega, by go_num, by rw [HTK.out, ← HTN.out]; simp, fun j hj h => (Nat.lt_or_ge j k).elim (fun h2 => HAL.out j h2 h) (fun h2 => by obtain rfl : j = k := (by omega); rw [HD.out]; exact HV.out), hbq⟩
                    case measure => simp [intOf]; omega
                  | false =>
                    have hpos : 0 < (sp (itemsB d)).length := by
                      rcases Nat.eq_zero_or_pos (sp (itemsB d)).length with h0 | h0
                      · rw [List.eq_nil_of_length_eq_zero h0] at hem
                        cases hem
                      · exact h0
                    have HTX := Lib.hid htx
                    clear htx
                    go_wp2
                    go_roundw
                    case rel => exact ⟨k + 1, by omega, by go_num, by rw [HTK.out, ← HTX.out]; simp, fun j hj h => (Nat.lt_or_ge j k).elim (fun h2 => HAL.out j h2 h) (fun h2 => by obtain rfl : j = k := (by omega); rw [HD.out]; exact HV.out), hbq⟩
                    case measure => simp [intOf]; omega
            · have he : d.word.isEmpty = false := by simp [hw0]
              have hwi : sp (labsT d) ++ [32] ++ d.word = sp (labsT d ++ wordI d ++ d.args.take 0) := by
                simp only [wordI, hw0, if_false, List.take_zero, List.append_nil]
                rw [sp_snoc]
              have HWI := Lib.hid hwi
              clear hwi hw0
              go_wp2
              go_loop [6, 8] (fun t j => ∃ m : Nat, m ≤ d.args.length ∧ j = .int .i64 m ∧ t = .string ⟨(sp (labsT d ++ wordI d ++ d.args.take m)).toArray⟩) (fun _ j => d.args.length - (intOf j).toNat)
              case atStart => exact ⟨0, Nat.zero_le _, rfl, by rw [← HWI.out]; try simp⟩
              case round =>
                obtain ⟨m, hm, rfl, rfl⟩ := hrel
                have hs3 := sp_pre hdS.out (args_pre d m)
                by_cases hml : m < d.args.length
                · obtain ⟨b2, o2, rfl, hx⟩ := HP2.out (by omega)
                  have t0 := hx m _ (List.getElem?_eq_getElem hml)
                  have t1 := (hbq.cell (block_lt_of_cell t0)).trans t0
                  have hs2 := hdS.out.2.2.2 _ (List.getElem_mem hml)
                  have hst : sp (labsT d ++ wordI d ++ d.args.take (m + 1)) = sp (labsT d ++ wordI d ++ d.args.take m) ++ [32] ++ d.args[m] := by
                    rw [List.take_succ_eq_append_getElem hml, ← List.append_assoc, sp_snoc]
                  obtain ⟨T, hT⟩ : ∃ T : Str, sp (labsT d ++ wordI d ++ d.args.take m) = T := ⟨_, rfl⟩
                  rw [hT] at hs3 hst ⊢
                  have HST := Lib.hid hst
                  clear t0 hx hst HP2 hT
                  go_wp2
                  go_round
                  case rel => exact ⟨m + 1, by omega, by go_num, by rw [HST.out]; try simp⟩
                  case measure => simp [intOf]; omega
                · have hit : labsT d ++ wordI d ++ d.args.take m = itemsB d := by
                    unfold itemsB
                    rw [List.take_of_length_le (by omega)]
                  rw [hit] at hs3 ⊢
                  have hpb := HPB.out
                  have htx : (sp (itemsB d)).drop 1 = textB d := rfl
                  have htb := textB_le hdS.out
                  clear hit
                  cases hem : (sp (itemsB d)).isEmpty with
                  | true =>
                    have htn : sp (itemsB d) = textB d := by
                      have := List.isEmpty_iff.1 hem
                      unfold textB
                      rw [this]
                      rfl
                    have HTN := Lib.hid htn
                    clear htx htn
                    go_wp2
                    go_roundw
                    case rel => exact ⟨k + 1, by omega, by go_num, by rw [HTK.out, ← HTN.out]; simp, fun j hj h => (Nat.lt_or_ge j k).elim (fun h2 => HAL.out j h2 h) (fun h2 => by obtain rfl : j = k := (by omega); rw [HD.out]; exact HV.out), hbq⟩
                    case measure => simp [intOf]; omega
                  | false =>
                    have hpos : 0 < (sp (itemsB d)).length := by
                      rcases Nat.eq_zero_or_pos (sp (itemsB d)).length with h0 | h0
                      · rw [List.eq_nil_of_length_eq_zero h0] at hem
                        cases hem
                      · exact h0
                    have HTX := Lib.hid htx
                    clear htx
                    go_wp2
                    go_roundw
                    case rel => exact ⟨k + 1, by omega, by go_num, by rw [HTK.out, ← HTX.out]; simp, fun j hj h => (Nat.lt_or_ge j k).elim (fun h2 => HAL.out j h2 h) (fun h2 => by obtain rfl : j = k := (by omega); rw [HD.out]; exact HV.out), hbq⟩
                    case measure => simp [intOf]; omega
    · have hR := Lib.hid (printR_good ds (fun j h => HAL.out j (by omega) h))
      have hkl : k = ds.length := by omega
      have hT : printT (ds.take k) = printT ds := by rw [List.take_of_length_le (by omega)]
      have HT := Lib.hid hT
      clear hT hkl HAL HA
      go_wp2
      go_ret2
      rw [hR.out, ← HT.out]
      exact ⟨rfl, hbel⟩
end
end Go.Proofs.YtdcpkeagkfchoaaDoor
