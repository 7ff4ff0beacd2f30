/- The walk of the law that each byte comes in once. -/
import Derived.Test.YtadaiomlildhjaaPnil
import Derived.Test.YtadaiomlildhjaaBytes
import Derived.Deep.Slices
import Derived.Deep.Fields
import Derived.ChangeSame
namespace Go.Proofs.Ytadaiomlildhjaa
open Go.RowKit Go.Conc
set_option linter.unusedVariables false

/-- What stands at the first loop's head. -/
def OnceAt (w0 : World) (B g c : Nat) (xs : List UInt8) (k : Nat) (w : World) : Prop := ∃ ov, IsPort w B g c (xs.drop k) (xs.take k) ov 0 false ∧ Below w0.heap.size w0 w
theorem put_next (xs : List UInt8) (k : Nat) (x : UInt8) (hx : xs[k]? = some x) (hl : xs.length ≤ 1000) : putB (xs.take k) ((x.toNat : Int) + 512) = xs.take (k + 1) := by
  have hk : k < xs.length := (List.getElem?_eq_some_iff.1 hx).1
  have h1 := x.toNat_lt
  unfold putB
  rw [if_pos (by rw [List.length_take]; omega), List.take_add_one, hx]
  have e : ((x.toNat : Int) + 512) % 256 = x.toNat := by omega
  rw [e]
  simp [byteOf]
theorem drop_at (xs : List UInt8) (k : Nat) (x : UInt8) (hx : xs[k]? = some x) : xs.drop k = x :: xs.drop (k + 1) := by
  obtain ⟨h, rfl⟩ := List.getElem?_eq_some_iff.1 hx
  exact List.drop_eq_getElem_cons h
theorem in_end (B g c : Nat) (outs : List UInt8) (ov : Value) (code : Int) (ht : Bool) (w : World) (h : IsPort w B g c [] outs ov code ht) :
    Calls Try.prog 10 #[.pointer (some ⟨g, 0, none⟩)] w fun e w' => e = .returned (.int .u32 4294967295) ∧ IsPort w' B g c [] outs ov code ht ∧ Only (· = c) w w' := in_none B g c outs ov code ht w h
theorem once_long (A : Option Addr) (l c0 : Nat) (more : Int) (w : World) (h60 : (1000 : Int) < l) (hm : l ≤ 9223372036854775807) :
    Calls Try.prog 5 #[.slice A l c0, .int .i64 more] w (Yes w) := by
  go_enter Try.func5, Try.ntmps5
  go_wp2_with fail
  refine (knows_any _).mono ?_
  rintro e w1 ⟨rfl, hb1⟩
  go_wp2_with fail
  go_ret
  exact ⟨rfl, hb1⟩
/-- What stands at the second loop's head. -/
def OutAt (w0 : World) (B g c : Nat) (j : Int) (w : World) : Prop := ∃ (outs : List UInt8) (ov : Value), Hid ((outs.length : Int) = min j 65536) ∧ IsPort w B g c [] outs ov 0 false ∧ Below w0.heap.size w0 w
theorem put_len (outs : List UInt8) (j : Int) {v : Int} (h : Hid ((outs.length : Int) = min j 65536)) : Hid (((putB outs v).length : Int) = min (j + 1) 65536) := by
  have h1 := h.out
  refine Lib.hid ?_
  unfold putB
  split
  · rw [List.length_append]
    simp only [List.length_cons, List.length_nil]
    omega
  · omega
/-- What is told of New, of whatever many bytes. -/
def NewAny (n : Nat) (w : World) (e : Ending) (w' : World) : Prop := ∃ p, ∃ ef : Int, e = .returned (.tuple #[.pointer p, .int .i64 ef]) ∧ 0 ≤ ef ∧ ef ≤ 1 ∧ (ef = 0 ↔ n ≤ 65536) ∧ Below w.heap.size w w'
theorem new_any (A : Option Addr) (xs : List UInt8) (c0 : Nat) (w : World) (hx : Holds w A xs) (hm : xs.length ≤ 9223372036854775807) :
    Calls Try.prog 7 #[.slice A xs.length c0] w (NewAny xs.length w) := by
  by_cases h : xs.length ≤ 65536
  · refine (new_yes A xs c0 w hx h).mono ?_
    rintro e w' ⟨g, c, rfl, _, hb⟩
    exact ⟨_, 0, rfl, by omega, by omega, by omega, hb⟩
  · refine (new_many A xs.length c0 w (by omega) hm).mono ?_
    rintro e w' ⟨rfl, rfl⟩
    exact ⟨_, 1, rfl, by omega, by omega, by omega, Below.refl _ _⟩
theorem tmod3_bd (s : Int) : -3 < s.tmod 3 ∧ s.tmod 3 < 3 := by
  have h := Int.tmod_add_mul_tdiv s 3
  have h1 := Int.tmod_lt_of_pos s (show (0 : Int) < 3 by decide)
  have h2 := Int.neg_tmod s 3
  have h3 := Int.tmod_lt_of_pos (-s) (show (0 : Int) < 3 by decide)
  omega
set_option maxRecDepth 100000 in
set_option maxHeartbeats 4000000 in
theorem once_short (A : Option Addr) (xs : List UInt8) (c0 : Nat) (more : Int) (m0 : -9223372036854775808 ≤ more) (m1 : more ≤ 9223372036854775807) (w : World) (hl : xs.length ≤ 1000) (hx : Holds w A xs) :
    Calls Try.prog 5 #[.slice A xs.length c0, .int .i64 more] w (Yes w) := by
  have hli : (xs.length : Int) ≤ 1000 := by omega
  go_enter Try.func5, Try.ntmps5
  go_wp2_with fail
  refine (knows_any _).mono ?_
  rintro e w1 ⟨rfl, hb1⟩
  go_wp2_with fail
  refine (new_yes A xs c0 _ (hx.below hb1) (by omega)).mono ?_
  rintro e w2 ⟨g, c, rfl, hp2, hb2⟩
  have t2 := hb1.trans (hb2.mono hb1.size)
  obtain ⟨B, hB⟩ : ∃ B, w1.heap.size = B := ⟨_, rfl⟩
  have hBs : w.heap.size ≤ B := by rw [← hB]; exact hb1.size
  rw [hB] at hp2
  have HB := Lib.hid hB
  clear hB hb2
  go_upto_block 0 with (go_at_call 9; refine (num_any _ (by decide) (by decide) _).mono ?_; rintro e w' ⟨rfl, rfl⟩)
  go_cut [7] from 8 to 56 (fun i wx => OnceAt w B g c xs xs.length wx)
  case first =>
    go_wp2_with fail
    go_loopw [7] (fun i wr => ∃ k : Nat, k ≤ xs.length ∧ i = .int .i64 k ∧ OnceAt w B g c xs k wr) (fun i _ => xs.length - (intOf i).toNat)
    case atStart => exact ⟨0, Nat.zero_le _, rfl, _, hp2, t2⟩
    case round =>
      obtain ⟨k, hk, rfl, ov, hp, hbl⟩ := hrel
      by_cases hlt : k < xs.length
      · have hq := List.getElem?_eq_getElem hlt
        generalize xs[k] = x at hq
        rw [drop_at xs k x hq] at hp
        have hx1 := x.toNat_lt
        obtain ⟨ib, io, rfl, hcell⟩ := (hx.below hbl).flat (by omega)
        have q1 := hcell k x hq
        have HQ := Lib.hid hq
        clear hq hcell
        go_wp2_with fail
        refine (in_some B g c x _ _ ov 0 false _ hp).mono ?_
        rintro e w3 ⟨rfl, hp3, hk3⟩
        have t3 := hp.step_c hBs hbl hk3
        have hle := left_any hp3
        rw [show (((xs.drop (k + 1)).length : Nat) : Int) = (xs.length : Int) - 1 - k by rw [List.length_drop]; omega] at hle
        have HLE := Lib.hid hle
        have q3 : w3.cell? ⟨ib, io + k, none⟩ = some (.int .u8 (x.toNat : Int)) := (hx.below t3).flat_at (by omega) HQ.out
        have hx2 : (x.toNat : Int) < 256 := by omega
        clear hx1
        go_wp2_with (first | (go_at_call 19; refine HLE.out.mono ?_; rintro e w' ⟨rfl, rfl⟩) | (go_at_call 12; refine (out_any _ (by omega) (by omega) hp3).mono ?_; rintro e w4 ⟨rfl, ov4, hp4, hk4, _⟩))
        go_roundw
        case rel =>
          rw [put_next xs k x HQ.out hl] at hp4
          exact ⟨k + 1, by omega, by go_num, ov4, hp4, hp3.step_o hBs t3 hk4⟩
        case measure => simp [intOf]; omega
      · have hkl : k = xs.length := by omega
        subst hkl
        go_wp2_with fail
        go_meet
        exact ⟨ov, hp, hbl⟩
  case rest =>
    obtain ⟨ov, hp, hbl⟩ := hcut
    rw [List.drop_length, List.take_length] at hp
    have cx0 := conv_holds wc.drew A xs _ c0 rfl (hx.below hbl.drew)
    go_upto_region 13 with fail
    go_cut [67] (fun s wx => s = .bool false ∧ IsPort wx B g c [] xs ov 0 false ∧ Below w.heap.size w wx)
    case first =>
      first | go_region_with (first | (go_at_call 16; refine (output_any hp.drew).mono ?_; rintro e w5 ⟨A5, rfl, ho5, hb5⟩; have t5 := hbl.drew.trans (hb5.mono hbl.drew.size); have cv5 := conv_holds w5 A5 xs _ xs.length rfl ho5.holds; have cx5 := conv_holds w5 A xs _ c0 rfl (hx.below t5); have hp5 := hp.drew.below hb5) | (go_at_call 10; refine (in_end B g c _ _ 0 false _ hp5).mono ?_; rintro e w6 ⟨rfl, hp6, hk6⟩; have t6 := hp5.step_c hBs t5 hk6)) | fail
      all_goals
        go_wp2_with fail
        go_meet
        exact ⟨rfl, hp6, t6⟩
    case rest =>
      obtain ⟨rfl, hp7, t7⟩ := hcut
      clear cx0 hbl hp hp2 t2 hb1 HB
      have hq := tmod3_bd more
      obtain ⟨hq0, hq1⟩ := hq
      go_upto_region 15 with fail
      go_cut [1] (fun s wx => ∃ m : Int, -1 ≤ m ∧ m ≤ 1 ∧ s = .int .i64 m ∧ wx = wc)
      case first =>
        go_wp2_with fail
        go_meet
        exact ⟨_, by omega, by omega, rfl, rfl⟩
      case rest =>
        obtain ⟨m, g0, g1, rfl, rfl⟩ := hcut
        obtain ⟨n, hn⟩ : ∃ n : Nat, (n : Int) = 65536 + m := ⟨(65536 + m).toNat, by omega⟩
        have hmk := make_bytes n (by omega) wc
        rw [hn] at hmk
        have hbk := (Below.refl wc.heap.size wc).alloc (Nat.le_refl _) (.cells (bv (List.replicate n 0)).toArray 5)
        have hho : Holds (wc.alloc (.cells (bv (List.replicate n 0)).toArray 5)) (some ⟨wc.heap.size, 0, none⟩) (List.replicate n 0) := fun _ => ⟨_, rfl, fun j u hj => by rw [addr_add, Nat.zero_add, (Blok.made wc 5 (bv (List.replicate n 0))).at_]; exact hj⟩
        have hnew := new_any (some ⟨wc.heap.size, 0, none⟩) (List.replicate n 0) n _ hho (by rw [List.length_replicate]; omega)
        rw [List.length_replicate] at hnew
        have hp8 := hp7.below hbk
        have t8 := t7.trans (hbk.mono t7.size)
        generalize wc.alloc (.cells (bv (List.replicate n 0)).toArray 5) = w8 at hmk hbk hho hnew hp8 t8
        have HNEW := Lib.hid hnew
        have HN := Lib.hid hn
        clear hnew hho hbk hn
        go_upto_region 16 with fail
        go_cut [10] (fun s wx => ∃ ef : Int, 0 ≤ ef ∧ ef ≤ 1 ∧ (ef = 0 ↔ m ≤ 0) ∧ s = .int .i64 ef ∧ IsPort wx B g c [] xs ov 0 false ∧ Below w.heap.size w wx)
        case first =>
          go_wp2_with fail
          refine HNEW.out.mono ?_
          rintro e w9 ⟨q, ef, rfl, e0, e1, hef, hb9⟩
          have HEF := Lib.hid hef
          clear hef
          go_wp2_with fail
          go_meet
          exact ⟨ef, e0, e1, by have h1 := HN.out; have h2 := HEF.out; omega, rfl, hp8.below hb9, t8.trans (hb9.mono t8.size)⟩
        case rest =>
          obtain ⟨ef, e0, e1, hef, rfl, hp9, t9⟩ := hcut
          have HEF := Lib.hid hef
          clear hef hp7 hp8 t7 t8
          go_wp2_with fail
          go_loopw [11] (fun i wr => ∃ (j : Int), i = .int .i64 j ∧ 0 ≤ j ∧ j ≤ 65536 + m ∧ OutAt w B g c j wr) (fun i _ => (65538 - intOf i).toNat)
          case atStart => exact ⟨_, rfl, by omega, by omega, xs, ov, Lib.hid (by omega), hp9, t9⟩
          case round =>
            obtain ⟨j, rfl, j0, j1, outs, ov, hol, hp, hbl⟩ := hrel
            by_cases hlt : j < 65536 + m
            · go_wp2_with (go_at_call 12; refine (out_any _ (by omega) (by omega) hp).mono ?_; rintro e w4 ⟨rfl, ov4, hp4, hk4, _⟩)
              go_roundw
              case rel => exact ⟨j + 1, rfl, by omega, by omega, _, ov4, put_len outs j hol, hp4, hp.step_o hBs hbl hk4⟩
              case measure => simp [intOf]; omega
            · have hj : j = 65536 + m := by omega
              subst hj
              clear hlt j1
              have hq := HEF.out
              have hcase : (m ≤ 0 ∧ ef = 0) ∨ (m = 1 ∧ ef = 1) := by omega
              clear hq HEF
              rcases hcase with ⟨hm, rfl⟩ | ⟨rfl, rfl⟩
              all_goals
                go_wp2_with (first | (go_at_call 9; refine (num_any _ (by omega) (by omega) _).mono ?_; rintro e w' ⟨rfl, rfl⟩) | (go_at_call 16; refine (output_any hp).mono ?_; rintro e w5 ⟨A5, rfl, ho5, hb5⟩))
                all_goals
                  go_ret
                  exact ⟨ret_bool (by rw [beq_iff_eq]; have := hol.out; omega), hbl.trans (hb5.mono hbl.size)⟩
theorem once_any (A : Option Addr) (xs : List UInt8) (c0 : Nat) (more : Int) (m0 : -9223372036854775808 ≤ more) (m1 : more ≤ 9223372036854775807) (w : World) (hm : xs.length ≤ maxLen) (hx : Holds w A xs) :
    Calls Try.prog 5 #[.slice A xs.length c0, .int .i64 more] w (Yes w) := by
  unfold maxLen at hm
  by_cases h : xs.length ≤ 1000
  · exact once_short A xs c0 more m0 m1 w h hx
  · exact once_long A xs.length c0 more w (by omega) (by omega)
end Go.Proofs.Ytadaiomlildhjaa
