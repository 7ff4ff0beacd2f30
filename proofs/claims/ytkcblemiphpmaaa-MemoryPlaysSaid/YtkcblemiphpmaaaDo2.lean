/- One act on both memories: Bytes, Put, and what is no act. -/
import Derived.Test.YtkcblemiphpmaaaDo
import Derived.Deep.DeepCutAuto
namespace Go.Proofs.Ytkcblemiphpmaaa
open Go.RowKit
set_option linter.unusedVariables false

set_option maxRecDepth 100000 in
set_option maxHeartbeats 1000000 in
theorem do_bytes (a : ActD) (g bb hb rg rb : Nat) (R : Option Addr) (rc : Nat) (bs : List UInt8) (hs : List (Int × Int)) (w0 w : World) (h : Both w w0.heap.size g bb hb rg rb R rc bs hs) (hbl : Below w0.heap.size w0 w) (ha : okAct w a) (hk : a.kind = 2) :
    Calls Try.prog 14 #[.pointer (some ⟨g, 0, none⟩), .pointer (some ⟨rg, 0, none⟩), .agg #[.int .i64 a.kind, .int .i64 a.n, .int .u32 a.at_, .int .u32 a.v, .slice a.A a.xs.length a.c]] w (Did w0 g bb hb rg rb R rc bs.length hs) := by
  obtain ⟨_, ⟨n0, n1⟩, ⟨a0, a1⟩, ⟨v0, v1⟩, _, _⟩ := ha
  have hbox : Below w.heap.size w (w.alloc (.cells #[.int .i64 2, .int .i64 a.n, .int .u32 a.at_, .int .u32 a.v, .slice a.A a.xs.length a.c] 39)) := (Below.refl _ _).alloc (Nat.le_refl _) _
  have h1 := h.below hbox
  have hB := Box.new w a 2
  have hx1 : bb < w.heap.size := h.mem.bytes.lt
  have hx2 : rb < w.heap.size := h.ref.bytes.lt
  have hsz := h.b3
  have hLl : (bytesA bs a.at_ a.n).length ≤ 1048576 := by
    unfold bytesA
    split
    · simp
    · rw [List.length_take, List.length_drop]
      have := h.mem.small
      omega
  generalize hL : bytesA bs a.at_ a.n = L at hLl
  have HL := Lib.hid hL
  clear hL
  rw [hk]
  clear hk
  go_enter Try.func14, Try.ntmps14
  go_wp2_with fail
  refine (bytes_any g bb hb bs hs a.at_ a.n a0 a1 _ h1.mem).mono ?_
  rw [HL.out]
  rintro e w1 ⟨A1, rfl, ho1, hb1⟩
  have h2 := h1.below hb1
  have p1 := hB.below hb1 hB.lt
  have p1d : Box w1.drew w.heap.size a 2 := p1
  have cv1 := conv_holds w1.drew A1 L _ L.length rfl ho1.holds
  have k1 := p1d.c1
  have k2 := p1d.c2
  have z1 := hb1.size
  have ho2 : (A1 = none ∧ L = []) ∨ ∃ B1, A1 = some ⟨B1, 0, none⟩ ∧ w.heap.size < B1 ∧ Blok w1 B1 5 (bv L) := by
    rcases ho1 with h0 | ⟨e1, e2⟩
    · exact .inl h0
    · exact .inr ⟨_, e1, by simp, e2⟩
  go_upto_region 10 with fail
  go_cut [83] (fun s wx => s = .bool false ∧ Below w1.heap.size w1 wx)
  case first =>
    go_region_with (go_at_call 23; refine (rbytes_any rg rb R rc bs hs a.at_ a.n a0 a1 _ h2.drew.ref).mono ?_; rw [HL.out]; rintro e w2 ⟨A2, c2, rfl, ho2, hb2⟩; have cv2 := conv_holds w2 A1 L _ L.length rfl (ho1.holds.below (w' := w2) (((Below.refl _ w1).drew).trans hb2)); have cv3 := conv_holds w2 A2 L _ c2 rfl (row_holds ho2 rfl))
    all_goals
      clear cv1 cv2 cv3
      go_wp2_with fail
      go_meet
      exact ⟨rfl, ((Below.refl _ w1).drew).trans hb2⟩
  case rest =>
    obtain ⟨rfl, hb2⟩ := hcut
    have h3 := h2.below hb2
    have hw2 := hb2.size
    have hbx := hbox.size
    have t3 := ((hbl.trans (hbox.mono hsz)).trans (hb1.mono (Nat.le_trans hsz hbx))).trans (hb2.mono (by omega))
    rcases ho2 with ⟨rfl, rfl⟩ | ⟨B1, rfl, hB1, hblk1⟩
    · go_wp2
      go_loop [12] (fun i => i = .int .i64 0) (fun _ => 0)
      case atStart => rfl
      case round =>
        subst hrel
        go_wp2
        go_ret
        exact ⟨rfl, bs, rfl, h3, t3⟩
    · have hblk2 := hblk1.below hb2 hblk1.lt
      go_wp2
      go_loopw [12] (fun i wr => ∃ (k : Nat) (L' : List UInt8), k ≤ L.length ∧ k ≤ 50 ∧ L'.length = L.length ∧ i = .int .i64 k ∧ Blok wr B1 5 (bv L') ∧ Both wr w0.heap.size g bb hb rg rb R rc bs hs ∧ Below w0.heap.size w0 wr) (fun i _ => 50 - (intOf i).toNat)
      case atStart => exact ⟨0, L, by omega, by omega, rfl, rfl, hblk2, h3, t3⟩
      case round =>
        obtain ⟨k, L', hk1, hk2, hL', rfl, hbk, hbo, hbe⟩ := hrel
        have HL' := Lib.hid hL'
        clear hL'
        by_cases hlt : k < L.length ∧ k < 50
        · obtain ⟨q1, q2⟩ := hlt
          obtain ⟨x, x0, x1, hx⟩ := byteOf_get L' k (by rw [HL'.out]; exact q1)
          have c1 : wr.cell? ⟨B1, k, none⟩ = some (.int .u8 x) := (hbk.at_ k).trans hx
          have f1 := hbk.free k
          clear hx
          go_wp2
          go_roundw
          case rel =>
            have hbe2 := byteOf_toNat ((x + 1) % 256) (by omega) (by omega)
            have hset := hbk.set_ k (.int .u8 ((x + 1) % 256))
            rw [← hbe2, bv_set] at hset
            have hg2 := grown_set wr B1 k (.int .u8 ((byteOf ((x + 1) % 256)).toNat : Int))
            have hbo2 := hbo.only hbk hg2 (by omega) (by omega)
            rw [hbe2] at hset hg2 hbo2
            exact ⟨k + 1, L'.set k (byteOf ((x + 1) % 256)), by omega, by omega, by simpa using HL'.out, by go_num, hset, hbo2, below_of_only hbe hg2 (by have := hbo.b3; exact this) (by omega)⟩
          case measure => simp [intOf]; omega
        · by_cases q1 : k < L.length
          · have q2 : 50 ≤ k := by omega
            clear hlt
            go_wp2
            go_ret
            exact ⟨rfl, bs, rfl, hbo, hbe⟩
          · have q2 : L.length ≤ k := by omega
            clear hlt
            go_wp2
            go_ret
            exact ⟨rfl, bs, rfl, hbo, hbe⟩
end Go.Proofs.Ytkcblemiphpmaaa
