/- How an argument that holds the document's lines is opened, with its reach. -/
import Derived.Test.YtdcpkeagkfchoaaDoorLight
import Derived.Deep.Slices
import Derived.Deep.Strs
import Derived.Deep.Fields
import Derived.ChangeSame
import Derived.OpenShut
import Derived.SizedLaws
namespace Go.Proofs.YtdcpkeagkfchoaaDoor
open Go.RowKit Go.ChangeShapes Go.WideShapes Go.Deep T6
set_option linter.unusedVariables false
theorem list_ofS {α : Type} (P : Nat → α → Prop) : ∀ n : Nat, (∀ i, i < n → ∃ a, P i a) → ∃ l : List α, l.length = n ∧ ∀ i a, l[i]? = some a → P i a
  | 0, _ => ⟨[], rfl, fun i a h => by simp at h⟩
  | n + 1, h => by
    obtain ⟨l, hl, hp⟩ := list_ofS P n (fun i hi => h i (by omega))
    obtain ⟨a, ha⟩ := h n (by omega)
    refine ⟨l ++ [a], by simp [hl], fun i b hb => ?_⟩
    rcases Nat.lt_or_ge i n with hi | hi
    · rw [List.getElem?_append_left (by omega)] at hb
      exact hp i b hb
    · rw [List.getElem?_append_right (by omega)] at hb
      have hi2 : i - l.length = 0 := by
        have := (List.getElem?_eq_some_iff.1 hb).1
        simp at this
        omega
      rw [hi2] at hb
      obtain rfl : a = b := by simpa using hb
      rw [show i = n by omega]
      exact ha
section
variable {H : Type} {P : Program}
theorem weights_all {e : TypeId} : ∀ {l : List (DataW H)} {d : DataW H}, d ∈ l → ∀ n ∈ d.weights P e, n ∈ DataW.weightsAll P e l
  | x :: l, d, hd, n, hn => by
    simp only [DataW.weightsAll, List.mem_append]
    rcases List.mem_cons.1 hd with rfl | hd
    · exact .inl hn
    · exact .inr (weights_all hd n hn)
end
section
variable {H : Type} {enc : TypeId × Value → H} {w : World} {base : Nat} {held : Bool}
theorem strs_of {fuel : Nat} {u : Value} {x : DataW H × List MemPlace} (h : DataW.trod enc Tryd.prog w base (fun _ => true) held fuel 41 [u] = some x) (hz : ∀ n ∈ x.1.weights Tryd.prog 41, n ≤ reachBytes) :
    ∃ xs : List Str, StrsAt w u xs ∧ xs.length ≤ reachBytes ∧ ∀ s ∈ xs, s.length ≤ reachBytes := by
  rcases open_strs Tryd.underlying41 Tryd.underlying9 (by kernel_rfl) h with ⟨hcs, _⟩ | ⟨a, len, cap, m, Sx, hcs, hb, hl, hm, hmm, hx, hi⟩
  · obtain rfl : u = .slice none 0 0 := by simpa using hcs
    exact ⟨[], StrsAt.nil _ _, Nat.zero_le _, fun s hs => by simp at hs⟩
  · obtain rfl : u = .slice (some a) len cap := by simpa using hcs
    have hmc : m = cap := by simpa using hmm
    rw [hx] at hz
    simp only [DataW.weights, Tryd.underlying41, List.length_map, List.length_range] at hz
    have b1 : Tryd.prog.bytesOf 9 = 16 := by kernel_rfl
    have hz0 := hz _ List.mem_cons_self
    rw [b1] at hz0
    refine ⟨(List.range len).map (fun i => (Sx i).data.toList), ⟨some a, cap, by simp, fun h0 => ?_⟩, by simp; omega, fun s hs => ?_⟩
    · simp only [List.length_map, List.length_range] at h0
      have h00 := (hi 0 (by omega)).1
      have hsp : a.spot = none := by
        have e := World.cell?_spot h00
        simpa [Addr.add] using e
      obtain ⟨b, o, sp⟩ := a
      obtain rfl : sp = none := hsp
      refine ⟨b, o, rfl, fun j s hj => ?_⟩
      simp only [List.getElem?_map, Option.map_eq_some_iff] at hj
      obtain ⟨i, hi2, rfl⟩ := hj
      have hil := (List.getElem?_eq_some_iff.1 hi2)
      obtain ⟨hlt, he⟩ := hil
      simp only [List.length_range] at hlt
      rw [List.getElem_range] at he
      subst he
      have := (hi j (by omega)).1
      rw [addr_add] at this
      simpa using this
    · simp only [List.mem_map, List.mem_range] at hs
      obtain ⟨i, hil, rfl⟩ := hs
      refine hz _ (List.mem_cons_of_mem _ (List.mem_append.2 (.inl ?_)))
      refine weights_all (d := .lit (.string (Sx i).data.toList)) (List.mem_map.2 ⟨i, List.mem_range.2 hil, rfl⟩) _ ?_
      simp [DataW.weights]
set_option maxRecDepth 100000 in
theorem line_of {fuel : Nat} {cs : List Value} {x : DataW H × List MemPlace} (h : DataW.trod enc Tryd.prog w base (fun _ => true) held fuel 45 cs = some x) (hl : cs.length = 3) (hz : ∀ n ∈ x.1.weights Tryd.prog 45, n ≤ reachBytes) :
    ∃ (d : LineD) (c0 c2 : Value), cs = [c0, .string ⟨d.word.toArray⟩, c2] ∧ StrsAt w c0 d.labels ∧ StrsAt w c2 d.args ∧ d.word.length ≤ reachBytes ∧ (d.labels.length ≤ reachBytes ∧ ∀ x ∈ d.labels, x.length ≤ reachBytes) ∧ (d.args.length ≤ reachBytes ∧ ∀ x ∈ d.args, x.length ≤ reachBytes) := by
  obtain ⟨y0, y1, y2, n, rfl, _, t0, t1, t2⟩ := trod_struct3 Tryd.underlying45 h
  match cs, hl with
  | [c0, c1, c2], _ =>
    rw [show Tryd.prog.cellsOf 41 = 1 by kernel_rfl] at t0 t2
    rw [show Tryd.prog.cellsOf 9 = 1 by kernel_rfl] at t1
    simp only [DataW.weights, Tryd.underlying45, DataW.weightsEach, List.append_nil, List.map_cons, List.map_nil] at hz
    obtain ⟨l0, h0, r0, s0⟩ := strs_of (u := c0) t0 (fun n hn => hz n (by simp [hn]))
    obtain ⟨l2, h2, r2, s2⟩ := strs_of (u := c2) t2 (fun n hn => hz n (by simp [hn]))
    obtain ⟨s, e1, e2, e3⟩ := DataW.trod_string Tryd.underlying9 t1
    obtain rfl : c1 = .string s := by simpa using e1
    obtain ⟨wd, rfl⟩ : ∃ wd : List UInt8, s = ⟨wd.toArray⟩ := ⟨s.data.toList, by cases s; simp⟩
    refine ⟨⟨l0, wd, l2⟩, c0, c2, rfl, h0, h2, ?_, ⟨r0, s0⟩, r2, s2⟩
    refine hz _ ?_
    rw [e2]
    simp [DataW.weights]
set_option maxRecDepth 100000 in
theorem lines_of {fuel : Nat} {A : Option Addr} {l c : Nat} {x : DataW H × List MemPlace} (h : DataW.trod enc Tryd.prog w base (fun _ => true) held fuel 27 [.slice A l c] = some x) (hz : ∀ n ∈ x.1.weights Tryd.prog 27, n ≤ reachBytes) :
    ∃ ds : List LineD, LinesAt w (.slice A l c) ds ∧ InReach ds := by
  have cs0 : Tryd.prog.cellsOf 45 = 3 := by kernel_rfl
  rcases open_slice Tryd.underlying27 h with ⟨hcs, _⟩ | ⟨a, len, cap, m, n, D, Pl, hcs, hb, hl, hm, hmm, hx, hi⟩
  · obtain ⟨rfl, rfl, rfl⟩ : A = none ∧ l = 0 ∧ c = 0 := by simpa using hcs
    exact ⟨[], LinesAt.nil _ _, Nat.zero_le _, fun d hd => by simp at hd⟩
  · obtain ⟨rfl, rfl, rfl⟩ : A = some a ∧ l = len ∧ c = cap := by simpa using hcs
    have hmc : m = c := by simpa using hmm
    rw [cs0] at hi
    rw [hx] at hz
    simp only [DataW.weights, Tryd.underlying27, List.length_map, List.length_range] at hz
    have b1 : Tryd.prog.bytesOf 45 = 64 := by kernel_rfl
    have hz0 := hz _ List.mem_cons_self
    rw [b1] at hz0
    obtain ⟨ds, hal, hap⟩ := list_ofS (fun i (d : LineD) => ∃ c0 c2, (∀ j u, [c0, Value.string ⟨d.word.toArray⟩, c2][j]? = some u → w.cell? ((a.add (i * 3)).add j) = some u) ∧ StrsAt w c0 d.labels ∧ StrsAt w c2 d.args ∧ d.word.length ≤ reachBytes ∧ (d.labels.length ≤ reachBytes ∧ ∀ x ∈ d.labels, x.length ≤ reachBytes) ∧ (d.args.length ≤ reachBytes ∧ ∀ x ∈ d.args, x.length ≤ reachBytes)) l (fun i hil => by
      obtain ⟨cs', hc', ht⟩ := hi i (by omega)
      obtain ⟨_, hcl, hat⟩ := World.cells?_some hc'
      obtain ⟨d, c0, c2, rfl, h0, h2, h3⟩ := line_of ht hcl (fun n hn => hz n (List.mem_cons_of_mem _ (List.mem_append.2 (.inl (weights_all (d := D i) (List.mem_map.2 ⟨i, List.mem_range.2 hil, rfl⟩) _ hn)))))
      refine ⟨d, c0, c2, fun j u hu => ?_, h0, h2, h3⟩
      have hj : j < 3 := (List.getElem?_eq_some_iff.1 hu).1
      rw [hat j hj]
      exact hu)
    refine ⟨ds, ⟨some a, c, by rw [hal], fun h0 => ?_⟩, by unfold reachBytes at hz0; omega, fun d hd => ?_⟩
    · obtain ⟨d0, h00⟩ : ∃ d, ds[0]? = some d := ⟨_, List.getElem?_eq_getElem h0⟩
      obtain ⟨c0, c2, hc, _⟩ := hap 0 d0 h00
      have hsp : a.spot = none := by
        have e := World.cell?_spot (hc 0 _ rfl)
        simpa [Addr.add] using e
      obtain ⟨b, o, sp⟩ := a
      obtain rfl : sp = none := hsp
      refine ⟨b, o, rfl, fun k d hk => ?_⟩
      obtain ⟨c0, c2, hc, h0, h2, _⟩ := hap k d hk
      simp only [addr_add] at hc
      exact ⟨c0, c2, hc 0 _ rfl, hc 1 _ rfl, hc 2 _ rfl, h0, h2⟩
    · obtain ⟨k, hk⟩ := List.getElem?_of_mem hd
      obtain ⟨c0, c2, hc, h0, h2, h3⟩ := hap k d hk
      exact h3
end
end Go.Proofs.YtdcpkeagkfchoaaDoor
