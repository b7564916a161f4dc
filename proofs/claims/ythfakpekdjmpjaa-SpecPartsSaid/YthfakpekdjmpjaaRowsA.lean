/- Lists of rows that came in, as arguments of a law. -/
import Derived.Test.YthfakpekdjmpjaaRowL
import Derived.ChangeSame
import Derived.Deep.Slices
import Derived.Deep.Strs
namespace Go.Proofs.Ythfakpekdjmpjaa
open Go.ChangeShapes Go.WideShapes Go.ChangeAt Go.RowKit
set_option linter.unusedVariables false
set_option linter.unusedSimpArgs false

theorem bytesRow : Try.prog.bytesOf 74 = 24 := by kernel_rfl
theorem cellsRow : Try.prog.cellsOf 74 = 1 := by kernel_rfl
theorem cellsVals : Try.prog.cellsOf 70 = 1 := by kernel_rfl
/-- What is known of a row that came in. -/
structure InRow (vs : List V) : Prop where
  len : vs.length * 40 ≤ 140737488351232
  txt : ∀ v ∈ vs, v.s.size ≤ 140737488351232
  num : ∀ v ∈ vs, -9223372036854775808 ≤ v.i ∧ v.i < 9223372036854775808
theorem one_weight {H : Type} {d : DataW H} {t : TypeId} (hw : ∀ x ∈ d.weights Try.prog t, x ≤ reachBytes) : (DataW.weightsEach Try.prog [t] [d]).all (· ≤ reachBytes) = true := by
  rw [List.all_eq_true]
  intro x hx
  simp [DataW.weightsEach] at hx
  simpa using hw x hx
set_option maxRecDepth 100000 in
theorem row_open {H : Type} {enc : TypeId × Value → H} {W : World} {hh : Bool} {n : Nat} {cs : List Value} {d : DataW H} {ps : List MemPlace} (hw : ∀ x ∈ d.weights Try.prog 74, x ≤ reachBytes) (ht : DataW.trod enc Try.prog W 0 (fun _ => true) hh n 74 cs = some (d, ps)) :
    ∃ u vs, cs = [u] ∧ RowIs W u vs ∧ InRow vs := by
  obtain ⟨y0, m, hx, hl, h0⟩ := trod_struct1 Try.underlying74 ht
  rw [cellsRow] at hl
  match cs, hl with
  | [u], _ =>
    simp only [cellsVals, List.drop_zero, List.take_succ_cons, List.take_zero] at h0
    injection hx with hx1 hx2
    subst hx1
    have hwe : ∀ x ∈ y0.1.weights Try.prog 70, x ≤ reachBytes := by
      intro x hxm
      refine hw x ?_
      have := DataW.weights_mem_each (P := Try.prog) (ts := [70]) (ds := [y0.1]) (j := 0) rfl rfl x hxm
      unfold DataW.weights
      rw [Try.underlying74]
      exact this
    have hform : ∃ a len cap, u = .slice a len cap := by
      rcases Deep.open_slice Try.underlying70 h0 with ⟨hcs, _⟩ | ⟨x, l, c, _, _, _, _, hcs, _⟩
      · simp at hcs; exact ⟨_, _, _, hcs⟩
      · simp at hcs; exact ⟨_, _, _, hcs⟩
    obtain ⟨a, len, cap, rfl⟩ := hform
    obtain ⟨xs, h1, h2, h3, h4, h5, h6⟩ := vals_argB (a := a) (len := len) (cap := cap) h0 (one_weight hwe) (j := 0) rfl rfl
    subst h1
    exact ⟨_, xs, rfl, ⟨a, cap, rfl, h2, h3⟩, ⟨h4, h5, h6⟩⟩
set_option maxRecDepth 100000 in
theorem rows_arg {H : Type} {enc : TypeId × Value → H} {W : World} {fuel : Nat} {a : Option Addr} {len cap : Nat} {d : DataW H} {p : List MemPlace} {hh : Bool}
    (h : DataW.trod enc Try.prog W 0 (fun _ => true) hh fuel 66 (Value.slice a len cap).cells.toList = some (d, p)) (hw : ∀ x ∈ d.weights Try.prog 66, x ≤ reachBytes) :
    ∃ rs : List (List V), rs.length = len ∧ IsR W a rs ∧ (a = none → rs.length = 0 ∧ cap = 0) ∧ rs.length * 24 ≤ 140737488351232 ∧ ∀ r ∈ rs, InRow r := by
  rcases Deep.open_slice Try.underlying66 h with ⟨hcs, _⟩ | ⟨x, l, c, m, n, D, Pl, hcs, _, hl, hm, hmm, hdd, hel⟩
  · simp [Value.cells] at hcs
    obtain ⟨rfl, rfl, rfl⟩ := hcs
    exact ⟨[], rfl, .inl rfl, fun _ => ⟨rfl, rfl⟩, by simp, fun x hx => by simp at hx⟩
  · simp [Value.cells] at hcs
    obtain ⟨rfl, rfl, rfl⟩ := hcs
    have hmc : m = cap := by simpa using hmm
    subst hmc
    injection hdd with hdd _
    rw [hdd] at hw
    have hw := weighV_slice Try.underlying66 hw
    rw [bytesRow, List.length_map, List.length_range] at hw
    have hw1 := hw.1
    simp only [reachBytes] at hw1
    have hx : ∀ i, ∃ vs : List V, i < len → ∃ u, W.cells? 0 (x.add i) 1 = some [u] ∧ RowIs W u vs ∧ InRow vs := by
      intro i
      by_cases hi : i < len
      · obtain ⟨cs', h1, h2⟩ := hel i (by omega)
        rw [cellsRow, Nat.mul_one] at h1
        obtain ⟨u, vs, rfl, h3, h4⟩ := row_open (hw.2 (D i) (List.mem_map.2 ⟨i, List.mem_range.2 hi, rfl⟩)) h2
        exact ⟨vs, fun _ => ⟨u, h1, h3, h4⟩⟩
      · exact ⟨[], fun h => absurd h hi⟩
    obtain ⟨X, hX⟩ := Classical.axiomOfChoice hx
    have hlen : ((List.range len).map X).length = len := by simp
    refine ⟨(List.range len).map X, hlen, ?_, (fun e => by cases e), by rw [hlen]; omega, fun v hv => ?_⟩
    · by_cases h0 : len = 0
      · exact .inl (by rw [h0]; rfl)
      · obtain ⟨b, off, spot⟩ := x
        have hsp : spot = none := by
          obtain ⟨u, h3, _⟩ := hX 0 (by omega)
          have h3 := (World.cells?_some h3).2.2 0 (by omega)
          cases spot with
          | none => rfl
          | some s => simp [Addr.add, World.cell?] at h3; split at h3 <;> simp at h3
        subst hsp
        refine .inr ⟨b, off, rfl, fun i hi => ?_⟩
        rw [hlen] at hi
        obtain ⟨u, h3, h4, _⟩ := hX i hi
        have h3 := (World.cells?_some h3).2.2 0 (by omega)
        have e : ((List.range len).map X)[i]'(by rw [hlen]; exact hi) = X i := by simp
        rw [e]
        simp only [addr_off, Nat.add_zero] at h3
        exact ⟨u, h3, h4⟩
    · obtain ⟨i, hi, rfl⟩ := List.mem_map.1 hv
      obtain ⟨u, _, _, h5⟩ := hX i (List.mem_range.1 hi)
      exact h5

theorem slice_form {H : Type} {enc : TypeId × Value → H} {W : World} {hh : Bool} {n : Nat} {u : Value} {d : DataW H × List MemPlace} {t e : TypeId} (ht : Try.prog.underlying t = some (.slice e)) (h : DataW.trod enc Try.prog W 0 (fun _ => true) hh n t [u] = some d) : ∃ a len cap, u = .slice a len cap := by
  rcases Deep.open_slice ht h with ⟨hcs, _⟩ | ⟨x, l, c, _, _, _, _, hcs, _⟩
  · simp at hcs; exact ⟨_, _, _, hcs⟩
  · simp at hcs; exact ⟨_, _, _, hcs⟩
end Go.Proofs.Ythfakpekdjmpjaa
