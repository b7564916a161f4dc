/- Lists of texts that came in, as arguments of a law. -/
import Derived.Test.YthfakpekdjmpjaaOneL
import Derived.Deep.Strs
import Derived.Test.YthfakpekdjmpjaaBulk
namespace Go.Proofs.Ythfakpekdjmpjaa
open Go.ChangeShapes Go.WideShapes Go.ChangeAt Go.RowKit
set_option linter.unusedVariables false
set_option linter.unusedSimpArgs false

theorem cellsStrT : Try.prog.cellsOf 9 = 1 := by kernel_rfl
theorem bytesStrT : Try.prog.bytesOf 9 = 16 := by kernel_rfl
theorem texts_arg {H : Type} {enc : TypeId × Value → H} {W : World} {fuel : Nat} {a : Option Addr} {len cap : Nat} {d : DataW H} {p : List MemPlace} {hh : Bool}
    (h : DataW.trod enc Try.prog W 0 (fun _ => true) hh fuel 25 (Value.slice a len cap).cells.toList = some (d, p)) (hw : ∀ x ∈ d.weights Try.prog 25, x ≤ reachBytes) :
    ∃ xs : List ByteArray, xs.length = len ∧ IsT W a xs ∧ (a = none → xs.length = 0 ∧ cap = 0) ∧ xs.length * 16 ≤ 140737488351232 := by
  rcases Deep.open_strs Try.underlying25 Try.underlying9 cellsStrT h with ⟨hcs, _⟩ | ⟨x, l, c, m, X, hcs, _, hl, hm, hmm, hdd, hel⟩
  · simp [Value.cells] at hcs
    obtain ⟨rfl, rfl, rfl⟩ := hcs
    exact ⟨[], rfl, .inl rfl, fun _ => ⟨rfl, rfl⟩, by simp⟩
  · simp [Value.cells] at hcs
    obtain ⟨rfl, rfl, rfl⟩ := hcs
    have hmc : m = cap := by simpa using hmm
    subst hmc
    injection hdd with hdd _
    rw [hdd] at hw
    have hw := weighV_slice Try.underlying25 hw
    rw [bytesStrT, List.length_map, List.length_range] at hw
    have hw1 := hw.1
    simp only [reachBytes] at hw1
    have hlen : ((List.range len).map X).length = len := by simp
    refine ⟨(List.range len).map X, hlen, ?_, (fun e => by cases e), by rw [hlen]; omega⟩
    by_cases h0 : len = 0
    · exact .inl (by rw [h0]; rfl)
    · obtain ⟨b, off, spot⟩ := x
      have hsp : spot = none := by
        have h3 := (hel 0 (by omega)).1
        cases spot with
        | none => rfl
        | some s => simp [Addr.add, World.cell?] at h3; split at h3 <;> simp at h3
      subst hsp
      refine .inr ⟨b, off, rfl, fun i hi => ?_⟩
      rw [hlen] at hi
      have h3 := (hel i (by omega)).1
      have e : ((List.range len).map X)[i]'(by rw [hlen]; exact hi) = X i := by simp
      rw [e]
      simp only [addr_off] at h3
      exact h3
theorem texts_bulk {H : Type} {enc : TypeId × Value → H} {W : World} {fuel : Nat} {a : Option Addr} {len cap : Nat} {d : DataW H} {p : List MemPlace} {hh : Bool}
    (h : DataW.trod enc Try.prog W 0 (fun _ => true) hh fuel 25 (Value.slice a len cap).cells.toList = some (d, p)) {ds : List (DataW H)} (hd : d ∈ ds) {n : Nat} (hn : Rows.uptoBulkAll ds ≤ n) : len ≤ n := by
  have h3 := bulk_in hd
  rcases Deep.open_slice Try.underlying25 h with ⟨hcs, _⟩ | ⟨x, l, c, m, k, D, Pl, hcs, _, hl, hm, hmm, hdd, hel⟩
  · simp [Value.cells] at hcs
    omega
  · simp [Value.cells] at hcs
    obtain ⟨rfl, rfl, rfl⟩ := hcs
    injection hdd with hdd _
    subst hdd
    have h4 := bulk_list (H := H) ((List.range len).map D) ((List.range (m - len)).map fun j => D (len + j))
    rw [List.length_map, List.length_range] at h4
    omega
end Go.Proofs.Ythfakpekdjmpjaa
