/- What a bound on all that is read gives for one list of numbers, of values. -/
import Derived.Test.YthfakpekdjmpjaaRows
import Derived.Test.YthfakpekdjmpjaaIntL
import Derived.Test.YthfakpekdjmpjaaValL
namespace Go.Proofs.Ythfakpekdjmpjaa
open Go.ChangeShapes Go.WideShapes Go.ChangeAt Go.RowKit
set_option linter.unusedVariables false

theorem bulk_pos {H : Type} (d : DataW H) : 1 ≤ Rows.uptoBulk d := by
  cases d
  case lit l => cases l <;> simp [Rows.uptoBulk]
  all_goals simp [Rows.uptoBulk]
theorem bulk_in {H : Type} {d : DataW H} : ∀ {l : List (DataW H)}, d ∈ l → Rows.uptoBulk d ≤ Rows.uptoBulkAll l
  | x :: r, h => by
    simp only [Rows.uptoBulkAll]
    rcases List.mem_cons.1 h with rfl | h
    · omega
    · have := bulk_in h; omega
theorem bulk_many {H : Type} : ∀ (l : List (DataW H)), l.length ≤ Rows.uptoBulkAll l
  | [] => by simp
  | x :: r => by
    have := bulk_pos x
    have := bulk_many r
    simp only [Rows.uptoBulkAll, List.length_cons]
    omega
theorem bulk_list {H : Type} (a b : List (DataW H)) : a.length ≤ Rows.uptoBulk (.slice a b) := by
  have := bulk_many a
  simp only [Rows.uptoBulk]
  omega
theorem ints_bulk {H : Type} {enc : TypeId × Value → H} {W : World} {fuel : Nat} {a : Option Addr} {len cap : Nat} {d : DataW H} {p : List MemPlace} {hh : Bool}
    (h : DataW.trod enc Try.prog W 0 (fun _ => true) hh fuel 26 (Value.slice a len cap).cells.toList = some (d, p)) {ds : List (DataW H)} (hd : d ∈ ds) {n : Nat} (hn : Rows.uptoBulkAll ds ≤ n) : len ≤ n := by
  have h3 := bulk_in hd
  rcases open_ints Try.underlying26 Try.underlying3 cellsInt h with ⟨hcs, _⟩ | ⟨x, l, c, zs, hcs, _, hl, hm, hz, hx, hcell, hwz⟩
  · simp [Value.cells] at hcs
    omega
  · simp [Value.cells] at hcs
    obtain ⟨rfl, rfl, rfl⟩ := hcs
    injection hx with hx1 hx2
    subst hx1
    have h4 := bulk_list (H := H) (lits .i64 (zs.take len)) (lits .i64 (zs.drop len))
    simp only [lits, List.length_map, List.length_take] at h4
    simp only [lits] at h3
    have hz' : zs.length = cap := by simpa using hz
    omega
theorem vals_bulk {H : Type} {enc : TypeId × Value → H} {W : World} {fuel : Nat} {a : Option Addr} {len cap : Nat} {d : DataW H} {p : List MemPlace} {hh : Bool}
    (h : DataW.trod enc Try.prog W 0 (fun _ => true) hh fuel 70 (Value.slice a len cap).cells.toList = some (d, p)) {ds : List (DataW H)} (hd : d ∈ ds) {n : Nat} (hn : Rows.uptoBulkAll ds ≤ n) : len ≤ n := by
  have h3 := bulk_in hd
  rcases Deep.open_slice Try.underlying70 h with ⟨hcs, _⟩ | ⟨x, l, c, m, k, D, Pl, hcs, _, hl, hm, hmm, hdd, hel⟩
  · simp [Value.cells] at hcs
    omega
  · simp [Value.cells] at hcs
    obtain ⟨rfl, rfl, rfl⟩ := hcs
    injection hdd with hdd _
    subst hdd
    have h4 := bulk_list (H := H) ((List.range len).map D) ((List.range (m - len)).map fun j => D (len + j))
    rw [List.length_map, List.length_range] at h4
    omega
end Go.Proofs.Ythfakpekdjmpjaa
