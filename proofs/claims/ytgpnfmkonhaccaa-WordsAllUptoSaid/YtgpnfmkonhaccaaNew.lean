/- New lists, written out; Num. -/
import Derived.Test.YtgpnfmkonhaccaaValL
namespace Go.Proofs.Ytgpnfmkonhaccaa
open Go.Conc Go.RowKit
set_option linter.unusedVariables false
set_option linter.unusedSimpArgs false

theorem num_any (n : Int) (w : World) : Calls Try.prog 14 #[.int .i64 n] w fun e w' => e = .returned (.int .i64 n) ∧ w = w' := by
  go_enter Try.func14, Try.ntmps14
  go_wp2
  go_ret
  exact ⟨rfl, rfl⟩
/-- A new list, written out. -/
theorem isl_new (w : World) (L : List Int) (C : Array Value) (hC : (intCells L).toArray = C) : IsL (w.alloc (.cells C 3)) (some ⟨w.heap.size, 0, none⟩) L := by
  subst hC
  by_cases c : L = []
  · exact .inl c
  · refine .inr ⟨w.heap.size, 0, rfl, fun i hi => ?_⟩
    rw [Nat.zero_add, cell_of_row _ _ _ _ _ _ (heap_alloc_new w (.cells (intCells L).toArray 3))]
    simp [intCells, hi]
theorem isv_new (w : World) (L : List V) (C : Array Value) (hC : (rowV L).toArray = C) : IsV (w.alloc (.cells C 41)) (some ⟨w.heap.size, 0, none⟩) L := by
  subst hC
  by_cases c : L = []
  · exact .inl c
  · refine .inr ⟨w.heap.size, 0, rfl, IsV.of_cells fun j u hj => ?_⟩
    rw [addr_off, Nat.zero_add, cell_of_row _ _ _ _ _ _ (heap_alloc_new w (.cells (rowV L).toArray 41))]
    simpa using hj
end Go.Proofs.Ytgpnfmkonhaccaa
