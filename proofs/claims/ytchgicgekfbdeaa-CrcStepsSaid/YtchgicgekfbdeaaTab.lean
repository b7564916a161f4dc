/- The table of sixteen. -/
import Derived.Test.YtchgicgekfbdeaaOut
import Derived.Below
import Derived.Deep.Cut
import Derived.Deep.CutRange
import Derived.Deep.RegionWith
import Derived.Laws.Tables
namespace Go.Proofs.Ytchgicgekfbdeaa
open Go.RowKit
set_option linter.unusedVariables false

/-- The table, its first k numbers there. -/
def tabV (k : Nat) : Array Value := ((List.range 16).map fun i => Value.int .u32 ((if i < k then stn 4 i else 0 : Nat) : Int)).toArray
theorem tabV_size (k : Nat) : (tabV k).size = 16 := by simp [tabV]
theorem tabV_get (k i : Nat) (h : i < 16) : (tabV k)[i]? = some (.int .u32 ((if i < k then stn 4 i else 0 : Nat) : Int)) := by
  simp [tabV, h]
theorem tabV_step (k : Nat) (h : k < 16) : (tabV k).setIfInBounds k (.int .u32 (stn 4 k : Nat)) = tabV (k + 1) := by
  apply Array.ext_getElem?
  intro i
  rw [Array.getElem?_setIfInBounds]
  by_cases hi : i < 16
  · rw [tabV_get (k + 1) i hi, tabV_size]
    by_cases e : k = i
    · subst e
      rw [if_pos rfl, if_pos h, if_pos (by omega)]
    · rw [if_neg e, tabV_get k i hi]
      by_cases hk : i < k
      · rw [if_pos hk, if_pos (by omega)]
      · rw [if_neg hk, if_neg (by omega)]
  · have n1 : (tabV k)[i]? = none := by simp [tabV, hi]
    have n2 : (tabV (k + 1))[i]? = none := by simp [tabV, hi]
    rw [if_neg (by omega), n1, n2]
theorem tabV_zero : tabV 0 = #[.int .u32 0, .int .u32 0, .int .u32 0, .int .u32 0, .int .u32 0, .int .u32 0, .int .u32 0, .int .u32 0, .int .u32 0, .int .u32 0, .int .u32 0, .int .u32 0, .int .u32 0, .int .u32 0, .int .u32 0, .int .u32 0] := rfl

set_option maxRecDepth 100000 in
set_option maxHeartbeats 1000000 in
theorem csteps_any (w : World) : Calls Try.prog 16 #[] w fun e w' => e = .returned (.agg (tabV 16)) ∧ Below w.heap.size w w' := by
  go_enter Try.func16, Try.ntmps16
  go_wp2
  go_loopw [3] (fun i wr => ∃ k : Nat, k ≤ 16 ∧ i = .int .i64 k ∧ wr.heap[w.heap.size + 1]? = some (.cells (tabV k) 38 (0, 0)) ∧ wr.heap[w.heap.size]? = some (.cells (tabV 0) 38 (0, 0)) ∧ Below w.heap.size w wr) (fun i _ => 16 - (intOf i).toNat)
  case atStart => exact ⟨0, by omega, rfl, heap_alloc2_new _ _ _, heap_alloc2_old _ _ _, ((Below.refl _ _).alloc (Nat.le_refl _) _).alloc (by simp) _⟩
  case round =>
    obtain ⟨k, hk, rfl, h1, h0, hb⟩ := hrel
    have H1 := Lib.hid h1
    have H0 := Lib.hid h0
    have HB := Lib.hid hb
    clear hb h0
    by_cases c : k < 16
    · have hc := (cell_of_row wr (w.heap.size + 1) k _ _ _ h1).trans (tabV_get k k c)
      rw [if_neg (Nat.lt_irrefl k)] at hc
      have hf := frozen_of_row wr (w.heap.size + 1) k _ _ h1
      clear h1
      have T := Lib.hid (cout_any k (by omega))
      go_wp2_with (go_at_call 18; refine (T.out _).mono ?_; rintro e w' ⟨rfl, rfl⟩)
      go_roundw
      case rel =>
        refine ⟨k + 1, by omega, by go_num, ?_, ?_, HB.out.setCell (by simp) _⟩
        · rw [← tabV_step k c]
          exact heap_setCell_same _ _ _ _ _ _ H1.out
        · rw [heap_setCell_other _ _ _ _ (by simp)]
          exact H0.out
      case measure => simp [intOf]; omega
    · obtain rfl : k = 16 := by omega
      clear h1
      go_upto_region 7 with (fail)
      apply wp_region_lit
      refine wpList_load_row rfl 38 _ rfl (w.heap.size + 1) rfl 38 (tabV 16) (0, 0) _ H1.out Try.underlying38 rfl rfl ?_
      refine wpList_store_row rfl 38 _ _ rfl w.heap.size (tabV 16) rfl rfl 38 (tabV 0) H0.out rfl rfl (by decide +kernel) ?_
      apply wpList_nil
      go_wp2
      refine bodyPost_ret (results_cell_row rfl _ _ w.heap.size 38 (tabV 16) (0, 0) _ rfl (setRow_heap _ _ _ _ _ _ H0.out) Try.underlying38 rfl rfl) rfl ⟨rfl, ?_⟩
      exact ⟨HB.out.os, HB.out.tape, HB.out.output, by rw [setRow_size]; exact HB.out.size, fun k hk => (setRow_other _ _ _ _ (by omega)).trans (HB.out.block k hk)⟩
end Go.Proofs.Ytchgicgekfbdeaa
