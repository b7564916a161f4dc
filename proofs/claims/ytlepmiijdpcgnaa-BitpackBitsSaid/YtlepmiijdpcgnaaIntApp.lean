/- A number more at the end of a list of one's own. -/
import Derived.Test.YtlepmiijdpcgnaaIntL
import Derived.Deep.RegionLaw
namespace Go.Proofs.Ytlepmiijdpcgnaa
open Go.RowKit
set_option linter.unusedVariables false

theorem OwnI.alloc {base : Nat} {w : World} {ad : Option Addr} {cap : Nat} {xs : List Int} (h : OwnI base w ad cap xs) (ob : Obj) : OwnI base (w.alloc ob) ad cap xs := own_same h fun k _ hk => Below.heap_alloc w ob k hk
/-- A number is put in. -/
theorem wp_int {a w : World} {ad : Option Addr} {cap : Nat} {xs : List Int} (h : OwnI a.heap.size w ad cap xs) (hb : Below a.heap.size a w) (hO : xs.length ≤ 17592186044000) {ops : Array Oper} {rest : List Oper} {op : Oper} {A : Act} {Q : Exit → Act → World → Prop} (hgd : op.guard = none) (sl x : Operand)
    (ho : op.op = .call { callee := .builtin .append, args := #[sl, x], argTypes := #[22, 22] }) (z : Int) (hs : A.eval sl = .slice ad xs.length cap) (hx : A.eval x = .slice (some ⟨w.heap.size, 0, none⟩) 1 1)
    (hK : ∀ ad' cap' w', OwnI a.heap.size w' ad' cap' (xs ++ [z]) → Below a.heap.size a w' → wpList Try.prog ops Q rest (A.put op.dst (.slice ad' (xs ++ [z]).length cap')) w') : wpList Try.prog ops Q (op :: rest) A (w.alloc (.cells #[.int .i64 z] 3)) := by
  obtain ⟨i0, hi0, hz0, hz1, hz2⟩ := info_parts infoInt
  have ha := h.alloc (.cells #[.int .i64 z] 3)
  have hb2 : (w.alloc (.cells #[.int .i64 z] 3)).heap[w.heap.size]? = some (.cells #[.int .i64 z] 3 (0, 0)) := heap_alloc_new w _
  have hbw := hb.alloc hb.size (.cells #[.int .i64 z] 3)
  refine wpList_append_own _ hgd sl x 22 ho a.heap.size 3 i0 (.int .i64 0) 1 8 Try.underlying22 hi0 hz0 hz1 hz2 rfl (by decide) (.slice ad xs.length cap) xs.length (intCells xs) hs ha ⟨w.heap.size, 0, none⟩ 1 1 (intCells [z]) hx rfl (fun j u hj => ?_) (int_one _) (by simp only [maxLen]; omega) (by omega) (Nat.le_trans hb.size (by simp)) ?_
  · have hj1 : j < 1 := by have := (List.getElem?_eq_some_iff.1 hj).1; simpa [intCells] using this
    have hj0 : j = 0 := by omega
    subst hj0
    rw [show (⟨w.heap.size, 0, none⟩ : Addr).add 0 = ⟨w.heap.size, 0, none⟩ by simp [Addr.add], cell_of_row _ _ _ _ _ _ hb2]
    simpa [intCells] using hj
  intro v' w' hown hgrow _
  obtain ⟨ad', cap', rfl⟩ := own_form hown
  have hl : (xs ++ [z]).length = xs.length + 1 := by simp
  have ho' : OwnI a.heap.size w' ad' cap' (xs ++ [z]) := by
    unfold OwnI
    rw [hl, intCells_append]
    exact hown
  have := hK ad' cap' w' ho' (grown_below hbw (Nat.le_refl _) hgrow fun k hk => own_block ha hk.symm)
  rwa [hl] at this
/-- The same, as a step of a region that draws. -/
theorem step_int {a w : World} {ad : Option Addr} {cap : Nat} {xs : List Int} (h : OwnI a.heap.size w ad cap xs) (hb : Below a.heap.size a w) (hO : xs.length ≤ 17592186044000) {ops : Array Oper} {op : Oper} {A : Act} {K : Act → World → Prop} {Q : Exit → Act → World → Prop} {E : Prop} (hgd : op.guard = none) (sl x : Operand)
    (ho : op.op = .call { callee := .builtin .append, args := #[sl, x], argTypes := #[22, 22] }) (z : Int) (hs : A.eval sl = .slice ad xs.length cap) (hx : A.eval x = .slice (some ⟨w.heap.size, 0, none⟩) 1 1)
    (hK : ∀ ad' cap' w', OwnI a.heap.size w' ad' cap' (xs ++ [z]) → Below a.heap.size a w' → K (A.put op.dst (.slice ad' (xs ++ [z]).length cap')) w') : if Region.wanted op (yielded ops A.tmps) = true then Oper.wp Try.prog op A (w.alloc (.cells #[.int .i64 z] 3)) K Q else E := by
  have hwt : Region.wanted op (yielded ops A.tmps) = true := by simp [Region.wanted, hgd]
  rw [if_pos hwt]
  obtain ⟨i0, hi0, hz0, hz1, hz2⟩ := info_parts infoInt
  have ha := h.alloc (.cells #[.int .i64 z] 3)
  have hb2 : (w.alloc (.cells #[.int .i64 z] 3)).heap[w.heap.size]? = some (.cells #[.int .i64 z] 3 (0, 0)) := heap_alloc_new w _
  have hbw := hb.alloc hb.size (.cells #[.int .i64 z] 3)
  refine wp_append_own _ sl x 22 ho a.heap.size 3 i0 (.int .i64 0) 1 8 Try.underlying22 hi0 hz0 hz1 hz2 rfl (by decide) (.slice ad xs.length cap) xs.length (intCells xs) hs ha ⟨w.heap.size, 0, none⟩ 1 1 (intCells [z]) hx rfl (fun j u hj => ?_) (int_one _) (by simp only [maxLen]; omega) (by omega) (Nat.le_trans hb.size (by simp)) ?_
  · have hj1 : j < 1 := by have := (List.getElem?_eq_some_iff.1 hj).1; simpa [intCells] using this
    have hj0 : j = 0 := by omega
    subst hj0
    rw [show (⟨w.heap.size, 0, none⟩ : Addr).add 0 = ⟨w.heap.size, 0, none⟩ by simp [Addr.add], cell_of_row _ _ _ _ _ _ hb2]
    simpa [intCells] using hj
  intro v' w' hown hgrow _
  obtain ⟨ad', cap', rfl⟩ := own_form hown
  have hl : (xs ++ [z]).length = xs.length + 1 := by simp
  have ho' : OwnI a.heap.size w' ad' cap' (xs ++ [z]) := by
    unfold OwnI
    rw [hl, intCells_append]
    exact hown
  have := hK ad' cap' w' ho' (grown_below hbw (Nat.le_refl _) hgrow fun k hk => own_block ha hk.symm)
  rwa [hl] at this
end Go.Proofs.Ytlepmiijdpcgnaa
