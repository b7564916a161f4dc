/- Values of their kind's field alone; a variable that holds a value. -/
import Derived.Test.YtgpnfmkonhaccaaValL
import Derived.Deep.Cut
import Derived.Handy
namespace Go.Proofs.Ytgpnfmkonhaccaa
open Go.Conc Go.RowKit
set_option linter.unusedVariables false
set_option linter.unusedSimpArgs false

/-- A value with its kind's field alone. -/
def plainV (v : V) : V :=
  if v.k = 1 then ⟨1, v.i, false, ByteArray.empty⟩ else if v.k = 2 then ⟨2, 0, v.b, ByteArray.empty⟩ else if v.k = 3 then ⟨3, 0, false, v.s⟩ else ⟨0, 0, false, ByteArray.empty⟩
theorem plainV_int {v : V} (h : v.k = 1) : plainV v = ⟨1, v.i, false, ByteArray.empty⟩ := by unfold plainV; rw [if_pos h]
theorem plainV_bool {v : V} (h : v.k = 2) : plainV v = ⟨2, 0, v.b, ByteArray.empty⟩ := by unfold plainV; rw [if_neg (by omega), if_pos h]
theorem plainV_text {v : V} (h : v.k = 3) : plainV v = ⟨3, 0, false, v.s⟩ := by unfold plainV; rw [if_neg (by omega), if_neg (by omega), if_pos h]
theorem plainV_null {v : V} (h1 : v.k ≠ 1) (h2 : v.k ≠ 2) (h3 : v.k ≠ 3) : plainV v = ⟨0, 0, false, ByteArray.empty⟩ := by unfold plainV; rw [if_neg h1, if_neg h2, if_neg h3]
theorem plainV_twice (v : V) : plainV (plainV v) = plainV v := by
  by_cases h1 : v.k = 1
  · rw [plainV_int h1, plainV_int rfl]
  by_cases h2 : v.k = 2
  · rw [plainV_bool h2, plainV_bool rfl]
  by_cases h3 : v.k = 3
  · rw [plainV_text h3, plainV_text rfl]
  · rw [plainV_null h1 h2 h3, plainV_null (by show (0 : Int) ≠ 1; omega) (by show (0 : Int) ≠ 2; omega) (by show (0 : Int) ≠ 3; omega)]
theorem plainV_size (v : V) : (plainV v).s.size ≤ v.s.size := by
  by_cases h1 : v.k = 1
  · rw [plainV_int h1]; exact Nat.zero_le _
  by_cases h2 : v.k = 2
  · rw [plainV_bool h2]; exact Nat.zero_le _
  by_cases h3 : v.k = 3
  · rw [plainV_text h3]; exact Nat.le_refl _
  · rw [plainV_null h1 h2 h3]; exact Nat.zero_le _
/-- A value's kind; of none that there is 0. -/
def kindV (v : V) : Int := if v.k < 0 ∨ 3 < v.k then 0 else v.k

theorem kindV_in {v : V} (h : 0 ≤ v.k ∧ v.k ≤ 3) : kindV v = v.k := by unfold kindV; rw [if_neg (by omega)]
theorem kindV_out {v : V} (h : v.k < 0 ∨ 3 < v.k) : kindV v = 0 := by unfold kindV; rw [if_pos h]
theorem kindV_range (v : V) : 0 ≤ kindV v ∧ kindV v ≤ 3 := by unfold kindV; split <;> omega
theorem plainV_kind (v : V) : (plainV v).k = kindV v := by
  by_cases h1 : v.k = 1
  · rw [plainV_int h1, kindV_in (by omega)]; exact h1.symm
  by_cases h2 : v.k = 2
  · rw [plainV_bool h2, kindV_in (by omega)]; exact h2.symm
  by_cases h3 : v.k = 3
  · rw [plainV_text h3, kindV_in (by omega)]; exact h3.symm
  · rw [plainV_null h1 h2 h3]
    by_cases h0 : v.k = 0
    · rw [kindV_in (by omega), h0]
    · rw [kindV_out (by omega)]

theorem kind_one {v : V} : kindV v = 1 ↔ v.k = 1 := by unfold kindV; split <;> omega
theorem kind_two {v : V} : kindV v = 2 ↔ v.k = 2 := by unfold kindV; split <;> omega
theorem kind_three {v : V} : kindV v = 3 ↔ v.k = 3 := by unfold kindV; split <;> omega
/-- What the walk asks of a block that holds a value: its cells, and that they may be written. -/
structure Slot (w : World) (g : Nat) (v : V) : Prop where
  b : w.heap[g]? = some (.cells #[.int .i64 v.k, .int .i64 v.i, .bool v.b, .string v.s] 41 (0, 0))
theorem Slot.at {w : World} {g : Nat} {v : V} (h : Slot w g v) : (w.cell? ⟨g, 0, none⟩ = some (.int .i64 v.k) ∧ w.cell? ⟨g, 1, none⟩ = some (.int .i64 v.i) ∧ w.cell? ⟨g, 2, none⟩ = some (.bool v.b) ∧ w.cell? ⟨g, 3, none⟩ = some (.string v.s)) ∧ (w.frozen? ⟨g, 0, none⟩ = false ∧ w.frozen? ⟨g, 1, none⟩ = false ∧ w.frozen? ⟨g, 2, none⟩ = false ∧ w.frozen? ⟨g, 3, none⟩ = false) := by
  have hb := h.b
  refine ⟨⟨?_, ?_, ?_, ?_⟩, frozen_of_row w g 0 _ _ hb, frozen_of_row w g 1 _ _ hb, frozen_of_row w g 2 _ _ hb, frozen_of_row w g 3 _ _ hb⟩ <;> (rw [cell_of_row _ _ _ _ _ _ hb]; rfl)
theorem Slot.same {w w' : World} {g : Nat} {v : V} (h : Slot w g v) (hb : w'.heap[g]? = w.heap[g]?) : Slot w' g v := ⟨by rw [hb]; exact h.b⟩
theorem Slot.lt {w : World} {g : Nat} {v : V} (h : Slot w g v) : g < w.heap.size := (Array.getElem?_eq_some_iff.1 h.b).1
theorem Slot.below {w w' : World} {g : Nat} {v : V} (h : Slot w g v) (hb : Below w.heap.size w w') : Slot w' g v := h.same (hb.block g h.lt)
theorem Slot.alloc {w : World} {g : Nat} {v : V} (h : Slot w g v) (o : Obj) : Slot (w.alloc o) g v := h.same (Below.heap_alloc w o g h.lt)
theorem Slot.new (w : World) (v : V) : Slot (w.alloc (.cells #[.int .i64 v.k, .int .i64 v.i, .bool v.b, .string v.s] 41)) w.heap.size v := ⟨heap_alloc_new w _⟩

theorem Slot.other {w : World} {g : Nat} {v : V} (h : Slot w g v) {a : Addr} {u : Value} (hne : a.block ≠ g) : Slot (w.setCell a u) g v := h.same (Below.heap_setCell _ _ _ _ (fun e => hne e.symm))
theorem Slot.store {w : World} {g : Nat} {v : V} (h : Slot w g v) (p : V) : Slot ((((w.setCell ⟨g, 0, none⟩ (.int .i64 p.k)).setCell ⟨g, 1, none⟩ (.int .i64 p.i)).setCell ⟨g, 2, none⟩ (.bool p.b)).setCell ⟨g, 3, none⟩ (.string p.s)) g p :=
  ⟨heap_setCell_same _ _ _ _ _ _ (heap_setCell_same _ _ _ _ _ _ (heap_setCell_same _ _ _ _ _ _ (heap_setCell_same _ _ _ _ _ _ h.b)))⟩

/-- A value is stored into a result's variable. -/
theorem slot_ret {a w1 : World} {B g : Nat} {z : V} (h : Slot w1 g z) (hb : Below B a w1) (hg : B ≤ g) (p : V) : ∃ w4, w4 = ((((w1.setCell ⟨g, 0, none⟩ (.int .i64 p.k)).setCell ⟨g, 1, none⟩ (.int .i64 p.i)).setCell ⟨g, 2, none⟩ (.bool p.b)).setCell ⟨g, 3, none⟩ (.string p.s)) ∧ Slot w4 g p ∧ Below B a w4 :=
  ⟨_, rfl, h.store p, (((hb.setCell hg _).setCell hg _).setCell hg _).setCell hg _⟩

theorem Frm.chain {u : World} {g : Nat} {F : Nat → Prop} (hg : F g) (p : V) : Frm F u ((((u.setCell ⟨g, 0, none⟩ (.int .i64 p.k)).setCell ⟨g, 1, none⟩ (.int .i64 p.i)).setCell ⟨g, 2, none⟩ (.bool p.b)).setCell ⟨g, 3, none⟩ (.string p.s)) :=
  ((((Frm.refl F u).setCell (p := ⟨g, 0, none⟩) hg _).setCell (p := ⟨g, 1, none⟩) hg _).setCell (p := ⟨g, 2, none⟩) hg _).setCell (p := ⟨g, 3, none⟩) hg _
end Go.Proofs.Ytgpnfmkonhaccaa
