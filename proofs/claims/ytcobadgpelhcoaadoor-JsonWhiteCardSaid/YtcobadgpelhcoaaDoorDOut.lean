/- A value of JSON in a block of its own: how it is filled and handed back. -/
import Derived.Test.YtcobadgpelhcoaaDoorJSpecD
import Derived.Test.YtcobadgpelhcoaaDoorJMemU
import Derived.Deep.RegionLaw
namespace Go.Proofs.YtcobadgpelhcoaaDoor
open Go.Conc Go.RowKit
set_option linter.unusedVariables false

/-- Six cells in a block of their own. -/
def J6 (w : World) (b : Nat) (a0 a1 a2 a3 a4 a5 : Value) : Prop := w.heap[b]? = some (.cells #[a0, a1, a2, a3, a4, a5] 25 (0, 0))
section
variable {w w' : World} {b : Nat} {a0 a1 a2 a3 a4 a5 : Value}
theorem J6.c0 (h : J6 w b a0 a1 a2 a3 a4 a5) : w.cell? ⟨b, 0, none⟩ = some a0 := by rw [cell_of_row w b 0 _ _ _ h]; rfl
theorem J6.c1 (h : J6 w b a0 a1 a2 a3 a4 a5) : w.cell? ⟨b, 1, none⟩ = some a1 := by rw [cell_of_row w b 1 _ _ _ h]; rfl
theorem J6.c2 (h : J6 w b a0 a1 a2 a3 a4 a5) : w.cell? ⟨b, 2, none⟩ = some a2 := by rw [cell_of_row w b 2 _ _ _ h]; rfl
theorem J6.c3 (h : J6 w b a0 a1 a2 a3 a4 a5) : w.cell? ⟨b, 3, none⟩ = some a3 := by rw [cell_of_row w b 3 _ _ _ h]; rfl
theorem J6.c4 (h : J6 w b a0 a1 a2 a3 a4 a5) : w.cell? ⟨b, 4, none⟩ = some a4 := by rw [cell_of_row w b 4 _ _ _ h]; rfl
theorem J6.c5 (h : J6 w b a0 a1 a2 a3 a4 a5) : w.cell? ⟨b, 5, none⟩ = some a5 := by rw [cell_of_row w b 5 _ _ _ h]; rfl
theorem J6.fz (h : J6 w b a0 a1 a2 a3 a4 a5) (j : Nat) : w.frozen? ⟨b, j, none⟩ = false := frozen_of_row w b j _ _ h
theorem J6.set0 (h : J6 w b a0 a1 a2 a3 a4 a5) (u : Value) : J6 (w.setCell ⟨b, 0, none⟩ u) b u a1 a2 a3 a4 a5 := by
  have hb := Go.Joins.block_setCell (i := 0) h u
  simpa [J6] using hb
theorem J6.set1 (h : J6 w b a0 a1 a2 a3 a4 a5) (u : Value) : J6 (w.setCell ⟨b, 1, none⟩ u) b a0 u a2 a3 a4 a5 := by
  have hb := Go.Joins.block_setCell (i := 1) h u
  simpa [J6] using hb
theorem J6.set2 (h : J6 w b a0 a1 a2 a3 a4 a5) (u : Value) : J6 (w.setCell ⟨b, 2, none⟩ u) b a0 a1 u a3 a4 a5 := by
  have hb := Go.Joins.block_setCell (i := 2) h u
  simpa [J6] using hb
theorem J6.set3 (h : J6 w b a0 a1 a2 a3 a4 a5) (u : Value) : J6 (w.setCell ⟨b, 3, none⟩ u) b a0 a1 a2 u a4 a5 := by
  have hb := Go.Joins.block_setCell (i := 3) h u
  simpa [J6] using hb
theorem J6.set4 (h : J6 w b a0 a1 a2 a3 a4 a5) (u : Value) : J6 (w.setCell ⟨b, 4, none⟩ u) b a0 a1 a2 a3 u a5 := by
  have hb := Go.Joins.block_setCell (i := 4) h u
  simpa [J6] using hb
theorem J6.set5 (h : J6 w b a0 a1 a2 a3 a4 a5) (u : Value) : J6 (w.setCell ⟨b, 5, none⟩ u) b a0 a1 a2 a3 a4 u := by
  have hb := Go.Joins.block_setCell (i := 5) h u
  simpa [J6] using hb
theorem J6.lt (h : J6 w b a0 a1 a2 a3 a4 a5) : b < w.heap.size := (Array.getElem?_eq_some_iff.1 h).1
theorem J6.frm {F : Nat → Prop} (h : J6 w b a0 a1 a2 a3 a4 a5) (hf : Frm F w w') (hF : ¬ F b) : J6 w' b a0 a1 a2 a3 a4 a5 := (hf.block b h.lt hF).trans h
/-- A world in which six cells are filled. -/
def Fill6 (w : World) (b : Nat) (a0 a1 a2 a3 a4 a5 : Value) : World := (((((w.setCell ⟨b, 0, none⟩ a0).setCell ⟨b, 1, none⟩ a1).setCell ⟨b, 2, none⟩ a2).setCell ⟨b, 3, none⟩ a3).setCell ⟨b, 4, none⟩ a4).setCell ⟨b, 5, none⟩ a5
theorem J6.fill {x0 x1 x2 x3 x4 x5 : Value} (h : J6 w b x0 x1 x2 x3 x4 x5) (a0 a1 a2 a3 a4 a5 : Value) : J6 (Fill6 w b a0 a1 a2 a3 a4 a5) b a0 a1 a2 a3 a4 a5 :=
  (((((h.set0 a0).set1 a1).set2 a2).set3 a3).set4 a4).set5 a5
theorem frm_fill6 (w : World) (b : Nat) (a0 a1 a2 a3 a4 a5 : Value) : Frm (One b) w (Fill6 w b a0 a1 a2 a3 a4 a5) :=
  (((((frm_at _ _ _ _).trans (frm_at _ _ _ _)).trans (frm_at _ _ _ _)).trans (frm_at _ _ _ _)).trans (frm_at _ _ _ _)).trans (frm_at _ _ _ _)
theorem j6_new (w : World) (a0 a1 a2 a3 a4 a5 : Value) : J6 (w.alloc (.cells #[a0, a1, a2, a3, a4, a5] 25)) w.heap.size a0 a1 a2 a3 a4 a5 := heap_alloc_new w _
theorem j6_new1 (w : World) (o : Obj) (a0 a1 a2 a3 a4 a5 : Value) : J6 ((w.alloc o).alloc (.cells #[a0, a1, a2, a3, a4, a5] 25)) (w.heap.size + 1) a0 a1 a2 a3 a4 a5 := by
  have := j6_new (w.alloc o) a0 a1 a2 a3 a4 a5
  simpa using this
theorem j6_alloc (h : J6 w b a0 a1 a2 a3 a4 a5) (o : Obj) : J6 (w.alloc o) b a0 a1 a2 a3 a4 a5 := (Below.heap_alloc _ _ _ h.lt).trans h
end
/-- Blocks from a world on are not turned by what turns these. -/
theorem frm_new_one {w w' : World} {b : Nat} {a : World} {F : Nat → Prop} (h : Frm F a w) (hb : a.heap.size ≤ b) (h2 : Frm (One b) w w') : Frm F a w' :=
  ⟨h2.os.trans h.os, h2.tape.trans h.tape, h2.output.trans h.output, Nat.le_trans h.size h2.size, fun k hk hn => (h2.block k (Nat.lt_of_lt_of_le hk h.size) (fun e => by have : k = b := e; omega)).trans (h.block k hk hn)⟩

/-- It answers a value in new memory and stands behind it; or it throws. -/
def JV (pb : Nat) (s : ByteArray) (i d : Nat) (r : Rd J) (w : World) (e : Ending) (w' : World) : Prop :=
  match r with
  | .ok (j, k) => ∃ cs : List Value, e = .returned (.agg cs.toArray) ∧ i ≤ k ∧ k ≤ s.size ∧ JPAt w' pb s k d ∧ Frm (One pb) w w' ∧ JInU (fun g => w.heap.size ≤ g) w' j cs
  | .error c => JThrew pb c w e w'
/-- What is known of values that stand within another. -/
def SubOk (pb : Nat) (s : ByteArray) (d : Nat) (f : Nat → Rd J) : Prop :=
  ∀ (i : Nat) (w : World), JPAt w pb s i d → i ≤ s.size → Calls Tryd.prog 32 #[.pointer (some ⟨pb, 0, none⟩)] w (JV pb s i d (valW s.data.toList f i) w)

/-- A value whose lists are empty. -/
theorem JInU.plain {F : Nat → Prop} {w : World} (k : Int) (b : Bool) (n : Int) (s : ByteArray) : JInU F w (.mk k b n s [] []) [.int .i64 k, .bool b, .int .i64 n, .string s, .slice none 0 0, .slice none 0 0] :=
  .mk k b n s [] [] _ _ [] ⟨rfl, none, 0, rfl, .inl rfl⟩ ⟨rfl, none, 0, rfl, .inl rfl⟩ rfl (fun i j c h => by simp at h)
theorem ret_agg {cs : List Value} {A : Array Value} (h : A = cs.toArray) : Ending.returned (.agg A) = .returned (.agg cs.toArray) := by rw [h]
end Go.Proofs.YtcobadgpelhcoaaDoor
