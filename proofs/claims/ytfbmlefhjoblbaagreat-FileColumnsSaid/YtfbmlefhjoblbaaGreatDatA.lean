/- Files' data that came in, as an argument of a law. -/
import Derived.Test.YtfbmlefhjoblbaaGreatRowsA
import Derived.Test.YtfbmlefhjoblbaaGreatDatL
namespace Go.Proofs.YtfbmlefhjoblbaaGreat
open Go.ChangeShapes Go.WideShapes Go.ChangeAt Go.RowKit
set_option linter.unusedVariables false
set_option linter.unusedSimpArgs false

theorem cellsData : Tryz.prog.cellsOf 55 = 3 := by kernel_rfl
theorem cellsCols : Tryz.prog.cellsOf 52 = 1 := by kernel_rfl
theorem cellsRows : Tryz.prog.cellsOf 53 = 1 := by kernel_rfl
/-- What is known of data that came in. -/
structure InData (d : Da) : Prop where
  n : -9223372036854775808 ≤ d.n ∧ d.n < 9223372036854775808
  cl : d.cs.length * 32 ≤ 140737488351232
  cs : ∀ c ∈ d.cs, InCo c
  rl : d.rs.length * 24 ≤ 140737488351232
  rs : ∀ r ∈ d.rs, InRow r
def Da.cells (d : Da) (p : DaAt) : List Value := [.int .i64 d.n, .slice p.ac d.cs.length p.kc, .slice p.ar d.rs.length p.kr]
set_option maxRecDepth 100000 in
theorem data_open {H : Type} {enc : TypeId × Value → H} {W : World} {hh : Bool} {n : Nat} {cs : List Value} {d : DataW H} {ps : List MemPlace} (hw : ∀ x ∈ d.weights Tryz.prog 55, x ≤ reachBytes) (ht : DataW.trod enc Tryz.prog W 0 (fun _ => true) hh n 55 cs = some (d, ps)) :
    ∃ (p : DaAt) (x : Da), cs = x.cells p ∧ DaIs W p x ∧ InData x := by
  obtain ⟨y0, y1, y2, m, hx, hl, t0, t1, t2⟩ := Deep.trod_struct3 Tryz.underlying55 ht
  rw [cellsData] at hl
  match cs, hl with
  | [c0, c1, c2], _ =>
    simp only [cellsInt, cellsCols, cellsRows, List.drop_zero, List.drop_succ_cons, List.take_succ_cons, List.take_zero] at t0 t1 t2
    injection hx with hx1 hx2
    subst hx1
    have hwe : ∀ (j : Nat) (t : TypeId) (y : DataW H), [3, 52, 53][j]? = some t → [y0.1, y1.1, y2.1][j]? = some y → ∀ x ∈ y.weights Tryz.prog t, x ≤ reachBytes := by
      intro j t y h1 h2 x hxm
      refine hw x ?_
      have := DataW.weights_mem_each (P := Tryz.prog) (ts := [3, 52, 53]) (ds := [y0.1, y1.1, y2.1]) (j := j) h1 h2 x hxm
      unfold DataW.weights
      rw [Tryz.underlying55]
      exact this
    have m : IntKind.i64.min = -9223372036854775808 := rfl
    obtain ⟨r0, e0, _, wf0⟩ := DataW.trod_int Tryz.underlying3 t0
    simp only [List.cons.injEq, and_true] at e0
    subst e0
    obtain ⟨ac, lc, kc, rfl⟩ := slice_form Tryz.underlying52 t1
    obtain ⟨ar, lr, kr, rfl⟩ := slice_form Tryz.underlying53 t2
    obtain ⟨xc, h1, h2, h3, h4, h5⟩ := cos_arg (a := ac) (len := lc) (cap := kc) t1 (hwe 1 52 y1.1 rfl rfl)
    obtain ⟨xr, g1, g2, g3, g4, g5⟩ := rows_arg (a := ar) (len := lr) (cap := kr) t2 (hwe 2 53 y2.1 rfl rfl)
    subst h1 g1
    exact ⟨⟨ac, kc, ar, kr⟩, ⟨r0, xc, xr⟩, rfl, ⟨h2, g2, h3, g3⟩, ⟨by simp [Lit.wf] at wf0; show -9223372036854775808 ≤ r0 ∧ r0 < 9223372036854775808; omega, h4, h5, g4, g5⟩⟩
end Go.Proofs.YtfbmlefhjoblbaaGreat
