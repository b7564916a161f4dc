/- Schemas that came in, as an argument of a law. -/
import Derived.Test.YthfakpekdjmpjaaScm
import Derived.ChangeSame
import Derived.Deep.Slices
import Derived.Deep.Strs
namespace Go.Proofs.Ythfakpekdjmpjaa
open Go.ChangeShapes Go.WideShapes Go.ChangeAt Go.RowKit
set_option linter.unusedVariables false
set_option linter.unusedSimpArgs false

theorem cellsSchema : Try.prog.cellsOf 24 = 3 := by kernel_rfl
theorem cellsColsS : Try.prog.cellsOf 22 = 1 := by kernel_rfl
/-- What is known of a schema that came in. -/
structure InSc (s : Sc) : Prop where
  id : -9223372036854775808 ≤ s.id ∧ s.id < 9223372036854775808
  next : -9223372036854775808 ≤ s.next ∧ s.next < 9223372036854775808
  cl : s.cs.length * 32 ≤ 140737488351232
  cs : ∀ c ∈ s.cs, InCo c
theorem slice_formS {H : Type} {enc : TypeId × Value → H} {W : World} {hh : Bool} {n : Nat} {u : Value} {d : DataW H × List MemPlace} {t e : TypeId} (ht : Try.prog.underlying t = some (.slice e)) (h : DataW.trod enc Try.prog W 0 (fun _ => true) hh n t [u] = some d) : ∃ a len cap, u = .slice a len cap := by
  rcases Deep.open_slice ht h with ⟨hcs, _⟩ | ⟨x, l, c, _, _, _, _, hcs, _⟩
  · simp at hcs; exact ⟨_, _, _, hcs⟩
  · simp at hcs; exact ⟨_, _, _, hcs⟩
set_option maxRecDepth 100000 in
theorem schema_open {H : Type} {enc : TypeId × Value → H} {W : World} {hh : Bool} {n : Nat} {cs : List Value} {d : DataW H} {ps : List MemPlace} (hw : ∀ x ∈ d.weights Try.prog 24, x ≤ reachBytes) (ht : DataW.trod enc Try.prog W 0 (fun _ => true) hh n 24 cs = some (d, ps)) :
    ∃ (a : Option Addr) (c : Nat) (x : Sc), cs = [.int .i64 x.id, .slice a x.cs.length c, .int .i64 x.next] ∧ IsCo W a x.cs ∧ (a = none → x.cs.length = 0 ∧ c = 0) ∧ (x.cs.length ≤ c) ∧ InSc x := by
  obtain ⟨y0, y1, y2, m, hx, hl, t0, t1, t2⟩ := Deep.trod_struct3 Try.underlying24 ht
  rw [cellsSchema] at hl
  match cs, hl with
  | [c0, c1, c2], _ =>
    simp only [cellsInt, cellsColsS, List.drop_zero, List.drop_succ_cons, List.take_succ_cons, List.take_zero] at t0 t1 t2
    injection hx with hx1 hx2
    subst hx1
    have hwe : ∀ (j : Nat) (t : TypeId) (y : DataW H), [3, 22, 3][j]? = some t → [y0.1, y1.1, y2.1][j]? = some y → ∀ x ∈ y.weights Try.prog t, x ≤ reachBytes := by
      intro j t y h1 h2 x hxm
      refine hw x ?_
      have := DataW.weights_mem_each (P := Try.prog) (ts := [3, 22, 3]) (ds := [y0.1, y1.1, y2.1]) (j := j) h1 h2 x hxm
      unfold DataW.weights
      rw [Try.underlying24]
      exact this
    have m : IntKind.i64.min = -9223372036854775808 := rfl
    obtain ⟨r0, e0, _, wf0⟩ := DataW.trod_int Try.underlying3 t0
    obtain ⟨r2, e2, _, wf2⟩ := DataW.trod_int Try.underlying3 t2
    simp only [List.cons.injEq, and_true] at e0 e2
    subst e0 e2
    obtain ⟨ac, lc, kc, rfl⟩ := slice_formS Try.underlying22 t1
    obtain ⟨xc, h1, h2, h3, h4, h5⟩ := cos_arg (a := ac) (len := lc) (cap := kc) t1 (hwe 1 22 y1.1 rfl rfl)
    have hcap : xc.length ≤ kc := by
      rcases Deep.open_slice Try.underlying22 t1 with ⟨hcs, _⟩ | ⟨x, l, c, m9, n9, D, Pl, hcs, _, hl9, hm9, hmm, hdd, hel⟩
      · simp at hcs
        obtain ⟨rfl, rfl, rfl⟩ := hcs
        omega
      · simp at hcs
        obtain ⟨rfl, rfl, rfl⟩ := hcs
        have hmc : m9 = kc := by simpa using hmm
        omega
    subst h1
    exact ⟨ac, kc, ⟨r0, r2, xc⟩, rfl, h2, h3, hcap, ⟨by simp [Lit.wf] at wf0; show -9223372036854775808 ≤ r0 ∧ r0 < 9223372036854775808; omega, by simp [Lit.wf] at wf2; show -9223372036854775808 ≤ r2 ∧ r2 < 9223372036854775808; omega, h4, h5⟩⟩
end Go.Proofs.Ythfakpekdjmpjaa
