/- The program's IsNull. The program's IsOf: whether a column of a kind may hold a value. -/
import Derived.Test.YthfakpekdjmpjaaVProg
namespace Go.Proofs.Ythfakpekdjmpjaa
open Go.Conc Go.RowKit
set_option linter.unusedVariables false
set_option linter.unusedSimpArgs false

set_option maxRecDepth 100000 in
theorem isnull_any (v : V) (w : World) : Calls Try.prog 95 #[.agg #[.int .i64 v.k, .int .i64 v.i, .bool v.b, .string v.s]] w fun e w' => e = .returned (.bool (decide (plainV v = zeroV))) ∧ Below w.heap.size w w' := by
  have T := Lib.hid (fun u => plain_any v u)
  generalize plainV v = p at *
  have hq : ∀ w, (binOp .eql 57 (.agg #[.int .i64 p.k, .int .i64 p.i, .bool p.b, .string p.s]) (.agg #[.int .i64 0, .int .i64 0, .bool false, .string ⟨#[]⟩])).run Try.prog w = .ok (.bool (decide (p = zeroV))) w := run_eql_val p zeroV
  have HB0 := Lib.hid (show Below w.heap.size w (w.alloc (.cells #[.int .i64 v.k, .int .i64 v.i, .bool v.b, .string v.s] 57)) from (Below.refl _ _).alloc (Nat.le_refl _) _)
  go_enter Try.func95, Try.ntmps95
  go_wp2_with (go_at_call 94; refine (T.out _).mono ?_; rintro e w1 ⟨rfl, hb⟩; have HB := Lib.hid (HB0.out.trans (hb.mono HB0.out.size)); clear hb)
  go_ret
  exact ⟨rfl, HB.out⟩
end Go.Proofs.Ythfakpekdjmpjaa

namespace Go.Proofs.Ythfakpekdjmpjaa
open Go.Conc Go.RowKit
set_option linter.unusedVariables false
set_option linter.unusedSimpArgs false

/-- A value may stand in a column of a kind: null, or one of it. -/
def isOf (v : V) (k : Int) : Bool := decide (plainV v = zeroV) || decide (v.k = k)
set_option maxRecDepth 100000 in
theorem isof_any (v : V) (k : Int) (w : World) : Calls Try.prog 105 #[.agg #[.int .i64 v.k, .int .i64 v.i, .bool v.b, .string v.s], .int .i64 k] w fun e w' => e = .returned (.bool (isOf v k)) ∧ Below w.heap.size w w' := by
  have T := Lib.hid (fun u => isnull_any v u)
  have hs0 := Slot.new w v
  have hb0 : Below w.heap.size w (w.alloc (.cells #[.int .i64 v.k, .int .i64 v.i, .bool v.b, .string v.s] 57)) := (Below.refl _ _).alloc (Nat.le_refl _) _
  have he : (v.k == k) = decide (v.k = k) := by rw [Bool.eq_iff_iff, decide_eq_true_eq, beq_iff_eq]
  unfold isOf
  generalize decide (plainV v = zeroV) = N at *
  obtain ⟨S, hS⟩ : ∃ S, S = decide (v.k = k) := ⟨_, rfl⟩
  rw [← hS] at he ⊢
  clear hS
  obtain ⟨u, hu⟩ : ∃ u, u = (w.alloc (.cells #[.int .i64 v.k, .int .i64 v.i, .bool v.b, .string v.s] 57)) := ⟨_, rfl⟩
  rw [← hu] at hs0 hb0
  have HS := Lib.hid hs0
  have HB := Lib.hid hb0
  obtain ⟨⟨c0, c1, c2, c3⟩, _⟩ := hs0.at
  clear hb0 hs0
  cases N <;> (
    go_enter Try.func105, Try.ntmps105
    go_upto_region 1 with fail
    rw [← hu]
    clear hu
    go_wp2_with (go_at_call 95; refine (T.out _).mono ?_; rintro e w1 ⟨rfl, hb⟩; obtain ⟨⟨z0, z1, z2, z3⟩, _⟩ := (HS.out.below hb).at; have HB1 := Lib.hid (HB.out.trans (hb.mono HB.out.size)); clear hb c0 c1 c2 c3)
    go_ret
    exact ⟨rfl, HB1.out⟩)
end Go.Proofs.Ythfakpekdjmpjaa
