/- What every program answers that is one. -/
import Derived.Test.YtdefafiggojgmaaRStat2
import Derived.Test.YtdefafiggojgmaaValC
namespace Go.Proofs.Ytdefafiggojgmaa
open Go.Conc Go.RowKit
set_option linter.unusedVariables false
set_option linter.unusedSimpArgs false

def saL : List V := [⟨1, 5, false, ⟨#[]⟩⟩, ⟨0, 0, false, ⟨#[]⟩⟩, ⟨1, 2, false, ⟨#[]⟩⟩]
def saS : S := ⟨3, 1, ⟨1, 2, false, ⟨#[]⟩⟩, ⟨1, 5, false, ⟨#[]⟩⟩⟩
theorem sa_of : ofA 3 saL = saS := by kernel_rfl
theorem sa_join : joinS saS ⟨0, 2, zeroV, zeroV⟩ = ⟨3, 3, ⟨1, 2, false, ⟨#[]⟩⟩, ⟨1, 5, false, ⟨#[]⟩⟩⟩ := by kernel_rfl
set_option maxRecDepth 100000 in
set_option maxHeartbeats 4000000 in
theorem statawake_any (w : World) : Calls Try.prog 12 #[] w fun e w' => e = .returned (.bool true) ∧ Below w.heap.size w w' := by
  have T1 : Hid (∀ (u : World) (a : Option Addr) (h : IsV u a saL), Calls Try.prog 7 #[.int .i64 3, .slice a 3 3] u fun e w' => e = .returned (.agg #[.int .i64 3, .int .i64 1, .int .i64 1, .int .i64 2, .bool false, .string ⟨#[]⟩, .int .i64 1, .int .i64 5, .bool false, .string ⟨#[]⟩]) ∧ Below u.heap.size u w') := fun u a h => by
    have h := statof_any 3 a 3 saL u h (by decide) (fun v hv => by simp only [saL, List.mem_cons, List.not_mem_nil, or_false] at hv; rcases hv with rfl | rfl | rfl <;> decide)
    rw [sa_of] at h
    exact h
  have T2 : Hid (∀ (u : World), Calls Try.prog 9 #[.agg #[.int .i64 3, .int .i64 1, .int .i64 1, .int .i64 2, .bool false, .string ⟨#[]⟩, .int .i64 1, .int .i64 5, .bool false, .string ⟨#[]⟩], .agg #[.int .i64 0, .int .i64 2, .int .i64 0, .int .i64 0, .bool false, .string ⟨#[]⟩, .int .i64 0, .int .i64 0, .bool false, .string ⟨#[]⟩]] u fun e w' => e = .returned (.agg #[.int .i64 3, .int .i64 3, .int .i64 1, .int .i64 2, .bool false, .string ⟨#[]⟩, .int .i64 1, .int .i64 5, .bool false, .string ⟨#[]⟩]) ∧ Below u.heap.size u w') := fun u => by
    have h := statjoin_any saS ⟨0, 2, zeroV, zeroV⟩ ⟨by decide, by decide⟩ ⟨by decide, by decide⟩ u
    rw [sa_join] at h
    exact h
  have hq : ∀ w, (binOp .eql 26 (.agg #[.int .i64 3, .int .i64 1, .int .i64 1, .int .i64 2, .bool false, .string ⟨#[]⟩, .int .i64 1, .int .i64 5, .bool false, .string ⟨#[]⟩]) (.agg #[.int .i64 3, .int .i64 1, .int .i64 1, .int .i64 2, .bool false, .string ⟨#[]⟩, .int .i64 1, .int .i64 5, .bool false, .string ⟨#[]⟩])).run Try.prog w = .ok (.bool true) w := fun w => by
    have h := run_eql_stat saS saS w
    rw [decide_eq_true rfl] at h
    exact h
  have hfd : ∀ w : World, (Instr.field 26 (.agg #[.int .i64 3, .int .i64 3, .int .i64 1, .int .i64 2, .bool false, .string ⟨#[]⟩, .int .i64 1, .int .i64 5, .bool false, .string ⟨#[]⟩]) 1).run Try.prog w = .ok (.int .i64 3) w := fun _ => by kernel_rfl
  have hb1 : Below w.heap.size w (w.alloc (.cells #[.int .i64 1, .int .i64 5, .bool false, .string ⟨#[]⟩, .int .i64 0, .int .i64 0, .bool false, .string ⟨#[]⟩, .int .i64 1, .int .i64 2, .bool false, .string ⟨#[]⟩] 24)) := (Below.refl _ w).alloc (Nat.le_refl _) _
  have ha1 : IsV (w.alloc (.cells #[.int .i64 1, .int .i64 5, .bool false, .string ⟨#[]⟩, .int .i64 0, .int .i64 0, .bool false, .string ⟨#[]⟩, .int .i64 1, .int .i64 2, .bool false, .string ⟨#[]⟩] 24)) (some ⟨w.heap.size, 0, none⟩) saL := isv_new w saL _ rfl
  have HB := Lib.hid hb1
  have HA := Lib.hid ha1
  clear hb1 ha1
  go_enter Try.func12, Try.ntmps12
  go_upto_region 2 with (go_at_call 7; refine (T1.out _ _ HA.out).mono ?_; rintro e w2 ⟨rfl, hb⟩; replace HB := Lib.hid (HB.out.trans (hb.mono HB.out.size)); clear hb)
  obtain ⟨u2, hu2⟩ : ∃ u2, u2 = w2.alloc (.cells #[.int .i64 3, .int .i64 1, .int .i64 1, .int .i64 2, .bool false, .string ⟨#[]⟩, .int .i64 1, .int .i64 5, .bool false, .string ⟨#[]⟩] 26) := ⟨_, rfl⟩
  rw [← hu2]
  have hs : SSlot u2 w2.heap.size saS := by rw [hu2]; exact SSlot.new w2 saS
  have hb2 : Below w.heap.size w u2 := by rw [hu2]; exact HB.out.alloc HB.out.size _
  replace HB := Lib.hid hb2
  clear hu2 hb2 HA T1
  obtain ⟨⟨z0, z1, z2, z3, z4, z5, z6, z7, z8, z9⟩, _⟩ := hs.at
  simp only [saS] at z0 z1 z2 z3 z4 z5 z6 z7 z8 z9
  clear hs
  go_wp2_with (first
    | (go_at_call 15; refine (num_any _ _).mono ?_; rintro e w' ⟨rfl, rfl⟩)
    | (go_at_call 9; refine (T2.out _).mono ?_; rintro e w8 ⟨rfl, hb⟩; replace HB := Lib.hid (HB.out.trans (hb.mono HB.out.size)); clear hb))
  go_ret
  exact ⟨rfl, HB.out⟩
end Go.Proofs.Ytdefafiggojgmaa
