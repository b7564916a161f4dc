/- Values: of their kind's field alone, held against one another. -/
import Derived.Test.YtpijnnkhokmlbaaValL
import Derived.Test.YtpijnnkhokmlbaaRBelow
import Derived.Test.YtpijnnkhokmlbaaShelf
import Derived.Deep.Cut
import Derived.Handy
namespace Go.Proofs.Ytpijnnkhokmlbaa
open Go.Conc Go.RowKit
set_option linter.unusedVariables false

/-- A value with its kind's field alone. -/
def plainV (v : V) : V :=
  if v.k = 1 then ⟨1, v.i, false, ByteArray.empty⟩ else if v.k = 2 then ⟨2, 0, v.b, ByteArray.empty⟩ else if v.k = 3 then ⟨3, 0, false, v.s⟩ else ⟨0, 0, false, ByteArray.empty⟩
theorem plainV_int {v : V} (h : v.k = 1) : plainV v = ⟨1, v.i, false, ByteArray.empty⟩ := by unfold plainV; rw [if_pos h]
theorem plainV_bool {v : V} (h : v.k = 2) : plainV v = ⟨2, 0, v.b, ByteArray.empty⟩ := by unfold plainV; rw [if_neg (by omega), if_pos h]
theorem plainV_text {v : V} (h : v.k = 3) : plainV v = ⟨3, 0, false, v.s⟩ := by unfold plainV; rw [if_neg (by omega), if_neg (by omega), if_pos h]
theorem plainV_null {v : V} (h1 : v.k ≠ 1) (h2 : v.k ≠ 2) (h3 : v.k ≠ 3) : plainV v = ⟨0, 0, false, ByteArray.empty⟩ := by unfold plainV; rw [if_neg h1, if_neg h2, if_neg h3]
theorem plainV_twice (v : V) : plainV (plainV v) = plainV v := by
  by_cases h1 : v.k = 1
  · rw [plainV_int h1, plainV_int rfl]
  by_cases h2 : v.k = 2
  · rw [plainV_bool h2, plainV_bool rfl]
  by_cases h3 : v.k = 3
  · rw [plainV_text h3, plainV_text rfl]
  · rw [plainV_null h1 h2 h3, plainV_null (by show (0 : Int) ≠ 1; omega) (by show (0 : Int) ≠ 2; omega) (by show (0 : Int) ≠ 3; omega)]
theorem plainV_size (v : V) : (plainV v).s.size ≤ v.s.size := by
  by_cases h1 : v.k = 1
  · rw [plainV_int h1]; exact Nat.zero_le _
  by_cases h2 : v.k = 2
  · rw [plainV_bool h2]; exact Nat.zero_le _
  by_cases h3 : v.k = 3
  · rw [plainV_text h3]; exact Nat.le_refl _
  · rw [plainV_null h1 h2 h3]; exact Nat.zero_le _
/-- A value's kind; of none that there is 0. -/
def kindV (v : V) : Int := if v.k < 0 ∨ 3 < v.k then 0 else v.k

set_option maxRecDepth 100000 in
theorem plain_any (v : V) (w : World) : Calls Try.prog 24 #[.agg #[.int .i64 v.k, .int .i64 v.i, .bool v.b, .string v.s]] w fun e w' => e = .returned (.agg #[.int .i64 (plainV v).k, .int .i64 (plainV v).i, .bool (plainV v).b, .string (plainV v).s]) ∧ Below w.heap.size w w' := by
  have HB : ∀ w' : World, w' = w → True := fun _ _ => trivial
  by_cases h1 : v.k = 1
  · rw [plainV_int h1]
    obtain ⟨k, i, b, s⟩ := v
    simp only at h1 ⊢
    subst h1
    go_enter Try.func24, Try.ntmps24
    go_wp2
    go_returns
    exact ⟨rfl, ((((Below.refl _ _).alloc (Nat.le_refl _) _).alloc (by simp) _))⟩
  by_cases h2 : v.k = 2
  · rw [plainV_bool h2]
    obtain ⟨k, i, b, s⟩ := v
    simp only at h2 ⊢
    subst h2
    go_enter Try.func24, Try.ntmps24
    go_wp2
    go_returns
    exact ⟨rfl, ((((Below.refl _ _).alloc (Nat.le_refl _) _).alloc (by simp) _))⟩
  by_cases h3 : v.k = 3
  · rw [plainV_text h3]
    obtain ⟨k, i, b, s⟩ := v
    simp only at h3 ⊢
    subst h3
    go_enter Try.func24, Try.ntmps24
    go_wp2
    go_returns
    exact ⟨rfl, ((((Below.refl _ _).alloc (Nat.le_refl _) _).alloc (by simp) _))⟩
  · rw [plainV_null h1 h2 h3]
    obtain ⟨k, i, b, s⟩ := v
    simp only at h1 h2 h3 ⊢
    have e1 : (k == 1) = false := by simpa using h1
    have e2 : (k == 2) = false := by simpa using h2
    have e3 : (k == 3) = false := by simpa using h3
    clear h1 h2 h3
    go_enter Try.func24, Try.ntmps24
    go_wp2
    go_returns
    exact ⟨rfl, ((((Below.refl _ _).alloc (Nat.le_refl _) _).alloc (by simp) _))⟩
end Go.Proofs.Ytpijnnkhokmlbaa
