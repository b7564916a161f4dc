/- How many bits a number has: the document's. -/
import Derived.Test.YtlepmiijdpcgnaaKbits
import Derived.Test.YtlepmiijdpcgnaaProg
import Derived.WalkKit
import Derived.ProofKit
import Derived.Lib.Hide
import Derived.WalkLawsBesides
import Derived.WalkSpells
namespace Go.Proofs.Ytlepmiijdpcgnaa
open Go.RowKit
set_option linter.unusedVariables false

set_option maxRecDepth 100000 in
theorem rwidth_any (x : Int) (h : x < 9223372036854775808) (w : World) : Calls Try.prog 15 #[.int .i64 x] w fun e w' => e = .returned (.int .i64 (wid x.toNat : Nat)) ∧ w = w' := by
  have hb := wid_lt64 (x := x.toNat) (by omega)
  generalize hR : wid x.toNat = R at *
  have HR := Lib.hid hR
  clear hR
  go_enter Try.func15, Try.ntmps15
  go_wp2
  go_loop [0, 3] (fun mv kv => ∃ (y : Int) (k : Nat), y < 9223372036854775808 ∧ mv = .int .i64 y ∧ kv = .int .i64 k ∧ k + wid y.toNat = R) (fun mv _ => (intOf mv).toNat)
  case atStart => exact ⟨x, 0, h, rfl, rfl, by rw [HR.out]; omega⟩
  case round =>
    obtain ⟨y, k, hy, rfl, rfl, e⟩ := hrel
    by_cases c : 0 < y
    · have hw := wid_pos (x := y.toNat) (by omega)
      have e2 : (y / 2).toNat = y.toNat / 2 := by omega
      have e3 : y.tdiv 2 = y / 2 := Int.tdiv_eq_ediv_of_nonneg (by omega)
      have hk : k + 1 ≤ 63 := by omega
      have e4 : k + 1 + wid (y / 2).toNat = R := by rw [e2]; omega
      clear e hw e2
      go_wp2
      go_round
      case rel => exact ⟨y / 2, k + 1, by omega, rfl, by go_num, e4⟩
      case measure => simp [intOf]; omega
    · have e1 : k = R := by rw [show y.toNat = 0 by omega, wid_zero] at e; exact e
      subst e1
      clear e
      go_wp2
      go_ret
      exact ⟨rfl, rfl⟩
end Go.Proofs.Ytlepmiijdpcgnaa
