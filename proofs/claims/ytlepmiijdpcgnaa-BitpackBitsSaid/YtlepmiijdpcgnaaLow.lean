/- Low bits of an int, an int as an uint by a number. No program is spoken of. -/
import Derived.Test.YtlepmiijdpcgnaaBits
import Derived.WalkKit
namespace Go.Proofs.Ytlepmiijdpcgnaa
open Go.RowKit
set_option linter.unusedVariables false

theorem modN (x : Int) (n : Nat) (h0 : 0 < n) (hn : n < 9223372036854775808) : ∃ k : Nat, wrap64 ((IntKind.u64.wrap x).tmod (n : Int)) = (k : Int) ∧ k < n := by
  have h1 : 0 ≤ IntKind.u64.wrap x := by rw [IntKind.wrap_u64]; omega
  refine ⟨((IntKind.u64.wrap x) % (n : Int)).toNat, ?_, ?_⟩
  · rw [Int.tmod_eq_emod_of_nonneg h1]
    have h2 := Int.emod_nonneg (IntKind.u64.wrap x) (show (n : Int) ≠ 0 by omega)
    have h3 := Int.emod_lt_of_pos (IntKind.u64.wrap x) (show (0 : Int) < n by omega)
    unfold wrap64
    omega
  · have h2 := Int.emod_nonneg (IntKind.u64.wrap x) (show (n : Int) ≠ 0 by omega)
    have h3 := Int.emod_lt_of_pos (IntKind.u64.wrap x) (show (0 : Int) < n by omega)
    omega
/-- A number's low bits. -/
theorem lowBits (k : Nat) (hk : k < 63) (c : Int) : bits .and .i64 c ((2 ^ k - 1 : Nat) : Int) = ((c % (2 ^ k : Nat)).toNat : Int) := by
  have hp : 2 ^ k < 2 ^ 63 := Nat.pow_lt_pow_right (by omega) hk
  have h0 : 0 < 2 ^ k := Nat.two_pow_pos k
  have e : (BitVec.ofInt 64 c).toNat &&& (BitVec.ofInt 64 ((2 ^ k - 1 : Nat) : Int)).toNat = (c % (2 ^ k : Nat)).toNat := by
    rw [ofInt_u64 _ (by omega), Nat.and_two_pow_sub_one_eq_mod, BitVec.toNat_ofInt]
    have h1 : c % (2 ^ k : Nat) = (c % (2 ^ 64 : Nat)) % (2 ^ k : Nat) := (Int.emod_emod_of_dvd c (Int.natCast_dvd_natCast.2 (Nat.pow_dvd_pow 2 (by omega)))).symm
    have h2 := Int.emod_nonneg c (show ((2 ^ 64 : Nat) : Int) ≠ 0 by omega)
    rw [h1, Int.toNat_emod h2 (by omega), Int.toNat_natCast]
  show IntKind.i64.wrap ((BitVec.ofInt 64 c &&& BitVec.ofInt 64 ((2 ^ k - 1 : Nat) : Int)).toNat : Int) = _
  rw [BitVec.toNat_and, e]
  have h2 := Int.emod_nonneg c (show ((2 ^ k : Nat) : Int) ≠ 0 by omega)
  have h3 := Int.emod_lt_of_pos c (show (0 : Int) < ((2 ^ k : Nat) : Int) by omega)
  exact wrap_i64_nat _ (by omega)

end Go.Proofs.Ytlepmiijdpcgnaa
