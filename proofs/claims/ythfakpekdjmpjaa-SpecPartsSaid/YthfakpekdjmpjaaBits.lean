/- Six bits of a byte, as the program takes them. No program is spoken of. Low bits of an int, an int as an uint by a number. No program is spoken of. -/
import Derived.Laws.BitsAllLaws
import Derived.WalkKit
namespace Go.Proofs.Ythfakpekdjmpjaa
open Go

theorem wrap_i64_nat (n : Nat) (h : n < 9223372036854775808) : IntKind.i64.wrap (n : Int) = (n : Int) := by
  have e : (n : Int) % 2 ^ 64 = n := Int.emod_eq_of_lt (by omega) (by omega)
  simp only [IntKind.wrap, IntKind.bits, IntKind.signed, e]
  rw [if_neg]
  simp
  omega

theorem nat_hi2 (b : Nat) (h : b < 256) : b &&& 192 = b / 64 * 64 := by
  have : ∀ x : Fin 256, x.val &&& 192 = x.val / 64 * 64 := by decide +kernel
  exact this ⟨b, h⟩
/-- The two bits ahead. -/
theorem u8_hi2 (b : Nat) (h : b < 256) : bits .andNot .u8 (b : Int) 63 = ((b / 64 * 64 : Nat) : Int) := by
  have := u8_andNot_nat b 63 h (by omega)
  rw [show ((63 : Nat) : Int) = 63 from rfl] at this
  rw [this, show 255 - 63 = 192 from rfl, nat_hi2 b h]
/-- The six behind. -/
theorem u8_lo6 (b : Nat) (h : b < 256) : bits .and .u8 (b : Int) 63 = ((b % 64 : Nat) : Int) := by
  have := u8_and_nat b 63 h (by omega)
  rw [show ((63 : Nat) : Int) = 63 from rfl] at this
  rw [this, nat_mask6]
theorem i64_or_join (r y : Nat) (h : r * 64 + y < 9223372036854775808) (hy : y < 64) : bits .or .i64 ((r * 64 : Nat) : Int) (y : Int) = ((r * 64 + y : Nat) : Int) := by
  show IntKind.i64.wrap ((BitVec.ofInt 64 ((r * 64 : Nat) : Int) ||| BitVec.ofInt 64 ((y : Nat) : Int)).toNat : Int) = _
  rw [BitVec.toNat_or, ofInt_u64 _ (by omega), ofInt_u64 y (by omega), nat_join 6 (r * 64) y (by omega) (by omega)]
  exact wrap_i64_nat _ h
theorem i64_lo6 (r : Nat) (h : r < 9223372036854775808) : bits .and .i64 (r : Int) 63 = ((r % 64 : Nat) : Int) := by
  show IntKind.i64.wrap ((BitVec.ofInt 64 (r : Int) &&& BitVec.ofInt 64 ((63 : Nat) : Int)).toNat : Int) = _
  rw [BitVec.toNat_and, ofInt_u64 _ (by omega), ofInt_u64 63 (by omega), nat_mask6]
  exact wrap_i64_nat _ (by omega)
/-- A mark of bits that a number has none of. -/
theorem u8_or_join (i x y : Nat) (hx : x % 2 ^ i = 0) (hy : y < 2 ^ i) (h : x < 256) (h' : y < 256) : bits .or .u8 (x : Int) (y : Int) = ((x + y : Nat) : Int) := by
  rw [u8_or_nat x y h h', nat_join i x y hx hy]
end Go.Proofs.Ythfakpekdjmpjaa

namespace Go.Proofs.Ythfakpekdjmpjaa
open Go.RowKit
set_option linter.unusedVariables false

theorem modN (x : Int) (n : Nat) (h0 : 0 < n) (hn : n < 9223372036854775808) : ∃ k : Nat, wrap64 ((IntKind.u64.wrap x).tmod (n : Int)) = (k : Int) ∧ k < n := by
  have h1 : 0 ≤ IntKind.u64.wrap x := by rw [IntKind.wrap_u64]; omega
  refine ⟨((IntKind.u64.wrap x) % (n : Int)).toNat, ?_, ?_⟩
  · rw [Int.tmod_eq_emod_of_nonneg h1]
    have h2 := Int.emod_nonneg (IntKind.u64.wrap x) (show (n : Int) ≠ 0 by omega)
    have h3 := Int.emod_lt_of_pos (IntKind.u64.wrap x) (show (0 : Int) < n by omega)
    unfold wrap64
    omega
  · have h2 := Int.emod_nonneg (IntKind.u64.wrap x) (show (n : Int) ≠ 0 by omega)
    have h3 := Int.emod_lt_of_pos (IntKind.u64.wrap x) (show (0 : Int) < n by omega)
    omega
/-- A number's low bits. -/
theorem lowBits (k : Nat) (hk : k < 63) (c : Int) : bits .and .i64 c ((2 ^ k - 1 : Nat) : Int) = ((c % (2 ^ k : Nat)).toNat : Int) := by
  have hp : 2 ^ k < 2 ^ 63 := Nat.pow_lt_pow_right (by omega) hk
  have h0 : 0 < 2 ^ k := Nat.two_pow_pos k
  have e : (BitVec.ofInt 64 c).toNat &&& (BitVec.ofInt 64 ((2 ^ k - 1 : Nat) : Int)).toNat = (c % (2 ^ k : Nat)).toNat := by
    rw [ofInt_u64 _ (by omega), Nat.and_two_pow_sub_one_eq_mod, BitVec.toNat_ofInt]
    have h1 : c % (2 ^ k : Nat) = (c % (2 ^ 64 : Nat)) % (2 ^ k : Nat) := (Int.emod_emod_of_dvd c (Int.natCast_dvd_natCast.2 (Nat.pow_dvd_pow 2 (by omega)))).symm
    have h2 := Int.emod_nonneg c (show ((2 ^ 64 : Nat) : Int) ≠ 0 by omega)
    rw [h1, Int.toNat_emod h2 (by omega), Int.toNat_natCast]
  show IntKind.i64.wrap ((BitVec.ofInt 64 c &&& BitVec.ofInt 64 ((2 ^ k - 1 : Nat) : Int)).toNat : Int) = _
  rw [BitVec.toNat_and, e]
  have h2 := Int.emod_nonneg c (show ((2 ^ k : Nat) : Int) ≠ 0 by omega)
  have h3 := Int.emod_lt_of_pos c (show (0 : Int) < ((2 ^ k : Nat) : Int) by omega)
  exact wrap_i64_nat _ (by omega)

end Go.Proofs.Ythfakpekdjmpjaa
