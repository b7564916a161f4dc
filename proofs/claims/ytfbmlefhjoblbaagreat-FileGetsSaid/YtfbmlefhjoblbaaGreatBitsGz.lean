/- Spaces and remarks left out: a claim is at most so large. -/
import Derived.Laws.BitsAllLaws
import Derived.WalkKit
namespace Go.Proofs.YtfbmlefhjoblbaaGreat
open Go
theorem wrap_i64_nat (n:Nat) (h:n < 9223372036854775808):IntKind.i64.wrap (n:Int)=(n:Int):=by
  have e:(n:Int) % 2 ^ 64=n:=Int.emod_eq_of_lt (by omega) (by omega)
  simp only [IntKind.wrap,IntKind.bits,IntKind.signed,e]
  rw [if_neg]
  simp
  omega
theorem nat_hi2 (b:Nat) (h:b < 256):b &&& 192=b / 64 * 64:=by
  have:∀ x:Fin 256,x.val &&& 192=x.val / 64 * 64:=by decide +kernel
  exact this ⟨b,h⟩
theorem u8_hi2 (b:Nat) (h:b < 256):bits .andNot .u8 (b:Int) 63=((b / 64 * 64:Nat):Int):=by
  have:=u8_andNot_nat b 63 h (by omega)
  rw [show ((63:Nat):Int)=63 from rfl] at this
  rw [this,show 255 - 63=192 from rfl,nat_hi2 b h]
theorem u8_lo6 (b:Nat) (h:b < 256):bits .and .u8 (b:Int) 63=((b % 64:Nat):Int):=by
  have:=u8_and_nat b 63 h (by omega)
  rw [show ((63:Nat):Int)=63 from rfl] at this
  rw [this,nat_mask6]
theorem i64_or_join (r y:Nat) (h:r * 64 + y < 9223372036854775808) (hy:y < 64):bits .or .i64 ((r * 64:Nat):Int) (y:Int)=((r * 64 + y:Nat):Int):=by
  show IntKind.i64.wrap ((BitVec.ofInt 64 ((r * 64:Nat):Int) ||| BitVec.ofInt 64 ((y:Nat):Int)).toNat:Int)=_
  rw [BitVec.toNat_or,ofInt_u64 _ (by omega),ofInt_u64 y (by omega),nat_join 6 (r * 64) y (by omega) (by omega)]
  exact wrap_i64_nat _ h
end Go.Proofs.YtfbmlefhjoblbaaGreat
namespace Go.Proofs.YtfbmlefhjoblbaaGreat
open Go.RowKit
set_option linter.unusedVariables false
end Go.Proofs.YtfbmlefhjoblbaaGreat
