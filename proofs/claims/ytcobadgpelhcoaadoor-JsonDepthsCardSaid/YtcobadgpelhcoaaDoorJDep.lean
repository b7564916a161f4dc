/- Lists and objects within each other, so many deep: what they are as text. -/
import Derived.Test.YtcobadgpelhcoaaDoorSSame
import Derived.Test.YtcobadgpelhcoaaDoorJAwake
namespace Go.Proofs.YtcobadgpelhcoaaDoor
open Go.Conc Go.RowKit
set_option linter.unusedVariables false
set_option linter.unusedSimpArgs false

def keyK : ByteArray := ⟨#[107]⟩
def dJ (obj : Bool) : Nat → J
  | 0 => jNull
  | i + 1 => if obj then jObj [keyK] [dJ obj i] else jList [dJ obj i]
def opB (obj : Bool) : Nat → ByteArray
  | 0 => ⟨#[]⟩
  | i + 1 => opB obj i ++ (if obj then ⟨#[123, 34, 107, 34, 58]⟩ else ⟨#[91]⟩)
def shB (obj : Bool) : Nat → ByteArray
  | 0 => ⟨#[]⟩
  | i + 1 => shB obj i ++ (if obj then ⟨#[125]⟩ else ⟨#[93]⟩)
def dB (obj : Bool) (k : Nat) : ByteArray := (opB obj k ++ ⟨#[110, 117, 108, 108]⟩) ++ shB obj k
theorem opB_size (obj : Bool) (i : Nat) : (opB obj i).size ≤ 5 * i := by
  induction i with
  | zero => exact Nat.le_refl _
  | succ i ih =>
    show (opB obj i ++ _).size ≤ _
    rw [ByteArray.size_append]
    cases obj
    · show _ + 1 ≤ _; omega
    · show _ + 5 ≤ _; omega
theorem shB_size (obj : Bool) (i : Nat) : (shB obj i).size ≤ i := by
  induction i with
  | zero => exact Nat.le_refl _
  | succ i ih =>
    show (shB obj i ++ _).size ≤ _
    rw [ByteArray.size_append]
    cases obj
    · show _ + 1 ≤ _; omega
    · show _ + 1 ≤ _; omega
theorem dB_size (obj : Bool) (k : Nat) : (dB obj k).size ≤ 6 * k + 4 := by
  unfold dB
  rw [ByteArray.size_append, ByteArray.size_append]
  have := opB_size obj k
  have := shB_size obj k
  show _ + 4 + _ ≤ _
  omega
theorem dJ_sm (obj : Bool) (k : Nat) : JSm (dJ obj k) := by
  induction k with
  | zero => exact jsm_scal 0 false 0 ByteArray.empty (by decide) (by decide)
  | succ k ih =>
    cases obj
    · exact .mk 4 false 0 ByteArray.empty [dJ false k] [] (by decide) (by decide) (by show 1 ≤ 2000000; omega) (by decide) (fun q hq => by simp at hq) (fun y hy => by simp only [List.mem_singleton] at hy; subst hy; exact ih)
    · exact .mk 5 false 0 ByteArray.empty [dJ true k] [keyK] (by decide) (by decide) (by show 1 ≤ 2000000; omega) (by decide) (fun q hq => by simp only [List.mem_singleton] at hq; subst hq; decide) (fun y hy => by simp only [List.mem_singleton] at hy; subst hy; exact ih)

set_option maxRecDepth 100000 in
theorem d_parse (obj : Bool) (k : Nat) (h : k < 32) : parseN numD (dB obj k).data.toList = if 16 < k then .error 301 else .ok (dJ obj k) := by
  rcases (by omega : k = 0 ∨ k = 1 ∨ k = 2 ∨ k = 3 ∨ k = 4 ∨ k = 5 ∨ k = 6 ∨ k = 7 ∨ k = 8 ∨ k = 9 ∨ k = 10 ∨ k = 11 ∨ k = 12 ∨ k = 13 ∨ k = 14 ∨ k = 15 ∨ k = 16 ∨ k = 17 ∨ k = 18 ∨ k = 19 ∨ k = 20 ∨ k = 21 ∨ k = 22 ∨ k = 23 ∨ k = 24 ∨ k = 25 ∨ k = 26 ∨ k = 27 ∨ k = 28 ∨ k = 29 ∨ k = 30 ∨ k = 31) with rfl | rfl | rfl | rfl | rfl | rfl | rfl | rfl | rfl | rfl | rfl | rfl | rfl | rfl | rfl | rfl | rfl | rfl | rfl | rfl | rfl | rfl | rfl | rfl | rfl | rfl | rfl | rfl | rfl | rfl | rfl | rfl
  all_goals (cases obj <;> kernel_rfl)

set_option maxRecDepth 100000 in
theorem d_print (obj : Bool) (k : Nat) (h : k < 32) : printN (dJ obj k) = if 16 < k then .error 301 else .ok (dB obj k).data.toList := by
  rcases (by omega : k = 0 ∨ k = 1 ∨ k = 2 ∨ k = 3 ∨ k = 4 ∨ k = 5 ∨ k = 6 ∨ k = 7 ∨ k = 8 ∨ k = 9 ∨ k = 10 ∨ k = 11 ∨ k = 12 ∨ k = 13 ∨ k = 14 ∨ k = 15 ∨ k = 16 ∨ k = 17 ∨ k = 18 ∨ k = 19 ∨ k = 20 ∨ k = 21 ∨ k = 22 ∨ k = 23 ∨ k = 24 ∨ k = 25 ∨ k = 26 ∨ k = 27 ∨ k = 28 ∨ k = 29 ∨ k = 30 ∨ k = 31) with rfl | rfl | rfl | rfl | rfl | rfl | rfl | rfl | rfl | rfl | rfl | rfl | rfl | rfl | rfl | rfl | rfl | rfl | rfl | rfl | rfl | rfl | rfl | rfl | rfl | rfl | rfl | rfl | rfl | rfl | rfl | rfl
  all_goals (cases obj <;> kernel_rfl)

end Go.Proofs.YtcobadgpelhcoaaDoor
