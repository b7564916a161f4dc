/- Small calls of the statements: Num, and what goes on. -/
import Derived.Test.YtcobadgpelhcoaaDoorUtf
import Derived.Test.YtcobadgpelhcoaaDoorProg
import Derived.WalkKit
import Derived.ProofKit
import Derived.Lib.Hide
import Derived.WalkLawsBesides
import Derived.WalkSpells
namespace Go.Proofs.YtcobadgpelhcoaaDoor
open Go.RowKit
set_option linter.unusedVariables false

theorem num_any (n : Int) (w : World) : Calls Tryd.prog 13 #[.int .i64 n] w fun e w' => e = .returned (.int .i64 n) ∧ w = w' := by
  go_enter Tryd.func13, Tryd.ntmps13
  go_wp2
  go_ret
  exact ⟨rfl, rfl⟩

theorem ret_pair {a b c d : Int} (h : (a, b) = (c, d)) : Ending.returned (.tuple #[.int .i64 a, .int .i64 b]) = .returned (.tuple #[.int .i64 c, .int .i64 d]) := by
  cases h; rfl
theorem ret_int {k : IntKind} {a b : Int} (h : a = b) : Ending.returned (.int k a) = .returned (.int k b) := by rw [h]

/-- What goes on, as the document's answer asks it. -/
theorem next_any (s : ByteArray) (i : Nat) (hs : s.size ≤ 9223372036854775807) (hi : i ≤ 9223372036854775807) (w : World) : Calls Tryd.prog 74 #[.string s, .int .i64 i] w fun e w' => e = .returned (.int .i64 (nxt s.data.toList i)) ∧ w = w' := by
  by_cases h : i < s.size
  · have hl : i < s.data.toList.length := by simpa using h
    by_cases h1 : s[i].toNat < 128
    · have e : nxt s.data.toList i = -1 := nxt_no hl (.inl h1)
      rw [e]; clear e
      go_enter Tryd.func74, Tryd.ntmps74
      go_wp2
      go_ret
      exact ⟨rfl, rfl⟩
    by_cases h2 : 191 < s[i].toNat
    · have e : nxt s.data.toList i = -1 := nxt_no hl (.inr h2)
      rw [e]; clear e
      go_enter Tryd.func74, Tryd.ntmps74
      go_wp2
      go_ret
      exact ⟨rfl, rfl⟩
    · have e : nxt s.data.toList i = (s[i].toNat : Int) - 128 := nxt_yes hl (by show 128 ≤ s[i].toNat; omega) (by show s[i].toNat ≤ 191; omega)
      rw [e]; clear e
      go_enter Tryd.func74, Tryd.ntmps74
      go_wp2
      go_ret
      exact ⟨rfl, rfl⟩
  · have e : nxt s.data.toList i = -1 := nxt_none (by simp; omega)
    rw [e]; clear e
    go_enter Tryd.func74, Tryd.ntmps74
    go_wp2
    go_ret
    exact ⟨rfl, rfl⟩

end Go.Proofs.YtcobadgpelhcoaaDoor
