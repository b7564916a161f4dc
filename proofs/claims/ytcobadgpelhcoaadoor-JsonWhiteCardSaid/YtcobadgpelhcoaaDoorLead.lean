/- The small calls: what a first byte tells, how long a rune is, what goes on. -/
import Derived.Test.YtcobadgpelhcoaaDoorRLead
import Derived.Test.YtcobadgpelhcoaaDoorProg
import Derived.WalkKit
import Derived.ProofKit
import Derived.Lib.Hide
import Derived.WalkLawsBesides
import Derived.WalkSpells
namespace Go.Proofs.YtcobadgpelhcoaaDoor
open Go.RowKit
set_option linter.unusedVariables false

set_option maxRecDepth 100000 in
theorem readLead_any (c : Nat) (hc : c ≤ 255) (w : World) : Calls Tryd.prog 101 #[.int .u8 c] w fun e w' => e = .returned (.tuple #[.int .i64 (rl c).1, .int .i64 (rl c).2]) ∧ w = w' := by
  by_cases h1 : c ≤ 127
  · have e : rl c = ((c : Int), 1) := by unfold rl; rw [if_pos (by omega)]
    rw [e]; clear e
    go_enter Tryd.func101, Tryd.ntmps101
    go_wp2
    go_ret2
    exact ⟨rfl, rfl⟩
  by_cases h2 : c < 192
  · have e : rl c = (0, 0) := by unfold rl; rw [if_neg (by omega), if_pos (by omega)]
    rw [e]; clear e
    go_enter Tryd.func101, Tryd.ntmps101
    go_wp2
    go_ret2
    exact ⟨rfl, rfl⟩
  by_cases h3 : c < 224
  · have e : rl c = ((c : Int) - 192, 2) := by unfold rl; rw [if_neg (by omega), if_neg (by omega), if_pos (by omega)]
    rw [e]; clear e
    go_enter Tryd.func101, Tryd.ntmps101
    go_wp2
    go_ret2
    exact ⟨rfl, rfl⟩
  by_cases h4 : c < 240
  · have e : rl c = ((c : Int) - 224, 3) := by unfold rl; rw [if_neg (by omega), if_neg (by omega), if_neg (by omega), if_pos (by omega)]
    rw [e]; clear e
    go_enter Tryd.func101, Tryd.ntmps101
    go_wp2
    go_ret2
    exact ⟨rfl, rfl⟩
  by_cases h5 : c < 248
  · have e : rl c = ((c : Int) - 240, 4) := by unfold rl; rw [if_neg (by omega), if_neg (by omega), if_neg (by omega), if_neg (by omega), if_pos (by omega)]
    rw [e]; clear e
    go_enter Tryd.func101, Tryd.ntmps101
    go_wp2
    go_ret2
    exact ⟨rfl, rfl⟩
  · have e : rl c = (0, 0) := by unfold rl; rw [if_neg (by omega), if_neg (by omega), if_neg (by omega), if_neg (by omega), if_neg (by omega)]
    rw [e]; clear e
    go_enter Tryd.func101, Tryd.ntmps101
    go_wp2
    go_ret2
    exact ⟨rfl, rfl⟩

theorem sizeOf_any (r : Int) (w : World) : Calls Tryd.prog 102 #[.int .i64 r] w fun e w' => e = .returned (.int .i64 (sz r)) ∧ w = w' := by
  by_cases h0 : r < 0
  · have e : sz r = 0 := by unfold sz; rw [if_pos (by omega)]
    rw [e]; clear e
    go_enter Tryd.func102, Tryd.ntmps102
    go_wp2
    go_ret
    exact ⟨rfl, rfl⟩
  by_cases h1 : 1114111 < r
  · have e : sz r = 0 := by unfold sz; rw [if_pos (by omega)]
    rw [e]; clear e
    go_enter Tryd.func102, Tryd.ntmps102
    go_wp2
    go_ret
    exact ⟨rfl, rfl⟩
  by_cases h2 : 55296 ≤ r
  · by_cases h3 : r ≤ 57343
    · have e : sz r = 0 := by unfold sz; rw [if_neg (by omega), if_pos (by omega)]
      rw [e]; clear e
      go_enter Tryd.func102, Tryd.ntmps102
      go_wp2
      go_ret
      exact ⟨rfl, rfl⟩
    by_cases h4 : r ≤ 65535
    · have e : sz r = 3 := by unfold sz; rw [if_neg (by omega), if_neg (by omega), if_neg (by omega), if_neg (by omega), if_pos (by omega)]
      rw [e]; clear e
      go_enter Tryd.func102, Tryd.ntmps102
      go_wp2
      go_ret
      exact ⟨rfl, rfl⟩
    · have e : sz r = 4 := by unfold sz; rw [if_neg (by omega), if_neg (by omega), if_neg (by omega), if_neg (by omega), if_neg (by omega)]
      rw [e]; clear e
      go_enter Tryd.func102, Tryd.ntmps102
      go_wp2
      go_ret
      exact ⟨rfl, rfl⟩
  by_cases h3 : r ≤ 127
  · have e : sz r = 1 := by unfold sz; rw [if_neg (by omega), if_neg (by omega), if_pos (by omega)]
    rw [e]; clear e
    go_enter Tryd.func102, Tryd.ntmps102
    go_wp2
    go_ret
    exact ⟨rfl, rfl⟩
  by_cases h4 : r ≤ 2047
  · have e : sz r = 2 := by unfold sz; rw [if_neg (by omega), if_neg (by omega), if_neg (by omega), if_pos (by omega)]
    rw [e]; clear e
    go_enter Tryd.func102, Tryd.ntmps102
    go_wp2
    go_ret
    exact ⟨rfl, rfl⟩
  · have e : sz r = 3 := by unfold sz; rw [if_neg (by omega), if_neg (by omega), if_neg (by omega), if_neg (by omega), if_pos (by omega)]
    rw [e]; clear e
    go_enter Tryd.func102, Tryd.ntmps102
    go_wp2
    go_ret
    exact ⟨rfl, rfl⟩

/-- What stands ahead of a first byte's bits. -/
theorem leadMark_two (w : World) : Calls Tryd.prog 108 #[.int .i64 2] w fun e w' => e = .returned (.int .u8 192) ∧ w = w' := by
  go_enter Tryd.func108, Tryd.ntmps108
  go_wp2
  go_ret
  exact ⟨rfl, rfl⟩
theorem leadMark_three (w : World) : Calls Tryd.prog 108 #[.int .i64 3] w fun e w' => e = .returned (.int .u8 224) ∧ w = w' := by
  go_enter Tryd.func108, Tryd.ntmps108
  go_wp2
  go_ret
  exact ⟨rfl, rfl⟩
theorem leadMark_four (w : World) : Calls Tryd.prog 108 #[.int .i64 4] w fun e w' => e = .returned (.int .u8 240) ∧ w = w' := by
  go_enter Tryd.func108, Tryd.ntmps108
  go_wp2
  go_ret
  exact ⟨rfl, rfl⟩
theorem leadMark_one (w : World) : Calls Tryd.prog 108 #[.int .i64 1] w fun e w' => e = .returned (.int .u8 0) ∧ w = w' := by
  go_enter Tryd.func108, Tryd.ntmps108
  go_wp2
  go_ret
  exact ⟨rfl, rfl⟩
end Go.Proofs.YtcobadgpelhcoaaDoor
