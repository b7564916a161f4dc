/- The small calls: what a first byte tells, how long a rune is, what goes on. -/
import Derived.Test.YtfnjhlfhonjenaaUtf
import Derived.Test.YtfnjhlfhonjenaaProg
import Derived.WalkKit
import Derived.ProofKit
import Derived.Lib.Hide
import Derived.WalkLawsBesides
import Derived.WalkSpells
namespace Go.Proofs.Ytfnjhlfhonjenaa
open Go.RowKit
set_option linter.unusedVariables false

theorem num_any (n : Int) (w : World) : Calls Try.prog 15 #[.int .i64 n] w fun e w' => e = .returned (.int .i64 n) ∧ w = w' := by
  go_enter Try.func15, Try.ntmps15
  go_wp2
  go_ret
  exact ⟨rfl, rfl⟩

theorem ret_pair {a b c d : Int} (h : (a, b) = (c, d)) : Ending.returned (.tuple #[.int .i64 a, .int .i64 b]) = .returned (.tuple #[.int .i64 c, .int .i64 d]) := by
  cases h; rfl
theorem ret_int {k : IntKind} {a b : Int} (h : a = b) : Ending.returned (.int k a) = .returned (.int k b) := by rw [h]

set_option maxRecDepth 100000 in
theorem readLead_any (c : Nat) (hc : c ≤ 255) (w : World) : Calls Try.prog 17 #[.int .u8 c] w fun e w' => e = .returned (.tuple #[.int .i64 (rl c).1, .int .i64 (rl c).2]) ∧ w = w' := by
  by_cases h1 : c ≤ 127
  · have e : rl c = ((c : Int), 1) := by unfold rl; rw [if_pos (by omega)]
    rw [e]; clear e
    go_enter Try.func17, Try.ntmps17
    go_wp2
    go_ret2
    exact ⟨rfl, rfl⟩
  by_cases h2 : c < 192
  · have e : rl c = (0, 0) := by unfold rl; rw [if_neg (by omega), if_pos (by omega)]
    rw [e]; clear e
    go_enter Try.func17, Try.ntmps17
    go_wp2
    go_ret2
    exact ⟨rfl, rfl⟩
  by_cases h3 : c < 224
  · have e : rl c = ((c : Int) - 192, 2) := by unfold rl; rw [if_neg (by omega), if_neg (by omega), if_pos (by omega)]
    rw [e]; clear e
    go_enter Try.func17, Try.ntmps17
    go_wp2
    go_ret2
    exact ⟨rfl, rfl⟩
  by_cases h4 : c < 240
  · have e : rl c = ((c : Int) - 224, 3) := by unfold rl; rw [if_neg (by omega), if_neg (by omega), if_neg (by omega), if_pos (by omega)]
    rw [e]; clear e
    go_enter Try.func17, Try.ntmps17
    go_wp2
    go_ret2
    exact ⟨rfl, rfl⟩
  by_cases h5 : c < 248
  · have e : rl c = ((c : Int) - 240, 4) := by unfold rl; rw [if_neg (by omega), if_neg (by omega), if_neg (by omega), if_neg (by omega), if_pos (by omega)]
    rw [e]; clear e
    go_enter Try.func17, Try.ntmps17
    go_wp2
    go_ret2
    exact ⟨rfl, rfl⟩
  · have e : rl c = (0, 0) := by unfold rl; rw [if_neg (by omega), if_neg (by omega), if_neg (by omega), if_neg (by omega), if_neg (by omega)]
    rw [e]; clear e
    go_enter Try.func17, Try.ntmps17
    go_wp2
    go_ret2
    exact ⟨rfl, rfl⟩

theorem sizeOf_any (r : Int) (w : World) : Calls Try.prog 18 #[.int .i64 r] w fun e w' => e = .returned (.int .i64 (sz r)) ∧ w = w' := by
  by_cases h0 : r < 0
  · have e : sz r = 0 := by unfold sz; rw [if_pos (by omega)]
    rw [e]; clear e
    go_enter Try.func18, Try.ntmps18
    go_wp2
    go_ret
    exact ⟨rfl, rfl⟩
  by_cases h1 : 1114111 < r
  · have e : sz r = 0 := by unfold sz; rw [if_pos (by omega)]
    rw [e]; clear e
    go_enter Try.func18, Try.ntmps18
    go_wp2
    go_ret
    exact ⟨rfl, rfl⟩
  by_cases h2 : 55296 ≤ r
  · by_cases h3 : r ≤ 57343
    · have e : sz r = 0 := by unfold sz; rw [if_neg (by omega), if_pos (by omega)]
      rw [e]; clear e
      go_enter Try.func18, Try.ntmps18
      go_wp2
      go_ret
      exact ⟨rfl, rfl⟩
    by_cases h4 : r ≤ 65535
    · have e : sz r = 3 := by unfold sz; rw [if_neg (by omega), if_neg (by omega), if_neg (by omega), if_neg (by omega), if_pos (by omega)]
      rw [e]; clear e
      go_enter Try.func18, Try.ntmps18
      go_wp2
      go_ret
      exact ⟨rfl, rfl⟩
    · have e : sz r = 4 := by unfold sz; rw [if_neg (by omega), if_neg (by omega), if_neg (by omega), if_neg (by omega), if_neg (by omega)]
      rw [e]; clear e
      go_enter Try.func18, Try.ntmps18
      go_wp2
      go_ret
      exact ⟨rfl, rfl⟩
  by_cases h3 : r ≤ 127
  · have e : sz r = 1 := by unfold sz; rw [if_neg (by omega), if_neg (by omega), if_pos (by omega)]
    rw [e]; clear e
    go_enter Try.func18, Try.ntmps18
    go_wp2
    go_ret
    exact ⟨rfl, rfl⟩
  by_cases h4 : r ≤ 2047
  · have e : sz r = 2 := by unfold sz; rw [if_neg (by omega), if_neg (by omega), if_neg (by omega), if_pos (by omega)]
    rw [e]; clear e
    go_enter Try.func18, Try.ntmps18
    go_wp2
    go_ret
    exact ⟨rfl, rfl⟩
  · have e : sz r = 3 := by unfold sz; rw [if_neg (by omega), if_neg (by omega), if_neg (by omega), if_neg (by omega), if_pos (by omega)]
    rw [e]; clear e
    go_enter Try.func18, Try.ntmps18
    go_wp2
    go_ret
    exact ⟨rfl, rfl⟩

/-- What goes on, as the document's answer asks it. -/
theorem next_any (s : ByteArray) (i : Nat) (hs : s.size ≤ 9223372036854775807) (hi : i ≤ 9223372036854775807) (w : World) : Calls Try.prog 19 #[.string s, .int .i64 i] w fun e w' => e = .returned (.int .i64 (nxt s.data.toList i)) ∧ w = w' := by
  by_cases h : i < s.size
  · have hl : i < s.data.toList.length := by simpa using h
    by_cases h1 : s[i].toNat < 128
    · have e : nxt s.data.toList i = -1 := nxt_no hl (.inl h1)
      rw [e]; clear e
      go_enter Try.func19, Try.ntmps19
      go_wp2
      go_ret
      exact ⟨rfl, rfl⟩
    by_cases h2 : 191 < s[i].toNat
    · have e : nxt s.data.toList i = -1 := nxt_no hl (.inr h2)
      rw [e]; clear e
      go_enter Try.func19, Try.ntmps19
      go_wp2
      go_ret
      exact ⟨rfl, rfl⟩
    · have e : nxt s.data.toList i = (s[i].toNat : Int) - 128 := nxt_yes hl (by show 128 ≤ s[i].toNat; omega) (by show s[i].toNat ≤ 191; omega)
      rw [e]; clear e
      go_enter Try.func19, Try.ntmps19
      go_wp2
      go_ret
      exact ⟨rfl, rfl⟩
  · have e : nxt s.data.toList i = -1 := nxt_none (by simp; omega)
    rw [e]; clear e
    go_enter Try.func19, Try.ntmps19
    go_wp2
    go_ret
    exact ⟨rfl, rfl⟩

/-- What stands ahead of a first byte's bits. -/
theorem leadMark_two (w : World) : Calls Try.prog 20 #[.int .i64 2] w fun e w' => e = .returned (.int .u8 192) ∧ w = w' := by
  go_enter Try.func20, Try.ntmps20
  go_wp2
  go_ret
  exact ⟨rfl, rfl⟩
theorem leadMark_three (w : World) : Calls Try.prog 20 #[.int .i64 3] w fun e w' => e = .returned (.int .u8 224) ∧ w = w' := by
  go_enter Try.func20, Try.ntmps20
  go_wp2
  go_ret
  exact ⟨rfl, rfl⟩
theorem leadMark_four (w : World) : Calls Try.prog 20 #[.int .i64 4] w fun e w' => e = .returned (.int .u8 240) ∧ w = w' := by
  go_enter Try.func20, Try.ntmps20
  go_wp2
  go_ret
  exact ⟨rfl, rfl⟩
theorem leadMark_one (w : World) : Calls Try.prog 20 #[.int .i64 1] w fun e w' => e = .returned (.int .u8 0) ∧ w = w' := by
  go_enter Try.func20, Try.ntmps20
  go_wp2
  go_ret
  exact ⟨rfl, rfl⟩
end Go.Proofs.Ytfnjhlfhonjenaa
