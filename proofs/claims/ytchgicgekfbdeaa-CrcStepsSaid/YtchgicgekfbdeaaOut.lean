/- A step's bits, out of a sum; the plain way. -/
import Derived.Test.YtchgicgekfbdeaaCrc
import Derived.Test.YtchgicgekfbdeaaProg
import Derived.WalkKit
import Derived.ProofKit
import Derived.Lib.Hide
import Derived.WalkLawsBesides
import Derived.WalkSpells
namespace Go.Proofs.Ytchgicgekfbdeaa
open Go.RowKit
set_option linter.unusedVariables false

theorem and1 (x : Nat) (h : x < 4294967296) : bits .and .u32 (x : Int) 1 = ((x % 2 : Nat) : Int) := by
  have := u32_and_nat x 1 h (by omega)
  rw [show ((1 : Nat) : Int) = 1 from rfl] at this
  rw [this, Nat.and_one_is_mod]
theorem xorD (x : Nat) (h : x < 4294967296) : bits .xor .u32 (x : Int) 3988292384 = ((x ^^^ 3988292384 : Nat) : Int) := by
  have := u32_xor_nat x 3988292384 h (by omega)
  exact this

set_option maxRecDepth 100000 in
theorem cout_any (x : Nat) (h : x < 4294967296) (w : World) : Calls Try.prog 18 #[.int .u32 (x : Int)] w fun e w' => e = .returned (.int .u32 (stn 4 x : Nat)) ∧ w = w' := by
  go_enter Try.func18, Try.ntmps18
  go_wp2
  go_loop [0, 4] (fun s i => ∃ n y : Nat, n ≤ 4 ∧ y < 4294967296 ∧ i = .int .i64 (4 - n) ∧ s = .int .u32 y ∧ stn n y = stn 4 x) (fun _ i => (4 - intOf i).toNat)
  case atStart => exact ⟨4, x, by omega, h, rfl, rfl, rfl⟩
  case round =>
    obtain ⟨n, y, hn, hy, rfl, rfl, e⟩ := hrel
    have e1 := and1 y hy
    by_cases c : n = 0
    · subst c
      go_wp2
      go_ret
      exact ⟨by rw [← e]; rfl, rfl⟩
    · obtain ⟨n, rfl⟩ : ∃ m, n = m + 1 := ⟨n - 1, by omega⟩
      by_cases c1 : y % 2 = 1
      · have hs : st y = y / 2 ^^^ 3988292384 := by unfold st; rw [if_pos c1]
        have e2 : bits .xor .u32 ((y : Int) / 2) 3988292384 = ((y / 2 ^^^ 3988292384 : Nat) : Int) := xorD (y / 2) (by omega)
        rw [c1] at e1
        go_wp2
        go_round
        case rel => exact ⟨n, st y, by omega, st_lt hy, by congr 1; omega, by rw [hs, ← e2], e⟩
        case measure => simp [intOf]; omega
      · have hs : st y = y / 2 := by unfold st; rw [if_neg c1]
        rw [show y % 2 = 0 by omega] at e1
        go_wp2
        go_round
        case rel => exact ⟨n, st y, by omega, st_lt hy, by congr 1; omega, by rw [hs]; rfl, e⟩
        case measure => simp [intOf]; omega
end Go.Proofs.Ytchgicgekfbdeaa
