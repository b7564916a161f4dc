/- Rune of the document's answer, whole. -/
import Derived.Test.YtcobadgpelhcoaaDoorRRune
namespace Go.Proofs.YtcobadgpelhcoaaDoor
open Go.RowKit
set_option linter.unusedVariables false

set_option maxRecDepth 100000 in
theorem rrune_low (s : ByteArray) (i : Nat) (h : i < s.size) (hs : s.size ≤ 9223372036854775000) (h1 : 0 ≤ (s[i].toNat : Int)) (h2 : (s[i].toNat : Int) < 128) (w : World) :
    Calls Tryd.prog 57 #[.string s, .int .i64 i] w fun e w' => e = .returned (.tuple #[.int .i64 (rr s.data.toList i).1, .int .i64 (rr s.data.toList i).2]) ∧ w = w' := by
  have hl : i < s.data.toList.length := by simpa using h
  have hc : lead s.data.toList i = (s[i].toNat : Int) := lead_some hl
  have e : rr s.data.toList i = ((s[i].toNat : Int), 1) := by unfold rr; rw [hc]; unfold run4; rw [if_neg (by omega), if_pos (by omega)]
  rw [e]; clear e hc
  go_enter Tryd.func57, Tryd.ntmps57
  go_wp2_with fail
  go_ret2
  exact ⟨rfl, rfl⟩

set_option maxRecDepth 100000 in
theorem rrune_mid (s : ByteArray) (i : Nat) (h : i < s.size) (hs : s.size ≤ 9223372036854775000) (h1 : 128 ≤ (s[i].toNat : Int)) (h2 : (s[i].toNat : Int) < 194) (w : World) :
    Calls Tryd.prog 57 #[.string s, .int .i64 i] w fun e w' => e = .returned (.tuple #[.int .i64 (rr s.data.toList i).1, .int .i64 (rr s.data.toList i).2]) ∧ w = w' := by
  have hl : i < s.data.toList.length := by simpa using h
  have hc : lead s.data.toList i = (s[i].toNat : Int) := lead_some hl
  have e : rr s.data.toList i = (0, 0) := by unfold rr; rw [hc]; unfold run4; rw [if_neg (by omega), if_neg (by omega), if_pos (by omega)]
  rw [e]; clear e hc
  have g1 : decide ((s[i].toNat : Int) < 194) = true := by simpa using h2
  go_enter Tryd.func57, Tryd.ntmps57
  go_wp2_with fail
  go_ret2
  exact ⟨rfl, rfl⟩

set_option maxRecDepth 100000 in
theorem rrune_high (s : ByteArray) (i : Nat) (h : i < s.size) (hs : s.size ≤ 9223372036854775000) (h1 : 245 ≤ (s[i].toNat : Int)) (h2 : (s[i].toNat : Int) < 256) (w : World) :
    Calls Tryd.prog 57 #[.string s, .int .i64 i] w fun e w' => e = .returned (.tuple #[.int .i64 (rr s.data.toList i).1, .int .i64 (rr s.data.toList i).2]) ∧ w = w' := by
  have hl : i < s.data.toList.length := by simpa using h
  have hc : lead s.data.toList i = (s[i].toNat : Int) := lead_some hl
  have e : rr s.data.toList i = (0, 0) := by unfold rr; rw [hc]; unfold run4; rw [if_neg (by omega), if_neg (by omega), if_pos (by omega)]
  rw [e]; clear e hc
  have g1 : decide ((s[i].toNat : Int) < 194) = false := by simp; omega
  have g2 : decide (244 < (s[i].toNat : Int)) = true := by simp; omega
  go_enter Tryd.func57, Tryd.ntmps57
  go_wp2_with fail
  go_ret2
  exact ⟨rfl, rfl⟩

theorem rrune_in (s : ByteArray) (i : Nat) (h : i < s.size) (hs : s.size ≤ 9223372036854775000) (w : World) :
    Calls Tryd.prog 57 #[.string s, .int .i64 i] w fun e w' => e = .returned (.tuple #[.int .i64 (rr s.data.toList i).1, .int .i64 (rr s.data.toList i).2]) ∧ w = w' := by
  have := s[i].toNat_lt
  by_cases c1 : s[i].toNat < 128
  · exact rrune_low s i h hs (by omega) (by omega) w
  by_cases c2 : s[i].toNat < 194
  · exact rrune_mid s i h hs (by omega) (by omega) w
  by_cases c3 : 244 < s[i].toNat
  · exact rrune_high s i h hs (by omega) (by omega) w
  by_cases c4 : s[i].toNat < 224
  · exact rrune_two s i h hs (by omega) (by omega) w
  by_cases c5 : s[i].toNat < 240
  · exact rrune_three s i h hs (by omega) (by omega) w
  · exact rrune_four s i h hs (by omega) (by omega) w
end Go.Proofs.YtcobadgpelhcoaaDoor
