/- First of utf: the first place that is no rune's beginning; Valid. -/
import Derived.Test.YtcobadgpelhcoaaDoorRune
import Derived.Test.YtcobadgpelhcoaaDoorUtf2
namespace Go.Proofs.YtcobadgpelhcoaaDoor
open Go.RowKit
set_option linter.unusedVariables false

set_option maxHeartbeats 1000000 in
theorem ufirst_any (s : ByteArray) (hs : s.size ≤ 9223372036854775000) (w : World) :
    Calls Tryd.prog 78 #[.string s] w fun e w' => e = .returned (.int .i64 (first s.data.toList)) ∧ w = w' := by
  have hlen : s.data.toList.length = s.size := by simp
  have HL := Lib.hid hlen
  clear hlen
  generalize hF : first s.data.toList = F
  have HF := Lib.hid hF
  clear hF
  go_enter Tryd.func78, Tryd.ntmps78
  go_wp2
  go_loop [3] (fun i => ∃ k : Nat, k ≤ s.size ∧ i = .int .i64 k ∧ firstAt s.data.toList k = F) (fun i => s.size - (intOf i).toNat)
  case atStart => exact ⟨0, Nat.zero_le _, rfl, HF.out⟩
  case round =>
    obtain ⟨k, hk, rfl, hF⟩ := hrel
    by_cases hlt : k < s.size
    · have T := Lib.hid (urune_in s k hlt (by omega))
      have hl : k < s.data.toList.length := by rw [HL.out]; exact hlt
      have hle := rr_le s.data.toList k
      have hin := rr_in s.data.toList k
      have hstop := @firstAt_stop s.data.toList k hl
      have hgo := @firstAt_go s.data.toList k hl
      rw [HL.out] at hin
      clear hl
      generalize rr s.data.toList k = p at *
      obtain ⟨q1, q2⟩ := p
      simp only at hle hin hstop hgo T
      obtain ⟨m, rfl⟩ : ∃ m : Nat, q2 = (m : Int) := ⟨q2.toNat, by omega⟩
      by_cases h0 : m = 0
      · subst h0
        rw [hstop rfl] at hF
        subst hF
        clear hle hin hstop hgo
        go_wp2_with (go_at_call 92; refine (T.out _).mono ?_; rintro e w' ⟨rfl, rfl⟩)
        go_ret
        exact ⟨rfl, rfl⟩
      · have hin' := hin (by omega)
        rw [hgo (by omega)] at hF
        have HF2 := Lib.hid hF
        have gk : ((m : Int) == 0) = false := by simpa using h0
        clear hle hin hstop hgo hF
        go_wp2_with (go_at_call 92; refine (T.out _).mono ?_; rintro e w' ⟨rfl, rfl⟩)
        go_round
        case rel => exact ⟨k + m, by omega, by go_num, HF2.out⟩
        case measure => simp [intOf]; omega
    · have e : firstAt s.data.toList k = -1 := firstAt_end (by rw [HL.out]; exact hlt)
      rw [e] at hF
      subst hF
      clear e
      go_wp2
      go_ret
      exact ⟨rfl, rfl⟩

theorem uvalid_any (s : ByteArray) (hs : s.size ≤ 9223372036854775000) (w : World) :
    Calls Tryd.prog 61 #[.string s] w fun e w' => e = .returned (.bool (decide (first s.data.toList = -1))) ∧ w = w' := by
  have T := Lib.hid (ufirst_any s hs)
  have hr := first_range s.data.toList
  generalize first s.data.toList = F at *
  by_cases h : F = -1
  · subst h
    clear hr
    go_enter Tryd.func61, Tryd.ntmps61
    go_wp2_with (go_at_call 78; refine (T.out _).mono ?_; rintro e w' ⟨rfl, rfl⟩)
    go_ret
    exact ⟨rfl, rfl⟩
  · have hp : 0 ≤ F := by omega
    have gk : (F == -1) = false := by simpa using h
    have e : decide (F = -1) = false := by simpa using h
    have g2 : decide (F < 0) = false := by simpa using hp
    rw [e]
    clear hr e
    go_enter Tryd.func61, Tryd.ntmps61
    go_wp2_with (go_at_call 78; refine (T.out _).mono ?_; rintro e w' ⟨rfl, rfl⟩)
    go_ret
    exact ⟨rfl, rfl⟩
end Go.Proofs.YtcobadgpelhcoaaDoor
