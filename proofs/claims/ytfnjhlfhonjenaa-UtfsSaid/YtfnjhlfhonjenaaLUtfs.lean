/- Any bytes as runes, any number as one: the walk of the law. -/
import Derived.Test.YtfnjhlfhonjenaaAny
namespace Go.Proofs.Ytfnjhlfhonjenaa
open Go.RowKit
set_option linter.unusedVariables false

set_option maxHeartbeats 2000000 in
set_option maxRecDepth 100000 in
theorem utfs_walk (s : ByteArray) (z r : Int) (hs : s.size ≤ 140737488351232) (w : World) :
    Calls Try.prog 3 #[.string s, .int .i64 z, .int .i64 r] w fun e w' => e = .returned (.bool true) ∧ Below w.heap.size w w' := by
  have TU := Lib.hid (fun z => urune_z s z (by omega))
  have TR := Lib.hid (fun z => rrune_z s z (by omega))
  have TF := Lib.hid (ufirst_any s (by omega))
  have TRF := Lib.hid (rfirst_any s (by omega))
  have TV := Lib.hid (uvalid_any s (by omega))
  have TRV := Lib.hid (rvalid_any s (by omega))
  generalize first s.data.toList = F at *
  generalize decide (F = -1) = V at *
  generalize hP : rz s.data.toList = P at *
  clear hP
  have TP := Lib.hid (uput_any r)
  have TRP := Lib.hid (rputr_any r)
  generalize putS r = S at *
  generalize putE r = E at *
  have ed : ∀ x : Int, (x != x) = false := fun x => by simp
  have ee : ∀ x : Int, (x == x) = true := fun x => by simp
  go_enter Try.func3, Try.ntmps3
  go_wp2
  go_loop [7] (fun i => ∃ k : Int, -1 ≤ k ∧ k ≤ 200 ∧ i = .int .i64 k) (fun i => (200 - intOf i).toNat)
  case atStart => exact ⟨-1, by omega, by omega, rfl⟩
  case round =>
    obtain ⟨k, hk0, hk1, rfl⟩ := hrel
    by_cases c : k ≤ s.size ∧ k < 200
    · obtain ⟨c1, c2⟩ := c
      generalize hq : P k = q at *
      have TU1 := Lib.hid (TU.out k)
      have TR1 := Lib.hid (TR.out k)
      rw [hq] at TU1 TR1
      obtain ⟨q1, q2⟩ := q
      clear hq
      go_wp2_with (first | (go_at_call 7; refine (TU1.out _).mono ?_; rintro e w' ⟨rfl, rfl⟩) | (go_at_call 8; refine (TR1.out _).mono ?_; rintro e w' ⟨rfl, rfl⟩))
      go_round
      case rel => exact ⟨k + 1, by omega, by omega, rfl⟩
      case measure => simp [intOf]; omega
    · have HC := Lib.hid c
      clear c
      by_cases c1 : k ≤ s.size
      all_goals
        have c2 := HC.out
        first | (have c3 : 200 ≤ k := by omega) | skip
        clear c2
        have TU1 := Lib.hid (TU.out z)
        have TR1 := Lib.hid (TR.out z)
        generalize hq : P z = q at *
        obtain ⟨q1, q2⟩ := q
        clear hq
        go_wp2_with (first
          | (go_at_call 7; refine (TU1.out _).mono ?_; rintro e w' ⟨rfl, rfl⟩)
          | (go_at_call 8; refine (TR1.out _).mono ?_; rintro e w' ⟨rfl, rfl⟩)
          | (go_at_call 9; refine (TP.out _).mono ?_; rintro e w1 ⟨rfl, hb1⟩; have HB1 := Lib.hid hb1; clear hb1)
          | (go_at_call 10; refine (TRP.out _).mono ?_; rintro e w2 ⟨rfl, hb2⟩; have HB2 := Lib.hid hb2; clear hb2)
          | (go_at_call 11; refine (TF.out _).mono ?_; rintro e w' ⟨rfl, rfl⟩)
          | (go_at_call 12; refine (TRF.out _).mono ?_; rintro e w' ⟨rfl, rfl⟩)
          | (go_at_call 13; refine (TV.out _).mono ?_; rintro e w' ⟨rfl, rfl⟩)
          | (go_at_call 14; refine (TRV.out _).mono ?_; rintro e w' ⟨rfl, rfl⟩)
          | (go_at_call 15; refine (num_any _ _).mono ?_; rintro e w' ⟨rfl, rfl⟩)
          | (go_at_call 16; refine (uawake_any _).mono ?_; rintro e w3 ⟨rfl, hb3⟩; have HB3 := Lib.hid hb3; clear hb3))
        go_ret
        exact ⟨rfl, below3 HB1.out HB2.out HB3.out⟩
end Go.Proofs.Ytfnjhlfhonjenaa
