/- Rune of the document's answer. -/
import Derived.Test.YtcobadgpelhcoaaDoorRLead
import Derived.Deep.QuietTactic
import Derived.BigQuiet
namespace Go.Proofs.YtcobadgpelhcoaaDoor
open Go.RowKit
set_option linter.unusedVariables false

theorem next_of (s : ByteArray) (i : Nat) (z : Int) (hz : z = i) (hs : s.size ≤ 9223372036854775807) (hi : i ≤ 9223372036854775807) (w : World) : Calls Tryd.prog 74 #[.string s, .int .i64 z] w fun e w' => e = .returned (.int .i64 (nxt s.data.toList i)) ∧ w' = w := by
  subst hz
  exact (next_any s i hs hi w).mono fun e w' ⟨h1, h2⟩ => ⟨h1, h2.symm⟩

theorem rrune_out (s : ByteArray) (i : Int) (h : i < 0 ∨ (s.size : Int) ≤ i) (w : World) : Calls Tryd.prog 57 #[.string s, .int .i64 i] w fun e w' => e = .returned (.tuple #[.int .i64 0, .int .i64 0]) ∧ w = w' := by
  by_cases h1 : i < 0
  · go_enter Tryd.func57, Tryd.ntmps57
    go_wp2
    go_ret2
    exact ⟨rfl, rfl⟩
  · have h2 : (s.size : Int) ≤ i := by omega
    go_enter Tryd.func57, Tryd.ntmps57
    go_wp2
    go_ret2
    exact ⟨rfl, rfl⟩

theorem next_of' (s : ByteArray) (i : Nat) (z : Int) (hz : z = i) (hs : s.size ≤ 9223372036854775807) (hi : i ≤ 9223372036854775807) (a : Int) (ha : nxt s.data.toList i = a) (w : World) : Calls Tryd.prog 74 #[.string s, .int .i64 z] w fun e w' => e = .returned (.int .i64 a) ∧ w = w' := by
  subst hz ha
  exact next_any s i hs hi w

set_option maxRecDepth 100000 in
set_option maxHeartbeats 4000000 in
theorem rrune_two (s : ByteArray) (i : Nat) (h : i < s.size) (hs : s.size ≤ 9223372036854775000) (h1 : 194 ≤ (s[i].toNat : Int)) (h2 : (s[i].toNat : Int) < 224) (w : World) :
    Calls Tryd.prog 57 #[.string s, .int .i64 i] w fun e w' => e = .returned (.tuple #[.int .i64 (rr s.data.toList i).1, .int .i64 (rr s.data.toList i).2]) ∧ w = w' := by
  have hl : i < s.data.toList.length := by simpa using h
  have hc : lead s.data.toList i = (s[i].toNat : Int) := lead_some hl
  have ha0 := nxt_lo s.data.toList (i + 1)
  have ha1 := nxt_hi s.data.toList (i + 1)
  have hb0 := nxt_lo s.data.toList (i + 2)
  have hb1 := nxt_hi s.data.toList (i + 2)
  have hd0 := nxt_lo s.data.toList (i + 3)
  have hd1 := nxt_hi s.data.toList (i + 3)
  have T1 := Lib.hid (next_of' s (i + 1) ((i : Int) + 1) (by omega) (by omega) (by omega) _ rfl)
  have T2 := Lib.hid (next_of' s (i + 2) ((i : Int) + 2) (by omega) (by omega) (by omega) _ rfl)
  have T3 := Lib.hid (next_of' s (i + 3) ((i : Int) + 3) (by omega) (by omega) (by omega) _ rfl)
  unfold rr
  rw [hc]
  clear hc
  generalize nxt s.data.toList (i + 1) = a at *
  generalize nxt s.data.toList (i + 2) = b at *
  generalize nxt s.data.toList (i + 3) = d at *
  by_cases g1 : 0 ≤ a
  · skip
    have e : run4 (s[i].toNat : Int) a b d = (((s[i].toNat : Int) - 192) * 64 + a, 2) := by
      unfold run4
      repeat' split
      all_goals first | rfl | (exfalso; omega)
    rw [e]; clear e
    go_enter Tryd.func57, Tryd.ntmps57
    go_wp2_with (go_at_call 74; first | ((with_reducible refine (T1.out _).mono ?_); rintro e w' ⟨rfl, rfl⟩) | ((with_reducible refine (T2.out _).mono ?_); rintro e w' ⟨rfl, rfl⟩) | ((with_reducible refine (T3.out _).mono ?_); rintro e w' ⟨rfl, rfl⟩))
    go_ret2
    exact ⟨rfl, rfl⟩
  · skip
    have e : run4 (s[i].toNat : Int) a b d = (0, 0) := by
      unfold run4
      repeat' split
      all_goals first | rfl | (exfalso; omega)
    rw [e]; clear e
    go_enter Tryd.func57, Tryd.ntmps57
    go_wp2_with (go_at_call 74; first | ((with_reducible refine (T1.out _).mono ?_); rintro e w' ⟨rfl, rfl⟩) | ((with_reducible refine (T2.out _).mono ?_); rintro e w' ⟨rfl, rfl⟩) | ((with_reducible refine (T3.out _).mono ?_); rintro e w' ⟨rfl, rfl⟩))
    go_ret2
    exact ⟨rfl, rfl⟩

set_option maxRecDepth 100000 in
set_option maxHeartbeats 4000000 in
theorem rrune_three (s : ByteArray) (i : Nat) (h : i < s.size) (hs : s.size ≤ 9223372036854775000) (h1 : 224 ≤ (s[i].toNat : Int)) (h2 : (s[i].toNat : Int) < 240) (w : World) :
    Calls Tryd.prog 57 #[.string s, .int .i64 i] w fun e w' => e = .returned (.tuple #[.int .i64 (rr s.data.toList i).1, .int .i64 (rr s.data.toList i).2]) ∧ w = w' := by
  have hl : i < s.data.toList.length := by simpa using h
  have hc : lead s.data.toList i = (s[i].toNat : Int) := lead_some hl
  have ha0 := nxt_lo s.data.toList (i + 1)
  have ha1 := nxt_hi s.data.toList (i + 1)
  have hb0 := nxt_lo s.data.toList (i + 2)
  have hb1 := nxt_hi s.data.toList (i + 2)
  have hd0 := nxt_lo s.data.toList (i + 3)
  have hd1 := nxt_hi s.data.toList (i + 3)
  have T1 := Lib.hid (next_of' s (i + 1) ((i : Int) + 1) (by omega) (by omega) (by omega) _ rfl)
  have T2 := Lib.hid (next_of' s (i + 2) ((i : Int) + 2) (by omega) (by omega) (by omega) _ rfl)
  have T3 := Lib.hid (next_of' s (i + 3) ((i : Int) + 3) (by omega) (by omega) (by omega) _ rfl)
  unfold rr
  rw [hc]
  clear hc
  generalize nxt s.data.toList (i + 1) = a at *
  generalize nxt s.data.toList (i + 2) = b at *
  generalize nxt s.data.toList (i + 3) = d at *
  by_cases g1 : 0 ≤ a
  · skip
    by_cases g2 : 0 ≤ b
    · skip
      by_cases g3 : 2048 ≤ ((s[i].toNat : Int) - 224) * 4096 + a * 64 + b
      · skip
        by_cases g4 : ((s[i].toNat : Int) - 224) * 4096 + a * 64 + b < 55296
        · skip
          have e : run4 (s[i].toNat : Int) a b d = (((s[i].toNat : Int) - 224) * 4096 + a * 64 + b, 3) := by
            unfold run4
            repeat' split
            all_goals first | rfl | (exfalso; omega)
          rw [e]; clear e
          go_enter Tryd.func57, Tryd.ntmps57
          go_wp2_with (go_at_call 74; first | ((with_reducible refine (T1.out _).mono ?_); rintro e w' ⟨rfl, rfl⟩) | ((with_reducible refine (T2.out _).mono ?_); rintro e w' ⟨rfl, rfl⟩) | ((with_reducible refine (T3.out _).mono ?_); rintro e w' ⟨rfl, rfl⟩))
          go_ret2
          exact ⟨rfl, rfl⟩
        · skip
          by_cases g5 : 57343 < ((s[i].toNat : Int) - 224) * 4096 + a * 64 + b
          · skip
            have e : run4 (s[i].toNat : Int) a b d = (((s[i].toNat : Int) - 224) * 4096 + a * 64 + b, 3) := by
              unfold run4
              repeat' split
              all_goals first | rfl | (exfalso; omega)
            rw [e]; clear e
            go_enter Tryd.func57, Tryd.ntmps57
            go_wp2_with (go_at_call 74; first | ((with_reducible refine (T1.out _).mono ?_); rintro e w' ⟨rfl, rfl⟩) | ((with_reducible refine (T2.out _).mono ?_); rintro e w' ⟨rfl, rfl⟩) | ((with_reducible refine (T3.out _).mono ?_); rintro e w' ⟨rfl, rfl⟩))
            go_ret2
            exact ⟨rfl, rfl⟩
          · skip
            have e : run4 (s[i].toNat : Int) a b d = (0, 0) := by
              unfold run4
              repeat' split
              all_goals first | rfl | (exfalso; omega)
            rw [e]; clear e
            go_enter Tryd.func57, Tryd.ntmps57
            go_wp2_with (go_at_call 74; first | ((with_reducible refine (T1.out _).mono ?_); rintro e w' ⟨rfl, rfl⟩) | ((with_reducible refine (T2.out _).mono ?_); rintro e w' ⟨rfl, rfl⟩) | ((with_reducible refine (T3.out _).mono ?_); rintro e w' ⟨rfl, rfl⟩))
            go_ret2
            exact ⟨rfl, rfl⟩
      · skip
        have e : run4 (s[i].toNat : Int) a b d = (0, 0) := by
          unfold run4
          repeat' split
          all_goals first | rfl | (exfalso; omega)
        rw [e]; clear e
        go_enter Tryd.func57, Tryd.ntmps57
        go_wp2_with (go_at_call 74; first | ((with_reducible refine (T1.out _).mono ?_); rintro e w' ⟨rfl, rfl⟩) | ((with_reducible refine (T2.out _).mono ?_); rintro e w' ⟨rfl, rfl⟩) | ((with_reducible refine (T3.out _).mono ?_); rintro e w' ⟨rfl, rfl⟩))
        go_ret2
        exact ⟨rfl, rfl⟩
    · skip
      have e : run4 (s[i].toNat : Int) a b d = (0, 0) := by
        unfold run4
        repeat' split
        all_goals first | rfl | (exfalso; omega)
      rw [e]; clear e
      go_enter Tryd.func57, Tryd.ntmps57
      go_wp2_with (go_at_call 74; first | ((with_reducible refine (T1.out _).mono ?_); rintro e w' ⟨rfl, rfl⟩) | ((with_reducible refine (T2.out _).mono ?_); rintro e w' ⟨rfl, rfl⟩) | ((with_reducible refine (T3.out _).mono ?_); rintro e w' ⟨rfl, rfl⟩))
      go_ret2
      exact ⟨rfl, rfl⟩
  · skip
    have e : run4 (s[i].toNat : Int) a b d = (0, 0) := by
      unfold run4
      repeat' split
      all_goals first | rfl | (exfalso; omega)
    rw [e]; clear e
    go_enter Tryd.func57, Tryd.ntmps57
    go_wp2_with (go_at_call 74; first | ((with_reducible refine (T1.out _).mono ?_); rintro e w' ⟨rfl, rfl⟩) | ((with_reducible refine (T2.out _).mono ?_); rintro e w' ⟨rfl, rfl⟩) | ((with_reducible refine (T3.out _).mono ?_); rintro e w' ⟨rfl, rfl⟩))
    go_ret2
    exact ⟨rfl, rfl⟩

set_option maxRecDepth 100000 in
set_option maxHeartbeats 4000000 in
theorem rrune_four (s : ByteArray) (i : Nat) (h : i < s.size) (hs : s.size ≤ 9223372036854775000) (h1 : 240 ≤ (s[i].toNat : Int)) (h2 : (s[i].toNat : Int) ≤ 244) (w : World) :
    Calls Tryd.prog 57 #[.string s, .int .i64 i] w fun e w' => e = .returned (.tuple #[.int .i64 (rr s.data.toList i).1, .int .i64 (rr s.data.toList i).2]) ∧ w = w' := by
  have hl : i < s.data.toList.length := by simpa using h
  have hc : lead s.data.toList i = (s[i].toNat : Int) := lead_some hl
  have ha0 := nxt_lo s.data.toList (i + 1)
  have ha1 := nxt_hi s.data.toList (i + 1)
  have hb0 := nxt_lo s.data.toList (i + 2)
  have hb1 := nxt_hi s.data.toList (i + 2)
  have hd0 := nxt_lo s.data.toList (i + 3)
  have hd1 := nxt_hi s.data.toList (i + 3)
  have T1 := Lib.hid (next_of' s (i + 1) ((i : Int) + 1) (by omega) (by omega) (by omega) _ rfl)
  have T2 := Lib.hid (next_of' s (i + 2) ((i : Int) + 2) (by omega) (by omega) (by omega) _ rfl)
  have T3 := Lib.hid (next_of' s (i + 3) ((i : Int) + 3) (by omega) (by omega) (by omega) _ rfl)
  unfold rr
  rw [hc]
  clear hc
  generalize nxt s.data.toList (i + 1) = a at *
  generalize nxt s.data.toList (i + 2) = b at *
  generalize nxt s.data.toList (i + 3) = d at *
  by_cases g1 : 0 ≤ a
  · skip
    by_cases g2 : 0 ≤ b
    · skip
      by_cases g3 : 0 ≤ d
      · skip
        by_cases g4 : 65536 ≤ ((s[i].toNat : Int) - 240) * 262144 + a * 4096 + b * 64 + d
        · skip
          by_cases g5 : ((s[i].toNat : Int) - 240) * 262144 + a * 4096 + b * 64 + d ≤ 1114111
          · skip
            have e : run4 (s[i].toNat : Int) a b d = (((s[i].toNat : Int) - 240) * 262144 + a * 4096 + b * 64 + d, 4) := by
              unfold run4
              repeat' split
              all_goals first | rfl | (exfalso; omega)
            rw [e]; clear e
            go_enter Tryd.func57, Tryd.ntmps57
            go_wp2_with (go_at_call 74; first | ((with_reducible refine (T1.out _).mono ?_); rintro e w' ⟨rfl, rfl⟩) | ((with_reducible refine (T2.out _).mono ?_); rintro e w' ⟨rfl, rfl⟩) | ((with_reducible refine (T3.out _).mono ?_); rintro e w' ⟨rfl, rfl⟩))
            go_ret2
            exact ⟨rfl, rfl⟩
          · skip
            have e : run4 (s[i].toNat : Int) a b d = (0, 0) := by
              unfold run4
              repeat' split
              all_goals first | rfl | (exfalso; omega)
            rw [e]; clear e
            go_enter Tryd.func57, Tryd.ntmps57
            go_wp2_with (go_at_call 74; first | ((with_reducible refine (T1.out _).mono ?_); rintro e w' ⟨rfl, rfl⟩) | ((with_reducible refine (T2.out _).mono ?_); rintro e w' ⟨rfl, rfl⟩) | ((with_reducible refine (T3.out _).mono ?_); rintro e w' ⟨rfl, rfl⟩))
            go_ret2
            exact ⟨rfl, rfl⟩
        · skip
          have e : run4 (s[i].toNat : Int) a b d = (0, 0) := by
            unfold run4
            repeat' split
            all_goals first | rfl | (exfalso; omega)
          rw [e]; clear e
          go_enter Tryd.func57, Tryd.ntmps57
          go_wp2_with (go_at_call 74; first | ((with_reducible refine (T1.out _).mono ?_); rintro e w' ⟨rfl, rfl⟩) | ((with_reducible refine (T2.out _).mono ?_); rintro e w' ⟨rfl, rfl⟩) | ((with_reducible refine (T3.out _).mono ?_); rintro e w' ⟨rfl, rfl⟩))
          go_ret2
          exact ⟨rfl, rfl⟩
      · skip
        have e : run4 (s[i].toNat : Int) a b d = (0, 0) := by
          unfold run4
          repeat' split
          all_goals first | rfl | (exfalso; omega)
        rw [e]; clear e
        go_enter Tryd.func57, Tryd.ntmps57
        go_wp2_with (go_at_call 74; first | ((with_reducible refine (T1.out _).mono ?_); rintro e w' ⟨rfl, rfl⟩) | ((with_reducible refine (T2.out _).mono ?_); rintro e w' ⟨rfl, rfl⟩) | ((with_reducible refine (T3.out _).mono ?_); rintro e w' ⟨rfl, rfl⟩))
        go_ret2
        exact ⟨rfl, rfl⟩
    · skip
      have e : run4 (s[i].toNat : Int) a b d = (0, 0) := by
        unfold run4
        repeat' split
        all_goals first | rfl | (exfalso; omega)
      rw [e]; clear e
      go_enter Tryd.func57, Tryd.ntmps57
      go_wp2_with (go_at_call 74; first | ((with_reducible refine (T1.out _).mono ?_); rintro e w' ⟨rfl, rfl⟩) | ((with_reducible refine (T2.out _).mono ?_); rintro e w' ⟨rfl, rfl⟩) | ((with_reducible refine (T3.out _).mono ?_); rintro e w' ⟨rfl, rfl⟩))
      go_ret2
      exact ⟨rfl, rfl⟩
  · skip
    have e : run4 (s[i].toNat : Int) a b d = (0, 0) := by
      unfold run4
      repeat' split
      all_goals first | rfl | (exfalso; omega)
    rw [e]; clear e
    go_enter Tryd.func57, Tryd.ntmps57
    go_wp2_with (go_at_call 74; first | ((with_reducible refine (T1.out _).mono ?_); rintro e w' ⟨rfl, rfl⟩) | ((with_reducible refine (T2.out _).mono ?_); rintro e w' ⟨rfl, rfl⟩) | ((with_reducible refine (T3.out _).mono ?_); rintro e w' ⟨rfl, rfl⟩))
    go_ret2
    exact ⟨rfl, rfl⟩

end Go.Proofs.YtcobadgpelhcoaaDoor
