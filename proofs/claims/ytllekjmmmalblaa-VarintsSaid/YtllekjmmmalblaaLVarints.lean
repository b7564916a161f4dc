/- Any number as parts, any bytes as a number: the walk of the law. -/
import Derived.Test.YtllekjmmmalblaaVAwake
namespace Go.Proofs.Ytllekjmmmalblaa
open Go.RowKit
set_option linter.unusedVariables false

theorem getA_form (l : List UInt8) (a : Int) : (∃ D P : Int, getA (readN l a) = (D, P, 0)) ∨ (∃ H : Int, (H == 0) = false ∧ (H != 0) = true ∧ getA (readN l a) = (0, 0, H)) := by
  rcases readN_form l a with h | h | h
  · unfold getA
    rw [if_pos h]
    by_cases c : 9223372036854775807 < (readN l a).1
    · rw [if_pos c]; exact .inr ⟨501, rfl, rfl, rfl⟩
    · rw [if_neg c]; exact .inl ⟨_, _, rfl⟩
  · rw [h]; exact .inr ⟨500, rfl, rfl, rfl⟩
  · rw [h]; exact .inr ⟨501, rfl, rfl, rfl⟩
theorem zagA_form (l : List UInt8) (a : Int) : (∃ D P : Int, zagA (readN l a) = (D, P, 0)) ∨ (∃ H : Int, (H == 0) = false ∧ (H != 0) = true ∧ zagA (readN l a) = (0, 0, H)) := by
  rcases readN_form l a with h | h | h
  · unfold zagA
    rw [if_pos h]
    exact .inl ⟨_, _, rfl⟩
  · rw [h]; exact .inr ⟨500, rfl, rfl, rfl⟩
  · rw [h]; exact .inr ⟨501, rfl, rfl, rfl⟩

set_option maxHeartbeats 4000000 in
set_option maxRecDepth 100000 in
theorem varints_walk (x : Int) (s : ByteArray) (a : Int) (h0 : -9223372036854775808 ≤ x) (h1 : x < 9223372036854775808) (hs : s.size ≤ 140737488351232) (w : World) :
    Calls Try.prog 3 #[.int .i64 x, .string s, .int .i64 a] w fun e w' => e = .returned (.bool true) ∧ Below w.heap.size w w' := by
  have TG := Lib.hid (vget_any s (by omega) a)
  have TU := Lib.hid (runvar_any s (by omega) a)
  have TA := Lib.hid (vzag_any s (by omega) a)
  have TB := Lib.hid (rzag_any s (by omega) a)
  have TZ := Lib.hid (vzig_any x h0 h1)
  have TY := Lib.hid (rzig_any x h0 h1)
  have hg := getA_form s.data.toList a
  have hz := zagA_form s.data.toList a
  generalize getA (readN s.data.toList a) = g at *
  generalize zagA (readN s.data.toList a) = y at *
  generalize textB (vp (zz x)) = z at *
  have HB : Hid (Below w.heap.size w w) := Below.refl _ _
  by_cases c : x < 0
  · have TP := Lib.hid (vput_no x c)
    rcases hg with ⟨D, P, rfl⟩ | ⟨H, hH, hH2, rfl⟩ <;> rcases hz with ⟨D2, P2, rfl⟩ | ⟨H2, hK, hK2, rfl⟩
    all_goals
      go_enter Try.func3, Try.ntmps3
      go_wp2_with (first
        | (go_at_call 7; refine (TP.out _).mono ?_; rintro e w' ⟨rfl, rfl⟩)
        | (go_at_call 9; refine (TG.out _).mono ?_; rintro e w' ⟨rfl, rfl⟩)
        | (go_at_call 10; refine (TU.out _).mono ?_; rintro e w' ⟨rfl, rfl⟩)
        | (go_at_call 11; refine (TA.out _).mono ?_; rintro e w' ⟨rfl, rfl⟩)
        | (go_at_call 12; refine (TB.out _).mono ?_; rintro e w' ⟨rfl, rfl⟩)
        | (go_at_call 14; refine (TZ.out _).mono ?_; rintro e w2 ⟨rfl, hb⟩; replace HB := Lib.hid (HB.out.trans (hb.mono HB.out.size)); clear hb)
        | (go_at_call 15; refine (TY.out _).mono ?_; rintro e w3 ⟨rfl, hb⟩; replace HB := Lib.hid (HB.out.trans (hb.mono HB.out.size)); clear hb)
        | (go_at_call 16; refine (vawake_any _).mono ?_; rintro e w4 ⟨rfl, hb⟩; replace HB := Lib.hid (HB.out.trans (hb.mono HB.out.size)); clear hb)
        | (go_at_call 13; refine (num_any _ _).mono ?_; rintro e w' ⟨rfl, rfl⟩))
      go_ret
      exact ⟨rfl, HB.out⟩
  · obtain ⟨n, rfl⟩ : ∃ n : Nat, x = n := ⟨x.toNat, by omega⟩
    have TP := Lib.hid (vput_yes n (by omega))
    have TV := Lib.hid (rvarint_any n (by omega))
    generalize textB (vp n) = t at *
    rcases hg with ⟨D, P, rfl⟩ | ⟨H, hH, hH2, rfl⟩ <;> rcases hz with ⟨D2, P2, rfl⟩ | ⟨H2, hK, hK2, rfl⟩
    all_goals
      go_enter Try.func3, Try.ntmps3
      go_wp2_with (first
        | (go_at_call 7; refine (TP.out _).mono ?_; rintro e w0 ⟨rfl, hb⟩; replace HB := Lib.hid (HB.out.trans (hb.mono HB.out.size)); clear hb)
        | (go_at_call 8; refine (TV.out _).mono ?_; rintro e w1 ⟨rfl, hb⟩; replace HB := Lib.hid (HB.out.trans (hb.mono HB.out.size)); clear hb)
        | (go_at_call 9; refine (TG.out _).mono ?_; rintro e w' ⟨rfl, rfl⟩)
        | (go_at_call 10; refine (TU.out _).mono ?_; rintro e w' ⟨rfl, rfl⟩)
        | (go_at_call 11; refine (TA.out _).mono ?_; rintro e w' ⟨rfl, rfl⟩)
        | (go_at_call 12; refine (TB.out _).mono ?_; rintro e w' ⟨rfl, rfl⟩)
        | (go_at_call 14; refine (TZ.out _).mono ?_; rintro e w2 ⟨rfl, hb⟩; replace HB := Lib.hid (HB.out.trans (hb.mono HB.out.size)); clear hb)
        | (go_at_call 15; refine (TY.out _).mono ?_; rintro e w3 ⟨rfl, hb⟩; replace HB := Lib.hid (HB.out.trans (hb.mono HB.out.size)); clear hb)
        | (go_at_call 16; refine (vawake_any _).mono ?_; rintro e w4 ⟨rfl, hb⟩; replace HB := Lib.hid (HB.out.trans (hb.mono HB.out.size)); clear hb)
        | (go_at_call 13; refine (num_any _ _).mono ?_; rintro e w' ⟨rfl, rfl⟩))
      go_ret
      exact ⟨rfl, HB.out⟩
end Go.Proofs.Ytllekjmmmalblaa
