/- Varint, Unvarint, Zig, Zag: the document's. -/
import Derived.Test.YtllekjmmmalblaaRGet
namespace Go.Proofs.Ytllekjmmmalblaa
open Go.RowKit
set_option linter.unusedVariables false

set_option maxRecDepth 100000 in
theorem rvarint_any (n : Nat) (h : n < 9223372036854775808) (w : World) : Calls Try.prog 8 #[.int .i64 (n : Int)] w fun e w' => e = .returned (.string (textB (vp n))) ∧ Below w.heap.size w w' := by
  have T := Lib.hid (rparts_any n (by omega))
  go_enter Try.func8, Try.ntmps8
  go_wp2_with (go_at_call 18; refine (T.out _).mono ?_; rintro e w' ⟨rfl, hb⟩; have HB := Lib.hid hb; clear hb)
  go_ret
  exact ⟨rfl, HB.out⟩

theorem readN_form (l : List UInt8) (a : Int) : (readN l a).2.2 = 0 ∨ readN l a = (0, 0, 500) ∨ readN l a = (0, 0, 501) := by
  unfold readN
  split
  · simp
  split
  · simp
  split
  · simp
  · simp

set_option maxRecDepth 100000 in
theorem runvar_any (s : ByteArray) (hs : s.size ≤ 281474976710648) (a : Int) (w : World) : Calls Try.prog 10 #[.string s, .int .i64 a] w fun e w' =>
    e = .returned (.tuple #[.int .i64 (getA (readN s.data.toList a)).1, .int .i64 (getA (readN s.data.toList a)).2.1, .int .i64 (getA (readN s.data.toList a)).2.2]) ∧ w = w' := by
  have T := Lib.hid (rvget_any s hs a 9223372036854775807 (by omega))
  have hlt := readN_lt s.data.toList a
  have hE := readN_form s.data.toList a
  have hc : ∃ N : Nat, ∃ P E : Int, N < 9223372036854775808 ∧ capR 9223372036854775807 (readN s.data.toList a) = (N, P, E) ∧ getA (readN s.data.toList a) = ((N : Int), P, E) := by
    rcases hE with h | h | h
    · by_cases c : 9223372036854775807 < (readN s.data.toList a).1
      · exact ⟨0, 0, 501, by omega, if_pos ⟨h, c⟩, by unfold getA; rw [if_pos h, if_pos c]; rfl⟩
      · refine ⟨(readN s.data.toList a).1, (readN s.data.toList a).2.1, 0, by omega, ?_, by unfold getA; rw [if_pos h, if_neg c]⟩
        unfold capR
        rw [if_neg (fun x => c x.2), ← h]
    · exact ⟨0, 0, 500, by omega, by rw [h]; rfl, by rw [h]; rfl⟩
    · exact ⟨0, 0, 501, by omega, by rw [h]; rfl, by rw [h]; rfl⟩
  obtain ⟨N, P, E, hN, h1, h2⟩ := hc
  rw [h1] at T
  rw [h2]
  clear h1 h2 hE hlt
  have T : Hid (∀ w : World, Calls Try.prog 20 #[.string s, .int .i64 a, .int .u64 9223372036854775807] w fun e w' => e = .returned (.tuple #[.int .u64 (N : Int), .int .i64 P, .int .i64 E]) ∧ w = w') := T
  go_enter Try.func10, Try.ntmps10
  go_wp2_with (go_at_call 20; refine (T.out _).mono ?_; rintro e w' ⟨rfl, rfl⟩)
  go_ret3
  exact ⟨rfl, rfl⟩

set_option maxRecDepth 100000 in
theorem rzag_any (s : ByteArray) (hs : s.size ≤ 281474976710648) (a : Int) (w : World) : Calls Try.prog 12 #[.string s, .int .i64 a] w fun e w' =>
    e = .returned (.tuple #[.int .i64 (zagA (readN s.data.toList a)).1, .int .i64 (zagA (readN s.data.toList a)).2.1, .int .i64 (zagA (readN s.data.toList a)).2.2]) ∧ w = w' := by
  have T := Lib.hid (rvget_any s hs a 18446744073709551615 (by omega))
  have hlt := readN_lt s.data.toList a
  have hE := readN_form s.data.toList a
  have hc : ∃ N : Nat, ∃ P E : Int, N < 18446744073709551616 ∧ capR 18446744073709551615 (readN s.data.toList a) = (N, P, E) ∧ zagA (readN s.data.toList a) = (unzz N, P, E) := by
    rcases hE with h | h | h
    · refine ⟨(readN s.data.toList a).1, (readN s.data.toList a).2.1, 0, by omega, ?_, by unfold zagA; rw [if_pos h]⟩
      unfold capR
      rw [if_neg (fun x => by omega), ← h]
    · exact ⟨0, 0, 500, by omega, by rw [h]; rfl, by rw [h]; rfl⟩
    · exact ⟨0, 0, 501, by omega, by rw [h]; rfl, by rw [h]; rfl⟩
  obtain ⟨N, P, E, hN, h1, h2⟩ := hc
  rw [h1] at T
  rw [h2]
  clear h1 h2 hE hlt
  have T : Hid (∀ w : World, Calls Try.prog 20 #[.string s, .int .i64 a, .int .u64 18446744073709551615] w fun e w' => e = .returned (.tuple #[.int .u64 (N : Int), .int .i64 P, .int .i64 E]) ∧ w = w') := T
  by_cases c : N % 2 = 1
  · have hz : unzz N = -((N / 2 : Nat) : Int) - 1 := if_pos c
    rw [hz]
    clear hz
    have e1 : (N : Int).tmod 2 = 1 := by rw [Int.tmod_eq_emod_of_nonneg (by omega)]; omega
    have e2 : (N : Int) % 2 = 1 := by omega
    have e3 : (N : Int).tdiv 2 = (N : Int) / 2 := Int.tdiv_eq_ediv_of_nonneg (by omega)
    go_enter Try.func12, Try.ntmps12
    go_wp2_with (go_at_call 20; refine (T.out _).mono ?_; rintro e w' ⟨rfl, rfl⟩)
    go_ret3
    exact ⟨rfl, rfl⟩
  · have hz : unzz N = ((N / 2 : Nat) : Int) := if_neg c
    rw [hz]
    clear hz
    have e1 : (N : Int).tmod 2 = 0 := by rw [Int.tmod_eq_emod_of_nonneg (by omega)]; omega
    have e2 : (N : Int) % 2 = 0 := by omega
    have e3 : (N : Int).tdiv 2 = (N : Int) / 2 := Int.tdiv_eq_ediv_of_nonneg (by omega)
    go_enter Try.func12, Try.ntmps12
    go_wp2_with (go_at_call 20; refine (T.out _).mono ?_; rintro e w' ⟨rfl, rfl⟩)
    go_ret3
    exact ⟨rfl, rfl⟩

set_option maxRecDepth 100000 in
theorem rzig_any (x : Int) (h0 : -9223372036854775808 ≤ x) (h1 : x < 9223372036854775808) (w : World) : Calls Try.prog 15 #[.int .i64 x] w fun e w' => e = .returned (.string (textB (vp (zz x)))) ∧ Below w.heap.size w w' := by
  by_cases c : x < 0
  · obtain ⟨y, hy⟩ : ∃ y : Nat, x = -(y : Int) - 1 := ⟨(-x - 1).toNat, by omega⟩
    subst hy
    have ez : zz (-(y : Int) - 1) = y * 2 + 1 := by unfold zz; rw [if_pos c]; omega
    rw [ez]
    have T := Lib.hid (rparts_any (y * 2 + 1) (by omega))
    rw [show ((y * 2 + 1 : Nat) : Int) = (y : Int) * 2 + 1 by omega] at T
    generalize textB (vp (y * 2 + 1)) = t at *
    have e1 : -(y : Int) - 1 + 1 = -(y : Int) := by omega
    go_enter Try.func15, Try.ntmps15
    go_wp2_with (go_at_call 18; refine (T.out _).mono ?_; rintro e w' ⟨rfl, hb⟩; have HB := Lib.hid hb; clear hb)
    go_ret
    exact ⟨rfl, HB.out⟩
  · obtain ⟨y, hy⟩ : ∃ y : Nat, x = (y : Int) := ⟨x.toNat, by omega⟩
    subst hy
    have ez : zz (y : Int) = y * 2 := by unfold zz; rw [if_neg c]; omega
    rw [ez]
    have T := Lib.hid (rparts_any (y * 2) (by omega))
    rw [show ((y * 2 : Nat) : Int) = (y : Int) * 2 by omega] at T
    generalize textB (vp (y * 2)) = t at *
    go_enter Try.func15, Try.ntmps15
    go_wp2_with (go_at_call 18; refine (T.out _).mono ?_; rintro e w' ⟨rfl, hb⟩; have HB := Lib.hid hb; clear hb)
    go_ret
    exact ⟨rfl, HB.out⟩
end Go.Proofs.Ytllekjmmmalblaa
