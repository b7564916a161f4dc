/- Put, Get, Zig, Zag: the program's. -/
import Derived.Test.YtllekjmmmalblaaRead
namespace Go.Proofs.Ytllekjmmmalblaa
open Go.RowKit
set_option linter.unusedVariables false

set_option maxRecDepth 100000 in
theorem vput_no (x : Int) (h : x < 0) (w : World) : Calls Try.prog 7 #[.int .i64 x] w fun e w' => e = .returned (.tuple #[.string ByteArray.empty, .int .i64 501]) ∧ w = w' := by
  go_enter Try.func7, Try.ntmps7
  go_wp2
  go_ret2
  exact ⟨rfl, rfl⟩
set_option maxRecDepth 100000 in
theorem vput_yes (n : Nat) (h : n < 9223372036854775808) (w : World) : Calls Try.prog 7 #[.int .i64 (n : Int)] w fun e w' => e = .returned (.tuple #[.string (textB (vp n)), .int .i64 0]) ∧ Below w.heap.size w w' := by
  have T := Lib.hid (vcut_any n (by omega))
  go_enter Try.func7, Try.ntmps7
  go_wp2_with (go_at_call 17; refine (T.out _).mono ?_; rintro e w' ⟨rfl, hb⟩; have HB := Lib.hid hb; clear hb)
  go_ret2
  exact ⟨rfl, HB.out⟩

theorem not64 (m : Nat) (h : m < 18446744073709551616) : bits .xor .u64 IntKind.u64.max (m : Int) = 18446744073709551615 - (m : Int) := by
  show IntKind.u64.wrap ((BitVec.ofInt 64 IntKind.u64.max ^^^ BitVec.ofInt 64 (m : Int)).toNat : Int) = _
  have h1 : BitVec.ofInt 64 IntKind.u64.max = BitVec.allOnes 64 := by decide
  rw [h1, BitVec.allOnes_xor, BitVec.toNat_not, ofInt_u64 m h, IntKind.wrap_u64]
  omega
theorem twice (x : Int) : IntKind.u64.wrap (IntKind.u64.wrap x * 2) = (x * 2) % 18446744073709551616 := by
  rw [IntKind.wrap_u64, IntKind.wrap_u64]; omega
/-- What Get answers, off what is read. -/
def getA (r : Nat × Int × Int) : Int × Int × Int := if r.2.2 = 0 then (if 9223372036854775807 < r.1 then (0, 0, 501) else ((r.1 : Int), r.2.1, 0)) else (0, 0, r.2.2)
/-- What Zag answers, off what is read. -/
def zagA (r : Nat × Int × Int) : Int × Int × Int := if r.2.2 = 0 then (unzz r.1, r.2.1, 0) else (0, 0, r.2.2)
theorem readN_E (l : List UInt8) (a : Int) : (readN l a).2.2 = 0 ∨ (readN l a).2.2 = 500 ∨ (readN l a).2.2 = 501 := by
  unfold readN
  split
  · simp
  split
  · simp
  split
  · simp
  · simp

set_option maxRecDepth 100000 in
theorem vget_any (s : ByteArray) (hs : s.size ≤ 281474976710648) (a : Int) (w : World) : Calls Try.prog 9 #[.string s, .int .i64 a] w fun e w' =>
    e = .returned (.tuple #[.int .i64 (getA (readN s.data.toList a)).1, .int .i64 (getA (readN s.data.toList a)).2.1, .int .i64 (getA (readN s.data.toList a)).2.2]) ∧ w = w' := by
  have T := Lib.hid (vread_any s hs a)
  have hlt := readN_lt s.data.toList a
  have hE := readN_E s.data.toList a
  generalize readN s.data.toList a = r at *
  obtain ⟨N, P, E⟩ := r
  have hlt : N < 18446744073709551616 := hlt
  have T : Hid (∀ w : World, Calls Try.prog 19 #[.string s, .int .i64 a] w fun e w' => e = .returned (.tuple #[.int .u64 (N : Int), .int .i64 P, .int .i64 E]) ∧ w = w') := T
  rcases hE with (rfl : E = 0) | (rfl : E = 500) | (rfl : E = 501)
  · by_cases c : 9223372036854775807 < N
    · have hr : getA (N, P, 0) = (0, 0, 501) := by unfold getA; rw [if_pos rfl, if_pos c]
      rw [hr]
      clear hr
      go_enter Try.func9, Try.ntmps9
      go_wp2_with (go_at_call 19; refine (T.out _).mono ?_; rintro e w' ⟨rfl, rfl⟩)
      go_ret3
      exact ⟨rfl, rfl⟩
    · have hr : getA (N, P, 0) = ((N : Int), P, 0) := by unfold getA; rw [if_pos rfl, if_neg c]
      rw [hr]
      clear hr
      go_enter Try.func9, Try.ntmps9
      go_wp2_with (go_at_call 19; refine (T.out _).mono ?_; rintro e w' ⟨rfl, rfl⟩)
      go_ret3
      exact ⟨rfl, rfl⟩
  · go_enter Try.func9, Try.ntmps9
    go_wp2_with (go_at_call 19; refine (T.out _).mono ?_; rintro e w' ⟨rfl, rfl⟩)
    go_ret3
    exact ⟨rfl, rfl⟩
  · go_enter Try.func9, Try.ntmps9
    go_wp2_with (go_at_call 19; refine (T.out _).mono ?_; rintro e w' ⟨rfl, rfl⟩)
    go_ret3
    exact ⟨rfl, rfl⟩

set_option maxRecDepth 100000 in
theorem vzig_any (x : Int) (h0 : -9223372036854775808 ≤ x) (h1 : x < 9223372036854775808) (w : World) : Calls Try.prog 14 #[.int .i64 x] w fun e w' => e = .returned (.string (textB (vp (zz x)))) ∧ Below w.heap.size w w' := by
  have T := Lib.hid (vcut_any (zz x) (zz_lt h0 (by omega)))
  by_cases c : x < 0
  · have e : ((zz x : Nat) : Int) = -2 * x - 1 := by unfold zz; rw [if_pos c]; omega
    generalize zz x = z at *
    have e2 : bits .xor .u64 IntKind.u64.max (IntKind.u64.wrap (IntKind.u64.wrap x * 2)) = (z : Int) := by
      rw [twice]
      obtain ⟨m, hm⟩ : ∃ m : Nat, (x * 2) % 18446744073709551616 = m := ⟨((x * 2) % 18446744073709551616).toNat, by omega⟩
      rw [hm, not64 m (by omega)]
      omega
    go_enter Try.func14, Try.ntmps14
    go_wp2_with (go_at_call 17; rw [if_neg (show ¬ IntKind.u64.signed = true by decide), e2]; refine (T.out _).mono ?_; rintro e w' ⟨rfl, hb⟩; have HB := Lib.hid hb; clear hb)
    go_ret
    exact ⟨rfl, HB.out⟩
  · have e : ((zz x : Nat) : Int) = 2 * x := by unfold zz; rw [if_neg c]; omega
    generalize zz x = z at *
    have e3 : x * 2 = (z : Int) := by omega
    clear e
    go_enter Try.func14, Try.ntmps14
    go_wp2_with (go_at_call 17; refine (T.out _).mono ?_; rintro e w' ⟨rfl, hb⟩; have HB := Lib.hid hb; clear hb)
    go_ret
    exact ⟨rfl, HB.out⟩
set_option maxRecDepth 100000 in
theorem vzag_any (s : ByteArray) (hs : s.size ≤ 281474976710648) (a : Int) (w : World) : Calls Try.prog 11 #[.string s, .int .i64 a] w fun e w' =>
    e = .returned (.tuple #[.int .i64 (zagA (readN s.data.toList a)).1, .int .i64 (zagA (readN s.data.toList a)).2.1, .int .i64 (zagA (readN s.data.toList a)).2.2]) ∧ w = w' := by
  have T := Lib.hid (vread_any s hs a)
  have hlt := readN_lt s.data.toList a
  have hE := readN_E s.data.toList a
  generalize readN s.data.toList a = r at *
  obtain ⟨N, P, E⟩ := r
  have hlt : N < 18446744073709551616 := hlt
  have T : Hid (∀ w : World, Calls Try.prog 19 #[.string s, .int .i64 a] w fun e w' => e = .returned (.tuple #[.int .u64 (N : Int), .int .i64 P, .int .i64 E]) ∧ w = w') := T
  have e1 : bits .and .u64 (N : Int) 1 = (N : Int) % 2 := by
    have := u64_and_nat N 1 hlt (by omega)
    rw [show ((1 : Nat) : Int) = 1 from rfl] at this
    rw [this, Nat.and_one_is_mod]
    rfl
  rcases hE with (rfl : E = 0) | (rfl : E = 500) | (rfl : E = 501)
  · by_cases c : N % 2 = 1
    · have hr : zagA (N, P, 0) = (-((N / 2 : Nat) : Int) - 1, P, 0) := by unfold zagA unzz; rw [if_pos rfl, if_pos c]
      rw [hr]
      clear hr
      rw [show (N : Int) % 2 = 1 by omega] at e1
      have e2 : bits .xor .u64 IntKind.u64.max ((N : Int) / 2) = 18446744073709551615 - ((N : Int) / 2) := not64 (N / 2) (by omega)
      have e3 : wrap64 (18446744073709551615 - ((N : Int) / 2)) = -((N : Int) / 2) - 1 := by unfold wrap64; omega
      go_enter Try.func11, Try.ntmps11
      go_wp2_with (go_at_call 19; refine (T.out _).mono ?_; rintro e w' ⟨rfl, rfl⟩)
      go_ret3
      exact ⟨rfl, rfl⟩
    · have hr : zagA (N, P, 0) = (((N / 2 : Nat) : Int), P, 0) := by unfold zagA unzz; rw [if_pos rfl, if_neg c]
      rw [hr]
      clear hr
      rw [show (N : Int) % 2 = 0 by omega] at e1
      go_enter Try.func11, Try.ntmps11
      go_wp2_with (go_at_call 19; refine (T.out _).mono ?_; rintro e w' ⟨rfl, rfl⟩)
      go_ret3
      exact ⟨rfl, rfl⟩
  · clear e1
    go_enter Try.func11, Try.ntmps11
    go_wp2_with (go_at_call 19; refine (T.out _).mono ?_; rintro e w' ⟨rfl, rfl⟩)
    go_ret3
    exact ⟨rfl, rfl⟩
  · clear e1
    go_enter Try.func11, Try.ntmps11
    go_wp2_with (go_at_call 19; refine (T.out _).mono ?_; rintro e w' ⟨rfl, rfl⟩)
    go_ret3
    exact ⟨rfl, rfl⟩
end Go.Proofs.Ytllekjmmmalblaa
