/- A rune's bytes are it, alone and among others: the walk of the law. -/
import Derived.Test.YtfnjhlfhonjenaaAny
import Derived.Outline
namespace Go.Proofs.Ytfnjhlfhonjenaa
open Go.RowKit
set_option linter.unusedVariables false

/-- What is told of a rune's bytes T behind s. -/
structure Back (n : Nat) (s T : ByteArray) : Prop where
  pos : 0 < T.size
  le : T.size ≤ 4
  one : ∀ w, Calls Try.prog 7 #[.string T, .int .i64 0] w fun e w' => e = .returned (.tuple #[.int .i64 n, .int .i64 T.size]) ∧ w = w'
  two : ∀ w, Calls Try.prog 7 #[.string (s ++ T), .int .i64 s.size] w fun e w' => e = .returned (.tuple #[.int .i64 n, .int .i64 T.size]) ∧ w = w'
  val : ∀ w, Calls Try.prog 13 #[.string T] w fun e w' => e = .returned (.bool true) ∧ w = w'
  fst : first s.data.toList = -1 → first (s ++ T).data.toList = -1

theorem back_of (n : Nat) (s : ByteArray) (hs : s.size ≤ 140737488351232) (h : isRune n = true) : Back n s (putS n) := by
  rw [putS_yes h]
  have e1 : (ByteArray.mk (enc n).toArray).data.toList = enc n := rfl
  have e2 : (ByteArray.mk (enc n).toArray).size = (enc n).length := by simp [ByteArray.size]
  have e3 : (s ++ ByteArray.mk (enc n).toArray).data.toList = s.data.toList ++ enc n := by rw [ByteArray.data_append, Array.toList_append]
  have e4 : (s ++ ByteArray.mk (enc n).toArray).size = s.size + (enc n).length := by rw [ByteArray.size_append, e2]
  have hl := enc_le n
  have hp := enc_pos n
  refine ⟨by rw [e2]; exact hp, by rw [e2]; exact hl, fun w => ?_, fun w => ?_, fun w => ?_, fun hf => ?_⟩
  · have := urune_z ⟨(enc n).toArray⟩ 0 (by rw [e2]; omega) w
    rw [e1, show rz (enc n) 0 = rr (enc n) 0 from rz_in _ 0, rr_enc n h, ← e2] at this
    exact this
  · have := urune_z (s ++ ⟨(enc n).toArray⟩) s.size (by rw [e4]; omega) w
    have er : rr (s.data.toList ++ enc n) s.size = rr (enc n) 0 := by
      have := rr_right s.data.toList (enc n) 0
      simpa using this
    rw [e3, rz_in, er, rr_enc n h, ← e2] at this
    exact this
  · have := uvalid_any ⟨(enc n).toArray⟩ (by rw [e2]; omega) w
    rw [e1, first_enc n h] at this
    exact this
  · rw [e3]; exact first_more hf hp (by rw [rr_enc n h])

set_option maxHeartbeats 2000000 in
set_option maxRecDepth 100000 in
theorem utfBack_walk (r : Int) (s : ByteArray) (hs : s.size ≤ 140737488351232) (w : World) :
    Calls Try.prog 4 #[.int .i64 r, .string s] w fun e w' => e = .returned (.bool true) ∧ Below w.heap.size w w' := by
  by_cases h : isRune r = true
  · obtain ⟨n, rfl⟩ := isRune_nat h
    have hB := back_of n s hs h
    have TP := Lib.hid (uput_any n)
    rw [putE_yes h] at TP
    clear h
    generalize putS n = T at *
    have hF1 := ufirst_any s (by omega)
    have hF2 := ufirst_any (s ++ T) (by have := hB.le; simp; omega)
    have hfst := hB.fst
    have hsum : s.size + T.size ≤ 9223372036854775807 := by have := hB.le; omega
    have T1 := Lib.hid hB.one
    have T2 := Lib.hid hB.two
    have T3 := Lib.hid hB.val
    clear hB
    have hr := first_range s.data.toList
    generalize first s.data.toList = F1 at *
    generalize first (s ++ T).data.toList = F2 at *
    have TF1 := Lib.hid hF1
    have TF2 := Lib.hid hF2
    clear hF1 hF2
    have ee : ∀ x : Int, (x == x) = true := fun x => by simp
    by_cases hf : F1 = -1
    · obtain rfl : F2 = -1 := hfst hf
      subst hf
      clear hr hfst
      go_enter Try.func4, Try.ntmps4
      go_wp2_with (first
        | (go_at_call 16; refine (uawake_any _).mono ?_; rintro e w3 ⟨rfl, hb3⟩; have HB3 := Lib.hid hb3; clear hb3)
        | (go_at_call 9; refine (TP.out _).mono ?_; rintro e w1 ⟨rfl, hb1⟩; have HB1 := Lib.hid hb1; clear hb1)
        | (go_at_call 15; refine (num_any _ _).mono ?_; rintro e w' ⟨rfl, rfl⟩)
        | (go_at_call 7; first | ((with_reducible refine (T1.out _).mono ?_); rintro e w' ⟨rfl, rfl⟩) | ((with_reducible refine (T2.out _).mono ?_); rintro e w' ⟨rfl, rfl⟩))
        | (go_at_call 11; first | ((with_reducible refine (TF1.out _).mono ?_); rintro e w' ⟨rfl, rfl⟩) | ((with_reducible refine (TF2.out _).mono ?_); rintro e w' ⟨rfl, rfl⟩))
        | (go_at_call 13; refine (T3.out _).mono ?_; rintro e w' ⟨rfl, rfl⟩))
      go_ret
      exact ⟨rfl, below2 HB3.out HB1.out⟩
    · have hp : 0 ≤ F1 := by omega
      clear hr hfst hf
      by_cases hq : F2 = F1
      · subst hq
        go_enter Try.func4, Try.ntmps4
        go_wp2_with (first
          | (go_at_call 16; refine (uawake_any _).mono ?_; rintro e w3 ⟨rfl, hb3⟩; have HB3 := Lib.hid hb3; clear hb3)
          | (go_at_call 9; refine (TP.out _).mono ?_; rintro e w1 ⟨rfl, hb1⟩; have HB1 := Lib.hid hb1; clear hb1)
          | (go_at_call 15; refine (num_any _ _).mono ?_; rintro e w' ⟨rfl, rfl⟩)
          | (go_at_call 7; first | ((with_reducible refine (T1.out _).mono ?_); rintro e w' ⟨rfl, rfl⟩) | ((with_reducible refine (T2.out _).mono ?_); rintro e w' ⟨rfl, rfl⟩))
          | (go_at_call 11; first | ((with_reducible refine (TF1.out _).mono ?_); rintro e w' ⟨rfl, rfl⟩) | ((with_reducible refine (TF2.out _).mono ?_); rintro e w' ⟨rfl, rfl⟩))
          | (go_at_call 13; refine (T3.out _).mono ?_; rintro e w' ⟨rfl, rfl⟩))
        go_ret
        exact ⟨rfl, below2 HB3.out HB1.out⟩
      · have gq : (F2 == F1) = false := by simpa using hq
        clear hq
        go_enter Try.func4, Try.ntmps4
        go_wp2_with (first
          | (go_at_call 16; refine (uawake_any _).mono ?_; rintro e w3 ⟨rfl, hb3⟩; have HB3 := Lib.hid hb3; clear hb3)
          | (go_at_call 9; refine (TP.out _).mono ?_; rintro e w1 ⟨rfl, hb1⟩; have HB1 := Lib.hid hb1; clear hb1)
          | (go_at_call 15; refine (num_any _ _).mono ?_; rintro e w' ⟨rfl, rfl⟩)
          | (go_at_call 7; first | ((with_reducible refine (T1.out _).mono ?_); rintro e w' ⟨rfl, rfl⟩) | ((with_reducible refine (T2.out _).mono ?_); rintro e w' ⟨rfl, rfl⟩))
          | (go_at_call 11; first | ((with_reducible refine (TF1.out _).mono ?_); rintro e w' ⟨rfl, rfl⟩) | ((with_reducible refine (TF2.out _).mono ?_); rintro e w' ⟨rfl, rfl⟩))
          | (go_at_call 13; refine (T3.out _).mono ?_; rintro e w' ⟨rfl, rfl⟩))
        go_ret
        exact ⟨rfl, below2 HB3.out HB1.out⟩
  · have h' : isRune r = false := by simpa using h
    have TP := Lib.hid (uput_any r)
    rw [putE_no h', putS_no h'] at TP
    unfold isRune at h'
    rw [decide_eq_false_iff_not] at h'
    clear h
    by_cases c1 : r < 0
    · clear h'
      go_enter Try.func4, Try.ntmps4
      go_wp2_with (first
        | (go_at_call 16; refine (uawake_any _).mono ?_; rintro e w3 ⟨rfl, hb3⟩; have HB3 := Lib.hid hb3; clear hb3)
        | (go_at_call 9; refine (TP.out _).mono ?_; rintro e w1 ⟨rfl, hb1⟩; have HB1 := Lib.hid hb1; clear hb1)
        | (go_at_call 15; refine (num_any _ _).mono ?_; rintro e w' ⟨rfl, rfl⟩))
      go_ret
      exact ⟨rfl, below2 HB3.out HB1.out⟩
    by_cases c2 : 1114111 < r
    · clear h'
      go_enter Try.func4, Try.ntmps4
      go_wp2_with (first
        | (go_at_call 16; refine (uawake_any _).mono ?_; rintro e w3 ⟨rfl, hb3⟩; have HB3 := Lib.hid hb3; clear hb3)
        | (go_at_call 9; refine (TP.out _).mono ?_; rintro e w1 ⟨rfl, hb1⟩; have HB1 := Lib.hid hb1; clear hb1)
        | (go_at_call 15; refine (num_any _ _).mono ?_; rintro e w' ⟨rfl, rfl⟩))
      go_ret
      exact ⟨rfl, below2 HB3.out HB1.out⟩
    have c3 : 55296 ≤ r := by omega
    have c4 : r ≤ 57343 := by omega
    clear h'
    go_enter Try.func4, Try.ntmps4
    go_wp2_with (first
      | (go_at_call 16; refine (uawake_any _).mono ?_; rintro e w3 ⟨rfl, hb3⟩; have HB3 := Lib.hid hb3; clear hb3)
      | (go_at_call 9; refine (TP.out _).mono ?_; rintro e w1 ⟨rfl, hb1⟩; have HB1 := Lib.hid hb1; clear hb1)
      | (go_at_call 15; refine (num_any _ _).mono ?_; rintro e w' ⟨rfl, rfl⟩))
    go_ret
    exact ⟨rfl, below2 HB3.out HB1.out⟩
end Go.Proofs.Ytfnjhlfhonjenaa
