/- A rune that is cut is none: the walk of the law. -/
import Derived.Test.YtfnjhlfhonjenaaAny
import Derived.Test.YtfnjhlfhonjenaaForms
namespace Go.Proofs.Ytfnjhlfhonjenaa
open Go.RowKit
set_option linter.unusedVariables false

theorem i64_and7 (z : Int) : ∃ m : Nat, m < 8 ∧ bits .and .i64 z 7 = (m : Int) := by
  refine ⟨(BitVec.ofInt 64 z).toNat % 8, by omega, ?_⟩
  show IntKind.i64.wrap ((BitVec.ofInt 64 z &&& BitVec.ofInt 64 ((7 : Nat) : Int)).toNat : Int) = _
  rw [BitVec.toNat_and, ofInt_u64 7 (by omega), nat_mask3]
  exact wrap_i64_nat _ (by omega)
theorem tmod_pos (z c : Int) (hc : 0 < c) : ∃ j : Nat, (j : Int) < c ∧ (IntKind.u64.wrap z).tmod c = (j : Int) := by
  have h0 := wrap_u64_nonneg z
  have h1 := Int.emod_nonneg (IntKind.u64.wrap z) (show c ≠ 0 by omega)
  have h2 := Int.emod_lt_of_pos (IntKind.u64.wrap z) hc
  rw [Int.tmod_eq_emod_of_nonneg h0]
  exact ⟨((IntKind.u64.wrap z) % c).toNat, by omega, by omega⟩
/-- A text of whole runes s, and T, a rune of n, of which the first 1 + q bytes are taken. -/
theorem cut_first (n q a : Nat) (s T : ByteArray) (h : isRune n = true) (h1 : 128 ≤ n) (hT : T.data.toList = enc n) (hs : s.data.toList = times (enc n) a) (ha : a ≤ 7) (hq : 1 + q < T.size) :
    first s.data.toList = -1 ∧ first (s ++ T.extract 0 (1 + q)).data.toList = s.size ∧ (s ++ T.extract 0 (1 + q)).size ≤ 32 := by
  have hr := rr_enc n h
  have hl := enc_le n
  have hp := enc_pos n
  have hTs : T.size = (enc n).length := by rw [← hT, Array.length_toList]; rfl
  have hf : first s.data.toList = -1 := by rw [hs]; exact first_times hp (by rw [hr]) a
  have hsz : s.size = s.data.toList.length := by rw [Array.length_toList]; rfl
  have he : (T.extract 0 (1 + q)).data.toList = (enc n).take (1 + q) := by
    rw [← hT]; simp
  have hlen : (T.extract 0 (1 + q)).size = 1 + q := by simp; omega
  rw [isRune_iff] at h
  refine ⟨hf, ?_, ?_⟩
  · rw [ByteArray.data_append, Array.toList_append, he, first_less hf (by simp; omega) (rr_cut n (1 + q) h1 h.1 (by omega)), hsz]
  · rw [ByteArray.size_append, hlen, hsz, hs, times_length]
    have : a * (enc n).length ≤ 7 * 4 := Nat.mul_le_mul ha hl
    omega

theorem cut_pre (j : Nat) (hj : j < 50000) : ∃ (T : ByteArray) (n : Nat), T.data.toList = enc n ∧ 2 ≤ T.size ∧ T.size ≤ 3 ∧ isRune n = true ∧ 128 ≤ n ∧ ∀ w, Calls Try.prog 9 #[.int .i64 (128 + (j : Int))] w fun e w' => e = .returned (.tuple #[.string T, .int .i64 0]) ∧ Below w.heap.size w w' := by
  have hR : isRune ((128 + j : Nat) : Int) = true := by rw [isRune_iff]; omega
  have hT : (putS ((128 + j : Nat) : Int)).data.toList = enc (128 + j) := by rw [putS_yes hR]
  have hTs : (putS ((128 + j : Nat) : Int)).size = (enc (128 + j)).length := by rw [← hT, Array.length_toList]; rfl
  have hl : 2 ≤ (enc (128 + j)).length ∧ (enc (128 + j)).length ≤ 3 := by
    rw [enc_length]
    repeat' split
    all_goals omega
  refine ⟨_, 128 + j, hT, by omega, by omega, hR, by omega, fun w => ?_⟩
  have := uput_any ((128 + j : Nat) : Int) w
  rw [putE_yes hR] at this
  exact this

set_option maxHeartbeats 1000000 in
set_option maxRecDepth 1000000 in
theorem utfCut_walk (r cut pre : Int) (w : World) :
    Calls Try.prog 6 #[.int .i64 r, .int .i64 cut, .int .i64 pre] w fun e w' => e = .returned (.bool true) ∧ Below w.heap.size w w' := by
  obtain ⟨m, hm, em⟩ := i64_and7 pre
  obtain ⟨j, hj, ej⟩ := tmod_pos r 50000 (by omega)
  obtain ⟨T, n, hT, h2, h3, hR, hN, tp⟩ := cut_pre j (by omega)
  obtain ⟨q, hq, eq⟩ := tmod_pos cut ((T.size : Int) - 1) (by omega)
  have TP := Lib.hid tp
  have HT := Lib.hid hT
  have HR := Lib.hid hR
  have HN := Lib.hid hN
  clear tp hT hR hN
  go_enter Try.func6, Try.ntmps6
  go_wp2_with (first
        | (go_at_call 16; refine (uawake_any _).mono ?_; rintro e w3 ⟨rfl, hb3⟩; have HB3 := Lib.hid hb3; clear hb3)
        | (go_at_call 9; refine (TP.out _).mono ?_; rintro e w1 ⟨rfl, hb1⟩; have HB1 := Lib.hid hb1; clear hb1)
        | (go_at_call 15; refine (num_any _ _).mono ?_; rintro e w' ⟨rfl, rfl⟩))
  go_loop [10, 11] (fun sv i => ∃ (a : Nat) (s : ByteArray), a ≤ m ∧ i = .int .i64 a ∧ sv = .string s ∧ s.data.toList = times (enc n) a) (fun _ i => m - (intOf i).toNat)
  case atStart => exact ⟨0, ⟨#[]⟩, Nat.zero_le _, rfl, rfl, rfl⟩
  case round =>
    obtain ⟨a, s, ha, rfl, rfl, hs⟩ := hrel
    have hsz : s.size ≤ 28 := by
      have e : s.size = s.data.toList.length := by rw [Array.length_toList]; rfl
      rw [e, hs, times_length]
      have e2 := congrArg List.length HT.out
      rw [Array.length_toList] at e2
      have e3 : T.size = (enc n).length := e2
      rw [← e3]
      have : a * T.size ≤ 7 * 4 := Nat.mul_le_mul (by omega) (by omega)
      omega
    have HS := Lib.hid hs
    by_cases hlt : a < m
    · clear hs
      have hsum : s.size + T.size ≤ 9223372036854775807 := by omega
      have HS2 : Hid ((s ++ T).data.toList = times (enc n) (a + 1)) := by
        unfold Hid
        rw [ByteArray.data_append, Array.toList_append, HS.out, HT.out]; rfl
      go_wp2
      go_round
      case rel => exact ⟨a + 1, s ++ T, by omega, by go_num, rfl, HS2.out⟩
      case measure => simp [intOf]; omega
    · obtain ⟨c1, c2, c3⟩ := cut_first n q a s T HR.out HN.out HT.out hs (by omega) (by omega)
      have T1 := ufirst_any (s ++ T.extract 0 (1 + q)) (by omega)
      have T2 := uvalid_any (s ++ T.extract 0 (1 + q)) (by omega)
      have T3 := uvalid_any s (by omega)
      rw [c2] at T1 T2
      rw [c1] at T3
      have e4 : decide ((s.size : Int) = -1) = false := decide_eq_false (by omega)
      rw [e4] at T2
      have T1' := Lib.hid T1
      have T2' := Lib.hid T2
      have T3' := Lib.hid T3
      have hsum : s.size + (1 + q) ≤ 9223372036854775807 := by omega
      have hq2 : 1 + q ≤ T.size := by omega
      have hex : (T.extract 0 (1 + q)).size = 1 + q := by rw [ByteArray.size_extract]; omega
      have ee : ∀ x : Int, (x == x) = true := fun x => by simp
      clear hs c1 c2 c3 T1 T2 T3 e4
      go_wp2_with (first
        | (go_at_call 11; refine (T1'.out _).mono ?_; rintro e w' ⟨rfl, rfl⟩)
        | (go_at_call 13; first | ((with_reducible refine (T2'.out _).mono ?_); rintro e w' ⟨rfl, rfl⟩) | ((with_reducible refine (T3'.out _).mono ?_); rintro e w' ⟨rfl, rfl⟩)))
      go_ret
      exact ⟨rfl, below2 HB3.out HB1.out⟩
end Go.Proofs.Ytfnjhlfhonjenaa
