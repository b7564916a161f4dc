/- A number takes a byte for each seven bits: the walk of the law. -/
import Derived.Test.YtllekjmmmalblaaVAwake
import Derived.Deep.Cut
namespace Go.Proofs.Ytllekjmmmalblaa
open Go.RowKit
set_option linter.unusedVariables false

theorem modN (x : Int) (n : Nat) (h0 : 0 < n) (hn : n < 9223372036854775808) : ∃ k : Nat, wrap64 ((IntKind.u64.wrap x).tmod (n : Int)) = (k : Int) ∧ k < n := by
  have h1 : 0 ≤ IntKind.u64.wrap x := by rw [IntKind.wrap_u64]; omega
  refine ⟨((IntKind.u64.wrap x) % (n : Int)).toNat, ?_, ?_⟩
  · rw [Int.tmod_eq_emod_of_nonneg h1]
    have h2 := Int.emod_nonneg (IntKind.u64.wrap x) (show (n : Int) ≠ 0 by omega)
    have h3 := Int.emod_lt_of_pos (IntKind.u64.wrap x) (show (0 : Int) < n by omega)
    unfold wrap64
    omega
  · have h2 := Int.emod_nonneg (IntKind.u64.wrap x) (show (n : Int) ≠ 0 by omega)
    have h3 := Int.emod_lt_of_pos (IntKind.u64.wrap x) (show (0 : Int) < n by omega)
    omega
/-- A number's low bits. -/
theorem lowBits (k : Nat) (hk : k < 63) (c : Int) : bits .and .i64 c ((2 ^ k - 1 : Nat) : Int) = ((c % (2 ^ k : Nat)).toNat : Int) := by
  have hp : 2 ^ k < 2 ^ 63 := Nat.pow_lt_pow_right (by omega) hk
  have h0 : 0 < 2 ^ k := Nat.two_pow_pos k
  have e : (BitVec.ofInt 64 c).toNat &&& (BitVec.ofInt 64 ((2 ^ k - 1 : Nat) : Int)).toNat = (c % (2 ^ k : Nat)).toNat := by
    rw [ofInt_u64 _ (by omega), Nat.and_two_pow_sub_one_eq_mod, BitVec.toNat_ofInt]
    have h1 : c % (2 ^ k : Nat) = (c % (2 ^ 64 : Nat)) % (2 ^ k : Nat) := (Int.emod_emod_of_dvd c (Int.natCast_dvd_natCast.2 (Nat.pow_dvd_pow 2 (by omega)))).symm
    have h2 := Int.emod_nonneg c (show ((2 ^ 64 : Nat) : Int) ≠ 0 by omega)
    rw [h1, Int.toNat_emod h2 (by omega), Int.toNat_natCast]
  show IntKind.i64.wrap ((BitVec.ofInt 64 c &&& BitVec.ofInt 64 ((2 ^ k - 1 : Nat) : Int)).toNat : Int) = _
  rw [BitVec.toNat_and, e]
  have h2 := Int.emod_nonneg c (show ((2 ^ k : Nat) : Int) ≠ 0 by omega)
  have h3 := Int.emod_lt_of_pos c (show (0 : Int) < ((2 ^ k : Nat) : Int) by omega)
  exact wrap_i64_nat _ (by omega)

set_option maxHeartbeats 200000 in
set_option maxRecDepth 100000 in
theorem varintsizes_walk (k more : Int) (w : World) : Calls Try.prog 5 #[.int .i64 k, .int .i64 more] w fun e w' => e = .returned (.bool true) ∧ Below w.heap.size w w' := by
  obtain ⟨b, eb, hb⟩ := modN k 63 (by omega) (by omega)
  have eb : wrap64 ((IntKind.u64.wrap k).tmod 63) = (b : Int) := eb
  have em : bits .and .i64 more 127 = ((more % 128).toNat : Int) := lowBits 7 (by omega) more
  have hmm : (more % 128).toNat < 128 := by omega
  generalize (more % 128).toNat = m at *
  have hx : 2 ^ b < 9223372036854775808 := Nat.pow_lt_pow_right (m := b) (n := 63) (by omega) hb
  have hx0 : 0 < 2 ^ b := Nat.two_pow_pos b
  have ew : wrap64 ((2 : Int) ^ b) = ((2 ^ b : Nat) : Int) := by
    have e : ((2 : Int) ^ b) = ((2 ^ b : Nat) : Int) := by simp
    rw [e]
    unfold wrap64
    omega
  obtain ⟨s1, s2, s3⟩ := sizes b hb
  have T1 := Lib.hid (vput_yes (2 ^ b) hx)
  have T2 := Lib.hid (vput_yes (2 ^ b - 1) (by omega))
  have T5 := Lib.hid (vput_yes m (by omega))
  have T3 := Lib.hid (vzig_any ((2 ^ b - 1 : Nat) : Int) (by omega) (by omega))
  have T4 := Lib.hid (vzig_any (-((2 ^ b : Nat) : Int)) (by omega) (by omega))
  have z3 : zz ((2 ^ b - 1 : Nat) : Int) = 2 * (2 ^ b - 1) := by unfold zz; rw [if_neg (by omega)]; omega
  have z4 : zz (-((2 ^ b : Nat) : Int)) = 2 * 2 ^ b - 1 := by unfold zz; rw [if_pos (by omega)]; omega
  have ed : ((2 ^ b - 1 : Nat) : Int) = ((2 ^ b : Nat) : Int) - 1 := by omega
  rw [z3] at T3
  rw [z4] at T4
  have c1 : ((textB (vp (2 ^ b))).size : Int) = (b : Int) / 7 + 1 := by rw [textB_size]; omega
  have c2 : ((textB (vp (2 ^ b - 1))).size : Int) = max 1 (((b : Int) + 6) / 7) := by rw [textB_size]; omega
  have c3 : (textB (vp (2 * (2 ^ b - 1)))).size = (textB (vp (2 * 2 ^ b - 1))).size := s3
  have c4 : (textB (vp m)).size = 1 := by rw [vp_one m hmm]; rfl
  have HB : Hid (Below w.heap.size w w) := Below.refl _ _
  clear z3 z4 s1 s2 s3
  generalize textB (vp (2 * (2 ^ b - 1))) = t3 at *
  generalize textB (vp (2 * 2 ^ b - 1)) = t4 at *
  generalize textB (vp (2 ^ b - 1)) = t2 at *
  generalize textB (vp (2 ^ b)) = t1 at *
  generalize textB (vp m) = t5 at *
  have e2 : ∃ n : Int, -((2 ^ b : Nat) : Int) = n := ⟨_, rfl⟩
  obtain ⟨n, e2⟩ := e2
  rw [e2] at T4
  generalize 2 ^ b - 1 = y at *
  replace ed : ((2 ^ b : Nat) : Int) - 1 = (y : Int) := ed.symm
  generalize 2 ^ b = x at *
  go_enter Try.func5, Try.ntmps5
  go_upto_region 5 with (first
    | (go_at_call 16; refine (vawake_any _).mono ?_; rintro e w4 ⟨rfl, hb⟩; replace HB := Lib.hid (HB.out.trans (hb.mono HB.out.size)); clear hb))
  rw [eb, ew]
  clear eb ew
  go_upto_region 6 with (first
    | (go_at_call 7; refine (T1.out _).mono ?_; rintro e w5 ⟨rfl, hb⟩; replace HB := Lib.hid (HB.out.trans (hb.mono HB.out.size)); clear hb))
  go_upto_region 7 with (first
    | (go_at_call 7; refine (T2.out _).mono ?_; rintro e w6 ⟨rfl, hb⟩; replace HB := Lib.hid (HB.out.trans (hb.mono HB.out.size)); clear hb))
  clear T1 T2
  go_upto_region 8 with (first
    | (go_at_call 14; refine (T3.out _).mono ?_; rintro e w7 ⟨rfl, hb⟩; clear T3; replace HB := Lib.hid (HB.out.trans (hb.mono HB.out.size)); clear hb)
    | (go_at_call 14; refine (T4.out _).mono ?_; rintro e w8 ⟨rfl, hb⟩; replace HB := Lib.hid (HB.out.trans (hb.mono HB.out.size)); clear hb))
  go_upto_region 9 with (first
    | (go_at_call 7; rw [em]; refine (T5.out _).mono ?_; rintro e w9 ⟨rfl, hb⟩; replace HB := Lib.hid (HB.out.trans (hb.mono HB.out.size)); clear hb)
    | (go_at_call 7; refine (T5.out _).mono ?_; rintro e w9 ⟨rfl, hb⟩; replace HB := Lib.hid (HB.out.trans (hb.mono HB.out.size)); clear hb))
  clear T4 T5 e2 ed em
  go_wp2_with (go_at_call 13; refine (num_any _ _).mono ?_; rintro e w' ⟨rfl, rfl⟩)
  all_goals
    go_ret
    exact ⟨rfl, HB.out⟩
end Go.Proofs.Ytllekjmmmalblaa
