/- The walk of StoreFails. -/
import Derived.Test.YtepenaoffdaacaaAwake
import Derived.Test.YtepenaoffdaacaaKeys
namespace Go.Proofs.Ytepenaoffdaacaa
open Go.Conc Go.RowKit

set_option maxHeartbeats 1000000 in
theorem fails_walk (a0 a1 : Int) (w : World) : Calls Try.prog 5 #[.int .i64 a0, .int .i64 a1] w fun e w' => e = .returned (.bool true) ∧ Below w.heap.size w w' := by
  obtain ⟨k, hk, ek⟩ := and_small a0 31 (by omega)
  obtain ⟨c, hc, ec⟩ := and_small a1 63 (by omega)
  have ek' : bits .and .i64 a0 31 = (k : Int) := ek
  have ec' : bits .and .i64 a1 63 = (c : Int) := ec
  clear ek ec
  go_enter Try.func5, Try.ntmps5
  go_wp2_with fail
  refine (awake_any _).mono ?_
  rintro e w1 ⟨rfl, b1⟩
  have B1 := Lib.hid b1
  clear b1
  obtain ⟨F, hFd⟩ : ∃ F : Nat → Prop, F = fun k => w1.heap.size ≤ k := ⟨_, rfl⟩
  have HF : Hid (∀ v : World, Frm F w1 v → ∀ k, v.heap.size ≤ k → F k) := fun v hv k hk => by rw [hFd]; exact Nat.le_trans hv.size hk
  have HD := Lib.hid hFd
  clear hFd
  go_wp2_with fail
  refine (new_any 300 (by omega) (by omega) _ (HF.out _ (Frm.refl _ _))).mono ?_
  rintro e w2 ⟨rfl, s2, f2⟩
  have S2 := Lib.hid s2
  have F2 := Lib.hid f2
  clear s2 f2
  go_wp2_with fail
  refine (fail_yes w1.heap.size (k : Int) (by omega) (by omega) w2 _ S2.out (HF.out _ F2.out)).mono ?_
  rintro e w3 ⟨rfl, s3, f3⟩
  have S3 := Lib.hid s3
  have F3 := Lib.hid (F2.out.trans f3)
  clear s3 f3
  clear ek' ec'
  go_wp2_with fail
  go_loopw [10] (fun i wr => ∃ a : Nat, a ≤ c ∧ i = .int .i64 a ∧ (∃ os, Sto wr F w1.heap.size ⟨300, os, a, ((k - a : Nat) : Int)⟩ ∧ os.length = a - k ∧ KeysIn 120 os (fun j => j < a)) ∧ Frm F w1 wr) (fun i _ => c - (intOf i).toNat)
  case atStart => exact ⟨0, Nat.zero_le _, rfl, ⟨[], S3.out, by simp, KeysIn.nil _ _⟩, F3.out⟩
  case round =>
    obtain ⟨a, ha, rfl, ⟨os, s4, hl, hin⟩, f4⟩ := hrel
    have S4 := Lib.hid s4
    have F4 := Lib.hid f4
    have HIn := Lib.hid hin
    have HL := Lib.hid hl
    clear s4 f4 hin hl
    have hdl := dec_length a
    by_cases hlt : a < c
    · by_cases hka : k ≤ a
      · go_wp2_with (first
          | (go_at_call 21; refine (decimal_any a (by omega) _).mono ?_; rintro e w5 ⟨rfl, b5⟩; have B5 := Lib.hid b5; clear b5))
        rw [keyOf_eq]
        refine (put_ok w1.heap.size (keyOf 120 a) ⟨#[100]⟩ a w5 _ (S4.out.new B5.out) (HF.out _ (F4.out.trans (Frm.of_new B5.out F))) (by simp; omega) (by simp; omega) HIn.out.1 (keyOf_may 120 (by decide) a) (by decide) (by omega) (HIn.out.not_mem (by omega) (by omega)) (by have := HL.out; simp; omega)).mono ?_
        rintro e w6 ⟨rfl, s6, f6⟩
        have S6 := Lib.hid s6
        have F6 := Lib.hid ((F4.out.trans (Frm.of_new B5.out F)).trans f6)
        clear s6 f6
        go_wp2_with (go_at_call 12; refine (num_any _ _).mono ?_; rintro e w' ⟨rfl, rfl⟩)
        go_roundw
        case rel =>
          refine ⟨a + 1, by omega, by go_num, ⟨_, ?_, ?_, HIn.out.insert (i := a) (T := fun j => j < a + 1) (by omega) (by omega) ⟨#[100]⟩ a (fun j hj => by omega) (by omega)⟩, F6.out⟩
          · have e0 : k - (a + 1) = k - a := by omega
            rw [e0]
            exact S6.out
          · rw [insAt_length', HL.out]; omega
        case measure => simp [intOf]; omega
      · go_wp2_with (first
          | (go_at_call 21; refine (decimal_any a (by omega) _).mono ?_; rintro e w5 ⟨rfl, b5⟩; have B5 := Lib.hid b5; clear b5))
        rw [keyOf_eq]
        refine (put_fails w1.heap.size (keyOf 120 a) ⟨#[100]⟩ a w5 _ (S4.out.new B5.out) (HF.out _ (F4.out.trans (Frm.of_new B5.out F))) (by simp; omega) (by simp; omega) (by simp; omega)).mono ?_
        rintro e w6 ⟨rfl, s6, f6⟩
        have S6 := Lib.hid s6
        have F6 := Lib.hid ((F4.out.trans (Frm.of_new B5.out F)).trans f6)
        clear s6 f6
        go_wp2_with (go_at_call 12; refine (num_any _ _).mono ?_; rintro e w' ⟨rfl, rfl⟩)
        go_roundw
        case rel =>
          refine ⟨a + 1, by omega, by go_num, ⟨os, ?_, by rw [HL.out]; omega, HIn.out.1, fun o ho => ?_⟩, F6.out⟩
          · have e0 : ((k - (a + 1) : Nat) : Int) = ((k - a : Nat) : Int) - 1 := by omega
            rw [e0]
            exact S6.out
          · obtain ⟨j, h1, h2, h3⟩ := HIn.out.2 o ho
            exact ⟨j, by omega, h2, h3⟩
        case measure => simp [intOf]; omega
    · obtain rfl : a = c := by omega
      have hmx : (os.length : Int) = max 0 ((a : Int) - (k : Int)) := by
        have := HL.out
        omega
      go_wp2_with (first
        | (go_at_call 24; refine (fail_no w1.heap.size (-1) (by omega) _ _ S4.out).mono ?_; rintro e w5 ⟨rfl, rfl⟩)
        | (go_at_call 12; refine (num_any _ _).mono ?_; rintro e w' ⟨rfl, rfl⟩)
        | (go_at_call 17; refine (calls_any w1.heap.size _ _ (S4.out.new HB.out)).mono ?_; rintro e w' ⟨rfl, rfl⟩)
        | (go_at_call 18; refine (all_any w1.heap.size _ _ S4.out).mono ?_; rintro e w6 ⟨sv, rfl, hr, hb⟩; obtain ⟨a6, c6, rfl⟩ := row_shape hr; have HB := Lib.hid hb; clear hb hr))
      go_ret
      have hfr : Frm F w1 w6 := F4.out.trans (Frm.of_new HB.out F)
      rw [HD.out] at hfr
      exact ⟨rfl, B1.out.trans ((hfr.below (Nat.le_refl _)).mono B1.out.size)⟩
end Go.Proofs.Ytepenaoffdaacaa
