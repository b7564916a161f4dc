/- What every program answers that is one. -/
import Derived.Test.YtllekjmmmalblaaRFaces
namespace Go.Proofs.Ytllekjmmmalblaa
open Go.RowKit
set_option linter.unusedVariables false

theorem num_any (n : Int) (w : World) : Calls Try.prog 13 #[.int .i64 n] w fun e w' => e = .returned (.int .i64 n) ∧ w = w' := by
  go_enter Try.func13, Try.ntmps13
  go_wp2
  go_ret
  exact ⟨rfl, rfl⟩

set_option maxHeartbeats 400000 in
set_option maxRecDepth 100000 in
theorem vawake_any (w : World) : Calls Try.prog 16 #[] w fun e w' => e = .returned (.bool true) ∧ Below w.heap.size w w' := by
  have TP := Lib.hid (vput_yes 300 (by omega))
  rw [show textB (vp 300) = ⟨#[172, 2]⟩ by decide +kernel] at TP
  have TG := Lib.hid (vget_any ⟨#[172, 2]⟩ (by show 2 ≤ 281474976710648; omega) 0)
  rw [show getA (readN (⟨#[172, 2]⟩ : ByteArray).data.toList 0) = (300, 2, 0) by decide +kernel] at TG
  have TN := Lib.hid (vput_no (-1) (by omega))
  have TZ := Lib.hid (vzig_any (-3) (by omega) (by omega))
  rw [show textB (vp (zz (-3))) = ⟨#[5]⟩ by decide +kernel] at TZ
  have TA := Lib.hid (vzag_any ⟨#[5]⟩ (by show 1 ≤ 281474976710648; omega) 0)
  rw [show zagA (readN (⟨#[5]⟩ : ByteArray).data.toList 0) = (-3, 1, 0) by decide +kernel] at TA
  go_enter Try.func16, Try.ntmps16
  go_wp2_with (first
    | (go_at_call 7; refine (TP.out _).mono ?_; rintro e w1 ⟨rfl, hb1⟩; have HB1 := Lib.hid hb1; clear hb1)
    | (go_at_call 7; refine (TN.out _).mono ?_; rintro e w' ⟨rfl, rfl⟩)
    | (go_at_call 9; refine (TG.out _).mono ?_; rintro e w' ⟨rfl, rfl⟩)
    | (go_at_call 14; refine (TZ.out _).mono ?_; rintro e w2 ⟨rfl, hb2⟩; have HB2 := Lib.hid hb2; clear hb2)
    | (go_at_call 11; refine (TA.out _).mono ?_; rintro e w' ⟨rfl, rfl⟩)
    | (go_at_call 13; refine (num_any _ _).mono ?_; rintro e w' ⟨rfl, rfl⟩))
  go_ret
  exact ⟨rfl, HB1.out.trans (HB2.out.mono HB1.out.size)⟩
end Go.Proofs.Ytllekjmmmalblaa
