/- What every program answers that is one. -/
import Derived.Test.YtchgicgekfbdeaaOpen
namespace Go.Proofs.Ytchgicgekfbdeaa
open Go.RowKit
set_option linter.unusedVariables false

set_option maxHeartbeats 400000 in
set_option maxRecDepth 100000 in
theorem cawake_any (w : World) : Calls Try.prog 13 #[] w fun e w' => e = .returned (.bool true) ∧ Below w.heap.size w w' := by
  have TO1 := Lib.hid (copen_any ⟨#[97, 98, 99]⟩ (by show 3 ≤ 281474976710648; omega))
  rw [show openT ⟨#[97, 98, 99]⟩ = ByteArray.empty by decide +kernel, show openE ⟨#[97, 98, 99]⟩ = 400 by decide +kernel] at TO1
  have TS := Lib.hid (cseal_any ⟨#[97, 98, 99]⟩ (by show 3 ≤ 281474976710648; omega))
  have es : sealB ⟨#[97, 98, 99]⟩ = ⟨#[97, 98, 99, 53, 36, 65, 194]⟩ := by decide +kernel
  rw [es] at TS
  have TO2 := Lib.hid (copen_any ⟨#[97, 98, 99, 53, 36, 65, 194]⟩ (by show 7 ≤ 281474976710648; omega))
  rw [show openT ⟨#[97, 98, 99, 53, 36, 65, 194]⟩ = ⟨#[97, 98, 99]⟩ by decide +kernel, show openE ⟨#[97, 98, 99, 53, 36, 65, 194]⟩ = 0 by decide +kernel] at TO2
  have TC := Lib.hid (cof_any ⟨#[49, 50, 51, 52, 53, 54, 55, 56, 57]⟩ (by show 9 ≤ 281474976710656; omega))
  rw [show crcN (⟨#[49, 50, 51, 52, 53, 54, 55, 56, 57]⟩ : ByteArray).data.toList = 3421780262 by decide +kernel] at TC
  go_enter Try.func13, Try.ntmps13
  go_wp2_with (first
    | (go_at_call 8; refine (TC.out _).mono ?_; rintro e w4 ⟨rfl, hb4⟩; have HB4 := Lib.hid hb4; clear hb4)
    | (go_at_call 10; refine (TS.out _).mono ?_; rintro e w2 ⟨rfl, hb2⟩; have HB2 := Lib.hid hb2; clear hb2)
    | (go_at_call 6; have hx := HB2.out; clear hx; refine (TO2.out _).mono ?_; rintro e w3 ⟨rfl, hb3⟩; have HB3 := Lib.hid hb3; clear hb3)
    | (go_at_call 6; refine (TO1.out _).mono ?_; rintro e w1 ⟨rfl, hb1⟩; have HB1 := Lib.hid hb1; clear hb1)
    | (go_at_call 12; refine (num_any _ _).mono ?_; rintro e w' ⟨rfl, rfl⟩))
  go_ret
  have b2 := HB1.out.trans (HB2.out.mono HB1.out.size)
  have b3 := b2.trans (HB3.out.mono b2.size)
  exact ⟨rfl, b3.trans (HB4.out.mono b3.size)⟩
end Go.Proofs.Ytchgicgekfbdeaa
