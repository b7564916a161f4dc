/- What every program answers that is one. -/
import Derived.Test.YtfnjhlfhonjenaaFirst
import Derived.Test.YtfnjhlfhonjenaaPut
namespace Go.Proofs.Ytfnjhlfhonjenaa
open Go.RowKit
set_option linter.unusedVariables false

theorem first_stop1 (l : List UInt8) (h : 0 < l.length) (h2 : (rr l 0).2 = 0) : first l = 0 := firstAt_stop h h2
theorem first_ab255 : first [97, 98, 255] = 2 := by
  unfold first
  rw [firstAt_go (by decide) (by decide)]
  rw [show 0 + (rr [97, 98, 255] 0).2.toNat = 1 from rfl, firstAt_go (by decide) (by decide)]
  rw [show 1 + (rr [97, 98, 255] 1).2.toNat = 2 from rfl, firstAt_stop (by decide) (by decide)]
  rfl

theorem ua1 (w : World) : Calls Try.prog 7 #[.string ⟨#[226, 130, 172]⟩, .int .i64 0] w fun e w' => e = .returned (.tuple #[.int .i64 8364, .int .i64 3]) ∧ w = w' :=
  urune_in ⟨#[226, 130, 172]⟩ 0 (by decide) (by decide) w
theorem ua2 (w : World) : Calls Try.prog 9 #[.int .i64 233] w fun e w' => e = .returned (.tuple #[.string ⟨#[195, 169]⟩, .int .i64 0]) ∧ Below w.heap.size w w' :=
  uput_yes 233 (by decide) w
theorem ua3 (w : World) : Calls Try.prog 9 #[.int .i64 55296] w fun e w' => e = .returned (.tuple #[.string ByteArray.empty, .int .i64 200]) ∧ w = w' :=
  uput_no 55296 (by decide) w
theorem ua4 (w : World) : Calls Try.prog 13 #[.string ⟨#[97]⟩] w fun e w' => e = .returned (.bool true) ∧ w = w' :=
  (uvalid_any ⟨#[97]⟩ (by decide) w).mono fun e w' ⟨h, h2⟩ => ⟨by rw [h, show first (ByteArray.mk #[97]).data.toList = -1 from first_one (by decide) (by decide)]; rfl, h2⟩
theorem ua5 (w : World) : Calls Try.prog 13 #[.string ⟨#[255]⟩] w fun e w' => e = .returned (.bool false) ∧ w = w' :=
  (uvalid_any ⟨#[255]⟩ (by decide) w).mono fun e w' ⟨h, h2⟩ => ⟨by rw [h, show first (ByteArray.mk #[255]).data.toList = 0 from first_stop1 _ (by decide) (by decide)]; rfl, h2⟩
theorem ua6 (w : World) : Calls Try.prog 11 #[.string ⟨#[97, 98, 255]⟩] w fun e w' => e = .returned (.int .i64 2) ∧ w = w' :=
  (ufirst_any ⟨#[97, 98, 255]⟩ (by decide) w).mono fun e w' ⟨h, h2⟩ => ⟨by rw [h, show first (ByteArray.mk #[97, 98, 255]).data.toList = 2 from first_ab255], h2⟩

set_option maxHeartbeats 1000000 in
set_option maxRecDepth 100000 in
theorem uawake_any (w : World) : Calls Try.prog 16 #[] w fun e w' => e = .returned (.bool true) ∧ Below w.heap.size w w' := by
  go_enter Try.func16, Try.ntmps16
  go_wp2_with (first
    | (go_at_call 7; refine (ua1 _).mono ?_; rintro e w' ⟨rfl, rfl⟩)
    | (go_at_call 9; first | ((with_reducible refine (ua2 _).mono ?_); rintro e w1 ⟨rfl, hb⟩; have HB := Lib.hid hb; clear hb) | ((with_reducible refine (ua3 _).mono ?_); rintro e w' ⟨rfl, rfl⟩))
    | (go_at_call 13; first | ((with_reducible refine (ua4 _).mono ?_); rintro e w' ⟨rfl, rfl⟩) | ((with_reducible refine (ua5 _).mono ?_); rintro e w' ⟨rfl, rfl⟩))
    | (go_at_call 11; refine (ua6 _).mono ?_; rintro e w' ⟨rfl, rfl⟩)
    | (go_at_call 15; refine (num_any _ _).mono ?_; rintro e w' ⟨rfl, rfl⟩))
  go_outline
  go_ret
  exact ⟨rfl, HB.out⟩
end Go.Proofs.Ytfnjhlfhonjenaa
