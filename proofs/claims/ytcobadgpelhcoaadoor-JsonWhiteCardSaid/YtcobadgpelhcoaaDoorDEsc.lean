/- The program's parser: what stands behind a stroke. -/
import Derived.Test.YtcobadgpelhcoaaDoorDHex
import Derived.Test.YtcobadgpelhcoaaDoorEsc
import Derived.Test.YtcobadgpelhcoaaDoorPut
namespace Go.Proofs.YtcobadgpelhcoaaDoor
open Go.Conc Go.RowKit
set_option linter.unusedVariables false

theorem jfour_yes {pb : Nat} {s : ByteArray} {i d x : Nat} {w : World} (h : JPAt w pb s i d) (hi : i ≤ s.size) (hs : s.size ≤ 65536) (hx : hexAt s.data.toList i = some x) :
    Calls Tryd.prog 103 #[.pointer (some ⟨pb, 0, none⟩)] w (JAns pb s (i + 4) d (.int .i64 x) w) := by
  have := jfour_any pb s i d w h hi hs
  rw [hx] at this; exact this
theorem jfour_no {pb : Nat} {s : ByteArray} {i d : Nat} {w : World} (h : JPAt w pb s i d) (hi : i ≤ s.size) (hs : s.size ≤ 65536) (hx : hexAt s.data.toList i = none) :
    Calls Tryd.prog 103 #[.pointer (some ⟨pb, 0, none⟩)] w (JThrew pb 300 w) := by
  have := jfour_any pb s i d w h hi hs
  rw [hx] at this; exact this
theorem jexpect_u {pb : Nat} {s : ByteArray} {i d : Nat} {w : World} (h : JPAt w pb s i d) (hi : i ≤ s.size) (hs : s.size ≤ 65536) (hw : wordAt [92, 117] s.data.toList i = true) :
    Calls Tryd.prog 72 #[.pointer (some ⟨pb, 0, none⟩), .string ⟨#[92, 117]⟩] w (JAns pb s (i + 2) d (.tuple #[]) w) := jexpect_yes pb s ⟨#[92, 117]⟩ i d w h hs hi (by decide) hw
theorem jexpect_nu {pb : Nat} {s : ByteArray} {i d : Nat} {w : World} (h : JPAt w pb s i d) (hi : i ≤ s.size) (hs : s.size ≤ 65536) (hw : wordAt [92, 117] s.data.toList i = false) :
    Calls Tryd.prog 72 #[.pointer (some ⟨pb, 0, none⟩), .string ⟨#[92, 117]⟩] w (JThrew pb 300 w) := jexpect_no pb s ⟨#[92, 117]⟩ i d w h hs hi (by decide) hw
theorem uput_of (z : Int) (n : Nat) (hz : z = n) (h : isRune n = true) (w : World) : Calls Tryd.prog 104 #[.int .i64 z] w fun e w' => e = .returned (.tuple #[.string ⟨(enc n).toArray⟩, .int .i64 0]) ∧ Below w.heap.size w w' := by
  subst hz; exact uput_yes n h w

/-- A text, and the place behind it. -/
def strR (r : Rd (List UInt8)) : Except Int (Value × Nat) := match r with | .ok (bs, k) => .ok (.string ⟨bs.toArray⟩, k) | .error e => .error e

set_option maxHeartbeats 2000000 in
set_option maxRecDepth 1000000 in
theorem jcoded_any (pb : Nat) (s : ByteArray) (i d : Nat) (w : World) (h : JPAt w pb s (i + 1) d) (hi : i + 1 ≤ s.size) (hs : s.size ≤ 65536) :
    Calls Tryd.prog 93 #[.pointer (some ⟨pb, 0, none⟩)] w (JRes pb s d (strR (uAt s.data.toList i)) w) := by
  have HL := Lib.hid (show s.data.toList.length = s.size by simp)
  have H := Lib.hid h
  clear h
  generalize hR : strR (uAt s.data.toList i) = R
  have HR := Lib.hid hR
  clear hR
  cases hx : hexAt s.data.toList (i + 1) with
  | none =>
    obtain rfl : R = .error 300 := by rw [← HR.out, uAt_none hx]; rfl
    have HX := Lib.hid hx
    clear hx
    go_enter Tryd.func93, Tryd.ntmps93
    go_wp2_with (go_at_call 103; refine (jfour_no H.out hi hs HX.out).mono ?_; rintro e u' ⟨rfl, hf⟩; unfold thrown; have HF := Lib.hid hf; clear hf)
    exact ⟨rfl, rfl, HF.out⟩
  | some x =>
    have hx6 := hexAt_lt hx
    have hi4 : i + 5 ≤ s.size := by have := hexAt_in hx; rw [HL.out] at this; omega
    have HX := Lib.hid hx
    clear hx
    by_cases h1 : 55296 ≤ x ∧ x ≤ 56319
    · obtain ⟨h1, h2⟩ := h1
      have e2 : decide ((x : Int) < 56320) = true := by simp; omega
      have hnr : isRune x = false := by unfold isRune; rw [decide_eq_false_iff_not]; omega
      cases hw : wordAt [92, 117] s.data.toList (i + 5) with
      | false =>
        obtain rfl : R = .error 300 := by rw [← HR.out, uAt_half HX.out (by rw [hw]; simp) hnr]; rfl
        have HW := Lib.hid hw
        clear hw hnr
        go_enter Tryd.func93, Tryd.ntmps93
        go_wp2_with (first
          | (go_at_call 103; refine (jfour_yes H.out hi hs HX.out).mono ?_; rintro e w1 ⟨rfl, hp1, hf1⟩; have HP1 := Lib.hid hp1; have HF1 := Lib.hid hf1; clear hp1 hf1)
          | (go_at_call 72; refine (jexpect_nu HP1.out hi4 hs HW.out).mono ?_; rintro e u' ⟨rfl, hf⟩; unfold thrown; have HF := Lib.hid hf; clear hf))
        exact ⟨rfl, rfl, HF1.out.trans HF.out⟩
      | true =>
        have HW := Lib.hid hw
        cases hy : hexAt s.data.toList (i + 7) with
        | none =>
          obtain rfl : R = .error 300 := by rw [← HR.out, uAt_low0 HX.out h1 h2 hw hy]; rfl
          have HY := Lib.hid hy
          have hi7 : i + 5 + 2 ≤ s.size := by
            have := (wordAt_iff s ⟨#[92, 117]⟩ (i + 5) hi4).1 hw; exact this.1
          clear hw hnr hy
          go_enter Tryd.func93, Tryd.ntmps93
          go_wp2_with (first
            | (go_at_call 103; first
                | ((with_reducible refine (jfour_yes H.out hi hs HX.out).mono ?_); rintro e w1 ⟨rfl, hp1, hf1⟩; have HP1 := Lib.hid hp1; have HF1 := Lib.hid hf1; clear hp1 hf1)
                | (refine (jfour_no HP2.out hi7 hs HY.out).mono ?_; rintro e u' ⟨rfl, hf⟩; unfold thrown; have HF := Lib.hid hf; clear hf))
            | (go_at_call 72; refine (jexpect_u HP1.out hi4 hs HW.out).mono ?_; rintro e w2 ⟨rfl, hp2, hf2⟩; have HP2 := Lib.hid hp2; have HF2 := Lib.hid hf2; clear hp2 hf2))
          exact ⟨rfl, rfl, (HF1.out.trans HF2.out).trans HF.out⟩
        | some y =>
          have hy6 := hexAt_lt hy
          have HY := Lib.hid hy
          have hi7 : i + 5 + 2 ≤ s.size := by
            have := (wordAt_iff s ⟨#[92, 117]⟩ (i + 5) hi4).1 hw; exact this.1
          by_cases hyy : y < 56320 ∨ 57343 < y
          · obtain rfl : R = .error 300 := by rw [← HR.out, uAt_low1 HX.out h1 h2 hw hy hyy]; rfl
            have HYY := Lib.hid hyy
            clear hw hnr hy hyy
            by_cases hlo : y < 56320
            all_goals
              have e3 : Hid (y < 56320 ∨ 57343 < y) := HYY
              first
                | (have e4 : decide ((y : Int) < 56320) = true := by simp; omega)
                | (have e4 : decide ((y : Int) < 56320) = false := by simp; omega
                   have e5 : decide (57343 < (y : Int)) = true := by have := e3.out; simp; omega)
              clear hlo
              go_enter Tryd.func93, Tryd.ntmps93
              go_wp2_with (first
                | (go_at_call 103; first
                    | ((with_reducible refine (jfour_yes H.out hi hs HX.out).mono ?_); rintro e w1 ⟨rfl, hp1, hf1⟩; have HP1 := Lib.hid hp1; have HF1 := Lib.hid hf1; clear hp1 hf1)
                    | (refine (jfour_yes HP2.out hi7 hs HY.out).mono ?_; rintro e w3 ⟨rfl, hp3, hf3⟩; have HP3 := Lib.hid hp3; have HF3 := Lib.hid hf3; clear hp3 hf3))
                | (go_at_call 33; refine (jthrow_any _ _).mono ?_; rintro e u' ⟨rfl, rfl⟩)
                | (go_at_call 72; refine (jexpect_u HP1.out hi4 hs HW.out).mono ?_; rintro e w2 ⟨rfl, hp2, hf2⟩; have HP2 := Lib.hid hp2; have HF2 := Lib.hid hf2; clear hp2 hf2))
              exact ⟨rfl, rfl, (HF1.out.trans HF2.out).trans HF3.out⟩
          · obtain rfl : R = .ok (.string ⟨(enc (65536 + (x - 55296) * 1024 + (y - 56320))).toArray⟩, i + 11) := by rw [← HR.out, uAt_low2 HX.out h1 h2 hw hy hyy]; rfl
            have hr : isRune ((65536 + (x - 55296) * 1024 + (y - 56320) : Nat) : Int) = true := by unfold isRune; rw [decide_eq_true_iff]; omega
            have HRn := Lib.hid hr
            have e4 : decide ((y : Int) < 56320) = false := by simp; omega
            have e5 : decide (57343 < (y : Int)) = false := by simp; omega
            have hy1 : 56320 ≤ y := by omega
            have hy2 : y ≤ 57343 := by omega
            clear hw hnr hy hyy hr
            go_enter Tryd.func93, Tryd.ntmps93
            go_wp2_with (first
                | (go_at_call 103; first
                    | ((with_reducible refine (jfour_yes H.out hi hs HX.out).mono ?_); rintro e w1 ⟨rfl, hp1, hf1⟩; have HP1 := Lib.hid hp1; have HF1 := Lib.hid hf1; clear hp1 hf1)
                    | (refine (jfour_yes HP2.out hi7 hs HY.out).mono ?_; rintro e w3 ⟨rfl, hp3, hf3⟩; have HP3 := Lib.hid hp3; have HF3 := Lib.hid hf3; clear hp3 hf3))
                | (go_at_call 104; refine (uput_of _ _ (by omega) HRn.out _).mono ?_; rintro e w4 ⟨rfl, hb4⟩; have HB4 := Lib.hid hb4; clear hb4)
                | (go_at_call 72; refine (jexpect_u HP1.out hi4 hs HW.out).mono ?_; rintro e w2 ⟨rfl, hp2, hf2⟩; have HP2 := Lib.hid hp2; have HF2 := Lib.hid hf2; clear hp2 hf2))
            go_ret
            exact ⟨rfl, HP3.out.below HB4.out, ((HF1.out.trans HF2.out).trans HF3.out).trans (Frm.of_new HB4.out _)⟩
    · have hnh : ¬ (55296 ≤ x ∧ x ≤ 56319 ∧ wordAt [92, 117] s.data.toList (i + 5) = true) := fun h => h1 ⟨h.1, h.2.1⟩
      have H1 := Lib.hid h1
      cases hr : isRune x with
      | false =>
        obtain rfl : R = .error 300 := by rw [← HR.out, uAt_half HX.out hnh hr]; rfl
        have HRn := Lib.hid hr
        clear hnh h1 hr
        by_cases h2 : 55296 ≤ x
        all_goals
          first
            | (have e2 : decide ((x : Int) < 56320) = false := by have := H1.out; simp; omega
               have e1 : decide (55296 ≤ (x : Int)) = true := by simp; omega)
            | (have e1 : decide (55296 ≤ (x : Int)) = false := by simp; omega)
          clear h2
          go_enter Tryd.func93, Tryd.ntmps93
          go_wp2_with (first
            | (go_at_call 103; refine (jfour_yes H.out hi hs HX.out).mono ?_; rintro e w1 ⟨rfl, hp1, hf1⟩; have HP1 := Lib.hid hp1; have HF1 := Lib.hid hf1; clear hp1 hf1)
            | (go_at_call 104; refine (uput_no _ HRn.out _).mono ?_; rintro e u' ⟨rfl, rfl⟩)
            | (go_at_call 33; refine (jthrow_any _ _).mono ?_; rintro e u' ⟨rfl, rfl⟩))
          exact ⟨rfl, rfl, HF1.out⟩
      | true =>
        obtain rfl : R = .ok (.string ⟨(enc x).toArray⟩, i + 5) := by rw [← HR.out, uAt_rune HX.out hnh hr]; rfl
        have HRn := Lib.hid hr
        clear hnh h1 hr
        by_cases h2 : 55296 ≤ x
        all_goals
          first
            | (have e2 : decide ((x : Int) < 56320) = false := by have := H1.out; simp; omega
               have e1 : decide (55296 ≤ (x : Int)) = true := by simp; omega)
            | (have e1 : decide (55296 ≤ (x : Int)) = false := by simp; omega)
          clear h2
          go_enter Tryd.func93, Tryd.ntmps93
          go_wp2_with (first
            | (go_at_call 103; refine (jfour_yes H.out hi hs HX.out).mono ?_; rintro e w1 ⟨rfl, hp1, hf1⟩; have HP1 := Lib.hid hp1; have HF1 := Lib.hid hf1; clear hp1 hf1)
            | (go_at_call 104; refine (uput_yes _ HRn.out _).mono ?_; rintro e w4 ⟨rfl, hb4⟩; have HB4 := Lib.hid hb4; clear hb4))
          go_ret
          exact ⟨rfl, HP1.out.below HB4.out, HF1.out.trans (Frm.of_new HB4.out _)⟩
end Go.Proofs.YtcobadgpelhcoaaDoor
