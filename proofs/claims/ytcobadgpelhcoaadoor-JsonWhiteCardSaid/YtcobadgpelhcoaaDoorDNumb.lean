/- The program's parser: a whole number, an object's key. -/
import Derived.Test.YtcobadgpelhcoaaDoorDNum
namespace Go.Proofs.YtcobadgpelhcoaaDoor
open Go.Conc Go.RowKit
set_option linter.unusedVariables false

/-- The number at a place, as the program reads it: what stands behind it is not looked at. -/
def numD (l : List UInt8) (i : Nat) : Rd Int :=
  let minus := pk l i == 45
  let fr := if minus then i + 1 else i
  if pk l fr = 48 then (if minus then .error 300 else .ok (0, fr + 1))
  else
    let k := spanOf isDigit l fr
    let x := dv l fr k
    if k = 0 ∨ (if minus then 9223372036854775808 else 9223372036854775807) < x then .error 300
    else .ok (if minus then -(x : Int) else (x : Int), fr + k)
/-- A number, and the place behind it. -/
def intR (r : Rd Int) : Except Int (Value × Nat) := match r with | .ok (n, k) => .ok (.int .i64 n, k) | .error e => .error e

theorem jdigits_no {pb : Nat} {s : ByteArray} {i d : Nat} {w : World} (h : JPAt w pb s i d) (hi : i ≤ s.size) (hs : s.size ≤ 65536) (hE : digR s.data.toList i = .error 300) :
    Calls Tryd.prog 87 #[.pointer (some ⟨pb, 0, none⟩)] w (JThrew pb 300 w) := by
  have := jdigits_any pb s i d w h hi hs
  rw [hE] at this; exact this
theorem jdigits_yes {pb : Nat} {s : ByteArray} {i d k : Nat} {x : Int} {w : World} (h : JPAt w pb s i d) (hi : i ≤ s.size) (hs : s.size ≤ 65536) (hE : digR s.data.toList i = .ok (.int .i64 x, k)) :
    Calls Tryd.prog 87 #[.pointer (some ⟨pb, 0, none⟩)] w (JAns pb s k d (.int .i64 x) w) := by
  have := jdigits_any pb s i d w h hi hs
  rw [hE] at this; exact this

set_option maxHeartbeats 2000000 in
set_option maxRecDepth 100000 in
theorem jnumber_any (pb : Nat) (s : ByteArray) (i d : Nat) (w : World) (h : JPAt w pb s i d) (hi : i ≤ s.size) (hs : s.size ≤ 65536) :
    Calls Tryd.prog 73 #[.pointer (some ⟨pb, 0, none⟩)] w (JRes pb s d (intR (numD s.data.toList i)) w) := by
  have c1 := h.c1
  have f1 := h.fz 1
  have HL := Lib.hid (show s.data.toList.length = s.size by simp)
  have H := Lib.hid h
  clear h
  generalize hR : intR (numD s.data.toList i) = R
  have HR := Lib.hid hR
  clear hR
  by_cases h45 : pk s.data.toList i = 45
  · obtain ⟨b, hb, hbc, hil⟩ := pk_some h45 (by omega)
    have hi1 : i + 1 ≤ s.size := by rw [HL.out] at hil; omega
    have HP := Lib.hid h45
    have HN : Hid (numD s.data.toList i = (if pk s.data.toList (i + 1) = 48 then .error 300 else if spanOf isDigit s.data.toList (i + 1) = 0 ∨ 9223372036854775808 < dv s.data.toList (i + 1) (spanOf isDigit s.data.toList (i + 1)) then .error 300 else .ok (-(dv s.data.toList (i + 1) (spanOf isDigit s.data.toList (i + 1)) : Int), i + 1 + spanOf isDigit s.data.toList (i + 1)))) := by
      unfold Hid numD; rw [h45]; rfl
    clear h45 hb hbc hil
    by_cases h48 : pk s.data.toList (i + 1) = 48
    · obtain rfl : R = .error 300 := by rw [← HR.out, HN.out, if_pos h48]; rfl
      have HQ := Lib.hid h48
      clear h48
      go_enter Tryd.func73, Tryd.ntmps73
      go_wp2_with (first
        | (go_at_call 68; first
            | ((with_reducible refine (jpeek_is H.out hs HP.out).mono ?_); rintro e u' ⟨rfl, nq, rfl⟩)
            | (refine (jpeek_is ((H.out.drewN _).setAt (i + 1)) hs HQ.out).mono ?_; rintro e u' ⟨rfl, nq2, rfl⟩))
        | (go_at_call 86; refine (jnought_no pb _).mono ?_; rintro e w1 ⟨rfl, hf⟩; unfold thrown; have HF := Lib.hid hf; clear hf))
      exact ⟨rfl, rfl, (((frm_drewN _ _ _).trans (frm_at _ _ _ _)).drewN _).trans HF.out⟩
    · obtain ⟨c, hc⟩ : ∃ c, c = pk s.data.toList (i + 1) := ⟨_, rfl⟩
      rw [← hc] at h48
      have e48 : ((c : Int) == 48) = false := by simp; omega
      have HQ := Lib.hid hc.symm
      have HN2 := HN.out
      rw [← hc, if_neg h48] at HN2
      by_cases hbad : spanOf isDigit s.data.toList (i + 1) = 0 ∨ 9223372036854775808 < dv s.data.toList (i + 1) (spanOf isDigit s.data.toList (i + 1))
      · obtain rfl : R = .error 300 := by rw [← HR.out, HN2, if_pos hbad]; rfl
        have HE := Lib.hid (show digR s.data.toList (i + 1) = .error 300 by unfold digR; rw [if_pos hbad])
        clear hc h48 HN2 hbad
        go_enter Tryd.func73, Tryd.ntmps73
        go_wp2_with (first
          | (go_at_call 68; first
              | ((with_reducible refine (jpeek_is H.out hs HP.out).mono ?_); rintro e u' ⟨rfl, nq, rfl⟩)
              | (refine (jpeek_is ((H.out.drewN _).setAt (i + 1)) hs HQ.out).mono ?_; rintro e u' ⟨rfl, nq2, rfl⟩))
          | (go_at_call 87; refine (jdigits_no (((H.out.drewN _).setAt (i + 1)).drewN _) hi1 hs HE.out).mono ?_; rintro e w1 ⟨rfl, hf⟩; unfold thrown; have HF := Lib.hid hf; clear hf))
        exact ⟨rfl, rfl, (((frm_drewN _ _ _).trans (frm_at _ _ _ _)).drewN _).trans HF.out⟩
      · obtain ⟨x, k, hxk⟩ : ∃ (x : Int) (k : Nat), digR s.data.toList (i + 1) = .ok (.int .i64 x, k) ∧ numD s.data.toList i = .ok (x, k) := ⟨_, _, by unfold digR; rw [if_neg hbad], by rw [HN2, if_neg hbad]⟩
        obtain rfl : R = .ok (.int .i64 x, k) := by rw [← HR.out, hxk.2]; rfl
        have HE := Lib.hid hxk.1
        clear hc h48 HN2 hbad hxk
        go_enter Tryd.func73, Tryd.ntmps73
        go_wp2_with (first
          | (go_at_call 68; first
              | ((with_reducible refine (jpeek_is H.out hs HP.out).mono ?_); rintro e u' ⟨rfl, nq, rfl⟩)
              | (refine (jpeek_is ((H.out.drewN _).setAt (i + 1)) hs HQ.out).mono ?_; rintro e u' ⟨rfl, nq2, rfl⟩))
          | (go_at_call 87; refine (jdigits_yes (((H.out.drewN _).setAt (i + 1)).drewN _) hi1 hs HE.out).mono ?_; rintro e w1 ⟨rfl, hp, hf⟩; have HP1 := Lib.hid hp; have HF := Lib.hid hf; clear hp hf))
        go_ret
        exact ⟨rfl, HP1.out, (((frm_drewN _ _ _).trans (frm_at _ _ _ _)).drewN _).trans HF.out⟩
  · obtain ⟨c, hc⟩ : ∃ c, c = pk s.data.toList i := ⟨_, rfl⟩
    have HN : Hid (numD s.data.toList i = (if pk s.data.toList i = 48 then .ok (0, i + 1) else if spanOf isDigit s.data.toList i = 0 ∨ 9223372036854775807 < dv s.data.toList i (spanOf isDigit s.data.toList i) then .error 300 else .ok ((dv s.data.toList i (spanOf isDigit s.data.toList i) : Int), i + spanOf isDigit s.data.toList i))) := by
      unfold Hid numD; rw [show (pk s.data.toList i == 45) = false by simpa using h45]; rfl
    rw [← hc] at h45
    have e45 : ((c : Int) == 45) = false := by simp; omega
    have HP := Lib.hid hc.symm
    by_cases h48 : c = 48
    · subst h48
      obtain rfl : R = .ok (.int .i64 0, i + 1) := by rw [← HR.out, HN.out, if_pos hc.symm]; rfl
      clear hc h45
      go_enter Tryd.func73, Tryd.ntmps73
      go_wp2_with (first
        | (go_at_call 68; first
            | ((with_reducible refine (jpeek_is H.out hs HP.out).mono ?_); rintro e u' ⟨rfl, nq, rfl⟩)
            | (refine (jpeek_is (H.out.drewN _) hs HP.out).mono ?_; rintro e u' ⟨rfl, nq2, rfl⟩))
        | (go_at_call 86; refine (jnought_yes pb s i d _ (by first | exact (H.out.drewN _) | exact ((H.out.drewN _).drewN _)) hi hs).mono ?_; rintro e w1 ⟨rfl, hp, hf⟩; have HP1 := Lib.hid hp; have HF := Lib.hid hf; clear hp hf))
      go_ret
      exact ⟨rfl, HP1.out, (by first | exact (frm_drewN _ _ _).trans HF.out | exact ((frm_drewN _ _ _).drewN _).trans HF.out)⟩
    · have e48 : ((c : Int) == 48) = false := by simp; omega
      have HN2 := HN.out
      rw [← hc, if_neg h48] at HN2
      by_cases hbad : spanOf isDigit s.data.toList i = 0 ∨ 9223372036854775808 < dv s.data.toList i (spanOf isDigit s.data.toList i)
      · obtain rfl : R = .error 300 := by rw [← HR.out, HN2, if_pos (by omega)]; rfl
        have HE := Lib.hid (show digR s.data.toList i = .error 300 by unfold digR; rw [if_pos hbad])
        clear hc h48 HN2 hbad h45
        go_enter Tryd.func73, Tryd.ntmps73
        go_wp2_with (first
          | (go_at_call 68; first
              | ((with_reducible refine (jpeek_is H.out hs HP.out).mono ?_); rintro e u' ⟨rfl, nq, rfl⟩)
              | (refine (jpeek_is (H.out.drewN _) hs HP.out).mono ?_; rintro e u' ⟨rfl, nq2, rfl⟩))
          | (go_at_call 87; refine (jdigits_no (d := d) (by first | exact (H.out.drewN _) | exact ((H.out.drewN _).drewN _)) hi hs HE.out).mono ?_; rintro e w1 ⟨rfl, hf⟩; unfold thrown; have HF := Lib.hid hf; clear hf))
        exact ⟨rfl, rfl, (by first | exact (frm_drewN _ _ _).trans HF.out | exact ((frm_drewN _ _ _).drewN _).trans HF.out)⟩
      · obtain ⟨x, hx⟩ : ∃ x, x = dv s.data.toList i (spanOf isDigit s.data.toList i) := ⟨_, rfl⟩
        rw [← hx] at hbad HN2
        have HE := Lib.hid (show digR s.data.toList i = .ok (.int .i64 (-(x : Int)), i + spanOf isDigit s.data.toList i) by unfold digR; rw [← hx, if_neg hbad])
        by_cases hmin : x = 9223372036854775808
        · obtain rfl : R = .error 300 := by rw [← HR.out, HN2, if_pos (by omega)]; rfl
          have em : (-(x : Int) == -9223372036854775808) = true := by simp; omega
          clear hc h48 HN2 hbad h45 hx hmin
          go_enter Tryd.func73, Tryd.ntmps73
          go_wp2_with (first
            | (go_at_call 68; first
                | ((with_reducible refine (jpeek_is H.out hs HP.out).mono ?_); rintro e u' ⟨rfl, nq, rfl⟩)
                | (refine (jpeek_is (H.out.drewN _) hs HP.out).mono ?_; rintro e u' ⟨rfl, nq2, rfl⟩))
            | (go_at_call 33; refine (jthrow_any _ _).mono ?_; rintro e u' ⟨rfl, rfl⟩)
            | (go_at_call 87; refine (jdigits_yes (d := d) (by first | exact (H.out.drewN _) | exact ((H.out.drewN _).drewN _)) hi hs HE.out).mono ?_; rintro e w1 ⟨rfl, hp, hf⟩; have HP1 := Lib.hid hp; have HF := Lib.hid hf; clear hp hf))
          exact ⟨rfl, rfl, (by first | exact (frm_drewN _ _ _).trans HF.out | exact ((frm_drewN _ _ _).drewN _).trans HF.out)⟩
        · obtain rfl : R = .ok (.int .i64 (x : Int), i + spanOf isDigit s.data.toList i) := by rw [← HR.out, HN2, if_neg (by omega)]; rfl
          have em : (-(x : Int) == -9223372036854775808) = false := by simp; omega
          have HX : Hid (x ≤ 9223372036854775807) := by unfold Hid; omega
          clear hc h48 HN2 hbad h45 hx hmin
          go_enter Tryd.func73, Tryd.ntmps73
          go_wp2_with (first
            | (go_at_call 68; first
                | ((with_reducible refine (jpeek_is H.out hs HP.out).mono ?_); rintro e u' ⟨rfl, nq, rfl⟩)
                | (refine (jpeek_is (H.out.drewN _) hs HP.out).mono ?_; rintro e u' ⟨rfl, nq2, rfl⟩))
            | (go_at_call 87; refine (jdigits_yes (d := d) (by first | exact (H.out.drewN _) | exact ((H.out.drewN _).drewN _)) hi hs HE.out).mono ?_; rintro e w1 ⟨rfl, hp, hf⟩; have HP1 := Lib.hid hp; have HF := Lib.hid hf; clear hp hf))
          go_ret
          refine ⟨?_, HP1.out, (by first | exact (frm_drewN _ _ _).trans HF.out | exact ((frm_drewN _ _ _).drewN _).trans HF.out)⟩
          refine congrArg Ending.returned (congrArg (Value.int .i64) ?_)
          have := HX.out
          exact HV64 _ (by omega) (by omega)
end Go.Proofs.YtcobadgpelhcoaaDoor
