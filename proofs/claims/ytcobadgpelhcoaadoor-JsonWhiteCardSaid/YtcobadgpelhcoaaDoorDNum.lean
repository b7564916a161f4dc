/- The program's parser: numbers. -/
import Derived.Test.YtcobadgpelhcoaaDoorDQuot
import Derived.Test.YtcobadgpelhcoaaDoorNum
namespace Go.Proofs.YtcobadgpelhcoaaDoor
open Go.Conc Go.RowKit
set_option linter.unusedVariables false

theorem jnought_yes (pb : Nat) (s : ByteArray) (i d : Nat) (w : World) (h : JPAt w pb s i d) (hi : i ≤ s.size) (hs : s.size ≤ 65536) :
    Calls Tryd.prog 86 #[.pointer (some ⟨pb, 0, none⟩), .bool false] w (JAns pb s (i + 1) d (.int .i64 0) w) := by
  have c1 := h.c1
  have f1 := h.fz 1
  have H := Lib.hid h
  clear h
  go_enter Tryd.func86, Tryd.ntmps86
  go_wp2
  go_ret
  exact ⟨rfl, H.out.setAt (i + 1), frm_at _ _ _ _⟩
theorem jnought_no (pb : Nat) (w : World) :
    Calls Tryd.prog 86 #[.pointer (some ⟨pb, 0, none⟩), .bool true] w (JThrew pb 300 w) := by
  go_enter Tryd.func86, Tryd.ntmps86
  go_wp2_with (go_at_call 33; refine (jthrow_any _ _).mono ?_; rintro e u' ⟨rfl, rfl⟩)
  exact ⟨rfl, rfl, Frm.refl _ _⟩

/-- Of the digits from a place on: the number below 0 that they tell, and the place behind them. -/
def digR (l : List UInt8) (i : Nat) : Except Int (Value × Nat) :=
  if spanOf isDigit l i = 0 ∨ 9223372036854775808 < dv l i (spanOf isDigit l i) then .error 300
  else .ok (.int .i64 (-(dv l i (spanOf isDigit l i) : Int)), i + spanOf isDigit l i)
theorem quo_lo {d : Int} (h0 : 0 ≤ d) (h1 : d ≤ 8) : (-9223372036854775808 + d).tdiv 10 = -922337203685477580 := by
  rcases (by omega : d = 0 ∨ d = 1 ∨ d = 2 ∨ d = 3 ∨ d = 4 ∨ d = 5 ∨ d = 6 ∨ d = 7 ∨ d = 8) with rfl | rfl | rfl | rfl | rfl | rfl | rfl | rfl | rfl <;> rfl
theorem HV64 (v : Int) (h1 : -9223372036854775808 ≤ v) (h2 : v ≤ 9223372036854775807) : wrap64 v = v := by unfold wrap64; omega
theorem digitN_iff {c : Nat} : digitN c = true ↔ 48 ≤ c ∧ c ≤ 57 := by unfold digitN; simp

set_option maxHeartbeats 2000000 in
set_option maxRecDepth 100000 in
theorem jdigits_any (pb : Nat) (s : ByteArray) (i d : Nat) (w : World) (h : JPAt w pb s i d) (hi : i ≤ s.size) (hs : s.size ≤ 65536) :
    Calls Tryd.prog 87 #[.pointer (some ⟨pb, 0, none⟩)] w (JRes pb s d (digR s.data.toList i) w) := by
  have HL := Lib.hid (show s.data.toList.length = s.size by simp)
  have H := Lib.hid h
  clear h
  generalize hR : digR s.data.toList i = R
  have HR := Lib.hid hR
  clear hR
  cases hd : digitN (pk s.data.toList i) with
  | false =>
    have h0 : spanOf isDigit s.data.toList i = 0 := by
      rcases Nat.lt_or_ge i s.size with h | h
      · exact spanOf_no (by rw [HL.out]; exact h) (by rw [← digitN_pk (by rw [HL.out]; exact h)]; exact hd)
      · exact spanOf_end (by rw [HL.out]; exact h)
    obtain rfl : R = .error 300 := by rw [← HR.out]; unfold digR; rw [if_pos (.inl h0)]
    have HD := Lib.hid hd
    clear hd h0
    go_enter Tryd.func87, Tryd.ntmps87
    go_wp2_with (first
      | (go_at_call 68; refine (jpeek_any _ _ _ _ _ H.out hs).mono ?_; rintro e u' ⟨rfl, nq, rfl⟩)
      | (go_at_call 95; refine (jisdigit_b (pk_lt _ _) HD.out _).mono ?_; rintro e u' ⟨rfl, rfl⟩)
      | (go_at_call 33; refine (jthrow_any _ _).mono ?_; rintro e u' ⟨rfl, rfl⟩))
    exact ⟨rfl, rfl, frm_drewN _ _ _⟩
  | true =>
    obtain ⟨K, hK⟩ : ∃ K, K = spanOf isDigit s.data.toList i := ⟨_, rfl⟩
    have hsp : 0 < K ∧ i + K ≤ s.size := by
      have hl : i < s.data.toList.length := by
        apply Decidable.byContradiction; intro hn
        rw [pk_end (by omega)] at hd; exact absurd hd (by decide)
      have h1 := spanOf_yes (f := isDigit) hl (by rw [← digitN_pk hl]; exact hd)
      have h2 := spanOf_le isDigit s.data.toList i
      rw [HL.out] at h2
      omega
    have HK := Lib.hid hK
    have HD := Lib.hid hd
    obtain ⟨hK0, hKs⟩ := hsp
    clear hd hK
    go_enter Tryd.func87, Tryd.ntmps87
    go_wp2_with (first
      | (go_at_call 68; refine (jpeek_any _ _ _ _ _ H.out hs).mono ?_; rintro e u' ⟨rfl, nq, rfl⟩)
      | (go_at_call 95; refine (jisdigit_b (pk_lt _ _) HD.out _).mono ?_; rintro e u' ⟨rfl, rfl⟩))
    go_loopg [3] K (fun g nv wr => ∃ j x : Nat, j + g = K ∧ nv = .int .i64 (-(x : Int)) ∧ Hid (dv s.data.toList i j = x) ∧ Hid (x ≤ 9223372036854775808) ∧ JPAt wr pb s (i + j) d ∧ Frm (One pb) w wr)
    case atStart => exact ⟨0, 0, by omega, rfl, dv_zero _ _, by unfold Hid; omega, H.out.drewN _, frm_drewN _ _ _⟩
    case round =>
      obtain ⟨j, x, hjg, rfl, hdv, hx, hp, hfr⟩ := hrel
      have c1 := hp.c1
      have f1 := hp.fz 1
      have HP := Lib.hid hp
      have HF := Lib.hid hfr
      clear hp hfr
      by_cases hjK : j < K
      · obtain ⟨hl, hdg⟩ := span_in (by rw [← HK.out]; exact hjK)
        have hd2 : digitN (pk s.data.toList (i + j)) = true := by rw [digitN_pk hl]; exact hdg
        have hsucc := dv_succ hl
        have hpk : pk s.data.toList (i + j) = s.data.toList[i + j].toNat := by unfold pk; rw [List.getElem?_eq_getElem hl]
        rw [← hpk, hdv.out] at hsucc
        obtain ⟨c, hc⟩ : ∃ c, c = pk s.data.toList (i + j) := ⟨_, rfl⟩
        rw [← hc] at hd2 hsucc
        have HS := Lib.hid hsucc
        have HD2 := Lib.hid hd2
        have HC := Lib.hid hc.symm
        rw [digitN_iff] at hd2
        obtain ⟨hc1, hc2⟩ := hd2
        obtain ⟨g, rfl⟩ : ∃ g, gk = g + 1 := ⟨gk - 1, by omega⟩
        clear hl hdg hsucc hpk hc
        have hq1 : (-9223372036854775808 + ((c : Int) - 48)).tdiv 10 = if c ≤ 56 then -922337203685477580 else -922337203685477579 := by
          by_cases h : c ≤ 56
          · rw [if_pos h]; exact quo_lo (by omega) (by omega)
          · rw [if_neg h, show c = 57 by omega]; rfl
        by_cases hov : 9223372036854775808 < 10 * x + (c - 48)
        · have hbad : 9223372036854775808 < dv s.data.toList i K := by
            have h1 := dv_mono (l := s.data.toList) (fr := i) (j := j + 1) (d := g) (by rw [HL.out]; omega)
            rw [HS.out, show j + 1 + g = K by omega] at h1
            omega
          obtain rfl : R = .error 300 := by rw [← HR.out]; unfold digR; rw [← HK.out, if_pos (.inr hbad)]
          have ht : decide (-(x : Int) < (-9223372036854775808 + ((c : Int) - 48)).tdiv 10) = true := by
            rw [hq1, decide_eq_true_iff]; split <;> omega
          clear hq1 hov hbad
          go_wp2_with (first
            | (go_at_call 68; refine (jpeek_is HP.out hs HC.out).mono ?_; rintro e u' ⟨rfl, nq, rfl⟩)
            | (go_at_call 68; refine (jpeek_is (HP.out.drewN _) hs HC.out).mono ?_; rintro e u' ⟨rfl, nq, rfl⟩)
            | (go_at_call 95; refine (jisdigit_b (by omega) HD2.out _).mono ?_; rintro e u' ⟨rfl, rfl⟩)
            | (go_at_call 33; refine (jthrow_any _ _).mono ?_; rintro e u' ⟨rfl, rfl⟩))
          exact ⟨rfl, rfl, HF.out.drewN _⟩
        · have ht : decide (-(x : Int) < (-9223372036854775808 + ((c : Int) - 48)).tdiv 10) = false := by
            rw [hq1, decide_eq_false_iff_not]; split <;> omega
          have hw : Hid (wrap64 (wrap64 (-(x : Int) * 10) - ((c : Int) - 48)) = -((10 * x + (c - 48) : Nat) : Int)) := by
            unfold Hid
            have := HV64 (-(x : Int) * 10) (by omega) (by omega)
            rw [this, HV64 _ (by omega) (by omega)]
            omega
          have hx2 : Hid (10 * x + (c - 48) ≤ 9223372036854775808) := by unfold Hid; omega
          clear hq1 hov
          go_wp2_with (first
            | (go_at_call 68; refine (jpeek_is HP.out hs HC.out).mono ?_; rintro e u' ⟨rfl, nq, rfl⟩)
            | (go_at_call 68; refine (jpeek_is (HP.out.drewN _) hs HC.out).mono ?_; rintro e u' ⟨rfl, nq, rfl⟩)
            | (go_at_call 95; refine (jisdigit_b (by omega) HD2.out _).mono ?_; rintro e u' ⟨rfl, rfl⟩))
          go_roundg g
          case rel => exact ⟨j + 1, 10 * x + (c - 48), by omega, congrArg (Value.int .i64) hw.out, HS.out, hx2, (HP.out.drewN _).setAt (i + (j + 1)), (HF.out.drewN _).trans (frm_at _ _ _ _)⟩
          case measure => omega
      · obtain rfl : j = K := by omega
        have hnd : digitN (pk s.data.toList (i + j)) = false := by
          rcases Nat.lt_or_ge (i + j) s.size with h | h
          · have h2 := span_out (l := s.data.toList) (fr := i) (by rw [← HK.out, HL.out]; exact h)
            rw [digitN_pk (by rw [HL.out]; exact h)]
            simp only [← HK.out] at h2
            exact h2
          · rw [pk_out h]; rfl
        have HD2 := Lib.hid hnd
        obtain rfl : R = .ok (.int .i64 (-(x : Int)), i + j) := by
          rw [← HR.out]; unfold digR
          rw [← HK.out, hdv.out, if_neg (by have := hx.out; omega)]
        clear hnd
        go_wp2_with (first
          | (go_at_call 68; refine (jpeek_any _ _ _ _ _ HP.out hs).mono ?_; rintro e u' ⟨rfl, nq, rfl⟩)
          | (go_at_call 95; refine (jisdigit_b (pk_lt _ _) HD2.out _).mono ?_; rintro e u' ⟨rfl, rfl⟩))
        go_ret
        exact ⟨rfl, HP.out.drewN _, HF.out.drewN _⟩
end Go.Proofs.YtcobadgpelhcoaaDoor
