/- The program's parser: texts. -/
import Derived.Test.YtcobadgpelhcoaaDoorDEsc
import Derived.Test.YtcobadgpelhcoaaDoorFirst
import Derived.Test.YtcobadgpelhcoaaDoorText
namespace Go.Proofs.YtcobadgpelhcoaaDoor
open Go.Conc Go.RowKit
set_option linter.unusedVariables false

theorem rr_low {l : List UInt8} {i : Nat} (h : i < l.length) (h2 : pk l i < 128) : rr l i = ((pk l i : Int), 1) := by
  have e : lead l i = (pk l i : Int) := by rw [lead_some h]; unfold pk; rw [List.getElem?_eq_getElem h]
  unfold rr run4
  rw [e, if_neg (by omega), if_pos (by omega)]
theorem rr_high {l : List UInt8} {i : Nat} (h2 : 128 ≤ pk l i) : (rr l i).2 = 0 ∨ 128 ≤ (rr l i).1 := by
  have h : i < l.length := by
    apply Decidable.byContradiction; intro hn
    rw [pk_end (by omega)] at h2; omega
  have e : lead l i = (pk l i : Int) := by rw [lead_some h]; unfold pk; rw [List.getElem?_eq_getElem h]
  unfold rr
  rw [e]
  generalize nxt l (i + 1) = a
  generalize nxt l (i + 2) = b
  generalize nxt l (i + 3) = d
  unfold run4
  rw [if_neg (by omega), if_neg (by omega)]
  repeat' split
  all_goals first | exact .inl rfl | (right; simp only; omega)
theorem rr_end {l : List UInt8} {i : Nat} (h : l.length ≤ i) : rr l i = (0, 0) := by
  unfold rr run4
  rw [lead_none h, if_pos (by omega)]
/-- A byte below 128 is its own rune; a rune below 128 is a byte. -/
theorem rr_is {l : List UInt8} {i c : Nat} (hc : 0 < c) (hc2 : c < 128) (h : pk l i = c) : rr l i = ((c : Int), 1) := by
  have hl : i < l.length := by
    apply Decidable.byContradiction; intro hn
    rw [pk_end (by omega)] at h; omega
  rw [rr_low hl (by omega), h]
theorem rr_isnt {l : List UInt8} {i c : Nat} (hc : 0 < c) (hc2 : c < 128) (h : ¬ pk l i = c) : ¬ (rr l i).1 = (c : Int) := by
  intro e
  by_cases hl : i < l.length
  · by_cases h2 : pk l i < 128
    · rw [rr_low hl h2] at e; simp only at e; omega
    · rcases rr_high (l := l) (i := i) (by omega) with h3 | h3
      · rw [rr_zero h3] at e; simp only at e; omega
      · omega
  · rw [rr_end (by omega)] at e; simp only at e; omega

theorem urune_at (s : ByteArray) (k : Nat) (hk : k ≤ s.size) (hs : s.size ≤ 65536) (w : World) :
    Calls Tryd.prog 92 #[.string s, .int .i64 k] w fun e w' => e = .returned (.tuple #[.int .i64 (rr s.data.toList k).1, .int .i64 (rr s.data.toList k).2]) ∧ w' = w := by
  by_cases h : k < s.size
  · exact (urune_in s k h (by omega) w).mono fun e w' ⟨a, b⟩ => ⟨a, b.symm⟩
  · rw [rr_end (by simp; omega)]
    exact (urune_out s k (.inr (by omega)) w).mono fun e w' ⟨a, b⟩ => ⟨a, b.symm⟩

set_option maxHeartbeats 2000000 in
theorem jplain_yes (pb : Nat) (s : ByteArray) (k d m : Nat) (r : Int) (w : World) (h : JPAt w pb s k d) (hk : k ≤ s.size) (hs : s.size ≤ 65536) (hr : rr s.data.toList k = (r, (m : Int))) (hm : 1 ≤ m) (hkm : k + m ≤ s.size) (hr2 : 32 ≤ r) :
    Calls Tryd.prog 84 #[.pointer (some ⟨pb, 0, none⟩)] w (JAns pb s (k + m) d (.string (s.extract k (k + m))) w) := by
  have c0 := h.c0
  have c1 := h.c1
  have f1 := h.fz 1
  have H := Lib.hid h
  have TU := urune_at s k hk hs
  rw [hr] at TU
  have TR := Lib.hid TU
  clear h TU hr
  have g1 : ((m : Int) == 0) = false := by simp; omega
  have g2 : decide (r < 32) = false := by simp; omega
  have z1 : IntKind.i64.wrap ((k : Int) + (m : Int)) = (k : Int) + (m : Int) := IntWalk.i64_in _ (by omega)
  have z2 : (0 : Int) ≤ (k : Int) + (m : Int) := by omega
  have z3 : ((k : Int) + (m : Int)).toNat = k + m := by omega
  have z4 : (k : Int) + (m : Int) ≤ (s.size : Int) := by omega
  have z5 : (k : Int) ≤ (k : Int) + (m : Int) := by omega
  have z6 : IntKind.i64.wrap ((k : Int) + (m : Int) - (m : Int)) = (k : Int) := by rw [show (k : Int) + (m : Int) - (m : Int) = k by omega]; exact IntWalk.i64_in _ (by omega)
  go_enter Tryd.func84, Tryd.ntmps84
  go_wp2
  go_quiet ((go_at_call 92; exact Calls.quiet_of_same (TR.out _)))
  go_wp2
  go_quiet (fail)
  go_wp2
  go_ret
  exact ⟨rfl, ((H.out.drewN _).setAt (k + m)).drewN _, ((frm_drewN _ _ _).trans (frm_at _ _ _ _)).drewN _⟩
set_option maxHeartbeats 2000000 in
theorem jplain_no (pb : Nat) (s : ByteArray) (k d : Nat) (w : World) (h : JPAt w pb s k d) (hk : k ≤ s.size) (hs : s.size ≤ 65536) (hr : (rr s.data.toList k).2 = 0 ∨ (rr s.data.toList k).1 < 32) :
    Calls Tryd.prog 84 #[.pointer (some ⟨pb, 0, none⟩)] w (JThrew pb 300 w) := by
  have c0 := h.c0
  have c1 := h.c1
  have H := Lib.hid h
  have TU := urune_at s k hk hs
  have hle := rr_le s.data.toList k
  generalize rr s.data.toList k = q at *
  obtain ⟨r, m⟩ := q
  simp only at hr hle TU
  have TR := Lib.hid TU
  have HR := Lib.hid hr
  clear h TU hr hle
  by_cases hm : m = 0
  all_goals
    first
      | (have g1 : (m == 0) = true := by simpa using hm)
      | skip
    first
      | (have g1 : (m == 0) = false := by simpa using hm
         have g2 : decide (r < 32) = true := by have := HR.out; simp; omega)
      | skip
    clear hm
    go_enter Tryd.func84, Tryd.ntmps84
    go_wp2
    go_quiet ((go_at_call 92; exact Calls.quiet_of_same (TR.out _)))
    go_wp2_with (go_at_call 33; refine (jthrow_any _ _).mono ?_; rintro e u' ⟨rfl, rfl⟩)
    exact ⟨rfl, rfl, frm_drewN _ _ _⟩

theorem jpeek_is {pb : Nat} {s : ByteArray} {i d c : Nat} {w : World} (h : JPAt w pb s i d) (hs : s.size ≤ 65536) (hc : pk s.data.toList i = c) :
    Calls Tryd.prog 68 #[.pointer (some ⟨pb, 0, none⟩)] w fun e w' => e = .returned (.int .u8 c) ∧ ∃ n, w' = w.drewN n := hc ▸ jpeek_any pb s i d w h hs
theorem pk_some {l : List UInt8} {i c : Nat} (h : pk l i = c) (hc : 0 < c) : ∃ b : UInt8, l[i]? = some b ∧ b.toNat = c ∧ i < l.length := by
  have hl : i < l.length := by
    apply Decidable.byContradiction; intro hn
    rw [pk_end (by omega)] at h; omega
  unfold pk at h
  rw [List.getElem?_eq_getElem hl] at h
  exact ⟨l[i], List.getElem?_eq_getElem hl, h, hl⟩

set_option maxHeartbeats 4000000 in
theorem jescape_any (pb : Nat) (s : ByteArray) (i d : Nat) (w : World) (h : JPAt w pb s i d) (hi : i ≤ s.size) (hs : s.size ≤ 65536) :
    Calls Tryd.prog 83 #[.pointer (some ⟨pb, 0, none⟩)] w (JRes pb s d (strR (escAt s.data.toList i)) w) := by
  have HL := Lib.hid (show s.data.toList.length = s.size by simp)
  have H := Lib.hid h
  have c1 := h.c1
  have f1 := h.fz 1
  clear h
  generalize hR : strR (escAt s.data.toList i) = R
  have HR := Lib.hid hR
  clear hR
  by_cases b34 : pk s.data.toList i = 34
  · obtain ⟨b, hb, hbc, -⟩ := pk_some b34 (by omega)
    obtain rfl : R = .ok (.string ⟨#[34]⟩, i + 1) := by rw [← HR.out, escAt_short hb (b := 34) (by unfold short; rw [hbc]; rfl)]; rfl
    have HP := Lib.hid b34
    clear b34 hb hbc
    go_enter Tryd.func83, Tryd.ntmps83
    go_wp2_with (go_at_call 68; refine (jpeek_is H.out hs HP.out).mono ?_; rintro e u' ⟨rfl, nq, rfl⟩)
    go_ret
    exact ⟨rfl, (H.out.drewN _).setAt (i + 1), (frm_drewN _ _ _).trans (frm_at _ _ _ _)⟩
  by_cases b92 : pk s.data.toList i = 92
  · obtain ⟨b, hb, hbc, -⟩ := pk_some b92 (by omega)
    obtain rfl : R = .ok (.string ⟨#[92]⟩, i + 1) := by rw [← HR.out, escAt_short hb (b := 92) (by unfold short; rw [hbc]; rfl)]; rfl
    have HP := Lib.hid b92
    clear b92 hb hbc
    go_enter Tryd.func83, Tryd.ntmps83
    go_wp2_with (go_at_call 68; refine (jpeek_is H.out hs HP.out).mono ?_; rintro e u' ⟨rfl, nq, rfl⟩)
    go_ret
    exact ⟨rfl, (H.out.drewN _).setAt (i + 1), (frm_drewN _ _ _).trans (frm_at _ _ _ _)⟩
  by_cases b47 : pk s.data.toList i = 47
  · obtain ⟨b, hb, hbc, -⟩ := pk_some b47 (by omega)
    obtain rfl : R = .ok (.string ⟨#[47]⟩, i + 1) := by rw [← HR.out, escAt_short hb (b := 47) (by unfold short; rw [hbc]; rfl)]; rfl
    have HP := Lib.hid b47
    clear b47 hb hbc
    go_enter Tryd.func83, Tryd.ntmps83
    go_wp2_with (go_at_call 68; refine (jpeek_is H.out hs HP.out).mono ?_; rintro e u' ⟨rfl, nq, rfl⟩)
    go_ret
    exact ⟨rfl, (H.out.drewN _).setAt (i + 1), (frm_drewN _ _ _).trans (frm_at _ _ _ _)⟩
  by_cases b98 : pk s.data.toList i = 98
  · obtain ⟨b, hb, hbc, -⟩ := pk_some b98 (by omega)
    obtain rfl : R = .ok (.string ⟨#[8]⟩, i + 1) := by rw [← HR.out, escAt_short hb (b := 8) (by unfold short; rw [hbc]; rfl)]; rfl
    have HP := Lib.hid b98
    clear b98 hb hbc
    go_enter Tryd.func83, Tryd.ntmps83
    go_wp2_with (go_at_call 68; refine (jpeek_is H.out hs HP.out).mono ?_; rintro e u' ⟨rfl, nq, rfl⟩)
    go_ret
    exact ⟨rfl, (H.out.drewN _).setAt (i + 1), (frm_drewN _ _ _).trans (frm_at _ _ _ _)⟩
  by_cases b102 : pk s.data.toList i = 102
  · obtain ⟨b, hb, hbc, -⟩ := pk_some b102 (by omega)
    obtain rfl : R = .ok (.string ⟨#[12]⟩, i + 1) := by rw [← HR.out, escAt_short hb (b := 12) (by unfold short; rw [hbc]; rfl)]; rfl
    have HP := Lib.hid b102
    clear b102 hb hbc
    go_enter Tryd.func83, Tryd.ntmps83
    go_wp2_with (go_at_call 68; refine (jpeek_is H.out hs HP.out).mono ?_; rintro e u' ⟨rfl, nq, rfl⟩)
    go_ret
    exact ⟨rfl, (H.out.drewN _).setAt (i + 1), (frm_drewN _ _ _).trans (frm_at _ _ _ _)⟩
  by_cases b110 : pk s.data.toList i = 110
  · obtain ⟨b, hb, hbc, -⟩ := pk_some b110 (by omega)
    obtain rfl : R = .ok (.string ⟨#[10]⟩, i + 1) := by rw [← HR.out, escAt_short hb (b := 10) (by unfold short; rw [hbc]; rfl)]; rfl
    have HP := Lib.hid b110
    clear b110 hb hbc
    go_enter Tryd.func83, Tryd.ntmps83
    go_wp2_with (go_at_call 68; refine (jpeek_is H.out hs HP.out).mono ?_; rintro e u' ⟨rfl, nq, rfl⟩)
    go_ret
    exact ⟨rfl, (H.out.drewN _).setAt (i + 1), (frm_drewN _ _ _).trans (frm_at _ _ _ _)⟩
  by_cases b114 : pk s.data.toList i = 114
  · obtain ⟨b, hb, hbc, -⟩ := pk_some b114 (by omega)
    obtain rfl : R = .ok (.string ⟨#[13]⟩, i + 1) := by rw [← HR.out, escAt_short hb (b := 13) (by unfold short; rw [hbc]; rfl)]; rfl
    have HP := Lib.hid b114
    clear b114 hb hbc
    go_enter Tryd.func83, Tryd.ntmps83
    go_wp2_with (go_at_call 68; refine (jpeek_is H.out hs HP.out).mono ?_; rintro e u' ⟨rfl, nq, rfl⟩)
    go_ret
    exact ⟨rfl, (H.out.drewN _).setAt (i + 1), (frm_drewN _ _ _).trans (frm_at _ _ _ _)⟩
  by_cases b116 : pk s.data.toList i = 116
  · obtain ⟨b, hb, hbc, -⟩ := pk_some b116 (by omega)
    obtain rfl : R = .ok (.string ⟨#[9]⟩, i + 1) := by rw [← HR.out, escAt_short hb (b := 9) (by unfold short; rw [hbc]; rfl)]; rfl
    have HP := Lib.hid b116
    clear b116 hb hbc
    go_enter Tryd.func83, Tryd.ntmps83
    go_wp2_with (go_at_call 68; refine (jpeek_is H.out hs HP.out).mono ?_; rintro e u' ⟨rfl, nq, rfl⟩)
    go_ret
    exact ⟨rfl, (H.out.drewN _).setAt (i + 1), (frm_drewN _ _ _).trans (frm_at _ _ _ _)⟩
  obtain ⟨c, hc⟩ : ∃ c, c = pk s.data.toList i := ⟨_, rfl⟩
  rw [← hc] at b34 b92 b47 b98 b102 b110 b114 b116
  have e34 : ((c : Int) == 34) = false := by simp; omega
  have e92 : ((c : Int) == 92) = false := by simp; omega
  have e47 : ((c : Int) == 47) = false := by simp; omega
  have e98 : ((c : Int) == 98) = false := by simp; omega
  have e102 : ((c : Int) == 102) = false := by simp; omega
  have e110 : ((c : Int) == 110) = false := by simp; omega
  have e114 : ((c : Int) == 114) = false := by simp; omega
  have e116 : ((c : Int) == 116) = false := by simp; omega
  by_cases hu : c = 117
  · have hu2 : pk s.data.toList i = 117 := by omega
    obtain ⟨b, hb, hbc, hil⟩ := pk_some hu2 (by omega)
    have hR2 : R = strR (uAt s.data.toList i) := by rw [← HR.out, escAt_u hb (by unfold short; rw [hbc]; rfl) hbc]
    have hil2 : i + 1 ≤ s.size := by rw [HL.out] at hil; omega
    have HP := Lib.hid hu2
    have HR2 := Lib.hid hR2
    clear hu hu2 hb hbc hc hil hR2 b34 e34 b92 e92 b47 e47 b98 e98 b102 e102 b110 e110 b114 e114 b116 e116
    cases hx : uAt s.data.toList i with
    | error x =>
      have HX := Lib.hid hx
      obtain rfl : R = .error x := by rw [HR2.out, hx]; rfl
      clear hx
      go_enter Tryd.func83, Tryd.ntmps83
      go_wp2_with (first
        | (go_at_call 68; refine (jpeek_is H.out hs HP.out).mono ?_; rintro e u' ⟨rfl, nq, rfl⟩)
        | (go_at_call 93; refine (jcoded_any pb s i d _ ((H.out.drewN _).setAt (i + 1)) hil2 hs).mono ?_; rw [HX.out]; rintro e w1 ⟨rfl, hf⟩; unfold thrown; have HF := Lib.hid hf; clear hf))
      exact ⟨rfl, rfl, ((frm_drewN _ _ _).trans (frm_at _ _ _ _)).trans HF.out⟩
    | ok q =>
      obtain ⟨bs, k⟩ := q
      have HX := Lib.hid hx
      obtain rfl : R = .ok (.string ⟨bs.toArray⟩, k) := by rw [HR2.out, hx]; rfl
      clear hx
      go_enter Tryd.func83, Tryd.ntmps83
      go_wp2_with (first
        | (go_at_call 68; refine (jpeek_is H.out hs HP.out).mono ?_; rintro e u' ⟨rfl, nq, rfl⟩)
        | (go_at_call 93; refine (jcoded_any pb s i d _ ((H.out.drewN _).setAt (i + 1)) hil2 hs).mono ?_; rw [HX.out]; rintro e w1 ⟨rfl, hp, hf⟩; have HP1 := Lib.hid hp; have HF := Lib.hid hf; clear hp hf))
      go_ret
      exact ⟨rfl, HP1.out, ((frm_drewN _ _ _).trans (frm_at _ _ _ _)).trans HF.out⟩
  · have e117 : ((c : Int) == 117) = false := by simp; omega
    obtain rfl : R = .error 300 := by
      rw [← HR.out]
      cases hb : s.data.toList[i]? with
      | none => unfold escAt; rw [hb]; rfl
      | some b =>
        have hbc : b.toNat = c := by rw [hc]; unfold pk; rw [hb]
        rw [escAt_other hb (by unfold short; split <;> first | omega | rfl) (by omega)]; rfl
    have HP := Lib.hid hc.symm
    clear hc hu b34 b92 b47 b98 b102 b110 b114 b116
    go_enter Tryd.func83, Tryd.ntmps83
    go_wp2_with (first
      | (go_at_call 68; refine (jpeek_is H.out hs HP.out).mono ?_; rintro e u' ⟨rfl, nq, rfl⟩)
      | (go_at_call 33; refine (jthrow_any _ _).mono ?_; rintro e u' ⟨rfl, rfl⟩))
    exact ⟨rfl, rfl, (frm_drewN _ _ _).trans (frm_at _ _ _ _)⟩
end Go.Proofs.YtcobadgpelhcoaaDoor
