/- The program's parser: white, brackets, digits to sixteen. -/
import Derived.Test.YtcobadgpelhcoaaDoorDPeek
import Derived.Test.YtcobadgpelhcoaaDoorHex
namespace Go.Proofs.YtcobadgpelhcoaaDoor
open Go.Conc Go.RowKit
set_option linter.unusedVariables false

theorem whiteN_pk {l : List UInt8} {i : Nat} (h : i < l.length) : whiteN (pk l i) = isWhite l[i] := by
  unfold pk; rw [List.getElem?_eq_getElem h]; rfl
theorem digitN_pk {l : List UInt8} {i : Nat} (h : i < l.length) : digitN (pk l i) = isDigit l[i] := by
  unfold pk; rw [List.getElem?_eq_getElem h]; show digitN l[i].toNat = _
  unfold digitN isDigit; rw [← Bool.decide_and]
theorem pk_end {l : List UInt8} {i : Nat} (h : l.length ≤ i) : pk l i = 0 := by
  unfold pk; rw [List.getElem?_eq_none h]
theorem jiswhite_b {c : Nat} {b : Bool} (hc : c < 256) (hb : whiteN c = b) (w : World) : Calls Tryd.prog 67 #[.int .u8 c] w fun e w' => e = .returned (.bool b) ∧ w = w' := hb ▸ jiswhite_any c hc w
theorem jisdigit_b {c : Nat} {b : Bool} (hc : c < 256) (hb : digitN c = b) (w : World) : Calls Tryd.prog 95 #[.int .u8 c] w fun e w' => e = .returned (.bool b) ∧ w = w' := hb ▸ jisdigit_any c hc w

set_option maxHeartbeats 1000000 in
theorem jskip_any (pb : Nat) (s : ByteArray) (i d : Nat) (w : World) (h : JPAt w pb s i d) (hi : i ≤ s.size) (hs : s.size ≤ 65536) :
    Calls Tryd.prog 55 #[.pointer (some ⟨pb, 0, none⟩)] w (JAns pb s (skipW s.data.toList i) d (.tuple #[]) w) := by
  have HL := Lib.hid (show s.data.toList.length = s.size by simp)
  have H := Lib.hid h
  clear h
  go_enter Tryd.func55, Tryd.ntmps55
  go_wp2
  go_loopg [] (s.size - i) (fun g wr => ∃ k : Nat, k + g = s.size ∧ JPAt wr pb s k d ∧ Hid (skipW s.data.toList k = skipW s.data.toList i) ∧ Frm (One pb) w wr)
  case atStart => exact ⟨i, by omega, H.out, rfl, Frm.refl _ _⟩
  case round =>
    obtain ⟨k, hkg, hp, hsk, hf⟩ := hrel
    have c1 := hp.c1
    have f1 := hp.fz 1
    have HP := Lib.hid hp
    have HF := Lib.hid hf
    clear hp hf
    by_cases hw : whiteN (pk s.data.toList k) = true
    · have hlt : k < s.size := by
        rcases Nat.lt_or_ge k s.size with h | h
        · exact h
        · rw [pk_out h] at hw; exact absurd hw (by decide)
      have hw2 : Hid (skipW s.data.toList (k + 1) = skipW s.data.toList i) := by
        exact (skipW_yes (by rw [HL.out]; exact hlt) (by rw [← whiteN_pk (by rw [HL.out]; exact hlt)]; exact hw)).symm.trans hsk.out
      have HW := Lib.hid hw
      clear hw
      obtain ⟨g, rfl⟩ : ∃ g, gk = g + 1 := ⟨gk - 1, by omega⟩
      go_wp2_with (first | (go_at_call 68; refine (jpeek_any _ _ _ _ _ HP.out hs).mono ?_; rintro e u' ⟨rfl, nq, rfl⟩) | (go_at_call 67; refine (jiswhite_b (pk_lt _ _) HW.out _).mono ?_; rintro e u' ⟨rfl, rfl⟩))
      go_roundg g
      case rel => exact ⟨k + 1, by omega, (HP.out.drewN _).setAt (k + 1), hw2, (HF.out.drewN _).trans (frm_at _ _ _ _)⟩
      case measure => omega
    · have hw0 : whiteN (pk s.data.toList k) = false := by simpa using hw
      have hw2 : Hid (skipW s.data.toList i = k) := by
        unfold Hid; rw [← hsk.out]
        rcases Nat.lt_or_ge k s.size with h | h
        · exact skipW_no (by rw [HL.out]; exact h) (by rw [← whiteN_pk (by rw [HL.out]; exact h)]; exact hw0)
        · exact skipW_end (by rw [HL.out]; exact h)
      have HW := Lib.hid hw0
      clear hw hw0
      go_wp2_with (first | (go_at_call 68; refine (jpeek_any _ _ _ _ _ HP.out hs).mono ?_; rintro e u' ⟨rfl, nq, rfl⟩) | (go_at_call 67; refine (jiswhite_b (pk_lt _ _) HW.out _).mono ?_; rintro e u' ⟨rfl, rfl⟩))
      go_end0
      exact ⟨rfl, by rw [hw2.out]; exact HP.out.drewN _, HF.out.drewN _⟩

theorem frm_at2 (w : World) (pb j k : Nat) (u v : Value) : Frm (One pb) w ((w.setCell ⟨pb, j, none⟩ u).setCell ⟨pb, k, none⟩ v) := (frm_at _ _ _ _).trans (frm_at _ _ _ _)

set_option maxHeartbeats 1000000 in
theorem jopen_yes (pb : Nat) (s : ByteArray) (i d : Nat) (w : World) (h : JPAt w pb s i d) (hi : i + 1 ≤ s.size) (hs : s.size ≤ 65536) (hd : d < 16) :
    Calls Tryd.prog 80 #[.pointer (some ⟨pb, 0, none⟩)] w (JAns pb s (skipW s.data.toList (i + 1)) (d + 1) (.tuple #[]) w) := by
  have c1 := h.c1
  have c2 := h.c2
  have f1 := h.fz 1
  have f2 := h.fz 2
  have H := Lib.hid h
  clear h
  go_enter Tryd.func80, Tryd.ntmps80
  go_wp2_with (go_at_call 55; refine (jskip_any pb s (i + 1) (d + 1) _ ((H.out.setDeep (d + 1)).setAt (i + 1)) hi hs).mono ?_; rintro e u' ⟨rfl, hp, hf⟩; have HP := Lib.hid hp; have HF := Lib.hid hf; clear hp hf)
  go_end0
  exact ⟨rfl, HP.out, (frm_at2 _ _ _ _ _ _).trans HF.out⟩
set_option maxHeartbeats 1000000 in
theorem jopen_no (pb : Nat) (s : ByteArray) (i d : Nat) (w : World) (h : JPAt w pb s i d) (hd : d = 16) :
    Calls Tryd.prog 80 #[.pointer (some ⟨pb, 0, none⟩)] w (JThrew pb 301 w) := by
  subst hd
  have c2 := h.c2
  have f2 := h.fz 2
  have H := Lib.hid h
  clear h
  go_enter Tryd.func80, Tryd.ntmps80
  go_wp2_with ((go_at_call 33; refine (jthrow_any _ _).mono ?_; rintro e u' ⟨rfl, rfl⟩))
  exact ⟨rfl, rfl, frm_at _ _ _ _⟩
set_option maxHeartbeats 1000000 in
theorem jcloses_yes (pb : Nat) (s : ByteArray) (c i d : Nat) (w : World) (h : JPAt w pb s i (d + 1)) (hi : i ≤ s.size) (hs : s.size ≤ 65536) (hd : d < 16) (hc : pk s.data.toList i = c) :
    Calls Tryd.prog 81 #[.pointer (some ⟨pb, 0, none⟩), .int .u8 c] w (JAns pb s (i + 1) d (.bool true) w) := by
  subst hc
  have c1 := h.c1
  have c2 := h.c2
  have f1 := h.fz 1
  have f2 := h.fz 2
  have H := Lib.hid h
  clear h
  go_enter Tryd.func81, Tryd.ntmps81
  go_wp2_with (go_at_call 68; refine (jpeek_any _ _ _ _ _ H.out hs).mono ?_; rintro e u' ⟨rfl, nq, rfl⟩)
  go_ret
  exact ⟨rfl, ((H.out.drewN _).setDeep d).setAt (i + 1), (frm_drewN _ _ _).trans (frm_at2 _ _ _ _ _ _)⟩
set_option maxHeartbeats 1000000 in
theorem jcloses_no (pb : Nat) (s : ByteArray) (c i d : Nat) (w : World) (h : JPAt w pb s i d) (hs : s.size ≤ 65536) (hc : ¬ pk s.data.toList i = c) :
    Calls Tryd.prog 81 #[.pointer (some ⟨pb, 0, none⟩), .int .u8 c] w (JAns pb s i d (.bool false) w) := by
  have e1 : (((pk s.data.toList i : Nat) : Int) == (c : Int)) = false := by simp; omega
  have e2 : (((pk s.data.toList i : Nat) : Int) != (c : Int)) = true := by simp; omega
  have H := Lib.hid h
  clear h hc
  go_enter Tryd.func81, Tryd.ntmps81
  go_wp2_with (go_at_call 68; refine (jpeek_any _ _ _ _ _ H.out hs).mono ?_; rintro e u' ⟨rfl, nq, rfl⟩)
  go_ret
  exact ⟨rfl, H.out.drewN _, frm_drewN _ _ _⟩
end Go.Proofs.YtcobadgpelhcoaaDoor
