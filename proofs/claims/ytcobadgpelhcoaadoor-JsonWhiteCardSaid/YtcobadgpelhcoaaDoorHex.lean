/- The parser of the document's answer: four digits. -/
import Derived.Test.YtcobadgpelhcoaaDoorWord
namespace Go.Proofs.YtcobadgpelhcoaaDoor
open Go.Conc Go.RowKit
set_option linter.unusedVariables false

def HxB (j x : Nat) : Prop := (j ≤ 0 → x < 1) ∧ (j ≤ 1 → x < 16) ∧ (j ≤ 2 → x < 256) ∧ (j ≤ 3 → x < 4096) ∧ x < 65536

theorem hexAt_short {l : List UInt8} {i : Nat} (h : l.length < i + 4) : hexAt l i = none := by
  refine hexAt_bad (j := 3) (by omega) (hexN_bad ?_)
  rw [List.getElem?_eq_none (by omega)]; rfl

theorem phex_short (pb : Nat) (s : ByteArray) (i : Nat) (code : Int) (w : World) (h : PAt w pb s i code) (hi : i ≤ s.size) (hs : s.size ≤ 65536) (hf : s.size < i + 4) :
    Calls Tryd.prog 75 #[.pointer (some ⟨pb, 0, none⟩)] w (PTold pb s i code (.int .i64 (-1)) w) := by
  have c0 := h.c0
  have c1 := h.c1
  have H := Lib.hid h
  clear h
  go_enter Tryd.func75, Tryd.ntmps75
  go_wp2
  go_quiet (fail)
  go_wp2
  go_ret
  exact ⟨rfl, H.out.drewN nq, (Frm.refl _ w).drewN nq⟩

/-- What was read, or -1. -/
def hexAns (r : Option Nat) : Int := match r with | some x => x | none => -1
def hexTo (r : Option Nat) (i : Nat) : Nat := match r with | some _ => i + 4 | none => i
set_option maxHeartbeats 2000000 in
theorem phex_long (pb : Nat) (s : ByteArray) (i : Nat) (code : Int) (w : World) (h : PAt w pb s i code) (hs : s.size ≤ 65536) (hf : i + 4 ≤ s.size) :
    Calls Tryd.prog 75 #[.pointer (some ⟨pb, 0, none⟩)] w (PTold pb s (hexTo (hexAt s.data.toList i) i) code (.int .i64 (hexAns (hexAt s.data.toList i))) w) := by
  have HL := Lib.hid (show s.data.toList.length = s.size by simp)
  have c0 := h.c0
  have c1 := h.c1
  have H := Lib.hid h
  clear h
  generalize hR : hexAt s.data.toList i = R
  have HR := Lib.hid hR
  clear hR
  go_enter Tryd.func75, Tryd.ntmps75
  go_wp2
  go_quiet (fail)
  go_wp2
  go_loopw [3, 4] (fun xv jv wr => ∃ j x : Nat, j ≤ 4 ∧ xv = .int .i64 x ∧ jv = .int .i64 j ∧ HxB j x ∧ Hid (hexN s.data.toList i j = some x) ∧ PAt wr pb s i code ∧ Frm (One pb) w wr) (fun _ jv _ => 4 - (intOf jv).toNat)
  case atStart => exact ⟨0, 0, by omega, rfl, rfl, by unfold HxB; omega, rfl, H.out.drewN nq, (Frm.refl _ w).drewN nq⟩
  case round =>
    obtain ⟨j, x, hj, rfl, rfl, hx, hn, hp, hfr⟩ := hrel
    have c0 := hp.c0
    have c1 := hp.c1
    have f1 := hp.fz 1
    have HP := Lib.hid hp
    have HF := Lib.hid hfr
    have HX := Lib.hid hx
    clear hp hfr hx
    by_cases hlt : j < 4
    · have hx4 : x < 4096 := by have := HX.out; unfold HxB at this; omega
      have hia : i + j < s.size := by omega
      have hb := s[i + j].toNat_lt
      have hbd : Hid (s.data.toList[i + j]? = some s[i + j]) := by
        unfold Hid
        rw [List.getElem?_eq_getElem (by rw [HL.out]; exact hia)]; rfl
      have z1 : IntKind.i64.wrap ((i : Int) + (j : Int)) = (i : Int) + (j : Int) := IntWalk.i64_in _ (by omega)
      have z2 : (0 : Int) ≤ (i : Int) + (j : Int) := by omega
      have z3 : ((i : Int) + (j : Int)).toNat = i + j := by omega
      have z4 : (i : Int) + (j : Int) < (s.size : Int) := by omega
      by_cases d1 : s[i + j].toNat < 48
      · skip
        have hv : hexAt s.data.toList i = none := by
          refine hexAt_bad hlt (hexN_bad ?_)
          rw [hbd.out]; show hexVal _ = _
          unfold hexVal; rw [if_neg (by omega), if_neg (by omega), if_neg (by omega)]
        rw [HR.out] at hv
        subst hv
        go_wp2
        go_quiet (fail)
        skip
        go_wp2
        go_ret
        exact ⟨rfl, HP.out.drewN nq, HF.out.drewN nq⟩
      by_cases d2 : s[i + j].toNat ≤ 57
      · skip
        have hv : Hid (hexN s.data.toList i (j + 1) = some (16 * x + (s[i + j].toNat - 48))) := by
          refine hexN_more hn.out ?_
          rw [hbd.out]; show hexVal _ = _
          unfold hexVal; rw [if_pos ⟨by omega, by omega⟩]
        have hb2 : Hid (HxB (j + 1) (16 * x + (s[i + j].toNat - 48))) := by
          have := HX.out; unfold Hid HxB at *; omega
        go_wp2
        go_quiet (fail)
        skip
        go_wp2
        go_roundw
        case rel => exact ⟨j + 1, 16 * x + (s[i + j].toNat - 48), by omega, congrArg (Value.int .i64) (by omega), by go_num, hb2.out, hv, HP.out.drewN nq, HF.out.drewN nq⟩
        case measure => simp [intOf]; omega
      by_cases d3 : s[i + j].toNat < 65
      · skip
        have hv : hexAt s.data.toList i = none := by
          refine hexAt_bad hlt (hexN_bad ?_)
          rw [hbd.out]; show hexVal _ = _
          unfold hexVal; rw [if_neg (by omega), if_neg (by omega), if_neg (by omega)]
        rw [HR.out] at hv
        subst hv
        go_wp2
        go_quiet (fail)
        skip
        go_wp2
        go_ret
        exact ⟨rfl, HP.out.drewN nq, HF.out.drewN nq⟩
      by_cases d4 : s[i + j].toNat ≤ 70
      · skip
        have hv : Hid (hexN s.data.toList i (j + 1) = some (16 * x + (s[i + j].toNat - 65 + 10))) := by
          refine hexN_more hn.out ?_
          rw [hbd.out]; show hexVal _ = _
          unfold hexVal; rw [if_neg (by omega), if_neg (by omega), if_pos ⟨by omega, by omega⟩]
        have hb2 : Hid (HxB (j + 1) (16 * x + (s[i + j].toNat - 65 + 10))) := by
          have := HX.out; unfold Hid HxB at *; omega
        go_wp2
        go_quiet (fail)
        skip
        go_wp2
        go_roundw
        case rel => exact ⟨j + 1, 16 * x + (s[i + j].toNat - 65 + 10), by omega, congrArg (Value.int .i64) (by omega), by go_num, hb2.out, hv, HP.out.drewN nq, HF.out.drewN nq⟩
        case measure => simp [intOf]; omega
      by_cases d5 : s[i + j].toNat < 97
      · skip
        have hv : hexAt s.data.toList i = none := by
          refine hexAt_bad hlt (hexN_bad ?_)
          rw [hbd.out]; show hexVal _ = _
          unfold hexVal; rw [if_neg (by omega), if_neg (by omega), if_neg (by omega)]
        rw [HR.out] at hv
        subst hv
        go_wp2
        go_quiet (fail)
        skip
        go_wp2
        go_ret
        exact ⟨rfl, HP.out.drewN nq, HF.out.drewN nq⟩
      by_cases d6 : s[i + j].toNat ≤ 102
      · skip
        have hv : Hid (hexN s.data.toList i (j + 1) = some (16 * x + (s[i + j].toNat - 97 + 10))) := by
          refine hexN_more hn.out ?_
          rw [hbd.out]; show hexVal _ = _
          unfold hexVal; rw [if_neg (by omega), if_pos ⟨by omega, by omega⟩]
        have hb2 : Hid (HxB (j + 1) (16 * x + (s[i + j].toNat - 97 + 10))) := by
          have := HX.out; unfold Hid HxB at *; omega
        go_wp2
        go_quiet (fail)
        skip
        go_wp2
        go_roundw
        case rel => exact ⟨j + 1, 16 * x + (s[i + j].toNat - 97 + 10), by omega, congrArg (Value.int .i64) (by omega), by go_num, hb2.out, hv, HP.out.drewN nq, HF.out.drewN nq⟩
        case measure => simp [intOf]; omega
      · skip
        have hv : hexAt s.data.toList i = none := by
          refine hexAt_bad hlt (hexN_bad ?_)
          rw [hbd.out]; show hexVal _ = _
          unfold hexVal; rw [if_neg (by omega), if_neg (by omega), if_neg (by omega)]
        rw [HR.out] at hv
        subst hv
        go_wp2
        go_quiet (fail)
        skip
        go_wp2
        go_ret
        exact ⟨rfl, HP.out.drewN nq, HF.out.drewN nq⟩
    · obtain rfl : j = 4 := by omega
      have hv : hexAt s.data.toList i = some x := hn.out
      rw [HR.out] at hv
      subst hv
      go_wp2
      go_ret
      exact ⟨rfl, HP.out.setAt (i + 4), HF.out.trans (frm_at _ _ _ _)⟩
theorem phex_any (pb : Nat) (s : ByteArray) (i : Nat) (code : Int) (w : World) (h : PAt w pb s i code) (hi : i ≤ s.size) (hs : s.size ≤ 65536) :
    Calls Tryd.prog 75 #[.pointer (some ⟨pb, 0, none⟩)] w (PTold pb s (hexTo (hexAt s.data.toList i) i) code (.int .i64 (hexAns (hexAt s.data.toList i))) w) := by
  by_cases hf : i + 4 ≤ s.size
  · exact phex_long pb s i code w h hs hf
  · rw [hexAt_short (by simp; omega)]
    exact phex_short pb s i code w h hi hs (by omega)
end Go.Proofs.YtcobadgpelhcoaaDoor
