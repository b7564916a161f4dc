/- The program's parser: four digits to sixteen. -/
import Derived.Test.YtcobadgpelhcoaaDoorDSmall
import Derived.Test.YtcobadgpelhcoaaDoorBits
namespace Go.Proofs.YtcobadgpelhcoaaDoor
open Go.Conc Go.RowKit
set_option linter.unusedVariables false

def hexValN (c : Nat) : Option Nat :=
  if 48 ≤ c ∧ c ≤ 57 then some (c - 48)
  else if 97 ≤ c ∧ c ≤ 102 then some (c - 97 + 10)
  else if 65 ≤ c ∧ c ≤ 70 then some (c - 65 + 10) else none
theorem hexValN_pk (l : List UInt8) (i : Nat) : hexValN (pk l i) = l[i]?.bind hexVal := by
  unfold pk
  cases l[i]? with
  | none => rfl
  | some c => rfl
theorem i64_or4 (x y : Nat) (h : x < 4096) (hy : y < 16) : bits .or .i64 ((x : Int) * 16) (y : Int) = ((16 * x + y : Nat) : Int) := by
  show IntKind.i64.wrap ((BitVec.ofInt 64 ((x : Int) * 16) ||| BitVec.ofInt 64 ((y : Nat) : Int)).toNat : Int) = _
  rw [show ((x : Int) * 16) = ((x * 16 : Nat) : Int) by omega, BitVec.toNat_or, ofInt_u64 _ (by omega), ofInt_u64 y (by omega), nat_join 4 (x * 16) y (by omega) (by omega)]
  rw [wrap_i64_nat _ (by omega)]
  omega

set_option maxHeartbeats 1000000 in
theorem jhexdigit_yes (c v : Nat) (hc : c < 256) (h : hexValN c = some v) (w : World) : Calls Tryd.prog 107 #[.int .u8 c] w fun e w' => e = .returned (.int .i64 v) ∧ w = w' := by
  unfold hexValN at h
  by_cases d1 : 48 ≤ c ∧ c ≤ 57
  · rw [if_pos d1, Option.some.injEq] at h
    have hd : digitN c = true := by simp [digitN, d1]
    obtain ⟨d1, d2⟩ := d1
    have HD := Lib.hid hd
    subst h
    clear hd
    go_enter Tryd.func107, Tryd.ntmps107
    go_wp2_with (go_at_call 95; refine (jisdigit_b hc HD.out _).mono ?_; rintro e u' ⟨rfl, rfl⟩)
    go_ret
    exact ⟨congrArg Ending.returned (congrArg (Value.int .i64) (by omega)), rfl⟩
  have hd : digitN c = false := by simp [digitN]; omega
  have HD := Lib.hid hd
  rw [if_neg d1] at h
  clear hd
  by_cases d3 : 97 ≤ c ∧ c ≤ 102
  · rw [if_pos d3, Option.some.injEq] at h
    obtain ⟨d3, d4⟩ := d3
    have e2 : decide ((c : Int) ≤ 102) = true := by simp; omega
    subst h
    clear d1
    go_enter Tryd.func107, Tryd.ntmps107
    go_wp2_with (go_at_call 95; refine (jisdigit_b hc HD.out _).mono ?_; rintro e u' ⟨rfl, rfl⟩)
    go_ret
    exact ⟨congrArg Ending.returned (congrArg (Value.int .i64) (by omega)), rfl⟩
  rw [if_neg d3] at h
  by_cases d5 : 65 ≤ c ∧ c ≤ 70
  · rw [if_pos d5, Option.some.injEq] at h
    obtain ⟨d5, d6⟩ := d5
    have e2 : decide ((c : Int) ≤ 70) = true := by simp; omega
    have e3 : decide (97 ≤ (c : Int)) = false := by simp; omega
    subst h
    clear d1 d3
    go_enter Tryd.func107, Tryd.ntmps107
    go_wp2_with (go_at_call 95; refine (jisdigit_b hc HD.out _).mono ?_; rintro e u' ⟨rfl, rfl⟩)
    go_ret
    exact ⟨congrArg Ending.returned (congrArg (Value.int .i64) (by omega)), rfl⟩
  rw [if_neg d5] at h
  cases h

set_option maxHeartbeats 1000000 in
theorem jhexdigit_no (c : Nat) (hc : c < 256) (h : hexValN c = none) (w : World) : Calls Tryd.prog 107 #[.int .u8 c] w fun e w' => e = thrown 300 ∧ w = w' := by
  unfold hexValN at h
  by_cases d1 : 48 ≤ c ∧ c ≤ 57
  · rw [if_pos d1] at h; cases h
  have hd : digitN c = false := by simp [digitN]; omega
  have HD := Lib.hid hd
  rw [if_neg d1] at h
  clear hd d1
  by_cases d3 : 97 ≤ c ∧ c ≤ 102
  · rw [if_pos d3] at h; cases h
  rw [if_neg d3] at h
  by_cases d5 : 65 ≤ c ∧ c ≤ 70
  · rw [if_pos d5] at h; cases h
  clear h
  have HA := Lib.hid d3
  have HB := Lib.hid d5
  clear d3 d5
  by_cases a1 : 97 ≤ c
  · have e1 : decide (97 ≤ (c : Int)) = true := by simp; omega
    have e2 : decide ((c : Int) ≤ 102) = false := by have := HA.out; simp; omega
    have e3 : decide (65 ≤ (c : Int)) = true := by simp; omega
    have e4 : decide ((c : Int) ≤ 70) = false := by have := HB.out; simp; omega
    go_enter Tryd.func107, Tryd.ntmps107
    go_wp2_with (first | (go_at_call 95; refine (jisdigit_b hc HD.out _).mono ?_; rintro e u' ⟨rfl, rfl⟩) | (go_at_call 33; refine (jthrow_any _ _).mono ?_; rintro e u' ⟨rfl, rfl⟩))
    exact ⟨rfl, rfl, rfl⟩
  · have e1 : decide (97 ≤ (c : Int)) = false := by simp; omega
    by_cases a2 : 65 ≤ c
    · have e3 : decide (65 ≤ (c : Int)) = true := by simp; omega
      have e4 : decide ((c : Int) ≤ 70) = false := by have := HB.out; simp; omega
      go_enter Tryd.func107, Tryd.ntmps107
      go_wp2_with (first | (go_at_call 95; refine (jisdigit_b hc HD.out _).mono ?_; rintro e u' ⟨rfl, rfl⟩) | (go_at_call 33; refine (jthrow_any _ _).mono ?_; rintro e u' ⟨rfl, rfl⟩))
      exact ⟨rfl, rfl, rfl⟩
    · have e3 : decide (65 ≤ (c : Int)) = false := by simp; omega
      go_enter Tryd.func107, Tryd.ntmps107
      go_wp2_with (first | (go_at_call 95; refine (jisdigit_b hc HD.out _).mono ?_; rintro e u' ⟨rfl, rfl⟩) | (go_at_call 33; refine (jthrow_any _ _).mono ?_; rintro e u' ⟨rfl, rfl⟩))
      exact ⟨rfl, rfl, rfl⟩

/-- It answers a value and stands so; or it throws. -/
def JRes (pb : Nat) (s : ByteArray) (d : Nat) (r : Except Int (Value × Nat)) (w : World) (e : Ending) (w' : World) : Prop :=
  match r with
  | .ok (v, k) => JAns pb s k d v w e w'
  | .error c => JThrew pb c w e w'
def jhexR (r : Option Nat) (i : Nat) : Except Int (Value × Nat) := match r with | some x => .ok (.int .i64 x, i + 4) | none => .error 300

set_option maxHeartbeats 2000000 in
theorem jfour_any (pb : Nat) (s : ByteArray) (i d : Nat) (w : World) (h : JPAt w pb s i d) (hi : i ≤ s.size) (hs : s.size ≤ 65536) :
    Calls Tryd.prog 103 #[.pointer (some ⟨pb, 0, none⟩)] w (JRes pb s d (jhexR (hexAt s.data.toList i) i) w) := by
  have H := Lib.hid h
  clear h
  generalize hR : jhexR (hexAt s.data.toList i) i = R
  have HR := Lib.hid hR
  clear hR
  go_enter Tryd.func103, Tryd.ntmps103
  go_wp2
  go_loopw [3, 4] (fun xv jv wr => ∃ j x : Nat, j ≤ 4 ∧ xv = .int .i64 x ∧ jv = .int .i64 j ∧ HxB j x ∧ Hid (hexN s.data.toList i j = some x) ∧ JPAt wr pb s (i + j) d ∧ Frm (One pb) w wr) (fun _ jv _ => 4 - (intOf jv).toNat)
  case atStart => exact ⟨0, 0, by omega, rfl, rfl, by unfold HxB; omega, rfl, H.out, Frm.refl _ w⟩
  case round =>
    obtain ⟨j, x, hj, rfl, rfl, hx, hn, hp, hfr⟩ := hrel
    have c1 := hp.c1
    have f1 := hp.fz 1
    have HP := Lib.hid hp
    have HF := Lib.hid hfr
    have HX := Lib.hid hx
    clear hp hfr hx
    by_cases hlt : j < 4
    · have hx4 : x < 4096 := by have := HX.out; unfold HxB at this; omega
      cases hv : hexValN (pk s.data.toList (i + j)) with
      | none =>
        have hvn : hexAt s.data.toList i = none := hexAt_bad hlt (hexN_bad (by rw [← hexValN_pk]; exact hv))
        have HV := Lib.hid hv
        obtain rfl : R = .error 300 := by rw [← HR.out, hvn]; rfl
        clear hv hvn
        go_wp2_with (first | (go_at_call 68; refine (jpeek_any _ _ _ _ _ HP.out hs).mono ?_; rintro e u' ⟨rfl, nq, rfl⟩) | (go_at_call 107; refine (jhexdigit_no _ (pk_lt _ _) HV.out _).mono ?_; rintro e u' ⟨rfl, rfl⟩; unfold thrown))
        exact ⟨rfl, rfl, HF.out.drewN _⟩
      | some v =>
        have hv15 : v < 16 := by rw [hexValN_pk] at hv; cases hq : s.data.toList[i + j]? with
          | none => rw [hq] at hv; cases hv
          | some c => rw [hq] at hv; exact hexVal_lt hv
        have hn2 : Hid (hexN s.data.toList i (j + 1) = some (16 * x + v)) := hexN_more hn.out (by rw [← hexValN_pk]; exact hv)
        have hb2 : Hid (HxB (j + 1) (16 * x + v)) := by
          have := HX.out; unfold Hid HxB at *; omega
        have HV := Lib.hid hv
        have e4 := i64_or4 x v hx4 hv15
        clear hv
        go_wp2_with (first | (go_at_call 68; refine (jpeek_any _ _ _ _ _ HP.out hs).mono ?_; rintro e u' ⟨rfl, nq, rfl⟩) | (go_at_call 107; refine (jhexdigit_yes _ _ (pk_lt _ _) HV.out _).mono ?_; rintro e u' ⟨rfl, rfl⟩))
        go_roundw
        case rel => exact ⟨j + 1, 16 * x + v, by omega, by first | rfl | go_num, by go_num, hb2.out, hn2, (HP.out.drewN _).setAt (i + (j + 1)), (HF.out.drewN _).trans (frm_at _ _ _ _)⟩
        case measure => simp [intOf]; omega
    · obtain rfl : j = 4 := by omega
      have hv : hexAt s.data.toList i = some x := hn.out
      obtain rfl : R = .ok (.int .i64 x, i + 4) := by rw [← HR.out, hv]; rfl
      clear hv
      go_wp2
      go_ret
      exact ⟨rfl, HP.out, HF.out⟩
end Go.Proofs.YtcobadgpelhcoaaDoor
