/- Any bytes as a column, two answers held at a time: the walk of the law. -/
import Derived.Test.YtfbmlefhjoblbaaGreatVAwake
import Derived.Test.YtfbmlefhjoblbaaGreatRefU
import Derived.Test.YtfbmlefhjoblbaaGreatValC
namespace Go.Proofs.YtfbmlefhjoblbaaGreat
open Go.Conc Go.RowKit
set_option linter.unusedVariables false
set_option linter.unusedSimpArgs false

theorem OwnV.most {base cap : Nat} {w : World} {a : Option Addr} {vs : List V} (h : OwnV base w a cap vs) : vs.length ≤ maxLen := by
  have := h.len; unfold maxLen; omega

theorem lies_own {base cap lo : Nat} {w : World} {a : Option Addr} {vs : List V} (h : OwnV base w a cap vs) (hl : lo ≤ base) : Lies lo w.heap.size a := fun k hk => by
  have h1 := h.at_ge hk
  exact ⟨Nat.le_trans hl h1.1, h1.2⟩

set_option maxRecDepth 100000 in
set_option maxHeartbeats 8000000 in
theorem vecgets_walk (k : Int) (s : ByteArray) (b : Bool) {w : World} (ss : s.size ≤ 140737488351232) :
    Calls Tryz.prog 4 #[.int .i64 k, .string s, .bool b] w fun e w' => e = .returned (.bool true) ∧ Below w.heap.size w w' := by
  have HB : Hid (Below w.heap.size w w) := Below.refl _ _
  cases b with
  | false =>
    have T1 := Lib.hid (fun (u : World) => vecget_any u k s (by omega))
    have T2 := Lib.hid (fun (u : World) => refunvec_any u k s (by omega))
    generalize hG : colGet k s = G at *
    clear hG
    obtain ⟨xs, E⟩ := G
    simp only at T1 T2
    have hEE : (E != E) = false := by simp
    go_enter Tryz.func4, Tryz.ntmps4
    go_upto_region 4 with fail
    go_upto_region 5 with (go_at_call 23; refine (T1.out _).mono ?_; rintro e w3 ⟨aa, ca, rfl, ho, hb⟩; have HA := Lib.hid ho; have HAL := Lib.hid (lies_own ho HB.out.size); replace HB := Lib.hid (HB.out.trans (hb.mono HB.out.size)); clear hb ho)
    have HS3 : Hid (w3.heap.size ≤ w3.heap.size) := Nat.le_refl _
    go_upto_region 6 with (go_at_call 23; refine (T1.out _).mono ?_; rintro e w4 ⟨ab, cb, rfl, ho, hb⟩; have HV := Lib.hid ho; have HVL := Lib.hid (lies_own ho (Nat.le_refl _)); replace HS3 := Lib.hid hb.size; replace HA := Lib.hid (OwnV.below HA.out hb); replace HB := Lib.hid (HB.out.trans (hb.mono HB.out.size)); clear hb ho)
    go_upto_region 7 with (go_at_call 24; refine (T2.out _).mono ?_; rintro e w5 ⟨ac, cc, rfl, ho, hb⟩; have HC := Lib.hid ho; have HCL := Lib.hid (lies_own ho (Nat.le_refl _)); have HS4 := Lib.hid hb.size; replace HA := Lib.hid (OwnV.below HA.out hb); replace HV := Lib.hid (OwnV.below HV.out hb); replace HB := Lib.hid (HB.out.trans (hb.mono HB.out.size)); clear hb ho)
    have HB5 : Hid (Below w5.heap.size w5 w5) := Below.refl _ _
    go_upto_region 9 with (first
      | (go_at_call 17; refine (num_any _ _).mono ?_; rintro e w' ⟨rfl, rfl⟩)
      | (go_at_call 25; refine (samevals_any _ _ _ _ _ xs xs HA.out.isV HC.out.isV HA.out.most).mono ?_; rintro e w6 ⟨rfl, hb⟩; replace HA := Lib.hid (OwnV.below HA.out hb); replace HV := Lib.hid (OwnV.below HV.out hb); replace HC := Lib.hid (OwnV.below HC.out hb); replace HB5 := Lib.hid (HB5.out.trans (hb.mono HB5.out.size)); replace HB := Lib.hid (HB.out.trans (hb.mono HB.out.size)); clear hb))
    go_upto_region 10 with (go_at_call 26; refine (spoilvals_any _ _ _ _ _ HA.out HA.out.most).mono ?_; rintro e w7 ⟨rfl, hf⟩; have HVV := Lib.hid (isv_frm HV.out.isV hf HVL.out HAL.out (.inr (Nat.le_refl _)) (Nat.le_trans HS4.out HB5.out.size)); have HCC := Lib.hid (isv_frm HC.out.isV hf HCL.out HAL.out (.inr HS3.out) HB5.out.size); have HM := Lib.hid HV.out.most; replace HB := Lib.hid (Frm.to_below HB.out hf (fun k hk => (HAL.out k hk).1) (Nat.le_refl _)); clear hf HA HV HC)
    go_wp2_with (first
      | (go_at_call 25; refine (samevals_any _ _ _ _ _ xs xs HVV.out HCC.out HM.out).mono ?_; rintro e w8 ⟨rfl, hb⟩; replace HB := Lib.hid (HB.out.trans (hb.mono HB.out.size)); clear hb)
      | (go_at_call 21; refine (vecawake_any _).mono ?_; rintro e w9 ⟨rfl, hb⟩; replace HB := Lib.hid (HB.out.trans (hb.mono HB.out.size)); clear hb))
    go_ret
    exact ⟨rfl, HB.out⟩
  | true =>
    have hsz := sealB_size s
    have T0 := Lib.hid (fun (u : World) => rseal_any s (by omega) u)
    have T1 := Lib.hid (fun (u : World) => vecget_any u k (sealB s) (by omega))
    have T2 := Lib.hid (fun (u : World) => refunvec_any u k (sealB s) (by omega))
    clear hsz
    generalize sealB s = S at *
    generalize hG : colGet k S = G at *
    clear hG
    obtain ⟨xs, E⟩ := G
    simp only at T1 T2
    have hEE : (E != E) = false := by simp
    go_enter Tryz.func4, Tryz.ntmps4
    go_upto_region 4 with (go_at_call 22; refine (T0.out _).mono ?_; rintro e w2 ⟨rfl, hb⟩; replace HB := Lib.hid (HB.out.trans (hb.mono HB.out.size)); clear hb)
    go_upto_region 5 with (go_at_call 23; refine (T1.out _).mono ?_; rintro e w3 ⟨aa, ca, rfl, ho, hb⟩; have HA := Lib.hid ho; have HAL := Lib.hid (lies_own ho HB.out.size); replace HB := Lib.hid (HB.out.trans (hb.mono HB.out.size)); clear hb ho)
    have HS3 : Hid (w3.heap.size ≤ w3.heap.size) := Nat.le_refl _
    go_upto_region 6 with (go_at_call 23; refine (T1.out _).mono ?_; rintro e w4 ⟨ab, cb, rfl, ho, hb⟩; have HV := Lib.hid ho; have HVL := Lib.hid (lies_own ho (Nat.le_refl _)); replace HS3 := Lib.hid hb.size; replace HA := Lib.hid (OwnV.below HA.out hb); replace HB := Lib.hid (HB.out.trans (hb.mono HB.out.size)); clear hb ho)
    go_upto_region 7 with (go_at_call 24; refine (T2.out _).mono ?_; rintro e w5 ⟨ac, cc, rfl, ho, hb⟩; have HC := Lib.hid ho; have HCL := Lib.hid (lies_own ho (Nat.le_refl _)); have HS4 := Lib.hid hb.size; replace HA := Lib.hid (OwnV.below HA.out hb); replace HV := Lib.hid (OwnV.below HV.out hb); replace HB := Lib.hid (HB.out.trans (hb.mono HB.out.size)); clear hb ho)
    have HB5 : Hid (Below w5.heap.size w5 w5) := Below.refl _ _
    go_upto_region 9 with (first
      | (go_at_call 17; refine (num_any _ _).mono ?_; rintro e w' ⟨rfl, rfl⟩)
      | (go_at_call 25; refine (samevals_any _ _ _ _ _ xs xs HA.out.isV HC.out.isV HA.out.most).mono ?_; rintro e w6 ⟨rfl, hb⟩; replace HA := Lib.hid (OwnV.below HA.out hb); replace HV := Lib.hid (OwnV.below HV.out hb); replace HC := Lib.hid (OwnV.below HC.out hb); replace HB5 := Lib.hid (HB5.out.trans (hb.mono HB5.out.size)); replace HB := Lib.hid (HB.out.trans (hb.mono HB.out.size)); clear hb))
    go_upto_region 10 with (go_at_call 26; refine (spoilvals_any _ _ _ _ _ HA.out HA.out.most).mono ?_; rintro e w7 ⟨rfl, hf⟩; have HVV := Lib.hid (isv_frm HV.out.isV hf HVL.out HAL.out (.inr (Nat.le_refl _)) (Nat.le_trans HS4.out HB5.out.size)); have HCC := Lib.hid (isv_frm HC.out.isV hf HCL.out HAL.out (.inr HS3.out) HB5.out.size); have HM := Lib.hid HV.out.most; replace HB := Lib.hid (Frm.to_below HB.out hf (fun k hk => (HAL.out k hk).1) (Nat.le_refl _)); clear hf HA HV HC)
    go_wp2_with (first
      | (go_at_call 25; refine (samevals_any _ _ _ _ _ xs xs HVV.out HCC.out HM.out).mono ?_; rintro e w8 ⟨rfl, hb⟩; replace HB := Lib.hid (HB.out.trans (hb.mono HB.out.size)); clear hb)
      | (go_at_call 21; refine (vecawake_any _).mono ?_; rintro e w9 ⟨rfl, hb⟩; replace HB := Lib.hid (HB.out.trans (hb.mono HB.out.size)); clear hb))
    go_ret
    exact ⟨rfl, HB.out⟩
end Go.Proofs.YtfbmlefhjoblbaaGreat
