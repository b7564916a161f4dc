/- Any values as words and places, any places looked up: the walk of the law. -/
import Derived.Test.YtgpnfmkonhaccaaWAwake
import Derived.Test.YtgpnfmkonhaccaaWRLook
import Derived.Test.YtgpnfmkonhaccaaWRBuild
import Derived.Test.YtgpnfmkonhaccaaRest
namespace Go.Proofs.Ytgpnfmkonhaccaa
open Go.Conc Go.RowKit
set_option linter.unusedVariables false
set_option linter.unusedSimpArgs false

set_option maxRecDepth 100000 in
set_option maxHeartbeats 8000000 in
theorem wordsall_walk (a0 a1 a2 : Option Addr) (c0 c1 c2 : Nat) (vs rs : List V) (ms : List Int) {w : World} (h0 : IsV w a0 vs) (n0 : a0 = none → vs.length = 0 ∧ c0 = 0) (x0 : vs.length * 40 ≤ 140737488351232) (s0 : ∀ v ∈ vs, v.s.size ≤ 140737488351232)
    (h1 : IsV w a1 rs) (n1 : a1 = none → rs.length = 0 ∧ c1 = 0) (x1 : rs.length * 40 ≤ 140737488351232) (s1 : ∀ v ∈ rs, v.s.size ≤ 140737488351232)
    (h2 : IsL w a2 ms) (n2 : a2 = none → ms.length = 0 ∧ c2 = 0) (x2 : ms.length ≤ 3518437208882) :
    Calls Try.prog 3 #[.slice a0 vs.length c0, .slice a1 rs.length c1, .slice a2 ms.length c2] w fun e w' => e = .returned (.bool true) ∧ Below w.heap.size w w' := by
  have T1 : Hid (∀ u, IsV u a0 vs → Calls Try.prog 6 #[.slice a0 vs.length c0] u fun e w' => ∃ g c, e = .returned (.slice (some ⟨g, 0, none⟩) vs.length c) ∧ OwnV u.heap.size w' (some ⟨g, 0, none⟩) c (vs ++ [markV, markV]) ∧ Below u.heap.size u w') := fun u h => lendvals_any u a0 c0 vs h n0 (by omega)
  have T2 : Hid (∀ u, IsV u a1 rs → Calls Try.prog 6 #[.slice a1 rs.length c1] u fun e w' => ∃ g c, e = .returned (.slice (some ⟨g, 0, none⟩) rs.length c) ∧ OwnV u.heap.size w' (some ⟨g, 0, none⟩) c (rs ++ [markV, markV]) ∧ Below u.heap.size u w') := fun u h => lendvals_any u a1 c1 rs h n1 (by omega)
  have T3 : Hid (∀ u, IsL u a2 ms → Calls Try.prog 7 #[.slice a2 ms.length c2] u fun e w' => ∃ g c, e = .returned (.slice (some ⟨g, 0, none⟩) ms.length c) ∧ OwnI u.heap.size w' (some ⟨g, 0, none⟩) c (ms ++ [-7777, -8888]) ∧ Below u.heap.size u w') := fun u h => lendints_any u a2 c2 ms h n2 (by omega)
  have s0' : ∀ v ∈ vs, v.s.size ≤ 281474976710656 := fun v hv => Nat.le_trans (s0 v hv) (by omega)
  have s1' : ∀ v ∈ rs, v.s.size ≤ 281474976710656 := fun v hv => Nat.le_trans (s1 v hv) (by omega)
  have T4 : Hid (∀ u g c, IsV u (some ⟨g, 0, none⟩) vs → Calls Try.prog 8 #[.slice (some ⟨g, 0, none⟩) vs.length c] u fun e w' => ∃ aw cw ai ci, e = .returned (.tuple #[.slice aw (buildA vs).1.length cw, .slice ai (buildA vs).2.length ci]) ∧ OwnV u.heap.size w' aw cw (buildA vs).1 ∧ OwnI u.heap.size w' ai ci (buildA vs).2 ∧ Below u.heap.size u w') := fun u g c h => wbuild_any u _ c vs h (by omega) s0'
  have T5 : Hid (∀ u, IsV u a0 vs → Calls Try.prog 9 #[.slice a0 vs.length c0] u fun e w' => ∃ aw cw ai ci, e = .returned (.tuple #[.slice aw (buildA vs).1.length cw, .slice ai (buildA vs).2.length ci]) ∧ OwnV u.heap.size w' aw cw (buildA vs).1 ∧ OwnI u.heap.size w' ai ci (buildA vs).2 ∧ Below u.heap.size u w') := fun u h => urbuild_any u _ c0 vs h (by omega) s0'
  have T6 : Hid (∀ u g c g2 c', IsV u (some ⟨g, 0, none⟩) rs → IsL u (some ⟨g2, 0, none⟩) ms → Calls Try.prog 10 #[.slice (some ⟨g, 0, none⟩) rs.length c, .slice (some ⟨g2, 0, none⟩) ms.length c'] u fun e w' => ∃ aj cj, e = .returned (.tuple #[.slice aj (lookA rs ms).1.length cj, .int .i64 (lookA rs ms).2]) ∧ OwnV u.heap.size w' aj cj (lookA rs ms).1 ∧ Below u.heap.size u w') := fun u g c g2 c' h h' => wlook_any u _ _ c c' rs ms h h' (by omega) s1' x2
  have T7 : Hid (∀ u, IsV u a1 rs → IsL u a2 ms → Calls Try.prog 11 #[.slice a1 rs.length c1, .slice a2 ms.length c2] u fun e w' => ∃ aj cj, e = .returned (.tuple #[.slice aj (lookA rs ms).1.length cj, .int .i64 (lookA rs ms).2]) ∧ OwnV u.heap.size w' aj cj (lookA rs ms).1 ∧ Below u.heap.size u w') := fun u h h' => urlook_any u _ _ c1 c2 rs ms h h' (by omega) s1' x2
  have hcl := (built vs).len
  have hce := (built vs).le
  have hjl := lookA_le rs ms
  have T8 : Hid (∀ u p q c d, IsL u p (buildA vs).2 → IsL u q (buildA vs).2 → Calls Try.prog 13 #[.slice p (buildA vs).2.length c, .slice q (buildA vs).2.length d] u fun e w' => e = .returned (.bool true) ∧ Below u.heap.size u w') := fun u p q c d h h' => by
    have h3 := sameints_any u p q c d _ _ h h' (by simp only [maxLen]; omega)
    rw [decide_eq_true rfl] at h3
    exact h3
  have T9 : Hid (∀ u p q c d, IsV u p (buildA vs).1 → IsV u q (buildA vs).1 → Calls Try.prog 12 #[.slice p (buildA vs).1.length c, .slice q (buildA vs).1.length d] u fun e w' => e = .returned (.bool true) ∧ Below u.heap.size u w') := fun u p q c d h h' => by
    have h3 := samevals_any u p q c d _ _ h h' (by simp only [maxLen]; omega)
    rw [decide_eq_true rfl] at h3
    exact h3
  have T10 : Hid (∀ u p q c d, IsV u p (lookA rs ms).1 → IsV u q (lookA rs ms).1 → Calls Try.prog 12 #[.slice p (lookA rs ms).1.length c, .slice q (lookA rs ms).1.length d] u fun e w' => e = .returned (.bool true) ∧ Below u.heap.size u w') := fun u p q c d h h' => by
    have h3 := samevals_any u p q c d _ _ h h' (by simp only [maxLen]; omega)
    rw [decide_eq_true rfl] at h3
    exact h3
  have T11 : Hid (∀ u g c base, OwnV base u (some ⟨g, 0, none⟩) c (vs ++ [markV, markV]) → IsV u a0 vs → Calls Try.prog 15 #[.slice (some ⟨g, 0, none⟩) vs.length c, .slice a0 vs.length c0] u fun e w' => e = .returned (.bool true) ∧ Below u.heap.size u w') := fun u g c base h h' => keptvals_any u g c a0 c0 base vs h h' (by omega)
  have T12 : Hid (∀ u g c base, OwnV base u (some ⟨g, 0, none⟩) c (rs ++ [markV, markV]) → IsV u a1 rs → Calls Try.prog 15 #[.slice (some ⟨g, 0, none⟩) rs.length c, .slice a1 rs.length c1] u fun e w' => e = .returned (.bool true) ∧ Below u.heap.size u w') := fun u g c base h h' => keptvals_any u g c a1 c1 base rs h h' (by omega)
  have T13 : Hid (∀ u g c base, OwnI base u (some ⟨g, 0, none⟩) c (ms ++ [-7777, -8888]) → IsL u a2 ms → Calls Try.prog 16 #[.slice (some ⟨g, 0, none⟩) ms.length c, .slice a2 ms.length c2] u fun e w' => e = .returned (.bool true) ∧ Below u.heap.size u w') := fun u g c base h h' => keptints_any u g c a2 c2 base ms h h' (by omega)
  have T14 : Hid (∀ u p c base, OwnI base u p c (buildA vs).2 → Calls Try.prog 18 #[.slice p (buildA vs).2.length c] u fun e w' => e = .returned (.tuple #[]) ∧ Frm (At p) u w') := fun u p c base h => spoilints_any u p c base _ h (by simp only [maxLen]; omega)
  have T15 : Hid (∀ u p c base, OwnV base u p c (buildA vs).1 → Calls Try.prog 17 #[.slice p (buildA vs).1.length c] u fun e w' => e = .returned (.tuple #[]) ∧ Frm (At p) u w') := fun u p c base h => spoilvals_any u p c base _ h (by simp only [maxLen]; omega)
  have HA0 := Lib.hid h0
  have HA1 := Lib.hid h1
  have HA2 := Lib.hid h2
  generalize (buildA vs).1 = e at *
  generalize (buildA vs).2 = m at *
  generalize (lookA rs ms).1 = j at *
  generalize (lookA rs ms).2 = ej at *
  clear h0 h1 h2 n0 n1 n2 x0 x1 x2 s0 s1 s0' s1' hcl hce hjl
  go_enter Try.func3, Try.ntmps3
  go_upto_region 2 with (first
    | (go_at_call 6; refine (T1.out _ HA0.out).mono ?_; rintro e w1 ⟨gx, cx, rfl, ho, hb⟩; have HX := Lib.hid ho; have HB := Lib.hid hb; clear ho hb T1)
    | (go_at_call 6; refine (T2.out _ (HA1.out.below HB.out)).mono ?_; rintro e w2 ⟨gy, cy, rfl, ho, hb⟩; have HY := Lib.hid (ho.lower HB.out.size); replace HX := Lib.hid (OwnV.below HX.out hb); replace HB := Lib.hid (HB.out.trans (hb.mono HB.out.size)); clear ho hb T2)
    | (go_at_call 7; refine (T3.out _ (HA2.out.below HB.out)).mono ?_; rintro e w3 ⟨gz, cz, rfl, ho, hb⟩; have HZ := Lib.hid (ho.lower HB.out.size); replace HX := Lib.hid (OwnV.below HX.out hb); replace HY := Lib.hid (OwnV.below HY.out hb); replace HB := Lib.hid (HB.out.trans (hb.mono HB.out.size)); clear ho hb T3))
  have HXV : Hid (∀ u, Below w3.heap.size w3 u → IsV u (some ⟨gx, 0, none⟩) vs) := fun u hb => by have h := (HX.out.isV.below hb).take vs.length; rwa [List.take_left] at h
  have HYV : Hid (∀ u, Below w3.heap.size w3 u → IsV u (some ⟨gy, 0, none⟩) rs) := fun u hb => by have h := (HY.out.isV.below hb).take rs.length; rwa [List.take_left] at h
  have HZV : Hid (∀ u, Below w3.heap.size w3 u → IsL u (some ⟨gz, 0, none⟩) ms) := fun u hb => by have h := (HZ.out.isL.below hb).take ms.length; rwa [List.take_left] at h
  have HXL : Hid (Lies w.heap.size w3.heap.size (some ⟨gx, 0, none⟩)) := fun k hk => HX.out.at_ge hk
  have HB3 : Hid (Below w3.heap.size w3 w3) := Below.refl _ _
  have HS3 := Lib.hid HB.out.size
  go_upto_region 3 with (go_at_call 8; refine (T4.out _ _ _ (HXV.out _ HB3.out)).mono ?_; rintro e w4 ⟨aa, ca, ab, cb, rfl, hoa, hob, hb⟩; have HA := Lib.hid hoa; have HBI := Lib.hid hob; have HS4 := Lib.hid hb.size; replace HB3 := Lib.hid (HB3.out.trans hb); replace HX := Lib.hid (OwnV.below HX.out hb); replace HY := Lib.hid (OwnV.below HY.out hb); replace HZ := Lib.hid (OwnI.below HZ.out hb); replace HB := Lib.hid (HB.out.trans (hb.mono HB.out.size)); clear hb hoa hob)
  go_upto_region 4 with (go_at_call 9; refine (T5.out _ (HA0.out.below HB.out)).mono ?_; rintro e w5 ⟨ac, cc, ad, cd, rfl, hoa, hob, hb⟩; have HC := Lib.hid hoa; have HD := Lib.hid hob; have HCL : Hid (Lies w4.heap.size w5.heap.size ac) := fun k hk => hoa.at_ge hk; have HDL : Hid (Lies w4.heap.size w5.heap.size ad) := fun k hk => hob.at_ge hk; have HAL : Hid (Lies w3.heap.size w4.heap.size aa) := fun k hk => HA.out.at_ge hk; have HBL : Hid (Lies w3.heap.size w4.heap.size ab) := fun k hk => HBI.out.at_ge hk; have HS5 := Lib.hid hb.size; have HB5 : Hid (Below w5.heap.size w5 w5) := Below.refl _ _; replace HB3 := Lib.hid (HB3.out.trans (hb.mono HB3.out.size)); replace HX := Lib.hid (OwnV.below HX.out hb); replace HY := Lib.hid (OwnV.below HY.out hb); replace HZ := Lib.hid (OwnI.below HZ.out hb); replace HA := Lib.hid (OwnV.below HA.out hb); replace HBI := Lib.hid (OwnI.below HBI.out hb); replace HB := Lib.hid (HB.out.trans (hb.mono HB.out.size)); clear hb hoa hob)
  go_upto_region 5 with (go_at_call 10; refine (T6.out _ _ _ _ _ (HYV.out _ HB3.out) (HZV.out _ HB3.out)).mono ?_; rintro e w6 ⟨ae, ce, rfl, hoe, hb⟩; have HE := Lib.hid hoe; replace HX := Lib.hid (OwnV.below HX.out hb); replace HY := Lib.hid (OwnV.below HY.out hb); replace HZ := Lib.hid (OwnI.below HZ.out hb); replace HA := Lib.hid (OwnV.below HA.out hb); replace HBI := Lib.hid (OwnI.below HBI.out hb); replace HC := Lib.hid (OwnV.below HC.out hb); replace HD := Lib.hid (OwnI.below HD.out hb); replace HB := Lib.hid (HB.out.trans (hb.mono HB.out.size)); replace HB5 := Lib.hid (HB5.out.trans (hb.mono HB5.out.size)); clear hb hoe)
  go_upto_region 6 with (go_at_call 11; refine (T7.out _ (HA1.out.below HB.out) (HA2.out.below HB.out)).mono ?_; rintro e w7 ⟨ag, cg, rfl, hog, hb⟩; have HG := Lib.hid hog; have HS7 := Lib.hid hb.size; replace HX := Lib.hid (OwnV.below HX.out hb); replace HY := Lib.hid (OwnV.below HY.out hb); replace HZ := Lib.hid (OwnI.below HZ.out hb); replace HA := Lib.hid (OwnV.below HA.out hb); replace HBI := Lib.hid (OwnI.below HBI.out hb); replace HC := Lib.hid (OwnV.below HC.out hb); replace HD := Lib.hid (OwnI.below HD.out hb); replace HE := Lib.hid (OwnV.below HE.out hb); replace HB := Lib.hid (HB.out.trans (hb.mono HB.out.size)); replace HB5 := Lib.hid (HB5.out.trans (hb.mono HB5.out.size)); clear hb hog)
  have T9' := T9
  clear T5 T6 T7 HYV HZV
  go_upto_region 8 with (first
    | (go_at_call 14; refine (num_any _ _).mono ?_; rintro e w' ⟨rfl, rfl⟩)
    | (go_at_call 12; refine (T9.out _ _ _ _ _ HA.out.isV HC.out.isV).mono ?_; rintro e w9 ⟨rfl, hb⟩; replace HX := Lib.hid (OwnV.below HX.out hb); replace HY := Lib.hid (OwnV.below HY.out hb); replace HZ := Lib.hid (OwnI.below HZ.out hb); replace HA := Lib.hid (OwnV.below HA.out hb); replace HBI := Lib.hid (OwnI.below HBI.out hb); replace HC := Lib.hid (OwnV.below HC.out hb); replace HD := Lib.hid (OwnI.below HD.out hb); replace HE := Lib.hid (OwnV.below HE.out hb); replace HG := Lib.hid (OwnV.below HG.out hb); replace HB := Lib.hid (HB.out.trans (hb.mono HB.out.size)); replace HB5 := Lib.hid (HB5.out.trans (hb.mono HB5.out.size)); clear hb T9)
    | (go_at_call 13; refine (T8.out _ _ _ _ _ HBI.out.isL HD.out.isL).mono ?_; rintro e w8 ⟨rfl, hb⟩; replace HX := Lib.hid (OwnV.below HX.out hb); replace HY := Lib.hid (OwnV.below HY.out hb); replace HZ := Lib.hid (OwnI.below HZ.out hb); replace HA := Lib.hid (OwnV.below HA.out hb); replace HBI := Lib.hid (OwnI.below HBI.out hb); replace HC := Lib.hid (OwnV.below HC.out hb); replace HD := Lib.hid (OwnI.below HD.out hb); replace HE := Lib.hid (OwnV.below HE.out hb); replace HG := Lib.hid (OwnV.below HG.out hb); replace HB := Lib.hid (HB.out.trans (hb.mono HB.out.size)); replace HB5 := Lib.hid (HB5.out.trans (hb.mono HB5.out.size)); clear hb)
    | (go_at_call 12; refine (T10.out _ _ _ _ _ HE.out.isV HG.out.isV).mono ?_; rintro e w10 ⟨rfl, hb⟩; replace HX := Lib.hid (OwnV.below HX.out hb); replace HY := Lib.hid (OwnV.below HY.out hb); replace HZ := Lib.hid (OwnI.below HZ.out hb); replace HA := Lib.hid (OwnV.below HA.out hb); replace HBI := Lib.hid (OwnI.below HBI.out hb); replace HC := Lib.hid (OwnV.below HC.out hb); replace HD := Lib.hid (OwnI.below HD.out hb); replace HB := Lib.hid (HB.out.trans (hb.mono HB.out.size)); replace HB5 := Lib.hid (HB5.out.trans (hb.mono HB5.out.size)); clear hb HE HG)
    | (go_at_call 15; refine (T11.out _ _ _ _ HX.out (HA0.out.below HB.out)).mono ?_; rintro e w11 ⟨rfl, hb⟩; replace HX := Lib.hid (OwnV.below HX.out hb); replace HY := Lib.hid (OwnV.below HY.out hb); replace HZ := Lib.hid (OwnI.below HZ.out hb); replace HA := Lib.hid (OwnV.below HA.out hb); replace HBI := Lib.hid (OwnI.below HBI.out hb); replace HC := Lib.hid (OwnV.below HC.out hb); replace HD := Lib.hid (OwnI.below HD.out hb); replace HB := Lib.hid (HB.out.trans (hb.mono HB.out.size)); replace HB5 := Lib.hid (HB5.out.trans (hb.mono HB5.out.size)); clear hb T11)
    | (go_at_call 15; refine (T12.out _ _ _ _ HY.out (HA1.out.below HB.out)).mono ?_; rintro e w12 ⟨rfl, hb⟩; replace HX := Lib.hid (OwnV.below HX.out hb); replace HY := Lib.hid (OwnV.below HY.out hb); replace HZ := Lib.hid (OwnI.below HZ.out hb); replace HA := Lib.hid (OwnV.below HA.out hb); replace HBI := Lib.hid (OwnI.below HBI.out hb); replace HC := Lib.hid (OwnV.below HC.out hb); replace HD := Lib.hid (OwnI.below HD.out hb); replace HB := Lib.hid (HB.out.trans (hb.mono HB.out.size)); replace HB5 := Lib.hid (HB5.out.trans (hb.mono HB5.out.size)); clear hb T12)
    | (go_at_call 16; refine (T13.out _ _ _ _ HZ.out (HA2.out.below HB.out)).mono ?_; rintro e w13 ⟨rfl, hb⟩; replace HX := Lib.hid (OwnV.below HX.out hb); replace HA := Lib.hid (OwnV.below HA.out hb); replace HBI := Lib.hid (OwnI.below HBI.out hb); replace HC := Lib.hid (OwnV.below HC.out hb); replace HD := Lib.hid (OwnI.below HD.out hb); replace HB := Lib.hid (HB.out.trans (hb.mono HB.out.size)); replace HB5 := Lib.hid (HB5.out.trans (hb.mono HB5.out.size)); clear hb))
  have HR : Hid (Rest w _ w3.heap.size w4.heap.size w5.heap.size (some ⟨gx, 0, none⟩) ad ac vs m e) :=
    ⟨by have h := HX.out.isV.take vs.length; rwa [List.take_left] at h, HD.out.isL, HC.out.isV, fun k hk => ⟨Nat.zero_le _, (HXL.out k hk).2⟩, HDL.out, HCL.out, HS3.out, HS4.out, HS5.out, HB5.out.size, HB.out⟩
  clear HX HY HZ HC HD HXL HCL HDL HS3 HS4 HS5 HB5 HB T13 T10
  go_upto_region 9 with (go_at_call 17; refine (T15.out _ _ _ _ HA.out).mono ?_; rintro e w15 ⟨rfl, hf⟩; replace HR := Lib.hid (HR.out.frm hf HAL.out); replace HBI := Lib.hid (OwnI.frm HBI.out hf fun k hk _ hk2 => apart_iv HBI.out HA.out hk hk2); clear hf HA)
  go_upto_region 10 with (go_at_call 18; refine (T14.out _ _ _ _ HBI.out).mono ?_; rintro e w14 ⟨rfl, hf⟩; replace HR := Lib.hid (HR.out.frm hf HBL.out); clear hf HBI)
  go_upto_region 11 with (go_at_call 8; refine (T4.out _ _ _ HR.out.x).mono ?_; rintro e w16 ⟨ap, cp, aq, cq, rfl, hop, hoq, hb⟩; have HP := Lib.hid hop.isV; have HQ := Lib.hid hoq.isL; replace HR := Lib.hid (HR.out.more hb); clear hop hoq hb)
  go_wp2_with (first
    | (go_at_call 12; refine (T9'.out _ _ _ _ _ HP.out HR.out.d).mono ?_; rintro e w18 ⟨rfl, hb⟩; replace HQ := Lib.hid (HQ.out.below hb); replace HR := Lib.hid (HR.out.more hb); clear hb)
    | (go_at_call 13; refine (T8.out _ _ _ _ _ HQ.out HR.out.c).mono ?_; rintro e w17 ⟨rfl, hb⟩; replace HR := Lib.hid (HR.out.more hb); clear hb)
    | (go_at_call 19; refine (wordsawake_any _).mono ?_; rintro e w19 ⟨rfl, hb⟩; replace HR := Lib.hid (HR.out.more hb); clear hb))
  go_ret
  exact ⟨rfl, HR.out.below⟩
end Go.Proofs.Ytgpnfmkonhaccaa
