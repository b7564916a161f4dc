/- Any values cut into runs, any runs joined: the walk of the law. -/
import Derived.Test.YtpijnnkhokmlbaaRAwake
namespace Go.Proofs.Ytpijnnkhokmlbaa
open Go.Conc Go.RowKit
set_option linter.unusedVariables false
set_option linter.unusedSimpArgs false

/-- A list lies between two numbers of blocks. -/
def Lies (lo hi : Nat) (a : Option Addr) : Prop := ∀ k, At a k → lo ≤ k ∧ k < hi
theorem isl_frm {w w' : World} {a b : Option Addr} {xs : List Int} {lo hi lo2 hi2 : Nat} (h : IsL w a xs) (hf : Frm (At b) w w') (ha : Lies lo hi a) (hb : Lies lo2 hi2 b) (hd : hi ≤ lo2 ∨ hi2 ≤ lo) (hz : hi ≤ w.heap.size) : IsL w' a xs :=
  h.keep fun k hk => hf.block k (by have := ha k hk; omega) fun h2 => by have := ha k hk; have := hb k h2; omega
theorem isv_frm {w w' : World} {a b : Option Addr} {xs : List V} {lo hi lo2 hi2 : Nat} (h : IsV w a xs) (hf : Frm (At b) w w') (ha : Lies lo hi a) (hb : Lies lo2 hi2 b) (hd : hi ≤ lo2 ∨ hi2 ≤ lo) (hz : hi ≤ w.heap.size) : IsV w' a xs :=
  h.keep fun k hk => hf.block k (by have := ha k hk; omega) fun h2 => by have := ha k hk; have := hb k h2; omega
/-- What is read behind the spoiling. -/
structure Rest (w u : World) (n3 n4 n5 : Nat) (ax : Option Addr) (ac ad : Option Addr) (vs : List V) (m : List Int) (e : List V) : Prop where
  x : IsV u ax vs
  c : IsL u ac m
  d : IsV u ad e
  lx : Lies 0 n3 ax
  lc : Lies n4 n5 ac
  ld : Lies n4 n5 ad
  s3 : w.heap.size ≤ n3
  s4 : n3 ≤ n4
  s5 : n4 ≤ n5
  sz : n5 ≤ u.heap.size
  below : Below w.heap.size w u
theorem Rest.frm {w u u' : World} {n3 n4 n5 : Nat} {x ac ad b : Option Addr} {vs : List V} {m : List Int} {e : List V} (h : Rest w u n3 n4 n5 x ac ad vs m e) (hf : Frm (At b) u u') (hb : Lies n3 n4 b) : Rest w u' n3 n4 n5 x ac ad vs m e :=
  ⟨isv_frm h.x hf h.lx hb (.inl (Nat.le_refl _)) (by have := h.s4; have := h.s5; have := h.sz; omega), isl_frm h.c hf h.lc hb (.inr (Nat.le_refl _)) h.sz, isv_frm h.d hf h.ld hb (.inr (Nat.le_refl _)) h.sz, h.lx, h.lc, h.ld, h.s3, h.s4, h.s5, Nat.le_trans h.sz hf.size, Frm.to_below h.below hf (fun k hk => Nat.le_trans h.s3 (hb k hk).1) (Nat.le_refl _)⟩
theorem Rest.more {w u u' : World} {n3 n4 n5 : Nat} {x ac ad : Option Addr} {vs : List V} {m : List Int} {e : List V} (h : Rest w u n3 n4 n5 x ac ad vs m e) (hb : Below u.heap.size u u') : Rest w u' n3 n4 n5 x ac ad vs m e :=
  ⟨h.x.below hb, h.c.below hb, h.d.below hb, h.lx, h.lc, h.ld, h.s3, h.s4, h.s5, Nat.le_trans h.sz hb.size, h.below.trans (hb.mono h.below.size)⟩

set_option maxRecDepth 100000 in
set_option maxHeartbeats 8000000 in
theorem runsall_walk (a0 a1 a2 : Option Addr) (c0 c1 c2 : Nat) (vs rs : List V) (ms : List Int) {w : World} (h0 : IsV w a0 vs) (n0 : a0 = none → vs.length = 0 ∧ c0 = 0) (x0 : vs.length * 40 ≤ 140737488351232) (s0 : ∀ v ∈ vs, v.s.size ≤ 140737488351232)
    (h1 : IsL w a1 ms) (n1 : a1 = none → ms.length = 0 ∧ c1 = 0) (x1 : ms.length * 8 ≤ 140737488351232) (b1 : ∀ x ∈ ms, -9223372036854775808 ≤ x ∧ x < 9223372036854775808)
    (h2 : IsV w a2 rs) (n2 : a2 = none → rs.length = 0 ∧ c2 = 0) (x2 : rs.length * 40 ≤ 140737488351232) (s2 : ∀ v ∈ rs, v.s.size ≤ 140737488351232) :
    Calls Try.prog 3 #[.slice a0 vs.length c0, .slice a1 ms.length c1, .slice a2 rs.length c2] w fun e w' => e = .returned (.bool true) ∧ Below w.heap.size w w' := by
  have T1 : Hid (∀ u, IsV u a0 vs → Calls Try.prog 6 #[.slice a0 vs.length c0] u fun e w' => ∃ g c, e = .returned (.slice (some ⟨g, 0, none⟩) vs.length c) ∧ OwnV u.heap.size w' (some ⟨g, 0, none⟩) c (vs ++ [markV, markV]) ∧ Below u.heap.size u w') := fun u h => lendvals_any u a0 c0 vs h n0 (by omega)
  have T2 : Hid (∀ u, IsL u a1 ms → Calls Try.prog 7 #[.slice a1 ms.length c1] u fun e w' => ∃ g c, e = .returned (.slice (some ⟨g, 0, none⟩) ms.length c) ∧ OwnI u.heap.size w' (some ⟨g, 0, none⟩) c (ms ++ [-7777, -8888]) ∧ Below u.heap.size u w') := fun u h => lendints_any u a1 c1 ms h n1 (by omega)
  have T3 : Hid (∀ u, IsV u a2 rs → Calls Try.prog 6 #[.slice a2 rs.length c2] u fun e w' => ∃ g c, e = .returned (.slice (some ⟨g, 0, none⟩) rs.length c) ∧ OwnV u.heap.size w' (some ⟨g, 0, none⟩) c (rs ++ [markV, markV]) ∧ Below u.heap.size u w') := fun u h => lendvals_any u a2 c2 rs h n2 (by omega)
  have s0' : ∀ v ∈ vs, v.s.size ≤ 281474976710656 := fun v hv => Nat.le_trans (s0 v hv) (by omega)
  have s2' : ∀ v ∈ rs, v.s.size ≤ 281474976710656 := fun v hv => Nat.le_trans (s2 v hv) (by omega)
  have b1' : ∀ x ∈ ms, x < 9223372036854775808 := fun x hx => (b1 x hx).2
  have T4 : Hid (∀ u g c, IsV u (some ⟨g, 0, none⟩) vs → Calls Try.prog 8 #[.slice (some ⟨g, 0, none⟩) vs.length c] u fun e w' => ∃ am cm ae ce, e = .returned (.tuple #[.slice am (cutA vs).1.length cm, .slice ae (cutA vs).2.length ce]) ∧ OwnI u.heap.size w' am cm (cutA vs).1 ∧ OwnV u.heap.size w' ae ce (cutA vs).2 ∧ Below u.heap.size u w') := fun u g c h => ucut_any u _ c vs h (by omega) s0'
  have T5 : Hid (∀ u, IsV u a0 vs → Calls Try.prog 9 #[.slice a0 vs.length c0] u fun e w' => ∃ am cm ae ce, e = .returned (.tuple #[.slice am (cutA vs).1.length cm, .slice ae (cutA vs).2.length ce]) ∧ OwnI u.heap.size w' am cm (cutA vs).1 ∧ OwnV u.heap.size w' ae ce (cutA vs).2 ∧ Below u.heap.size u w') := fun u h => urcut_any u _ c0 vs h (by omega) s0'
  have T6 : Hid (∀ u g c g2 c', IsL u (some ⟨g, 0, none⟩) ms → IsV u (some ⟨g2, 0, none⟩) rs → Calls Try.prog 10 #[.slice (some ⟨g, 0, none⟩) ms.length c, .slice (some ⟨g2, 0, none⟩) rs.length c'] u fun e w' => ∃ aj cj, e = .returned (.tuple #[.slice aj (joinA ms rs).1.length cj, .int .i64 (joinA ms rs).2]) ∧ OwnV u.heap.size w' aj cj (joinA ms rs).1 ∧ Below u.heap.size u w') := fun u g c g2 c' h h' => ujoin_any u _ _ c c' ms rs h h' (by omega) s2' b1'
  have T7 : Hid (∀ u, IsL u a1 ms → IsV u a2 rs → Calls Try.prog 11 #[.slice a1 ms.length c1, .slice a2 rs.length c2] u fun e w' => ∃ aj cj, e = .returned (.tuple #[.slice aj (joinA ms rs).1.length cj, .int .i64 (joinA ms rs).2]) ∧ OwnV u.heap.size w' aj cj (joinA ms rs).1 ∧ Below u.heap.size u w') := fun u h h' => urjoin_any u _ _ c1 c2 ms rs h h' (by omega) s2' b1'
  have hcl := (cutd vs).len
  have hce := (cutd vs).le
  have hjl := joinA_le ms rs
  have T8 : Hid (∀ u p q c d, IsL u p (cutA vs).1 → IsL u q (cutA vs).1 → Calls Try.prog 12 #[.slice p (cutA vs).1.length c, .slice q (cutA vs).1.length d] u fun e w' => e = .returned (.bool true) ∧ Below u.heap.size u w') := fun u p q c d h h' => by
    have h3 := sameints_any u p q c d _ _ h h' (by simp only [maxLen]; omega)
    rw [decide_eq_true rfl] at h3
    exact h3
  have T9 : Hid (∀ u p q c d, IsV u p (cutA vs).2 → IsV u q (cutA vs).2 → Calls Try.prog 13 #[.slice p (cutA vs).2.length c, .slice q (cutA vs).2.length d] u fun e w' => e = .returned (.bool true) ∧ Below u.heap.size u w') := fun u p q c d h h' => by
    have h3 := samevals_any u p q c d _ _ h h' (by simp only [maxLen]; omega)
    rw [decide_eq_true rfl] at h3
    exact h3
  have T10 : Hid (∀ u p q c d, IsV u p (joinA ms rs).1 → IsV u q (joinA ms rs).1 → Calls Try.prog 13 #[.slice p (joinA ms rs).1.length c, .slice q (joinA ms rs).1.length d] u fun e w' => e = .returned (.bool true) ∧ Below u.heap.size u w') := fun u p q c d h h' => by
    have h3 := samevals_any u p q c d _ _ h h' (by simp only [maxLen]; omega)
    rw [decide_eq_true rfl] at h3
    exact h3
  have T11 : Hid (∀ u g c base, OwnV base u (some ⟨g, 0, none⟩) c (vs ++ [markV, markV]) → IsV u a0 vs → Calls Try.prog 15 #[.slice (some ⟨g, 0, none⟩) vs.length c, .slice a0 vs.length c0] u fun e w' => e = .returned (.bool true) ∧ Below u.heap.size u w') := fun u g c base h h' => keptvals_any u g c a0 c0 base vs h h' (by omega)
  have T12 : Hid (∀ u g c base, OwnI base u (some ⟨g, 0, none⟩) c (ms ++ [-7777, -8888]) → IsL u a1 ms → Calls Try.prog 16 #[.slice (some ⟨g, 0, none⟩) ms.length c, .slice a1 ms.length c1] u fun e w' => e = .returned (.bool true) ∧ Below u.heap.size u w') := fun u g c base h h' => keptints_any u g c a1 c1 base ms h h' (by omega)
  have T13 : Hid (∀ u g c base, OwnV base u (some ⟨g, 0, none⟩) c (rs ++ [markV, markV]) → IsV u a2 rs → Calls Try.prog 15 #[.slice (some ⟨g, 0, none⟩) rs.length c, .slice a2 rs.length c2] u fun e w' => e = .returned (.bool true) ∧ Below u.heap.size u w') := fun u g c base h h' => keptvals_any u g c a2 c2 base rs h h' (by omega)
  have T14 : Hid (∀ u p c base, OwnI base u p c (cutA vs).1 → Calls Try.prog 17 #[.slice p (cutA vs).1.length c] u fun e w' => e = .returned (.tuple #[]) ∧ Frm (At p) u w') := fun u p c base h => spoilints_any u p c base _ h (by simp only [maxLen]; omega)
  have T15 : Hid (∀ u p c base, OwnV base u p c (cutA vs).2 → Calls Try.prog 18 #[.slice p (cutA vs).2.length c] u fun e w' => e = .returned (.tuple #[]) ∧ Frm (At p) u w') := fun u p c base h => spoilvals_any u p c base _ h (by simp only [maxLen]; omega)
  have HA0 := Lib.hid h0
  have HA1 := Lib.hid h1
  have HA2 := Lib.hid h2
  generalize (cutA vs).1 = m at *
  generalize (cutA vs).2 = e at *
  generalize (joinA ms rs).1 = j at *
  generalize (joinA ms rs).2 = ej at *
  clear h0 h1 h2 n0 n1 n2 x0 x1 x2 s0 s2 s0' s2' b1 b1' hcl hce hjl
  go_enter Try.func3, Try.ntmps3
  go_upto_region 2 with (first
    | (go_at_call 6; refine (T1.out _ HA0.out).mono ?_; rintro e w1 ⟨gx, cx, rfl, ho, hb⟩; have HX := Lib.hid ho; have HB := Lib.hid hb; clear ho hb T1)
    | (go_at_call 7; refine (T2.out _ (HA1.out.below HB.out)).mono ?_; rintro e w2 ⟨gy, cy, rfl, ho, hb⟩; have HY := Lib.hid (ho.lower HB.out.size); replace HX := Lib.hid (OwnV.below HX.out hb); replace HB := Lib.hid (HB.out.trans (hb.mono HB.out.size)); clear ho hb T2)
    | (go_at_call 6; refine (T3.out _ (HA2.out.below HB.out)).mono ?_; rintro e w3 ⟨gz, cz, rfl, ho, hb⟩; have HZ := Lib.hid (ho.lower HB.out.size); replace HX := Lib.hid (OwnV.below HX.out hb); replace HY := Lib.hid (OwnI.below HY.out hb); replace HB := Lib.hid (HB.out.trans (hb.mono HB.out.size)); clear ho hb T3))
  have HXV : Hid (∀ u, Below w3.heap.size w3 u → IsV u (some ⟨gx, 0, none⟩) vs) := fun u hb => by have h := (HX.out.isV.below hb).take vs.length; rwa [List.take_left] at h
  have HYV : Hid (∀ u, Below w3.heap.size w3 u → IsL u (some ⟨gy, 0, none⟩) ms) := fun u hb => by have h := (HY.out.isL.below hb).take ms.length; rwa [List.take_left] at h
  have HZV : Hid (∀ u, Below w3.heap.size w3 u → IsV u (some ⟨gz, 0, none⟩) rs) := fun u hb => by have h := (HZ.out.isV.below hb).take rs.length; rwa [List.take_left] at h
  have HXL : Hid (Lies w.heap.size w3.heap.size (some ⟨gx, 0, none⟩)) := fun k hk => HX.out.at_ge hk
  have HB3 : Hid (Below w3.heap.size w3 w3) := Below.refl _ _
  have HS3 := Lib.hid HB.out.size
  go_upto_region 3 with (go_at_call 8; refine (T4.out _ _ _ (HXV.out _ HB3.out)).mono ?_; rintro e w4 ⟨aa, ca, ab, cb, rfl, hoa, hob, hb⟩; have HA := Lib.hid hoa; have HBV := Lib.hid hob; have HS4 := Lib.hid hb.size; replace HB3 := Lib.hid (HB3.out.trans hb); replace HX := Lib.hid (OwnV.below HX.out hb); replace HY := Lib.hid (OwnI.below HY.out hb); replace HZ := Lib.hid (OwnV.below HZ.out hb); replace HB := Lib.hid (HB.out.trans (hb.mono HB.out.size)); clear hb hoa hob)
  go_upto_region 4 with (go_at_call 9; refine (T5.out _ (HA0.out.below HB.out)).mono ?_; rintro e w5 ⟨ac, cc, ad, cd, rfl, hoa, hob, hb⟩; have HC := Lib.hid hoa; have HD := Lib.hid hob; have HCL : Hid (Lies w4.heap.size w5.heap.size ac) := fun k hk => hoa.at_ge hk; have HDL : Hid (Lies w4.heap.size w5.heap.size ad) := fun k hk => hob.at_ge hk; have HAL : Hid (Lies w3.heap.size w4.heap.size aa) := fun k hk => HA.out.at_ge hk; have HBL : Hid (Lies w3.heap.size w4.heap.size ab) := fun k hk => HBV.out.at_ge hk; have HS5 := Lib.hid hb.size; have HB5 : Hid (Below w5.heap.size w5 w5) := Below.refl _ _; replace HB3 := Lib.hid (HB3.out.trans (hb.mono HB3.out.size)); replace HX := Lib.hid (OwnV.below HX.out hb); replace HY := Lib.hid (OwnI.below HY.out hb); replace HZ := Lib.hid (OwnV.below HZ.out hb); replace HA := Lib.hid (OwnI.below HA.out hb); replace HBV := Lib.hid (OwnV.below HBV.out hb); replace HB := Lib.hid (HB.out.trans (hb.mono HB.out.size)); clear hb hoa hob)
  go_upto_region 5 with (go_at_call 10; refine (T6.out _ _ _ _ _ (HYV.out _ HB3.out) (HZV.out _ HB3.out)).mono ?_; rintro e w6 ⟨ae, ce, rfl, hoe, hb⟩; have HE := Lib.hid hoe; replace HX := Lib.hid (OwnV.below HX.out hb); replace HY := Lib.hid (OwnI.below HY.out hb); replace HZ := Lib.hid (OwnV.below HZ.out hb); replace HA := Lib.hid (OwnI.below HA.out hb); replace HBV := Lib.hid (OwnV.below HBV.out hb); replace HC := Lib.hid (OwnI.below HC.out hb); replace HD := Lib.hid (OwnV.below HD.out hb); replace HB := Lib.hid (HB.out.trans (hb.mono HB.out.size)); replace HB5 := Lib.hid (HB5.out.trans (hb.mono HB5.out.size)); clear hb hoe)
  go_upto_region 6 with (go_at_call 11; refine (T7.out _ (HA1.out.below HB.out) (HA2.out.below HB.out)).mono ?_; rintro e w7 ⟨ag, cg, rfl, hog, hb⟩; have HG := Lib.hid hog; have HS7 := Lib.hid hb.size; replace HX := Lib.hid (OwnV.below HX.out hb); replace HY := Lib.hid (OwnI.below HY.out hb); replace HZ := Lib.hid (OwnV.below HZ.out hb); replace HA := Lib.hid (OwnI.below HA.out hb); replace HBV := Lib.hid (OwnV.below HBV.out hb); replace HC := Lib.hid (OwnI.below HC.out hb); replace HD := Lib.hid (OwnV.below HD.out hb); replace HE := Lib.hid (OwnV.below HE.out hb); replace HB := Lib.hid (HB.out.trans (hb.mono HB.out.size)); replace HB5 := Lib.hid (HB5.out.trans (hb.mono HB5.out.size)); clear hb hog)
  have T9' := T9
  clear T5 T6 T7 HYV HZV
  go_upto_region 8 with (first
    | (go_at_call 14; refine (num_any _ _).mono ?_; rintro e w' ⟨rfl, rfl⟩)
    | (go_at_call 12; refine (T8.out _ _ _ _ _ HA.out.isL HC.out.isL).mono ?_; rintro e w8 ⟨rfl, hb⟩; replace HX := Lib.hid (OwnV.below HX.out hb); replace HY := Lib.hid (OwnI.below HY.out hb); replace HZ := Lib.hid (OwnV.below HZ.out hb); replace HA := Lib.hid (OwnI.below HA.out hb); replace HBV := Lib.hid (OwnV.below HBV.out hb); replace HC := Lib.hid (OwnI.below HC.out hb); replace HD := Lib.hid (OwnV.below HD.out hb); replace HE := Lib.hid (OwnV.below HE.out hb); replace HG := Lib.hid (OwnV.below HG.out hb); replace HB := Lib.hid (HB.out.trans (hb.mono HB.out.size)); replace HB5 := Lib.hid (HB5.out.trans (hb.mono HB5.out.size)); clear hb)
    | (go_at_call 13; refine (T9.out _ _ _ _ _ HBV.out.isV HD.out.isV).mono ?_; rintro e w9 ⟨rfl, hb⟩; replace HX := Lib.hid (OwnV.below HX.out hb); replace HY := Lib.hid (OwnI.below HY.out hb); replace HZ := Lib.hid (OwnV.below HZ.out hb); replace HA := Lib.hid (OwnI.below HA.out hb); replace HBV := Lib.hid (OwnV.below HBV.out hb); replace HC := Lib.hid (OwnI.below HC.out hb); replace HD := Lib.hid (OwnV.below HD.out hb); replace HE := Lib.hid (OwnV.below HE.out hb); replace HG := Lib.hid (OwnV.below HG.out hb); replace HB := Lib.hid (HB.out.trans (hb.mono HB.out.size)); replace HB5 := Lib.hid (HB5.out.trans (hb.mono HB5.out.size)); clear hb T9)
    | (go_at_call 13; refine (T10.out _ _ _ _ _ HE.out.isV HG.out.isV).mono ?_; rintro e w10 ⟨rfl, hb⟩; replace HX := Lib.hid (OwnV.below HX.out hb); replace HY := Lib.hid (OwnI.below HY.out hb); replace HZ := Lib.hid (OwnV.below HZ.out hb); replace HA := Lib.hid (OwnI.below HA.out hb); replace HBV := Lib.hid (OwnV.below HBV.out hb); replace HC := Lib.hid (OwnI.below HC.out hb); replace HD := Lib.hid (OwnV.below HD.out hb); replace HB := Lib.hid (HB.out.trans (hb.mono HB.out.size)); replace HB5 := Lib.hid (HB5.out.trans (hb.mono HB5.out.size)); clear hb)
    | (go_at_call 15; refine (T11.out _ _ _ _ HX.out (HA0.out.below HB.out)).mono ?_; rintro e w11 ⟨rfl, hb⟩; replace HX := Lib.hid (OwnV.below HX.out hb); replace HY := Lib.hid (OwnI.below HY.out hb); replace HZ := Lib.hid (OwnV.below HZ.out hb); replace HA := Lib.hid (OwnI.below HA.out hb); replace HBV := Lib.hid (OwnV.below HBV.out hb); replace HC := Lib.hid (OwnI.below HC.out hb); replace HD := Lib.hid (OwnV.below HD.out hb); replace HB := Lib.hid (HB.out.trans (hb.mono HB.out.size)); replace HB5 := Lib.hid (HB5.out.trans (hb.mono HB5.out.size)); clear hb T11)
    | (go_at_call 16; refine (T12.out _ _ _ _ HY.out (HA1.out.below HB.out)).mono ?_; rintro e w12 ⟨rfl, hb⟩; replace HX := Lib.hid (OwnV.below HX.out hb); replace HY := Lib.hid (OwnI.below HY.out hb); replace HZ := Lib.hid (OwnV.below HZ.out hb); replace HA := Lib.hid (OwnI.below HA.out hb); replace HBV := Lib.hid (OwnV.below HBV.out hb); replace HC := Lib.hid (OwnI.below HC.out hb); replace HD := Lib.hid (OwnV.below HD.out hb); replace HB := Lib.hid (HB.out.trans (hb.mono HB.out.size)); replace HB5 := Lib.hid (HB5.out.trans (hb.mono HB5.out.size)); clear hb)
    | (go_at_call 15; refine (T13.out _ _ _ _ HZ.out (HA2.out.below HB.out)).mono ?_; rintro e w13 ⟨rfl, hb⟩; replace HX := Lib.hid (OwnV.below HX.out hb); replace HA := Lib.hid (OwnI.below HA.out hb); replace HBV := Lib.hid (OwnV.below HBV.out hb); replace HC := Lib.hid (OwnI.below HC.out hb); replace HD := Lib.hid (OwnV.below HD.out hb); replace HB := Lib.hid (HB.out.trans (hb.mono HB.out.size)); replace HB5 := Lib.hid (HB5.out.trans (hb.mono HB5.out.size)); clear hb))
  have HR : Hid (Rest w _ w3.heap.size w4.heap.size w5.heap.size (some ⟨gx, 0, none⟩) ac ad vs m e) :=
    ⟨by have h := HX.out.isV.take vs.length; rwa [List.take_left] at h, HC.out.isL, HD.out.isV, fun k hk => ⟨Nat.zero_le _, (HXL.out k hk).2⟩, HCL.out, HDL.out, HS3.out, HS4.out, HS5.out, HB5.out.size, HB.out⟩
  clear HX HY HC HD HXL HCL HDL HS3 HS4 HS5 HB5 HB T12 T13 T10
  go_upto_region 9 with (go_at_call 17; refine (T14.out _ _ _ _ HA.out).mono ?_; rintro e w14 ⟨rfl, hf⟩; replace HR := Lib.hid (HR.out.frm hf HAL.out); replace HBV := Lib.hid (OwnV.frm HBV.out hf fun k hk _ hk2 => apart_iv HA.out HBV.out hk2 hk); clear hf HA)
  go_upto_region 10 with (go_at_call 18; refine (T15.out _ _ _ _ HBV.out).mono ?_; rintro e w15 ⟨rfl, hf⟩; replace HR := Lib.hid (HR.out.frm hf HBL.out); clear hf HBV)
  go_upto_region 11 with (go_at_call 8; refine (T4.out _ _ _ HR.out.x).mono ?_; rintro e w16 ⟨ap, cp, aq, cq, rfl, hop, hoq, hb⟩; have HP := Lib.hid hop.isL; have HQ := Lib.hid hoq.isV; replace HR := Lib.hid (HR.out.more hb); clear hop hoq hb)
  go_wp2_with (first
    | (go_at_call 12; refine (T8.out _ _ _ _ _ HP.out HR.out.c).mono ?_; rintro e w17 ⟨rfl, hb⟩; replace HQ := Lib.hid (HQ.out.below hb); replace HR := Lib.hid (HR.out.more hb); clear hb)
    | (go_at_call 13; refine (T9'.out _ _ _ _ _ HQ.out HR.out.d).mono ?_; rintro e w18 ⟨rfl, hb⟩; replace HR := Lib.hid (HR.out.more hb); clear hb)
    | (go_at_call 19; refine (runsawake_any _).mono ?_; rintro e w19 ⟨rfl, hb⟩; replace HR := Lib.hid (HR.out.more hb); clear hb))
  go_ret
  exact ⟨rfl, HR.out.below⟩
end Go.Proofs.Ytpijnnkhokmlbaa
