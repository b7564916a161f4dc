/- Any schema, any change: the walk. -/
import Derived.Test.YthfakpekdjmpjaaSchY
import Derived.Test.YthfakpekdjmpjaaSchQ
import Derived.BigQuiet
namespace Go.Proofs.Ythfakpekdjmpjaa
open Go.Conc Go.RowKit
set_option linter.unusedVariables false
set_option linter.unusedSimpArgs false

set_option maxRecDepth 100000 in
set_option maxHeartbeats 16000000 in
theorem schemas_walk (a : Option Addr) (c : Nat) (s : Sc) (nm to : ByteArray) (kd : Int) (an : Option Addr) (cn : Nat) (ns : List ByteArray) (ak : Option Addr) (ck : Nat) (ks : List Int) {W : World}
    (hs : IsCo W a s.cs) (hsn : a = none → s.cs.length = 0 ∧ c = 0) (hcap : s.cs.length ≤ c) (hsl : s.cs.length * 32 ≤ 140737488351232) (hn : IsT W an ns) (hnl : ns.length ≤ 4398046511103) (hk : IsL W ak ks) (hkl : ks.length ≤ 140737488355328) :
    Calls Try.prog 3 #[.agg #[.int .i64 s.id, .slice a s.cs.length c, .int .i64 s.next], .string nm, .string to, .int .i64 kd, .slice an ns.length cn, .slice ak ks.length ck] W fun e w' => e = .returned (.bool true) ∧ Below W.heap.size W w' := by
  obtain ⟨rA, zA, ea⟩ : ∃ r z, addA s nm kd = (r, z) := ⟨_, _, rfl⟩
  obtain ⟨rD, zD, ed⟩ : ∃ r z, dropA s nm = (r, z) := ⟨_, _, rfl⟩
  obtain ⟨rR, zR, er⟩ : ∃ r z, renA s nm to = (r, z) := ⟨_, _, rfl⟩
  obtain ⟨rN, zN, en⟩ : ∃ r z, newA ns ks = (r, z) := ⟨_, _, rfl⟩
  obtain ⟨mb, em⟩ : ∃ b, maySc s = b := ⟨_, rfl⟩
  obtain ⟨fi, ef⟩ : ∃ i, findA s.cs nm = i := ⟨_, rfl⟩
  have EA := Lib.hid ea
  have ED := Lib.hid ed
  have ER := Lib.hid er
  have EN := Lib.hid en
  have EM := Lib.hid em
  have EF := Lib.hid ef
  have HSN := Lib.hid hsn
  have HCAP := Lib.hid hcap
  have HSL := Lib.hid hsl
  have HTN := Lib.hid hn
  have HKN := Lib.hid hk
  have HNL := Lib.hid hnl
  have HKL := Lib.hid hkl
  clear ea ed er en em ef hsn hcap hsl hn hk hnl hkl
  obtain ⟨gX, hgX⟩ : ∃ g, g = W.heap.size := ⟨_, rfl⟩
  have hb : Below W.heap.size W (W.alloc (.cells #[.int .i64 s.id, .slice a s.cs.length c, .int .i64 s.next] 24)) := (Below.refl _ _).alloc (Nat.le_refl _) _
  have HVX := Lib.hid (show ScV (W.alloc (.cells #[.int .i64 s.id, .slice a s.cs.length c, .int .i64 s.next] 24)) gX a c s from ⟨by rw [hgX]; exact ScSlot.new W a c s, hs.below hb, HSN.out, HCAP.out, by have := HSL.out; unfold maxLen; omega⟩)
  have HSW := Lib.hid hs
  have HB := Lib.hid hb
  go_enter Try.func3, Try.ntmps3
  go_upto_region 1 with fail
  change Code.wp _ _ _ _ (W.alloc (.cells #[.int .i64 s.id, .slice a s.cs.length c, .int .i64 s.next] 24))
  rw [← hgX]
  generalize W.alloc (.cells #[.int .i64 s.id, .slice a s.cs.length c, .int .i64 s.next] 24) = w0 at *
  clear hb hs hgX
  obtain ⟨pX0, pX1, pX2⟩ := HVX.out.at
  go_upto_region 2 with (go_at_call 11; refine (lendschema_any _ a c s HVX.out.is HSN.out (by have := HSL.out; omega)).mono ?_; rintro e x1 ⟨gl, cl, rfl, ho, hb⟩; replace HVX := Lib.hid (HVX.out.below hb); have HO := Lib.hid ho; have HBW := Lib.hid (HB.out.trans (hb.mono HB.out.size)); clear ho hb)
  clear pX0 pX1 pX2
  change Code.wp _ _ _ _ (x1.alloc (.cells #[.int .i64 s.id, .slice (some ⟨gl, 0, none⟩) s.cs.length cl, .int .i64 s.next] 24))
  have hb : Below x1.heap.size x1 (x1.alloc (.cells #[.int .i64 s.id, .slice (some ⟨gl, 0, none⟩) s.cs.length cl, .int .i64 s.next] 24)) := (Below.refl _ _).alloc (Nat.le_refl _) _
  have HLL := Lib.hid (show ScL w0.heap.size (x1.alloc (.cells #[.int .i64 s.id, .slice (some ⟨gl, 0, none⟩) s.cs.length cl, .int .i64 s.next] 24)) x1.heap.size gl cl s from ⟨ScSlot.new x1 (some ⟨gl, 0, none⟩) cl s, HO.out.below hb⟩)
  have HGL := Lib.hid (Nat.lt_of_lt_of_le (HO.out.at_ge (k := gl) rfl).2 hb.size)
  replace HVX := Lib.hid (HVX.out.below hb)
  replace HB := Lib.hid (HBW.out.trans (hb.mono HBW.out.size))
  obtain ⟨gL, hgL⟩ : ∃ g, g = x1.heap.size := ⟨_, rfl⟩
  rw [← hgL] at HLL
  try rw [← hgL]
  generalize x1.alloc (.cells #[.int .i64 s.id, .slice (some ⟨gl, 0, none⟩) s.cs.length cl, .int .i64 s.next] 24) = wL at *
  have HBL := Lib.hid (Below.refl wL.heap.size wL)
  have HWL := Lib.hid HB.out.size
  clear hb HBW HO hgL
  obtain ⟨p0, p1, p2⟩ := HLL.out.slot.at
  go_upto_region 3 with (go_at_call 12; refine (add_var HLL.out.v EA.out).mono ?_; rintro e x2 ⟨aA, cA, rfl, ho, hb⟩; have HAA : Hid (∀ k, At aA k → wL.heap.size ≤ k) := (fun k hk => Nat.le_trans HBL.out.size (ho.at_ge hk).1); replace HVX := Lib.hid (HVX.out.below hb); replace HLL := Lib.hid (HLL.out.below hb); replace HBL := Lib.hid (HBL.out.trans (hb.mono HBL.out.size)); have HO := Lib.hid ho; have HBW := Lib.hid (HB.out.trans (hb.mono HB.out.size)); clear ho hb)
  clear p0 p1 p2
  change Code.wp _ _ _ _ (x2.alloc (.cells #[.int .i64 rA.id, .slice aA rA.cs.length cA, .int .i64 rA.next] 24))
  have hb : Below x2.heap.size x2 (x2.alloc (.cells #[.int .i64 rA.id, .slice aA rA.cs.length cA, .int .i64 rA.next] 24)) := (Below.refl _ _).alloc (Nat.le_refl _) _
  have HVA := Lib.hid (ScV.of HO.out)
  replace HVX := Lib.hid (HVX.out.below hb)
  replace HLL := Lib.hid (HLL.out.below hb)
  replace HBL := Lib.hid (HBL.out.trans (hb.mono HBL.out.size))
  replace HB := Lib.hid (HBW.out.trans (hb.mono HBW.out.size))
  have HOA := Lib.hid (HO.out.below hb)
  obtain ⟨gA, hgA⟩ : ∃ g, g = x2.heap.size := ⟨_, rfl⟩
  rw [← hgA] at HVA
  try rw [← hgA]
  generalize x2.alloc (.cells #[.int .i64 rA.id, .slice aA rA.cs.length cA, .int .i64 rA.next] 24) = w2 at *
  clear hb HBW HO hgA
  obtain ⟨p0, p1, p2⟩ := HVX.out.at
  go_upto_region 4 with (go_at_call 13; refine (radd_var HVX.out EA.out).mono ?_; rintro e x3 ⟨aB, cB, rfl, ho, hb⟩; replace HVX := Lib.hid (HVX.out.below hb); replace HVA := Lib.hid (HVA.out.below hb); replace HOA := Lib.hid (HOA.out.below hb); replace HLL := Lib.hid (HLL.out.below hb); replace HBL := Lib.hid (HBL.out.trans (hb.mono HBL.out.size)); have HO := Lib.hid ho; have HBW := Lib.hid (HB.out.trans (hb.mono HB.out.size)); clear ho hb)
  clear p0 p1 p2
  change Code.wp _ _ _ _ (x3.alloc (.cells #[.int .i64 rA.id, .slice aB rA.cs.length cB, .int .i64 rA.next] 24))
  have hb : Below x3.heap.size x3 (x3.alloc (.cells #[.int .i64 rA.id, .slice aB rA.cs.length cB, .int .i64 rA.next] 24)) := (Below.refl _ _).alloc (Nat.le_refl _) _
  have HVB := Lib.hid (ScV.of HO.out)
  replace HVX := Lib.hid (HVX.out.below hb)
  replace HVA := Lib.hid (HVA.out.below hb)
  replace HOA := Lib.hid (HOA.out.below hb)
  replace HLL := Lib.hid (HLL.out.below hb)
  replace HBL := Lib.hid (HBL.out.trans (hb.mono HBL.out.size))
  replace HB := Lib.hid (HBW.out.trans (hb.mono HBW.out.size))
  obtain ⟨gB, hgB⟩ : ∃ g, g = x3.heap.size := ⟨_, rfl⟩
  rw [← hgB] at HVB
  try rw [← hgB]
  generalize x3.alloc (.cells #[.int .i64 rA.id, .slice aB rA.cs.length cB, .int .i64 rA.next] 24) = w3 at *
  clear hb HBW HO hgB
  obtain ⟨p0, p1, p2⟩ := HLL.out.slot.at
  go_upto_region 5 with (go_at_call 14; refine (drop_var HLL.out.v ED.out).mono ?_; rintro e x4 ⟨aC, cC, rfl, ho, hb⟩; have HXAC : Hid (∀ k, At aA k → ¬ At aC k) := (fun k h1 h2 => absurd (HOA.out.at_ge h1).2 (Nat.not_lt.2 (ho.at_ge h2).1)); have HAC : Hid (∀ k, At aC k → wL.heap.size ≤ k) := (fun k hk => Nat.le_trans HBL.out.size (ho.at_ge hk).1); replace HVX := Lib.hid (HVX.out.below hb); replace HVA := Lib.hid (HVA.out.below hb); replace HVB := Lib.hid (HVB.out.below hb); replace HOA := Lib.hid (HOA.out.below hb); replace HLL := Lib.hid (HLL.out.below hb); replace HBL := Lib.hid (HBL.out.trans (hb.mono HBL.out.size)); have HO := Lib.hid ho; have HBW := Lib.hid (HB.out.trans (hb.mono HB.out.size)); clear ho hb)
  clear p0 p1 p2
  change Code.wp _ _ _ _ (x4.alloc (.cells #[.int .i64 rD.id, .slice aC rD.cs.length cC, .int .i64 rD.next] 24))
  have hb : Below x4.heap.size x4 (x4.alloc (.cells #[.int .i64 rD.id, .slice aC rD.cs.length cC, .int .i64 rD.next] 24)) := (Below.refl _ _).alloc (Nat.le_refl _) _
  have HVC := Lib.hid (ScV.of HO.out)
  replace HVX := Lib.hid (HVX.out.below hb)
  replace HVA := Lib.hid (HVA.out.below hb)
  replace HVB := Lib.hid (HVB.out.below hb)
  replace HOA := Lib.hid (HOA.out.below hb)
  replace HLL := Lib.hid (HLL.out.below hb)
  replace HBL := Lib.hid (HBL.out.trans (hb.mono HBL.out.size))
  replace HB := Lib.hid (HBW.out.trans (hb.mono HBW.out.size))
  have HOC := Lib.hid (HO.out.below hb)
  obtain ⟨gC, hgC⟩ : ∃ g, g = x4.heap.size := ⟨_, rfl⟩
  rw [← hgC] at HVC
  try rw [← hgC]
  generalize x4.alloc (.cells #[.int .i64 rD.id, .slice aC rD.cs.length cC, .int .i64 rD.next] 24) = w4 at *
  clear hb HBW HO hgC
  obtain ⟨p0, p1, p2⟩ := HVX.out.at
  go_upto_region 6 with (go_at_call 15; refine (rdrop_var HVX.out ED.out).mono ?_; rintro e x5 ⟨aD, cD, rfl, ho, hb⟩; replace HVX := Lib.hid (HVX.out.below hb); replace HVA := Lib.hid (HVA.out.below hb); replace HVB := Lib.hid (HVB.out.below hb); replace HVC := Lib.hid (HVC.out.below hb); replace HOA := Lib.hid (HOA.out.below hb); replace HOC := Lib.hid (HOC.out.below hb); replace HLL := Lib.hid (HLL.out.below hb); replace HBL := Lib.hid (HBL.out.trans (hb.mono HBL.out.size)); have HO := Lib.hid ho; have HBW := Lib.hid (HB.out.trans (hb.mono HB.out.size)); clear ho hb)
  clear p0 p1 p2
  change Code.wp _ _ _ _ (x5.alloc (.cells #[.int .i64 rD.id, .slice aD rD.cs.length cD, .int .i64 rD.next] 24))
  have hb : Below x5.heap.size x5 (x5.alloc (.cells #[.int .i64 rD.id, .slice aD rD.cs.length cD, .int .i64 rD.next] 24)) := (Below.refl _ _).alloc (Nat.le_refl _) _
  have HVD := Lib.hid (ScV.of HO.out)
  replace HVX := Lib.hid (HVX.out.below hb)
  replace HVA := Lib.hid (HVA.out.below hb)
  replace HVB := Lib.hid (HVB.out.below hb)
  replace HVC := Lib.hid (HVC.out.below hb)
  replace HOA := Lib.hid (HOA.out.below hb)
  replace HOC := Lib.hid (HOC.out.below hb)
  replace HLL := Lib.hid (HLL.out.below hb)
  replace HBL := Lib.hid (HBL.out.trans (hb.mono HBL.out.size))
  replace HB := Lib.hid (HBW.out.trans (hb.mono HBW.out.size))
  obtain ⟨gD, hgD⟩ : ∃ g, g = x5.heap.size := ⟨_, rfl⟩
  rw [← hgD] at HVD
  try rw [← hgD]
  generalize x5.alloc (.cells #[.int .i64 rD.id, .slice aD rD.cs.length cD, .int .i64 rD.next] 24) = w5 at *
  clear hb HBW HO hgD
  obtain ⟨p0, p1, p2⟩ := HLL.out.slot.at
  go_upto_region 7 with (go_at_call 16; refine (ren_var HLL.out.v ER.out).mono ?_; rintro e x6 ⟨aI, cI, rfl, ho, hb⟩; have HXAI : Hid (∀ k, At aA k → ¬ At aI k) := (fun k h1 h2 => absurd (HOA.out.at_ge h1).2 (Nat.not_lt.2 (ho.at_ge h2).1)); have HXCI : Hid (∀ k, At aC k → ¬ At aI k) := (fun k h1 h2 => absurd (HOC.out.at_ge h1).2 (Nat.not_lt.2 (ho.at_ge h2).1)); have HAI : Hid (∀ k, At aI k → wL.heap.size ≤ k) := (fun k hk => Nat.le_trans HBL.out.size (ho.at_ge hk).1); replace HVX := Lib.hid (HVX.out.below hb); replace HVA := Lib.hid (HVA.out.below hb); replace HVB := Lib.hid (HVB.out.below hb); replace HVC := Lib.hid (HVC.out.below hb); replace HVD := Lib.hid (HVD.out.below hb); replace HOA := Lib.hid (HOA.out.below hb); replace HOC := Lib.hid (HOC.out.below hb); replace HLL := Lib.hid (HLL.out.below hb); replace HBL := Lib.hid (HBL.out.trans (hb.mono HBL.out.size)); have HO := Lib.hid ho; have HBW := Lib.hid (HB.out.trans (hb.mono HB.out.size)); clear ho hb)
  clear p0 p1 p2
  change Code.wp _ _ _ _ (x6.alloc (.cells #[.int .i64 rR.id, .slice aI rR.cs.length cI, .int .i64 rR.next] 24))
  have hb : Below x6.heap.size x6 (x6.alloc (.cells #[.int .i64 rR.id, .slice aI rR.cs.length cI, .int .i64 rR.next] 24)) := (Below.refl _ _).alloc (Nat.le_refl _) _
  have HVI := Lib.hid (ScV.of HO.out)
  replace HVX := Lib.hid (HVX.out.below hb)
  replace HVA := Lib.hid (HVA.out.below hb)
  replace HVB := Lib.hid (HVB.out.below hb)
  replace HVC := Lib.hid (HVC.out.below hb)
  replace HVD := Lib.hid (HVD.out.below hb)
  replace HOA := Lib.hid (HOA.out.below hb)
  replace HOC := Lib.hid (HOC.out.below hb)
  replace HLL := Lib.hid (HLL.out.below hb)
  replace HBL := Lib.hid (HBL.out.trans (hb.mono HBL.out.size))
  replace HB := Lib.hid (HBW.out.trans (hb.mono HBW.out.size))
  have HOI := Lib.hid (HO.out.below hb)
  obtain ⟨gI, hgI⟩ : ∃ g, g = x6.heap.size := ⟨_, rfl⟩
  rw [← hgI] at HVI
  try rw [← hgI]
  generalize x6.alloc (.cells #[.int .i64 rR.id, .slice aI rR.cs.length cI, .int .i64 rR.next] 24) = w6 at *
  clear hb HBW HO hgI
  obtain ⟨p0, p1, p2⟩ := HVX.out.at
  go_upto_region 8 with (go_at_call 17; refine (rren_var HVX.out ER.out).mono ?_; rintro e x7 ⟨aK, cK, rfl, ho, hb⟩; replace HVX := Lib.hid (HVX.out.below hb); replace HVA := Lib.hid (HVA.out.below hb); replace HVB := Lib.hid (HVB.out.below hb); replace HVC := Lib.hid (HVC.out.below hb); replace HVD := Lib.hid (HVD.out.below hb); replace HVI := Lib.hid (HVI.out.below hb); replace HOA := Lib.hid (HOA.out.below hb); replace HOC := Lib.hid (HOC.out.below hb); replace HOI := Lib.hid (HOI.out.below hb); replace HLL := Lib.hid (HLL.out.below hb); replace HBL := Lib.hid (HBL.out.trans (hb.mono HBL.out.size)); have HO := Lib.hid ho; have HBW := Lib.hid (HB.out.trans (hb.mono HB.out.size)); clear ho hb)
  clear p0 p1 p2
  change Code.wp _ _ _ _ (x7.alloc (.cells #[.int .i64 rR.id, .slice aK rR.cs.length cK, .int .i64 rR.next] 24))
  have hb : Below x7.heap.size x7 (x7.alloc (.cells #[.int .i64 rR.id, .slice aK rR.cs.length cK, .int .i64 rR.next] 24)) := (Below.refl _ _).alloc (Nat.le_refl _) _
  have HVK := Lib.hid (ScV.of HO.out)
  replace HVX := Lib.hid (HVX.out.below hb)
  replace HVA := Lib.hid (HVA.out.below hb)
  replace HVB := Lib.hid (HVB.out.below hb)
  replace HVC := Lib.hid (HVC.out.below hb)
  replace HVD := Lib.hid (HVD.out.below hb)
  replace HVI := Lib.hid (HVI.out.below hb)
  replace HOA := Lib.hid (HOA.out.below hb)
  replace HOC := Lib.hid (HOC.out.below hb)
  replace HOI := Lib.hid (HOI.out.below hb)
  replace HLL := Lib.hid (HLL.out.below hb)
  replace HBL := Lib.hid (HBL.out.trans (hb.mono HBL.out.size))
  replace HB := Lib.hid (HBW.out.trans (hb.mono HBW.out.size))
  obtain ⟨gK, hgK⟩ : ∃ g, g = x7.heap.size := ⟨_, rfl⟩
  rw [← hgK] at HVK
  try rw [← hgK]
  generalize x7.alloc (.cells #[.int .i64 rR.id, .slice aK rR.cs.length cK, .int .i64 rR.next] 24) = w7 at *
  clear hb HBW HO hgK
  have HSL2 := Lib.hid (show (s.cs.length + 2) * 32 ≤ 140737488355328 by have := HSL.out; omega)
  refine region_class (fun w' => Below w7.heap.size w7 w') (by kernel_rfl) (by kernel_rfl) (Below.refl _ _).drew ?_
  repeat (
    first
    | go_big_quiet_skip
    | (go_big_quiet_want
       go_big_quiet_op
       first
       | go_big_quiet_on
       | (apply Exists.intro
          refine ⟨fun v1 hv1 => ?_, ?_⟩
          · (first
            | (exact rfl)
            | (obtain ⟨b0, b1, b2⟩ := (HVA.out.below hv1).at; simp only [b0, b1, b2, Result.andThen]; exact ⟨trivial, rfl⟩)
            | (obtain ⟨b0, b1, b2⟩ := (HVB.out.below hv1).at; simp only [b0, b1, b2, Result.andThen]; exact ⟨trivial, rfl⟩)
            | (obtain ⟨b0, b1, b2⟩ := (HVC.out.below hv1).at; simp only [b0, b1, b2, Result.andThen]; exact ⟨trivial, rfl⟩)
            | (obtain ⟨b0, b1, b2⟩ := (HVD.out.below hv1).at; simp only [b0, b1, b2, Result.andThen]; exact ⟨trivial, rfl⟩)
            | (obtain ⟨b0, b1, b2⟩ := (HVI.out.below hv1).at; simp only [b0, b1, b2, Result.andThen]; exact ⟨trivial, rfl⟩)
            | (obtain ⟨b0, b1, b2⟩ := (HVK.out.below hv1).at; simp only [b0, b1, b2, Result.andThen]; exact ⟨trivial, rfl⟩)
            | (obtain ⟨b0, b1, b2⟩ := (HVX.out.below hv1).at; simp only [b0, b1, b2, Result.andThen]; exact ⟨trivial, rfl⟩)
            | (obtain ⟨b0, b1, b2⟩ := (HLL.out.below hv1).slot.at; simp only [b0, b1, b2, Result.andThen]; exact ⟨trivial, rfl⟩)
            | (go_at_call 18; have h9 := (show Calls Try.prog _ _ v1 (fun e w2 => e = .returned (.bool true) ∧ Below w7.heap.size w7 w2) from (same_var (HVA.out.below hv1) (HVB.out.below hv1)).mono (fun e w2 h => ⟨h.1, hv1.trans (h.2.mono hv1.size)⟩)); with_reducible exact h9)
            | (go_at_call 18; have h9 := (show Calls Try.prog _ _ v1 (fun e w2 => e = .returned (.bool true) ∧ Below w7.heap.size w7 w2) from (same_var (HVC.out.below hv1) (HVD.out.below hv1)).mono (fun e w2 h => ⟨h.1, hv1.trans (h.2.mono hv1.size)⟩)); with_reducible exact h9)
            | (go_at_call 18; have h9 := (show Calls Try.prog _ _ v1 (fun e w2 => e = .returned (.bool true) ∧ Below w7.heap.size w7 w2) from (same_var (HVI.out.below hv1) (HVK.out.below hv1)).mono (fun e w2 h => ⟨h.1, hv1.trans (h.2.mono hv1.size)⟩)); with_reducible exact h9)
            | (go_at_call 19; refine (num_any _ _).mono ?_; rintro e w2 ⟨rfl, rfl⟩; exact ⟨rfl, hv1⟩)
            | (go_at_call 20; have h9 := (show Calls Try.prog _ _ v1 (fun e w2 => e = .returned (.bool mb) ∧ Below w7.heap.size w7 w2) from (may_var (HLL.out.below hv1).v EM.out).mono (fun e w2 h => ⟨h.1, hv1.trans (h.2.mono hv1.size)⟩)); with_reducible exact h9)
            | (go_at_call 21; have h9 := (show Calls Try.prog _ _ v1 (fun e w2 => e = .returned (.bool mb) ∧ Below w7.heap.size w7 w2) from (rmay_var (HVX.out.below hv1) EM.out).mono (fun e w2 h => ⟨h.1, hv1.trans (h.2.mono hv1.size)⟩)); with_reducible exact h9)
            | (go_at_call 22; have h9 := (show Calls Try.prog _ _ v1 (fun e w2 => e = .returned (.bool true) ∧ Below w7.heap.size w7 w2) from (kept_var (HLL.out.below hv1) (HVX.out.below hv1) HSL2.out).mono (fun e w2 h => ⟨h.1, hv1.trans (h.2.mono hv1.size)⟩)); with_reducible exact h9)
            | (exact ⟨trivial, rfl⟩))
          go_big_quiet_on)))
  refine wpQuiet_nil ?_
  intro w8 hb
  replace HVX := Lib.hid (HVX.out.below hb)
  replace HVA := Lib.hid (HVA.out.below hb)
  replace HVB := Lib.hid (HVB.out.below hb)
  replace HVC := Lib.hid (HVC.out.below hb)
  replace HVD := Lib.hid (HVD.out.below hb)
  replace HVI := Lib.hid (HVI.out.below hb)
  replace HVK := Lib.hid (HVK.out.below hb)
  replace HOA := Lib.hid (HOA.out.below hb)
  replace HOC := Lib.hid (HOC.out.below hb)
  replace HOI := Lib.hid (HOI.out.below hb)
  replace HLL := Lib.hid (HLL.out.below hb)
  replace HBL := Lib.hid (HBL.out.trans (hb.mono HBL.out.size))
  replace HB := Lib.hid (HB.out.trans (hb.mono HB.out.size))
  clear hb
  clear HVB HVD HVK HBL
  obtain ⟨p0, p1, p2⟩ := HVA.out.at
  go_upto_region 11 with (go_at_call 23; refine (spoilcols_any _ _ _ _ _ HOA.out (own_max HOA.out)).mono ?_; rintro e w9 ⟨rfl, hf⟩; have HF := Lib.hid (show Frm (At aA) _ w9 from hf); clear hf)
  clear p0 p1 p2
  replace HB := Lib.hid (Frm.to_below HB.out HF.out (fun k hk => Nat.le_trans HWL.out (HAA.out k hk)) (Nat.le_refl _))
  replace HLL := Lib.hid (HLL.out.spoil HOA.out (fun hk => by have := HAA.out gl hk; have := HGL.out; omega) HF.out)
  replace HVX := Lib.hid (HVX.out.spoilX HSW.out HB.out HOA.out HF.out)
  have hsp := HVC.out.spoil HOC.out HOA.out (fun k h1 h2 => HXAC.out k h2 h1) HF.out
  replace HVC := Lib.hid hsp.1
  replace HOC := Lib.hid hsp.2
  clear hsp
  have hsp := HVI.out.spoil HOI.out HOA.out (fun k h1 h2 => HXAI.out k h2 h1) HF.out
  replace HVI := Lib.hid hsp.1
  replace HOI := Lib.hid hsp.2
  clear hsp
  clear HVA HOA HF
  obtain ⟨p0, p1, p2⟩ := HVC.out.at
  go_upto_region 12 with (go_at_call 23; refine (spoilcols_any _ _ _ _ _ HOC.out (own_max HOC.out)).mono ?_; rintro e w10 ⟨rfl, hf⟩; have HF := Lib.hid (show Frm (At aC) _ w10 from hf); clear hf)
  clear p0 p1 p2
  replace HB := Lib.hid (Frm.to_below HB.out HF.out (fun k hk => Nat.le_trans HWL.out (HAC.out k hk)) (Nat.le_refl _))
  replace HLL := Lib.hid (HLL.out.spoil HOC.out (fun hk => by have := HAC.out gl hk; have := HGL.out; omega) HF.out)
  replace HVX := Lib.hid (HVX.out.spoilX HSW.out HB.out HOC.out HF.out)
  have hsp := HVI.out.spoil HOI.out HOC.out (fun k h1 h2 => HXCI.out k h2 h1) HF.out
  replace HVI := Lib.hid hsp.1
  replace HOI := Lib.hid hsp.2
  clear hsp
  clear HVC HOC HF
  obtain ⟨p0, p1, p2⟩ := HVI.out.at
  go_upto_region 13 with (go_at_call 23; refine (spoilcols_any _ _ _ _ _ HOI.out (own_max HOI.out)).mono ?_; rintro e w11 ⟨rfl, hf⟩; have HF := Lib.hid (show Frm (At aI) _ w11 from hf); clear hf)
  clear p0 p1 p2
  replace HB := Lib.hid (Frm.to_below HB.out HF.out (fun k hk => Nat.le_trans HWL.out (HAI.out k hk)) (Nat.le_refl _))
  replace HLL := Lib.hid (HLL.out.spoil HOI.out (fun hk => by have := HAI.out gl hk; have := HGL.out; omega) HF.out)
  replace HVX := Lib.hid (HVX.out.spoilX HSW.out HB.out HOI.out HF.out)
  clear HVI HOI HF
  go_upto_region 14 with (go_at_call 24; refine (new_var _ an ak cn ck ns ks (HTN.out.below HB.out) (HKN.out.below HB.out) (by have := HNL.out; omega) HKL.out EN.out).mono ?_; rintro e x12 ⟨aN, cN, rfl, ho, hb⟩; replace HVX := Lib.hid (HVX.out.below hb); replace HLL := Lib.hid (HLL.out.below hb); have HO := Lib.hid ho; have HBW := Lib.hid (HB.out.trans (hb.mono HB.out.size)); clear ho hb)
  change Code.wp _ _ _ _ (x12.alloc (.cells #[.int .i64 rN.id, .slice aN rN.cs.length cN, .int .i64 rN.next] 24))
  have hb : Below x12.heap.size x12 (x12.alloc (.cells #[.int .i64 rN.id, .slice aN rN.cs.length cN, .int .i64 rN.next] 24)) := (Below.refl _ _).alloc (Nat.le_refl _) _
  have HVN := Lib.hid (ScV.of HO.out)
  replace HVX := Lib.hid (HVX.out.below hb)
  replace HLL := Lib.hid (HLL.out.below hb)
  replace HB := Lib.hid (HBW.out.trans (hb.mono HBW.out.size))
  obtain ⟨gN, hgN⟩ : ∃ g, g = x12.heap.size := ⟨_, rfl⟩
  rw [← hgN] at HVN
  try rw [← hgN]
  generalize x12.alloc (.cells #[.int .i64 rN.id, .slice aN rN.cs.length cN, .int .i64 rN.next] 24) = w12 at *
  clear hb HBW HO hgN
  go_upto_region 15 with (go_at_call 25; refine (rnew_var _ an ak cn ck ns ks (HTN.out.below HB.out) (HKN.out.below HB.out) HNL.out HKL.out EN.out).mono ?_; rintro e x13 ⟨aQ, cQ, rfl, ho, hb⟩; replace HVX := Lib.hid (HVX.out.below hb); replace HVN := Lib.hid (HVN.out.below hb); replace HLL := Lib.hid (HLL.out.below hb); have HO := Lib.hid ho; have HBW := Lib.hid (HB.out.trans (hb.mono HB.out.size)); clear ho hb)
  change Code.wp _ _ _ _ (x13.alloc (.cells #[.int .i64 rN.id, .slice aQ rN.cs.length cQ, .int .i64 rN.next] 24))
  have hb : Below x13.heap.size x13 (x13.alloc (.cells #[.int .i64 rN.id, .slice aQ rN.cs.length cQ, .int .i64 rN.next] 24)) := (Below.refl _ _).alloc (Nat.le_refl _) _
  have HVQ := Lib.hid (ScV.of HO.out)
  replace HVX := Lib.hid (HVX.out.below hb)
  replace HVN := Lib.hid (HVN.out.below hb)
  replace HLL := Lib.hid (HLL.out.below hb)
  replace HB := Lib.hid (HBW.out.trans (hb.mono HBW.out.size))
  obtain ⟨gQ, hgQ⟩ : ∃ g, g = x13.heap.size := ⟨_, rfl⟩
  rw [← hgQ] at HVQ
  try rw [← hgQ]
  generalize x13.alloc (.cells #[.int .i64 rN.id, .slice aQ rN.cs.length cQ, .int .i64 rN.next] 24) = w13 at *
  clear hb HBW HO hgQ
  refine region_class (fun w' => Below w13.heap.size w13 w') (by kernel_rfl) (by kernel_rfl) (Below.refl _ _).drew ?_
  repeat (
    first
    | go_big_quiet_skip
    | (go_big_quiet_want
       go_big_quiet_op
       first
       | go_big_quiet_on
       | (apply Exists.intro
          refine ⟨fun v1 hv1 => ?_, ?_⟩
          · (first
            | (exact rfl)
            | (obtain ⟨b0, b1, b2⟩ := (HVX.out.below hv1).at; simp only [b0, b1, b2, Result.andThen]; exact ⟨trivial, rfl⟩)
            | (obtain ⟨b0, b1, b2⟩ := (HVN.out.below hv1).at; simp only [b0, b1, b2, Result.andThen]; exact ⟨trivial, rfl⟩)
            | (obtain ⟨b0, b1, b2⟩ := (HVQ.out.below hv1).at; simp only [b0, b1, b2, Result.andThen]; exact ⟨trivial, rfl⟩)
            | (obtain ⟨b0, b1, b2⟩ := (HLL.out.below hv1).slot.at; simp only [b0, b1, b2, Result.andThen]; exact ⟨trivial, rfl⟩)
            | (go_at_call 22; have h9 := (show Calls Try.prog _ _ v1 (fun e w2 => e = .returned (.bool true) ∧ Below w13.heap.size w13 w2) from (kept_var (HLL.out.below hv1) (HVX.out.below hv1) HSL2.out).mono (fun e w2 h => ⟨h.1, hv1.trans (h.2.mono hv1.size)⟩)); with_reducible exact h9)
            | (go_at_call 26; have h9 := (show Calls Try.prog _ _ v1 (fun e w2 => e = .returned (.int .i64 fi) ∧ Below w13.heap.size w13 w2) from (find_var (HLL.out.below hv1).v EF.out).mono (fun e w2 h => ⟨h.1, hv1.trans (h.2.mono hv1.size)⟩)); with_reducible exact h9)
            | (go_at_call 27; have h9 := (show Calls Try.prog _ _ v1 (fun e w2 => e = .returned (.int .i64 fi) ∧ Below w13.heap.size w13 w2) from (rfind_var (HVX.out.below hv1) EF.out).mono (fun e w2 h => ⟨h.1, hv1.trans (h.2.mono hv1.size)⟩)); with_reducible exact h9)
            | (go_at_call 18; have h9 := (show Calls Try.prog _ _ v1 (fun e w2 => e = .returned (.bool true) ∧ Below w13.heap.size w13 w2) from (same_var (HVN.out.below hv1) (HVQ.out.below hv1)).mono (fun e w2 h => ⟨h.1, hv1.trans (h.2.mono hv1.size)⟩)); with_reducible exact h9)
            | (go_at_call 19; refine (num_any _ _).mono ?_; rintro e w2 ⟨rfl, rfl⟩; exact ⟨rfl, hv1⟩)
            | (go_at_call 28; have h9 := (show Calls Try.prog _ _ v1 (fun e w2 => e = .returned (.bool true) ∧ Below w13.heap.size w13 w2) from (schawake_any v1).mono (fun e w2 h => ⟨h.1, hv1.trans (h.2.mono hv1.size)⟩)); with_reducible exact h9)
            | (exact ⟨trivial, rfl⟩))
          go_big_quiet_on)))
  refine wpQuiet_nil ?_
  intro w99 hb
  replace HB := Lib.hid (HB.out.trans (hb.mono HB.out.size))
  clear hb
  go_wp2
  go_ret
  exact ⟨rfl, HB.out⟩
end Go.Proofs.Ythfakpekdjmpjaa
