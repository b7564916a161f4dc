/- The statements' own look at the specs, ahead of the laws. -/
import Derived.Test.YthfakpekdjmpjaaSpcL
import Derived.Test.YthfakpekdjmpjaaSpcM
import Derived.Test.YthfakpekdjmpjaaSchT
import Derived.BigQuiet
namespace Go.Proofs.Ythfakpekdjmpjaa
open Go.Conc Go.RowKit
set_option linter.unusedVariables false
set_option linter.unusedSimpArgs false

def ya : ByteArray := ⟨#[97]⟩
def ys : Sc := ⟨0, 2, [⟨1, ya, 1⟩]⟩
def yf : Fd := ⟨1, 2, 10⟩
def yp : Sp := ⟨0, [yf]⟩
theorem yw_new : newA [ya] [1] = (ys, 0) := by kernel_rfl
theorem yw_cut : applyA yf ⟨1, -7, false, ByteArray.empty⟩ = (⟨1, -10, false, ByteArray.empty⟩, 0) := by kernel_rfl
theorem yw_no : applyA ⟨0, 9, 0⟩ ⟨0, 0, false, ByteArray.empty⟩ = (⟨0, 0, false, ByteArray.empty⟩, 1300) := by kernel_rfl
theorem yw_part : partA yp ys [⟨1, 25, false, ByteArray.empty⟩] = ([⟨1, 20, false, ByteArray.empty⟩], 0) := by kernel_rfl
theorem yw_may : maySp yp ys = true := by kernel_rfl
set_option maxRecDepth 100000 in
set_option maxHeartbeats 4000000 in
theorem specawake_any (w : World) : Calls Try.prog 32 #[] w fun e w' => e = .returned (.bool true) ∧ Below w.heap.size w w' := by
  obtain ⟨s, hs⟩ : ∃ s, s = ys := ⟨_, rfl⟩
  have hs3 : s.id = 0 ∧ s.next = 2 ∧ s.cs.length = 1 := by rw [hs]; exact ⟨rfl, rfl, rfl⟩
  have e1 := yw_new
  have e2 := yw_part
  have e3 := yw_may
  rw [← hs] at e1 e2 e3
  have E2 := Lib.hid e2
  have E3 := Lib.hid e3
  have HS3 := Lib.hid hs3
  obtain ⟨u1, hu1⟩ : ∃ u1, u1 = w.alloc (.cells #[.string ya] 9) := ⟨_, rfl⟩
  obtain ⟨v0, hv0⟩ : ∃ v0, v0 = u1.alloc (.cells #[.int .i64 1] 3) := ⟨_, rfl⟩
  have b1 : Below w.heap.size w u1 := by rw [hu1]; exact (Below.refl _ _).alloc (Nat.le_refl _) _
  have b2 : Below u1.heap.size u1 v0 := by rw [hv0]; exact (Below.refl _ _).alloc (Nat.le_refl _) _
  have z1 : u1.heap.size = w.heap.size + 1 := by rw [hu1]; simp
  have hT : IsT u1 (some ⟨w.heap.size, 0, none⟩) [ya] := by
    refine .inr ⟨w.heap.size, 0, rfl, fun i hi => ?_⟩
    rw [hu1, cell_of_row _ _ _ _ _ _ (heap_alloc_new w (.cells #[.string ya] 9))]
    rcases i with _ | i
    · rfl
    · simp at hi
  have hL : IsL v0 (some ⟨u1.heap.size, 0, none⟩) [1] := by rw [hv0]; exact isl_new u1 [1] _ rfl
  have T1 : Hid (Calls Try.prog 25 #[.slice (some ⟨w.heap.size, 0, none⟩) 1 1, .slice (some ⟨w.heap.size + 1, 0, none⟩) 1 1] v0 (ScPost v0 (s, 0))) := by
    have h := refnewschema_any v0 (some ⟨w.heap.size, 0, none⟩) (some ⟨u1.heap.size, 0, none⟩) 1 1 [ya] [1] (hT.below b2) hL (by simp) (by simp)
    rw [e1, z1] at h
    exact h
  have HB0 := Lib.hid (b1.trans (b2.mono b1.size))
  have TA1 : Hid (∀ u : World, Calls Try.prog 30 #[.agg #[.int .i64 1, .int .i64 2, .int .i64 10], .agg #[.int .i64 1, .int .i64 (-7), .bool false, .string ⟨#[]⟩]] u fun e w' => e = .returned (.tuple #[.agg #[.int .i64 1, .int .i64 (-10), .bool false, .string ⟨#[]⟩], .int .i64 0]) ∧ Below u.heap.size u w') := fun u => by
    have h := apply_any yf ⟨1, -7, false, ByteArray.empty⟩ ⟨by decide, by decide⟩ (by decide) u
    rw [yw_cut] at h
    exact h
  have TA2 : Hid (∀ u : World, Calls Try.prog 30 #[.agg #[.int .i64 0, .int .i64 9, .int .i64 0], .agg #[.int .i64 0, .int .i64 0, .bool false, .string ⟨#[]⟩]] u fun e w' => e = .returned (.tuple #[.agg #[.int .i64 0, .int .i64 0, .bool false, .string ⟨#[]⟩], .int .i64 1300]) ∧ Below u.heap.size u w') := fun u => by
    have h := apply_any ⟨0, 9, 0⟩ ⟨0, 0, false, ByteArray.empty⟩ ⟨by decide, by decide⟩ (by decide) u
    rw [yw_no] at h
    exact h
  have TP : Hid (∀ (v : World) (fa a ra : Option Addr) (c : Nat), IsFd v fa [yf] → IsCo v a s.cs → s.cs.length ≤ c → IsV v ra [⟨1, 25, false, ByteArray.empty⟩] → Calls Try.prog 37 #[.agg #[.int .i64 0, .slice fa 1 1], .agg #[.int .i64 s.id, .slice a s.cs.length c, .int .i64 s.next], .agg #[.slice ra 1 1]] v fun e w' => ∃ ao co, e = .returned (.tuple #[.slice ao 1 co, .int .i64 0]) ∧ OwnV v.heap.size w' ao co [⟨1, 20, false, ByteArray.empty⟩] ∧ Below v.heap.size v w') := fun v fa a ra c h1 h2 h3 h4 => by
    have h := sppart_any v fa a ra 1 c 1 yp s [⟨1, 25, false, ByteArray.empty⟩] h1 (by decide) h2 (by rw [HS3.out.2.2]; decide) h3 h4 (by decide) (by intro x hx; rw [List.mem_singleton.1 hx]; exact ⟨⟨by decide, by decide⟩, by decide⟩)
    rw [E2.out] at h
    exact h
  have TM : Hid (∀ (v : World) (fa a : Option Addr) (c : Nat), IsFd v fa [yf] → IsCo v a s.cs → s.cs.length ≤ c → Calls Try.prog 35 #[.agg #[.int .i64 0, .slice fa 1 1], .agg #[.int .i64 s.id, .slice a s.cs.length c, .int .i64 s.next]] v fun e w' => e = .returned (.bool true) ∧ Below v.heap.size v w') := fun v fa a c h1 h2 h3 => by
    have h := spmay_any v fa a 1 c yp s h1 (by decide) h2 (by rw [HS3.out.2.2]; decide) h3
    rw [E3.out] at h
    exact h
  clear e1 e2 e3 b1 b2 hT hL hs hs3 z1
  go_enter Try.func32, Try.ntmps32
  go_upto_region 2 with (go_at_call 25; (try change Calls _ _ _ ((w.alloc (.cells #[.string ya] 9)).alloc (.cells #[.int .i64 1] 3)) _); rw [← hu1, ← hv0]; refine (T1.out).mono ?_; rintro e w1 ⟨a1, c1, rfl, ho, hb⟩; have HO1 := Lib.hid ho; have HW1 := Lib.hid (HB0.out.trans (hb.mono HB0.out.size)); clear ho hb)
  change Code.wp _ _ _ _ (w1.alloc (.cells #[.int .i64 s.id, .slice a1 s.cs.length c1, .int .i64 s.next] 24))
  obtain ⟨v1, hv1⟩ : ∃ v1, v1 = w1.alloc (.cells #[.int .i64 s.id, .slice a1 s.cs.length c1, .int .i64 s.next] 24) := ⟨_, rfl⟩
  have hb : Below w1.heap.size w1 v1 := by rw [hv1]; exact (Below.refl _ _).alloc (Nat.le_refl _) _
  have HS1 := Lib.hid (show ScSlot v1 w1.heap.size a1 c1 s by rw [hv1]; exact ScSlot.new w1 a1 c1 s)
  have HI1 := Lib.hid (HO1.out.isX.below hb)
  have HB1 := Lib.hid (HW1.out.trans (hb.mono HW1.out.size))
  have HC1 := Lib.hid HO1.out.cap
  rw [← hv1]
  clear hv1 hb HW1 HO1 T1 HB0 hu1 hv0
  generalize w1.heap.size = gs at *
  obtain ⟨v2, hv2⟩ : ∃ v2, v2 = v1.alloc (.cells #[.int .i64 1, .int .i64 2, .int .i64 10] 55) := ⟨_, rfl⟩
  obtain ⟨v3, hv3⟩ : ∃ v3, v3 = v2.alloc (.cells #[.int .i64 0, .slice (some ⟨v1.heap.size, 0, none⟩) 1 1] 65) := ⟨_, rfl⟩
  have hb2 : Below v1.heap.size v1 v2 := by rw [hv2]; exact (Below.refl _ _).alloc (Nat.le_refl _) _
  have hb3 : Below v2.heap.size v2 v3 := by rw [hv3]; exact (Below.refl _ _).alloc (Nat.le_refl _) _
  have z2 : v2.heap.size = v1.heap.size + 1 := by rw [hv2]; simp
  have hfd : FdAt v2 v1.heap.size 0 yf := by rw [hv2]; exact FdAt.new v1 yf
  have hsp : SpSlot v3 (v1.heap.size + 1) (some ⟨v1.heap.size, 0, none⟩) 1 yp := by rw [hv3, ← z2]; exact SpSlot.new v2 _ 1 yp
  have hb13 := hb2.trans (hb3.mono hb2.size)
  have HF := Lib.hid (hfd.below hb3)
  have HP := Lib.hid hsp
  replace HS1 := Lib.hid (HS1.out.below hb13)
  replace HI1 := Lib.hid (HI1.out.below hb13)
  replace HB1 := Lib.hid (HB1.out.trans (hb13.mono HB1.out.size))
  have HFD : Hid (∀ u : World, Below v3.heap.size v3 u → IsFd u (some ⟨v1.heap.size, 0, none⟩) [yf]) := fun u hu => .inr ⟨_, 0, rfl, fun i hi => by
    obtain rfl : i = 0 := by simp at hi; omega
    exact HF.out.below hu⟩
  have hw : (v1.alloc (.cells #[.int .i64 1, .int .i64 2, .int .i64 10] 55)).alloc (.cells #[.int .i64 0, .slice (some ⟨v1.heap.size, 0, none⟩) 1 1] 65) = v3 := by rw [hv3, hv2]
  clear hv2 hv3 hb2 hb3 z2 hfd hsp hb13
  go_upto_region 3 with fail
  clear hw
  generalize v1.heap.size = gf at *
  have c0 : v3.cell? ⟨gf + 1, 0, none⟩ = some (.int .i64 0) := HP.out.at.1
  have c1' : v3.cell? ⟨gf + 1, 1, none⟩ = some (.slice (some ⟨gf, 0, none⟩) 1 1) := HP.out.at.2
  have p0 : v3.cell? ⟨gf, 0, none⟩ = some (.int .i64 1) := HF.out.c0
  have p1 : v3.cell? ⟨gf, 1, none⟩ = some (.int .i64 2) := HF.out.c1
  have p2 : v3.cell? ⟨gf, 2, none⟩ = some (.int .i64 10) := HF.out.c2
  go_upto_region 4 with (go_at_call 30; refine (TA1.out _).mono ?_; rintro e w4 ⟨rfl, hb4⟩; have HB4 := Lib.hid hb4; clear hb4 c0 c1' p0 p1 p2)
  change Code.wp _ _ _ _ (w4.alloc (.cells #[.int .i64 1, .int .i64 (-10), .bool false, .string ⟨#[]⟩] 57))
  have HV4 := Lib.hid (Slot.new w4 ⟨1, -10, false, ByteArray.empty⟩)
  have hb4 := HB4.out.trans (((Below.refl _ _).alloc (Nat.le_refl _) (.cells #[.int .i64 1, .int .i64 (-10), .bool false, .string ⟨#[]⟩] 57)).mono HB4.out.size)
  have HX4 := Lib.hid (show Below v3.heap.size v3 (w4.alloc (.cells #[.int .i64 1, .int .i64 (-10), .bool false, .string ⟨#[]⟩] 57)) from hb4)
  change Hid (Slot (w4.alloc (.cells #[.int .i64 1, .int .i64 (-10), .bool false, .string ⟨#[]⟩] 57)) w4.heap.size _) at HV4
  generalize w4.alloc (.cells #[.int .i64 1, .int .i64 (-10), .bool false, .string ⟨#[]⟩] 57) = v4 at *
  generalize w4.heap.size = g4 at *
  clear hb4 HB4 TA1
  have c0 : v4.cell? ⟨gf + 1, 0, none⟩ = some (.int .i64 0) := (HP.out.below HX4.out).at.1
  have c1' : v4.cell? ⟨gf + 1, 1, none⟩ = some (.slice (some ⟨gf, 0, none⟩) 1 1) := (HP.out.below HX4.out).at.2
  obtain ⟨b0, b1, b2⟩ := (HS1.out.below HX4.out).at
  obtain ⟨x4, hx4⟩ : ∃ x, x = v4.alloc (.cells #[.int .i64 1, .int .i64 25, .bool false, .string ⟨#[]⟩] 57) := ⟨_, rfl⟩
  have hbx : Below v4.heap.size v4 x4 := by rw [hx4]; exact (Below.refl _ _).alloc (Nat.le_refl _) _
  have HXX := Lib.hid (HX4.out.trans (hbx.mono HX4.out.size))
  have HIV : Hid (IsV x4 (some ⟨v4.heap.size, 0, none⟩) [⟨1, 25, false, ByteArray.empty⟩]) := .inr ⟨_, 0, rfl, fun i hi => by
    obtain rfl : i = 0 := by simp at hi; omega
    have hs := (Slot.new v4 ⟨1, 25, false, ByteArray.empty⟩).at.1
    rw [hx4]
    exact ⟨hs.1, hs.2.1, hs.2.2.1, hs.2.2.2⟩⟩
  go_upto_region 5 with (go_at_call 37; (try change Calls _ _ _ (v4.alloc (.cells #[.int .i64 1, .int .i64 25, .bool false, .string ⟨#[]⟩] 57)) _); rw [← hx4]; refine (TP.out _ _ _ _ _ (HFD.out _ HXX.out) (HI1.out.below HXX.out) HC1.out HIV.out).mono ?_; rintro e w5 ⟨ao, co, rfl, ho, hb5⟩; have HO5 := Lib.hid ho; have HX5 := Lib.hid (HXX.out.trans (hb5.mono HXX.out.size)); have HV5 := Lib.hid ((HV4.out.below hbx).below hb5); clear ho hb5 c0 c1' b0 b1 b2)
  clear hx4 hbx TP
  go_upto_region 6 with (go_at_call 30; refine (TA2.out _).mono ?_; rintro e w6 ⟨rfl, hb6⟩; have HX6 := Lib.hid (HX5.out.trans (hb6.mono HX5.out.size)); have HV6 := Lib.hid (HV5.out.below hb6); have HI6 := Lib.hid (HO5.out.isV.below hb6); clear hb6 TA2)
  change Code.wp _ _ _ _ (w6.alloc (.cells #[.int .i64 0, .int .i64 0, .bool false, .string ⟨#[]⟩] 57))
  have hb6 : Below w6.heap.size w6 (w6.alloc (.cells #[.int .i64 0, .int .i64 0, .bool false, .string ⟨#[]⟩] 57)) := (Below.refl _ _).alloc (Nat.le_refl _) _
  replace HX6 := Lib.hid (HX6.out.trans (hb6.mono HX6.out.size))
  replace HV6 := Lib.hid (HV6.out.below hb6)
  replace HI6 := Lib.hid (HI6.out.below hb6)
  generalize w6.alloc (.cells #[.int .i64 0, .int .i64 0, .bool false, .string ⟨#[]⟩] 57) = v6 at *
  clear hb6
  have c0 : v6.cell? ⟨gf + 1, 0, none⟩ = some (.int .i64 0) := (HP.out.below HX6.out).at.1
  have c1' : v6.cell? ⟨gf + 1, 1, none⟩ = some (.slice (some ⟨gf, 0, none⟩) 1 1) := (HP.out.below HX6.out).at.2
  obtain ⟨b0, b1, b2⟩ := (HS1.out.below HX6.out).at
  obtain ⟨⟨z0, z1, z2, z3⟩, _⟩ := HV6.out.at
  obtain ⟨ob, oo, rfl, y0, y1, y2, y3⟩ := IsV.get HI6.out (n := 0) (by simp)
  simp only [Nat.zero_mul, Nat.add_zero, List.getD_cons_zero] at y0 y1 y2 y3
  go_wp2_with (first
    | (go_at_call 19; refine (num_any _ _).mono ?_; rintro e wn ⟨rfl, rfl⟩)
    | (go_at_call 35; refine (TM.out _ _ _ _ (HFD.out _ HX6.out) (HI1.out.below HX6.out) HC1.out).mono ?_; rintro e w7 ⟨rfl, hb⟩; have HX7 := Lib.hid (HX6.out.trans (hb.mono HX6.out.size)); clear hb))
  go_ret
  exact ⟨rfl, HB1.out.trans (HX7.out.mono HB1.out.size)⟩
end Go.Proofs.Ythfakpekdjmpjaa
