/- The statements' own look at the schemas, ahead of the laws. -/
import Derived.BigQuiet
import Derived.Test.YthfakpekdjmpjaaSchN
import Derived.Test.YthfakpekdjmpjaaSchX
namespace Go.Proofs.Ythfakpekdjmpjaa
open Go.Conc Go.RowKit
set_option linter.unusedVariables false
set_option linter.unusedSimpArgs false

def xA : ByteArray := ⟨#[97]⟩
def xB : ByteArray := ⟨#[98]⟩
def xC : ByteArray := ⟨#[99]⟩
def xZ : ByteArray := ⟨#[122]⟩
def aw1 : Sc := ⟨0, 3, [⟨1, xA, 1⟩, ⟨2, xB, 3⟩]⟩
def aw2 : Sc := ⟨1, 4, [⟨1, xA, 1⟩, ⟨2, xB, 3⟩, ⟨3, xC, 2⟩]⟩
def aw3 : Sc := ⟨2, 4, [⟨2, xB, 3⟩, ⟨3, xC, 2⟩]⟩
def aw4 : Sc := ⟨3, 4, [⟨2, xA, 3⟩, ⟨3, xC, 2⟩]⟩
theorem aw_new : newA [xA, xB] [1, 3] = (aw1, 0) := by kernel_rfl
theorem aw_add : addA aw1 xC 2 = (aw2, 0) := by kernel_rfl
theorem aw_drop : dropA aw2 xA = (aw3, 0) := by kernel_rfl
theorem aw_ren : renA aw3 xB xA = (aw4, 0) := by kernel_rfl
theorem aw_twice : addA aw1 xA 2 = (zeroSc, 1201) := by kernel_rfl
theorem aw_find : findA aw4.cs xA = 0 := by kernel_rfl
theorem aw_none : findA aw4.cs xZ = -1 := by kernel_rfl
theorem aw_may : maySc aw4 = true := by kernel_rfl
theorem aw_zero : maySc zeroSc = false := by kernel_rfl
set_option maxRecDepth 100000 in
set_option maxHeartbeats 4000000 in
theorem schawake_any (w : World) : Calls Try.prog 28 #[] w fun e w' => e = .returned (.bool true) ∧ Below w.heap.size w w' := by
  obtain ⟨s1, h1⟩ : ∃ s, s = aw1 := ⟨_, rfl⟩
  obtain ⟨s2, h2⟩ : ∃ s, s = aw2 := ⟨_, rfl⟩
  obtain ⟨s3, h3⟩ : ∃ s, s = aw3 := ⟨_, rfl⟩
  obtain ⟨s4, h4⟩ : ∃ s, s = aw4 := ⟨_, rfl⟩
  obtain ⟨s5, h5⟩ : ∃ s, s = zeroSc := ⟨_, rfl⟩
  have e1 := aw_new
  have e2 := aw_add
  have e3 := aw_drop
  have e4 := aw_ren
  have e5 := aw_twice
  have e6 := aw_find
  have e7 := aw_none
  have e8 := aw_may
  have e9 : s4.id = 3 ∧ s4.next = 4 := by rw [h4]; exact ⟨rfl, rfl⟩
  rw [← h1] at e1 e2 e5
  rw [← h2] at e2 e3
  rw [← h3] at e3 e4
  rw [← h4] at e4 e6 e7 e8
  rw [← h5] at e5
  clear h1 h2 h3 h4 h5
  obtain ⟨u1, hu1⟩ : ∃ u1, u1 = w.alloc (.cells #[.string xA, .string xB] 9) := ⟨_, rfl⟩
  obtain ⟨v0, hv0⟩ : ∃ v0, v0 = u1.alloc (.cells #[.int .i64 1, .int .i64 3] 3) := ⟨_, rfl⟩
  have b1 : Below w.heap.size w u1 := by rw [hu1]; exact (Below.refl _ _).alloc (Nat.le_refl _) _
  have b2 : Below u1.heap.size u1 v0 := by rw [hv0]; exact (Below.refl _ _).alloc (Nat.le_refl _) _
  have z1 : u1.heap.size = w.heap.size + 1 := by rw [hu1]; simp
  have hT : IsT u1 (some ⟨w.heap.size, 0, none⟩) [xA, xB] := by
    refine .inr ⟨w.heap.size, 0, rfl, fun i hi => ?_⟩
    rw [hu1, cell_of_row _ _ _ _ _ _ (heap_alloc_new w (.cells #[.string xA, .string xB] 9))]
    rcases i with _ | _ | i
    · rfl
    · rfl
    · simp at hi; omega
  have hL : IsL v0 (some ⟨u1.heap.size, 0, none⟩) [1, 3] := by rw [hv0]; exact isl_new u1 [1, 3] _ rfl
  have T1 : Hid (Calls Try.prog 24 #[.slice (some ⟨w.heap.size, 0, none⟩) 2 2, .slice (some ⟨w.heap.size + 1, 0, none⟩) 2 2] v0 (ScPost v0 (s1, 0))) := by
    have h := schnew_any v0 (some ⟨w.heap.size, 0, none⟩) (some ⟨u1.heap.size, 0, none⟩) 2 2 [xA, xB] [1, 3] (hT.below b2) hL (by simp) (by simp)
    rw [e1, z1] at h
    exact h
  have HB0 := Lib.hid (b1.trans (b2.mono b1.size))
  have E2 := Lib.hid e2
  have E3 := Lib.hid e3
  have E4 := Lib.hid e4
  have E5 := Lib.hid e5
  have E6 := Lib.hid e6
  have E7 := Lib.hid e7
  have E8 := Lib.hid e8
  have E9 := Lib.hid e9
  have TADD : Hid (∀ (v : World) (a : Option Addr) (c : Nat), IsCo v a s1.cs → ((a = none → s1.cs.length = 0 ∧ c = 0) ∧ s1.cs.length ≤ c ∧ s1.cs.length ≤ maxLen) → Calls Try.prog 12 #[.agg #[.int .i64 s1.id, .slice a s1.cs.length c, .int .i64 s1.next], .string xC, .int .i64 2] v (ScPost v (s2, 0))) := fun v a c hi hp => by
    have h := schadd_any v a c s1 xC 2 hi hp.1 hp.2.1 hp.2.2
    rwa [E2.out] at h
  have TTWO : Hid (∀ (v : World) (a : Option Addr) (c : Nat), IsCo v a s1.cs → ((a = none → s1.cs.length = 0 ∧ c = 0) ∧ s1.cs.length ≤ c ∧ s1.cs.length ≤ maxLen) → Calls Try.prog 12 #[.agg #[.int .i64 s1.id, .slice a s1.cs.length c, .int .i64 s1.next], .string xA, .int .i64 2] v (ScPost v (s5, 1201))) := fun v a c hi hp => by
    have h := schadd_any v a c s1 xA 2 hi hp.1 hp.2.1 hp.2.2
    rwa [E5.out] at h
  have TDROP : Hid (∀ (v : World) (a : Option Addr) (c : Nat), IsCo v a s2.cs → ((a = none → s2.cs.length = 0 ∧ c = 0) ∧ s2.cs.length ≤ c ∧ s2.cs.length ≤ maxLen) → Calls Try.prog 14 #[.agg #[.int .i64 s2.id, .slice a s2.cs.length c, .int .i64 s2.next], .string xA] v (ScPost v (s3, 0))) := fun v a c hi hp => by
    have h := schdrop_any v a c s2 xA hi hp.1 hp.2.1 hp.2.2
    rwa [E3.out] at h
  have TREN : Hid (∀ (v : World) (a : Option Addr) (c : Nat), IsCo v a s3.cs → ((a = none → s3.cs.length = 0 ∧ c = 0) ∧ s3.cs.length ≤ c ∧ s3.cs.length ≤ maxLen) → Calls Try.prog 16 #[.agg #[.int .i64 s3.id, .slice a s3.cs.length c, .int .i64 s3.next], .string xB, .string xA] v (ScPost v (s4, 0))) := fun v a c hi hp => by
    have h := schren_any v a c s3 xB xA hi hp.1 hp.2.1 hp.2.2
    rwa [E4.out] at h
  rw [z1] at hL
  clear e1 e2 e3 e4 e5 e6 e7 e8 e9 b1 b2 hT hL
  go_enter Try.func28, Try.ntmps28
  go_upto_region 2 with (go_at_call 24; (try change Calls _ _ _ ((w.alloc (.cells #[.string xA, .string xB] 9)).alloc (.cells #[.int .i64 1, .int .i64 3] 3)) _); rw [← hu1, ← hv0]; refine (T1.out).mono ?_; rintro e w1 ⟨a1, c1, rfl, ho, hb⟩; have HO1 := Lib.hid ho; have HW1 := Lib.hid (HB0.out.trans (hb.mono HB0.out.size)); clear ho hb)
  change Code.wp _ _ _ _ (w1.alloc (.cells #[.int .i64 s1.id, .slice a1 s1.cs.length c1, .int .i64 s1.next] 24))
  obtain ⟨v1, hv1⟩ : ∃ v1, v1 = w1.alloc (.cells #[.int .i64 s1.id, .slice a1 s1.cs.length c1, .int .i64 s1.next] 24) := ⟨_, rfl⟩
  have hb : Below w1.heap.size w1 v1 := by rw [hv1]; exact (Below.refl _ _).alloc (Nat.le_refl _) _
  have HS1_1' := Lib.hid (show ScSlot v1 w1.heap.size a1 c1 s1 by rw [hv1]; exact ScSlot.new w1 a1 c1 s1)
  have HI1_1' := Lib.hid (HO1.out.isX.below hb)
  have HB1 := Lib.hid (HW1.out.trans (hb.mono HW1.out.size))
  have HP1 := Lib.hid (And.intro (own_nil HO1.out) (And.intro HO1.out.cap (own_max HO1.out)))
  rw [← hv1]
  clear hv1 hb HW1 HO1
  replace HS1_1 := HS1_1'
  replace HI1_1 := HI1_1'
  obtain ⟨b0, b1, b2⟩ := HS1_1.out.at
  go_upto_region 3 with (go_at_call 12; refine (TADD.out _ _ _ HI1_1.out HP1.out).mono ?_; rintro e w2 ⟨a2, c2, rfl, ho, hb⟩; have HS1_2 := Lib.hid (HS1_1.out.below hb); have HI1_2 := Lib.hid (HI1_1.out.below hb); have HO2 := Lib.hid ho; have HW2 := Lib.hid (HB1.out.trans (hb.mono HB1.out.size)); clear ho hb)
  clear b0 b1 b2
  change Code.wp _ _ _ _ (w2.alloc (.cells #[.int .i64 s2.id, .slice a2 s2.cs.length c2, .int .i64 s2.next] 24))
  obtain ⟨v2, hv2⟩ : ∃ v2, v2 = w2.alloc (.cells #[.int .i64 s2.id, .slice a2 s2.cs.length c2, .int .i64 s2.next] 24) := ⟨_, rfl⟩
  have hb : Below w2.heap.size w2 v2 := by rw [hv2]; exact (Below.refl _ _).alloc (Nat.le_refl _) _
  have HS2_2' := Lib.hid (show ScSlot v2 w2.heap.size a2 c2 s2 by rw [hv2]; exact ScSlot.new w2 a2 c2 s2)
  have HI2_2' := Lib.hid (HO2.out.isX.below hb)
  have HS1_2' := Lib.hid (HS1_2.out.below hb)
  have HI1_2' := Lib.hid (HI1_2.out.below hb)
  have HB2 := Lib.hid (HW2.out.trans (hb.mono HW2.out.size))
  have HP2 := Lib.hid (And.intro (own_nil HO2.out) (And.intro HO2.out.cap (own_max HO2.out)))
  rw [← hv2]
  clear hv2 hb HW2 HO2 HS1_2 HI1_2
  replace HS1_2 := HS1_2'
  replace HI1_2 := HI1_2'
  replace HS2_2 := HS2_2'
  replace HI2_2 := HI2_2'
  obtain ⟨b0, b1, b2⟩ := HS2_2.out.at
  go_upto_region 4 with (go_at_call 14; refine (TDROP.out _ _ _ HI2_2.out HP2.out).mono ?_; rintro e w3 ⟨a3, c3, rfl, ho, hb⟩; have HS1_3 := Lib.hid (HS1_2.out.below hb); have HI1_3 := Lib.hid (HI1_2.out.below hb); have HS2_3 := Lib.hid (HS2_2.out.below hb); have HI2_3 := Lib.hid (HI2_2.out.below hb); have HO3 := Lib.hid ho; have HW3 := Lib.hid (HB2.out.trans (hb.mono HB2.out.size)); clear ho hb)
  clear b0 b1 b2
  change Code.wp _ _ _ _ (w3.alloc (.cells #[.int .i64 s3.id, .slice a3 s3.cs.length c3, .int .i64 s3.next] 24))
  obtain ⟨v3, hv3⟩ : ∃ v3, v3 = w3.alloc (.cells #[.int .i64 s3.id, .slice a3 s3.cs.length c3, .int .i64 s3.next] 24) := ⟨_, rfl⟩
  have hb : Below w3.heap.size w3 v3 := by rw [hv3]; exact (Below.refl _ _).alloc (Nat.le_refl _) _
  have HS3_3' := Lib.hid (show ScSlot v3 w3.heap.size a3 c3 s3 by rw [hv3]; exact ScSlot.new w3 a3 c3 s3)
  have HI3_3' := Lib.hid (HO3.out.isX.below hb)
  have HS1_3' := Lib.hid (HS1_3.out.below hb)
  have HI1_3' := Lib.hid (HI1_3.out.below hb)
  have HS2_3' := Lib.hid (HS2_3.out.below hb)
  have HI2_3' := Lib.hid (HI2_3.out.below hb)
  have HB3 := Lib.hid (HW3.out.trans (hb.mono HW3.out.size))
  have HP3 := Lib.hid (And.intro (own_nil HO3.out) (And.intro HO3.out.cap (own_max HO3.out)))
  rw [← hv3]
  clear hv3 hb HW3 HO3 HS1_3 HI1_3 HS2_3 HI2_3
  replace HS1_3 := HS1_3'
  replace HI1_3 := HI1_3'
  replace HS2_3 := HS2_3'
  replace HI2_3 := HI2_3'
  replace HS3_3 := HS3_3'
  replace HI3_3 := HI3_3'
  obtain ⟨b0, b1, b2⟩ := HS3_3.out.at
  go_upto_region 5 with (go_at_call 16; refine (TREN.out _ _ _ HI3_3.out HP3.out).mono ?_; rintro e w4 ⟨a4, c4, rfl, ho, hb⟩; have HS1_4 := Lib.hid (HS1_3.out.below hb); have HI1_4 := Lib.hid (HI1_3.out.below hb); have HS2_4 := Lib.hid (HS2_3.out.below hb); have HI2_4 := Lib.hid (HI2_3.out.below hb); have HS3_4 := Lib.hid (HS3_3.out.below hb); have HI3_4 := Lib.hid (HI3_3.out.below hb); have HO4 := Lib.hid ho; have HW4 := Lib.hid (HB3.out.trans (hb.mono HB3.out.size)); clear ho hb)
  clear b0 b1 b2
  change Code.wp _ _ _ _ (w4.alloc (.cells #[.int .i64 s4.id, .slice a4 s4.cs.length c4, .int .i64 s4.next] 24))
  obtain ⟨v4, hv4⟩ : ∃ v4, v4 = w4.alloc (.cells #[.int .i64 s4.id, .slice a4 s4.cs.length c4, .int .i64 s4.next] 24) := ⟨_, rfl⟩
  have hb : Below w4.heap.size w4 v4 := by rw [hv4]; exact (Below.refl _ _).alloc (Nat.le_refl _) _
  have HS4_4' := Lib.hid (show ScSlot v4 w4.heap.size a4 c4 s4 by rw [hv4]; exact ScSlot.new w4 a4 c4 s4)
  have HI4_4' := Lib.hid (HO4.out.isX.below hb)
  have HS1_4' := Lib.hid (HS1_4.out.below hb)
  have HI1_4' := Lib.hid (HI1_4.out.below hb)
  have HS2_4' := Lib.hid (HS2_4.out.below hb)
  have HI2_4' := Lib.hid (HI2_4.out.below hb)
  have HS3_4' := Lib.hid (HS3_4.out.below hb)
  have HI3_4' := Lib.hid (HI3_4.out.below hb)
  have HB4 := Lib.hid (HW4.out.trans (hb.mono HW4.out.size))
  have HP4 := Lib.hid (And.intro (own_nil HO4.out) (And.intro HO4.out.cap (own_max HO4.out)))
  rw [← hv4]
  clear hv4 hb HW4 HO4 HS1_4 HI1_4 HS2_4 HI2_4 HS3_4 HI3_4
  replace HS1_4 := HS1_4'
  replace HI1_4 := HI1_4'
  replace HS2_4 := HS2_4'
  replace HI2_4 := HI2_4'
  replace HS3_4 := HS3_4'
  replace HI3_4 := HI3_4'
  replace HS4_4 := HS4_4'
  replace HI4_4 := HI4_4'
  obtain ⟨b0, b1, b2⟩ := HS1_4.out.at
  go_upto_region 6 with (go_at_call 12; refine (TTWO.out _ _ _ HI1_4.out HP1.out).mono ?_; rintro e w5 ⟨a5, c5, rfl, ho, hb⟩; have HS1_5 := Lib.hid (HS1_4.out.below hb); have HI1_5 := Lib.hid (HI1_4.out.below hb); have HS2_5 := Lib.hid (HS2_4.out.below hb); have HI2_5 := Lib.hid (HI2_4.out.below hb); have HS3_5 := Lib.hid (HS3_4.out.below hb); have HI3_5 := Lib.hid (HI3_4.out.below hb); have HS4_5 := Lib.hid (HS4_4.out.below hb); have HI4_5 := Lib.hid (HI4_4.out.below hb); have HO5 := Lib.hid ho; have HW5 := Lib.hid (HB4.out.trans (hb.mono HB4.out.size)); clear ho hb)
  clear b0 b1 b2
  change Code.wp _ _ _ _ (w5.alloc (.cells #[.int .i64 s5.id, .slice a5 s5.cs.length c5, .int .i64 s5.next] 24))
  obtain ⟨v5, hv5⟩ : ∃ v5, v5 = w5.alloc (.cells #[.int .i64 s5.id, .slice a5 s5.cs.length c5, .int .i64 s5.next] 24) := ⟨_, rfl⟩
  have hb : Below w5.heap.size w5 v5 := by rw [hv5]; exact (Below.refl _ _).alloc (Nat.le_refl _) _
  have HS5_5' := Lib.hid (show ScSlot v5 w5.heap.size a5 c5 s5 by rw [hv5]; exact ScSlot.new w5 a5 c5 s5)
  have HI5_5' := Lib.hid (HO5.out.isX.below hb)
  have HS1_5' := Lib.hid (HS1_5.out.below hb)
  have HI1_5' := Lib.hid (HI1_5.out.below hb)
  have HS2_5' := Lib.hid (HS2_5.out.below hb)
  have HI2_5' := Lib.hid (HI2_5.out.below hb)
  have HS3_5' := Lib.hid (HS3_5.out.below hb)
  have HI3_5' := Lib.hid (HI3_5.out.below hb)
  have HS4_5' := Lib.hid (HS4_5.out.below hb)
  have HI4_5' := Lib.hid (HI4_5.out.below hb)
  have HB5 := Lib.hid (HW5.out.trans (hb.mono HW5.out.size))
  have HP5 := Lib.hid (And.intro (own_nil HO5.out) (And.intro HO5.out.cap (own_max HO5.out)))
  rw [← hv5]
  clear hv5 hb HW5 HO5 HS1_5 HI1_5 HS2_5 HI2_5 HS3_5 HI3_5 HS4_5 HI4_5
  replace HS1_5 := HS1_5'
  replace HI1_5 := HI1_5'
  replace HS2_5 := HS2_5'
  replace HI2_5 := HI2_5'
  replace HS3_5 := HS3_5'
  replace HI3_5 := HI3_5'
  replace HS4_5 := HS4_5'
  replace HI4_5 := HI4_5'
  replace HS5_5 := HS5_5'
  replace HI5_5 := HI5_5'
  have TFA : Hid (∀ v : World, Below v5.heap.size v5 v → Calls Try.prog 26 #[.agg #[.int .i64 s4.id, .slice a4 s4.cs.length c4, .int .i64 s4.next], .string xA] v fun e w' => e = .returned (.int .i64 0) ∧ Below v.heap.size v w') := fun v hv => by
    have h := schfind_any v a4 c4 s4 xA (HI4_5.out.below hv) HP4.out.2.2
    rwa [E6.out] at h
  have TFZ : Hid (∀ v : World, Below v5.heap.size v5 v → Calls Try.prog 26 #[.agg #[.int .i64 s4.id, .slice a4 s4.cs.length c4, .int .i64 s4.next], .string xZ] v fun e w' => e = .returned (.int .i64 (-1)) ∧ Below v.heap.size v w') := fun v hv => by
    have h := schfind_any v a4 c4 s4 xZ (HI4_5.out.below hv) HP4.out.2.2
    rwa [E7.out] at h
  have TMY : Hid (∀ v : World, Below v5.heap.size v5 v → Calls Try.prog 20 #[.agg #[.int .i64 s4.id, .slice a4 s4.cs.length c4, .int .i64 s4.next]] v fun e w' => e = .returned (.bool true) ∧ Below v.heap.size v w') := fun v hv => by
    have h := schmay_any v a4 c4 s4 (HI4_5.out.below hv) HP4.out.2.2 HP4.out.2.1
    rwa [E8.out] at h
  have TMZ : Hid (∀ v : World, Calls Try.prog 20 #[.agg #[.int .i64 0, .slice none 0 0, .int .i64 0]] v fun e w' => e = .returned (.bool false) ∧ Below v.heap.size v w') := fun v => by
    have h := schmay_any v none 0 zeroSc (.inl rfl) (by decide) (by decide)
    rw [aw_zero] at h
    exact h
  obtain ⟨x0, x1, x2⟩ := HS4_5.out.at
  rw [E9.out.1] at x0
  rw [E9.out.2] at x2
  rw [E9.out.1, E9.out.2] at TFA TFZ TMY
  go_wp2_with (first
    | (go_at_call 19; refine (num_any _ _).mono ?_; rintro e wn ⟨rfl, rfl⟩)
    | (go_at_call 26; refine (TFA.out _ (Below.refl _ _)).mono ?_; rintro e y1 ⟨rfl, hb⟩; clear TFA; have HY1 := Lib.hid hb; have hs1 := HS4_5.out.below hb; clear hb; obtain ⟨x0, x1, x2⟩ := hs1.at; rw [E9.out.1] at x0; rw [E9.out.2] at x2)
    | (go_at_call 26; refine (TFZ.out _ HY1.out).mono ?_; rintro e y2 ⟨rfl, hb⟩; clear TFZ; have HY2 := Lib.hid (HY1.out.trans (hb.mono HY1.out.size)); have hs2 := HS4_5.out.below HY2.out; clear hb; obtain ⟨x0, x1, x2⟩ := hs2.at; rw [E9.out.1] at x0; rw [E9.out.2] at x2)
    | (go_at_call 20; refine (TMY.out _ HY2.out).mono ?_; rintro e y3 ⟨rfl, hb⟩; clear TMY; have HY3 := Lib.hid (HY2.out.trans (hb.mono HY2.out.size)); clear hb)
    | (go_at_call 20; refine (TMZ.out _).mono ?_; rintro e y4 ⟨rfl, hb⟩; have HY4 := Lib.hid (HY3.out.trans (hb.mono HY3.out.size)); clear hb))
  go_ret
  exact ⟨rfl, HB5.out.trans (HY4.out.mono HB5.out.size)⟩
end Go.Proofs.Ythfakpekdjmpjaa
