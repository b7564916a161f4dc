/- The program's specs: what a field makes of a value. The program's specs: Apply. -/
import Derived.Test.YthfakpekdjmpjaaSpcB
import Derived.Test.YthfakpekdjmpjaaSpm2
import Derived.Test.YthfakpekdjmpjaaOpen
import Derived.Test.YthfakpekdjmpjaaQe
namespace Go.Proofs.Ythfakpekdjmpjaa
open Go.Conc Go.RowKit
set_option linter.unusedVariables false
set_option linter.unusedSimpArgs false

/-- What a field makes of a plain value, by its way. -/
theorem plain_pln (v : V) (h : plainV v ≠ zeroV) : Pln (plainV v) := by
  rcases plain_cases v with e | e | e | e
  · rw [e]; exact .inl ⟨rfl, rfl, rfl⟩
  · rw [e]; exact .inr (.inl ⟨rfl, rfl, rfl⟩)
  · rw [e]; exact .inr (.inr ⟨rfl, rfl, rfl⟩)
  · exact absurd e h
theorem plain_range (v : V) (h : -9223372036854775808 ≤ v.i ∧ v.i < 9223372036854775808) : -9223372036854775808 ≤ (plainV v).i ∧ (plainV v).i < 9223372036854775808 := by
  rcases plain_cases v with e | e | e | e <;> rw [e]
  · exact h
  · show (-9223372036854775808 : Int) ≤ 0 ∧ (0 : Int) < 9223372036854775808; omega
  · show (-9223372036854775808 : Int) ≤ 0 ∧ (0 : Int) < 9223372036854775808; omega
  · show (-9223372036854775808 : Int) ≤ 0 ∧ (0 : Int) < 9223372036854775808; omega
theorem bytesV_size (p : V) : (bytesV p).size ≤ p.s.size + 8 := by
  unfold bytesV
  split
  · rw [textB_size, beB_length]; omega
  · split
    · rw [textB_size]; simp
    · omega
def putV (w : World) (g : Nat) (p : V) : World := (((w.setCell ⟨g, 0, none⟩ (.int .i64 p.k)).setCell ⟨g, 1, none⟩ (.int .i64 p.i)).setCell ⟨g, 2, none⟩ (.bool p.b)).setCell ⟨g, 3, none⟩ (.string p.s)
set_option maxRecDepth 100000 in
set_option maxHeartbeats 1000000 in
theorem made_null (f : Fd) (v p R : V) (hR : R = p) (w : World) (T1 : Hid (∀ u, Calls Try.prog 94 #[.agg #[.int .i64 v.k, .int .i64 v.i, .bool v.b, .string v.s]] u fun e w' => e = .returned (.agg #[.int .i64 p.k, .int .i64 p.i, .bool p.b, .string p.s]) ∧ Below u.heap.size u w')) (T2 : Hid (∀ u, Calls Try.prog 95 #[.agg #[.int .i64 p.k, .int .i64 p.i, .bool p.b, .string p.s]] u fun e w' => e = .returned (.bool true) ∧ Below u.heap.size u w')) :
    Calls Try.prog 70 #[.agg #[.int .i64 f.src, .int .i64 f.tr, .int .i64 f.par], .agg #[.int .i64 v.k, .int .i64 v.i, .bool v.b, .string v.s]] w fun e w' => e = .returned (.agg #[.int .i64 R.k, .int .i64 R.i, .bool R.b, .string R.s]) ∧ Below w.heap.size w w' := by
  obtain ⟨u, hu⟩ : ∃ u, u = (((w.alloc (.cells #[.int .i64 f.src, .int .i64 f.tr, .int .i64 f.par] 55)).alloc (.cells #[.int .i64 v.k, .int .i64 v.i, .bool v.b, .string v.s] 57)).alloc (.cells #[.int .i64 0, .int .i64 0, .bool false, .string ⟨#[]⟩] 57)) := ⟨_, rfl⟩
  have hf : FdAt u w.heap.size 0 f := by
    have h1 := FdAt.new w f
    have h2 := h1.below (((Below.refl _ _).alloc (Nat.le_refl _) (.cells #[.int .i64 v.k, .int .i64 v.i, .bool v.b, .string v.s] 57)).alloc (by simp) (.cells #[.int .i64 0, .int .i64 0, .bool false, .string ⟨#[]⟩] 57))
    rw [hu]; exact h2
  have hs1 : Slot u (w.heap.size + 1) v := by
    have := (Slot.new (w.alloc (.cells #[.int .i64 f.src, .int .i64 f.tr, .int .i64 f.par] 55)) v).alloc (.cells #[.int .i64 0, .int .i64 0, .bool false, .string ⟨#[]⟩] 57)
    rw [show (w.alloc (.cells #[.int .i64 f.src, .int .i64 f.tr, .int .i64 f.par] 55)).heap.size = w.heap.size + 1 by simp] at this
    rw [hu]; exact this
  have hs2 : Slot u (w.heap.size + 1 + 1) ⟨0, 0, false, ⟨#[]⟩⟩ := by
    have := Slot.new ((w.alloc (.cells #[.int .i64 f.src, .int .i64 f.tr, .int .i64 f.par] 55)).alloc (.cells #[.int .i64 v.k, .int .i64 v.i, .bool v.b, .string v.s] 57)) ⟨0, 0, false, ⟨#[]⟩⟩
    rw [show ((w.alloc (.cells #[.int .i64 f.src, .int .i64 f.tr, .int .i64 f.par] 55)).alloc (.cells #[.int .i64 v.k, .int .i64 v.i, .bool v.b, .string v.s] 57)).heap.size = w.heap.size + 1 + 1 by simp] at this
    rw [hu]; exact this
  have hb0 : Below w.heap.size w u := by rw [hu]; exact ((((Below.refl _ _).alloc (Nat.le_refl _) _).alloc (by simp) _).alloc (by simp; omega) _)
  have HF := Lib.hid hf
  have HS1 := Lib.hid hs1
  have HS2 := Lib.hid hs2
  have HB := Lib.hid hb0
  clear hf hs1 hs2 hb0
  go_enter Try.func70, Try.ntmps70
  go_upto_region 1 with fail
  rw [← hu]
  clear hu
  obtain ⟨⟨a0, a1, a2, a3⟩, _⟩ := HS1.out.at
  go_upto_region 2 with (go_at_call 94; refine (T1.out _).mono ?_; rintro e w1 ⟨rfl, hb1⟩; replace HF := Lib.hid (HF.out.below hb1); have hs1 := HS1.out.below hb1; obtain ⟨⟨b0, b1, b2, b3⟩, f0, f1, f2, f3⟩ := hs1.at; replace HS1 := Lib.hid hs1; replace HS2 := Lib.hid (HS2.out.below hb1); replace HB := Lib.hid (HB.out.trans (hb1.mono HB.out.size)); clear hb1 hs1 a0 a1 a2 a3)
  clear b0 b1 b2 b3 f0 f1 f2 f3 T1
  obtain ⟨w4, hw4, hS4, hB4⟩ := slot_ret HS1.out HB.out (Nat.le_succ w.heap.size) p
  have hF4 : FdAt w4 w.heap.size 0 f := by
    refine HF.out.block ?_
    rw [hw4]
    rw [Below.heap_setCell _ _ _ _ (by simp), Below.heap_setCell _ _ _ _ (by simp), Below.heap_setCell _ _ _ _ (by simp), Below.heap_setCell _ _ _ _ (by simp)]
  have hS24 : Slot w4 (w.heap.size + 1 + 1) ⟨0, 0, false, ⟨#[]⟩⟩ := by
    rw [hw4]
    exact (((HS2.out.other (by simp)).other (by simp)).other (by simp)).other (by simp)
  rw [← hw4]
  clear hw4 HF HS1 HS2 HB
  have HF := Lib.hid hF4
  have HS1 := Lib.hid hS4
  have HS2 := Lib.hid hS24
  have HB := Lib.hid hB4
  clear hF4 hS4 hS24 hB4
  obtain ⟨⟨a0, a1, a2, a3⟩, _⟩ := HS1.out.at
  subst hR
  go_upto_region 3 with (go_at_call 95; refine (T2.out _).mono ?_; rintro e w2 ⟨rfl, hb2⟩; have hf := HF.out.below hb2; replace HF := Lib.hid hf; obtain ⟨d0, d1, d2⟩ := hf; have hs1 := HS1.out.below hb2; obtain ⟨⟨b0, b1, b2, b3⟩, _⟩ := hs1.at; replace HS1 := Lib.hid hs1; replace HS2 := Lib.hid (HS2.out.below hb2); replace HB := Lib.hid (HB.out.trans (hb2.mono HB.out.size)); clear hb2 hs1 a0 a1 a2 a3 T2)
  obtain ⟨⟨z0, z1, z2, z3⟩, y0, y1, y2, y3⟩ := HS2.out.at
  go_wp2
  change bodyPost _ _ _ _ _ (putV w2 (w.heap.size + 1 + 1) R)
  obtain ⟨w9, hw9, hS9, hB9⟩ := slot_ret HS2.out HB.out (by omega) R
  change w9 = putV w2 (w.heap.size + 1 + 1) R at hw9
  rw [← hw9]
  clear z0 z1 z2 z3
  obtain ⟨⟨z0, z1, z2, z3⟩, _⟩ := hS9.at
  refine bodyPost_ret (v := .agg #[.int .i64 R.k, .int .i64 R.i, .bool R.b, .string R.s]) (by simp [results, Try.results70, go_sem, z0, z1, z2, z3]) rfl ?_
  exact ⟨rfl, hB9⟩
set_option maxRecDepth 100000 in
set_option maxHeartbeats 1000000 in
theorem made_id (f : Fd) (v p R : V) (hR : R = p) (h0 : Hid (f.tr = 0)) (w : World) (T1 : Hid (∀ u, Calls Try.prog 94 #[.agg #[.int .i64 v.k, .int .i64 v.i, .bool v.b, .string v.s]] u fun e w' => e = .returned (.agg #[.int .i64 p.k, .int .i64 p.i, .bool p.b, .string p.s]) ∧ Below u.heap.size u w')) (T2 : Hid (∀ u, Calls Try.prog 95 #[.agg #[.int .i64 p.k, .int .i64 p.i, .bool p.b, .string p.s]] u fun e w' => e = .returned (.bool false) ∧ Below u.heap.size u w')) :
    Calls Try.prog 70 #[.agg #[.int .i64 f.src, .int .i64 f.tr, .int .i64 f.par], .agg #[.int .i64 v.k, .int .i64 v.i, .bool v.b, .string v.s]] w fun e w' => e = .returned (.agg #[.int .i64 R.k, .int .i64 R.i, .bool R.b, .string R.s]) ∧ Below w.heap.size w w' := by
  obtain ⟨u, hu⟩ : ∃ u, u = (((w.alloc (.cells #[.int .i64 f.src, .int .i64 f.tr, .int .i64 f.par] 55)).alloc (.cells #[.int .i64 v.k, .int .i64 v.i, .bool v.b, .string v.s] 57)).alloc (.cells #[.int .i64 0, .int .i64 0, .bool false, .string ⟨#[]⟩] 57)) := ⟨_, rfl⟩
  have hf : FdAt u w.heap.size 0 f := by
    have h1 := FdAt.new w f
    have h2 := h1.below (((Below.refl _ _).alloc (Nat.le_refl _) (.cells #[.int .i64 v.k, .int .i64 v.i, .bool v.b, .string v.s] 57)).alloc (by simp) (.cells #[.int .i64 0, .int .i64 0, .bool false, .string ⟨#[]⟩] 57))
    rw [hu]; exact h2
  have hs1 : Slot u (w.heap.size + 1) v := by
    have := (Slot.new (w.alloc (.cells #[.int .i64 f.src, .int .i64 f.tr, .int .i64 f.par] 55)) v).alloc (.cells #[.int .i64 0, .int .i64 0, .bool false, .string ⟨#[]⟩] 57)
    rw [show (w.alloc (.cells #[.int .i64 f.src, .int .i64 f.tr, .int .i64 f.par] 55)).heap.size = w.heap.size + 1 by simp] at this
    rw [hu]; exact this
  have hs2 : Slot u (w.heap.size + 1 + 1) ⟨0, 0, false, ⟨#[]⟩⟩ := by
    have := Slot.new ((w.alloc (.cells #[.int .i64 f.src, .int .i64 f.tr, .int .i64 f.par] 55)).alloc (.cells #[.int .i64 v.k, .int .i64 v.i, .bool v.b, .string v.s] 57)) ⟨0, 0, false, ⟨#[]⟩⟩
    rw [show ((w.alloc (.cells #[.int .i64 f.src, .int .i64 f.tr, .int .i64 f.par] 55)).alloc (.cells #[.int .i64 v.k, .int .i64 v.i, .bool v.b, .string v.s] 57)).heap.size = w.heap.size + 1 + 1 by simp] at this
    rw [hu]; exact this
  have hb0 : Below w.heap.size w u := by rw [hu]; exact ((((Below.refl _ _).alloc (Nat.le_refl _) _).alloc (by simp) _).alloc (by simp; omega) _)
  have HF := Lib.hid hf
  have HS1 := Lib.hid hs1
  have HS2 := Lib.hid hs2
  have HB := Lib.hid hb0
  clear hf hs1 hs2 hb0
  go_enter Try.func70, Try.ntmps70
  go_upto_region 1 with fail
  rw [← hu]
  clear hu
  obtain ⟨⟨a0, a1, a2, a3⟩, _⟩ := HS1.out.at
  go_upto_region 2 with (go_at_call 94; refine (T1.out _).mono ?_; rintro e w1 ⟨rfl, hb1⟩; replace HF := Lib.hid (HF.out.below hb1); have hs1 := HS1.out.below hb1; obtain ⟨⟨b0, b1, b2, b3⟩, f0, f1, f2, f3⟩ := hs1.at; replace HS1 := Lib.hid hs1; replace HS2 := Lib.hid (HS2.out.below hb1); replace HB := Lib.hid (HB.out.trans (hb1.mono HB.out.size)); clear hb1 hs1 a0 a1 a2 a3)
  clear b0 b1 b2 b3 f0 f1 f2 f3 T1
  obtain ⟨w4, hw4, hS4, hB4⟩ := slot_ret HS1.out HB.out (Nat.le_succ w.heap.size) p
  have hF4 : FdAt w4 w.heap.size 0 f := by
    refine HF.out.block ?_
    rw [hw4]
    rw [Below.heap_setCell _ _ _ _ (by simp), Below.heap_setCell _ _ _ _ (by simp), Below.heap_setCell _ _ _ _ (by simp), Below.heap_setCell _ _ _ _ (by simp)]
  have hS24 : Slot w4 (w.heap.size + 1 + 1) ⟨0, 0, false, ⟨#[]⟩⟩ := by
    rw [hw4]
    exact (((HS2.out.other (by simp)).other (by simp)).other (by simp)).other (by simp)
  rw [← hw4]
  clear hw4 HF HS1 HS2 HB
  have HF := Lib.hid hF4
  have HS1 := Lib.hid hS4
  have HS2 := Lib.hid hS24
  have HB := Lib.hid hB4
  clear hF4 hS4 hS24 hB4
  obtain ⟨⟨a0, a1, a2, a3⟩, _⟩ := HS1.out.at
  subst hR
  go_upto_region 3 with (go_at_call 95; refine (T2.out _).mono ?_; rintro e w2 ⟨rfl, hb2⟩; have hf := HF.out.below hb2; replace HF := Lib.hid hf; obtain ⟨d0, d1, d2⟩ := hf; rw [h0.out] at d1; have hs1 := HS1.out.below hb2; obtain ⟨⟨b0, b1, b2, b3⟩, _⟩ := hs1.at; replace HS1 := Lib.hid hs1; replace HS2 := Lib.hid (HS2.out.below hb2); replace HB := Lib.hid (HB.out.trans (hb2.mono HB.out.size)); clear hb2 hs1 a0 a1 a2 a3 T2)
  obtain ⟨⟨z0, z1, z2, z3⟩, y0, y1, y2, y3⟩ := HS2.out.at
  go_wp2
  change bodyPost _ _ _ _ _ (putV w2 (w.heap.size + 1 + 1) R)
  obtain ⟨w9, hw9, hS9, hB9⟩ := slot_ret HS2.out HB.out (by omega) R
  change w9 = putV w2 (w.heap.size + 1 + 1) R at hw9
  rw [← hw9]
  clear z0 z1 z2 z3
  obtain ⟨⟨z0, z1, z2, z3⟩, _⟩ := hS9.at
  refine bodyPost_ret (v := .agg #[.int .i64 R.k, .int .i64 R.i, .bool R.b, .string R.s]) (by simp [results, Try.results70, go_sem, z0, z1, z2, z3]) rfl ?_
  exact ⟨rfl, hB9⟩
set_option maxRecDepth 100000 in
set_option maxHeartbeats 1000000 in
theorem made_bucket (f : Fd) (v p R : V) (B : ByteArray) (c q : Int) (h0 : Hid (f.tr = 1)) (hq : ¬ f.par = 0) (hc : c.tmod f.par = q) (hR : R = ⟨1, q, false, ByteArray.empty⟩) (T3 : Hid (∀ u, Calls Try.prog 97 #[.agg #[.int .i64 p.k, .int .i64 p.i, .bool p.b, .string p.s]] u fun e w' => e = .returned (.string B) ∧ Below u.heap.size u w')) (T4 : Hid (∀ u, Calls Try.prog 96 #[.string B] u fun e w' => e = .returned (.int .i64 c) ∧ Below u.heap.size u w'))  (w : World) (T1 : Hid (∀ u, Calls Try.prog 94 #[.agg #[.int .i64 v.k, .int .i64 v.i, .bool v.b, .string v.s]] u fun e w' => e = .returned (.agg #[.int .i64 p.k, .int .i64 p.i, .bool p.b, .string p.s]) ∧ Below u.heap.size u w')) (T2 : Hid (∀ u, Calls Try.prog 95 #[.agg #[.int .i64 p.k, .int .i64 p.i, .bool p.b, .string p.s]] u fun e w' => e = .returned (.bool false) ∧ Below u.heap.size u w')) :
    Calls Try.prog 70 #[.agg #[.int .i64 f.src, .int .i64 f.tr, .int .i64 f.par], .agg #[.int .i64 v.k, .int .i64 v.i, .bool v.b, .string v.s]] w fun e w' => e = .returned (.agg #[.int .i64 R.k, .int .i64 R.i, .bool R.b, .string R.s]) ∧ Below w.heap.size w w' := by
  obtain ⟨u, hu⟩ : ∃ u, u = (((w.alloc (.cells #[.int .i64 f.src, .int .i64 f.tr, .int .i64 f.par] 55)).alloc (.cells #[.int .i64 v.k, .int .i64 v.i, .bool v.b, .string v.s] 57)).alloc (.cells #[.int .i64 0, .int .i64 0, .bool false, .string ⟨#[]⟩] 57)) := ⟨_, rfl⟩
  have hf : FdAt u w.heap.size 0 f := by
    have h1 := FdAt.new w f
    have h2 := h1.below (((Below.refl _ _).alloc (Nat.le_refl _) (.cells #[.int .i64 v.k, .int .i64 v.i, .bool v.b, .string v.s] 57)).alloc (by simp) (.cells #[.int .i64 0, .int .i64 0, .bool false, .string ⟨#[]⟩] 57))
    rw [hu]; exact h2
  have hs1 : Slot u (w.heap.size + 1) v := by
    have := (Slot.new (w.alloc (.cells #[.int .i64 f.src, .int .i64 f.tr, .int .i64 f.par] 55)) v).alloc (.cells #[.int .i64 0, .int .i64 0, .bool false, .string ⟨#[]⟩] 57)
    rw [show (w.alloc (.cells #[.int .i64 f.src, .int .i64 f.tr, .int .i64 f.par] 55)).heap.size = w.heap.size + 1 by simp] at this
    rw [hu]; exact this
  have hs2 : Slot u (w.heap.size + 1 + 1) ⟨0, 0, false, ⟨#[]⟩⟩ := by
    have := Slot.new ((w.alloc (.cells #[.int .i64 f.src, .int .i64 f.tr, .int .i64 f.par] 55)).alloc (.cells #[.int .i64 v.k, .int .i64 v.i, .bool v.b, .string v.s] 57)) ⟨0, 0, false, ⟨#[]⟩⟩
    rw [show ((w.alloc (.cells #[.int .i64 f.src, .int .i64 f.tr, .int .i64 f.par] 55)).alloc (.cells #[.int .i64 v.k, .int .i64 v.i, .bool v.b, .string v.s] 57)).heap.size = w.heap.size + 1 + 1 by simp] at this
    rw [hu]; exact this
  have hb0 : Below w.heap.size w u := by rw [hu]; exact ((((Below.refl _ _).alloc (Nat.le_refl _) _).alloc (by simp) _).alloc (by simp; omega) _)
  have HF := Lib.hid hf
  have HS1 := Lib.hid hs1
  have HS2 := Lib.hid hs2
  have HB := Lib.hid hb0
  clear hf hs1 hs2 hb0
  go_enter Try.func70, Try.ntmps70
  go_upto_region 1 with fail
  rw [← hu]
  clear hu
  obtain ⟨⟨a0, a1, a2, a3⟩, _⟩ := HS1.out.at
  go_upto_region 2 with (go_at_call 94; refine (T1.out _).mono ?_; rintro e w1 ⟨rfl, hb1⟩; replace HF := Lib.hid (HF.out.below hb1); have hs1 := HS1.out.below hb1; obtain ⟨⟨b0, b1, b2, b3⟩, f0, f1, f2, f3⟩ := hs1.at; replace HS1 := Lib.hid hs1; replace HS2 := Lib.hid (HS2.out.below hb1); replace HB := Lib.hid (HB.out.trans (hb1.mono HB.out.size)); clear hb1 hs1 a0 a1 a2 a3)
  clear b0 b1 b2 b3 f0 f1 f2 f3 T1
  obtain ⟨w4, hw4, hS4, hB4⟩ := slot_ret HS1.out HB.out (Nat.le_succ w.heap.size) p
  have hF4 : FdAt w4 w.heap.size 0 f := by
    refine HF.out.block ?_
    rw [hw4]
    rw [Below.heap_setCell _ _ _ _ (by simp), Below.heap_setCell _ _ _ _ (by simp), Below.heap_setCell _ _ _ _ (by simp), Below.heap_setCell _ _ _ _ (by simp)]
  have hS24 : Slot w4 (w.heap.size + 1 + 1) ⟨0, 0, false, ⟨#[]⟩⟩ := by
    rw [hw4]
    exact (((HS2.out.other (by simp)).other (by simp)).other (by simp)).other (by simp)
  rw [← hw4]
  clear hw4 HF HS1 HS2 HB
  have HF := Lib.hid hF4
  have HS1 := Lib.hid hS4
  have HS2 := Lib.hid hS24
  have HB := Lib.hid hB4
  clear hF4 hS4 hS24 hB4
  obtain ⟨⟨a0, a1, a2, a3⟩, _⟩ := HS1.out.at
  go_upto_region 4 with (go_at_call 95; refine (T2.out _).mono ?_; rintro e w2 ⟨rfl, hb2⟩; have hf := HF.out.below hb2; replace HF := Lib.hid hf; obtain ⟨d0, d1, d2⟩ := hf; rw [h0.out] at d1; have hs1 := HS1.out.below hb2; obtain ⟨⟨b0, b1, b2, b3⟩, _⟩ := hs1.at; replace HS1 := Lib.hid hs1; replace HS2 := Lib.hid (HS2.out.below hb2); replace HB := Lib.hid (HB.out.trans (hb2.mono HB.out.size)); clear hb2 hs1 a0 a1 a2 a3 T2)
  obtain ⟨⟨z0, z1, z2, z3⟩, y0, y1, y2, y3⟩ := HS2.out.at
  go_upto_region 5 with fail
  clear z0 z1 z2 z3
  refine region_class_tail (fun w' => Below w2.heap.size w2 w') 7 (by kernel_rfl) (by kernel_rfl) (Below.refl _ _).drew ?_
  simp only [List.take_succ_cons, List.take_zero, List.drop_succ_cons, List.drop_zero]
  have HZ2 := Lib.hid HS2
  repeat (
    refine wpQuiet_step (fun K hK => ?_)
    go_simp
    first
    | (refine hK _ ?_; clear hK K)
    | (apply Exists.intro
       refine ⟨fun w1 hw1 => ?_, hK _ ?_⟩
       (first
         | (exact rfl)
         | (go_at_call 97; exact (T3.out _).mono fun e w2 ⟨he, hb⟩ => ⟨he, hw1.trans (hb.mono hw1.size)⟩)
         | (go_at_call 96; exact (T4.out _).mono fun e w2 ⟨he, hb⟩ => ⟨he, hw1.trans (hb.mono hw1.size)⟩)
         | (obtain ⟨⟨z0, z1, z2, z3⟩, _⟩ := (HS1.out.below hw1).at; simp only [z0, z1, z2, z3, Result.andThen]; exact ⟨trivial, rfl⟩)
         | (obtain ⟨z0, z1, z2⟩ := (HF.out.below hw1); simp only [z0, z1, z2, Nat.zero_add, Result.andThen]; exact ⟨trivial, rfl⟩)
         | (exact ⟨trivial, rfl⟩))
       clear hK K))
  refine wpQuiet_nil ?_
  intro w3 hw3
  clear HF HS1 T3 T4 y0 y1 y2 y3
  replace HS2 := Lib.hid (HS2.out.below hw3)
  replace HB := Lib.hid (HB.out.trans (hw3.mono HB.out.size))
  obtain ⟨⟨z0, z1, z2, z3⟩, y0, y1, y2, y3⟩ := HS2.out.at
  subst hR
  clear hw3
  go_wp2
  change bodyPost _ _ _ _ _ (putV w3 (w.heap.size + 1 + 1) ⟨1, q, false, ByteArray.empty⟩)
  obtain ⟨w9, hw9, hS9, hB9⟩ := slot_ret HS2.out HB.out (by omega) ⟨1, q, false, ByteArray.empty⟩
  change w9 = putV w3 (w.heap.size + 1 + 1) ⟨1, q, false, ByteArray.empty⟩ at hw9
  rw [← hw9]
  clear z0 z1 z2 z3
  obtain ⟨⟨z0, z1, z2, z3⟩, _⟩ := hS9.at
  refine bodyPost_ret (v := .agg #[.int .i64 (⟨1, q, false, ByteArray.empty⟩ : V).k, .int .i64 (⟨1, q, false, ByteArray.empty⟩ : V).i, .bool (⟨1, q, false, ByteArray.empty⟩ : V).b, .string (⟨1, q, false, ByteArray.empty⟩ : V).s]) (by simp [results, Try.results70, go_sem, z0, z1, z2, z3]) rfl ?_
  exact ⟨rfl, hB9⟩
set_option maxRecDepth 100000 in
set_option maxHeartbeats 1000000 in
theorem made_text (f : Fd) (v p R : V) (B : ByteArray) (h0 : Hid (f.tr = 2)) (hk : Hid (p.k = 3)) (hR : R = ⟨3, 0, false, B⟩) (T3 : Hid (∀ u, Calls Try.prog 98 #[.string p.s, .int .i64 f.par] u fun e w' => e = .returned (.string B) ∧ u = w'))  (w : World) (T1 : Hid (∀ u, Calls Try.prog 94 #[.agg #[.int .i64 v.k, .int .i64 v.i, .bool v.b, .string v.s]] u fun e w' => e = .returned (.agg #[.int .i64 p.k, .int .i64 p.i, .bool p.b, .string p.s]) ∧ Below u.heap.size u w')) (T2 : Hid (∀ u, Calls Try.prog 95 #[.agg #[.int .i64 p.k, .int .i64 p.i, .bool p.b, .string p.s]] u fun e w' => e = .returned (.bool false) ∧ Below u.heap.size u w')) :
    Calls Try.prog 70 #[.agg #[.int .i64 f.src, .int .i64 f.tr, .int .i64 f.par], .agg #[.int .i64 v.k, .int .i64 v.i, .bool v.b, .string v.s]] w fun e w' => e = .returned (.agg #[.int .i64 R.k, .int .i64 R.i, .bool R.b, .string R.s]) ∧ Below w.heap.size w w' := by
  obtain ⟨u, hu⟩ : ∃ u, u = (((w.alloc (.cells #[.int .i64 f.src, .int .i64 f.tr, .int .i64 f.par] 55)).alloc (.cells #[.int .i64 v.k, .int .i64 v.i, .bool v.b, .string v.s] 57)).alloc (.cells #[.int .i64 0, .int .i64 0, .bool false, .string ⟨#[]⟩] 57)) := ⟨_, rfl⟩
  have hf : FdAt u w.heap.size 0 f := by
    have h1 := FdAt.new w f
    have h2 := h1.below (((Below.refl _ _).alloc (Nat.le_refl _) (.cells #[.int .i64 v.k, .int .i64 v.i, .bool v.b, .string v.s] 57)).alloc (by simp) (.cells #[.int .i64 0, .int .i64 0, .bool false, .string ⟨#[]⟩] 57))
    rw [hu]; exact h2
  have hs1 : Slot u (w.heap.size + 1) v := by
    have := (Slot.new (w.alloc (.cells #[.int .i64 f.src, .int .i64 f.tr, .int .i64 f.par] 55)) v).alloc (.cells #[.int .i64 0, .int .i64 0, .bool false, .string ⟨#[]⟩] 57)
    rw [show (w.alloc (.cells #[.int .i64 f.src, .int .i64 f.tr, .int .i64 f.par] 55)).heap.size = w.heap.size + 1 by simp] at this
    rw [hu]; exact this
  have hs2 : Slot u (w.heap.size + 1 + 1) ⟨0, 0, false, ⟨#[]⟩⟩ := by
    have := Slot.new ((w.alloc (.cells #[.int .i64 f.src, .int .i64 f.tr, .int .i64 f.par] 55)).alloc (.cells #[.int .i64 v.k, .int .i64 v.i, .bool v.b, .string v.s] 57)) ⟨0, 0, false, ⟨#[]⟩⟩
    rw [show ((w.alloc (.cells #[.int .i64 f.src, .int .i64 f.tr, .int .i64 f.par] 55)).alloc (.cells #[.int .i64 v.k, .int .i64 v.i, .bool v.b, .string v.s] 57)).heap.size = w.heap.size + 1 + 1 by simp] at this
    rw [hu]; exact this
  have hb0 : Below w.heap.size w u := by rw [hu]; exact ((((Below.refl _ _).alloc (Nat.le_refl _) _).alloc (by simp) _).alloc (by simp; omega) _)
  have HF := Lib.hid hf
  have HS1 := Lib.hid hs1
  have HS2 := Lib.hid hs2
  have HB := Lib.hid hb0
  clear hf hs1 hs2 hb0
  go_enter Try.func70, Try.ntmps70
  go_upto_region 1 with fail
  rw [← hu]
  clear hu
  obtain ⟨⟨a0, a1, a2, a3⟩, _⟩ := HS1.out.at
  go_upto_region 2 with (go_at_call 94; refine (T1.out _).mono ?_; rintro e w1 ⟨rfl, hb1⟩; replace HF := Lib.hid (HF.out.below hb1); have hs1 := HS1.out.below hb1; obtain ⟨⟨b0, b1, b2, b3⟩, f0, f1, f2, f3⟩ := hs1.at; replace HS1 := Lib.hid hs1; replace HS2 := Lib.hid (HS2.out.below hb1); replace HB := Lib.hid (HB.out.trans (hb1.mono HB.out.size)); clear hb1 hs1 a0 a1 a2 a3)
  clear b0 b1 b2 b3 f0 f1 f2 f3 T1
  obtain ⟨w4, hw4, hS4, hB4⟩ := slot_ret HS1.out HB.out (Nat.le_succ w.heap.size) p
  have hF4 : FdAt w4 w.heap.size 0 f := by
    refine HF.out.block ?_
    rw [hw4]
    rw [Below.heap_setCell _ _ _ _ (by simp), Below.heap_setCell _ _ _ _ (by simp), Below.heap_setCell _ _ _ _ (by simp), Below.heap_setCell _ _ _ _ (by simp)]
  have hS24 : Slot w4 (w.heap.size + 1 + 1) ⟨0, 0, false, ⟨#[]⟩⟩ := by
    rw [hw4]
    exact (((HS2.out.other (by simp)).other (by simp)).other (by simp)).other (by simp)
  rw [← hw4]
  clear hw4 HF HS1 HS2 HB
  have HF := Lib.hid hF4
  have HS1 := Lib.hid hS4
  have HS2 := Lib.hid hS24
  have HB := Lib.hid hB4
  clear hF4 hS4 hS24 hB4
  obtain ⟨⟨a0, a1, a2, a3⟩, _⟩ := HS1.out.at
  go_upto_region 4 with (go_at_call 95; refine (T2.out _).mono ?_; rintro e w2 ⟨rfl, hb2⟩; have hf := HF.out.below hb2; replace HF := Lib.hid hf; obtain ⟨d0, d1, d2⟩ := hf; rw [h0.out] at d1; have hs1 := HS1.out.below hb2; obtain ⟨⟨b0, b1, b2, b3⟩, _⟩ := hs1.at; rw [hk.out] at b0; replace HS1 := Lib.hid hs1; replace HS2 := Lib.hid (HS2.out.below hb2); replace HB := Lib.hid (HB.out.trans (hb2.mono HB.out.size)); clear hb2 hs1 a0 a1 a2 a3 T2)
  obtain ⟨⟨z0, z1, z2, z3⟩, y0, y1, y2, y3⟩ := HS2.out.at
  go_wp2_with (go_at_call 98; refine (T3.out _).mono ?_; rintro e w3 ⟨rfl, rfl⟩; clear HF HS1 T3 y0 y1 y2 y3 z0 z1 z2 z3 b0 b1 b2 b3 d0 d1 d2; obtain ⟨⟨z0, z1, z2, z3⟩, y0, y1, y2, y3⟩ := HS2.out.at)
  subst hR
  change bodyPost _ _ _ _ _ (putV w2 (w.heap.size + 1 + 1) ⟨3, 0, false, B⟩)
  obtain ⟨w9, hw9, hS9, hB9⟩ := slot_ret HS2.out HB.out (by omega) ⟨3, 0, false, B⟩
  change w9 = putV w2 (w.heap.size + 1 + 1) ⟨3, 0, false, B⟩ at hw9
  rw [← hw9]
  clear z0 z1 z2 z3
  obtain ⟨⟨z0, z1, z2, z3⟩, _⟩ := hS9.at
  refine bodyPost_ret (v := .agg #[.int .i64 (⟨3, 0, false, B⟩ : V).k, .int .i64 (⟨3, 0, false, B⟩ : V).i, .bool (⟨3, 0, false, B⟩ : V).b, .string (⟨3, 0, false, B⟩ : V).s]) (by simp [results, Try.results70, go_sem, z0, z1, z2, z3]) rfl ?_
  exact ⟨rfl, hB9⟩
set_option maxRecDepth 100000 in
set_option maxHeartbeats 1000000 in
theorem made_num (f : Fd) (v p R : V) (x : Int) (h0 : Hid (f.tr = 2)) (hk : Hid (p.k = 1)) (hR : R = ⟨1, x, false, ByteArray.empty⟩) (T3 : Hid (∀ u, Calls Try.prog 99 #[.int .i64 p.i, .int .i64 f.par] u fun e w' => e = .returned (.int .i64 x) ∧ u = w'))  (w : World) (T1 : Hid (∀ u, Calls Try.prog 94 #[.agg #[.int .i64 v.k, .int .i64 v.i, .bool v.b, .string v.s]] u fun e w' => e = .returned (.agg #[.int .i64 p.k, .int .i64 p.i, .bool p.b, .string p.s]) ∧ Below u.heap.size u w')) (T2 : Hid (∀ u, Calls Try.prog 95 #[.agg #[.int .i64 p.k, .int .i64 p.i, .bool p.b, .string p.s]] u fun e w' => e = .returned (.bool false) ∧ Below u.heap.size u w')) :
    Calls Try.prog 70 #[.agg #[.int .i64 f.src, .int .i64 f.tr, .int .i64 f.par], .agg #[.int .i64 v.k, .int .i64 v.i, .bool v.b, .string v.s]] w fun e w' => e = .returned (.agg #[.int .i64 R.k, .int .i64 R.i, .bool R.b, .string R.s]) ∧ Below w.heap.size w w' := by
  obtain ⟨u, hu⟩ : ∃ u, u = (((w.alloc (.cells #[.int .i64 f.src, .int .i64 f.tr, .int .i64 f.par] 55)).alloc (.cells #[.int .i64 v.k, .int .i64 v.i, .bool v.b, .string v.s] 57)).alloc (.cells #[.int .i64 0, .int .i64 0, .bool false, .string ⟨#[]⟩] 57)) := ⟨_, rfl⟩
  have hf : FdAt u w.heap.size 0 f := by
    have h1 := FdAt.new w f
    have h2 := h1.below (((Below.refl _ _).alloc (Nat.le_refl _) (.cells #[.int .i64 v.k, .int .i64 v.i, .bool v.b, .string v.s] 57)).alloc (by simp) (.cells #[.int .i64 0, .int .i64 0, .bool false, .string ⟨#[]⟩] 57))
    rw [hu]; exact h2
  have hs1 : Slot u (w.heap.size + 1) v := by
    have := (Slot.new (w.alloc (.cells #[.int .i64 f.src, .int .i64 f.tr, .int .i64 f.par] 55)) v).alloc (.cells #[.int .i64 0, .int .i64 0, .bool false, .string ⟨#[]⟩] 57)
    rw [show (w.alloc (.cells #[.int .i64 f.src, .int .i64 f.tr, .int .i64 f.par] 55)).heap.size = w.heap.size + 1 by simp] at this
    rw [hu]; exact this
  have hs2 : Slot u (w.heap.size + 1 + 1) ⟨0, 0, false, ⟨#[]⟩⟩ := by
    have := Slot.new ((w.alloc (.cells #[.int .i64 f.src, .int .i64 f.tr, .int .i64 f.par] 55)).alloc (.cells #[.int .i64 v.k, .int .i64 v.i, .bool v.b, .string v.s] 57)) ⟨0, 0, false, ⟨#[]⟩⟩
    rw [show ((w.alloc (.cells #[.int .i64 f.src, .int .i64 f.tr, .int .i64 f.par] 55)).alloc (.cells #[.int .i64 v.k, .int .i64 v.i, .bool v.b, .string v.s] 57)).heap.size = w.heap.size + 1 + 1 by simp] at this
    rw [hu]; exact this
  have hb0 : Below w.heap.size w u := by rw [hu]; exact ((((Below.refl _ _).alloc (Nat.le_refl _) _).alloc (by simp) _).alloc (by simp; omega) _)
  have HF := Lib.hid hf
  have HS1 := Lib.hid hs1
  have HS2 := Lib.hid hs2
  have HB := Lib.hid hb0
  clear hf hs1 hs2 hb0
  go_enter Try.func70, Try.ntmps70
  go_upto_region 1 with fail
  rw [← hu]
  clear hu
  obtain ⟨⟨a0, a1, a2, a3⟩, _⟩ := HS1.out.at
  go_upto_region 2 with (go_at_call 94; refine (T1.out _).mono ?_; rintro e w1 ⟨rfl, hb1⟩; replace HF := Lib.hid (HF.out.below hb1); have hs1 := HS1.out.below hb1; obtain ⟨⟨b0, b1, b2, b3⟩, f0, f1, f2, f3⟩ := hs1.at; replace HS1 := Lib.hid hs1; replace HS2 := Lib.hid (HS2.out.below hb1); replace HB := Lib.hid (HB.out.trans (hb1.mono HB.out.size)); clear hb1 hs1 a0 a1 a2 a3)
  clear b0 b1 b2 b3 f0 f1 f2 f3 T1
  obtain ⟨w4, hw4, hS4, hB4⟩ := slot_ret HS1.out HB.out (Nat.le_succ w.heap.size) p
  have hF4 : FdAt w4 w.heap.size 0 f := by
    refine HF.out.block ?_
    rw [hw4]
    rw [Below.heap_setCell _ _ _ _ (by simp), Below.heap_setCell _ _ _ _ (by simp), Below.heap_setCell _ _ _ _ (by simp), Below.heap_setCell _ _ _ _ (by simp)]
  have hS24 : Slot w4 (w.heap.size + 1 + 1) ⟨0, 0, false, ⟨#[]⟩⟩ := by
    rw [hw4]
    exact (((HS2.out.other (by simp)).other (by simp)).other (by simp)).other (by simp)
  rw [← hw4]
  clear hw4 HF HS1 HS2 HB
  have HF := Lib.hid hF4
  have HS1 := Lib.hid hS4
  have HS2 := Lib.hid hS24
  have HB := Lib.hid hB4
  clear hF4 hS4 hS24 hB4
  obtain ⟨⟨a0, a1, a2, a3⟩, _⟩ := HS1.out.at
  go_upto_region 4 with (go_at_call 95; refine (T2.out _).mono ?_; rintro e w2 ⟨rfl, hb2⟩; have hf := HF.out.below hb2; replace HF := Lib.hid hf; obtain ⟨d0, d1, d2⟩ := hf; rw [h0.out] at d1; have hs1 := HS1.out.below hb2; obtain ⟨⟨b0, b1, b2, b3⟩, _⟩ := hs1.at; rw [hk.out] at b0; replace HS1 := Lib.hid hs1; replace HS2 := Lib.hid (HS2.out.below hb2); replace HB := Lib.hid (HB.out.trans (hb2.mono HB.out.size)); clear hb2 hs1 a0 a1 a2 a3 T2)
  obtain ⟨⟨z0, z1, z2, z3⟩, y0, y1, y2, y3⟩ := HS2.out.at
  go_wp2_with (go_at_call 99; refine (T3.out _).mono ?_; rintro e w3 ⟨rfl, rfl⟩; clear HF HS1 T3 y0 y1 y2 y3 z0 z1 z2 z3 b0 b1 b2 b3 d0 d1 d2; obtain ⟨⟨z0, z1, z2, z3⟩, y0, y1, y2, y3⟩ := HS2.out.at)
  subst hR
  change bodyPost _ _ _ _ _ (putV w2 (w.heap.size + 1 + 1) ⟨1, x, false, ByteArray.empty⟩)
  obtain ⟨w9, hw9, hS9, hB9⟩ := slot_ret HS2.out HB.out (by omega) ⟨1, x, false, ByteArray.empty⟩
  change w9 = putV w2 (w.heap.size + 1 + 1) ⟨1, x, false, ByteArray.empty⟩ at hw9
  rw [← hw9]
  clear z0 z1 z2 z3
  obtain ⟨⟨z0, z1, z2, z3⟩, _⟩ := hS9.at
  refine bodyPost_ret (v := .agg #[.int .i64 (⟨1, x, false, ByteArray.empty⟩ : V).k, .int .i64 (⟨1, x, false, ByteArray.empty⟩ : V).i, .bool (⟨1, x, false, ByteArray.empty⟩ : V).b, .string (⟨1, x, false, ByteArray.empty⟩ : V).s]) (by simp [results, Try.results70, go_sem, z0, z1, z2, z3]) rfl ?_
  exact ⟨rfl, hB9⟩
theorem made_any (f : Fd) (v : V) (ht : takesB f v.k = true) (hi : -9223372036854775808 ≤ v.i ∧ v.i < 9223372036854775808) (hs : v.s.size ≤ 140737488355328) (w : World) :
    Calls Try.prog 70 #[.agg #[.int .i64 f.src, .int .i64 f.tr, .int .i64 f.par], .agg #[.int .i64 v.k, .int .i64 v.i, .bool v.b, .string v.s]] w fun e w' => e = .returned (.agg #[.int .i64 (madeV f v).k, .int .i64 (madeV f v).i, .bool (madeV f v).b, .string (madeV f v).s]) ∧ Below w.heap.size w w' := by
  have T1 := Lib.hid (fun u => plain_any v u)
  have T2 := Lib.hid (fun u => isnull_any (plainV v) u)
  rw [plainV_twice] at T2
  by_cases h0 : plainV v = zeroV
  · rw [decide_eq_true h0] at T2
    exact made_null f v (plainV v) _ (by unfold madeV madeP; rw [if_pos (.inl (by rw [h0]; rfl))]) w T1 T2
  rw [decide_eq_false h0] at T2
  have hp := plain_pln v h0
  have hr := plain_range v hi
  have hsz : (plainV v).s.size ≤ 140737488355328 := Nat.le_trans (plainV_size v) hs
  have hk : ¬ (plainV v).k = 0 := by rcases hp with ⟨h, _⟩ | ⟨h, _⟩ | ⟨h, _⟩ <;> rw [h] <;> decide
  by_cases t0 : f.tr = 0
  · exact made_id f v (plainV v) _ (by unfold madeV madeP; rw [if_pos (.inr t0)]) t0 w T1 T2
  unfold takesB at ht
  rw [if_neg t0] at ht
  by_cases t1 : f.tr = 1
  · rw [if_pos t1] at ht
    have hpar := of_decide_eq_true ht
    have hb := bytesV_size (plainV v)
    refine made_bucket f v (plainV v) (madeV f v) (bytesV (plainV v)) (crcN (bytesV (plainV v)).data.toList : Nat) _ t1 (by omega) rfl ?_ (Lib.hid (fun u => bytesof_any (plainV v) hp hr u)) (Lib.hid (fun u => cof_any _ (by omega) u)) w T1 T2
    unfold madeV madeP
    rw [if_neg (by rintro (h | h); exact hk h; exact t0 h), if_pos t1, Int.tmod_eq_emod_of_nonneg (by omega)]
  rw [if_neg t1] at ht
  by_cases t2 : f.tr = 2
  · rw [if_pos t2, Bool.and_eq_true] at ht
    have hpar := of_decide_eq_true ht.1
    have hk2 : ¬ v.k = 2 := of_decide_eq_true ht.2
    by_cases k3 : (plainV v).k = 3
    · have hn : f.par = (f.par.toNat : Int) := by omega
      refine made_text f v (plainV v) (madeV f v) (cutT (plainV v).s f.par.toNat) t2 k3 ?_ (Lib.hid (fun u => ?_)) w T1 T2
      · unfold madeV madeP
        rw [if_neg (by rintro (h | h); exact hk h; exact t0 h), if_neg t1, if_pos k3]
      · have := cut_any (plainV v).s f.par.toNat hsz (by omega) u
        rwa [← hn] at this
    · have k1 : (plainV v).k = 1 := by
        rcases hp with ⟨h, _⟩ | ⟨h, _⟩ | ⟨h, _⟩
        · exact h
        · exact absurd (kind_two.1 ((plainV_kind v).symm.trans h)) hk2
        · exact absurd h k3
      refine made_num f v (plainV v) (madeV f v) (floorA (plainV v).i f.par) t2 k1 ?_ (Lib.hid (fun u => floor_any _ _ hr hpar u)) w T1 T2
      unfold madeV madeP
      rw [if_neg (by rintro (h | h); exact hk h; exact t0 h), if_neg t1, if_neg k3]
  · rw [if_neg t2] at ht; cases ht
end Go.Proofs.Ythfakpekdjmpjaa

namespace Go.Proofs.Ythfakpekdjmpjaa
open Go.Conc Go.RowKit
set_option linter.unusedVariables false
set_option linter.unusedSimpArgs false

set_option maxRecDepth 100000 in
set_option maxHeartbeats 1000000 in
theorem apply_any (f : Fd) (v : V) (hi : -9223372036854775808 ≤ v.i ∧ v.i < 9223372036854775808) (hs : v.s.size ≤ 140737488355328) (w : World) :
    Calls Try.prog 30 #[.agg #[.int .i64 f.src, .int .i64 f.tr, .int .i64 f.par], .agg #[.int .i64 v.k, .int .i64 v.i, .bool v.b, .string v.s]] w fun e w' => e = .returned (.tuple #[.agg #[.int .i64 (applyA f v).1.k, .int .i64 (applyA f v).1.i, .bool (applyA f v).1.b, .string (applyA f v).1.s], .int .i64 (applyA f v).2]) ∧ Below w.heap.size w w' := by
  obtain ⟨u, hu⟩ : ∃ u, u = (((w.alloc (.cells #[.int .i64 f.src, .int .i64 f.tr, .int .i64 f.par] 55)).alloc (.cells #[.int .i64 v.k, .int .i64 v.i, .bool v.b, .string v.s] 57)).alloc (.cells #[.int .i64 0, .int .i64 0, .bool false, .string ⟨#[]⟩] 57)) := ⟨_, rfl⟩
  have hf : FdAt u w.heap.size 0 f := by
    have h1 := FdAt.new w f
    have h2 := h1.below (((Below.refl _ _).alloc (Nat.le_refl _) (.cells #[.int .i64 v.k, .int .i64 v.i, .bool v.b, .string v.s] 57)).alloc (by simp) (.cells #[.int .i64 0, .int .i64 0, .bool false, .string ⟨#[]⟩] 57))
    rw [hu]; exact h2
  have hs1 : Slot u (w.heap.size + 1) v := by
    have := (Slot.new (w.alloc (.cells #[.int .i64 f.src, .int .i64 f.tr, .int .i64 f.par] 55)) v).alloc (.cells #[.int .i64 0, .int .i64 0, .bool false, .string ⟨#[]⟩] 57)
    rw [show (w.alloc (.cells #[.int .i64 f.src, .int .i64 f.tr, .int .i64 f.par] 55)).heap.size = w.heap.size + 1 by simp] at this
    rw [hu]; exact this
  have hs2 : Slot u (w.heap.size + 1 + 1) ⟨0, 0, false, ⟨#[]⟩⟩ := by
    have := Slot.new ((w.alloc (.cells #[.int .i64 f.src, .int .i64 f.tr, .int .i64 f.par] 55)).alloc (.cells #[.int .i64 v.k, .int .i64 v.i, .bool v.b, .string v.s] 57)) ⟨0, 0, false, ⟨#[]⟩⟩
    rw [show ((w.alloc (.cells #[.int .i64 f.src, .int .i64 f.tr, .int .i64 f.par] 55)).alloc (.cells #[.int .i64 v.k, .int .i64 v.i, .bool v.b, .string v.s] 57)).heap.size = w.heap.size + 1 + 1 by simp] at this
    rw [hu]; exact this
  have hb0 : Below w.heap.size w u := by rw [hu]; exact ((((Below.refl _ _).alloc (Nat.le_refl _) _).alloc (by simp) _).alloc (by simp; omega) _)
  have HF := Lib.hid hf
  have HS1 := Lib.hid hs1
  have HS2 := Lib.hid hs2
  have HB := Lib.hid hb0
  clear hf hs1 hs2 hb0
  have T1 := Lib.hid (fun u => takes_any f v.k u)
  have HA : Hid (applyA f v = if takesB f v.k = false then (zeroVal, 1300) else (madeV f v, 0)) := rfl
  by_cases ht : takesB f v.k = true
  · have T2 := Lib.hid (fun u => made_any f v ht hi hs u)
    have T3 := Lib.hid (fun u => vcopy_any (madeV f v) (Nat.le_trans (madeV_size f v) (by omega)) u)
    rw [madeV_plain] at T3
    rw [HA.out, if_neg (by rw [ht]; exact fun h => by cases h)]
    rw [ht] at T1
    clear HA ht hi hs
    generalize madeV f v = R at *
    go_enter Try.func30, Try.ntmps30
    go_upto_region 1 with fail
    rw [← hu]
    clear hu
    obtain ⟨d0, d1, d2⟩ := HF.out
    obtain ⟨⟨b0, b1, b2, b3⟩, _⟩ := HS1.out.at
    go_upto_region 3 with (go_at_call 68; refine (T1.out _).mono ?_; rintro e w1 ⟨rfl, hb1⟩; replace HF := Lib.hid (HF.out.below hb1); replace HS1 := Lib.hid (HS1.out.below hb1); replace HS2 := Lib.hid (HS2.out.below hb1); replace HB := Lib.hid (HB.out.trans (hb1.mono HB.out.size)); clear hb1 T1 d0 d1 d2 b0 b1 b2 b3)
    obtain ⟨d0, d1, d2⟩ := HF.out
    obtain ⟨⟨b0, b1, b2, b3⟩, _⟩ := HS1.out.at
    go_wp2_with (first
      | (go_at_call 70; refine (T2.out _).mono ?_; rintro e w2 ⟨rfl, hb2⟩; replace HS2 := Lib.hid (HS2.out.below hb2); replace HB := Lib.hid (HB.out.trans (hb2.mono HB.out.size)); clear hb2 T2 d0 d1 d2 b0 b1 b2 b3)
      | (go_at_call 69; refine (T3.out _).mono ?_; rintro e w3 ⟨rfl, hb3⟩; replace HS2 := Lib.hid (HS2.out.below hb3); replace HB := Lib.hid (HB.out.trans (hb3.mono HB.out.size)); clear hb3 T3; obtain ⟨⟨z0, z1, z2, z3⟩, y0, y1, y2, y3⟩ := HS2.out.at))
    change bodyPost _ _ _ _ _ (putV w3 (w.heap.size + 1 + 1) R)
    obtain ⟨w9, hw9, hS9, hB9⟩ := slot_ret HS2.out HB.out (by omega) R
    change w9 = putV w3 (w.heap.size + 1 + 1) R at hw9
    rw [← hw9]
    clear z0 z1 z2 z3
    obtain ⟨⟨z0, z1, z2, z3⟩, _⟩ := hS9.at
    refine bodyPost_ret (v := .tuple #[.agg #[.int .i64 R.k, .int .i64 R.i, .bool R.b, .string R.s], .int .i64 0]) (by simp [results, Try.results30, go_sem, z0, z1, z2, z3]) rfl ?_
    exact ⟨rfl, hB9⟩
  · have ht : takesB f v.k = false := by simpa using ht
    rw [HA.out, if_pos ht]
    rw [ht] at T1
    clear HA ht hi hs
    go_enter Try.func30, Try.ntmps30
    go_upto_region 1 with fail
    rw [← hu]
    clear hu
    obtain ⟨d0, d1, d2⟩ := HF.out
    obtain ⟨⟨b0, b1, b2, b3⟩, _⟩ := HS1.out.at
    go_wp2_with (go_at_call 68; refine (T1.out _).mono ?_; rintro e w1 ⟨rfl, hb1⟩; replace HS2 := Lib.hid (HS2.out.below hb1); replace HB := Lib.hid (HB.out.trans (hb1.mono HB.out.size)); clear hb1 T1 d0 d1 d2 b0 b1 b2 b3 HF HS1; obtain ⟨⟨z0, z1, z2, z3⟩, y0, y1, y2, y3⟩ := HS2.out.at)
    change bodyPost _ _ _ _ _ (putV w1 (w.heap.size + 1 + 1) zeroVal)
    obtain ⟨w9, hw9, hS9, hB9⟩ := slot_ret HS2.out HB.out (by omega) zeroVal
    change w9 = putV w1 (w.heap.size + 1 + 1) zeroVal at hw9
    rw [← hw9]
    clear z0 z1 z2 z3
    obtain ⟨⟨z0, z1, z2, z3⟩, _⟩ := hS9.at
    refine bodyPost_ret (v := .tuple #[.agg #[.int .i64 zeroVal.k, .int .i64 zeroVal.i, .bool zeroVal.b, .string zeroVal.s], .int .i64 1300]) (by simp [results, Try.results30, go_sem, z0, z1, z2, z3]) rfl ?_
    exact ⟨rfl, hB9⟩
end Go.Proofs.Ythfakpekdjmpjaa
