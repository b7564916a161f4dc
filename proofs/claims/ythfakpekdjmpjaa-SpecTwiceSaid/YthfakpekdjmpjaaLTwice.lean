/- A value cut twice, and its bucket: the walk. -/
import Derived.Test.YthfakpekdjmpjaaSpcW
import Derived.Test.YthfakpekdjmpjaaVOrd
namespace Go.Proofs.Ythfakpekdjmpjaa
open Go.Conc Go.RowKit
set_option linter.unusedVariables false
set_option linter.unusedSimpArgs false

theorem cmpL_take (l : List UInt8) : ∀ n, ¬ cmpL l (l.take n) < 0 := by
  induction l with
  | nil => intro n; simp [cmpL, Lib.compareBytes]
  | cons x l ih =>
    intro n
    cases n with
    | zero => simp [cmpL, Lib.compareBytes]
    | succ n =>
      rw [List.take_succ_cons, cmpL_cons, if_neg (by simp), if_neg (by simp)]
      exact ih n
theorem twice_k (par : Int) : wrap64 (1 + wrap64 ((IntKind.u64.wrap par).tmod 1024)) = 1 + par % 1024 := by
  have e : IntKind.u64.wrap par = par % 18446744073709551616 := by rw [IntKind.wrap_u64]
  have e2 : (par % 18446744073709551616).tmod 1024 = par % 1024 := by
    rw [Int.tmod_eq_emod_of_nonneg (by omega)]; omega
  rw [e, e2]
  unfold wrap64
  omega
set_option maxRecDepth 100000 in
set_option maxHeartbeats 4000000 in
theorem spectwice_null (v : V) (par : Int) (hp : -9223372036854775808 ≤ par ∧ par < 9223372036854775808) {W : World} (K : Int) (hK : K = 1 + par % 1024) 
    (T0 : Hid (∀ w, Calls Try.prog 46 #[.agg #[.int .i64 v.k, .int .i64 v.i, .bool v.b, .string v.s]] w fun e w' => e = .returned (.agg #[.int .i64 0, .int .i64 0, .bool false, .string ⟨#[]⟩]) ∧ Below w.heap.size w w'))
    (T1 : Hid (∀ w, Calls Try.prog 30 #[.agg #[.int .i64 0, .int .i64 1, .int .i64 K], .agg #[.int .i64 0, .int .i64 0, .bool false, .string ⟨#[]⟩]] w fun e w' => e = .returned (.tuple #[.agg #[.int .i64 0, .int .i64 0, .bool false, .string ⟨#[]⟩], .int .i64 0]) ∧ Below w.heap.size w w'))
    (T2 : Hid (∀ w, Calls Try.prog 30 #[.agg #[.int .i64 0, .int .i64 2, .int .i64 K], .agg #[.int .i64 0, .int .i64 0, .bool false, .string ⟨#[]⟩]] w fun e w' => e = .returned (.tuple #[.agg #[.int .i64 0, .int .i64 0, .bool false, .string ⟨#[]⟩], .int .i64 0]) ∧ Below w.heap.size w w'))
    (T3 : Hid (∀ w, Calls Try.prog 30 #[.agg #[.int .i64 0, .int .i64 2, .int .i64 K], .agg #[.int .i64 0, .int .i64 0, .bool false, .string ⟨#[]⟩]] w fun e w' => e = .returned (.tuple #[.agg #[.int .i64 0, .int .i64 0, .bool false, .string ⟨#[]⟩], .int .i64 0]) ∧ Below w.heap.size w w'))
    (O : Int) (hO : O ≤ 0) (T4 : Hid (∀ w, Calls Try.prog 47 #[.agg #[.int .i64 0, .int .i64 0, .bool false, .string ⟨#[]⟩], .agg #[.int .i64 0, .int .i64 0, .bool false, .string ⟨#[]⟩]] w fun e w' => e = .returned (.int .i64 O) ∧ Below w.heap.size w w'))
    : Calls Try.prog 9 #[.agg #[.int .i64 v.k, .int .i64 v.i, .bool v.b, .string v.s], .int .i64 par] W fun e w' => e = .returned (.bool true) ∧ Below W.heap.size W w' := by
  have hK1 : 1 ≤ K := by omega
  have hK2 : K ≤ 1024 := by omega
  have TA := Lib.hid (fun w => specawake_any w)
  obtain ⟨u0, hu0⟩ : ∃ u, u = W.alloc (.cells #[.int .i64 v.k, .int .i64 v.i, .bool v.b, .string v.s] 57) := ⟨_, rfl⟩
  have HV0 := Lib.hid (show Slot u0 W.heap.size v by rw [hu0]; exact Slot.new W v)
  have HB := Lib.hid (show Below W.heap.size W u0 by rw [hu0]; exact (Below.refl _ _).alloc (Nat.le_refl _) _)
  have hw : W.alloc (.cells #[.int .i64 v.k, .int .i64 v.i, .bool v.b, .string v.s] 57) = u0 := hu0.symm
  clear hu0
  have HK := Lib.hid hK
  clear hK
  go_enter Try.func9, Try.ntmps9
  go_upto_region 1 with fail
  clear hw
  go_upto_region 3 with (go_at_call 32; refine (TA.out _).mono ?_; rintro e w1 ⟨rfl, hb⟩; replace HV0 := Lib.hid (HV0.out.below hb); replace HB := Lib.hid (HB.out.trans (hb.mono HB.out.size)); clear hb)
  go_upto_region 4 with fail
  have hk : wrap64 (1 + wrap64 ((IntKind.u64.wrap par).tmod 1024)) = K := by rw [HK.out]; exact twice_k par
  rw [hk]
  clear hk hp TA
  obtain ⟨⟨q0, q1, q2, q3⟩, _⟩ := HV0.out.at
  go_upto_region 5 with (go_at_call 46; refine (T0.out _).mono ?_; rintro e w2 ⟨rfl, hb⟩; replace HB := Lib.hid (HB.out.trans (hb.mono HB.out.size)); clear hb q0 q1 q2 q3 HV0)
  change Code.wp _ _ _ _ (w2.alloc (.cells #[.int .i64 0, .int .i64 0, .bool false, .string ⟨#[]⟩] 57))
  have HV2 := Lib.hid (show Slot (w2.alloc (.cells #[.int .i64 0, .int .i64 0, .bool false, .string ⟨#[]⟩] 57)) w2.heap.size ⟨0, 0, false, ByteArray.empty⟩ from Slot.new w2 ⟨0, 0, false, ByteArray.empty⟩)
  have hb : Below w2.heap.size w2 (w2.alloc (.cells #[.int .i64 0, .int .i64 0, .bool false, .string ⟨#[]⟩] 57)) := (Below.refl _ _).alloc (Nat.le_refl _) _
  replace HB := Lib.hid (HB.out.trans (hb.mono HB.out.size))
  clear hb
  generalize (w2.alloc (.cells #[.int .i64 0, .int .i64 0, .bool false, .string ⟨#[]⟩] 57)) = v2 at *
  generalize w2.heap.size = g2 at *
  obtain ⟨⟨q0, q1, q2, q3⟩, _⟩ := HV2.out.at
  simp only at q0 q1 q2 q3
  go_upto_region 6 with (go_at_call 30; refine (T1.out _).mono ?_; rintro e w3 ⟨rfl, hb⟩; replace HV2 := Lib.hid (HV2.out.below hb); replace HB := Lib.hid (HB.out.trans (hb.mono HB.out.size)); clear hb q0 q1 q2 q3)
  change Code.wp _ _ _ _ (w3.alloc (.cells #[.int .i64 0, .int .i64 0, .bool false, .string ⟨#[]⟩] 57))
  have HV3 := Lib.hid (show Slot (w3.alloc (.cells #[.int .i64 0, .int .i64 0, .bool false, .string ⟨#[]⟩] 57)) w3.heap.size ⟨0, 0, false, ByteArray.empty⟩ from Slot.new w3 ⟨0, 0, false, ByteArray.empty⟩)
  have hb : Below w3.heap.size w3 (w3.alloc (.cells #[.int .i64 0, .int .i64 0, .bool false, .string ⟨#[]⟩] 57)) := (Below.refl _ _).alloc (Nat.le_refl _) _
  replace HB := Lib.hid (HB.out.trans (hb.mono HB.out.size))
  replace HV2 := Lib.hid (HV2.out.below hb)
  clear hb
  generalize (w3.alloc (.cells #[.int .i64 0, .int .i64 0, .bool false, .string ⟨#[]⟩] 57)) = v3 at *
  generalize w3.heap.size = g3 at *
  obtain ⟨⟨q0, q1, q2, q3⟩, _⟩ := HV2.out.at
  obtain ⟨⟨r0, r1, r2, r3⟩, _⟩ := HV3.out.at
  simp only at q0 q1 q2 q3 r0 r1 r2 r3
  go_upto_region 8 with (go_at_call 19; refine (num_any _ _).mono ?_; rintro e wn ⟨rfl, rfl⟩)
  clear r0 r1 r2 r3 HV3
  go_upto_region 9 with fail
  obtain ⟨v4, hv4⟩ : ∃ x, x = v3.alloc (.cells #[.int .i64 0, .int .i64 2, .int .i64 K] 55) := ⟨_, rfl⟩
  change Code.wp _ _ _ _ (v3.alloc (.cells #[.int .i64 0, .int .i64 2, .int .i64 K] 55))
  have HF := Lib.hid (show FdAt v4 v3.heap.size 0 ⟨0, 2, K⟩ by rw [hv4]; exact FdAt.new v3 ⟨0, 2, K⟩)
  have hb : Below v3.heap.size v3 v4 := by rw [hv4]; exact (Below.refl _ _).alloc (Nat.le_refl _) _
  replace HB := Lib.hid (HB.out.trans (hb.mono HB.out.size))
  replace HV2 := Lib.hid (HV2.out.below hb)
  rw [← hv4]
  clear hv4 hb q0 q1 q2 q3
  generalize v3.heap.size = gf at *
  obtain ⟨⟨q0, q1, q2, q3⟩, _⟩ := HV2.out.at
  obtain ⟨p0, p1, p2⟩ := HF.out
  simp only [Nat.zero_add] at q0 q1 q2 q3 p0 p1 p2
  go_upto_region 10 with (go_at_call 30; refine (T2.out _).mono ?_; rintro e w5 ⟨rfl, hb⟩; replace HV2 := Lib.hid (HV2.out.below hb); replace HF := Lib.hid (HF.out.below hb); replace HB := Lib.hid (HB.out.trans (hb.mono HB.out.size)); clear hb q0 q1 q2 q3 p0 p1 p2)
  change Code.wp _ _ _ _ (w5.alloc (.cells #[.int .i64 0, .int .i64 0, .bool false, .string ⟨#[]⟩] 57))
  have HV5 := Lib.hid (show Slot (w5.alloc (.cells #[.int .i64 0, .int .i64 0, .bool false, .string ⟨#[]⟩] 57)) w5.heap.size ⟨0, 0, false, ByteArray.empty⟩ from Slot.new w5 ⟨0, 0, false, ByteArray.empty⟩)
  have hb : Below w5.heap.size w5 (w5.alloc (.cells #[.int .i64 0, .int .i64 0, .bool false, .string ⟨#[]⟩] 57)) := (Below.refl _ _).alloc (Nat.le_refl _) _
  replace HB := Lib.hid (HB.out.trans (hb.mono HB.out.size))
  replace HV2 := Lib.hid (HV2.out.below hb)
  replace HF := Lib.hid (HF.out.below hb)
  clear hb
  generalize (w5.alloc (.cells #[.int .i64 0, .int .i64 0, .bool false, .string ⟨#[]⟩] 57)) = v5 at *
  generalize w5.heap.size = g5 at *
  obtain ⟨⟨q0, q1, q2, q3⟩, _⟩ := HV2.out.at
  obtain ⟨⟨r0, r1, r2, r3⟩, _⟩ := HV5.out.at
  obtain ⟨p0, p1, p2⟩ := HF.out
  simp only [Nat.zero_add] at q0 q1 q2 q3 r0 r1 r2 r3 p0 p1 p2
  go_upto_region 12 with (go_at_call 19; refine (num_any _ _).mono ?_; rintro e wn ⟨rfl, rfl⟩)
  go_upto_region 13 with (go_at_call 30; refine (T3.out _).mono ?_; rintro e w6 ⟨rfl, hb⟩; replace HV2 := Lib.hid (HV2.out.below hb); replace HV5 := Lib.hid (HV5.out.below hb); replace HB := Lib.hid (HB.out.trans (hb.mono HB.out.size)); clear hb q0 q1 q2 q3 p0 p1 p2 r0 r1 r2 r3 HF)
  change Code.wp _ _ _ _ (w6.alloc (.cells #[.int .i64 0, .int .i64 0, .bool false, .string ⟨#[]⟩] 57))
  have HV6 := Lib.hid (show Slot (w6.alloc (.cells #[.int .i64 0, .int .i64 0, .bool false, .string ⟨#[]⟩] 57)) w6.heap.size ⟨0, 0, false, ByteArray.empty⟩ from Slot.new w6 ⟨0, 0, false, ByteArray.empty⟩)
  have hb : Below w6.heap.size w6 (w6.alloc (.cells #[.int .i64 0, .int .i64 0, .bool false, .string ⟨#[]⟩] 57)) := (Below.refl _ _).alloc (Nat.le_refl _) _
  replace HB := Lib.hid (HB.out.trans (hb.mono HB.out.size))
  replace HV2 := Lib.hid (HV2.out.below hb)
  replace HV5 := Lib.hid (HV5.out.below hb)
  clear hb
  generalize (w6.alloc (.cells #[.int .i64 0, .int .i64 0, .bool false, .string ⟨#[]⟩] 57)) = v6 at *
  generalize w6.heap.size = g6 at *
  obtain ⟨⟨q0, q1, q2, q3⟩, _⟩ := HV2.out.at
  obtain ⟨⟨r0, r1, r2, r3⟩, _⟩ := HV5.out.at
  obtain ⟨⟨p0, p1, p2, p3⟩, _⟩ := HV6.out.at
  simp only at q0 q1 q2 q3 r0 r1 r2 r3 p0 p1 p2 p3
  have heq := run_eql_val ⟨0, 0, false, ByteArray.empty⟩ ⟨0, 0, false, ByteArray.empty⟩
  rw [decide_eq_true (rfl : (⟨0, 0, false, ByteArray.empty⟩ : V) = _)] at heq
  simp only at heq
  have hO2 : decide (O ≤ 0) = true := decide_eq_true hO
  go_upto_region 14 with fail
  go_wp2_with (first
    | (go_at_call 19; refine (num_any _ _).mono ?_; rintro e wn ⟨rfl, rfl⟩)
    | (go_at_call 47; refine (T4.out _).mono ?_; rintro e w7 ⟨rfl, hb⟩; replace HB := Lib.hid (HB.out.trans (hb.mono HB.out.size)); clear hb))
  go_ret
  exact ⟨rfl, HB.out⟩
set_option maxRecDepth 100000 in
set_option maxHeartbeats 4000000 in
theorem spectwice_truth (v : V) (par : Int) (hp : -9223372036854775808 ≤ par ∧ par < 9223372036854775808) {W : World} (K : Int) (hK : K = 1 + par % 1024) (tb : Bool) (c : Int) (hc0 : 0 ≤ c) (hc1 : c < K)
    (T0 : Hid (∀ w, Calls Try.prog 46 #[.agg #[.int .i64 v.k, .int .i64 v.i, .bool v.b, .string v.s]] w fun e w' => e = .returned (.agg #[.int .i64 2, .int .i64 0, .bool tb, .string ⟨#[]⟩]) ∧ Below w.heap.size w w'))
    (T1 : Hid (∀ w, Calls Try.prog 30 #[.agg #[.int .i64 0, .int .i64 1, .int .i64 K], .agg #[.int .i64 2, .int .i64 0, .bool tb, .string ⟨#[]⟩]] w fun e w' => e = .returned (.tuple #[.agg #[.int .i64 1, .int .i64 c, .bool false, .string ⟨#[]⟩], .int .i64 0]) ∧ Below w.heap.size w w'))
    (T2 : Hid (∀ w, Calls Try.prog 30 #[.agg #[.int .i64 0, .int .i64 2, .int .i64 K], .agg #[.int .i64 2, .int .i64 0, .bool tb, .string ⟨#[]⟩]] w fun e w' => e = .returned (.tuple #[.agg #[.int .i64 0, .int .i64 0, .bool false, .string ⟨#[]⟩], .int .i64 1300]) ∧ Below w.heap.size w w'))
    : Calls Try.prog 9 #[.agg #[.int .i64 v.k, .int .i64 v.i, .bool v.b, .string v.s], .int .i64 par] W fun e w' => e = .returned (.bool true) ∧ Below W.heap.size W w' := by
  have hK1 : 1 ≤ K := by omega
  have hK2 : K ≤ 1024 := by omega
  have TA := Lib.hid (fun w => specawake_any w)
  obtain ⟨u0, hu0⟩ : ∃ u, u = W.alloc (.cells #[.int .i64 v.k, .int .i64 v.i, .bool v.b, .string v.s] 57) := ⟨_, rfl⟩
  have HV0 := Lib.hid (show Slot u0 W.heap.size v by rw [hu0]; exact Slot.new W v)
  have HB := Lib.hid (show Below W.heap.size W u0 by rw [hu0]; exact (Below.refl _ _).alloc (Nat.le_refl _) _)
  have hw : W.alloc (.cells #[.int .i64 v.k, .int .i64 v.i, .bool v.b, .string v.s] 57) = u0 := hu0.symm
  clear hu0
  have HK := Lib.hid hK
  clear hK
  go_enter Try.func9, Try.ntmps9
  go_upto_region 1 with fail
  clear hw
  go_upto_region 3 with (go_at_call 32; refine (TA.out _).mono ?_; rintro e w1 ⟨rfl, hb⟩; replace HV0 := Lib.hid (HV0.out.below hb); replace HB := Lib.hid (HB.out.trans (hb.mono HB.out.size)); clear hb)
  go_upto_region 4 with fail
  have hk : wrap64 (1 + wrap64 ((IntKind.u64.wrap par).tmod 1024)) = K := by rw [HK.out]; exact twice_k par
  rw [hk]
  clear hk hp TA
  obtain ⟨⟨q0, q1, q2, q3⟩, _⟩ := HV0.out.at
  go_upto_region 5 with (go_at_call 46; refine (T0.out _).mono ?_; rintro e w2 ⟨rfl, hb⟩; replace HB := Lib.hid (HB.out.trans (hb.mono HB.out.size)); clear hb q0 q1 q2 q3 HV0)
  change Code.wp _ _ _ _ (w2.alloc (.cells #[.int .i64 2, .int .i64 0, .bool tb, .string ⟨#[]⟩] 57))
  have HV2 := Lib.hid (show Slot (w2.alloc (.cells #[.int .i64 2, .int .i64 0, .bool tb, .string ⟨#[]⟩] 57)) w2.heap.size ⟨2, 0, tb, ByteArray.empty⟩ from Slot.new w2 ⟨2, 0, tb, ByteArray.empty⟩)
  have hb : Below w2.heap.size w2 (w2.alloc (.cells #[.int .i64 2, .int .i64 0, .bool tb, .string ⟨#[]⟩] 57)) := (Below.refl _ _).alloc (Nat.le_refl _) _
  replace HB := Lib.hid (HB.out.trans (hb.mono HB.out.size))
  clear hb
  generalize (w2.alloc (.cells #[.int .i64 2, .int .i64 0, .bool tb, .string ⟨#[]⟩] 57)) = v2 at *
  generalize w2.heap.size = g2 at *
  obtain ⟨⟨q0, q1, q2, q3⟩, _⟩ := HV2.out.at
  simp only at q0 q1 q2 q3
  go_upto_region 6 with (go_at_call 30; refine (T1.out _).mono ?_; rintro e w3 ⟨rfl, hb⟩; replace HV2 := Lib.hid (HV2.out.below hb); replace HB := Lib.hid (HB.out.trans (hb.mono HB.out.size)); clear hb q0 q1 q2 q3)
  change Code.wp _ _ _ _ (w3.alloc (.cells #[.int .i64 1, .int .i64 c, .bool false, .string ⟨#[]⟩] 57))
  have HV3 := Lib.hid (show Slot (w3.alloc (.cells #[.int .i64 1, .int .i64 c, .bool false, .string ⟨#[]⟩] 57)) w3.heap.size ⟨1, c, false, ByteArray.empty⟩ from Slot.new w3 ⟨1, c, false, ByteArray.empty⟩)
  have hb : Below w3.heap.size w3 (w3.alloc (.cells #[.int .i64 1, .int .i64 c, .bool false, .string ⟨#[]⟩] 57)) := (Below.refl _ _).alloc (Nat.le_refl _) _
  replace HB := Lib.hid (HB.out.trans (hb.mono HB.out.size))
  replace HV2 := Lib.hid (HV2.out.below hb)
  clear hb
  generalize (w3.alloc (.cells #[.int .i64 1, .int .i64 c, .bool false, .string ⟨#[]⟩] 57)) = v3 at *
  generalize w3.heap.size = g3 at *
  obtain ⟨⟨q0, q1, q2, q3⟩, _⟩ := HV2.out.at
  obtain ⟨⟨r0, r1, r2, r3⟩, _⟩ := HV3.out.at
  simp only at q0 q1 q2 q3 r0 r1 r2 r3
  go_upto_region 8 with (go_at_call 19; refine (num_any _ _).mono ?_; rintro e wn ⟨rfl, rfl⟩)
  clear r0 r1 r2 r3 HV3
  go_upto_region 9 with fail
  obtain ⟨v4, hv4⟩ : ∃ x, x = v3.alloc (.cells #[.int .i64 0, .int .i64 2, .int .i64 K] 55) := ⟨_, rfl⟩
  change Code.wp _ _ _ _ (v3.alloc (.cells #[.int .i64 0, .int .i64 2, .int .i64 K] 55))
  have HF := Lib.hid (show FdAt v4 v3.heap.size 0 ⟨0, 2, K⟩ by rw [hv4]; exact FdAt.new v3 ⟨0, 2, K⟩)
  have hb : Below v3.heap.size v3 v4 := by rw [hv4]; exact (Below.refl _ _).alloc (Nat.le_refl _) _
  replace HB := Lib.hid (HB.out.trans (hb.mono HB.out.size))
  replace HV2 := Lib.hid (HV2.out.below hb)
  rw [← hv4]
  clear hv4 hb q0 q1 q2 q3
  generalize v3.heap.size = gf at *
  obtain ⟨⟨q0, q1, q2, q3⟩, _⟩ := HV2.out.at
  obtain ⟨p0, p1, p2⟩ := HF.out
  simp only [Nat.zero_add] at q0 q1 q2 q3 p0 p1 p2
  go_upto_region 10 with (go_at_call 30; refine (T2.out _).mono ?_; rintro e w5 ⟨rfl, hb⟩; replace HV2 := Lib.hid (HV2.out.below hb); replace HF := Lib.hid (HF.out.below hb); replace HB := Lib.hid (HB.out.trans (hb.mono HB.out.size)); clear hb q0 q1 q2 q3 p0 p1 p2)
  change Code.wp _ _ _ _ (w5.alloc (.cells #[.int .i64 0, .int .i64 0, .bool false, .string ⟨#[]⟩] 57))
  have HV5 := Lib.hid (show Slot (w5.alloc (.cells #[.int .i64 0, .int .i64 0, .bool false, .string ⟨#[]⟩] 57)) w5.heap.size ⟨0, 0, false, ByteArray.empty⟩ from Slot.new w5 ⟨0, 0, false, ByteArray.empty⟩)
  have hb : Below w5.heap.size w5 (w5.alloc (.cells #[.int .i64 0, .int .i64 0, .bool false, .string ⟨#[]⟩] 57)) := (Below.refl _ _).alloc (Nat.le_refl _) _
  replace HB := Lib.hid (HB.out.trans (hb.mono HB.out.size))
  replace HV2 := Lib.hid (HV2.out.below hb)
  replace HF := Lib.hid (HF.out.below hb)
  clear hb
  generalize (w5.alloc (.cells #[.int .i64 0, .int .i64 0, .bool false, .string ⟨#[]⟩] 57)) = v5 at *
  generalize w5.heap.size = g5 at *
  obtain ⟨⟨q0, q1, q2, q3⟩, _⟩ := HV2.out.at
  obtain ⟨⟨r0, r1, r2, r3⟩, _⟩ := HV5.out.at
  obtain ⟨p0, p1, p2⟩ := HF.out
  simp only [Nat.zero_add] at q0 q1 q2 q3 r0 r1 r2 r3 p0 p1 p2
  go_wp2_with (go_at_call 19; refine (num_any _ _).mono ?_; rintro e wn ⟨rfl, rfl⟩)
  go_ret
  exact ⟨rfl, HB.out⟩
set_option maxRecDepth 100000 in
set_option maxHeartbeats 4000000 in
theorem spectwice_text (v : V) (par : Int) (hp : -9223372036854775808 ≤ par ∧ par < 9223372036854775808) {W : World} (K : Int) (hK : K = 1 + par % 1024) (s cs : ByteArray) (c : Int) (hc0 : 0 ≤ c) (hc1 : c < K)
    (T0 : Hid (∀ w, Calls Try.prog 46 #[.agg #[.int .i64 v.k, .int .i64 v.i, .bool v.b, .string v.s]] w fun e w' => e = .returned (.agg #[.int .i64 3, .int .i64 0, .bool false, .string s]) ∧ Below w.heap.size w w'))
    (T1 : Hid (∀ w, Calls Try.prog 30 #[.agg #[.int .i64 0, .int .i64 1, .int .i64 K], .agg #[.int .i64 3, .int .i64 0, .bool false, .string s]] w fun e w' => e = .returned (.tuple #[.agg #[.int .i64 1, .int .i64 c, .bool false, .string ⟨#[]⟩], .int .i64 0]) ∧ Below w.heap.size w w'))
    (T2 : Hid (∀ w, Calls Try.prog 30 #[.agg #[.int .i64 0, .int .i64 2, .int .i64 K], .agg #[.int .i64 3, .int .i64 0, .bool false, .string s]] w fun e w' => e = .returned (.tuple #[.agg #[.int .i64 3, .int .i64 0, .bool false, .string cs], .int .i64 0]) ∧ Below w.heap.size w w'))
    (T3 : Hid (∀ w, Calls Try.prog 30 #[.agg #[.int .i64 0, .int .i64 2, .int .i64 K], .agg #[.int .i64 3, .int .i64 0, .bool false, .string cs]] w fun e w' => e = .returned (.tuple #[.agg #[.int .i64 3, .int .i64 0, .bool false, .string cs], .int .i64 0]) ∧ Below w.heap.size w w'))
    (O : Int) (hO : O ≤ 0) (T4 : Hid (∀ w, Calls Try.prog 47 #[.agg #[.int .i64 3, .int .i64 0, .bool false, .string cs], .agg #[.int .i64 3, .int .i64 0, .bool false, .string s]] w fun e w' => e = .returned (.int .i64 O) ∧ Below w.heap.size w w'))
    : Calls Try.prog 9 #[.agg #[.int .i64 v.k, .int .i64 v.i, .bool v.b, .string v.s], .int .i64 par] W fun e w' => e = .returned (.bool true) ∧ Below W.heap.size W w' := by
  have hK1 : 1 ≤ K := by omega
  have hK2 : K ≤ 1024 := by omega
  have TA := Lib.hid (fun w => specawake_any w)
  obtain ⟨u0, hu0⟩ : ∃ u, u = W.alloc (.cells #[.int .i64 v.k, .int .i64 v.i, .bool v.b, .string v.s] 57) := ⟨_, rfl⟩
  have HV0 := Lib.hid (show Slot u0 W.heap.size v by rw [hu0]; exact Slot.new W v)
  have HB := Lib.hid (show Below W.heap.size W u0 by rw [hu0]; exact (Below.refl _ _).alloc (Nat.le_refl _) _)
  have hw : W.alloc (.cells #[.int .i64 v.k, .int .i64 v.i, .bool v.b, .string v.s] 57) = u0 := hu0.symm
  clear hu0
  have HK := Lib.hid hK
  clear hK
  go_enter Try.func9, Try.ntmps9
  go_upto_region 1 with fail
  clear hw
  go_upto_region 3 with (go_at_call 32; refine (TA.out _).mono ?_; rintro e w1 ⟨rfl, hb⟩; replace HV0 := Lib.hid (HV0.out.below hb); replace HB := Lib.hid (HB.out.trans (hb.mono HB.out.size)); clear hb)
  go_upto_region 4 with fail
  have hk : wrap64 (1 + wrap64 ((IntKind.u64.wrap par).tmod 1024)) = K := by rw [HK.out]; exact twice_k par
  rw [hk]
  clear hk hp TA
  obtain ⟨⟨q0, q1, q2, q3⟩, _⟩ := HV0.out.at
  go_upto_region 5 with (go_at_call 46; refine (T0.out _).mono ?_; rintro e w2 ⟨rfl, hb⟩; replace HB := Lib.hid (HB.out.trans (hb.mono HB.out.size)); clear hb q0 q1 q2 q3 HV0)
  change Code.wp _ _ _ _ (w2.alloc (.cells #[.int .i64 3, .int .i64 0, .bool false, .string s] 57))
  have HV2 := Lib.hid (show Slot (w2.alloc (.cells #[.int .i64 3, .int .i64 0, .bool false, .string s] 57)) w2.heap.size ⟨3, 0, false, s⟩ from Slot.new w2 ⟨3, 0, false, s⟩)
  have hb : Below w2.heap.size w2 (w2.alloc (.cells #[.int .i64 3, .int .i64 0, .bool false, .string s] 57)) := (Below.refl _ _).alloc (Nat.le_refl _) _
  replace HB := Lib.hid (HB.out.trans (hb.mono HB.out.size))
  clear hb
  generalize (w2.alloc (.cells #[.int .i64 3, .int .i64 0, .bool false, .string s] 57)) = v2 at *
  generalize w2.heap.size = g2 at *
  obtain ⟨⟨q0, q1, q2, q3⟩, _⟩ := HV2.out.at
  simp only at q0 q1 q2 q3
  go_upto_region 6 with (go_at_call 30; refine (T1.out _).mono ?_; rintro e w3 ⟨rfl, hb⟩; replace HV2 := Lib.hid (HV2.out.below hb); replace HB := Lib.hid (HB.out.trans (hb.mono HB.out.size)); clear hb q0 q1 q2 q3)
  change Code.wp _ _ _ _ (w3.alloc (.cells #[.int .i64 1, .int .i64 c, .bool false, .string ⟨#[]⟩] 57))
  have HV3 := Lib.hid (show Slot (w3.alloc (.cells #[.int .i64 1, .int .i64 c, .bool false, .string ⟨#[]⟩] 57)) w3.heap.size ⟨1, c, false, ByteArray.empty⟩ from Slot.new w3 ⟨1, c, false, ByteArray.empty⟩)
  have hb : Below w3.heap.size w3 (w3.alloc (.cells #[.int .i64 1, .int .i64 c, .bool false, .string ⟨#[]⟩] 57)) := (Below.refl _ _).alloc (Nat.le_refl _) _
  replace HB := Lib.hid (HB.out.trans (hb.mono HB.out.size))
  replace HV2 := Lib.hid (HV2.out.below hb)
  clear hb
  generalize (w3.alloc (.cells #[.int .i64 1, .int .i64 c, .bool false, .string ⟨#[]⟩] 57)) = v3 at *
  generalize w3.heap.size = g3 at *
  obtain ⟨⟨q0, q1, q2, q3⟩, _⟩ := HV2.out.at
  obtain ⟨⟨r0, r1, r2, r3⟩, _⟩ := HV3.out.at
  simp only at q0 q1 q2 q3 r0 r1 r2 r3
  go_upto_region 8 with (go_at_call 19; refine (num_any _ _).mono ?_; rintro e wn ⟨rfl, rfl⟩)
  clear r0 r1 r2 r3 HV3
  go_upto_region 9 with fail
  obtain ⟨v4, hv4⟩ : ∃ x, x = v3.alloc (.cells #[.int .i64 0, .int .i64 2, .int .i64 K] 55) := ⟨_, rfl⟩
  change Code.wp _ _ _ _ (v3.alloc (.cells #[.int .i64 0, .int .i64 2, .int .i64 K] 55))
  have HF := Lib.hid (show FdAt v4 v3.heap.size 0 ⟨0, 2, K⟩ by rw [hv4]; exact FdAt.new v3 ⟨0, 2, K⟩)
  have hb : Below v3.heap.size v3 v4 := by rw [hv4]; exact (Below.refl _ _).alloc (Nat.le_refl _) _
  replace HB := Lib.hid (HB.out.trans (hb.mono HB.out.size))
  replace HV2 := Lib.hid (HV2.out.below hb)
  rw [← hv4]
  clear hv4 hb q0 q1 q2 q3
  generalize v3.heap.size = gf at *
  obtain ⟨⟨q0, q1, q2, q3⟩, _⟩ := HV2.out.at
  obtain ⟨p0, p1, p2⟩ := HF.out
  simp only [Nat.zero_add] at q0 q1 q2 q3 p0 p1 p2
  go_upto_region 10 with (go_at_call 30; refine (T2.out _).mono ?_; rintro e w5 ⟨rfl, hb⟩; replace HV2 := Lib.hid (HV2.out.below hb); replace HF := Lib.hid (HF.out.below hb); replace HB := Lib.hid (HB.out.trans (hb.mono HB.out.size)); clear hb q0 q1 q2 q3 p0 p1 p2)
  change Code.wp _ _ _ _ (w5.alloc (.cells #[.int .i64 3, .int .i64 0, .bool false, .string cs] 57))
  have HV5 := Lib.hid (show Slot (w5.alloc (.cells #[.int .i64 3, .int .i64 0, .bool false, .string cs] 57)) w5.heap.size ⟨3, 0, false, cs⟩ from Slot.new w5 ⟨3, 0, false, cs⟩)
  have hb : Below w5.heap.size w5 (w5.alloc (.cells #[.int .i64 3, .int .i64 0, .bool false, .string cs] 57)) := (Below.refl _ _).alloc (Nat.le_refl _) _
  replace HB := Lib.hid (HB.out.trans (hb.mono HB.out.size))
  replace HV2 := Lib.hid (HV2.out.below hb)
  replace HF := Lib.hid (HF.out.below hb)
  clear hb
  generalize (w5.alloc (.cells #[.int .i64 3, .int .i64 0, .bool false, .string cs] 57)) = v5 at *
  generalize w5.heap.size = g5 at *
  obtain ⟨⟨q0, q1, q2, q3⟩, _⟩ := HV2.out.at
  obtain ⟨⟨r0, r1, r2, r3⟩, _⟩ := HV5.out.at
  obtain ⟨p0, p1, p2⟩ := HF.out
  simp only [Nat.zero_add] at q0 q1 q2 q3 r0 r1 r2 r3 p0 p1 p2
  go_upto_region 12 with (go_at_call 19; refine (num_any _ _).mono ?_; rintro e wn ⟨rfl, rfl⟩)
  go_upto_region 13 with (go_at_call 30; refine (T3.out _).mono ?_; rintro e w6 ⟨rfl, hb⟩; replace HV2 := Lib.hid (HV2.out.below hb); replace HV5 := Lib.hid (HV5.out.below hb); replace HB := Lib.hid (HB.out.trans (hb.mono HB.out.size)); clear hb q0 q1 q2 q3 p0 p1 p2 r0 r1 r2 r3 HF)
  change Code.wp _ _ _ _ (w6.alloc (.cells #[.int .i64 3, .int .i64 0, .bool false, .string cs] 57))
  have HV6 := Lib.hid (show Slot (w6.alloc (.cells #[.int .i64 3, .int .i64 0, .bool false, .string cs] 57)) w6.heap.size ⟨3, 0, false, cs⟩ from Slot.new w6 ⟨3, 0, false, cs⟩)
  have hb : Below w6.heap.size w6 (w6.alloc (.cells #[.int .i64 3, .int .i64 0, .bool false, .string cs] 57)) := (Below.refl _ _).alloc (Nat.le_refl _) _
  replace HB := Lib.hid (HB.out.trans (hb.mono HB.out.size))
  replace HV2 := Lib.hid (HV2.out.below hb)
  replace HV5 := Lib.hid (HV5.out.below hb)
  clear hb
  generalize (w6.alloc (.cells #[.int .i64 3, .int .i64 0, .bool false, .string cs] 57)) = v6 at *
  generalize w6.heap.size = g6 at *
  obtain ⟨⟨q0, q1, q2, q3⟩, _⟩ := HV2.out.at
  obtain ⟨⟨r0, r1, r2, r3⟩, _⟩ := HV5.out.at
  obtain ⟨⟨p0, p1, p2, p3⟩, _⟩ := HV6.out.at
  simp only at q0 q1 q2 q3 r0 r1 r2 r3 p0 p1 p2 p3
  have heq := run_eql_val ⟨3, 0, false, cs⟩ ⟨3, 0, false, cs⟩
  rw [decide_eq_true (rfl : (⟨3, 0, false, cs⟩ : V) = _)] at heq
  simp only at heq
  have hO2 : decide (O ≤ 0) = true := decide_eq_true hO
  go_upto_region 14 with fail
  go_wp2_with (first
    | (go_at_call 19; refine (num_any _ _).mono ?_; rintro e wn ⟨rfl, rfl⟩)
    | (go_at_call 47; refine (T4.out _).mono ?_; rintro e w7 ⟨rfl, hb⟩; replace HB := Lib.hid (HB.out.trans (hb.mono HB.out.size)); clear hb))
  go_ret
  exact ⟨rfl, HB.out⟩
set_option maxRecDepth 100000 in
set_option maxHeartbeats 4000000 in
theorem spectwice_int (v : V) (par : Int) (hp : -9223372036854775808 ≤ par ∧ par < 9223372036854775808) {W : World} (K : Int) (hK : K = 1 + par % 1024) (i fl : Int) (c : Int) (hc0 : 0 ≤ c) (hc1 : c < K)
    (T0 : Hid (∀ w, Calls Try.prog 46 #[.agg #[.int .i64 v.k, .int .i64 v.i, .bool v.b, .string v.s]] w fun e w' => e = .returned (.agg #[.int .i64 1, .int .i64 i, .bool false, .string ⟨#[]⟩]) ∧ Below w.heap.size w w'))
    (T1 : Hid (∀ w, Calls Try.prog 30 #[.agg #[.int .i64 0, .int .i64 1, .int .i64 K], .agg #[.int .i64 1, .int .i64 i, .bool false, .string ⟨#[]⟩]] w fun e w' => e = .returned (.tuple #[.agg #[.int .i64 1, .int .i64 c, .bool false, .string ⟨#[]⟩], .int .i64 0]) ∧ Below w.heap.size w w'))
    (T2 : Hid (∀ w, Calls Try.prog 30 #[.agg #[.int .i64 0, .int .i64 2, .int .i64 K], .agg #[.int .i64 1, .int .i64 i, .bool false, .string ⟨#[]⟩]] w fun e w' => e = .returned (.tuple #[.agg #[.int .i64 1, .int .i64 fl, .bool false, .string ⟨#[]⟩], .int .i64 0]) ∧ Below w.heap.size w w'))
    (T3 : Hid (∀ w, Calls Try.prog 30 #[.agg #[.int .i64 0, .int .i64 2, .int .i64 K], .agg #[.int .i64 1, .int .i64 fl, .bool false, .string ⟨#[]⟩]] w fun e w' => e = .returned (.tuple #[.agg #[.int .i64 1, .int .i64 fl, .bool false, .string ⟨#[]⟩], .int .i64 0]) ∧ Below w.heap.size w w'))
    (O : Int) (hO : O ≤ 0) (T4 : Hid (∀ w, Calls Try.prog 47 #[.agg #[.int .i64 1, .int .i64 fl, .bool false, .string ⟨#[]⟩], .agg #[.int .i64 1, .int .i64 i, .bool false, .string ⟨#[]⟩]] w fun e w' => e = .returned (.int .i64 O) ∧ Below w.heap.size w w'))
    : Calls Try.prog 9 #[.agg #[.int .i64 v.k, .int .i64 v.i, .bool v.b, .string v.s], .int .i64 par] W fun e w' => e = .returned (.bool true) ∧ Below W.heap.size W w' := by
  have hK1 : 1 ≤ K := by omega
  have hK2 : K ≤ 1024 := by omega
  have TA := Lib.hid (fun w => specawake_any w)
  obtain ⟨u0, hu0⟩ : ∃ u, u = W.alloc (.cells #[.int .i64 v.k, .int .i64 v.i, .bool v.b, .string v.s] 57) := ⟨_, rfl⟩
  have HV0 := Lib.hid (show Slot u0 W.heap.size v by rw [hu0]; exact Slot.new W v)
  have HB := Lib.hid (show Below W.heap.size W u0 by rw [hu0]; exact (Below.refl _ _).alloc (Nat.le_refl _) _)
  have hw : W.alloc (.cells #[.int .i64 v.k, .int .i64 v.i, .bool v.b, .string v.s] 57) = u0 := hu0.symm
  clear hu0
  have HK := Lib.hid hK
  clear hK
  go_enter Try.func9, Try.ntmps9
  go_upto_region 1 with fail
  clear hw
  go_upto_region 3 with (go_at_call 32; refine (TA.out _).mono ?_; rintro e w1 ⟨rfl, hb⟩; replace HV0 := Lib.hid (HV0.out.below hb); replace HB := Lib.hid (HB.out.trans (hb.mono HB.out.size)); clear hb)
  go_upto_region 4 with fail
  have hk : wrap64 (1 + wrap64 ((IntKind.u64.wrap par).tmod 1024)) = K := by rw [HK.out]; exact twice_k par
  rw [hk]
  clear hk hp TA
  obtain ⟨⟨q0, q1, q2, q3⟩, _⟩ := HV0.out.at
  go_upto_region 5 with (go_at_call 46; refine (T0.out _).mono ?_; rintro e w2 ⟨rfl, hb⟩; replace HB := Lib.hid (HB.out.trans (hb.mono HB.out.size)); clear hb q0 q1 q2 q3 HV0)
  change Code.wp _ _ _ _ (w2.alloc (.cells #[.int .i64 1, .int .i64 i, .bool false, .string ⟨#[]⟩] 57))
  have HV2 := Lib.hid (show Slot (w2.alloc (.cells #[.int .i64 1, .int .i64 i, .bool false, .string ⟨#[]⟩] 57)) w2.heap.size ⟨1, i, false, ByteArray.empty⟩ from Slot.new w2 ⟨1, i, false, ByteArray.empty⟩)
  have hb : Below w2.heap.size w2 (w2.alloc (.cells #[.int .i64 1, .int .i64 i, .bool false, .string ⟨#[]⟩] 57)) := (Below.refl _ _).alloc (Nat.le_refl _) _
  replace HB := Lib.hid (HB.out.trans (hb.mono HB.out.size))
  clear hb
  generalize (w2.alloc (.cells #[.int .i64 1, .int .i64 i, .bool false, .string ⟨#[]⟩] 57)) = v2 at *
  generalize w2.heap.size = g2 at *
  obtain ⟨⟨q0, q1, q2, q3⟩, _⟩ := HV2.out.at
  simp only at q0 q1 q2 q3
  go_upto_region 6 with (go_at_call 30; refine (T1.out _).mono ?_; rintro e w3 ⟨rfl, hb⟩; replace HV2 := Lib.hid (HV2.out.below hb); replace HB := Lib.hid (HB.out.trans (hb.mono HB.out.size)); clear hb q0 q1 q2 q3)
  change Code.wp _ _ _ _ (w3.alloc (.cells #[.int .i64 1, .int .i64 c, .bool false, .string ⟨#[]⟩] 57))
  have HV3 := Lib.hid (show Slot (w3.alloc (.cells #[.int .i64 1, .int .i64 c, .bool false, .string ⟨#[]⟩] 57)) w3.heap.size ⟨1, c, false, ByteArray.empty⟩ from Slot.new w3 ⟨1, c, false, ByteArray.empty⟩)
  have hb : Below w3.heap.size w3 (w3.alloc (.cells #[.int .i64 1, .int .i64 c, .bool false, .string ⟨#[]⟩] 57)) := (Below.refl _ _).alloc (Nat.le_refl _) _
  replace HB := Lib.hid (HB.out.trans (hb.mono HB.out.size))
  replace HV2 := Lib.hid (HV2.out.below hb)
  clear hb
  generalize (w3.alloc (.cells #[.int .i64 1, .int .i64 c, .bool false, .string ⟨#[]⟩] 57)) = v3 at *
  generalize w3.heap.size = g3 at *
  obtain ⟨⟨q0, q1, q2, q3⟩, _⟩ := HV2.out.at
  obtain ⟨⟨r0, r1, r2, r3⟩, _⟩ := HV3.out.at
  simp only at q0 q1 q2 q3 r0 r1 r2 r3
  go_upto_region 8 with (go_at_call 19; refine (num_any _ _).mono ?_; rintro e wn ⟨rfl, rfl⟩)
  clear r0 r1 r2 r3 HV3
  go_upto_region 9 with fail
  obtain ⟨v4, hv4⟩ : ∃ x, x = v3.alloc (.cells #[.int .i64 0, .int .i64 2, .int .i64 K] 55) := ⟨_, rfl⟩
  change Code.wp _ _ _ _ (v3.alloc (.cells #[.int .i64 0, .int .i64 2, .int .i64 K] 55))
  have HF := Lib.hid (show FdAt v4 v3.heap.size 0 ⟨0, 2, K⟩ by rw [hv4]; exact FdAt.new v3 ⟨0, 2, K⟩)
  have hb : Below v3.heap.size v3 v4 := by rw [hv4]; exact (Below.refl _ _).alloc (Nat.le_refl _) _
  replace HB := Lib.hid (HB.out.trans (hb.mono HB.out.size))
  replace HV2 := Lib.hid (HV2.out.below hb)
  rw [← hv4]
  clear hv4 hb q0 q1 q2 q3
  generalize v3.heap.size = gf at *
  obtain ⟨⟨q0, q1, q2, q3⟩, _⟩ := HV2.out.at
  obtain ⟨p0, p1, p2⟩ := HF.out
  simp only [Nat.zero_add] at q0 q1 q2 q3 p0 p1 p2
  go_upto_region 10 with (go_at_call 30; refine (T2.out _).mono ?_; rintro e w5 ⟨rfl, hb⟩; replace HV2 := Lib.hid (HV2.out.below hb); replace HF := Lib.hid (HF.out.below hb); replace HB := Lib.hid (HB.out.trans (hb.mono HB.out.size)); clear hb q0 q1 q2 q3 p0 p1 p2)
  change Code.wp _ _ _ _ (w5.alloc (.cells #[.int .i64 1, .int .i64 fl, .bool false, .string ⟨#[]⟩] 57))
  have HV5 := Lib.hid (show Slot (w5.alloc (.cells #[.int .i64 1, .int .i64 fl, .bool false, .string ⟨#[]⟩] 57)) w5.heap.size ⟨1, fl, false, ByteArray.empty⟩ from Slot.new w5 ⟨1, fl, false, ByteArray.empty⟩)
  have hb : Below w5.heap.size w5 (w5.alloc (.cells #[.int .i64 1, .int .i64 fl, .bool false, .string ⟨#[]⟩] 57)) := (Below.refl _ _).alloc (Nat.le_refl _) _
  replace HB := Lib.hid (HB.out.trans (hb.mono HB.out.size))
  replace HV2 := Lib.hid (HV2.out.below hb)
  replace HF := Lib.hid (HF.out.below hb)
  clear hb
  generalize (w5.alloc (.cells #[.int .i64 1, .int .i64 fl, .bool false, .string ⟨#[]⟩] 57)) = v5 at *
  generalize w5.heap.size = g5 at *
  obtain ⟨⟨q0, q1, q2, q3⟩, _⟩ := HV2.out.at
  obtain ⟨⟨r0, r1, r2, r3⟩, _⟩ := HV5.out.at
  obtain ⟨p0, p1, p2⟩ := HF.out
  simp only [Nat.zero_add] at q0 q1 q2 q3 r0 r1 r2 r3 p0 p1 p2
  go_upto_region 12 with (go_at_call 19; refine (num_any _ _).mono ?_; rintro e wn ⟨rfl, rfl⟩)
  go_upto_region 13 with (go_at_call 30; refine (T3.out _).mono ?_; rintro e w6 ⟨rfl, hb⟩; replace HV2 := Lib.hid (HV2.out.below hb); replace HV5 := Lib.hid (HV5.out.below hb); replace HB := Lib.hid (HB.out.trans (hb.mono HB.out.size)); clear hb q0 q1 q2 q3 p0 p1 p2 r0 r1 r2 r3 HF)
  change Code.wp _ _ _ _ (w6.alloc (.cells #[.int .i64 1, .int .i64 fl, .bool false, .string ⟨#[]⟩] 57))
  have HV6 := Lib.hid (show Slot (w6.alloc (.cells #[.int .i64 1, .int .i64 fl, .bool false, .string ⟨#[]⟩] 57)) w6.heap.size ⟨1, fl, false, ByteArray.empty⟩ from Slot.new w6 ⟨1, fl, false, ByteArray.empty⟩)
  have hb : Below w6.heap.size w6 (w6.alloc (.cells #[.int .i64 1, .int .i64 fl, .bool false, .string ⟨#[]⟩] 57)) := (Below.refl _ _).alloc (Nat.le_refl _) _
  replace HB := Lib.hid (HB.out.trans (hb.mono HB.out.size))
  replace HV2 := Lib.hid (HV2.out.below hb)
  replace HV5 := Lib.hid (HV5.out.below hb)
  clear hb
  generalize (w6.alloc (.cells #[.int .i64 1, .int .i64 fl, .bool false, .string ⟨#[]⟩] 57)) = v6 at *
  generalize w6.heap.size = g6 at *
  obtain ⟨⟨q0, q1, q2, q3⟩, _⟩ := HV2.out.at
  obtain ⟨⟨r0, r1, r2, r3⟩, _⟩ := HV5.out.at
  obtain ⟨⟨p0, p1, p2, p3⟩, _⟩ := HV6.out.at
  simp only at q0 q1 q2 q3 r0 r1 r2 r3 p0 p1 p2 p3
  have heq := run_eql_val ⟨1, fl, false, ByteArray.empty⟩ ⟨1, fl, false, ByteArray.empty⟩
  rw [decide_eq_true (rfl : (⟨1, fl, false, ByteArray.empty⟩ : V) = _)] at heq
  simp only at heq
  have hO2 : decide (O ≤ 0) = true := decide_eq_true hO
  go_upto_region 14 with fail
  go_wp2_with (first
    | (go_at_call 19; refine (num_any _ _).mono ?_; rintro e wn ⟨rfl, rfl⟩)
    | (go_at_call 47; refine (T4.out _).mono ?_; rintro e w7 ⟨rfl, hb⟩; replace HB := Lib.hid (HB.out.trans (hb.mono HB.out.size)); clear hb))
  go_ret
  exact ⟨rfl, HB.out⟩
set_option maxRecDepth 100000 in
set_option maxHeartbeats 4000000 in
theorem spectwice_least (v : V) (par : Int) (hp : -9223372036854775808 ≤ par ∧ par < 9223372036854775808) {W : World} (K : Int) (hK : K = 1 + par % 1024) (i fl : Int) (hne : fl ≠ -9223372036854775808) (c : Int) (hc0 : 0 ≤ c) (hc1 : c < K)
    (T0 : Hid (∀ w, Calls Try.prog 46 #[.agg #[.int .i64 v.k, .int .i64 v.i, .bool v.b, .string v.s]] w fun e w' => e = .returned (.agg #[.int .i64 1, .int .i64 i, .bool false, .string ⟨#[]⟩]) ∧ Below w.heap.size w w'))
    (T1 : Hid (∀ w, Calls Try.prog 30 #[.agg #[.int .i64 0, .int .i64 1, .int .i64 K], .agg #[.int .i64 1, .int .i64 i, .bool false, .string ⟨#[]⟩]] w fun e w' => e = .returned (.tuple #[.agg #[.int .i64 1, .int .i64 c, .bool false, .string ⟨#[]⟩], .int .i64 0]) ∧ Below w.heap.size w w'))
    (T2 : Hid (∀ w, Calls Try.prog 30 #[.agg #[.int .i64 0, .int .i64 2, .int .i64 K], .agg #[.int .i64 1, .int .i64 i, .bool false, .string ⟨#[]⟩]] w fun e w' => e = .returned (.tuple #[.agg #[.int .i64 1, .int .i64 (-9223372036854775808), .bool false, .string ⟨#[]⟩], .int .i64 0]) ∧ Below w.heap.size w w'))
    (T3 : Hid (∀ w, Calls Try.prog 30 #[.agg #[.int .i64 0, .int .i64 2, .int .i64 K], .agg #[.int .i64 1, .int .i64 (-9223372036854775808), .bool false, .string ⟨#[]⟩]] w fun e w' => e = .returned (.tuple #[.agg #[.int .i64 1, .int .i64 fl, .bool false, .string ⟨#[]⟩], .int .i64 0]) ∧ Below w.heap.size w w'))
    (O : Int) (hO : O ≤ 0) (T4 : Hid (∀ w, Calls Try.prog 47 #[.agg #[.int .i64 1, .int .i64 (-9223372036854775808), .bool false, .string ⟨#[]⟩], .agg #[.int .i64 1, .int .i64 i, .bool false, .string ⟨#[]⟩]] w fun e w' => e = .returned (.int .i64 O) ∧ Below w.heap.size w w'))
    : Calls Try.prog 9 #[.agg #[.int .i64 v.k, .int .i64 v.i, .bool v.b, .string v.s], .int .i64 par] W fun e w' => e = .returned (.bool true) ∧ Below W.heap.size W w' := by
  have hK1 : 1 ≤ K := by omega
  have hK2 : K ≤ 1024 := by omega
  have TA := Lib.hid (fun w => specawake_any w)
  obtain ⟨u0, hu0⟩ : ∃ u, u = W.alloc (.cells #[.int .i64 v.k, .int .i64 v.i, .bool v.b, .string v.s] 57) := ⟨_, rfl⟩
  have HV0 := Lib.hid (show Slot u0 W.heap.size v by rw [hu0]; exact Slot.new W v)
  have HB := Lib.hid (show Below W.heap.size W u0 by rw [hu0]; exact (Below.refl _ _).alloc (Nat.le_refl _) _)
  have hw : W.alloc (.cells #[.int .i64 v.k, .int .i64 v.i, .bool v.b, .string v.s] 57) = u0 := hu0.symm
  clear hu0
  have HK := Lib.hid hK
  clear hK
  go_enter Try.func9, Try.ntmps9
  go_upto_region 1 with fail
  clear hw
  go_upto_region 3 with (go_at_call 32; refine (TA.out _).mono ?_; rintro e w1 ⟨rfl, hb⟩; replace HV0 := Lib.hid (HV0.out.below hb); replace HB := Lib.hid (HB.out.trans (hb.mono HB.out.size)); clear hb)
  go_upto_region 4 with fail
  have hk : wrap64 (1 + wrap64 ((IntKind.u64.wrap par).tmod 1024)) = K := by rw [HK.out]; exact twice_k par
  rw [hk]
  clear hk hp TA
  obtain ⟨⟨q0, q1, q2, q3⟩, _⟩ := HV0.out.at
  go_upto_region 5 with (go_at_call 46; refine (T0.out _).mono ?_; rintro e w2 ⟨rfl, hb⟩; replace HB := Lib.hid (HB.out.trans (hb.mono HB.out.size)); clear hb q0 q1 q2 q3 HV0)
  change Code.wp _ _ _ _ (w2.alloc (.cells #[.int .i64 1, .int .i64 i, .bool false, .string ⟨#[]⟩] 57))
  have HV2 := Lib.hid (show Slot (w2.alloc (.cells #[.int .i64 1, .int .i64 i, .bool false, .string ⟨#[]⟩] 57)) w2.heap.size ⟨1, i, false, ByteArray.empty⟩ from Slot.new w2 ⟨1, i, false, ByteArray.empty⟩)
  have hb : Below w2.heap.size w2 (w2.alloc (.cells #[.int .i64 1, .int .i64 i, .bool false, .string ⟨#[]⟩] 57)) := (Below.refl _ _).alloc (Nat.le_refl _) _
  replace HB := Lib.hid (HB.out.trans (hb.mono HB.out.size))
  clear hb
  generalize (w2.alloc (.cells #[.int .i64 1, .int .i64 i, .bool false, .string ⟨#[]⟩] 57)) = v2 at *
  generalize w2.heap.size = g2 at *
  obtain ⟨⟨q0, q1, q2, q3⟩, _⟩ := HV2.out.at
  simp only at q0 q1 q2 q3
  go_upto_region 6 with (go_at_call 30; refine (T1.out _).mono ?_; rintro e w3 ⟨rfl, hb⟩; replace HV2 := Lib.hid (HV2.out.below hb); replace HB := Lib.hid (HB.out.trans (hb.mono HB.out.size)); clear hb q0 q1 q2 q3)
  change Code.wp _ _ _ _ (w3.alloc (.cells #[.int .i64 1, .int .i64 c, .bool false, .string ⟨#[]⟩] 57))
  have HV3 := Lib.hid (show Slot (w3.alloc (.cells #[.int .i64 1, .int .i64 c, .bool false, .string ⟨#[]⟩] 57)) w3.heap.size ⟨1, c, false, ByteArray.empty⟩ from Slot.new w3 ⟨1, c, false, ByteArray.empty⟩)
  have hb : Below w3.heap.size w3 (w3.alloc (.cells #[.int .i64 1, .int .i64 c, .bool false, .string ⟨#[]⟩] 57)) := (Below.refl _ _).alloc (Nat.le_refl _) _
  replace HB := Lib.hid (HB.out.trans (hb.mono HB.out.size))
  replace HV2 := Lib.hid (HV2.out.below hb)
  clear hb
  generalize (w3.alloc (.cells #[.int .i64 1, .int .i64 c, .bool false, .string ⟨#[]⟩] 57)) = v3 at *
  generalize w3.heap.size = g3 at *
  obtain ⟨⟨q0, q1, q2, q3⟩, _⟩ := HV2.out.at
  obtain ⟨⟨r0, r1, r2, r3⟩, _⟩ := HV3.out.at
  simp only at q0 q1 q2 q3 r0 r1 r2 r3
  go_upto_region 8 with (go_at_call 19; refine (num_any _ _).mono ?_; rintro e wn ⟨rfl, rfl⟩)
  clear r0 r1 r2 r3 HV3
  go_upto_region 9 with fail
  obtain ⟨v4, hv4⟩ : ∃ x, x = v3.alloc (.cells #[.int .i64 0, .int .i64 2, .int .i64 K] 55) := ⟨_, rfl⟩
  change Code.wp _ _ _ _ (v3.alloc (.cells #[.int .i64 0, .int .i64 2, .int .i64 K] 55))
  have HF := Lib.hid (show FdAt v4 v3.heap.size 0 ⟨0, 2, K⟩ by rw [hv4]; exact FdAt.new v3 ⟨0, 2, K⟩)
  have hb : Below v3.heap.size v3 v4 := by rw [hv4]; exact (Below.refl _ _).alloc (Nat.le_refl _) _
  replace HB := Lib.hid (HB.out.trans (hb.mono HB.out.size))
  replace HV2 := Lib.hid (HV2.out.below hb)
  rw [← hv4]
  clear hv4 hb q0 q1 q2 q3
  generalize v3.heap.size = gf at *
  obtain ⟨⟨q0, q1, q2, q3⟩, _⟩ := HV2.out.at
  obtain ⟨p0, p1, p2⟩ := HF.out
  simp only [Nat.zero_add] at q0 q1 q2 q3 p0 p1 p2
  go_upto_region 10 with (go_at_call 30; refine (T2.out _).mono ?_; rintro e w5 ⟨rfl, hb⟩; replace HV2 := Lib.hid (HV2.out.below hb); replace HF := Lib.hid (HF.out.below hb); replace HB := Lib.hid (HB.out.trans (hb.mono HB.out.size)); clear hb q0 q1 q2 q3 p0 p1 p2)
  change Code.wp _ _ _ _ (w5.alloc (.cells #[.int .i64 1, .int .i64 (-9223372036854775808), .bool false, .string ⟨#[]⟩] 57))
  have HV5 := Lib.hid (show Slot (w5.alloc (.cells #[.int .i64 1, .int .i64 (-9223372036854775808), .bool false, .string ⟨#[]⟩] 57)) w5.heap.size ⟨1, -9223372036854775808, false, ByteArray.empty⟩ from Slot.new w5 ⟨1, -9223372036854775808, false, ByteArray.empty⟩)
  have hb : Below w5.heap.size w5 (w5.alloc (.cells #[.int .i64 1, .int .i64 (-9223372036854775808), .bool false, .string ⟨#[]⟩] 57)) := (Below.refl _ _).alloc (Nat.le_refl _) _
  replace HB := Lib.hid (HB.out.trans (hb.mono HB.out.size))
  replace HV2 := Lib.hid (HV2.out.below hb)
  replace HF := Lib.hid (HF.out.below hb)
  clear hb
  generalize (w5.alloc (.cells #[.int .i64 1, .int .i64 (-9223372036854775808), .bool false, .string ⟨#[]⟩] 57)) = v5 at *
  generalize w5.heap.size = g5 at *
  obtain ⟨⟨q0, q1, q2, q3⟩, _⟩ := HV2.out.at
  obtain ⟨⟨r0, r1, r2, r3⟩, _⟩ := HV5.out.at
  obtain ⟨p0, p1, p2⟩ := HF.out
  simp only [Nat.zero_add] at q0 q1 q2 q3 r0 r1 r2 r3 p0 p1 p2
  go_upto_region 12 with (go_at_call 19; refine (num_any _ _).mono ?_; rintro e wn ⟨rfl, rfl⟩)
  go_upto_region 13 with (go_at_call 30; refine (T3.out _).mono ?_; rintro e w6 ⟨rfl, hb⟩; replace HV2 := Lib.hid (HV2.out.below hb); replace HV5 := Lib.hid (HV5.out.below hb); replace HB := Lib.hid (HB.out.trans (hb.mono HB.out.size)); clear hb q0 q1 q2 q3 p0 p1 p2 r0 r1 r2 r3 HF)
  change Code.wp _ _ _ _ (w6.alloc (.cells #[.int .i64 1, .int .i64 fl, .bool false, .string ⟨#[]⟩] 57))
  have HV6 := Lib.hid (show Slot (w6.alloc (.cells #[.int .i64 1, .int .i64 fl, .bool false, .string ⟨#[]⟩] 57)) w6.heap.size ⟨1, fl, false, ByteArray.empty⟩ from Slot.new w6 ⟨1, fl, false, ByteArray.empty⟩)
  have hb : Below w6.heap.size w6 (w6.alloc (.cells #[.int .i64 1, .int .i64 fl, .bool false, .string ⟨#[]⟩] 57)) := (Below.refl _ _).alloc (Nat.le_refl _) _
  replace HB := Lib.hid (HB.out.trans (hb.mono HB.out.size))
  replace HV2 := Lib.hid (HV2.out.below hb)
  replace HV5 := Lib.hid (HV5.out.below hb)
  clear hb
  generalize (w6.alloc (.cells #[.int .i64 1, .int .i64 fl, .bool false, .string ⟨#[]⟩] 57)) = v6 at *
  generalize w6.heap.size = g6 at *
  obtain ⟨⟨q0, q1, q2, q3⟩, _⟩ := HV2.out.at
  obtain ⟨⟨r0, r1, r2, r3⟩, _⟩ := HV5.out.at
  obtain ⟨⟨p0, p1, p2, p3⟩, _⟩ := HV6.out.at
  simp only at q0 q1 q2 q3 r0 r1 r2 r3 p0 p1 p2 p3
  have heq := run_eql_val ⟨1, fl, false, ByteArray.empty⟩ ⟨1, -9223372036854775808, false, ByteArray.empty⟩
  rw [decide_eq_false (fun h => hne (congrArg V.i h) : ¬ (⟨1, fl, false, ByteArray.empty⟩ : V) = ⟨1, -9223372036854775808, false, ByteArray.empty⟩)] at heq
  simp only at heq
  have hO2 : decide (O ≤ 0) = true := decide_eq_true hO
  go_upto_region 14 with fail
  go_wp2_with (first
    | (go_at_call 19; refine (num_any _ _).mono ?_; rintro e wn ⟨rfl, rfl⟩)
    | (go_at_call 47; refine (T4.out _).mono ?_; rintro e w7 ⟨rfl, hb⟩; replace HB := Lib.hid (HB.out.trans (hb.mono HB.out.size)); clear hb))
  go_ret
  exact ⟨rfl, HB.out⟩
end Go.Proofs.Ythfakpekdjmpjaa
