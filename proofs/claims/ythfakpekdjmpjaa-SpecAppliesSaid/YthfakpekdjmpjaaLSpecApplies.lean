/- Any field, any value: the walk. -/
import Derived.Test.YthfakpekdjmpjaaSpcW
import Derived.Test.YthfakpekdjmpjaaSpcZ
namespace Go.Proofs.Ythfakpekdjmpjaa
open Go.Conc Go.RowKit
set_option linter.unusedVariables false
set_option linter.unusedSimpArgs false

set_option maxRecDepth 100000 in
set_option maxHeartbeats 4000000 in
theorem specapplies_walk (f : Fd) (v : V) {W : World} (hf : InFd f) (hs : v.s.size ≤ 140737488351232) (hk : -9223372036854775808 ≤ v.k ∧ v.k < 9223372036854775808) (hi : -9223372036854775808 ≤ v.i ∧ v.i < 9223372036854775808) :
    Calls Try.prog 7 #[.agg #[.int .i64 f.src, .int .i64 f.tr, .int .i64 f.par], .agg #[.int .i64 v.k, .int .i64 v.i, .bool v.b, .string v.s]] W fun e w' => e = .returned (.bool true) ∧ Below W.heap.size W w' := by
  obtain ⟨u1, hu1⟩ : ∃ u, u = W.alloc (.cells #[.int .i64 f.src, .int .i64 f.tr, .int .i64 f.par] 55) := ⟨_, rfl⟩
  obtain ⟨u, hu⟩ : ∃ u, u = u1.alloc (.cells #[.int .i64 v.k, .int .i64 v.i, .bool v.b, .string v.s] 57) := ⟨_, rfl⟩
  have z1 : u1.heap.size = W.heap.size + 1 := by rw [hu1]; simp
  have b1 : Below W.heap.size W u1 := by rw [hu1]; exact (Below.refl _ _).alloc (Nat.le_refl _) _
  have b2 : Below u1.heap.size u1 u := by rw [hu]; exact (Below.refl _ _).alloc (Nat.le_refl _) _
  have hf1 : FdAt u1 W.heap.size 0 f := by rw [hu1]; exact FdAt.new W f
  have hv1 : Slot u (W.heap.size + 1) v := by rw [hu, ← z1]; exact Slot.new u1 v
  have HF := Lib.hid (hf1.below b2)
  have HV := Lib.hid hv1
  have HB := Lib.hid (b1.trans (b2.mono b1.size))
  have hw : (W.alloc (.cells #[.int .i64 f.src, .int .i64 f.tr, .int .i64 f.par] 55)).alloc (.cells #[.int .i64 v.k, .int .i64 v.i, .bool v.b, .string v.s] 57) = u := by rw [hu, hu1]
  have T1 := Lib.hid (fun x => apply_any f v hi (by omega) x)
  have T2 := Lib.hid (fun x => refapply_any f v hi (by omega) x)
  have T3 := Lib.hid (fun x => specawake_any x)
  generalize applyA f v = R at *
  obtain ⟨r, z⟩ := R
  clear hu hu1 z1 b1 b2 hf1 hv1 hf hs hk hi
  go_enter Try.func7, Try.ntmps7
  go_upto_region 1 with fail
  clear hw
  obtain ⟨p0, p1, p2⟩ := HF.out
  obtain ⟨⟨q0, q1, q2, q3⟩, _⟩ := HV.out.at
  go_upto_region 2 with (go_at_call 30; refine (T1.out _).mono ?_; rintro e w1 ⟨rfl, hb⟩; have HB1 := Lib.hid hb; clear hb p0 p1 p2 q0 q1 q2 q3)
  change Code.wp _ _ _ _ (w1.alloc (.cells #[.int .i64 r.k, .int .i64 r.i, .bool r.b, .string r.s] 57))
  have HR1 := Lib.hid (Slot.new w1 r)
  have hb := HB1.out.trans (((Below.refl _ _).alloc (Nat.le_refl _) (.cells #[.int .i64 r.k, .int .i64 r.i, .bool r.b, .string r.s] 57)).mono HB1.out.size)
  replace HB1 := Lib.hid hb
  change Hid (Below u.heap.size u (w1.alloc (.cells #[.int .i64 r.k, .int .i64 r.i, .bool r.b, .string r.s] 57))) at HB1
  clear hb
  generalize w1.alloc (.cells #[.int .i64 r.k, .int .i64 r.i, .bool r.b, .string r.s] 57) = v1 at *
  generalize w1.heap.size = g1 at *
  obtain ⟨p0, p1, p2⟩ := HF.out.below HB1.out
  obtain ⟨⟨q0, q1, q2, q3⟩, _⟩ := (HV.out.below HB1.out).at
  go_upto_region 3 with (go_at_call 31; refine (T2.out _).mono ?_; rintro e w2 ⟨rfl, hb⟩; have HB2 := Lib.hid (HB1.out.trans (hb.mono HB1.out.size)); replace HR1 := Lib.hid (HR1.out.below hb); clear hb p0 p1 p2 q0 q1 q2 q3)
  change Code.wp _ _ _ _ (w2.alloc (.cells #[.int .i64 r.k, .int .i64 r.i, .bool r.b, .string r.s] 57))
  have HR2 := Lib.hid (Slot.new w2 r)
  have hb : Below w2.heap.size w2 (w2.alloc (.cells #[.int .i64 r.k, .int .i64 r.i, .bool r.b, .string r.s] 57)) := (Below.refl _ _).alloc (Nat.le_refl _) _
  replace HB2 := Lib.hid (HB2.out.trans (hb.mono HB2.out.size))
  replace HR1 := Lib.hid (HR1.out.below hb)
  clear hb
  generalize w2.alloc (.cells #[.int .i64 r.k, .int .i64 r.i, .bool r.b, .string r.s] 57) = v2 at *
  generalize w2.heap.size = g2 at *
  obtain ⟨⟨p0, p1, p2, p3⟩, _⟩ := HR1.out.at
  obtain ⟨⟨q0, q1, q2, q3⟩, _⟩ := HR2.out.at
  have heq := run_eql_val r r
  rw [decide_eq_true (rfl : r = r)] at heq
  go_wp2_with (first
    | (go_at_call 19; refine (num_any _ _).mono ?_; rintro e wn ⟨rfl, rfl⟩)
    | (go_at_call 32; refine (T3.out _).mono ?_; rintro e w3 ⟨rfl, hb⟩; have HB3 := Lib.hid (HB2.out.trans (hb.mono HB2.out.size)); clear hb))
  go_ret
  exact ⟨rfl, HB.out.trans (HB3.out.mono HB.out.size)⟩
end Go.Proofs.Ythfakpekdjmpjaa
