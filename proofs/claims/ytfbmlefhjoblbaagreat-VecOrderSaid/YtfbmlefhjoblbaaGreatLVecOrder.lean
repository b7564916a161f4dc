/- An order: the walk of the law. -/
import Derived.Test.YtfbmlefhjoblbaaGreatVAwake
import Derived.Test.YtfbmlefhjoblbaaGreatVClean
import Derived.Test.YtfbmlefhjoblbaaGreatBits
import Derived.Test.YtfbmlefhjoblbaaGreatOwn
namespace Go.Proofs.YtfbmlefhjoblbaaGreat
open Go.Conc Go.RowKit
set_option linter.unusedVariables false
set_option linter.unusedSimpArgs false

/-- Three values in memory. -/
structure Tri (u : World) (g1 g2 g3 : Nat) (x y z : V) : Prop where
  a : Slot u g1 x
  b : Slot u g2 y
  c : Slot u g3 z
theorem Tri.below {u u' : World} {g1 g2 g3 : Nat} {x y z : V} (h : Tri u g1 g2 g3 x y z) (hb : Below u.heap.size u u') : Tri u' g1 g2 g3 x y z := ⟨h.a.below hb, h.b.below hb, h.c.below hb⟩
theorem vecless_is (p q : V) (b : Bool) (h : decide (ordV p q < 0) = b) (u : World) : Calls Tryz.prog 19 #[.agg #[.int .i64 p.k, .int .i64 p.i, .bool p.b, .string p.s], .agg #[.int .i64 q.k, .int .i64 q.i, .bool q.b, .string q.s]] u fun e w' => e = .returned (.bool b) ∧ Below u.heap.size u w' := by rw [← h]; exact vecless_any p q u

set_option maxRecDepth 100000 in
set_option maxHeartbeats 8000000 in
theorem vecorder_a (x y z : V) (w : World) (h1 : ordV x y < 0) (h2 : ordV y z < 0) :
    Calls Tryz.prog 6 #[.agg #[.int .i64 x.k, .int .i64 x.i, .bool x.b, .string x.s], .agg #[.int .i64 y.k, .int .i64 y.i, .bool y.b, .string y.s], .agg #[.int .i64 z.k, .int .i64 z.i, .bool z.b, .string z.s]] w fun e w' => e = .returned (.bool true) ∧ Below w.heap.size w w' := by
  have Txy := Lib.hid (fun u => vecless_any x y u)
  have Tyx := Lib.hid (fun u => vecless_any y x u)
  have Txx := Lib.hid (fun u => vecless_any x x u)
  have Tyz := Lib.hid (fun u => vecless_any y z u)
  have Txz := Lib.hid (fun u => vecless_any x z u)
  have hsm := ord_same x y
  have K1 := Lib.hid True.intro
  have K2 := Lib.hid True.intro
  have K3 := Lib.hid True.intro
  have K4 := Lib.hid True.intro
  have K5 := Lib.hid True.intro
  have K6 := Lib.hid True.intro
  have K11 := Lib.hid True.intro
  rw [decide_eq_false (ord_refl x)] at Txx
  rw [decide_eq_true h1] at Txy
  rw [decide_eq_false (ord_asym x y h1)] at Tyx
  rw [decide_eq_true h2] at Tyz
  rw [decide_eq_true (ord_trans x y z h1 h2)] at Txz
  have T8 := Lib.hid vecawake_any
  have TC : Hid (∀ (v p : V) (u : World), (v = x ∧ p = plainV x ∨ v = y ∧ p = plainV y) → Calls Tryz.prog 27 #[.agg #[.int .i64 v.k, .int .i64 v.i, .bool v.b, .string v.s]] u fun e w' => e = .returned (.agg #[.int .i64 p.k, .int .i64 p.i, .bool p.b, .string p.s]) ∧ Below u.heap.size u w') := fun v p u h => by
    rcases h with ⟨rfl, rfl⟩ | ⟨rfl, rfl⟩ <;> exact rclean_any _ u
  have hq := run_eql_val (plainV x) (plainV y)
  rw [decide_eq_false (show ¬ plainV x = plainV y from fun e => absurd h1 (hsm.1 e).1)] at hq
  have HQQ := Lib.hid hq
  obtain ⟨u1, hu1⟩ : ∃ u1, u1 = (((w.alloc (.cells #[.int .i64 x.k, .int .i64 x.i, .bool x.b, .string x.s] 24)).alloc (.cells #[.int .i64 y.k, .int .i64 y.i, .bool y.b, .string y.s] 24)).alloc (.cells #[.int .i64 z.k, .int .i64 z.i, .bool z.b, .string z.s] 24)) := ⟨_, rfl⟩
  have hb1 : Below w.heap.size w u1 := by rw [hu1]; exact (((Below.refl _ w).alloc (Nat.le_refl _) _).alloc (by simp) _).alloc (by simp; omega) _
  have s1 : Slot u1 w.heap.size x := by rw [hu1]; exact ((Slot.new w x).alloc _).alloc _
  have s2 : Slot u1 (w.heap.size + 1) y := by
    have := Slot.new (w.alloc (.cells #[.int .i64 x.k, .int .i64 x.i, .bool x.b, .string x.s] 24)) y
    rw [show (w.alloc (.cells #[.int .i64 x.k, .int .i64 x.i, .bool x.b, .string x.s] 24)).heap.size = w.heap.size + 1 by simp] at this
    rw [hu1]; exact this.alloc _
  have s3 : Slot u1 (w.heap.size + 1 + 1) z := by
    have := Slot.new ((w.alloc (.cells #[.int .i64 x.k, .int .i64 x.i, .bool x.b, .string x.s] 24)).alloc (.cells #[.int .i64 y.k, .int .i64 y.i, .bool y.b, .string y.s] 24)) z
    rw [show ((w.alloc (.cells #[.int .i64 x.k, .int .i64 x.i, .bool x.b, .string x.s] 24)).alloc (.cells #[.int .i64 y.k, .int .i64 y.i, .bool y.b, .string y.s] 24)).heap.size = w.heap.size + 1 + 1 by simp] at this
    rw [hu1]; exact this
  have HB := Lib.hid hb1
  have H : Hid (Tri u1 w.heap.size (w.heap.size + 1) (w.heap.size + 1 + 1) x y z) := ⟨s1, s2, s3⟩
  clear hb1 s1 s2 s3 hsm hq h1 h2
  generalize plainV x = px at *
  generalize plainV y = py at *
  go_enter Tryz.func6, Tryz.ntmps6
  go_upto_region 1 with fail
  rw [← hu1]
  clear hu1
  generalize w.heap.size + 1 + 1 = g3 at *
  generalize w.heap.size + 1 = g2 at *
  go_upto_region 3 with (go_at_call 21; refine (T8.out _).mono ?_; rintro e w2 ⟨rfl, hb⟩; replace HB := Lib.hid (HB.out.trans (hb.mono HB.out.size)); replace H := Lib.hid (H.out.below hb); clear hb)
  obtain ⟨⟨a0, a1, a2, a3⟩, _⟩ := H.out.a.at
  obtain ⟨⟨b0, b1, b2, b3⟩, _⟩ := H.out.b.at
  obtain ⟨⟨c0, c1, c2, c3⟩, _⟩ := H.out.c.at
  go_upto_region 5 with (first
    | (have hk := K1.out; clear hk K1; go_at_call 19; refine (Txy.out _).mono ?_; rintro e w2 ⟨rfl, hb⟩; replace HB := Lib.hid (HB.out.trans (hb.mono HB.out.size)); replace H := Lib.hid (H.out.below hb); clear hb a0 a1 a2 a3 b0 b1 b2 b3 c0 c1 c2 c3; obtain ⟨⟨a0, a1, a2, a3⟩, _⟩ := H.out.a.at; obtain ⟨⟨b0, b1, b2, b3⟩, _⟩ := H.out.b.at; obtain ⟨⟨c0, c1, c2, c3⟩, _⟩ := H.out.c.at)
    | (have hk := K2.out; clear hk K2; go_at_call 19; refine (Tyx.out _).mono ?_; rintro e w2 ⟨rfl, hb⟩; replace HB := Lib.hid (HB.out.trans (hb.mono HB.out.size)); replace H := Lib.hid (H.out.below hb); clear hb a0 a1 a2 a3 b0 b1 b2 b3 c0 c1 c2 c3; obtain ⟨⟨a0, a1, a2, a3⟩, _⟩ := H.out.a.at; obtain ⟨⟨b0, b1, b2, b3⟩, _⟩ := H.out.b.at; obtain ⟨⟨c0, c1, c2, c3⟩, _⟩ := H.out.c.at)
    | (have hk := K3.out; clear hk K3; go_at_call 19; refine (Txx.out _).mono ?_; rintro e w2 ⟨rfl, hb⟩; replace HB := Lib.hid (HB.out.trans (hb.mono HB.out.size)); replace H := Lib.hid (H.out.below hb); clear hb a0 a1 a2 a3 b0 b1 b2 b3 c0 c1 c2 c3; obtain ⟨⟨a0, a1, a2, a3⟩, _⟩ := H.out.a.at; obtain ⟨⟨b0, b1, b2, b3⟩, _⟩ := H.out.b.at; obtain ⟨⟨c0, c1, c2, c3⟩, _⟩ := H.out.c.at)
    | (have hk := K4.out; clear hk K4; go_at_call 19; refine (Txy.out _).mono ?_; rintro e w2 ⟨rfl, hb⟩; replace HB := Lib.hid (HB.out.trans (hb.mono HB.out.size)); replace H := Lib.hid (H.out.below hb); clear hb a0 a1 a2 a3 b0 b1 b2 b3 c0 c1 c2 c3; obtain ⟨⟨a0, a1, a2, a3⟩, _⟩ := H.out.a.at; obtain ⟨⟨b0, b1, b2, b3⟩, _⟩ := H.out.b.at; obtain ⟨⟨c0, c1, c2, c3⟩, _⟩ := H.out.c.at)
    | (have hk := K5.out; clear hk K5; go_at_call 19; refine (Tyz.out _).mono ?_; rintro e w2 ⟨rfl, hb⟩; replace HB := Lib.hid (HB.out.trans (hb.mono HB.out.size)); replace H := Lib.hid (H.out.below hb); clear hb a0 a1 a2 a3 b0 b1 b2 b3 c0 c1 c2 c3; obtain ⟨⟨a0, a1, a2, a3⟩, _⟩ := H.out.a.at; obtain ⟨⟨b0, b1, b2, b3⟩, _⟩ := H.out.b.at; obtain ⟨⟨c0, c1, c2, c3⟩, _⟩ := H.out.c.at)
    | (have hk := K6.out; clear hk K6; go_at_call 19; refine (Txz.out _).mono ?_; rintro e w2 ⟨rfl, hb⟩; replace HB := Lib.hid (HB.out.trans (hb.mono HB.out.size)); replace H := Lib.hid (H.out.below hb); clear hb a0 a1 a2 a3 b0 b1 b2 b3 c0 c1 c2 c3; obtain ⟨⟨a0, a1, a2, a3⟩, _⟩ := H.out.a.at; obtain ⟨⟨b0, b1, b2, b3⟩, _⟩ := H.out.b.at; obtain ⟨⟨c0, c1, c2, c3⟩, _⟩ := H.out.c.at))
  clear a0 a1 a2 a3 b0 b1 b2 b3 c0 c1 c2 c3
  refine region_class (fun w' => Below w2.heap.size w2 w') (by kernel_rfl) (by kernel_rfl) (Below.refl _ _).drew ?_
  have hq := HQQ.out
  repeat (
    refine wpQuiet_step (fun K9 hK => ?_)
    go_simp
    first
    | (refine hK _ ?_; clear hK K9)
    | (apply Exists.intro
       refine ⟨fun w1 hw1 => ?_, hK _ ?_⟩
       (first
         | (exact rfl)
         | (go_at_call 27; refine (TC.out _ _ _ (by first | exact .inl ⟨rfl, rfl⟩ | exact .inr ⟨rfl, rfl⟩)).mono ?_; exact fun e w2 ⟨he, hb⟩ => ⟨he, hw1.trans (hb.mono hw1.size)⟩)
         | (obtain ⟨⟨p0, p1, p2, p3⟩, _⟩ := (H.out.below hw1).a.at; simp only [p0, p1, p2, p3, Result.andThen]; exact ⟨trivial, rfl⟩)
         | (obtain ⟨⟨p0, p1, p2, p3⟩, _⟩ := (H.out.below hw1).b.at; simp only [p0, p1, p2, p3, Result.andThen]; exact ⟨trivial, rfl⟩)
         | (exact ⟨trivial, rfl⟩))
       clear hK K9))
  refine wpQuiet_nil ?_
  intro w8 hw8
  replace HB := Lib.hid (HB.out.trans (hw8.mono HB.out.size))
  replace H := Lib.hid (H.out.below hw8)
  clear hw8 hq
  obtain ⟨⟨a0, a1, a2, a3⟩, _⟩ := H.out.a.at
  obtain ⟨⟨b0, b1, b2, b3⟩, _⟩ := H.out.b.at
  obtain ⟨⟨c0, c1, c2, c3⟩, _⟩ := H.out.c.at
  go_wp2_with (first
    | (have hk := K11.out; clear hk K11; go_at_call 19; refine (Txy.out _).mono ?_; rintro e w2 ⟨rfl, hb⟩; replace HB := Lib.hid (HB.out.trans (hb.mono HB.out.size)); replace H := Lib.hid (H.out.below hb); clear hb a0 a1 a2 a3 b0 b1 b2 b3 c0 c1 c2 c3; obtain ⟨⟨a0, a1, a2, a3⟩, _⟩ := H.out.a.at; obtain ⟨⟨b0, b1, b2, b3⟩, _⟩ := H.out.b.at; obtain ⟨⟨c0, c1, c2, c3⟩, _⟩ := H.out.c.at))
  go_ret
  exact ⟨rfl, HB.out⟩
set_option maxRecDepth 100000 in
set_option maxHeartbeats 8000000 in
theorem vecorder_b (x y z : V) (w : World) (h1 : ordV x y < 0) (h2 : ¬ ordV y z < 0) :
    Calls Tryz.prog 6 #[.agg #[.int .i64 x.k, .int .i64 x.i, .bool x.b, .string x.s], .agg #[.int .i64 y.k, .int .i64 y.i, .bool y.b, .string y.s], .agg #[.int .i64 z.k, .int .i64 z.i, .bool z.b, .string z.s]] w fun e w' => e = .returned (.bool true) ∧ Below w.heap.size w w' := by
  have Txy := Lib.hid (fun u => vecless_any x y u)
  have Tyx := Lib.hid (fun u => vecless_any y x u)
  have Txx := Lib.hid (fun u => vecless_any x x u)
  have Tyz := Lib.hid (fun u => vecless_any y z u)
  have Txz := Lib.hid (fun u => vecless_any x z u)
  have hsm := ord_same x y
  have K1 := Lib.hid True.intro
  have K2 := Lib.hid True.intro
  have K3 := Lib.hid True.intro
  have K4 := Lib.hid True.intro
  have K5 := Lib.hid True.intro
  have K11 := Lib.hid True.intro
  rw [decide_eq_false (ord_refl x)] at Txx
  rw [decide_eq_true h1] at Txy
  rw [decide_eq_false (ord_asym x y h1)] at Tyx
  rw [decide_eq_false h2] at Tyz
  have T8 := Lib.hid vecawake_any
  have TC : Hid (∀ (v p : V) (u : World), (v = x ∧ p = plainV x ∨ v = y ∧ p = plainV y) → Calls Tryz.prog 27 #[.agg #[.int .i64 v.k, .int .i64 v.i, .bool v.b, .string v.s]] u fun e w' => e = .returned (.agg #[.int .i64 p.k, .int .i64 p.i, .bool p.b, .string p.s]) ∧ Below u.heap.size u w') := fun v p u h => by
    rcases h with ⟨rfl, rfl⟩ | ⟨rfl, rfl⟩ <;> exact rclean_any _ u
  have hq := run_eql_val (plainV x) (plainV y)
  rw [decide_eq_false (show ¬ plainV x = plainV y from fun e => absurd h1 (hsm.1 e).1)] at hq
  have HQQ := Lib.hid hq
  obtain ⟨u1, hu1⟩ : ∃ u1, u1 = (((w.alloc (.cells #[.int .i64 x.k, .int .i64 x.i, .bool x.b, .string x.s] 24)).alloc (.cells #[.int .i64 y.k, .int .i64 y.i, .bool y.b, .string y.s] 24)).alloc (.cells #[.int .i64 z.k, .int .i64 z.i, .bool z.b, .string z.s] 24)) := ⟨_, rfl⟩
  have hb1 : Below w.heap.size w u1 := by rw [hu1]; exact (((Below.refl _ w).alloc (Nat.le_refl _) _).alloc (by simp) _).alloc (by simp; omega) _
  have s1 : Slot u1 w.heap.size x := by rw [hu1]; exact ((Slot.new w x).alloc _).alloc _
  have s2 : Slot u1 (w.heap.size + 1) y := by
    have := Slot.new (w.alloc (.cells #[.int .i64 x.k, .int .i64 x.i, .bool x.b, .string x.s] 24)) y
    rw [show (w.alloc (.cells #[.int .i64 x.k, .int .i64 x.i, .bool x.b, .string x.s] 24)).heap.size = w.heap.size + 1 by simp] at this
    rw [hu1]; exact this.alloc _
  have s3 : Slot u1 (w.heap.size + 1 + 1) z := by
    have := Slot.new ((w.alloc (.cells #[.int .i64 x.k, .int .i64 x.i, .bool x.b, .string x.s] 24)).alloc (.cells #[.int .i64 y.k, .int .i64 y.i, .bool y.b, .string y.s] 24)) z
    rw [show ((w.alloc (.cells #[.int .i64 x.k, .int .i64 x.i, .bool x.b, .string x.s] 24)).alloc (.cells #[.int .i64 y.k, .int .i64 y.i, .bool y.b, .string y.s] 24)).heap.size = w.heap.size + 1 + 1 by simp] at this
    rw [hu1]; exact this
  have HB := Lib.hid hb1
  have H : Hid (Tri u1 w.heap.size (w.heap.size + 1) (w.heap.size + 1 + 1) x y z) := ⟨s1, s2, s3⟩
  clear hb1 s1 s2 s3 hsm hq h1 h2
  generalize plainV x = px at *
  generalize plainV y = py at *
  go_enter Tryz.func6, Tryz.ntmps6
  go_upto_region 1 with fail
  rw [← hu1]
  clear hu1
  generalize w.heap.size + 1 + 1 = g3 at *
  generalize w.heap.size + 1 = g2 at *
  go_upto_region 3 with (go_at_call 21; refine (T8.out _).mono ?_; rintro e w2 ⟨rfl, hb⟩; replace HB := Lib.hid (HB.out.trans (hb.mono HB.out.size)); replace H := Lib.hid (H.out.below hb); clear hb)
  obtain ⟨⟨a0, a1, a2, a3⟩, _⟩ := H.out.a.at
  obtain ⟨⟨b0, b1, b2, b3⟩, _⟩ := H.out.b.at
  obtain ⟨⟨c0, c1, c2, c3⟩, _⟩ := H.out.c.at
  go_upto_region 5 with (first
    | (have hk := K1.out; clear hk K1; go_at_call 19; refine (Txy.out _).mono ?_; rintro e w2 ⟨rfl, hb⟩; replace HB := Lib.hid (HB.out.trans (hb.mono HB.out.size)); replace H := Lib.hid (H.out.below hb); clear hb a0 a1 a2 a3 b0 b1 b2 b3 c0 c1 c2 c3; obtain ⟨⟨a0, a1, a2, a3⟩, _⟩ := H.out.a.at; obtain ⟨⟨b0, b1, b2, b3⟩, _⟩ := H.out.b.at; obtain ⟨⟨c0, c1, c2, c3⟩, _⟩ := H.out.c.at)
    | (have hk := K2.out; clear hk K2; go_at_call 19; refine (Tyx.out _).mono ?_; rintro e w2 ⟨rfl, hb⟩; replace HB := Lib.hid (HB.out.trans (hb.mono HB.out.size)); replace H := Lib.hid (H.out.below hb); clear hb a0 a1 a2 a3 b0 b1 b2 b3 c0 c1 c2 c3; obtain ⟨⟨a0, a1, a2, a3⟩, _⟩ := H.out.a.at; obtain ⟨⟨b0, b1, b2, b3⟩, _⟩ := H.out.b.at; obtain ⟨⟨c0, c1, c2, c3⟩, _⟩ := H.out.c.at)
    | (have hk := K3.out; clear hk K3; go_at_call 19; refine (Txx.out _).mono ?_; rintro e w2 ⟨rfl, hb⟩; replace HB := Lib.hid (HB.out.trans (hb.mono HB.out.size)); replace H := Lib.hid (H.out.below hb); clear hb a0 a1 a2 a3 b0 b1 b2 b3 c0 c1 c2 c3; obtain ⟨⟨a0, a1, a2, a3⟩, _⟩ := H.out.a.at; obtain ⟨⟨b0, b1, b2, b3⟩, _⟩ := H.out.b.at; obtain ⟨⟨c0, c1, c2, c3⟩, _⟩ := H.out.c.at)
    | (have hk := K4.out; clear hk K4; go_at_call 19; refine (Txy.out _).mono ?_; rintro e w2 ⟨rfl, hb⟩; replace HB := Lib.hid (HB.out.trans (hb.mono HB.out.size)); replace H := Lib.hid (H.out.below hb); clear hb a0 a1 a2 a3 b0 b1 b2 b3 c0 c1 c2 c3; obtain ⟨⟨a0, a1, a2, a3⟩, _⟩ := H.out.a.at; obtain ⟨⟨b0, b1, b2, b3⟩, _⟩ := H.out.b.at; obtain ⟨⟨c0, c1, c2, c3⟩, _⟩ := H.out.c.at)
    | (have hk := K5.out; clear hk K5; go_at_call 19; refine (Tyz.out _).mono ?_; rintro e w2 ⟨rfl, hb⟩; replace HB := Lib.hid (HB.out.trans (hb.mono HB.out.size)); replace H := Lib.hid (H.out.below hb); clear hb a0 a1 a2 a3 b0 b1 b2 b3 c0 c1 c2 c3; obtain ⟨⟨a0, a1, a2, a3⟩, _⟩ := H.out.a.at; obtain ⟨⟨b0, b1, b2, b3⟩, _⟩ := H.out.b.at; obtain ⟨⟨c0, c1, c2, c3⟩, _⟩ := H.out.c.at))
  clear a0 a1 a2 a3 b0 b1 b2 b3 c0 c1 c2 c3
  refine region_class (fun w' => Below w2.heap.size w2 w') (by kernel_rfl) (by kernel_rfl) (Below.refl _ _).drew ?_
  have hq := HQQ.out
  repeat (
    refine wpQuiet_step (fun K9 hK => ?_)
    go_simp
    first
    | (refine hK _ ?_; clear hK K9)
    | (apply Exists.intro
       refine ⟨fun w1 hw1 => ?_, hK _ ?_⟩
       (first
         | (exact rfl)
         | (go_at_call 27; refine (TC.out _ _ _ (by first | exact .inl ⟨rfl, rfl⟩ | exact .inr ⟨rfl, rfl⟩)).mono ?_; exact fun e w2 ⟨he, hb⟩ => ⟨he, hw1.trans (hb.mono hw1.size)⟩)
         | (obtain ⟨⟨p0, p1, p2, p3⟩, _⟩ := (H.out.below hw1).a.at; simp only [p0, p1, p2, p3, Result.andThen]; exact ⟨trivial, rfl⟩)
         | (obtain ⟨⟨p0, p1, p2, p3⟩, _⟩ := (H.out.below hw1).b.at; simp only [p0, p1, p2, p3, Result.andThen]; exact ⟨trivial, rfl⟩)
         | (exact ⟨trivial, rfl⟩))
       clear hK K9))
  refine wpQuiet_nil ?_
  intro w8 hw8
  replace HB := Lib.hid (HB.out.trans (hw8.mono HB.out.size))
  replace H := Lib.hid (H.out.below hw8)
  clear hw8 hq
  obtain ⟨⟨a0, a1, a2, a3⟩, _⟩ := H.out.a.at
  obtain ⟨⟨b0, b1, b2, b3⟩, _⟩ := H.out.b.at
  obtain ⟨⟨c0, c1, c2, c3⟩, _⟩ := H.out.c.at
  go_wp2_with (first
    | (have hk := K11.out; clear hk K11; go_at_call 19; refine (Txy.out _).mono ?_; rintro e w2 ⟨rfl, hb⟩; replace HB := Lib.hid (HB.out.trans (hb.mono HB.out.size)); replace H := Lib.hid (H.out.below hb); clear hb a0 a1 a2 a3 b0 b1 b2 b3 c0 c1 c2 c3; obtain ⟨⟨a0, a1, a2, a3⟩, _⟩ := H.out.a.at; obtain ⟨⟨b0, b1, b2, b3⟩, _⟩ := H.out.b.at; obtain ⟨⟨c0, c1, c2, c3⟩, _⟩ := H.out.c.at))
  go_ret
  exact ⟨rfl, HB.out⟩
set_option maxRecDepth 100000 in
set_option maxHeartbeats 8000000 in
theorem vecorder_c (x y z : V) (w : World) (h1 : ¬ ordV x y < 0) (h2 : ordV y x < 0) :
    Calls Tryz.prog 6 #[.agg #[.int .i64 x.k, .int .i64 x.i, .bool x.b, .string x.s], .agg #[.int .i64 y.k, .int .i64 y.i, .bool y.b, .string y.s], .agg #[.int .i64 z.k, .int .i64 z.i, .bool z.b, .string z.s]] w fun e w' => e = .returned (.bool true) ∧ Below w.heap.size w w' := by
  have Txy := Lib.hid (fun u => vecless_any x y u)
  have Tyx := Lib.hid (fun u => vecless_any y x u)
  have Txx := Lib.hid (fun u => vecless_any x x u)
  have Tyz := Lib.hid (fun u => vecless_any y z u)
  have Txz := Lib.hid (fun u => vecless_any x z u)
  have hsm := ord_same x y
  have K1 := Lib.hid True.intro
  have K2 := Lib.hid True.intro
  have K3 := Lib.hid True.intro
  have K11 := Lib.hid True.intro
  have K12 := Lib.hid True.intro
  rw [decide_eq_false (ord_refl x)] at Txx
  rw [decide_eq_false h1] at Txy
  rw [decide_eq_true h2] at Tyx
  have T8 := Lib.hid vecawake_any
  have TC : Hid (∀ (v p : V) (u : World), (v = x ∧ p = plainV x ∨ v = y ∧ p = plainV y) → Calls Tryz.prog 27 #[.agg #[.int .i64 v.k, .int .i64 v.i, .bool v.b, .string v.s]] u fun e w' => e = .returned (.agg #[.int .i64 p.k, .int .i64 p.i, .bool p.b, .string p.s]) ∧ Below u.heap.size u w') := fun v p u h => by
    rcases h with ⟨rfl, rfl⟩ | ⟨rfl, rfl⟩ <;> exact rclean_any _ u
  have hq := run_eql_val (plainV x) (plainV y)
  rw [decide_eq_false (show ¬ plainV x = plainV y from fun e => absurd h2 (hsm.1 e).2)] at hq
  have HQQ := Lib.hid hq
  obtain ⟨u1, hu1⟩ : ∃ u1, u1 = (((w.alloc (.cells #[.int .i64 x.k, .int .i64 x.i, .bool x.b, .string x.s] 24)).alloc (.cells #[.int .i64 y.k, .int .i64 y.i, .bool y.b, .string y.s] 24)).alloc (.cells #[.int .i64 z.k, .int .i64 z.i, .bool z.b, .string z.s] 24)) := ⟨_, rfl⟩
  have hb1 : Below w.heap.size w u1 := by rw [hu1]; exact (((Below.refl _ w).alloc (Nat.le_refl _) _).alloc (by simp) _).alloc (by simp; omega) _
  have s1 : Slot u1 w.heap.size x := by rw [hu1]; exact ((Slot.new w x).alloc _).alloc _
  have s2 : Slot u1 (w.heap.size + 1) y := by
    have := Slot.new (w.alloc (.cells #[.int .i64 x.k, .int .i64 x.i, .bool x.b, .string x.s] 24)) y
    rw [show (w.alloc (.cells #[.int .i64 x.k, .int .i64 x.i, .bool x.b, .string x.s] 24)).heap.size = w.heap.size + 1 by simp] at this
    rw [hu1]; exact this.alloc _
  have s3 : Slot u1 (w.heap.size + 1 + 1) z := by
    have := Slot.new ((w.alloc (.cells #[.int .i64 x.k, .int .i64 x.i, .bool x.b, .string x.s] 24)).alloc (.cells #[.int .i64 y.k, .int .i64 y.i, .bool y.b, .string y.s] 24)) z
    rw [show ((w.alloc (.cells #[.int .i64 x.k, .int .i64 x.i, .bool x.b, .string x.s] 24)).alloc (.cells #[.int .i64 y.k, .int .i64 y.i, .bool y.b, .string y.s] 24)).heap.size = w.heap.size + 1 + 1 by simp] at this
    rw [hu1]; exact this
  have HB := Lib.hid hb1
  have H : Hid (Tri u1 w.heap.size (w.heap.size + 1) (w.heap.size + 1 + 1) x y z) := ⟨s1, s2, s3⟩
  clear hb1 s1 s2 s3 hsm hq h1 h2
  generalize plainV x = px at *
  generalize plainV y = py at *
  go_enter Tryz.func6, Tryz.ntmps6
  go_upto_region 1 with fail
  rw [← hu1]
  clear hu1
  generalize w.heap.size + 1 + 1 = g3 at *
  generalize w.heap.size + 1 = g2 at *
  go_upto_region 3 with (go_at_call 21; refine (T8.out _).mono ?_; rintro e w2 ⟨rfl, hb⟩; replace HB := Lib.hid (HB.out.trans (hb.mono HB.out.size)); replace H := Lib.hid (H.out.below hb); clear hb)
  obtain ⟨⟨a0, a1, a2, a3⟩, _⟩ := H.out.a.at
  obtain ⟨⟨b0, b1, b2, b3⟩, _⟩ := H.out.b.at
  obtain ⟨⟨c0, c1, c2, c3⟩, _⟩ := H.out.c.at
  go_upto_region 5 with (first
    | (have hk := K1.out; clear hk K1; go_at_call 19; refine (Txy.out _).mono ?_; rintro e w2 ⟨rfl, hb⟩; replace HB := Lib.hid (HB.out.trans (hb.mono HB.out.size)); replace H := Lib.hid (H.out.below hb); clear hb a0 a1 a2 a3 b0 b1 b2 b3 c0 c1 c2 c3; obtain ⟨⟨a0, a1, a2, a3⟩, _⟩ := H.out.a.at; obtain ⟨⟨b0, b1, b2, b3⟩, _⟩ := H.out.b.at; obtain ⟨⟨c0, c1, c2, c3⟩, _⟩ := H.out.c.at)
    | (have hk := K2.out; clear hk K2; go_at_call 19; refine (Txx.out _).mono ?_; rintro e w2 ⟨rfl, hb⟩; replace HB := Lib.hid (HB.out.trans (hb.mono HB.out.size)); replace H := Lib.hid (H.out.below hb); clear hb a0 a1 a2 a3 b0 b1 b2 b3 c0 c1 c2 c3; obtain ⟨⟨a0, a1, a2, a3⟩, _⟩ := H.out.a.at; obtain ⟨⟨b0, b1, b2, b3⟩, _⟩ := H.out.b.at; obtain ⟨⟨c0, c1, c2, c3⟩, _⟩ := H.out.c.at)
    | (have hk := K3.out; clear hk K3; go_at_call 19; refine (Txy.out _).mono ?_; rintro e w2 ⟨rfl, hb⟩; replace HB := Lib.hid (HB.out.trans (hb.mono HB.out.size)); replace H := Lib.hid (H.out.below hb); clear hb a0 a1 a2 a3 b0 b1 b2 b3 c0 c1 c2 c3; obtain ⟨⟨a0, a1, a2, a3⟩, _⟩ := H.out.a.at; obtain ⟨⟨b0, b1, b2, b3⟩, _⟩ := H.out.b.at; obtain ⟨⟨c0, c1, c2, c3⟩, _⟩ := H.out.c.at))
  clear a0 a1 a2 a3 b0 b1 b2 b3 c0 c1 c2 c3
  refine region_class (fun w' => Below w2.heap.size w2 w') (by kernel_rfl) (by kernel_rfl) (Below.refl _ _).drew ?_
  have hq := HQQ.out
  repeat (
    refine wpQuiet_step (fun K9 hK => ?_)
    go_simp
    first
    | (refine hK _ ?_; clear hK K9)
    | (apply Exists.intro
       refine ⟨fun w1 hw1 => ?_, hK _ ?_⟩
       (first
         | (exact rfl)
         | (go_at_call 27; refine (TC.out _ _ _ (by first | exact .inl ⟨rfl, rfl⟩ | exact .inr ⟨rfl, rfl⟩)).mono ?_; exact fun e w2 ⟨he, hb⟩ => ⟨he, hw1.trans (hb.mono hw1.size)⟩)
         | (obtain ⟨⟨p0, p1, p2, p3⟩, _⟩ := (H.out.below hw1).a.at; simp only [p0, p1, p2, p3, Result.andThen]; exact ⟨trivial, rfl⟩)
         | (obtain ⟨⟨p0, p1, p2, p3⟩, _⟩ := (H.out.below hw1).b.at; simp only [p0, p1, p2, p3, Result.andThen]; exact ⟨trivial, rfl⟩)
         | (exact ⟨trivial, rfl⟩))
       clear hK K9))
  refine wpQuiet_nil ?_
  intro w8 hw8
  replace HB := Lib.hid (HB.out.trans (hw8.mono HB.out.size))
  replace H := Lib.hid (H.out.below hw8)
  clear hw8 hq
  obtain ⟨⟨a0, a1, a2, a3⟩, _⟩ := H.out.a.at
  obtain ⟨⟨b0, b1, b2, b3⟩, _⟩ := H.out.b.at
  obtain ⟨⟨c0, c1, c2, c3⟩, _⟩ := H.out.c.at
  go_wp2_with (first
    | (have hk := K11.out; clear hk K11; go_at_call 19; refine (Txy.out _).mono ?_; rintro e w2 ⟨rfl, hb⟩; replace HB := Lib.hid (HB.out.trans (hb.mono HB.out.size)); replace H := Lib.hid (H.out.below hb); clear hb a0 a1 a2 a3 b0 b1 b2 b3 c0 c1 c2 c3; obtain ⟨⟨a0, a1, a2, a3⟩, _⟩ := H.out.a.at; obtain ⟨⟨b0, b1, b2, b3⟩, _⟩ := H.out.b.at; obtain ⟨⟨c0, c1, c2, c3⟩, _⟩ := H.out.c.at)
    | (have hk := K12.out; clear hk K12; go_at_call 19; refine (Tyx.out _).mono ?_; rintro e w2 ⟨rfl, hb⟩; replace HB := Lib.hid (HB.out.trans (hb.mono HB.out.size)); replace H := Lib.hid (H.out.below hb); clear hb a0 a1 a2 a3 b0 b1 b2 b3 c0 c1 c2 c3; obtain ⟨⟨a0, a1, a2, a3⟩, _⟩ := H.out.a.at; obtain ⟨⟨b0, b1, b2, b3⟩, _⟩ := H.out.b.at; obtain ⟨⟨c0, c1, c2, c3⟩, _⟩ := H.out.c.at))
  go_ret
  exact ⟨rfl, HB.out⟩
set_option maxRecDepth 100000 in
set_option maxHeartbeats 8000000 in
theorem vecorder_d (x y z : V) (w : World) (h1 : ¬ ordV x y < 0) (h2 : ¬ ordV y x < 0) :
    Calls Tryz.prog 6 #[.agg #[.int .i64 x.k, .int .i64 x.i, .bool x.b, .string x.s], .agg #[.int .i64 y.k, .int .i64 y.i, .bool y.b, .string y.s], .agg #[.int .i64 z.k, .int .i64 z.i, .bool z.b, .string z.s]] w fun e w' => e = .returned (.bool true) ∧ Below w.heap.size w w' := by
  have Txy := Lib.hid (fun u => vecless_any x y u)
  have Tyx := Lib.hid (fun u => vecless_any y x u)
  have Txx := Lib.hid (fun u => vecless_any x x u)
  have Tyz := Lib.hid (fun u => vecless_any y z u)
  have Txz := Lib.hid (fun u => vecless_any x z u)
  have hsm := ord_same x y
  have K1 := Lib.hid True.intro
  have K2 := Lib.hid True.intro
  have K3 := Lib.hid True.intro
  have K11 := Lib.hid True.intro
  have K12 := Lib.hid True.intro
  rw [decide_eq_false (ord_refl x)] at Txx
  rw [decide_eq_false h1] at Txy
  rw [decide_eq_false h2] at Tyx
  have T8 := Lib.hid vecawake_any
  have TC : Hid (∀ (v p : V) (u : World), (v = x ∧ p = plainV x ∨ v = y ∧ p = plainV y) → Calls Tryz.prog 27 #[.agg #[.int .i64 v.k, .int .i64 v.i, .bool v.b, .string v.s]] u fun e w' => e = .returned (.agg #[.int .i64 p.k, .int .i64 p.i, .bool p.b, .string p.s]) ∧ Below u.heap.size u w') := fun v p u h => by
    rcases h with ⟨rfl, rfl⟩ | ⟨rfl, rfl⟩ <;> exact rclean_any _ u
  have hq := run_eql_val (plainV x) (plainV y)
  rw [decide_eq_true (hsm.2 ⟨h1, h2⟩)] at hq
  have HQQ := Lib.hid hq
  obtain ⟨u1, hu1⟩ : ∃ u1, u1 = (((w.alloc (.cells #[.int .i64 x.k, .int .i64 x.i, .bool x.b, .string x.s] 24)).alloc (.cells #[.int .i64 y.k, .int .i64 y.i, .bool y.b, .string y.s] 24)).alloc (.cells #[.int .i64 z.k, .int .i64 z.i, .bool z.b, .string z.s] 24)) := ⟨_, rfl⟩
  have hb1 : Below w.heap.size w u1 := by rw [hu1]; exact (((Below.refl _ w).alloc (Nat.le_refl _) _).alloc (by simp) _).alloc (by simp; omega) _
  have s1 : Slot u1 w.heap.size x := by rw [hu1]; exact ((Slot.new w x).alloc _).alloc _
  have s2 : Slot u1 (w.heap.size + 1) y := by
    have := Slot.new (w.alloc (.cells #[.int .i64 x.k, .int .i64 x.i, .bool x.b, .string x.s] 24)) y
    rw [show (w.alloc (.cells #[.int .i64 x.k, .int .i64 x.i, .bool x.b, .string x.s] 24)).heap.size = w.heap.size + 1 by simp] at this
    rw [hu1]; exact this.alloc _
  have s3 : Slot u1 (w.heap.size + 1 + 1) z := by
    have := Slot.new ((w.alloc (.cells #[.int .i64 x.k, .int .i64 x.i, .bool x.b, .string x.s] 24)).alloc (.cells #[.int .i64 y.k, .int .i64 y.i, .bool y.b, .string y.s] 24)) z
    rw [show ((w.alloc (.cells #[.int .i64 x.k, .int .i64 x.i, .bool x.b, .string x.s] 24)).alloc (.cells #[.int .i64 y.k, .int .i64 y.i, .bool y.b, .string y.s] 24)).heap.size = w.heap.size + 1 + 1 by simp] at this
    rw [hu1]; exact this
  have HB := Lib.hid hb1
  have H : Hid (Tri u1 w.heap.size (w.heap.size + 1) (w.heap.size + 1 + 1) x y z) := ⟨s1, s2, s3⟩
  clear hb1 s1 s2 s3 hsm hq h1 h2
  generalize plainV x = px at *
  generalize plainV y = py at *
  go_enter Tryz.func6, Tryz.ntmps6
  go_upto_region 1 with fail
  rw [← hu1]
  clear hu1
  generalize w.heap.size + 1 + 1 = g3 at *
  generalize w.heap.size + 1 = g2 at *
  go_upto_region 3 with (go_at_call 21; refine (T8.out _).mono ?_; rintro e w2 ⟨rfl, hb⟩; replace HB := Lib.hid (HB.out.trans (hb.mono HB.out.size)); replace H := Lib.hid (H.out.below hb); clear hb)
  obtain ⟨⟨a0, a1, a2, a3⟩, _⟩ := H.out.a.at
  obtain ⟨⟨b0, b1, b2, b3⟩, _⟩ := H.out.b.at
  obtain ⟨⟨c0, c1, c2, c3⟩, _⟩ := H.out.c.at
  go_upto_region 5 with (first
    | (have hk := K1.out; clear hk K1; go_at_call 19; refine (Txy.out _).mono ?_; rintro e w2 ⟨rfl, hb⟩; replace HB := Lib.hid (HB.out.trans (hb.mono HB.out.size)); replace H := Lib.hid (H.out.below hb); clear hb a0 a1 a2 a3 b0 b1 b2 b3 c0 c1 c2 c3; obtain ⟨⟨a0, a1, a2, a3⟩, _⟩ := H.out.a.at; obtain ⟨⟨b0, b1, b2, b3⟩, _⟩ := H.out.b.at; obtain ⟨⟨c0, c1, c2, c3⟩, _⟩ := H.out.c.at)
    | (have hk := K2.out; clear hk K2; go_at_call 19; refine (Txx.out _).mono ?_; rintro e w2 ⟨rfl, hb⟩; replace HB := Lib.hid (HB.out.trans (hb.mono HB.out.size)); replace H := Lib.hid (H.out.below hb); clear hb a0 a1 a2 a3 b0 b1 b2 b3 c0 c1 c2 c3; obtain ⟨⟨a0, a1, a2, a3⟩, _⟩ := H.out.a.at; obtain ⟨⟨b0, b1, b2, b3⟩, _⟩ := H.out.b.at; obtain ⟨⟨c0, c1, c2, c3⟩, _⟩ := H.out.c.at)
    | (have hk := K3.out; clear hk K3; go_at_call 19; refine (Txy.out _).mono ?_; rintro e w2 ⟨rfl, hb⟩; replace HB := Lib.hid (HB.out.trans (hb.mono HB.out.size)); replace H := Lib.hid (H.out.below hb); clear hb a0 a1 a2 a3 b0 b1 b2 b3 c0 c1 c2 c3; obtain ⟨⟨a0, a1, a2, a3⟩, _⟩ := H.out.a.at; obtain ⟨⟨b0, b1, b2, b3⟩, _⟩ := H.out.b.at; obtain ⟨⟨c0, c1, c2, c3⟩, _⟩ := H.out.c.at))
  clear a0 a1 a2 a3 b0 b1 b2 b3 c0 c1 c2 c3
  refine region_class (fun w' => Below w2.heap.size w2 w') (by kernel_rfl) (by kernel_rfl) (Below.refl _ _).drew ?_
  have hq := HQQ.out
  repeat (
    refine wpQuiet_step (fun K9 hK => ?_)
    go_simp
    first
    | (refine hK _ ?_; clear hK K9)
    | (apply Exists.intro
       refine ⟨fun w1 hw1 => ?_, hK _ ?_⟩
       (first
         | (exact rfl)
         | (go_at_call 27; refine (TC.out _ _ _ (by first | exact .inl ⟨rfl, rfl⟩ | exact .inr ⟨rfl, rfl⟩)).mono ?_; exact fun e w2 ⟨he, hb⟩ => ⟨he, hw1.trans (hb.mono hw1.size)⟩)
         | (obtain ⟨⟨p0, p1, p2, p3⟩, _⟩ := (H.out.below hw1).a.at; simp only [p0, p1, p2, p3, Result.andThen]; exact ⟨trivial, rfl⟩)
         | (obtain ⟨⟨p0, p1, p2, p3⟩, _⟩ := (H.out.below hw1).b.at; simp only [p0, p1, p2, p3, Result.andThen]; exact ⟨trivial, rfl⟩)
         | (exact ⟨trivial, rfl⟩))
       clear hK K9))
  refine wpQuiet_nil ?_
  intro w8 hw8
  replace HB := Lib.hid (HB.out.trans (hw8.mono HB.out.size))
  replace H := Lib.hid (H.out.below hw8)
  clear hw8 hq
  obtain ⟨⟨a0, a1, a2, a3⟩, _⟩ := H.out.a.at
  obtain ⟨⟨b0, b1, b2, b3⟩, _⟩ := H.out.b.at
  obtain ⟨⟨c0, c1, c2, c3⟩, _⟩ := H.out.c.at
  go_wp2_with (first
    | (have hk := K11.out; clear hk K11; go_at_call 19; refine (Txy.out _).mono ?_; rintro e w2 ⟨rfl, hb⟩; replace HB := Lib.hid (HB.out.trans (hb.mono HB.out.size)); replace H := Lib.hid (H.out.below hb); clear hb a0 a1 a2 a3 b0 b1 b2 b3 c0 c1 c2 c3; obtain ⟨⟨a0, a1, a2, a3⟩, _⟩ := H.out.a.at; obtain ⟨⟨b0, b1, b2, b3⟩, _⟩ := H.out.b.at; obtain ⟨⟨c0, c1, c2, c3⟩, _⟩ := H.out.c.at)
    | (have hk := K12.out; clear hk K12; go_at_call 19; refine (Tyx.out _).mono ?_; rintro e w2 ⟨rfl, hb⟩; replace HB := Lib.hid (HB.out.trans (hb.mono HB.out.size)); replace H := Lib.hid (H.out.below hb); clear hb a0 a1 a2 a3 b0 b1 b2 b3 c0 c1 c2 c3; obtain ⟨⟨a0, a1, a2, a3⟩, _⟩ := H.out.a.at; obtain ⟨⟨b0, b1, b2, b3⟩, _⟩ := H.out.b.at; obtain ⟨⟨c0, c1, c2, c3⟩, _⟩ := H.out.c.at))
  go_ret
  exact ⟨rfl, HB.out⟩
theorem vecorder_walk (x y z : V) {w : World} (_ : x.s.size ≤ 140737488351232) (_ : -9223372036854775808 ≤ x.k ∧ x.k < 9223372036854775808) (_ : -9223372036854775808 ≤ x.i ∧ x.i < 9223372036854775808) (_ : y.s.size ≤ 140737488351232) (_ : -9223372036854775808 ≤ y.k ∧ y.k < 9223372036854775808) (_ : -9223372036854775808 ≤ y.i ∧ y.i < 9223372036854775808) (_ : z.s.size ≤ 140737488351232) (_ : -9223372036854775808 ≤ z.k ∧ z.k < 9223372036854775808) (_ : -9223372036854775808 ≤ z.i ∧ z.i < 9223372036854775808) :
    Calls Tryz.prog 6 #[.agg #[.int .i64 x.k, .int .i64 x.i, .bool x.b, .string x.s], .agg #[.int .i64 y.k, .int .i64 y.i, .bool y.b, .string y.s], .agg #[.int .i64 z.k, .int .i64 z.i, .bool z.b, .string z.s]] w fun e w' => e = .returned (.bool true) ∧ Below w.heap.size w w' := by
  by_cases h1 : ordV x y < 0
  · by_cases h2 : ordV y z < 0
    · exact vecorder_a x y z w h1 h2
    · exact vecorder_b x y z w h1 h2
  · by_cases h2 : ordV y x < 0
    · exact vecorder_c x y z w h1 h2
    · exact vecorder_d x y z w h1 h2
end Go.Proofs.YtfbmlefhjoblbaaGreat
