/- A column's bytes, its way, the order, by the document: the walk of the law. -/
import Derived.Test.YtfbmlefhjoblbaaGreatVAwake
import Derived.Test.YtfbmlefhjoblbaaGreatBits
import Derived.Test.YtfbmlefhjoblbaaGreatOwn
namespace Go.Proofs.YtfbmlefhjoblbaaGreat
open Go.Conc Go.RowKit
set_option linter.unusedVariables false
set_option linter.unusedSimpArgs false

theorem fine_arg {vs : List V} (s0 : ∀ v ∈ vs, v.s.size ≤ 140737488351232) (q0 : ∀ v ∈ vs, -9223372036854775808 ≤ v.i ∧ v.i < 9223372036854775808) : Fine vs := fun v hv => by
  have h1 := s0 v hv
  have h2 := q0 v hv
  exact ⟨⟨h2.1, by omega⟩, by omega⟩

set_option maxRecDepth 100000 in
set_option maxHeartbeats 8000000 in
theorem vecputs_walk (k : Int) (a : Option Addr) (cap : Nat) (vs : List V) (x y : V) {w : World} (h0 : IsV w a vs) (n0 : a = none → vs.length = 0 ∧ cap = 0) (z0 : vs.length * 40 ≤ 140737488351232) (s0 : ∀ v ∈ vs, v.s.size ≤ 140737488351232) (q0 : ∀ v ∈ vs, -9223372036854775808 ≤ v.i ∧ v.i < 9223372036854775808) (sx : x.s.size ≤ 140737488351232) (_ : -9223372036854775808 ≤ x.k ∧ x.k < 9223372036854775808) (_ : -9223372036854775808 ≤ x.i ∧ x.i < 9223372036854775808) (sy : y.s.size ≤ 140737488351232) (_ : -9223372036854775808 ≤ y.k ∧ y.k < 9223372036854775808) (_ : -9223372036854775808 ≤ y.i ∧ y.i < 9223372036854775808) :
    Calls Tryz.prog 3 #[.int .i64 k, .slice a vs.length cap, .agg #[.int .i64 x.k, .int .i64 x.i, .bool x.b, .string x.s], .agg #[.int .i64 y.k, .int .i64 y.i, .bool y.b, .string y.s]] w fun e w' => e = .returned (.bool true) ∧ Below w.heap.size w w' := by
  have hf := fine_arg s0 q0
  have hx : vs.length ≤ 9223372036854775807 := by omega
  have hx2 : (vs.length + 2) * 40 ≤ 140737488355328 := by omega
  have T1 := Lib.hid (fun (u : World) (h : IsV u a vs) => lendvals_any u a cap vs h n0 hx2)
  have T2 := Lib.hid (fun (u : World) (p : Option Addr) (c : Nat) (h : IsV u p vs) => vecput_any u k p c vs h hx hf)
  have T3 := Lib.hid (fun (u : World) (h : IsV u a vs) => refvec_any u k a cap vs h hx hf)
  have T4 := Lib.hid (fun (u : World) (p : Option Addr) (c : Nat) (h : IsV u p vs) => vecenc_any u k p c vs h hx hf)
  have T5 := Lib.hid (fun (u : World) (g c base : Nat) (h : OwnV base u (some ⟨g, 0, none⟩) c (vs ++ [markV, markV])) (hb : IsV u a vs) => keptvals_any u g c a cap base vs h hb hx2)
  have T6 := Lib.hid (fun u => vecless_any x y u)
  have T7 := Lib.hid (fun u => rcmp_any x y (by omega) (by omega) u)
  have T8 := Lib.hid vecawake_any
  have HA := Lib.hid h0
  obtain ⟨u1, hu1⟩ : ∃ u1, u1 = ((w.alloc (.cells #[.int .i64 x.k, .int .i64 x.i, .bool x.b, .string x.s] 24)).alloc (.cells #[.int .i64 y.k, .int .i64 y.i, .bool y.b, .string y.s] 24)) := ⟨_, rfl⟩
  have hb1 : Below w.heap.size w u1 := by rw [hu1]; exact ((Below.refl _ w).alloc (Nat.le_refl _) _).alloc (by simp) _
  have h1 : Slot u1 w.heap.size x := by rw [hu1]; exact (Slot.new w x).alloc _
  have h2 : Slot u1 (w.heap.size + 1) y := by
    have := Slot.new (w.alloc (.cells #[.int .i64 x.k, .int .i64 x.i, .bool x.b, .string x.s] 24)) y
    rw [show (w.alloc (.cells #[.int .i64 x.k, .int .i64 x.i, .bool x.b, .string x.s] 24)).heap.size = w.heap.size + 1 by simp] at this
    rw [hu1]; exact this
  replace HA := Lib.hid (HA.out.below hb1)
  have HB := Lib.hid hb1
  have H1 := Lib.hid h1
  have H2 := Lib.hid h2
  clear hb1 h1 h2 h0 n0 z0 s0 q0 hf hx hx2
  generalize colPut k vs = P at *
  generalize ordV x y = R at *
  go_enter Tryz.func3, Tryz.ntmps3
  go_upto_region 1 with fail
  rw [← hu1]
  clear hu1
  go_upto_region 2 with (go_at_call 13; refine (T1.out _ HA.out).mono ?_; rintro e w2 ⟨g, c, rfl, ho, hb⟩; replace HB := Lib.hid (HB.out.trans (hb.mono HB.out.size)); replace H1 := Lib.hid (H1.out.below hb); replace H2 := Lib.hid (H2.out.below hb); replace HA := Lib.hid (HA.out.below hb); have HO := Lib.hid ho; have HOV : Hid (IsV w2 (some ⟨g, 0, none⟩) vs) := (by have := ho.isV.take vs.length; rwa [List.take_left] at this); clear hb ho)
  go_upto_region 3 with (go_at_call 14; refine (T2.out _ _ _ HOV.out).mono ?_; rintro e w3 ⟨rfl, hb⟩; replace HB := Lib.hid (HB.out.trans (hb.mono HB.out.size)); replace H1 := Lib.hid (H1.out.below hb); replace H2 := Lib.hid (H2.out.below hb); replace HA := Lib.hid (HA.out.below hb); replace HO := Lib.hid (HO.out.below hb); replace HOV := Lib.hid (HOV.out.below hb); clear hb)
  go_upto_region 4 with (go_at_call 15; refine (T3.out _ HA.out).mono ?_; rintro e w4 ⟨rfl, hb⟩; replace HB := Lib.hid (HB.out.trans (hb.mono HB.out.size)); replace H1 := Lib.hid (H1.out.below hb); replace H2 := Lib.hid (H2.out.below hb); replace HA := Lib.hid (HA.out.below hb); replace HO := Lib.hid (HO.out.below hb); replace HOV := Lib.hid (HOV.out.below hb); clear hb)
  go_upto_region 5 with (go_at_call 16; refine (T4.out _ _ _ HOV.out).mono ?_; rintro e w5 ⟨rfl, hb⟩; replace HB := Lib.hid (HB.out.trans (hb.mono HB.out.size)); replace H1 := Lib.hid (H1.out.below hb); replace H2 := Lib.hid (H2.out.below hb); replace HA := Lib.hid (HA.out.below hb); replace HO := Lib.hid (HO.out.below hb); clear hb)
  clear T1 T2 T3 T4 HOV
  refine region_class (fun w' => Below w5.heap.size w5 w') (by kernel_rfl) (by kernel_rfl) (Below.refl _ _).drew ?_
  repeat (
    refine wpQuiet_step (fun K9 hK => ?_)
    go_simp
    first
    | (refine hK _ ?_; clear hK K9)
    | (apply Exists.intro
       refine ⟨fun w1 hw1 => ?_, hK _ ?_⟩
       (first
         | (exact rfl)
         | (go_at_call 17; exact (num_any _ _).mono fun e w2 ⟨he, hw⟩ => ⟨he, hw ▸ hw1⟩)
         | (go_at_call 18; exact (T5.out _ _ _ _ (HO.out.below hw1) (HA.out.below hw1)).mono fun e w2 ⟨he, hb⟩ => ⟨he, hw1.trans (hb.mono hw1.size)⟩)
         | (go_at_call 19; exact (T6.out _).mono fun e w2 ⟨he, hb⟩ => ⟨he, hw1.trans (hb.mono hw1.size)⟩)
         | (go_at_call 20; exact (T7.out _).mono fun e w2 ⟨he, hb⟩ => ⟨he, hw1.trans (hb.mono hw1.size)⟩)
         | (go_at_call 21; exact (T8.out _).mono fun e w2 ⟨he, hb⟩ => ⟨he, hw1.trans (hb.mono hw1.size)⟩)
         | (obtain ⟨⟨p0, p1, p2, p3⟩, _⟩ := (H1.out.below hw1).at; simp only [p0, p1, p2, p3, Result.andThen]; exact ⟨trivial, rfl⟩)
         | (obtain ⟨⟨p0, p1, p2, p3⟩, _⟩ := (H2.out.below hw1).at; simp only [p0, p1, p2, p3, Result.andThen]; exact ⟨trivial, rfl⟩)
         | (exact ⟨trivial, rfl⟩))
       clear hK K9))
  refine wpQuiet_nil ?_
  intro w8 hw8
  go_wp2
  go_ret
  exact ⟨rfl, HB.out.trans (hw8.mono HB.out.size)⟩
end Go.Proofs.YtfbmlefhjoblbaaGreat
