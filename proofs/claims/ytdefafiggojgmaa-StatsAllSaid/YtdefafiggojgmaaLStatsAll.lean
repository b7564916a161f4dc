/- Any column's statistics, any two joined, by the document: the walk of the law. -/
import Derived.Test.YtdefafiggojgmaaSAwake
namespace Go.Proofs.Ytdefafiggojgmaa
open Go.Conc Go.RowKit
set_option linter.unusedVariables false
set_option linter.unusedSimpArgs false

set_option maxRecDepth 100000 in
set_option maxHeartbeats 4000000 in
theorem statsall_walk (c : Int) (a : Option Addr) (cap : Nat) (vs : List V) (x y : S) {w : World} (h0 : IsV w a vs) (n0 : a = none → vs.length = 0 ∧ cap = 0) (z0 : vs.length * 40 ≤ 140737488351232) (s0 : ∀ v ∈ vs, v.s.size ≤ 140737488351232) (sx : x.lo.s.size ≤ 140737488351232 ∧ x.hi.s.size ≤ 140737488351232) (_ : -9223372036854775808 ≤ x.c ∧ x.c < 9223372036854775808) (_ : -9223372036854775808 ≤ x.n ∧ x.n < 9223372036854775808) (sy : y.lo.s.size ≤ 140737488351232 ∧ y.hi.s.size ≤ 140737488351232) (_ : -9223372036854775808 ≤ y.c ∧ y.c < 9223372036854775808) (_ : -9223372036854775808 ≤ y.n ∧ y.n < 9223372036854775808) :
    Calls Try.prog 3 #[.int .i64 c, .slice a vs.length cap, .agg #[.int .i64 x.c, .int .i64 x.n, .int .i64 x.lo.k, .int .i64 x.lo.i, .bool x.lo.b, .string x.lo.s, .int .i64 x.hi.k, .int .i64 x.hi.i, .bool x.hi.b, .string x.hi.s], .agg #[.int .i64 y.c, .int .i64 y.n, .int .i64 y.lo.k, .int .i64 y.lo.i, .bool y.lo.b, .string y.lo.s, .int .i64 y.hi.k, .int .i64 y.hi.i, .bool y.hi.b, .string y.hi.s]] w fun e w' => e = .returned (.bool true) ∧ Below w.heap.size w w' := by
  have hx : vs.length ≤ 140737488355328 := by omega
  have hx2 : (vs.length + 2) * 40 ≤ 140737488355328 := by omega
  have T1 := Lib.hid (fun (u : World) (h : IsV u a vs) => lendvals_any u a cap vs h n0 hx2)
  have T2 := Lib.hid (fun (u : World) (p : Option Addr) (k : Nat) (h : IsV u p vs) => statof_any c p k vs u h hx s0)
  have T3 := Lib.hid (fun (u : World) (h : IsV u a vs) => refstat_any c a cap vs u h hx s0)
  have T4 := Lib.hid (fun (u : World) => statjoin_any x y sx sy u)
  have T5 := Lib.hid (fun (u : World) => refboth_any x y sx sy u)
  rw [both_join] at T5
  have T6 := Lib.hid (fun (u : World) (g k base : Nat) (h : OwnV base u (some ⟨g, 0, none⟩) k (vs ++ [markV, markV])) (hb : IsV u a vs) => keptvals_any u g k a cap base vs h hb hx2)
  have T8 := Lib.hid statawake_any
  have HA := Lib.hid h0
  obtain ⟨u1, hu1⟩ : ∃ u1, u1 = ((w.alloc (.cells #[.int .i64 x.c, .int .i64 x.n, .int .i64 x.lo.k, .int .i64 x.lo.i, .bool x.lo.b, .string x.lo.s, .int .i64 x.hi.k, .int .i64 x.hi.i, .bool x.hi.b, .string x.hi.s] 26)).alloc (.cells #[.int .i64 y.c, .int .i64 y.n, .int .i64 y.lo.k, .int .i64 y.lo.i, .bool y.lo.b, .string y.lo.s, .int .i64 y.hi.k, .int .i64 y.hi.i, .bool y.hi.b, .string y.hi.s] 26)) := ⟨_, rfl⟩
  have hb1 : Below w.heap.size w u1 := by rw [hu1]; exact ((Below.refl _ w).alloc (Nat.le_refl _) _).alloc (by simp) _
  have h1 : SSlot u1 w.heap.size x := by rw [hu1]; exact (SSlot.new w x).alloc _
  have h2 : SSlot u1 (w.heap.size + 1) y := by
    have := SSlot.new (w.alloc (.cells #[.int .i64 x.c, .int .i64 x.n, .int .i64 x.lo.k, .int .i64 x.lo.i, .bool x.lo.b, .string x.lo.s, .int .i64 x.hi.k, .int .i64 x.hi.i, .bool x.hi.b, .string x.hi.s] 26)) y
    rw [show (w.alloc (.cells #[.int .i64 x.c, .int .i64 x.n, .int .i64 x.lo.k, .int .i64 x.lo.i, .bool x.lo.b, .string x.lo.s, .int .i64 x.hi.k, .int .i64 x.hi.i, .bool x.hi.b, .string x.hi.s] 26)).heap.size = w.heap.size + 1 by simp] at this
    rw [hu1]; exact this
  replace HA := Lib.hid (HA.out.below hb1)
  have HB := Lib.hid hb1
  have H1 := Lib.hid h1
  have H2 := Lib.hid h2
  clear hb1 h1 h2 h0 n0 z0 s0 hx hx2 sx sy
  generalize ofA c vs = R at *
  generalize joinS x y = J at *
  have hqR := run_eql_stat R R
  have hqJ := run_eql_stat J J
  simp only [decide_eq_true] at hqR hqJ
  go_enter Try.func3, Try.ntmps3
  go_upto_region 1 with fail
  rw [← hu1]
  clear hu1
  go_upto_region 2 with (go_at_call 6; refine (T1.out _ HA.out).mono ?_; rintro e w2 ⟨g, k, rfl, ho, hb⟩; replace HB := Lib.hid (HB.out.trans (hb.mono HB.out.size)); replace H1 := Lib.hid (H1.out.below hb); replace H2 := Lib.hid (H2.out.below hb); replace HA := Lib.hid (HA.out.below hb); have HO := Lib.hid ho; have HOV : Hid (IsV w2 (some ⟨g, 0, none⟩) vs) := (by have := ho.isV.take vs.length; rwa [List.take_left] at this); clear hb ho)
  clear T1
  refine region_class (fun w' => Below w2.heap.size w2 w') (by kernel_rfl) (by kernel_rfl) (Below.refl _ _).drew ?_
  repeat (
    refine wpQuiet_step (fun K9 hK => ?_)
    go_simp
    first
    | (refine hK _ ?_; clear hK K9)
    | (apply Exists.intro
       refine ⟨fun w1 hw1 => ?_, hK _ ?_⟩
       (first
         | (exact rfl)
         | (go_at_call 7; exact (T2.out _ _ _ (HOV.out.below hw1)).mono fun e w2 ⟨he, hb⟩ => ⟨he, hw1.trans (hb.mono hw1.size)⟩)
         | (go_at_call 8; exact (T3.out _ (HA.out.below hw1)).mono fun e w2 ⟨he, hb⟩ => ⟨he, hw1.trans (hb.mono hw1.size)⟩)
         | (go_at_call 9; exact (T4.out _).mono fun e w2 ⟨he, hb⟩ => ⟨he, hw1.trans (hb.mono hw1.size)⟩)
         | (go_at_call 10; exact (T5.out _).mono fun e w2 ⟨he, hb⟩ => ⟨he, hw1.trans (hb.mono hw1.size)⟩)
         | (go_at_call 11; exact (T6.out _ _ _ _ (HO.out.below hw1) (HA.out.below hw1)).mono fun e w2 ⟨he, hb⟩ => ⟨he, hw1.trans (hb.mono hw1.size)⟩)
         | (go_at_call 12; exact (T8.out _).mono fun e w2 ⟨he, hb⟩ => ⟨he, hw1.trans (hb.mono hw1.size)⟩)
         | (simp only [hqR, Result.andThen]; exact ⟨trivial, rfl⟩)
         | (simp only [hqJ, Result.andThen]; exact ⟨trivial, rfl⟩)
         | (obtain ⟨⟨z0, z1, z2, z3, z4, z5, z6, z7, z8, z9⟩, _⟩ := (H1.out.below hw1).at; simp only [z0, z1, z2, z3, z4, z5, z6, z7, z8, z9, Result.andThen]; exact ⟨trivial, rfl⟩)
         | (obtain ⟨⟨z0, z1, z2, z3, z4, z5, z6, z7, z8, z9⟩, _⟩ := (H2.out.below hw1).at; simp only [z0, z1, z2, z3, z4, z5, z6, z7, z8, z9, Result.andThen]; exact ⟨trivial, rfl⟩)
         | (exact ⟨trivial, rfl⟩))
       clear hK K9))
  refine wpQuiet_nil ?_
  intro w8 hw8
  go_wp2
  go_ret
  exact ⟨rfl, HB.out.trans (hw8.mono HB.out.size)⟩
end Go.Proofs.Ytdefafiggojgmaa
