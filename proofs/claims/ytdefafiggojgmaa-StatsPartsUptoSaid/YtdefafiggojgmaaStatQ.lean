/- The program's statistics: two put together, a list's. -/
import Derived.Test.YtdefafiggojgmaaStatP
import Derived.Test.YtdefafiggojgmaaQt
namespace Go.Proofs.Ytdefafiggojgmaa
open Go.Conc Go.RowKit
set_option linter.unusedVariables false
set_option linter.unusedSimpArgs false

/-- Two statistics, their bounds as they were. -/
def putTog (a b : S) : S := ⟨a.c, wrap64 (a.n + b.n), lessA a.lo b.lo, moreA a.hi b.hi⟩
set_option maxRecDepth 100000 in
set_option maxHeartbeats 2000000 in
theorem joined_any (a b : S) (w : World) : Calls Try.prog 17 #[.agg #[.int .i64 a.c, .int .i64 a.n, .int .i64 a.lo.k, .int .i64 a.lo.i, .bool a.lo.b, .string a.lo.s, .int .i64 a.hi.k, .int .i64 a.hi.i, .bool a.hi.b, .string a.hi.s], .agg #[.int .i64 b.c, .int .i64 b.n, .int .i64 b.lo.k, .int .i64 b.lo.i, .bool b.lo.b, .string b.lo.s, .int .i64 b.hi.k, .int .i64 b.hi.i, .bool b.hi.b, .string b.hi.s]] w fun e w' => e = .returned (.agg #[.int .i64 (putTog a b).c, .int .i64 (putTog a b).n, .int .i64 (putTog a b).lo.k, .int .i64 (putTog a b).lo.i, .bool (putTog a b).lo.b, .string (putTog a b).lo.s, .int .i64 (putTog a b).hi.k, .int .i64 (putTog a b).hi.i, .bool (putTog a b).hi.b, .string (putTog a b).hi.s]) ∧ Below w.heap.size w w' := by
  have T1 := Lib.hid (fun u => statless_any a.lo b.lo u)
  have T2 := Lib.hid (fun u => statmore_any a.hi b.hi u)
  have hpt : putTog a b = ⟨a.c, wrap64 (a.n + b.n), lessA a.lo b.lo, moreA a.hi b.hi⟩ := rfl
  rw [hpt]
  clear hpt
  generalize lessA a.lo b.lo = x at *
  generalize moreA a.hi b.hi = y at *
  obtain ⟨u, hu⟩ : ∃ u, u = (((w.alloc (.cells #[.int .i64 a.c, .int .i64 a.n, .int .i64 a.lo.k, .int .i64 a.lo.i, .bool a.lo.b, .string a.lo.s, .int .i64 a.hi.k, .int .i64 a.hi.i, .bool a.hi.b, .string a.hi.s] 26)).alloc (.cells #[.int .i64 b.c, .int .i64 b.n, .int .i64 b.lo.k, .int .i64 b.lo.i, .bool b.lo.b, .string b.lo.s, .int .i64 b.hi.k, .int .i64 b.hi.i, .bool b.hi.b, .string b.hi.s] 26)).alloc (.cells #[.int .i64 0, .int .i64 0, .int .i64 0, .int .i64 0, .bool false, .string ⟨#[]⟩, .int .i64 0, .int .i64 0, .bool false, .string ⟨#[]⟩] 26)) := ⟨_, rfl⟩
  have hsa : SSlot u w.heap.size a := by rw [hu]; exact ((SSlot.new w a).alloc _).alloc _
  have hsb : SSlot u (w.heap.size + 1) b := by
    have := (SSlot.new (w.alloc (.cells #[.int .i64 a.c, .int .i64 a.n, .int .i64 a.lo.k, .int .i64 a.lo.i, .bool a.lo.b, .string a.lo.s, .int .i64 a.hi.k, .int .i64 a.hi.i, .bool a.hi.b, .string a.hi.s] 26)) b).alloc (.cells #[.int .i64 0, .int .i64 0, .int .i64 0, .int .i64 0, .bool false, .string ⟨#[]⟩, .int .i64 0, .int .i64 0, .bool false, .string ⟨#[]⟩] 26)
    rw [show (w.alloc (.cells #[.int .i64 a.c, .int .i64 a.n, .int .i64 a.lo.k, .int .i64 a.lo.i, .bool a.lo.b, .string a.lo.s, .int .i64 a.hi.k, .int .i64 a.hi.i, .bool a.hi.b, .string a.hi.s] 26)).heap.size = w.heap.size + 1 by simp] at this
    rw [hu]; exact this
  have hsz : SSlot u (w.heap.size + 2) zeroS := by
    have := SSlot.new ((w.alloc (.cells #[.int .i64 a.c, .int .i64 a.n, .int .i64 a.lo.k, .int .i64 a.lo.i, .bool a.lo.b, .string a.lo.s, .int .i64 a.hi.k, .int .i64 a.hi.i, .bool a.hi.b, .string a.hi.s] 26)).alloc (.cells #[.int .i64 b.c, .int .i64 b.n, .int .i64 b.lo.k, .int .i64 b.lo.i, .bool b.lo.b, .string b.lo.s, .int .i64 b.hi.k, .int .i64 b.hi.i, .bool b.hi.b, .string b.hi.s] 26)) zeroS
    rw [show ((w.alloc (.cells #[.int .i64 a.c, .int .i64 a.n, .int .i64 a.lo.k, .int .i64 a.lo.i, .bool a.lo.b, .string a.lo.s, .int .i64 a.hi.k, .int .i64 a.hi.i, .bool a.hi.b, .string a.hi.s] 26)).alloc (.cells #[.int .i64 b.c, .int .i64 b.n, .int .i64 b.lo.k, .int .i64 b.lo.i, .bool b.lo.b, .string b.lo.s, .int .i64 b.hi.k, .int .i64 b.hi.i, .bool b.hi.b, .string b.hi.s] 26)).heap.size = w.heap.size + 2 by simp] at this
    rw [hu]; exact this
  have hb0 : Below w.heap.size w u := by rw [hu]; exact ((((Below.refl _ _).alloc (Nat.le_refl _) _).alloc (by simp) _).alloc (by simp; omega) _)
  have HSA := Lib.hid hsa
  have HSB := Lib.hid hsb
  have HSZ := Lib.hid hsz
  have HB0 := Lib.hid hb0
  clear hsa hsb hsz hb0
  go_enter Try.func17, Try.ntmps17
  go_upto_region 1 with fail
  rw [← hu]
  clear hu
  refine region_class_tail (fun w' => Below u.heap.size u w') 18 (by kernel_rfl) (by kernel_rfl) (Below.refl _ _).drew ?_
  simp only [List.take_succ_cons, List.take_zero, List.drop_succ_cons, List.drop_zero]
  repeat (
    refine wpQuiet_step (fun K hK => ?_)
    go_simp
    first
    | (refine hK _ ?_; clear hK K)
    | (apply Exists.intro
       refine ⟨fun w1 hw1 => ?_, hK _ ?_⟩
       (first
         | (exact rfl)
         | (go_at_call 24; exact (T1.out _).mono fun e w2 ⟨he, hb⟩ => ⟨he, hw1.trans (hb.mono hw1.size)⟩)
         | (go_at_call 25; exact (T2.out _).mono fun e w2 ⟨he, hb⟩ => ⟨he, hw1.trans (hb.mono hw1.size)⟩)
         | (obtain ⟨⟨z0, z1, z2, z3, z4, z5, z6, z7, z8, z9⟩, _⟩ := (HSA.out.below hw1).at; simp only [z0, z1, z2, z3, z4, z5, z6, z7, z8, z9, Result.andThen]; exact ⟨trivial, rfl⟩)
         | (obtain ⟨⟨z0, z1, z2, z3, z4, z5, z6, z7, z8, z9⟩, _⟩ := (HSB.out.below hw1).at; simp only [z0, z1, z2, z3, z4, z5, z6, z7, z8, z9, Result.andThen]; exact ⟨trivial, rfl⟩)
         | (exact ⟨trivial, rfl⟩))
       clear hK K))
  refine wpQuiet_nil ?_
  intro w1 hw1
  have hs1 := HSZ.out.below hw1
  have HB1 := Lib.hid (HB0.out.trans (hw1.mono HB0.out.size))
  clear HSA HSB HSZ HB0 hw1 T1 T2
  obtain ⟨⟨z0, z1, z2, z3, z4, z5, z6, z7, z8, z9⟩, _⟩ := hs1.at
  obtain ⟨y0, y1, y2, y3, y4, y5, y6, y7, y8, y9⟩ := hs1.froz
  have HZ1 := Lib.hid hs1
  clear hs1
  go_wp2
  change bodyPost _ _ _ _ _ (putS w1 (w.heap.size + 2) ⟨a.c, wrap64 (a.n + b.n), x, y⟩)
  have hp := HZ1.out.put ⟨a.c, wrap64 (a.n + b.n), x, y⟩
  have hb := putS_below (s := ⟨a.c, wrap64 (a.n + b.n), x, y⟩) HB1.out (Nat.le_add_right w.heap.size 2)
  generalize putS w1 (w.heap.size + 2) ⟨a.c, wrap64 (a.n + b.n), x, y⟩ = w4 at *
  clear z0 z1 z2 z3 z4 z5 z6 z7 z8 z9 y0 y1 y2 y3 y4 y5 y6 y7 y8 y9
  obtain ⟨⟨z0, z1, z2, z3, z4, z5, z6, z7, z8, z9⟩, _⟩ := hp.at
  refine bodyPost_ret (v := .agg #[.int .i64 a.c, .int .i64 (wrap64 (a.n + b.n)), .int .i64 x.k, .int .i64 x.i, .bool x.b, .string x.s, .int .i64 y.k, .int .i64 y.i, .bool y.b, .string y.s]) (by simp [results, Try.results17, go_sem, z0, z1, z2, z3, z4, z5, z6, z7, z8, z9]) rfl ?_
  exact ⟨rfl, hb⟩

/-- Both bounds are stored. -/
def putB (w : World) (g : Nat) (p q : V) : World := ((((((((w.setCell ⟨g, 2, none⟩ (.int .i64 p.k)).setCell ⟨g, 3, none⟩ (.int .i64 p.i)).setCell ⟨g, 4, none⟩ (.bool p.b)).setCell ⟨g, 5, none⟩ (.string p.s)).setCell ⟨g, 6, none⟩ (.int .i64 q.k)).setCell ⟨g, 7, none⟩ (.int .i64 q.i)).setCell ⟨g, 8, none⟩ (.bool q.b)).setCell ⟨g, 9, none⟩ (.string q.s))
theorem SSlot.putB {w : World} {g : Nat} {z : S} (h : SSlot w g z) (p q : V) : SSlot (putB w g p q) g ⟨z.c, z.n, p, q⟩ := by
  have h0 := h.b
  have h1 := heap_setCell_same _ g 2 _ _ (.int .i64 p.k) h0
  have h2 := heap_setCell_same _ g 3 _ _ (.int .i64 p.i) h1
  have h3 := heap_setCell_same _ g 4 _ _ (.bool p.b) h2
  have h4 := heap_setCell_same _ g 5 _ _ (.string p.s) h3
  have h5 := heap_setCell_same _ g 6 _ _ (.int .i64 q.k) h4
  have h6 := heap_setCell_same _ g 7 _ _ (.int .i64 q.i) h5
  have h7 := heap_setCell_same _ g 8 _ _ (.bool q.b) h6
  have h8 := heap_setCell_same _ g 9 _ _ (.string q.s) h7
  refine ⟨Eq.trans h8 ?_⟩
  simp
theorem putB_below {a w : World} {B g : Nat} {p q : V} (h : Below B a w) (hg : B ≤ g) : Below B a (putB w g p q) :=
  ((((((((h.setCell hg _).setCell hg _).setCell hg _).setCell hg _).setCell hg _).setCell hg _).setCell hg _).setCell hg _)
theorem putB_other {w : World} {g k : Nat} {p q : V} {z : S} (h : SSlot w k z) (hk : k ≠ g) : SSlot (putB w g p q) k z := by
  refine h.same ?_
  unfold putB
  rw [Below.heap_setCell _ _ _ _ hk]
  rw [Below.heap_setCell _ _ _ _ hk]
  rw [Below.heap_setCell _ _ _ _ hk]
  rw [Below.heap_setCell _ _ _ _ hk]
  rw [Below.heap_setCell _ _ _ _ hk]
  rw [Below.heap_setCell _ _ _ _ hk]
  rw [Below.heap_setCell _ _ _ _ hk]
  rw [Below.heap_setCell _ _ _ _ hk]

def ownS (s : S) : S := ⟨s.c, s.n, plainV s.lo, plainV s.hi⟩
set_option maxRecDepth 100000 in
set_option maxHeartbeats 2000000 in
theorem owned_any (s : S) (h1 : s.lo.s.size ≤ 281474976710656) (h2 : s.hi.s.size ≤ 281474976710656) (w : World) : Calls Try.prog 19 #[.agg #[.int .i64 s.c, .int .i64 s.n, .int .i64 s.lo.k, .int .i64 s.lo.i, .bool s.lo.b, .string s.lo.s, .int .i64 s.hi.k, .int .i64 s.hi.i, .bool s.hi.b, .string s.hi.s]] w fun e w' => e = .returned (.agg #[.int .i64 (ownS s).c, .int .i64 (ownS s).n, .int .i64 (ownS s).lo.k, .int .i64 (ownS s).lo.i, .bool (ownS s).lo.b, .string (ownS s).lo.s, .int .i64 (ownS s).hi.k, .int .i64 (ownS s).hi.i, .bool (ownS s).hi.b, .string (ownS s).hi.s]) ∧ Below w.heap.size w w' := by
  have T1 := Lib.hid vcopy_any
  have hpt : ownS s = ⟨s.c, s.n, plainV s.lo, plainV s.hi⟩ := rfl
  rw [hpt]
  clear hpt
  obtain ⟨u, hu⟩ : ∃ u, u = ((w.alloc (.cells #[.int .i64 s.c, .int .i64 s.n, .int .i64 s.lo.k, .int .i64 s.lo.i, .bool s.lo.b, .string s.lo.s, .int .i64 s.hi.k, .int .i64 s.hi.i, .bool s.hi.b, .string s.hi.s] 26)).alloc (.cells #[.int .i64 0, .int .i64 0, .int .i64 0, .int .i64 0, .bool false, .string ⟨#[]⟩, .int .i64 0, .int .i64 0, .bool false, .string ⟨#[]⟩] 26)) := ⟨_, rfl⟩
  have hsa : SSlot u w.heap.size s := by rw [hu]; exact (SSlot.new w s).alloc _
  have hsz : SSlot u (w.heap.size + 1) zeroS := by
    have := SSlot.new (w.alloc (.cells #[.int .i64 s.c, .int .i64 s.n, .int .i64 s.lo.k, .int .i64 s.lo.i, .bool s.lo.b, .string s.lo.s, .int .i64 s.hi.k, .int .i64 s.hi.i, .bool s.hi.b, .string s.hi.s] 26)) zeroS
    rw [show (w.alloc (.cells #[.int .i64 s.c, .int .i64 s.n, .int .i64 s.lo.k, .int .i64 s.lo.i, .bool s.lo.b, .string s.lo.s, .int .i64 s.hi.k, .int .i64 s.hi.i, .bool s.hi.b, .string s.hi.s] 26)).heap.size = w.heap.size + 1 by simp] at this
    rw [hu]; exact this
  have hb0 : Below w.heap.size w u := by rw [hu]; exact (((Below.refl _ _).alloc (Nat.le_refl _) _).alloc (by simp) _)
  have HSA := Lib.hid hsa
  have HSZ := Lib.hid hsz
  have HB0 := Lib.hid hb0
  clear hsa hsz hb0
  go_enter Try.func19, Try.ntmps19
  go_upto_region 1 with fail
  rw [← hu]
  clear hu
  refine region_class_tail (fun w' => Below u.heap.size u w') 7 (by kernel_rfl) (by kernel_rfl) (Below.refl _ _).drew ?_
  simp only [List.take_succ_cons, List.take_zero, List.drop_succ_cons, List.drop_zero]
  repeat (
    refine wpQuiet_step (fun K hK => ?_)
    go_simp
    first
    | (refine hK _ ?_; clear hK K)
    | (apply Exists.intro
       refine ⟨fun w1 hw1 => ?_, hK _ ?_⟩
       (first
         | (exact rfl)
         | (go_at_call 27; exact (T1.out _ (by assumption) _).mono fun e w2 ⟨he, hb⟩ => ⟨he, hw1.trans (hb.mono hw1.size)⟩)
         | (obtain ⟨⟨z0, z1, z2, z3, z4, z5, z6, z7, z8, z9⟩, _⟩ := (HSA.out.below hw1).at; simp only [z0, z1, z2, z3, z4, z5, z6, z7, z8, z9, Result.andThen]; exact ⟨trivial, rfl⟩)
         | (exact ⟨trivial, rfl⟩))
       clear hK K))
  refine wpQuiet_nil ?_
  intro w1 hw1
  have ha1 := HSA.out.below hw1
  have hs1 := HSZ.out.below hw1
  have HB1 := Lib.hid (HB0.out.trans (hw1.mono HB0.out.size))
  clear HSA HSZ HB0 hw1 T1 h1 h2
  have HA1 := Lib.hid ha1
  have HZ1 := Lib.hid hs1
  obtain ⟨⟨z0, z1, z2, z3, z4, z5, z6, z7, z8, z9⟩, _⟩ := ha1.at
  obtain ⟨y0, y1, y2, y3, y4, y5, y6, y7, y8, y9⟩ := ha1.froz
  clear hs1 ha1
  go_upto_region 2 with fail
  change Code.wp _ _ _ _ (putB w1 w.heap.size (plainV s.lo) (plainV s.hi))
  have hp := HA1.out.putB (plainV s.lo) (plainV s.hi)
  have hz := putB_other (p := plainV s.lo) (q := plainV s.hi) HZ1.out (Nat.succ_ne_self w.heap.size)
  have hb := putB_below (p := plainV s.lo) (q := plainV s.hi) HB1.out (Nat.le_refl w.heap.size)
  generalize putB w1 w.heap.size (plainV s.lo) (plainV s.hi) = w2 at *
  clear z0 z1 z2 z3 z4 z5 z6 z7 z8 z9 y0 y1 y2 y3 y4 y5 y6 y7 y8 y9 HA1 HZ1 HB1
  obtain ⟨⟨z0, z1, z2, z3, z4, z5, z6, z7, z8, z9⟩, _⟩ := hp.at
  obtain ⟨⟨x0, x1, x2, x3, x4, x5, x6, x7, x8, x9⟩, _⟩ := hz.at
  obtain ⟨y0, y1, y2, y3, y4, y5, y6, y7, y8, y9⟩ := hz.froz
  have HZ := Lib.hid hz
  have HB := Lib.hid hb
  clear hp hz hb
  go_wp2
  change bodyPost _ _ _ _ _ (putS w2 (w.heap.size + 1) ⟨s.c, s.n, plainV s.lo, plainV s.hi⟩)
  have hp := HZ.out.put ⟨s.c, s.n, plainV s.lo, plainV s.hi⟩
  have hb := putS_below (s := ⟨s.c, s.n, plainV s.lo, plainV s.hi⟩) HB.out (Nat.le_add_right w.heap.size 1)
  generalize putS w2 (w.heap.size + 1) ⟨s.c, s.n, plainV s.lo, plainV s.hi⟩ = w4 at *
  clear z0 z1 z2 z3 z4 z5 z6 z7 z8 z9 y0 y1 y2 y3 y4 y5 y6 y7 y8 y9 x0 x1 x2 x3 x4 x5 x6 x7 x8 x9
  obtain ⟨⟨z0, z1, z2, z3, z4, z5, z6, z7, z8, z9⟩, _⟩ := hp.at
  refine bodyPost_ret (v := .agg #[.int .i64 s.c, .int .i64 s.n, .int .i64 (plainV s.lo).k, .int .i64 (plainV s.lo).i, .bool (plainV s.lo).b, .string (plainV s.lo).s, .int .i64 (plainV s.hi).k, .int .i64 (plainV s.hi).i, .bool (plainV s.hi).b, .string (plainV s.hi).s]) (by simp [results, Try.results19, go_sem, z0, z1, z2, z3, z4, z5, z6, z7, z8, z9]) rfl ?_
  exact ⟨rfl, hb⟩
end Go.Proofs.Ytdefafiggojgmaa
