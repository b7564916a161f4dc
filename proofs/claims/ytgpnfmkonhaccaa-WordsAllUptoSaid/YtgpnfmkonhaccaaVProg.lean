/- The program's Plain and Copy of values. -/
import Derived.Test.YtgpnfmkonhaccaaVPlain
import Derived.Test.YtgpnfmkonhaccaaShelf
namespace Go.Proofs.Ytgpnfmkonhaccaa
open Go.Conc Go.RowKit
set_option linter.unusedVariables false
set_option linter.unusedSimpArgs false

set_option maxRecDepth 100000 in
theorem plain_any (v : V) (w : World) : Calls Try.prog 24 #[.agg #[.int .i64 v.k, .int .i64 v.i, .bool v.b, .string v.s]] w fun e w' => e = .returned (.agg #[.int .i64 (plainV v).k, .int .i64 (plainV v).i, .bool (plainV v).b, .string (plainV v).s]) ∧ Below w.heap.size w w' := by
  have HB : ∀ w' : World, w' = w → True := fun _ _ => trivial
  by_cases h1 : v.k = 1
  · rw [plainV_int h1]
    obtain ⟨k, i, b, s⟩ := v
    simp only at h1 ⊢
    subst h1
    go_enter Try.func24, Try.ntmps24
    go_wp2
    go_returns
    exact ⟨rfl, ((((Below.refl _ _).alloc (Nat.le_refl _) _).alloc (by simp) _))⟩
  by_cases h2 : v.k = 2
  · rw [plainV_bool h2]
    obtain ⟨k, i, b, s⟩ := v
    simp only at h2 ⊢
    subst h2
    go_enter Try.func24, Try.ntmps24
    go_wp2
    go_returns
    exact ⟨rfl, ((((Below.refl _ _).alloc (Nat.le_refl _) _).alloc (by simp) _))⟩
  by_cases h3 : v.k = 3
  · rw [plainV_text h3]
    obtain ⟨k, i, b, s⟩ := v
    simp only at h3 ⊢
    subst h3
    go_enter Try.func24, Try.ntmps24
    go_wp2
    go_returns
    exact ⟨rfl, ((((Below.refl _ _).alloc (Nat.le_refl _) _).alloc (by simp) _))⟩
  · rw [plainV_null h1 h2 h3]
    obtain ⟨k, i, b, s⟩ := v
    simp only at h1 h2 h3 ⊢
    have e1 : (k == 1) = false := by simpa using h1
    have e2 : (k == 2) = false := by simpa using h2
    have e3 : (k == 3) = false := by simpa using h3
    clear h1 h2 h3
    go_enter Try.func24, Try.ntmps24
    go_wp2
    go_returns
    exact ⟨rfl, ((((Below.refl _ _).alloc (Nat.le_refl _) _).alloc (by simp) _))⟩
set_option maxRecDepth 100000 in
theorem vcopy_any (v : V) (hs : v.s.size ≤ 281474976710656) (w : World) : Calls Try.prog 25 #[.agg #[.int .i64 v.k, .int .i64 v.i, .bool v.b, .string v.s]] w fun e w' => e = .returned (.agg #[.int .i64 (plainV v).k, .int .i64 (plainV v).i, .bool (plainV v).b, .string (plainV v).s]) ∧ Below w.heap.size w w' := by
  have T1 := Lib.hid (fun u => plain_any v u)
  have T3 := Lib.hid (fun u => Try.stringslite_Clone (plainV v).s u (Nat.le_trans (plainV_size v) hs))
  generalize plainV v = p at *
  obtain ⟨pk, pi, pb, ps⟩ := p
  simp only at *
  go_enter Try.func25, Try.ntmps25
  go_upto_region 1 with fail
  obtain ⟨u, hu⟩ : ∃ u, u = ((w.alloc (.cells #[.int .i64 v.k, .int .i64 v.i, .bool v.b, .string v.s] 41)).alloc (.cells #[.int .i64 0, .int .i64 0, .bool false, .string ⟨#[]⟩] 41)) := ⟨_, rfl⟩
  rw [← hu]
  have hs0 : Slot u w.heap.size v := by rw [hu]; exact (Slot.new w v).alloc _
  have hs1 : Slot u (w.heap.size + 1) ⟨0, 0, false, ⟨#[]⟩⟩ := by
    have := Slot.new (w.alloc (.cells #[.int .i64 v.k, .int .i64 v.i, .bool v.b, .string v.s] 41)) ⟨0, 0, false, ⟨#[]⟩⟩
    rw [hu]; simpa using this
  have hb0 : Below w.heap.size w u := by rw [hu]; exact (((Below.refl _ _).alloc (Nat.le_refl _) _).alloc (by simp) _)
  have hz0 : u.heap.size = w.heap.size + 2 := by rw [hu]; simp
  obtain ⟨⟨c0, c1, c2, c3⟩, _⟩ := hs0.at
  clear hu hs0
  have HS1 := Lib.hid hs1
  have HB0 := Lib.hid hb0
  have HZ0 := Lib.hid hz0
  clear hs1 hb0 hz0
  go_upto_region 2 with (go_at_call 24; refine (T1.out _).mono ?_; rintro e w1 ⟨rfl, hb1⟩; have HB1 := Lib.hid hb1; clear hb1)
  clear c0 c1 c2 c3
  obtain ⟨u2, hu2⟩ : ∃ u2, u2 = w1.alloc (.cells #[.int .i64 pk, .int .i64 pi, .bool pb, .string ps] 41) := ⟨_, rfl⟩
  rw [← hu2]
  have hs2 : Slot u2 w1.heap.size ⟨pk, pi, pb, ps⟩ := by rw [hu2]; exact Slot.new w1 ⟨pk, pi, pb, ps⟩
  have hs3 : Slot u2 (w.heap.size + 1) ⟨0, 0, false, ⟨#[]⟩⟩ := by rw [hu2]; exact (HS1.out.below HB1.out).alloc _
  have hb2 : Below w.heap.size w u2 := by rw [hu2]; exact (HB0.out.trans (HB1.out.mono (HB0.out.size))).alloc (Nat.le_trans HB0.out.size HB1.out.size) _
  have hz2 : w.heap.size + 2 ≤ w1.heap.size := by have := HB1.out.size; rw [HZ0.out] at this; exact this
  obtain ⟨⟨c0, c1, c2, c3⟩, _⟩ := hs2.at
  have HS2 := Lib.hid hs2
  have HS3 := Lib.hid hs3
  have HB2 := Lib.hid hb2
  have HZ2 := Lib.hid hz2
  clear hs2 hs3 hb2 hz2 hu2 HS1 HB0 HZ0 HB1 T1
  generalize w1.heap.size = g1 at *
  go_wp2_with (first
    | (go_at_call 28; go_enter Try.func28, Try.ntmps28)
    | (go_at_call 29; refine (T3.out _).mono ?_; rintro e w3 ⟨rfl, hb3⟩; obtain ⟨⟨d0, d1, d2, d3⟩, f0, f1, f2, f3⟩ := (HS2.out.below hb3).at; obtain ⟨⟨z0, z1, z2, z3⟩, y0, y1, y2, y3⟩ := (HS3.out.below hb3).at; have hz3 := (HS3.out.below hb3).b; have HZ3 := Lib.hid hz3; clear hz3; have HB3 := Lib.hid (HB2.out.trans (hb3.mono HB2.out.size)); have hne : g1 ≠ w.heap.size + 1 := (by have := HZ2.out; omega); clear hb3 c0 c1 c2 c3))
  obtain ⟨w4, hw4⟩ : ∃ w4, w4 = (((((w3.setCell ⟨g1, 3, none⟩ (.string ps)).setCell ⟨w.heap.size + 1, 0, none⟩ (.int .i64 pk)).setCell ⟨w.heap.size + 1, 1, none⟩ (.int .i64 pi)).setCell ⟨w.heap.size + 1, 2, none⟩ (.bool pb)).setCell ⟨w.heap.size + 1, 3, none⟩ (.string ps)) := ⟨_, rfl⟩
  have h4 : Slot w4 (w.heap.size + 1) ⟨pk, pi, pb, ps⟩ := by rw [hw4]; exact Slot.store (Slot.other (v := ⟨0, 0, false, ⟨#[]⟩⟩) ⟨HZ3.out⟩ hne) ⟨pk, pi, pb, ps⟩
  have hb4 : Below w.heap.size w w4 := by
    rw [hw4]
    have hg : w.heap.size ≤ g1 := by have := HZ2.out; omega
    exact ((((HB3.out.setCell hg _).setCell (by simp) _).setCell (by simp) _).setCell (by simp) _).setCell (by simp) _
  obtain ⟨⟨c0, c1, c2, c3⟩, _⟩ := h4.at
  rw [← hw4]
  clear hw4 h4 d0 d1 d2 d3 f0 f1 f2 f3 z0 z1 z2 z3 y0 y1 y2 y3
  try simp only [Exit.inBlock, Exit.then]
  refine bodyPost_ret (v := .agg #[.int .i64 pk, .int .i64 pi, .bool pb, .string ps]) (by simp [results, Try.results25, go_sem, c0, c1, c2, c3]) rfl ?_
  exact ⟨rfl, hb4⟩
end Go.Proofs.Ytgpnfmkonhaccaa
