/- The document's kind and Clean of values. -/
import Derived.Test.YthfakpekdjmpjaaVProg
namespace Go.Proofs.Ythfakpekdjmpjaa
open Go.Conc Go.RowKit
set_option linter.unusedVariables false
set_option linter.unusedSimpArgs false

set_option maxRecDepth 100000 in
theorem rkind_any (v : V) (w : World) : Calls Try.prog 85 #[.agg #[.int .i64 v.k, .int .i64 v.i, .bool v.b, .string v.s]] w fun e w' => e = .returned (.int .i64 (kindV v)) ∧ Below w.heap.size w w' := by
  by_cases h1 : v.k < 0
  · rw [kindV_out (.inl h1)]
    go_enter Try.func85, Try.ntmps85
    go_wp2
    go_ret
    exact ⟨rfl, ((Below.refl _ _).alloc (Nat.le_refl _) _)⟩
  by_cases h2 : 3 < v.k
  · rw [kindV_out (.inr h2)]
    go_enter Try.func85, Try.ntmps85
    go_wp2
    go_ret
    exact ⟨rfl, ((Below.refl _ _).alloc (Nat.le_refl _) _)⟩
  rw [kindV_in (by omega)]
  go_enter Try.func85, Try.ntmps85
  go_wp2
  go_ret
  exact ⟨rfl, ((Below.refl _ _).alloc (Nat.le_refl _) _)⟩

set_option maxRecDepth 100000 in
theorem rclean_any (v : V) (w : World) : Calls Try.prog 46 #[.agg #[.int .i64 v.k, .int .i64 v.i, .bool v.b, .string v.s]] w fun e w' => e = .returned (.agg #[.int .i64 (plainV v).k, .int .i64 (plainV v).i, .bool (plainV v).b, .string (plainV v).s]) ∧ Below w.heap.size w w' := by
  have T1 := Lib.hid (fun u => rkind_any v u)
  obtain ⟨p, hp⟩ : ∃ p, p = plainV v := ⟨_, rfl⟩
  have HP := Lib.hid hp
  rw [← hp]
  have hkr := kindV_range v
  have hk : (kindV v = 1 ∧ p = ⟨1, v.i, false, ByteArray.empty⟩) ∨ (kindV v = 2 ∧ p = ⟨2, 0, v.b, ByteArray.empty⟩) ∨ (kindV v = 3 ∧ p = ⟨3, 0, false, v.s⟩) ∨ (kindV v = 0 ∧ p = ⟨0, 0, false, ByteArray.empty⟩) := by
    by_cases h1 : v.k = 1
    · exact .inl ⟨by rw [kindV_in (by omega), h1], by rw [hp, plainV_int h1]⟩
    by_cases h2 : v.k = 2
    · exact .inr (.inl ⟨by rw [kindV_in (by omega), h2], by rw [hp, plainV_bool h2]⟩)
    by_cases h3 : v.k = 3
    · exact .inr (.inr (.inl ⟨by rw [kindV_in (by omega), h3], by rw [hp, plainV_text h3]⟩))
    · refine .inr (.inr (.inr ⟨?_, by rw [hp, plainV_null h1 h2 h3]⟩))
      by_cases h0 : v.k = 0
      · rw [kindV_in (by omega), h0]
      · rw [kindV_out (by omega)]
  clear hp HP hkr
  generalize kindV v = kd at *
  obtain ⟨u, hu⟩ : ∃ u, u = ((w.alloc (.cells #[.int .i64 v.k, .int .i64 v.i, .bool v.b, .string v.s] 57)).alloc (.cells #[.int .i64 0, .int .i64 0, .bool false, .string ⟨#[]⟩] 57)) := ⟨_, rfl⟩
  have hs0 : Slot u w.heap.size v := by rw [hu]; exact (Slot.new w v).alloc _
  have hs1 : Slot u (w.heap.size + 1) ⟨0, 0, false, ⟨#[]⟩⟩ := by
    have := Slot.new (w.alloc (.cells #[.int .i64 v.k, .int .i64 v.i, .bool v.b, .string v.s] 57)) ⟨0, 0, false, ⟨#[]⟩⟩
    rw [hu]; simpa using this
  have hb0 : Below w.heap.size w u := by rw [hu]; exact (((Below.refl _ _).alloc (Nat.le_refl _) _).alloc (by simp) _)
  have HS0 := Lib.hid hs0
  have HS1 := Lib.hid hs1
  have HB0 := Lib.hid hb0
  clear hs1 hb0
  go_enter Try.func46, Try.ntmps46
  go_upto_region 1 with fail
  rw [← hu]
  clear hu
  obtain ⟨⟨a0, a1, a2, a3⟩, _⟩ := hs0.at
  clear hs0
  go_upto_region 2 with (go_at_call 85; refine (T1.out _).mono ?_; rintro e w1 ⟨rfl, hb1⟩; obtain ⟨⟨c0, c1, c2, c3⟩, _⟩ := (HS0.out.below hb1).at; have hs1 := HS1.out.below hb1; obtain ⟨⟨z0, z1, z2, z3⟩, y0, y1, y2, y3⟩ := hs1.at; have HZ1 := Lib.hid hs1; have HB1 := Lib.hid (HB0.out.trans (hb1.mono HB0.out.size)); clear hb1 hs1)
  clear a0 a1 a2 a3 HS0 HS1 HB0 T1
  rcases hk with ⟨rfl, rfl⟩ | ⟨rfl, rfl⟩ | ⟨rfl, rfl⟩ | ⟨rfl, rfl⟩
  · go_wp2
    obtain ⟨w4, hw4, h4, hb4⟩ := slot_ret HZ1.out HB1.out (Nat.le_succ _) ⟨1, v.i, false, ByteArray.empty⟩
    obtain ⟨⟨c0, c1, c2, c3⟩, _⟩ := h4.at
    simp only at hw4 c0 c1 c2 c3
    change bodyPost _ _ _ _ _ ((((w1.setCell ⟨w.heap.size + 1, 0, none⟩ (.int .i64 1)).setCell ⟨w.heap.size + 1, 1, none⟩ (.int .i64 (v.i))).setCell ⟨w.heap.size + 1, 2, none⟩ (.bool false)).setCell ⟨w.heap.size + 1, 3, none⟩ (.string ByteArray.empty))
    rw [← hw4]
    clear hw4 h4 z0 z1 z2 z3 y0 y1 y2 y3
    refine bodyPost_ret (v := .agg #[.int .i64 1, .int .i64 (v.i), .bool false, .string ByteArray.empty]) (by simp [results, Try.results46, go_sem, c0, c1, c2, c3]) rfl ?_
    exact ⟨rfl, hb4⟩
  · go_wp2
    obtain ⟨w4, hw4, h4, hb4⟩ := slot_ret HZ1.out HB1.out (Nat.le_succ _) ⟨2, 0, v.b, ByteArray.empty⟩
    obtain ⟨⟨c0, c1, c2, c3⟩, _⟩ := h4.at
    simp only at hw4 c0 c1 c2 c3
    change bodyPost _ _ _ _ _ ((((w1.setCell ⟨w.heap.size + 1, 0, none⟩ (.int .i64 2)).setCell ⟨w.heap.size + 1, 1, none⟩ (.int .i64 (0))).setCell ⟨w.heap.size + 1, 2, none⟩ (.bool v.b)).setCell ⟨w.heap.size + 1, 3, none⟩ (.string ByteArray.empty))
    rw [← hw4]
    clear hw4 h4 z0 z1 z2 z3 y0 y1 y2 y3
    refine bodyPost_ret (v := .agg #[.int .i64 2, .int .i64 (0), .bool v.b, .string ByteArray.empty]) (by simp [results, Try.results46, go_sem, c0, c1, c2, c3]) rfl ?_
    exact ⟨rfl, hb4⟩
  · go_wp2
    obtain ⟨w4, hw4, h4, hb4⟩ := slot_ret HZ1.out HB1.out (Nat.le_succ _) ⟨3, 0, false, v.s⟩
    obtain ⟨⟨c0, c1, c2, c3⟩, _⟩ := h4.at
    simp only at hw4 c0 c1 c2 c3
    change bodyPost _ _ _ _ _ ((((w1.setCell ⟨w.heap.size + 1, 0, none⟩ (.int .i64 3)).setCell ⟨w.heap.size + 1, 1, none⟩ (.int .i64 (0))).setCell ⟨w.heap.size + 1, 2, none⟩ (.bool false)).setCell ⟨w.heap.size + 1, 3, none⟩ (.string v.s))
    rw [← hw4]
    clear hw4 h4 z0 z1 z2 z3 y0 y1 y2 y3
    refine bodyPost_ret (v := .agg #[.int .i64 3, .int .i64 (0), .bool false, .string v.s]) (by simp [results, Try.results46, go_sem, c0, c1, c2, c3]) rfl ?_
    exact ⟨rfl, hb4⟩
  · go_wp2
    obtain ⟨w4, hw4, h4, hb4⟩ := slot_ret HZ1.out HB1.out (Nat.le_succ _) ⟨0, 0, false, ByteArray.empty⟩
    obtain ⟨⟨c0, c1, c2, c3⟩, _⟩ := h4.at
    simp only at hw4 c0 c1 c2 c3
    change bodyPost _ _ _ _ _ ((((w1.setCell ⟨w.heap.size + 1, 0, none⟩ (.int .i64 0)).setCell ⟨w.heap.size + 1, 1, none⟩ (.int .i64 (0))).setCell ⟨w.heap.size + 1, 2, none⟩ (.bool false)).setCell ⟨w.heap.size + 1, 3, none⟩ (.string ByteArray.empty))
    rw [← hw4]
    clear hw4 h4 z0 z1 z2 z3 y0 y1 y2 y3
    refine bodyPost_ret (v := .agg #[.int .i64 0, .int .i64 (0), .bool false, .string ByteArray.empty]) (by simp [results, Try.results46, go_sem, c0, c1, c2, c3]) rfl ?_
    exact ⟨rfl, hb4⟩
end Go.Proofs.Ythfakpekdjmpjaa
