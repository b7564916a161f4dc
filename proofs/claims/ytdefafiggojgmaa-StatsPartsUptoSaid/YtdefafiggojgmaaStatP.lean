/- The program's statistics: a value's own, the lesser and the greater of two bounds. -/
import Derived.Test.YtdefafiggojgmaaStatL
namespace Go.Proofs.Ytdefafiggojgmaa
open Go.Conc Go.RowKit
set_option linter.unusedVariables false
set_option linter.unusedSimpArgs false

theorem null_dec (v : V) : decide (plainV v = zeroV) = decide (kindV v = 0) := decide_eq_decide.2 (plain_null_iff v)
set_option maxRecDepth 100000 in
theorem unull_any (v : V) (w : World) : Calls Try.prog 26 #[.agg #[.int .i64 v.k, .int .i64 v.i, .bool v.b, .string v.s]] w fun e w' => e = .returned (.bool (decide (kindV v = 0))) ∧ Below w.heap.size w w' := by
  have T := Lib.hid (fun u => plain_any v u)
  rw [← null_dec v]
  generalize plainV v = p at *
  have hq : ∀ w, (binOp .eql 24 (.agg #[.int .i64 p.k, .int .i64 p.i, .bool p.b, .string p.s]) (.agg #[.int .i64 0, .int .i64 0, .bool false, .string ⟨#[]⟩])).run Try.prog w = .ok (.bool (decide (p = zeroV))) w := run_eql_val p zeroV
  have HB0 := Lib.hid (show Below w.heap.size w (w.alloc (.cells #[.int .i64 v.k, .int .i64 v.i, .bool v.b, .string v.s] 24)) from (Below.refl _ _).alloc (Nat.le_refl _) _)
  go_enter Try.func26, Try.ntmps26
  go_wp2_with (go_at_call 29; refine (T.out _).mono ?_; rintro e w1 ⟨rfl, hb⟩; have HB := Lib.hid (HB0.out.trans (hb.mono HB0.out.size)); clear hb)
  go_ret
  exact ⟨rfl, HB.out⟩

def singleS (v : V) : S := if kindV v = 0 then ⟨0, 1, zeroV, zeroV⟩ else ⟨0, 0, v, v⟩
set_option maxRecDepth 100000 in
theorem single_any (v : V) (w : World) : Calls Try.prog 18 #[.agg #[.int .i64 v.k, .int .i64 v.i, .bool v.b, .string v.s]] w fun e w' => e = .returned (.agg #[.int .i64 (singleS v).c, .int .i64 (singleS v).n, .int .i64 (singleS v).lo.k, .int .i64 (singleS v).lo.i, .bool (singleS v).lo.b, .string (singleS v).lo.s, .int .i64 (singleS v).hi.k, .int .i64 (singleS v).hi.i, .bool (singleS v).hi.b, .string (singleS v).hi.s]) ∧ Below w.heap.size w w' := by
  have T := Lib.hid (fun u => unull_any v u)
  have hss : singleS v = if kindV v = 0 then ⟨0, 1, zeroV, zeroV⟩ else ⟨0, 0, v, v⟩ := rfl
  generalize singleS v = p at *
  obtain ⟨u, hu⟩ : ∃ u, u = ((w.alloc (.cells #[.int .i64 v.k, .int .i64 v.i, .bool v.b, .string v.s] 24)).alloc (.cells #[.int .i64 0, .int .i64 0, .int .i64 0, .int .i64 0, .bool false, .string ⟨#[]⟩, .int .i64 0, .int .i64 0, .bool false, .string ⟨#[]⟩] 26)) := ⟨_, rfl⟩
  have hs0 : Slot u w.heap.size v := by rw [hu]; exact (Slot.new w v).alloc _
  have hs1 : SSlot u (w.heap.size + 1) zeroS := by
    have := SSlot.new (w.alloc (.cells #[.int .i64 v.k, .int .i64 v.i, .bool v.b, .string v.s] 24)) zeroS
    rw [show (w.alloc (.cells #[.int .i64 v.k, .int .i64 v.i, .bool v.b, .string v.s] 24)).heap.size = w.heap.size + 1 by simp] at this
    rw [hu]; exact this
  have hb0 : Below w.heap.size w u := by rw [hu]; exact (((Below.refl _ _).alloc (Nat.le_refl _) _).alloc (by simp) _)
  have HS0 := Lib.hid hs0
  have HS1 := Lib.hid hs1
  have HB0 := Lib.hid hb0
  clear hs1 hb0 hs0
  by_cases c : kindV v = 0
  · rw [if_pos c] at hss
    subst hss
    simp only [decide_eq_true c] at T
    clear c
    go_enter Try.func18, Try.ntmps18
    go_upto_region 1 with fail
    rw [← hu]
    clear hu
    obtain ⟨⟨a0, a1, a2, a3⟩, _⟩ := HS0.out.at
    go_wp2_with (go_at_call 26; refine (T.out _).mono ?_; rintro e w1 ⟨rfl, hb1⟩; have hs1 := HS1.out.below hb1; obtain ⟨⟨z0, z1, z2, z3, z4, z5, z6, z7, z8, z9⟩, _⟩ := hs1.at; obtain ⟨y0, y1, y2, y3, y4, y5, y6, y7, y8, y9⟩ := hs1.froz; have HZ1 := Lib.hid hs1; have HB1 := Lib.hid (HB0.out.trans (hb1.mono HB0.out.size)); clear hb1 hs1)
    change bodyPost _ _ _ _ _ (putS w1 (w.heap.size + 1) ⟨0, 1, zeroV, zeroV⟩)
    have hp := HZ1.out.put ⟨0, 1, zeroV, zeroV⟩
    have hb := putS_below (s := ⟨0, 1, zeroV, zeroV⟩) HB1.out (Nat.le_succ w.heap.size)
    generalize putS w1 (w.heap.size + 1) ⟨0, 1, zeroV, zeroV⟩ = w4 at *
    clear z0 z1 z2 z3 z4 z5 z6 z7 z8 z9 y0 y1 y2 y3 y4 y5 y6 y7 y8 y9
    obtain ⟨⟨z0, z1, z2, z3, z4, z5, z6, z7, z8, z9⟩, _⟩ := hp.at
    refine bodyPost_ret (v := .agg #[.int .i64 ({ c := 0, n := 1, lo := zeroV, hi := zeroV } : S).c, .int .i64 ({ c := 0, n := 1, lo := zeroV, hi := zeroV } : S).n, .int .i64 ({ c := 0, n := 1, lo := zeroV, hi := zeroV } : S).lo.k, .int .i64 ({ c := 0, n := 1, lo := zeroV, hi := zeroV } : S).lo.i, .bool ({ c := 0, n := 1, lo := zeroV, hi := zeroV } : S).lo.b, .string ({ c := 0, n := 1, lo := zeroV, hi := zeroV } : S).lo.s, .int .i64 ({ c := 0, n := 1, lo := zeroV, hi := zeroV } : S).hi.k, .int .i64 ({ c := 0, n := 1, lo := zeroV, hi := zeroV } : S).hi.i, .bool ({ c := 0, n := 1, lo := zeroV, hi := zeroV } : S).hi.b, .string ({ c := 0, n := 1, lo := zeroV, hi := zeroV } : S).hi.s]) (by simp [results, Try.results18, go_sem, z0, z1, z2, z3, z4, z5, z6, z7, z8, z9]) rfl ?_
    exact ⟨rfl, hb⟩
  · rw [if_neg c] at hss
    subst hss
    simp only [decide_eq_false c] at T
    clear c
    go_enter Try.func18, Try.ntmps18
    go_upto_region 1 with fail
    rw [← hu]
    clear hu
    obtain ⟨⟨a0, a1, a2, a3⟩, _⟩ := HS0.out.at
    go_wp2_with (go_at_call 26; refine (T.out _).mono ?_; rintro e w1 ⟨rfl, hb1⟩; have hs1 := HS1.out.below hb1; obtain ⟨⟨z0, z1, z2, z3, z4, z5, z6, z7, z8, z9⟩, _⟩ := hs1.at; obtain ⟨y0, y1, y2, y3, y4, y5, y6, y7, y8, y9⟩ := hs1.froz; obtain ⟨⟨c0, c1, c2, c3⟩, _⟩ := (HS0.out.below hb1).at; have HZ1 := Lib.hid hs1; have HB1 := Lib.hid (HB0.out.trans (hb1.mono HB0.out.size)); clear hb1 hs1)
    change bodyPost _ _ _ _ _ (putS w1 (w.heap.size + 1) ⟨0, 0, v, v⟩)
    have hp := HZ1.out.put ⟨0, 0, v, v⟩
    have hb := putS_below (s := ⟨0, 0, v, v⟩) HB1.out (Nat.le_succ w.heap.size)
    generalize putS w1 (w.heap.size + 1) ⟨0, 0, v, v⟩ = w4 at *
    clear z0 z1 z2 z3 z4 z5 z6 z7 z8 z9 y0 y1 y2 y3 y4 y5 y6 y7 y8 y9
    obtain ⟨⟨z0, z1, z2, z3, z4, z5, z6, z7, z8, z9⟩, _⟩ := hp.at
    refine bodyPost_ret (v := .agg #[.int .i64 ({ c := 0, n := 0, lo := v, hi := v } : S).c, .int .i64 ({ c := 0, n := 0, lo := v, hi := v } : S).n, .int .i64 ({ c := 0, n := 0, lo := v, hi := v } : S).lo.k, .int .i64 ({ c := 0, n := 0, lo := v, hi := v } : S).lo.i, .bool ({ c := 0, n := 0, lo := v, hi := v } : S).lo.b, .string ({ c := 0, n := 0, lo := v, hi := v } : S).lo.s, .int .i64 ({ c := 0, n := 0, lo := v, hi := v } : S).hi.k, .int .i64 ({ c := 0, n := 0, lo := v, hi := v } : S).hi.i, .bool ({ c := 0, n := 0, lo := v, hi := v } : S).hi.b, .string ({ c := 0, n := 0, lo := v, hi := v } : S).hi.s]) (by simp [results, Try.results18, go_sem, z0, z1, z2, z3, z4, z5, z6, z7, z8, z9]) rfl ?_
    exact ⟨rfl, hb⟩

set_option maxRecDepth 100000 in
theorem statmore_any (a b : V) (w : World) : Calls Try.prog 25 #[.agg #[.int .i64 a.k, .int .i64 a.i, .bool a.b, .string a.s], .agg #[.int .i64 b.k, .int .i64 b.i, .bool b.b, .string b.s]] w fun e w' => e = .returned (.agg #[.int .i64 (moreA a b).k, .int .i64 (moreA a b).i, .bool (moreA a b).b, .string (moreA a b).s]) ∧ Below w.heap.size w w' := by
  have T3 := Lib.hid (fun u => vecless_any a b u)
  obtain ⟨u, hu⟩ : ∃ u, u = (((w.alloc (.cells #[.int .i64 a.k, .int .i64 a.i, .bool a.b, .string a.s] 24)).alloc (.cells #[.int .i64 b.k, .int .i64 b.i, .bool b.b, .string b.s] 24)).alloc (.cells #[.int .i64 0, .int .i64 0, .bool false, .string ⟨#[]⟩] 24)) := ⟨_, rfl⟩
  have hsa : Slot u w.heap.size a := by rw [hu]; exact ((Slot.new w a).alloc _).alloc _
  have hsb : Slot u (w.heap.size + 1) b := by
    have := (Slot.new (w.alloc (.cells #[.int .i64 a.k, .int .i64 a.i, .bool a.b, .string a.s] 24)) b).alloc (.cells #[.int .i64 0, .int .i64 0, .bool false, .string ⟨#[]⟩] 24)
    rw [show (w.alloc (.cells #[.int .i64 a.k, .int .i64 a.i, .bool a.b, .string a.s] 24)).heap.size = w.heap.size + 1 by simp] at this
    rw [hu]; exact this
  have hsz : Slot u (w.heap.size + 2) zeroV := by
    have := Slot.new ((w.alloc (.cells #[.int .i64 a.k, .int .i64 a.i, .bool a.b, .string a.s] 24)).alloc (.cells #[.int .i64 b.k, .int .i64 b.i, .bool b.b, .string b.s] 24)) zeroV
    rw [show ((w.alloc (.cells #[.int .i64 a.k, .int .i64 a.i, .bool a.b, .string a.s] 24)).alloc (.cells #[.int .i64 b.k, .int .i64 b.i, .bool b.b, .string b.s] 24)).heap.size = w.heap.size + 2 by simp] at this
    rw [hu]; exact this
  have hb0 : Below w.heap.size w u := by rw [hu]; exact ((((Below.refl _ _).alloc (Nat.le_refl _) _).alloc (by simp) _).alloc (by simp; omega) _)
  have HSA := Lib.hid hsa
  have HSB := Lib.hid hsb
  have HSZ := Lib.hid hsz
  have HB0 := Lib.hid hb0
  clear hsa hsb hsz hb0
  unfold moreA
  by_cases c : ordV a b < 0
  · rw [if_pos c]
    simp only [decide_eq_true c] at T3
    clear c
    go_enter Try.func25, Try.ntmps25
    go_upto_region 1 with fail
    rw [← hu]
    clear hu
    obtain ⟨⟨a0, a1, a2, a3⟩, _⟩ := HSA.out.at
    obtain ⟨⟨b0, b1, b2, b3⟩, _⟩ := HSB.out.at
    go_wp2_with (go_at_call 28; refine (T3.out _).mono ?_; rintro e wf ⟨rfl, hb1⟩; clear T3; replace HSA := Lib.hid (HSA.out.below hb1); replace HSB := Lib.hid (HSB.out.below hb1); replace HSZ := Lib.hid (HSZ.out.below hb1); replace HB0 := Lib.hid (HB0.out.trans (hb1.mono HB0.out.size)); clear hb1; obtain ⟨⟨a0, a1, a2, a3⟩, _⟩ := HSA.out.at; obtain ⟨⟨b0, b1, b2, b3⟩, _⟩ := HSB.out.at; obtain ⟨⟨z0, z1, z2, z3⟩, y0, y1, y2, y3⟩ := HSZ.out.at)
    obtain ⟨w4, hw4, h4, hb4⟩ := slot_ret HSZ.out HB0.out (Nat.le_add_right w.heap.size 2) b
    obtain ⟨⟨x0, x1, x2, x3⟩, _⟩ := h4.at
    try simp only at hw4 x0 x1 x2 x3
    change bodyPost _ _ _ _ _ ((((wf.setCell ⟨w.heap.size + 2, 0, none⟩ (.int .i64 b.k)).setCell ⟨w.heap.size + 2, 1, none⟩ (.int .i64 b.i)).setCell ⟨w.heap.size + 2, 2, none⟩ (.bool b.b)).setCell ⟨w.heap.size + 2, 3, none⟩ (.string b.s))
    rw [← hw4]
    clear hw4 h4
    refine bodyPost_ret (v := .agg #[.int .i64 b.k, .int .i64 b.i, .bool b.b, .string b.s]) (by simp [results, Try.results25, go_sem, x0, x1, x2, x3]) rfl ?_
    exact ⟨rfl, hb4⟩
  · rw [if_neg c]
    simp only [decide_eq_false c] at T3
    clear c
    go_enter Try.func25, Try.ntmps25
    go_upto_region 1 with fail
    rw [← hu]
    clear hu
    obtain ⟨⟨a0, a1, a2, a3⟩, _⟩ := HSA.out.at
    obtain ⟨⟨b0, b1, b2, b3⟩, _⟩ := HSB.out.at
    go_wp2_with (go_at_call 28; refine (T3.out _).mono ?_; rintro e wf ⟨rfl, hb1⟩; clear T3; replace HSA := Lib.hid (HSA.out.below hb1); replace HSB := Lib.hid (HSB.out.below hb1); replace HSZ := Lib.hid (HSZ.out.below hb1); replace HB0 := Lib.hid (HB0.out.trans (hb1.mono HB0.out.size)); clear hb1; obtain ⟨⟨a0, a1, a2, a3⟩, _⟩ := HSA.out.at; obtain ⟨⟨b0, b1, b2, b3⟩, _⟩ := HSB.out.at; obtain ⟨⟨z0, z1, z2, z3⟩, y0, y1, y2, y3⟩ := HSZ.out.at)
    obtain ⟨w4, hw4, h4, hb4⟩ := slot_ret HSZ.out HB0.out (Nat.le_add_right w.heap.size 2) a
    obtain ⟨⟨x0, x1, x2, x3⟩, _⟩ := h4.at
    try simp only at hw4 x0 x1 x2 x3
    change bodyPost _ _ _ _ _ ((((wf.setCell ⟨w.heap.size + 2, 0, none⟩ (.int .i64 a.k)).setCell ⟨w.heap.size + 2, 1, none⟩ (.int .i64 a.i)).setCell ⟨w.heap.size + 2, 2, none⟩ (.bool a.b)).setCell ⟨w.heap.size + 2, 3, none⟩ (.string a.s))
    rw [← hw4]
    clear hw4 h4
    refine bodyPost_ret (v := .agg #[.int .i64 a.k, .int .i64 a.i, .bool a.b, .string a.s]) (by simp [results, Try.results25, go_sem, x0, x1, x2, x3]) rfl ?_
    exact ⟨rfl, hb4⟩

set_option maxRecDepth 100000 in
theorem statless_any (a b : V) (w : World) : Calls Try.prog 24 #[.agg #[.int .i64 a.k, .int .i64 a.i, .bool a.b, .string a.s], .agg #[.int .i64 b.k, .int .i64 b.i, .bool b.b, .string b.s]] w fun e w' => e = .returned (.agg #[.int .i64 (lessA a b).k, .int .i64 (lessA a b).i, .bool (lessA a b).b, .string (lessA a b).s]) ∧ Below w.heap.size w w' := by
  have T1 := Lib.hid (fun u => unull_any a u)
  have T2 := Lib.hid (fun u => unull_any b u)
  have T3 := Lib.hid (fun u => vecless_any b a u)
  obtain ⟨u, hu⟩ : ∃ u, u = (((w.alloc (.cells #[.int .i64 a.k, .int .i64 a.i, .bool a.b, .string a.s] 24)).alloc (.cells #[.int .i64 b.k, .int .i64 b.i, .bool b.b, .string b.s] 24)).alloc (.cells #[.int .i64 0, .int .i64 0, .bool false, .string ⟨#[]⟩] 24)) := ⟨_, rfl⟩
  have hsa : Slot u w.heap.size a := by rw [hu]; exact ((Slot.new w a).alloc _).alloc _
  have hsb : Slot u (w.heap.size + 1) b := by
    have := (Slot.new (w.alloc (.cells #[.int .i64 a.k, .int .i64 a.i, .bool a.b, .string a.s] 24)) b).alloc (.cells #[.int .i64 0, .int .i64 0, .bool false, .string ⟨#[]⟩] 24)
    rw [show (w.alloc (.cells #[.int .i64 a.k, .int .i64 a.i, .bool a.b, .string a.s] 24)).heap.size = w.heap.size + 1 by simp] at this
    rw [hu]; exact this
  have hsz : Slot u (w.heap.size + 2) zeroV := by
    have := Slot.new ((w.alloc (.cells #[.int .i64 a.k, .int .i64 a.i, .bool a.b, .string a.s] 24)).alloc (.cells #[.int .i64 b.k, .int .i64 b.i, .bool b.b, .string b.s] 24)) zeroV
    rw [show ((w.alloc (.cells #[.int .i64 a.k, .int .i64 a.i, .bool a.b, .string a.s] 24)).alloc (.cells #[.int .i64 b.k, .int .i64 b.i, .bool b.b, .string b.s] 24)).heap.size = w.heap.size + 2 by simp] at this
    rw [hu]; exact this
  have hb0 : Below w.heap.size w u := by rw [hu]; exact ((((Below.refl _ _).alloc (Nat.le_refl _) _).alloc (by simp) _).alloc (by simp; omega) _)
  have HSA := Lib.hid hsa
  have HSB := Lib.hid hsb
  have HSZ := Lib.hid hsz
  have HB0 := Lib.hid hb0
  clear hsa hsb hsz hb0
  unfold lessA
  by_cases c : kindV a = 0
  · rw [if_pos (.inl c)]
    simp only [decide_eq_true c] at T1
    clear c T2 T3
    go_enter Try.func24, Try.ntmps24
    go_upto_region 1 with fail
    rw [← hu]
    clear hu
    obtain ⟨⟨a0, a1, a2, a3⟩, _⟩ := HSA.out.at
    obtain ⟨⟨b0, b1, b2, b3⟩, _⟩ := HSB.out.at
    go_wp2_with (go_at_call 26; refine (T1.out _).mono ?_; rintro e wf ⟨rfl, hb1⟩; clear T1; replace HSA := Lib.hid (HSA.out.below hb1); replace HSB := Lib.hid (HSB.out.below hb1); replace HSZ := Lib.hid (HSZ.out.below hb1); replace HB0 := Lib.hid (HB0.out.trans (hb1.mono HB0.out.size)); clear hb1; obtain ⟨⟨a0, a1, a2, a3⟩, _⟩ := HSA.out.at; obtain ⟨⟨b0, b1, b2, b3⟩, _⟩ := HSB.out.at; obtain ⟨⟨z0, z1, z2, z3⟩, y0, y1, y2, y3⟩ := HSZ.out.at)
    obtain ⟨w4, hw4, h4, hb4⟩ := slot_ret HSZ.out HB0.out (Nat.le_add_right w.heap.size 2) b
    obtain ⟨⟨x0, x1, x2, x3⟩, _⟩ := h4.at
    try simp only at hw4 x0 x1 x2 x3
    change bodyPost _ _ _ _ _ ((((wf.setCell ⟨w.heap.size + 2, 0, none⟩ (.int .i64 b.k)).setCell ⟨w.heap.size + 2, 1, none⟩ (.int .i64 b.i)).setCell ⟨w.heap.size + 2, 2, none⟩ (.bool b.b)).setCell ⟨w.heap.size + 2, 3, none⟩ (.string b.s))
    rw [← hw4]
    clear hw4 h4
    refine bodyPost_ret (v := .agg #[.int .i64 b.k, .int .i64 b.i, .bool b.b, .string b.s]) (by simp [results, Try.results24, go_sem, x0, x1, x2, x3]) rfl ?_
    exact ⟨rfl, hb4⟩
  simp only [decide_eq_false c] at T1
  by_cases d : kindV b = 0
  · rw [if_neg (by rintro (h | h); exact c h; exact h.1 d)]
    simp only [decide_eq_true d] at T2
    clear c d T3
    go_enter Try.func24, Try.ntmps24
    go_upto_region 1 with fail
    rw [← hu]
    clear hu
    obtain ⟨⟨a0, a1, a2, a3⟩, _⟩ := HSA.out.at
    obtain ⟨⟨b0, b1, b2, b3⟩, _⟩ := HSB.out.at
    go_wp2_with (first
      | (go_at_call 26; refine (T1.out _).mono ?_; rintro e wf ⟨rfl, hb1⟩; clear T1; replace HSA := Lib.hid (HSA.out.below hb1); replace HSB := Lib.hid (HSB.out.below hb1); replace HSZ := Lib.hid (HSZ.out.below hb1); replace HB0 := Lib.hid (HB0.out.trans (hb1.mono HB0.out.size)); clear hb1; obtain ⟨⟨a0, a1, a2, a3⟩, _⟩ := HSA.out.at; obtain ⟨⟨b0, b1, b2, b3⟩, _⟩ := HSB.out.at; obtain ⟨⟨z0, z1, z2, z3⟩, y0, y1, y2, y3⟩ := HSZ.out.at)
      | (go_at_call 26; refine (T2.out _).mono ?_; rintro e wf ⟨rfl, hb1⟩; clear T2; replace HSA := Lib.hid (HSA.out.below hb1); replace HSB := Lib.hid (HSB.out.below hb1); replace HSZ := Lib.hid (HSZ.out.below hb1); replace HB0 := Lib.hid (HB0.out.trans (hb1.mono HB0.out.size)); clear hb1; obtain ⟨⟨a0, a1, a2, a3⟩, _⟩ := HSA.out.at; obtain ⟨⟨b0, b1, b2, b3⟩, _⟩ := HSB.out.at; obtain ⟨⟨z0, z1, z2, z3⟩, y0, y1, y2, y3⟩ := HSZ.out.at))
    obtain ⟨w4, hw4, h4, hb4⟩ := slot_ret HSZ.out HB0.out (Nat.le_add_right w.heap.size 2) a
    obtain ⟨⟨x0, x1, x2, x3⟩, _⟩ := h4.at
    try simp only at hw4 x0 x1 x2 x3
    change bodyPost _ _ _ _ _ ((((wf.setCell ⟨w.heap.size + 2, 0, none⟩ (.int .i64 a.k)).setCell ⟨w.heap.size + 2, 1, none⟩ (.int .i64 a.i)).setCell ⟨w.heap.size + 2, 2, none⟩ (.bool a.b)).setCell ⟨w.heap.size + 2, 3, none⟩ (.string a.s))
    rw [← hw4]
    clear hw4 h4
    refine bodyPost_ret (v := .agg #[.int .i64 a.k, .int .i64 a.i, .bool a.b, .string a.s]) (by simp [results, Try.results24, go_sem, x0, x1, x2, x3]) rfl ?_
    exact ⟨rfl, hb4⟩
  simp only [decide_eq_false d] at T2
  by_cases l : ordV b a < 0
  · rw [if_pos (.inr ⟨d, l⟩)]
    simp only [decide_eq_true l] at T3
    clear c d l
    go_enter Try.func24, Try.ntmps24
    go_upto_region 1 with fail
    rw [← hu]
    clear hu
    obtain ⟨⟨a0, a1, a2, a3⟩, _⟩ := HSA.out.at
    obtain ⟨⟨b0, b1, b2, b3⟩, _⟩ := HSB.out.at
    go_wp2_with (first
      | (go_at_call 26; refine (T1.out _).mono ?_; rintro e wf ⟨rfl, hb1⟩; clear T1; replace HSA := Lib.hid (HSA.out.below hb1); replace HSB := Lib.hid (HSB.out.below hb1); replace HSZ := Lib.hid (HSZ.out.below hb1); replace HB0 := Lib.hid (HB0.out.trans (hb1.mono HB0.out.size)); clear hb1; obtain ⟨⟨a0, a1, a2, a3⟩, _⟩ := HSA.out.at; obtain ⟨⟨b0, b1, b2, b3⟩, _⟩ := HSB.out.at; obtain ⟨⟨z0, z1, z2, z3⟩, y0, y1, y2, y3⟩ := HSZ.out.at)
      | (go_at_call 26; refine (T2.out _).mono ?_; rintro e wf ⟨rfl, hb1⟩; clear T2; replace HSA := Lib.hid (HSA.out.below hb1); replace HSB := Lib.hid (HSB.out.below hb1); replace HSZ := Lib.hid (HSZ.out.below hb1); replace HB0 := Lib.hid (HB0.out.trans (hb1.mono HB0.out.size)); clear hb1; obtain ⟨⟨a0, a1, a2, a3⟩, _⟩ := HSA.out.at; obtain ⟨⟨b0, b1, b2, b3⟩, _⟩ := HSB.out.at; obtain ⟨⟨z0, z1, z2, z3⟩, y0, y1, y2, y3⟩ := HSZ.out.at)
      | (go_at_call 28; refine (T3.out _).mono ?_; rintro e wf ⟨rfl, hb1⟩; clear T3; replace HSA := Lib.hid (HSA.out.below hb1); replace HSB := Lib.hid (HSB.out.below hb1); replace HSZ := Lib.hid (HSZ.out.below hb1); replace HB0 := Lib.hid (HB0.out.trans (hb1.mono HB0.out.size)); clear hb1; obtain ⟨⟨a0, a1, a2, a3⟩, _⟩ := HSA.out.at; obtain ⟨⟨b0, b1, b2, b3⟩, _⟩ := HSB.out.at; obtain ⟨⟨z0, z1, z2, z3⟩, y0, y1, y2, y3⟩ := HSZ.out.at))
    obtain ⟨w4, hw4, h4, hb4⟩ := slot_ret HSZ.out HB0.out (Nat.le_add_right w.heap.size 2) b
    obtain ⟨⟨x0, x1, x2, x3⟩, _⟩ := h4.at
    try simp only at hw4 x0 x1 x2 x3
    change bodyPost _ _ _ _ _ ((((wf.setCell ⟨w.heap.size + 2, 0, none⟩ (.int .i64 b.k)).setCell ⟨w.heap.size + 2, 1, none⟩ (.int .i64 b.i)).setCell ⟨w.heap.size + 2, 2, none⟩ (.bool b.b)).setCell ⟨w.heap.size + 2, 3, none⟩ (.string b.s))
    rw [← hw4]
    clear hw4 h4
    refine bodyPost_ret (v := .agg #[.int .i64 b.k, .int .i64 b.i, .bool b.b, .string b.s]) (by simp [results, Try.results24, go_sem, x0, x1, x2, x3]) rfl ?_
    exact ⟨rfl, hb4⟩
  · rw [if_neg (by rintro (h | h); exact c h; exact l h.2)]
    simp only [decide_eq_false l] at T3
    clear c d l
    go_enter Try.func24, Try.ntmps24
    go_upto_region 1 with fail
    rw [← hu]
    clear hu
    obtain ⟨⟨a0, a1, a2, a3⟩, _⟩ := HSA.out.at
    obtain ⟨⟨b0, b1, b2, b3⟩, _⟩ := HSB.out.at
    go_wp2_with (first
      | (go_at_call 26; refine (T1.out _).mono ?_; rintro e wf ⟨rfl, hb1⟩; clear T1; replace HSA := Lib.hid (HSA.out.below hb1); replace HSB := Lib.hid (HSB.out.below hb1); replace HSZ := Lib.hid (HSZ.out.below hb1); replace HB0 := Lib.hid (HB0.out.trans (hb1.mono HB0.out.size)); clear hb1; obtain ⟨⟨a0, a1, a2, a3⟩, _⟩ := HSA.out.at; obtain ⟨⟨b0, b1, b2, b3⟩, _⟩ := HSB.out.at; obtain ⟨⟨z0, z1, z2, z3⟩, y0, y1, y2, y3⟩ := HSZ.out.at)
      | (go_at_call 26; refine (T2.out _).mono ?_; rintro e wf ⟨rfl, hb1⟩; clear T2; replace HSA := Lib.hid (HSA.out.below hb1); replace HSB := Lib.hid (HSB.out.below hb1); replace HSZ := Lib.hid (HSZ.out.below hb1); replace HB0 := Lib.hid (HB0.out.trans (hb1.mono HB0.out.size)); clear hb1; obtain ⟨⟨a0, a1, a2, a3⟩, _⟩ := HSA.out.at; obtain ⟨⟨b0, b1, b2, b3⟩, _⟩ := HSB.out.at; obtain ⟨⟨z0, z1, z2, z3⟩, y0, y1, y2, y3⟩ := HSZ.out.at)
      | (go_at_call 28; refine (T3.out _).mono ?_; rintro e wf ⟨rfl, hb1⟩; clear T3; replace HSA := Lib.hid (HSA.out.below hb1); replace HSB := Lib.hid (HSB.out.below hb1); replace HSZ := Lib.hid (HSZ.out.below hb1); replace HB0 := Lib.hid (HB0.out.trans (hb1.mono HB0.out.size)); clear hb1; obtain ⟨⟨a0, a1, a2, a3⟩, _⟩ := HSA.out.at; obtain ⟨⟨b0, b1, b2, b3⟩, _⟩ := HSB.out.at; obtain ⟨⟨z0, z1, z2, z3⟩, y0, y1, y2, y3⟩ := HSZ.out.at))
    obtain ⟨w4, hw4, h4, hb4⟩ := slot_ret HSZ.out HB0.out (Nat.le_add_right w.heap.size 2) a
    obtain ⟨⟨x0, x1, x2, x3⟩, _⟩ := h4.at
    try simp only at hw4 x0 x1 x2 x3
    change bodyPost _ _ _ _ _ ((((wf.setCell ⟨w.heap.size + 2, 0, none⟩ (.int .i64 a.k)).setCell ⟨w.heap.size + 2, 1, none⟩ (.int .i64 a.i)).setCell ⟨w.heap.size + 2, 2, none⟩ (.bool a.b)).setCell ⟨w.heap.size + 2, 3, none⟩ (.string a.s))
    rw [← hw4]
    clear hw4 h4
    refine bodyPost_ret (v := .agg #[.int .i64 a.k, .int .i64 a.i, .bool a.b, .string a.s]) (by simp [results, Try.results24, go_sem, x0, x1, x2, x3]) rfl ?_
    exact ⟨rfl, hb4⟩

end Go.Proofs.Ytdefafiggojgmaa
