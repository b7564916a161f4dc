/- The document's statistics: Null, Both, Stat. -/
import Derived.Test.YtdefafiggojgmaaStatF
import Derived.Test.YtdefafiggojgmaaQf
namespace Go.Proofs.Ytdefafiggojgmaa
open Go.Conc Go.RowKit
set_option linter.unusedVariables false
set_option linter.unusedSimpArgs false

set_option maxRecDepth 100000 in
theorem rnull_any (v : V) (w : World) : Calls Try.prog 13 #[.agg #[.int .i64 v.k, .int .i64 v.i, .bool v.b, .string v.s]] w fun e w' => e = .returned (.bool (decide (kindV v = 0))) ∧ Below w.heap.size w w' := by
  have T := Lib.hid (fun u => rkind_any v u)
  have HB0 := Lib.hid (show Below w.heap.size w (w.alloc (.cells #[.int .i64 v.k, .int .i64 v.i, .bool v.b, .string v.s] 24)) from (Below.refl _ _).alloc (Nat.le_refl _) _)
  generalize kindV v = k at *
  have hq : (k == 0) = decide (k = 0) := by by_cases h : k = 0 <;> simp [h]
  generalize decide (k = 0) = d at *
  cases d
  all_goals (
    go_enter Try.func13, Try.ntmps13
    go_wp2_with (go_at_call 22; refine (T.out _).mono ?_; rintro e w1 ⟨rfl, hb⟩; have HB := Lib.hid (HB0.out.trans (hb.mono HB0.out.size)); clear hb)
    go_ret
    exact ⟨rfl, HB.out⟩)

/-- One bound is stored. -/
def putL (w : World) (g : Nat) (p : V) : World := ((((w.setCell ⟨g, 2, none⟩ (.int .i64 p.k)).setCell ⟨g, 3, none⟩ (.int .i64 p.i)).setCell ⟨g, 4, none⟩ (.bool p.b)).setCell ⟨g, 5, none⟩ (.string p.s))
def putH (w : World) (g : Nat) (p : V) : World := ((((w.setCell ⟨g, 6, none⟩ (.int .i64 p.k)).setCell ⟨g, 7, none⟩ (.int .i64 p.i)).setCell ⟨g, 8, none⟩ (.bool p.b)).setCell ⟨g, 9, none⟩ (.string p.s))
theorem SSlot.putL {w : World} {g : Nat} {z : S} (h : SSlot w g z) (p : V) : SSlot (putL w g p) g ⟨z.c, z.n, p, z.hi⟩ := by
  have h0 := h.b
  have h1 := heap_setCell_same _ g 2 _ _ (.int .i64 p.k) h0
  have h2 := heap_setCell_same _ g 3 _ _ (.int .i64 p.i) h1
  have h3 := heap_setCell_same _ g 4 _ _ (.bool p.b) h2
  have h4 := heap_setCell_same _ g 5 _ _ (.string p.s) h3
  refine ⟨Eq.trans h4 ?_⟩
  simp
theorem SSlot.putH {w : World} {g : Nat} {z : S} (h : SSlot w g z) (p : V) : SSlot (putH w g p) g ⟨z.c, z.n, z.lo, p⟩ := by
  have h0 := h.b
  have h1 := heap_setCell_same _ g 6 _ _ (.int .i64 p.k) h0
  have h2 := heap_setCell_same _ g 7 _ _ (.int .i64 p.i) h1
  have h3 := heap_setCell_same _ g 8 _ _ (.bool p.b) h2
  have h4 := heap_setCell_same _ g 9 _ _ (.string p.s) h3
  refine ⟨Eq.trans h4 ?_⟩
  simp
theorem SSlot.putN {w : World} {g : Nat} {z : S} (h : SSlot w g z) (m : Int) : SSlot (w.setCell ⟨g, 1, none⟩ (.int .i64 m)) g ⟨z.c, m, z.lo, z.hi⟩ := by
  have h1 := heap_setCell_same _ g 1 _ _ (.int .i64 m) h.b
  refine ⟨Eq.trans h1 ?_⟩
  simp
theorem putL_frm (w : World) (g : Nat) (p : V) : Frm (fun k => k = g) w (putL w g p) :=
  ((((Frm.refl (fun k => k = g) w).setCell (p := ⟨g, 2, none⟩) rfl _).setCell (p := ⟨g, 3, none⟩) rfl _).setCell (p := ⟨g, 4, none⟩) rfl _).setCell (p := ⟨g, 5, none⟩) rfl _
theorem putH_frm (w : World) (g : Nat) (p : V) : Frm (fun k => k = g) w (putH w g p) :=
  ((((Frm.refl (fun k => k = g) w).setCell (p := ⟨g, 6, none⟩) rfl _).setCell (p := ⟨g, 7, none⟩) rfl _).setCell (p := ⟨g, 8, none⟩) rfl _).setCell (p := ⟨g, 9, none⟩) rfl _
theorem Slot.frm {w w' : World} {g : Nat} {v : V} {F : Nat → Prop} (h : Slot w g v) (hf : Frm F w w') (hF : ¬ F g) : Slot w' g v := h.same (hf.block g h.lt hF)

/-- A block of its own that holds statistics. -/
def NewS (N : Nat) (z : S) (v : Value) (w : World) : Prop := ∃ g, v = .pointer (some ⟨g, 0, none⟩) ∧ N ≤ g ∧ SSlot w g z
theorem NewS.below {N : Nat} {z : S} (v : Value) (w w' : World) (h : NewS N z v w) (hb : Below w.heap.size w w') : NewS N z v w' := by
  obtain ⟨g, h1, h2, h3⟩ := h
  exact ⟨g, h1, h2, h3.below hb⟩
theorem exec_new_stat (o : Oper) (ho : o.op = .alloc 26) (ev : Operand → Value) (w : World) : (execOp ev o).run Try.prog w = .ok (.value (.pointer (some ⟨w.heap.size, 0, none⟩))) (w.alloc (.cells #[.int .i64 0, .int .i64 0, .int .i64 0, .int .i64 0, .bool false, .string ⟨#[]⟩, .int .i64 0, .int .i64 0, .bool false, .string ⟨#[]⟩] 26)) := by
  unfold execOp
  simp only [ho]
  go_simp

/-- While Both works. -/
structure BothAt (b0 w : World) (g : Nat) (b z : S) : Prop where
  sb : SSlot w (b0.heap.size + 1) b
  sr : SSlot w (b0.heap.size + 2) zeroS
  so : SSlot w g z
  hb : Below b0.heap.size b0 w
  hg : b0.heap.size + 2 < g
theorem BothAt.below {b0 w w' : World} {g : Nat} {b z : S} (h : BothAt b0 w g b z) (hb : Below w.heap.size w w') : BothAt b0 w' g b z := ⟨h.sb.below hb, h.sr.below hb, h.so.below hb, h.hb.trans (hb.mono h.hb.size), h.hg⟩
theorem BothAt.frm {b0 w w' : World} {g : Nat} {b z z' : S} (h : BothAt b0 w g b z) (hf : Frm (fun k => k = g) w w') (hz : SSlot w' g z') : BothAt b0 w' g b z' := by
  have hg := h.hg
  exact ⟨h.sb.frm hf (by omega), h.sr.frm hf (by omega), hz, Frm.to_below h.hb hf (fun k e => by omega) (Nat.le_refl _), hg⟩
set_option maxRecDepth 100000 in
set_option maxHeartbeats 8000000 in
theorem refboth_any (a b : S) (ha : a.lo.s.size ≤ 140737488351232 ∧ a.hi.s.size ≤ 140737488351232) (hb : b.lo.s.size ≤ 140737488351232 ∧ b.hi.s.size ≤ 140737488351232) (w : World) : Calls Try.prog 10 #[.agg #[.int .i64 a.c, .int .i64 a.n, .int .i64 a.lo.k, .int .i64 a.lo.i, .bool a.lo.b, .string a.lo.s, .int .i64 a.hi.k, .int .i64 a.hi.i, .bool a.hi.b, .string a.hi.s], .agg #[.int .i64 b.c, .int .i64 b.n, .int .i64 b.lo.k, .int .i64 b.lo.i, .bool b.lo.b, .string b.lo.s, .int .i64 b.hi.k, .int .i64 b.hi.i, .bool b.hi.b, .string b.hi.s]] w fun e w' => e = .returned (.agg #[.int .i64 (bothR a b).c, .int .i64 (bothR a b).n, .int .i64 (bothR a b).lo.k, .int .i64 (bothR a b).lo.i, .bool (bothR a b).lo.b, .string (bothR a b).lo.s, .int .i64 (bothR a b).hi.k, .int .i64 (bothR a b).hi.i, .bool (bothR a b).hi.b, .string (bothR a b).hi.s]) ∧ Below w.heap.size w w' := by
  have T1 := Lib.hid rclean_any
  have T2 := Lib.hid rnull_any
  have T3 := Lib.hid rcmp_any
  obtain ⟨LO, hLO⟩ : ∃ x, x = (if kindV (plainV a.lo) = 0 ∨ (kindV b.lo ≠ 0 ∧ ordV b.lo (plainV a.lo) < 0) then plainV b.lo else plainV a.lo) := ⟨_, rfl⟩
  obtain ⟨HI, hHI⟩ : ∃ x, x = (if kindV (plainV a.hi) = 0 ∨ (kindV b.hi ≠ 0 ∧ 0 < ordV b.hi (plainV a.hi)) then plainV b.hi else plainV a.hi) := ⟨_, rfl⟩
  obtain ⟨nn, hnn⟩ : ∃ x, x = wrap64 (a.n + b.n) := ⟨_, rfl⟩
  have hR : bothR a b = ⟨a.c, nn, LO, HI⟩ := by rw [hLO, hHI, hnn]; rfl
  rw [hR]
  have HNN := Lib.hid hnn
  clear hR hnn
  have s1 : (plainV a.lo).s.size ≤ 9223372036854775807 := Nat.le_trans (plainV_size _) (by omega)
  have s2 : (plainV a.hi).s.size ≤ 9223372036854775807 := Nat.le_trans (plainV_size _) (by omega)
  have s3 : b.lo.s.size ≤ 9223372036854775807 := by omega
  have s4 : b.hi.s.size ≤ 9223372036854775807 := by omega
  have HLO := Lib.hid hLO
  have HHI := Lib.hid hHI
  clear hLO hHI ha hb
  obtain ⟨u, hu⟩ : ∃ u, u = (((w.alloc (.cells #[.int .i64 a.c, .int .i64 a.n, .int .i64 a.lo.k, .int .i64 a.lo.i, .bool a.lo.b, .string a.lo.s, .int .i64 a.hi.k, .int .i64 a.hi.i, .bool a.hi.b, .string a.hi.s] 26)).alloc (.cells #[.int .i64 b.c, .int .i64 b.n, .int .i64 b.lo.k, .int .i64 b.lo.i, .bool b.lo.b, .string b.lo.s, .int .i64 b.hi.k, .int .i64 b.hi.i, .bool b.hi.b, .string b.hi.s] 26)).alloc (.cells #[.int .i64 0, .int .i64 0, .int .i64 0, .int .i64 0, .bool false, .string ⟨#[]⟩, .int .i64 0, .int .i64 0, .bool false, .string ⟨#[]⟩] 26)) := ⟨_, rfl⟩
  have hsa : SSlot u w.heap.size a := by rw [hu]; exact ((SSlot.new w a).alloc _).alloc _
  have hsb : SSlot u (w.heap.size + 1) b := by
    have := (SSlot.new (w.alloc (.cells #[.int .i64 a.c, .int .i64 a.n, .int .i64 a.lo.k, .int .i64 a.lo.i, .bool a.lo.b, .string a.lo.s, .int .i64 a.hi.k, .int .i64 a.hi.i, .bool a.hi.b, .string a.hi.s] 26)) b).alloc (.cells #[.int .i64 0, .int .i64 0, .int .i64 0, .int .i64 0, .bool false, .string ⟨#[]⟩, .int .i64 0, .int .i64 0, .bool false, .string ⟨#[]⟩] 26)
    rw [show (w.alloc (.cells #[.int .i64 a.c, .int .i64 a.n, .int .i64 a.lo.k, .int .i64 a.lo.i, .bool a.lo.b, .string a.lo.s, .int .i64 a.hi.k, .int .i64 a.hi.i, .bool a.hi.b, .string a.hi.s] 26)).heap.size = w.heap.size + 1 by simp] at this
    rw [hu]; exact this
  have hsz : SSlot u (w.heap.size + 2) zeroS := by
    have := SSlot.new ((w.alloc (.cells #[.int .i64 a.c, .int .i64 a.n, .int .i64 a.lo.k, .int .i64 a.lo.i, .bool a.lo.b, .string a.lo.s, .int .i64 a.hi.k, .int .i64 a.hi.i, .bool a.hi.b, .string a.hi.s] 26)).alloc (.cells #[.int .i64 b.c, .int .i64 b.n, .int .i64 b.lo.k, .int .i64 b.lo.i, .bool b.lo.b, .string b.lo.s, .int .i64 b.hi.k, .int .i64 b.hi.i, .bool b.hi.b, .string b.hi.s] 26)) zeroS
    rw [show ((w.alloc (.cells #[.int .i64 a.c, .int .i64 a.n, .int .i64 a.lo.k, .int .i64 a.lo.i, .bool a.lo.b, .string a.lo.s, .int .i64 a.hi.k, .int .i64 a.hi.i, .bool a.hi.b, .string a.hi.s] 26)).alloc (.cells #[.int .i64 b.c, .int .i64 b.n, .int .i64 b.lo.k, .int .i64 b.lo.i, .bool b.lo.b, .string b.lo.s, .int .i64 b.hi.k, .int .i64 b.hi.i, .bool b.hi.b, .string b.hi.s] 26)).heap.size = w.heap.size + 2 by simp] at this
    rw [hu]; exact this
  have hb0 : Below w.heap.size w u := by rw [hu]; exact ((((Below.refl _ _).alloc (Nat.le_refl _) _).alloc (by simp) _).alloc (by simp; omega) _)
  have HSA := Lib.hid hsa
  have HSB := Lib.hid hsb
  have HSZ := Lib.hid hsz
  have HB0 := Lib.hid hb0
  clear hsa hsb hsz hb0
  go_enter Try.func10, Try.ntmps10
  go_upto_region 1 with fail
  rw [← hu]
  clear hu
  refine region_new (fun w' => Below u.heap.size u w') (NewS u.heap.size zeroS) 15 14 (some 5) (by kernel_rfl) (by kernel_rfl) (by kernel_rfl) (Below.refl _ _).drew (fun w1 w2 h1 h2 => h1.trans (h2.mono h1.size)) NewS.below ⟨_, rfl, rfl, fun a' w1 hw1 => ?_⟩ ?_
  · exact ⟨_, _, exec_new_stat _ rfl _ _, hw1.alloc hw1.size _, w1.heap.size, rfl, hw1.size, SSlot.new w1 zeroS⟩
  simp only [List.take_succ_cons, List.take_zero, List.drop_succ_cons, List.drop_zero, List.cons_append, List.nil_append]
  repeat (
    refine wpExt_step (fun K hK => ?_)
    go_simp
    first
    | (refine hK _ ?_; clear hK K)
    | (apply Exists.intro
       refine ⟨fun w1 hw1 => ?_, hK _ ?_⟩
       (first
         | (exact rfl)
         | (go_at_call 20; exact (T1.out _ _))
         | (obtain ⟨⟨z0, z1, z2, z3, z4, z5, z6, z7, z8, z9⟩, _⟩ := (HSA.out.below hw1).at; simp only [z0, z1, z2, z3, z4, z5, z6, z7, z8, z9, Result.andThen]; exact ⟨trivial, rfl⟩)
         | (obtain ⟨⟨z0, z1, z2, z3, z4, z5, z6, z7, z8, z9⟩, _⟩ := (HSB.out.below hw1).at; simp only [z0, z1, z2, z3, z4, z5, z6, z7, z8, z9, Result.andThen]; exact ⟨trivial, rfl⟩)
         | (exact ⟨trivial, rfl⟩))
       clear hK K))
  refine wpExt_nil ?_
  intro v1 w1 hw1 hv1
  obtain ⟨g, rfl, hg, hs⟩ := hv1
  have hlt := HSZ.out.lt
  have HH : Hid (BothAt w w1 g b zeroS) := ⟨HSB.out.below hw1, HSZ.out.below hw1, hs, HB0.out.trans (hw1.mono HB0.out.size), by omega⟩
  clear HSA HSB HSZ HB0 hw1 hg hs hlt
  obtain ⟨⟨z0, z1, z2, z3, z4, z5, z6, z7, z8, z9⟩, _⟩ := HH.out.so.at
  obtain ⟨y0, y1, y2, y3, y4, y5, y6, y7, y8, y9⟩ := HH.out.so.froz
  go_upto_region 2 with fail
  change Code.wp _ _ _ _ (putS w1 g ⟨a.c, wrap64 (a.n + b.n), plainV a.lo, plainV a.hi⟩)
  rw [← HNN.out]
  have hz := HH.out.so.put ⟨a.c, nn, plainV a.lo, plainV a.hi⟩
  replace HH := Lib.hid (HH.out.frm (putS_frm w1 g ⟨a.c, nn, plainV a.lo, plainV a.hi⟩) hz)
  generalize putS w1 g ⟨a.c, nn, plainV a.lo, plainV a.hi⟩ = w2 at *
  generalize plainV a.lo = la at *
  generalize plainV a.hi = ha at *
  clear hz z0 z1 z2 z3 z4 z5 z6 z7 z8 z9 y0 y1 y2 y3 y4 y5 y6 y7 y8 y9
  obtain ⟨⟨z0, z1, z2, z3, z4, z5, z6, z7, z8, z9⟩, _⟩ := HH.out.so.at
  obtain ⟨⟨x0, x1, x2, x3, x4, x5, x6, x7, x8, x9⟩, _⟩ := HH.out.sb.at
  obtain ⟨y0, y1, y2, y3, y4, y5, y6, y7, y8, y9⟩ := HH.out.so.froz
  go_cut [36] from 6 (fun s wx => s = .bool (decide (kindV la = 0 ∨ (kindV b.lo ≠ 0 ∧ ordV b.lo la < 0))) ∧ Hid (BothAt w wx g b ⟨a.c, nn, la, ha⟩))
  case first =>
    by_cases c1 : kindV la = 0
    · have d1 : decide (kindV la = 0) = true := decide_eq_true c1
      go_wp2_with (first
        | (go_at_call 13; refine (T2.out _ _).mono ?_; rintro e wf ⟨rfl, hb⟩; replace HH := Lib.hid (HH.out.below hb); clear hb; clear z0 z1 z2 z3 z4 z5 z6 z7 z8 z9 x0 x1 x2 x3 x4 x5 x6 x7 x8 x9 y0 y1 y2 y3 y4 y5 y6 y7 y8 y9; obtain ⟨⟨z0, z1, z2, z3, z4, z5, z6, z7, z8, z9⟩, _⟩ := HH.out.so.at; obtain ⟨⟨x0, x1, x2, x3, x4, x5, x6, x7, x8, x9⟩, _⟩ := HH.out.sb.at; obtain ⟨y0, y1, y2, y3, y4, y5, y6, y7, y8, y9⟩ := HH.out.so.froz)
        | (go_at_call 14; refine (T3.out _ _ (by assumption) (by assumption) _).mono ?_; rintro e wf ⟨rfl, hb⟩; replace HH := Lib.hid (HH.out.below hb); clear hb; clear z0 z1 z2 z3 z4 z5 z6 z7 z8 z9 x0 x1 x2 x3 x4 x5 x6 x7 x8 x9 y0 y1 y2 y3 y4 y5 y6 y7 y8 y9; obtain ⟨⟨z0, z1, z2, z3, z4, z5, z6, z7, z8, z9⟩, _⟩ := HH.out.so.at; obtain ⟨⟨x0, x1, x2, x3, x4, x5, x6, x7, x8, x9⟩, _⟩ := HH.out.sb.at; obtain ⟨y0, y1, y2, y3, y4, y5, y6, y7, y8, y9⟩ := HH.out.so.froz)
        | (go_at_call 20; refine (T1.out _ _).mono ?_; rintro e wf ⟨rfl, hb⟩; replace HH := Lib.hid (HH.out.below hb); clear hb; clear z0 z1 z2 z3 z4 z5 z6 z7 z8 z9 x0 x1 x2 x3 x4 x5 x6 x7 x8 x9 y0 y1 y2 y3 y4 y5 y6 y7 y8 y9; obtain ⟨⟨z0, z1, z2, z3, z4, z5, z6, z7, z8, z9⟩, _⟩ := HH.out.so.at; obtain ⟨⟨x0, x1, x2, x3, x4, x5, x6, x7, x8, x9⟩, _⟩ := HH.out.sb.at; obtain ⟨y0, y1, y2, y3, y4, y5, y6, y7, y8, y9⟩ := HH.out.so.froz))
      go_meet
      case rel => exact ⟨congrArg Value.bool (decide_eq_true (p := kindV la = 0 ∨ (kindV b.lo ≠ 0 ∧ ordV b.lo la < 0)) (.inl c1)).symm, HH⟩
    by_cases c2 : kindV b.lo = 0
    · have d1 : decide (kindV la = 0) = false := decide_eq_false c1
      have d2 : decide (kindV b.lo = 0) = true := decide_eq_true c2
      go_wp2_with (first
        | (go_at_call 13; refine (T2.out _ _).mono ?_; rintro e wf ⟨rfl, hb⟩; replace HH := Lib.hid (HH.out.below hb); clear hb; clear z0 z1 z2 z3 z4 z5 z6 z7 z8 z9 x0 x1 x2 x3 x4 x5 x6 x7 x8 x9 y0 y1 y2 y3 y4 y5 y6 y7 y8 y9; obtain ⟨⟨z0, z1, z2, z3, z4, z5, z6, z7, z8, z9⟩, _⟩ := HH.out.so.at; obtain ⟨⟨x0, x1, x2, x3, x4, x5, x6, x7, x8, x9⟩, _⟩ := HH.out.sb.at; obtain ⟨y0, y1, y2, y3, y4, y5, y6, y7, y8, y9⟩ := HH.out.so.froz)
        | (go_at_call 14; refine (T3.out _ _ (by assumption) (by assumption) _).mono ?_; rintro e wf ⟨rfl, hb⟩; replace HH := Lib.hid (HH.out.below hb); clear hb; clear z0 z1 z2 z3 z4 z5 z6 z7 z8 z9 x0 x1 x2 x3 x4 x5 x6 x7 x8 x9 y0 y1 y2 y3 y4 y5 y6 y7 y8 y9; obtain ⟨⟨z0, z1, z2, z3, z4, z5, z6, z7, z8, z9⟩, _⟩ := HH.out.so.at; obtain ⟨⟨x0, x1, x2, x3, x4, x5, x6, x7, x8, x9⟩, _⟩ := HH.out.sb.at; obtain ⟨y0, y1, y2, y3, y4, y5, y6, y7, y8, y9⟩ := HH.out.so.froz)
        | (go_at_call 20; refine (T1.out _ _).mono ?_; rintro e wf ⟨rfl, hb⟩; replace HH := Lib.hid (HH.out.below hb); clear hb; clear z0 z1 z2 z3 z4 z5 z6 z7 z8 z9 x0 x1 x2 x3 x4 x5 x6 x7 x8 x9 y0 y1 y2 y3 y4 y5 y6 y7 y8 y9; obtain ⟨⟨z0, z1, z2, z3, z4, z5, z6, z7, z8, z9⟩, _⟩ := HH.out.so.at; obtain ⟨⟨x0, x1, x2, x3, x4, x5, x6, x7, x8, x9⟩, _⟩ := HH.out.sb.at; obtain ⟨y0, y1, y2, y3, y4, y5, y6, y7, y8, y9⟩ := HH.out.so.froz))
      go_meet
      case rel => exact ⟨congrArg Value.bool (decide_eq_false (p := kindV la = 0 ∨ (kindV b.lo ≠ 0 ∧ ordV b.lo la < 0)) (by rintro (h | h); exact c1 h; exact h.1 c2)).symm, HH⟩
    by_cases c3 : ordV b.lo la < 0
    · have d1 : decide (kindV la = 0) = false := decide_eq_false c1
      have d2 : decide (kindV b.lo = 0) = false := decide_eq_false c2
      have d3 : decide (ordV b.lo la < 0) = true := decide_eq_true c3
      go_wp2_with (first
        | (go_at_call 13; refine (T2.out _ _).mono ?_; rintro e wf ⟨rfl, hb⟩; replace HH := Lib.hid (HH.out.below hb); clear hb; clear z0 z1 z2 z3 z4 z5 z6 z7 z8 z9 x0 x1 x2 x3 x4 x5 x6 x7 x8 x9 y0 y1 y2 y3 y4 y5 y6 y7 y8 y9; obtain ⟨⟨z0, z1, z2, z3, z4, z5, z6, z7, z8, z9⟩, _⟩ := HH.out.so.at; obtain ⟨⟨x0, x1, x2, x3, x4, x5, x6, x7, x8, x9⟩, _⟩ := HH.out.sb.at; obtain ⟨y0, y1, y2, y3, y4, y5, y6, y7, y8, y9⟩ := HH.out.so.froz)
        | (go_at_call 14; refine (T3.out _ _ (by assumption) (by assumption) _).mono ?_; rintro e wf ⟨rfl, hb⟩; replace HH := Lib.hid (HH.out.below hb); clear hb; clear z0 z1 z2 z3 z4 z5 z6 z7 z8 z9 x0 x1 x2 x3 x4 x5 x6 x7 x8 x9 y0 y1 y2 y3 y4 y5 y6 y7 y8 y9; obtain ⟨⟨z0, z1, z2, z3, z4, z5, z6, z7, z8, z9⟩, _⟩ := HH.out.so.at; obtain ⟨⟨x0, x1, x2, x3, x4, x5, x6, x7, x8, x9⟩, _⟩ := HH.out.sb.at; obtain ⟨y0, y1, y2, y3, y4, y5, y6, y7, y8, y9⟩ := HH.out.so.froz)
        | (go_at_call 20; refine (T1.out _ _).mono ?_; rintro e wf ⟨rfl, hb⟩; replace HH := Lib.hid (HH.out.below hb); clear hb; clear z0 z1 z2 z3 z4 z5 z6 z7 z8 z9 x0 x1 x2 x3 x4 x5 x6 x7 x8 x9 y0 y1 y2 y3 y4 y5 y6 y7 y8 y9; obtain ⟨⟨z0, z1, z2, z3, z4, z5, z6, z7, z8, z9⟩, _⟩ := HH.out.so.at; obtain ⟨⟨x0, x1, x2, x3, x4, x5, x6, x7, x8, x9⟩, _⟩ := HH.out.sb.at; obtain ⟨y0, y1, y2, y3, y4, y5, y6, y7, y8, y9⟩ := HH.out.so.froz))
      go_meet
      case rel => exact ⟨congrArg Value.bool (decide_eq_true (p := kindV la = 0 ∨ (kindV b.lo ≠ 0 ∧ ordV b.lo la < 0)) (.inr ⟨c2, c3⟩)).symm, HH⟩
    · have d1 : decide (kindV la = 0) = false := decide_eq_false c1
      have d2 : decide (kindV b.lo = 0) = false := decide_eq_false c2
      have d3 : decide (ordV b.lo la < 0) = false := decide_eq_false c3
      go_wp2_with (first
        | (go_at_call 13; refine (T2.out _ _).mono ?_; rintro e wf ⟨rfl, hb⟩; replace HH := Lib.hid (HH.out.below hb); clear hb; clear z0 z1 z2 z3 z4 z5 z6 z7 z8 z9 x0 x1 x2 x3 x4 x5 x6 x7 x8 x9 y0 y1 y2 y3 y4 y5 y6 y7 y8 y9; obtain ⟨⟨z0, z1, z2, z3, z4, z5, z6, z7, z8, z9⟩, _⟩ := HH.out.so.at; obtain ⟨⟨x0, x1, x2, x3, x4, x5, x6, x7, x8, x9⟩, _⟩ := HH.out.sb.at; obtain ⟨y0, y1, y2, y3, y4, y5, y6, y7, y8, y9⟩ := HH.out.so.froz)
        | (go_at_call 14; refine (T3.out _ _ (by assumption) (by assumption) _).mono ?_; rintro e wf ⟨rfl, hb⟩; replace HH := Lib.hid (HH.out.below hb); clear hb; clear z0 z1 z2 z3 z4 z5 z6 z7 z8 z9 x0 x1 x2 x3 x4 x5 x6 x7 x8 x9 y0 y1 y2 y3 y4 y5 y6 y7 y8 y9; obtain ⟨⟨z0, z1, z2, z3, z4, z5, z6, z7, z8, z9⟩, _⟩ := HH.out.so.at; obtain ⟨⟨x0, x1, x2, x3, x4, x5, x6, x7, x8, x9⟩, _⟩ := HH.out.sb.at; obtain ⟨y0, y1, y2, y3, y4, y5, y6, y7, y8, y9⟩ := HH.out.so.froz)
        | (go_at_call 20; refine (T1.out _ _).mono ?_; rintro e wf ⟨rfl, hb⟩; replace HH := Lib.hid (HH.out.below hb); clear hb; clear z0 z1 z2 z3 z4 z5 z6 z7 z8 z9 x0 x1 x2 x3 x4 x5 x6 x7 x8 x9 y0 y1 y2 y3 y4 y5 y6 y7 y8 y9; obtain ⟨⟨z0, z1, z2, z3, z4, z5, z6, z7, z8, z9⟩, _⟩ := HH.out.so.at; obtain ⟨⟨x0, x1, x2, x3, x4, x5, x6, x7, x8, x9⟩, _⟩ := HH.out.sb.at; obtain ⟨y0, y1, y2, y3, y4, y5, y6, y7, y8, y9⟩ := HH.out.so.froz))
      go_meet
      case rel => exact ⟨congrArg Value.bool (decide_eq_false (p := kindV la = 0 ∨ (kindV b.lo ≠ 0 ∧ ordV b.lo la < 0)) (by rintro (h | h); exact c1 h; have := h.2; omega)).symm, HH⟩
  case rest =>
    obtain ⟨rfl, HC⟩ := hcut
    clear z0 z1 z2 z3 z4 z5 z6 z7 z8 z9 x0 x1 x2 x3 x4 x5 x6 x7 x8 x9 y0 y1 y2 y3 y4 y5 y6 y7 y8 y9
    have HH := HC
    clear HC
    obtain ⟨⟨z0, z1, z2, z3, z4, z5, z6, z7, z8, z9⟩, _⟩ := HH.out.so.at
    obtain ⟨⟨x0, x1, x2, x3, x4, x5, x6, x7, x8, x9⟩, _⟩ := HH.out.sb.at
    obtain ⟨y0, y1, y2, y3, y4, y5, y6, y7, y8, y9⟩ := HH.out.so.froz
    by_cases cc : kindV la = 0 ∨ (kindV b.lo ≠ 0 ∧ ordV b.lo la < 0)
    · have hL := HLO.out
      rw [if_pos cc] at hL
      replace hL := hL.symm
      subst hL
      rw [decide_eq_true cc]
      clear cc
      go_upto_region 4 with (first
        | (go_at_call 13; refine (T2.out _ _).mono ?_; rintro e wf ⟨rfl, hb⟩; replace HH := Lib.hid (HH.out.below hb); clear hb; clear z0 z1 z2 z3 z4 z5 z6 z7 z8 z9 x0 x1 x2 x3 x4 x5 x6 x7 x8 x9 y0 y1 y2 y3 y4 y5 y6 y7 y8 y9; obtain ⟨⟨z0, z1, z2, z3, z4, z5, z6, z7, z8, z9⟩, _⟩ := HH.out.so.at; obtain ⟨⟨x0, x1, x2, x3, x4, x5, x6, x7, x8, x9⟩, _⟩ := HH.out.sb.at; obtain ⟨y0, y1, y2, y3, y4, y5, y6, y7, y8, y9⟩ := HH.out.so.froz)
        | (go_at_call 14; refine (T3.out _ _ (by assumption) (by assumption) _).mono ?_; rintro e wf ⟨rfl, hb⟩; replace HH := Lib.hid (HH.out.below hb); clear hb; clear z0 z1 z2 z3 z4 z5 z6 z7 z8 z9 x0 x1 x2 x3 x4 x5 x6 x7 x8 x9 y0 y1 y2 y3 y4 y5 y6 y7 y8 y9; obtain ⟨⟨z0, z1, z2, z3, z4, z5, z6, z7, z8, z9⟩, _⟩ := HH.out.so.at; obtain ⟨⟨x0, x1, x2, x3, x4, x5, x6, x7, x8, x9⟩, _⟩ := HH.out.sb.at; obtain ⟨y0, y1, y2, y3, y4, y5, y6, y7, y8, y9⟩ := HH.out.so.froz)
        | (go_at_call 20; refine (T1.out _ _).mono ?_; rintro e wf ⟨rfl, hb⟩; replace HH := Lib.hid (HH.out.below hb); clear hb; clear z0 z1 z2 z3 z4 z5 z6 z7 z8 z9 x0 x1 x2 x3 x4 x5 x6 x7 x8 x9 y0 y1 y2 y3 y4 y5 y6 y7 y8 y9; obtain ⟨⟨z0, z1, z2, z3, z4, z5, z6, z7, z8, z9⟩, _⟩ := HH.out.so.at; obtain ⟨⟨x0, x1, x2, x3, x4, x5, x6, x7, x8, x9⟩, _⟩ := HH.out.sb.at; obtain ⟨y0, y1, y2, y3, y4, y5, y6, y7, y8, y9⟩ := HH.out.so.froz))
      change Code.wp _ _ _ _ (putL wf g (plainV b.lo))
      have hz := HH.out.so.putL (plainV b.lo)
      try simp only at hz
      replace HH := Lib.hid (HH.out.frm (putL_frm wf g (plainV b.lo)) hz)
      generalize putL wf g (plainV b.lo) = wz at *
      clear z0 z1 z2 z3 z4 z5 z6 z7 z8 z9 x0 x1 x2 x3 x4 x5 x6 x7 x8 x9 y0 y1 y2 y3 y4 y5 y6 y7 y8 y9
      clear hz
      obtain ⟨⟨z0, z1, z2, z3, z4, z5, z6, z7, z8, z9⟩, _⟩ := HH.out.so.at
      obtain ⟨⟨x0, x1, x2, x3, x4, x5, x6, x7, x8, x9⟩, _⟩ := HH.out.sb.at
      obtain ⟨y0, y1, y2, y3, y4, y5, y6, y7, y8, y9⟩ := HH.out.so.froz
      go_cut [57] from 6 (fun s wx => s = .bool (decide (kindV ha = 0 ∨ (kindV b.hi ≠ 0 ∧ 0 < ordV b.hi ha))) ∧ Hid (BothAt w wx g b ⟨a.c, nn, (plainV b.lo), ha⟩))
      case first =>
        by_cases c1 : kindV ha = 0
        · have d1 : decide (kindV ha = 0) = true := decide_eq_true c1
          go_wp2_with (first
            | (go_at_call 13; refine (T2.out _ _).mono ?_; rintro e wf ⟨rfl, hb⟩; replace HH := Lib.hid (HH.out.below hb); clear hb; clear z0 z1 z2 z3 z4 z5 z6 z7 z8 z9 x0 x1 x2 x3 x4 x5 x6 x7 x8 x9 y0 y1 y2 y3 y4 y5 y6 y7 y8 y9; obtain ⟨⟨z0, z1, z2, z3, z4, z5, z6, z7, z8, z9⟩, _⟩ := HH.out.so.at; obtain ⟨⟨x0, x1, x2, x3, x4, x5, x6, x7, x8, x9⟩, _⟩ := HH.out.sb.at; obtain ⟨y0, y1, y2, y3, y4, y5, y6, y7, y8, y9⟩ := HH.out.so.froz)
            | (go_at_call 14; refine (T3.out _ _ (by assumption) (by assumption) _).mono ?_; rintro e wf ⟨rfl, hb⟩; replace HH := Lib.hid (HH.out.below hb); clear hb; clear z0 z1 z2 z3 z4 z5 z6 z7 z8 z9 x0 x1 x2 x3 x4 x5 x6 x7 x8 x9 y0 y1 y2 y3 y4 y5 y6 y7 y8 y9; obtain ⟨⟨z0, z1, z2, z3, z4, z5, z6, z7, z8, z9⟩, _⟩ := HH.out.so.at; obtain ⟨⟨x0, x1, x2, x3, x4, x5, x6, x7, x8, x9⟩, _⟩ := HH.out.sb.at; obtain ⟨y0, y1, y2, y3, y4, y5, y6, y7, y8, y9⟩ := HH.out.so.froz)
            | (go_at_call 20; refine (T1.out _ _).mono ?_; rintro e wf ⟨rfl, hb⟩; replace HH := Lib.hid (HH.out.below hb); clear hb; clear z0 z1 z2 z3 z4 z5 z6 z7 z8 z9 x0 x1 x2 x3 x4 x5 x6 x7 x8 x9 y0 y1 y2 y3 y4 y5 y6 y7 y8 y9; obtain ⟨⟨z0, z1, z2, z3, z4, z5, z6, z7, z8, z9⟩, _⟩ := HH.out.so.at; obtain ⟨⟨x0, x1, x2, x3, x4, x5, x6, x7, x8, x9⟩, _⟩ := HH.out.sb.at; obtain ⟨y0, y1, y2, y3, y4, y5, y6, y7, y8, y9⟩ := HH.out.so.froz))
          go_meet
          case rel => exact ⟨congrArg Value.bool (decide_eq_true (p := kindV ha = 0 ∨ (kindV b.hi ≠ 0 ∧ 0 < ordV b.hi ha)) (.inl c1)).symm, HH⟩
        by_cases c2 : kindV b.hi = 0
        · have d1 : decide (kindV ha = 0) = false := decide_eq_false c1
          have d2 : decide (kindV b.hi = 0) = true := decide_eq_true c2
          go_wp2_with (first
            | (go_at_call 13; refine (T2.out _ _).mono ?_; rintro e wf ⟨rfl, hb⟩; replace HH := Lib.hid (HH.out.below hb); clear hb; clear z0 z1 z2 z3 z4 z5 z6 z7 z8 z9 x0 x1 x2 x3 x4 x5 x6 x7 x8 x9 y0 y1 y2 y3 y4 y5 y6 y7 y8 y9; obtain ⟨⟨z0, z1, z2, z3, z4, z5, z6, z7, z8, z9⟩, _⟩ := HH.out.so.at; obtain ⟨⟨x0, x1, x2, x3, x4, x5, x6, x7, x8, x9⟩, _⟩ := HH.out.sb.at; obtain ⟨y0, y1, y2, y3, y4, y5, y6, y7, y8, y9⟩ := HH.out.so.froz)
            | (go_at_call 14; refine (T3.out _ _ (by assumption) (by assumption) _).mono ?_; rintro e wf ⟨rfl, hb⟩; replace HH := Lib.hid (HH.out.below hb); clear hb; clear z0 z1 z2 z3 z4 z5 z6 z7 z8 z9 x0 x1 x2 x3 x4 x5 x6 x7 x8 x9 y0 y1 y2 y3 y4 y5 y6 y7 y8 y9; obtain ⟨⟨z0, z1, z2, z3, z4, z5, z6, z7, z8, z9⟩, _⟩ := HH.out.so.at; obtain ⟨⟨x0, x1, x2, x3, x4, x5, x6, x7, x8, x9⟩, _⟩ := HH.out.sb.at; obtain ⟨y0, y1, y2, y3, y4, y5, y6, y7, y8, y9⟩ := HH.out.so.froz)
            | (go_at_call 20; refine (T1.out _ _).mono ?_; rintro e wf ⟨rfl, hb⟩; replace HH := Lib.hid (HH.out.below hb); clear hb; clear z0 z1 z2 z3 z4 z5 z6 z7 z8 z9 x0 x1 x2 x3 x4 x5 x6 x7 x8 x9 y0 y1 y2 y3 y4 y5 y6 y7 y8 y9; obtain ⟨⟨z0, z1, z2, z3, z4, z5, z6, z7, z8, z9⟩, _⟩ := HH.out.so.at; obtain ⟨⟨x0, x1, x2, x3, x4, x5, x6, x7, x8, x9⟩, _⟩ := HH.out.sb.at; obtain ⟨y0, y1, y2, y3, y4, y5, y6, y7, y8, y9⟩ := HH.out.so.froz))
          go_meet
          case rel => exact ⟨congrArg Value.bool (decide_eq_false (p := kindV ha = 0 ∨ (kindV b.hi ≠ 0 ∧ 0 < ordV b.hi ha)) (by rintro (h | h); exact c1 h; exact h.1 c2)).symm, HH⟩
        by_cases c3 : 0 < ordV b.hi ha
        · have d1 : decide (kindV ha = 0) = false := decide_eq_false c1
          have d2 : decide (kindV b.hi = 0) = false := decide_eq_false c2
          have d3 : decide (0 < ordV b.hi ha) = true := decide_eq_true c3
          go_wp2_with (first
            | (go_at_call 13; refine (T2.out _ _).mono ?_; rintro e wf ⟨rfl, hb⟩; replace HH := Lib.hid (HH.out.below hb); clear hb; clear z0 z1 z2 z3 z4 z5 z6 z7 z8 z9 x0 x1 x2 x3 x4 x5 x6 x7 x8 x9 y0 y1 y2 y3 y4 y5 y6 y7 y8 y9; obtain ⟨⟨z0, z1, z2, z3, z4, z5, z6, z7, z8, z9⟩, _⟩ := HH.out.so.at; obtain ⟨⟨x0, x1, x2, x3, x4, x5, x6, x7, x8, x9⟩, _⟩ := HH.out.sb.at; obtain ⟨y0, y1, y2, y3, y4, y5, y6, y7, y8, y9⟩ := HH.out.so.froz)
            | (go_at_call 14; refine (T3.out _ _ (by assumption) (by assumption) _).mono ?_; rintro e wf ⟨rfl, hb⟩; replace HH := Lib.hid (HH.out.below hb); clear hb; clear z0 z1 z2 z3 z4 z5 z6 z7 z8 z9 x0 x1 x2 x3 x4 x5 x6 x7 x8 x9 y0 y1 y2 y3 y4 y5 y6 y7 y8 y9; obtain ⟨⟨z0, z1, z2, z3, z4, z5, z6, z7, z8, z9⟩, _⟩ := HH.out.so.at; obtain ⟨⟨x0, x1, x2, x3, x4, x5, x6, x7, x8, x9⟩, _⟩ := HH.out.sb.at; obtain ⟨y0, y1, y2, y3, y4, y5, y6, y7, y8, y9⟩ := HH.out.so.froz)
            | (go_at_call 20; refine (T1.out _ _).mono ?_; rintro e wf ⟨rfl, hb⟩; replace HH := Lib.hid (HH.out.below hb); clear hb; clear z0 z1 z2 z3 z4 z5 z6 z7 z8 z9 x0 x1 x2 x3 x4 x5 x6 x7 x8 x9 y0 y1 y2 y3 y4 y5 y6 y7 y8 y9; obtain ⟨⟨z0, z1, z2, z3, z4, z5, z6, z7, z8, z9⟩, _⟩ := HH.out.so.at; obtain ⟨⟨x0, x1, x2, x3, x4, x5, x6, x7, x8, x9⟩, _⟩ := HH.out.sb.at; obtain ⟨y0, y1, y2, y3, y4, y5, y6, y7, y8, y9⟩ := HH.out.so.froz))
          go_meet
          case rel => exact ⟨congrArg Value.bool (decide_eq_true (p := kindV ha = 0 ∨ (kindV b.hi ≠ 0 ∧ 0 < ordV b.hi ha)) (.inr ⟨c2, c3⟩)).symm, HH⟩
        · have d1 : decide (kindV ha = 0) = false := decide_eq_false c1
          have d2 : decide (kindV b.hi = 0) = false := decide_eq_false c2
          have d3 : decide (0 < ordV b.hi ha) = false := decide_eq_false c3
          go_wp2_with (first
            | (go_at_call 13; refine (T2.out _ _).mono ?_; rintro e wf ⟨rfl, hb⟩; replace HH := Lib.hid (HH.out.below hb); clear hb; clear z0 z1 z2 z3 z4 z5 z6 z7 z8 z9 x0 x1 x2 x3 x4 x5 x6 x7 x8 x9 y0 y1 y2 y3 y4 y5 y6 y7 y8 y9; obtain ⟨⟨z0, z1, z2, z3, z4, z5, z6, z7, z8, z9⟩, _⟩ := HH.out.so.at; obtain ⟨⟨x0, x1, x2, x3, x4, x5, x6, x7, x8, x9⟩, _⟩ := HH.out.sb.at; obtain ⟨y0, y1, y2, y3, y4, y5, y6, y7, y8, y9⟩ := HH.out.so.froz)
            | (go_at_call 14; refine (T3.out _ _ (by assumption) (by assumption) _).mono ?_; rintro e wf ⟨rfl, hb⟩; replace HH := Lib.hid (HH.out.below hb); clear hb; clear z0 z1 z2 z3 z4 z5 z6 z7 z8 z9 x0 x1 x2 x3 x4 x5 x6 x7 x8 x9 y0 y1 y2 y3 y4 y5 y6 y7 y8 y9; obtain ⟨⟨z0, z1, z2, z3, z4, z5, z6, z7, z8, z9⟩, _⟩ := HH.out.so.at; obtain ⟨⟨x0, x1, x2, x3, x4, x5, x6, x7, x8, x9⟩, _⟩ := HH.out.sb.at; obtain ⟨y0, y1, y2, y3, y4, y5, y6, y7, y8, y9⟩ := HH.out.so.froz)
            | (go_at_call 20; refine (T1.out _ _).mono ?_; rintro e wf ⟨rfl, hb⟩; replace HH := Lib.hid (HH.out.below hb); clear hb; clear z0 z1 z2 z3 z4 z5 z6 z7 z8 z9 x0 x1 x2 x3 x4 x5 x6 x7 x8 x9 y0 y1 y2 y3 y4 y5 y6 y7 y8 y9; obtain ⟨⟨z0, z1, z2, z3, z4, z5, z6, z7, z8, z9⟩, _⟩ := HH.out.so.at; obtain ⟨⟨x0, x1, x2, x3, x4, x5, x6, x7, x8, x9⟩, _⟩ := HH.out.sb.at; obtain ⟨y0, y1, y2, y3, y4, y5, y6, y7, y8, y9⟩ := HH.out.so.froz))
          go_meet
          case rel => exact ⟨congrArg Value.bool (decide_eq_false (p := kindV ha = 0 ∨ (kindV b.hi ≠ 0 ∧ 0 < ordV b.hi ha)) (by rintro (h | h); exact c1 h; have := h.2; omega)).symm, HH⟩
      case rest =>
        obtain ⟨rfl, HC⟩ := hcut
        clear z0 z1 z2 z3 z4 z5 z6 z7 z8 z9 x0 x1 x2 x3 x4 x5 x6 x7 x8 x9 y0 y1 y2 y3 y4 y5 y6 y7 y8 y9
        have HH := HC
        clear HC
        obtain ⟨⟨z0, z1, z2, z3, z4, z5, z6, z7, z8, z9⟩, _⟩ := HH.out.so.at
        obtain ⟨⟨x0, x1, x2, x3, x4, x5, x6, x7, x8, x9⟩, _⟩ := HH.out.sb.at
        obtain ⟨y0, y1, y2, y3, y4, y5, y6, y7, y8, y9⟩ := HH.out.so.froz
        by_cases cc : kindV ha = 0 ∨ (kindV b.hi ≠ 0 ∧ 0 < ordV b.hi ha)
        · have hL := HHI.out
          rw [if_pos cc] at hL
          replace hL := hL.symm
          subst hL
          rw [decide_eq_true cc]
          clear cc
          go_upto_region 6 with (first
            | (go_at_call 13; refine (T2.out _ _).mono ?_; rintro e wf ⟨rfl, hb⟩; replace HH := Lib.hid (HH.out.below hb); clear hb; clear z0 z1 z2 z3 z4 z5 z6 z7 z8 z9 x0 x1 x2 x3 x4 x5 x6 x7 x8 x9 y0 y1 y2 y3 y4 y5 y6 y7 y8 y9; obtain ⟨⟨z0, z1, z2, z3, z4, z5, z6, z7, z8, z9⟩, _⟩ := HH.out.so.at; obtain ⟨⟨x0, x1, x2, x3, x4, x5, x6, x7, x8, x9⟩, _⟩ := HH.out.sb.at; obtain ⟨y0, y1, y2, y3, y4, y5, y6, y7, y8, y9⟩ := HH.out.so.froz)
            | (go_at_call 14; refine (T3.out _ _ (by assumption) (by assumption) _).mono ?_; rintro e wf ⟨rfl, hb⟩; replace HH := Lib.hid (HH.out.below hb); clear hb; clear z0 z1 z2 z3 z4 z5 z6 z7 z8 z9 x0 x1 x2 x3 x4 x5 x6 x7 x8 x9 y0 y1 y2 y3 y4 y5 y6 y7 y8 y9; obtain ⟨⟨z0, z1, z2, z3, z4, z5, z6, z7, z8, z9⟩, _⟩ := HH.out.so.at; obtain ⟨⟨x0, x1, x2, x3, x4, x5, x6, x7, x8, x9⟩, _⟩ := HH.out.sb.at; obtain ⟨y0, y1, y2, y3, y4, y5, y6, y7, y8, y9⟩ := HH.out.so.froz)
            | (go_at_call 20; refine (T1.out _ _).mono ?_; rintro e wf ⟨rfl, hb⟩; replace HH := Lib.hid (HH.out.below hb); clear hb; clear z0 z1 z2 z3 z4 z5 z6 z7 z8 z9 x0 x1 x2 x3 x4 x5 x6 x7 x8 x9 y0 y1 y2 y3 y4 y5 y6 y7 y8 y9; obtain ⟨⟨z0, z1, z2, z3, z4, z5, z6, z7, z8, z9⟩, _⟩ := HH.out.so.at; obtain ⟨⟨x0, x1, x2, x3, x4, x5, x6, x7, x8, x9⟩, _⟩ := HH.out.sb.at; obtain ⟨y0, y1, y2, y3, y4, y5, y6, y7, y8, y9⟩ := HH.out.so.froz))
          change Code.wp _ _ _ _ (putH wf g (plainV b.hi))
          have hz := HH.out.so.putH (plainV b.hi)
          try simp only at hz
          replace HH := Lib.hid (HH.out.frm (putH_frm wf g (plainV b.hi)) hz)
          generalize putH wf g (plainV b.hi) = wz at *
          clear z0 z1 z2 z3 z4 z5 z6 z7 z8 z9 x0 x1 x2 x3 x4 x5 x6 x7 x8 x9 y0 y1 y2 y3 y4 y5 y6 y7 y8 y9
          clear hz
          obtain ⟨⟨z0, z1, z2, z3, z4, z5, z6, z7, z8, z9⟩, _⟩ := HH.out.so.at
          obtain ⟨⟨x0, x1, x2, x3, x4, x5, x6, x7, x8, x9⟩, _⟩ := HH.out.sb.at
          obtain ⟨y0, y1, y2, y3, y4, y5, y6, y7, y8, y9⟩ := HH.out.so.froz
          clear x0 x1 x2 x3 x4 x5 x6 x7 x8 x9 y0 y1 y2 y3 y4 y5 y6 y7 y8 y9
          obtain ⟨gr, hgr⟩ : ∃ gr, gr = w.heap.size + 1 + 1 := ⟨_, rfl⟩
          rw [← hgr]
          have hq : SSlot wz gr zeroS := by rw [hgr]; exact HH.out.sr
          have hb4 := HH.out.hb
          have HQ := Lib.hid hq
          have HB4 := Lib.hid hb4
          have HGR := Lib.hid (show w.heap.size ≤ gr by omega)
          clear hgr hb4 HH
          obtain ⟨⟨q0, q1, q2, q3, q4, q5, q6, q7, q8, q9⟩, _⟩ := hq.at
          obtain ⟨r0, r1, r2, r3, r4, r5, r6, r7, r8, r9⟩ := hq.froz
          clear hq
          repeat go_step
          generalize plainV b.lo = pl at *
          generalize plainV b.hi = ph at *
          change bodyPost _ _ _ _ _ (putS wz gr ⟨a.c, nn, pl, ph⟩)
          have hp := HQ.out.put ⟨a.c, nn, pl, ph⟩
          have hb := putS_below (s := ⟨a.c, nn, pl, ph⟩) HB4.out HGR.out
          generalize putS wz gr ⟨a.c, nn, pl, ph⟩ = w4 at *
          clear z0 z1 z2 z3 z4 z5 z6 z7 z8 z9 q0 q1 q2 q3 q4 q5 q6 q7 q8 q9 r0 r1 r2 r3 r4 r5 r6 r7 r8 r9
          obtain ⟨⟨z0, z1, z2, z3, z4, z5, z6, z7, z8, z9⟩, _⟩ := hp.at
          refine bodyPost_ret (v := .agg #[.int .i64 a.c, .int .i64 (nn), .int .i64 pl.k, .int .i64 pl.i, .bool pl.b, .string pl.s, .int .i64 ph.k, .int .i64 ph.i, .bool ph.b, .string ph.s]) (by simp [results, Try.results10, go_sem, z0, z1, z2, z3, z4, z5, z6, z7, z8, z9]) rfl ?_
          exact ⟨rfl, hb⟩
        · have hL := HHI.out
          rw [if_neg cc] at hL
          replace hL := hL.symm
          subst hL
          rw [decide_eq_false cc]
          clear cc
          go_upto_region 6 with fail
          clear x0 x1 x2 x3 x4 x5 x6 x7 x8 x9 y0 y1 y2 y3 y4 y5 y6 y7 y8 y9
          obtain ⟨gr, hgr⟩ : ∃ gr, gr = w.heap.size + 1 + 1 := ⟨_, rfl⟩
          rw [← hgr]
          have hq : SSlot wc gr zeroS := by rw [hgr]; exact HH.out.sr
          have hb4 := HH.out.hb
          have HQ := Lib.hid hq
          have HB4 := Lib.hid hb4
          have HGR := Lib.hid (show w.heap.size ≤ gr by omega)
          clear hgr hb4 HH
          obtain ⟨⟨q0, q1, q2, q3, q4, q5, q6, q7, q8, q9⟩, _⟩ := hq.at
          obtain ⟨r0, r1, r2, r3, r4, r5, r6, r7, r8, r9⟩ := hq.froz
          clear hq
          repeat go_step
          generalize plainV b.lo = pl at *
          generalize plainV b.hi = ph at *
          change bodyPost _ _ _ _ _ (putS wc gr ⟨a.c, nn, pl, ha⟩)
          have hp := HQ.out.put ⟨a.c, nn, pl, ha⟩
          have hb := putS_below (s := ⟨a.c, nn, pl, ha⟩) HB4.out HGR.out
          generalize putS wc gr ⟨a.c, nn, pl, ha⟩ = w4 at *
          clear z0 z1 z2 z3 z4 z5 z6 z7 z8 z9 q0 q1 q2 q3 q4 q5 q6 q7 q8 q9 r0 r1 r2 r3 r4 r5 r6 r7 r8 r9
          obtain ⟨⟨z0, z1, z2, z3, z4, z5, z6, z7, z8, z9⟩, _⟩ := hp.at
          refine bodyPost_ret (v := .agg #[.int .i64 a.c, .int .i64 (nn), .int .i64 pl.k, .int .i64 pl.i, .bool pl.b, .string pl.s, .int .i64 ha.k, .int .i64 ha.i, .bool ha.b, .string ha.s]) (by simp [results, Try.results10, go_sem, z0, z1, z2, z3, z4, z5, z6, z7, z8, z9]) rfl ?_
          exact ⟨rfl, hb⟩
    · have hL := HLO.out
      rw [if_neg cc] at hL
      replace hL := hL.symm
      subst hL
      rw [decide_eq_false cc]
      clear cc
      go_upto_region 4 with fail
      go_cut [57] from 6 (fun s wx => s = .bool (decide (kindV ha = 0 ∨ (kindV b.hi ≠ 0 ∧ 0 < ordV b.hi ha))) ∧ Hid (BothAt w wx g b ⟨a.c, nn, la, ha⟩))
      case first =>
        by_cases c1 : kindV ha = 0
        · have d1 : decide (kindV ha = 0) = true := decide_eq_true c1
          go_wp2_with (first
            | (go_at_call 13; refine (T2.out _ _).mono ?_; rintro e wf ⟨rfl, hb⟩; replace HH := Lib.hid (HH.out.below hb); clear hb; clear z0 z1 z2 z3 z4 z5 z6 z7 z8 z9 x0 x1 x2 x3 x4 x5 x6 x7 x8 x9 y0 y1 y2 y3 y4 y5 y6 y7 y8 y9; obtain ⟨⟨z0, z1, z2, z3, z4, z5, z6, z7, z8, z9⟩, _⟩ := HH.out.so.at; obtain ⟨⟨x0, x1, x2, x3, x4, x5, x6, x7, x8, x9⟩, _⟩ := HH.out.sb.at; obtain ⟨y0, y1, y2, y3, y4, y5, y6, y7, y8, y9⟩ := HH.out.so.froz)
            | (go_at_call 14; refine (T3.out _ _ (by assumption) (by assumption) _).mono ?_; rintro e wf ⟨rfl, hb⟩; replace HH := Lib.hid (HH.out.below hb); clear hb; clear z0 z1 z2 z3 z4 z5 z6 z7 z8 z9 x0 x1 x2 x3 x4 x5 x6 x7 x8 x9 y0 y1 y2 y3 y4 y5 y6 y7 y8 y9; obtain ⟨⟨z0, z1, z2, z3, z4, z5, z6, z7, z8, z9⟩, _⟩ := HH.out.so.at; obtain ⟨⟨x0, x1, x2, x3, x4, x5, x6, x7, x8, x9⟩, _⟩ := HH.out.sb.at; obtain ⟨y0, y1, y2, y3, y4, y5, y6, y7, y8, y9⟩ := HH.out.so.froz)
            | (go_at_call 20; refine (T1.out _ _).mono ?_; rintro e wf ⟨rfl, hb⟩; replace HH := Lib.hid (HH.out.below hb); clear hb; clear z0 z1 z2 z3 z4 z5 z6 z7 z8 z9 x0 x1 x2 x3 x4 x5 x6 x7 x8 x9 y0 y1 y2 y3 y4 y5 y6 y7 y8 y9; obtain ⟨⟨z0, z1, z2, z3, z4, z5, z6, z7, z8, z9⟩, _⟩ := HH.out.so.at; obtain ⟨⟨x0, x1, x2, x3, x4, x5, x6, x7, x8, x9⟩, _⟩ := HH.out.sb.at; obtain ⟨y0, y1, y2, y3, y4, y5, y6, y7, y8, y9⟩ := HH.out.so.froz))
          go_meet
          case rel => exact ⟨congrArg Value.bool (decide_eq_true (p := kindV ha = 0 ∨ (kindV b.hi ≠ 0 ∧ 0 < ordV b.hi ha)) (.inl c1)).symm, HH⟩
        by_cases c2 : kindV b.hi = 0
        · have d1 : decide (kindV ha = 0) = false := decide_eq_false c1
          have d2 : decide (kindV b.hi = 0) = true := decide_eq_true c2
          go_wp2_with (first
            | (go_at_call 13; refine (T2.out _ _).mono ?_; rintro e wf ⟨rfl, hb⟩; replace HH := Lib.hid (HH.out.below hb); clear hb; clear z0 z1 z2 z3 z4 z5 z6 z7 z8 z9 x0 x1 x2 x3 x4 x5 x6 x7 x8 x9 y0 y1 y2 y3 y4 y5 y6 y7 y8 y9; obtain ⟨⟨z0, z1, z2, z3, z4, z5, z6, z7, z8, z9⟩, _⟩ := HH.out.so.at; obtain ⟨⟨x0, x1, x2, x3, x4, x5, x6, x7, x8, x9⟩, _⟩ := HH.out.sb.at; obtain ⟨y0, y1, y2, y3, y4, y5, y6, y7, y8, y9⟩ := HH.out.so.froz)
            | (go_at_call 14; refine (T3.out _ _ (by assumption) (by assumption) _).mono ?_; rintro e wf ⟨rfl, hb⟩; replace HH := Lib.hid (HH.out.below hb); clear hb; clear z0 z1 z2 z3 z4 z5 z6 z7 z8 z9 x0 x1 x2 x3 x4 x5 x6 x7 x8 x9 y0 y1 y2 y3 y4 y5 y6 y7 y8 y9; obtain ⟨⟨z0, z1, z2, z3, z4, z5, z6, z7, z8, z9⟩, _⟩ := HH.out.so.at; obtain ⟨⟨x0, x1, x2, x3, x4, x5, x6, x7, x8, x9⟩, _⟩ := HH.out.sb.at; obtain ⟨y0, y1, y2, y3, y4, y5, y6, y7, y8, y9⟩ := HH.out.so.froz)
            | (go_at_call 20; refine (T1.out _ _).mono ?_; rintro e wf ⟨rfl, hb⟩; replace HH := Lib.hid (HH.out.below hb); clear hb; clear z0 z1 z2 z3 z4 z5 z6 z7 z8 z9 x0 x1 x2 x3 x4 x5 x6 x7 x8 x9 y0 y1 y2 y3 y4 y5 y6 y7 y8 y9; obtain ⟨⟨z0, z1, z2, z3, z4, z5, z6, z7, z8, z9⟩, _⟩ := HH.out.so.at; obtain ⟨⟨x0, x1, x2, x3, x4, x5, x6, x7, x8, x9⟩, _⟩ := HH.out.sb.at; obtain ⟨y0, y1, y2, y3, y4, y5, y6, y7, y8, y9⟩ := HH.out.so.froz))
          go_meet
          case rel => exact ⟨congrArg Value.bool (decide_eq_false (p := kindV ha = 0 ∨ (kindV b.hi ≠ 0 ∧ 0 < ordV b.hi ha)) (by rintro (h | h); exact c1 h; exact h.1 c2)).symm, HH⟩
        by_cases c3 : 0 < ordV b.hi ha
        · have d1 : decide (kindV ha = 0) = false := decide_eq_false c1
          have d2 : decide (kindV b.hi = 0) = false := decide_eq_false c2
          have d3 : decide (0 < ordV b.hi ha) = true := decide_eq_true c3
          go_wp2_with (first
            | (go_at_call 13; refine (T2.out _ _).mono ?_; rintro e wf ⟨rfl, hb⟩; replace HH := Lib.hid (HH.out.below hb); clear hb; clear z0 z1 z2 z3 z4 z5 z6 z7 z8 z9 x0 x1 x2 x3 x4 x5 x6 x7 x8 x9 y0 y1 y2 y3 y4 y5 y6 y7 y8 y9; obtain ⟨⟨z0, z1, z2, z3, z4, z5, z6, z7, z8, z9⟩, _⟩ := HH.out.so.at; obtain ⟨⟨x0, x1, x2, x3, x4, x5, x6, x7, x8, x9⟩, _⟩ := HH.out.sb.at; obtain ⟨y0, y1, y2, y3, y4, y5, y6, y7, y8, y9⟩ := HH.out.so.froz)
            | (go_at_call 14; refine (T3.out _ _ (by assumption) (by assumption) _).mono ?_; rintro e wf ⟨rfl, hb⟩; replace HH := Lib.hid (HH.out.below hb); clear hb; clear z0 z1 z2 z3 z4 z5 z6 z7 z8 z9 x0 x1 x2 x3 x4 x5 x6 x7 x8 x9 y0 y1 y2 y3 y4 y5 y6 y7 y8 y9; obtain ⟨⟨z0, z1, z2, z3, z4, z5, z6, z7, z8, z9⟩, _⟩ := HH.out.so.at; obtain ⟨⟨x0, x1, x2, x3, x4, x5, x6, x7, x8, x9⟩, _⟩ := HH.out.sb.at; obtain ⟨y0, y1, y2, y3, y4, y5, y6, y7, y8, y9⟩ := HH.out.so.froz)
            | (go_at_call 20; refine (T1.out _ _).mono ?_; rintro e wf ⟨rfl, hb⟩; replace HH := Lib.hid (HH.out.below hb); clear hb; clear z0 z1 z2 z3 z4 z5 z6 z7 z8 z9 x0 x1 x2 x3 x4 x5 x6 x7 x8 x9 y0 y1 y2 y3 y4 y5 y6 y7 y8 y9; obtain ⟨⟨z0, z1, z2, z3, z4, z5, z6, z7, z8, z9⟩, _⟩ := HH.out.so.at; obtain ⟨⟨x0, x1, x2, x3, x4, x5, x6, x7, x8, x9⟩, _⟩ := HH.out.sb.at; obtain ⟨y0, y1, y2, y3, y4, y5, y6, y7, y8, y9⟩ := HH.out.so.froz))
          go_meet
          case rel => exact ⟨congrArg Value.bool (decide_eq_true (p := kindV ha = 0 ∨ (kindV b.hi ≠ 0 ∧ 0 < ordV b.hi ha)) (.inr ⟨c2, c3⟩)).symm, HH⟩
        · have d1 : decide (kindV ha = 0) = false := decide_eq_false c1
          have d2 : decide (kindV b.hi = 0) = false := decide_eq_false c2
          have d3 : decide (0 < ordV b.hi ha) = false := decide_eq_false c3
          go_wp2_with (first
            | (go_at_call 13; refine (T2.out _ _).mono ?_; rintro e wf ⟨rfl, hb⟩; replace HH := Lib.hid (HH.out.below hb); clear hb; clear z0 z1 z2 z3 z4 z5 z6 z7 z8 z9 x0 x1 x2 x3 x4 x5 x6 x7 x8 x9 y0 y1 y2 y3 y4 y5 y6 y7 y8 y9; obtain ⟨⟨z0, z1, z2, z3, z4, z5, z6, z7, z8, z9⟩, _⟩ := HH.out.so.at; obtain ⟨⟨x0, x1, x2, x3, x4, x5, x6, x7, x8, x9⟩, _⟩ := HH.out.sb.at; obtain ⟨y0, y1, y2, y3, y4, y5, y6, y7, y8, y9⟩ := HH.out.so.froz)
            | (go_at_call 14; refine (T3.out _ _ (by assumption) (by assumption) _).mono ?_; rintro e wf ⟨rfl, hb⟩; replace HH := Lib.hid (HH.out.below hb); clear hb; clear z0 z1 z2 z3 z4 z5 z6 z7 z8 z9 x0 x1 x2 x3 x4 x5 x6 x7 x8 x9 y0 y1 y2 y3 y4 y5 y6 y7 y8 y9; obtain ⟨⟨z0, z1, z2, z3, z4, z5, z6, z7, z8, z9⟩, _⟩ := HH.out.so.at; obtain ⟨⟨x0, x1, x2, x3, x4, x5, x6, x7, x8, x9⟩, _⟩ := HH.out.sb.at; obtain ⟨y0, y1, y2, y3, y4, y5, y6, y7, y8, y9⟩ := HH.out.so.froz)
            | (go_at_call 20; refine (T1.out _ _).mono ?_; rintro e wf ⟨rfl, hb⟩; replace HH := Lib.hid (HH.out.below hb); clear hb; clear z0 z1 z2 z3 z4 z5 z6 z7 z8 z9 x0 x1 x2 x3 x4 x5 x6 x7 x8 x9 y0 y1 y2 y3 y4 y5 y6 y7 y8 y9; obtain ⟨⟨z0, z1, z2, z3, z4, z5, z6, z7, z8, z9⟩, _⟩ := HH.out.so.at; obtain ⟨⟨x0, x1, x2, x3, x4, x5, x6, x7, x8, x9⟩, _⟩ := HH.out.sb.at; obtain ⟨y0, y1, y2, y3, y4, y5, y6, y7, y8, y9⟩ := HH.out.so.froz))
          go_meet
          case rel => exact ⟨congrArg Value.bool (decide_eq_false (p := kindV ha = 0 ∨ (kindV b.hi ≠ 0 ∧ 0 < ordV b.hi ha)) (by rintro (h | h); exact c1 h; have := h.2; omega)).symm, HH⟩
      case rest =>
        obtain ⟨rfl, HC⟩ := hcut
        clear z0 z1 z2 z3 z4 z5 z6 z7 z8 z9 x0 x1 x2 x3 x4 x5 x6 x7 x8 x9 y0 y1 y2 y3 y4 y5 y6 y7 y8 y9
        have HH := HC
        clear HC
        obtain ⟨⟨z0, z1, z2, z3, z4, z5, z6, z7, z8, z9⟩, _⟩ := HH.out.so.at
        obtain ⟨⟨x0, x1, x2, x3, x4, x5, x6, x7, x8, x9⟩, _⟩ := HH.out.sb.at
        obtain ⟨y0, y1, y2, y3, y4, y5, y6, y7, y8, y9⟩ := HH.out.so.froz
        by_cases cc : kindV ha = 0 ∨ (kindV b.hi ≠ 0 ∧ 0 < ordV b.hi ha)
        · have hL := HHI.out
          rw [if_pos cc] at hL
          replace hL := hL.symm
          subst hL
          rw [decide_eq_true cc]
          clear cc
          go_upto_region 6 with (first
            | (go_at_call 13; refine (T2.out _ _).mono ?_; rintro e wf ⟨rfl, hb⟩; replace HH := Lib.hid (HH.out.below hb); clear hb; clear z0 z1 z2 z3 z4 z5 z6 z7 z8 z9 x0 x1 x2 x3 x4 x5 x6 x7 x8 x9 y0 y1 y2 y3 y4 y5 y6 y7 y8 y9; obtain ⟨⟨z0, z1, z2, z3, z4, z5, z6, z7, z8, z9⟩, _⟩ := HH.out.so.at; obtain ⟨⟨x0, x1, x2, x3, x4, x5, x6, x7, x8, x9⟩, _⟩ := HH.out.sb.at; obtain ⟨y0, y1, y2, y3, y4, y5, y6, y7, y8, y9⟩ := HH.out.so.froz)
            | (go_at_call 14; refine (T3.out _ _ (by assumption) (by assumption) _).mono ?_; rintro e wf ⟨rfl, hb⟩; replace HH := Lib.hid (HH.out.below hb); clear hb; clear z0 z1 z2 z3 z4 z5 z6 z7 z8 z9 x0 x1 x2 x3 x4 x5 x6 x7 x8 x9 y0 y1 y2 y3 y4 y5 y6 y7 y8 y9; obtain ⟨⟨z0, z1, z2, z3, z4, z5, z6, z7, z8, z9⟩, _⟩ := HH.out.so.at; obtain ⟨⟨x0, x1, x2, x3, x4, x5, x6, x7, x8, x9⟩, _⟩ := HH.out.sb.at; obtain ⟨y0, y1, y2, y3, y4, y5, y6, y7, y8, y9⟩ := HH.out.so.froz)
            | (go_at_call 20; refine (T1.out _ _).mono ?_; rintro e wf ⟨rfl, hb⟩; replace HH := Lib.hid (HH.out.below hb); clear hb; clear z0 z1 z2 z3 z4 z5 z6 z7 z8 z9 x0 x1 x2 x3 x4 x5 x6 x7 x8 x9 y0 y1 y2 y3 y4 y5 y6 y7 y8 y9; obtain ⟨⟨z0, z1, z2, z3, z4, z5, z6, z7, z8, z9⟩, _⟩ := HH.out.so.at; obtain ⟨⟨x0, x1, x2, x3, x4, x5, x6, x7, x8, x9⟩, _⟩ := HH.out.sb.at; obtain ⟨y0, y1, y2, y3, y4, y5, y6, y7, y8, y9⟩ := HH.out.so.froz))
          change Code.wp _ _ _ _ (putH wf g (plainV b.hi))
          have hz := HH.out.so.putH (plainV b.hi)
          try simp only at hz
          replace HH := Lib.hid (HH.out.frm (putH_frm wf g (plainV b.hi)) hz)
          generalize putH wf g (plainV b.hi) = wz at *
          clear z0 z1 z2 z3 z4 z5 z6 z7 z8 z9 x0 x1 x2 x3 x4 x5 x6 x7 x8 x9 y0 y1 y2 y3 y4 y5 y6 y7 y8 y9
          clear hz
          obtain ⟨⟨z0, z1, z2, z3, z4, z5, z6, z7, z8, z9⟩, _⟩ := HH.out.so.at
          obtain ⟨⟨x0, x1, x2, x3, x4, x5, x6, x7, x8, x9⟩, _⟩ := HH.out.sb.at
          obtain ⟨y0, y1, y2, y3, y4, y5, y6, y7, y8, y9⟩ := HH.out.so.froz
          clear x0 x1 x2 x3 x4 x5 x6 x7 x8 x9 y0 y1 y2 y3 y4 y5 y6 y7 y8 y9
          obtain ⟨gr, hgr⟩ : ∃ gr, gr = w.heap.size + 1 + 1 := ⟨_, rfl⟩
          rw [← hgr]
          have hq : SSlot wz gr zeroS := by rw [hgr]; exact HH.out.sr
          have hb4 := HH.out.hb
          have HQ := Lib.hid hq
          have HB4 := Lib.hid hb4
          have HGR := Lib.hid (show w.heap.size ≤ gr by omega)
          clear hgr hb4 HH
          obtain ⟨⟨q0, q1, q2, q3, q4, q5, q6, q7, q8, q9⟩, _⟩ := hq.at
          obtain ⟨r0, r1, r2, r3, r4, r5, r6, r7, r8, r9⟩ := hq.froz
          clear hq
          repeat go_step
          generalize plainV b.lo = pl at *
          generalize plainV b.hi = ph at *
          change bodyPost _ _ _ _ _ (putS wz gr ⟨a.c, nn, la, ph⟩)
          have hp := HQ.out.put ⟨a.c, nn, la, ph⟩
          have hb := putS_below (s := ⟨a.c, nn, la, ph⟩) HB4.out HGR.out
          generalize putS wz gr ⟨a.c, nn, la, ph⟩ = w4 at *
          clear z0 z1 z2 z3 z4 z5 z6 z7 z8 z9 q0 q1 q2 q3 q4 q5 q6 q7 q8 q9 r0 r1 r2 r3 r4 r5 r6 r7 r8 r9
          obtain ⟨⟨z0, z1, z2, z3, z4, z5, z6, z7, z8, z9⟩, _⟩ := hp.at
          refine bodyPost_ret (v := .agg #[.int .i64 a.c, .int .i64 (nn), .int .i64 la.k, .int .i64 la.i, .bool la.b, .string la.s, .int .i64 ph.k, .int .i64 ph.i, .bool ph.b, .string ph.s]) (by simp [results, Try.results10, go_sem, z0, z1, z2, z3, z4, z5, z6, z7, z8, z9]) rfl ?_
          exact ⟨rfl, hb⟩
        · have hL := HHI.out
          rw [if_neg cc] at hL
          replace hL := hL.symm
          subst hL
          rw [decide_eq_false cc]
          clear cc
          go_upto_region 6 with fail
          clear x0 x1 x2 x3 x4 x5 x6 x7 x8 x9 y0 y1 y2 y3 y4 y5 y6 y7 y8 y9
          obtain ⟨gr, hgr⟩ : ∃ gr, gr = w.heap.size + 1 + 1 := ⟨_, rfl⟩
          rw [← hgr]
          have hq : SSlot wc gr zeroS := by rw [hgr]; exact HH.out.sr
          have hb4 := HH.out.hb
          have HQ := Lib.hid hq
          have HB4 := Lib.hid hb4
          have HGR := Lib.hid (show w.heap.size ≤ gr by omega)
          clear hgr hb4 HH
          obtain ⟨⟨q0, q1, q2, q3, q4, q5, q6, q7, q8, q9⟩, _⟩ := hq.at
          obtain ⟨r0, r1, r2, r3, r4, r5, r6, r7, r8, r9⟩ := hq.froz
          clear hq
          repeat go_step
          generalize plainV b.lo = pl at *
          generalize plainV b.hi = ph at *
          change bodyPost _ _ _ _ _ (putS wc gr ⟨a.c, nn, la, ha⟩)
          have hp := HQ.out.put ⟨a.c, nn, la, ha⟩
          have hb := putS_below (s := ⟨a.c, nn, la, ha⟩) HB4.out HGR.out
          generalize putS wc gr ⟨a.c, nn, la, ha⟩ = w4 at *
          clear z0 z1 z2 z3 z4 z5 z6 z7 z8 z9 q0 q1 q2 q3 q4 q5 q6 q7 q8 q9 r0 r1 r2 r3 r4 r5 r6 r7 r8 r9
          obtain ⟨⟨z0, z1, z2, z3, z4, z5, z6, z7, z8, z9⟩, _⟩ := hp.at
          refine bodyPost_ret (v := .agg #[.int .i64 a.c, .int .i64 (nn), .int .i64 la.k, .int .i64 la.i, .bool la.b, .string la.s, .int .i64 ha.k, .int .i64 ha.i, .bool ha.b, .string ha.s]) (by simp [results, Try.results10, go_sem, z0, z1, z2, z3, z4, z5, z6, z7, z8, z9]) rfl ?_
          exact ⟨rfl, hb⟩
end Go.Proofs.Ytdefafiggojgmaa
