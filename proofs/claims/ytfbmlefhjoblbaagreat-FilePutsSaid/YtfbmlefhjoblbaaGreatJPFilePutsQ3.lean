/- Data that came in, within bounds. Rows that were lent are as they were, with their room. The document's statistics: Null, Both, Stat. -/
import Derived.Test.YtfbmlefhjoblbaaGreatJPFilePutsQ6
import Derived.Test.YtfbmlefhjoblbaaGreatFmQ
import Derived.Test.YtfbmlefhjoblbaaGreatRowLQ
import Derived.Test.YtfbmlefhjoblbaaGreatStatFQ
import Derived.Test.YtfbmlefhjoblbaaGreatQeQ
namespace Go.Proofs.YtfbmlefhjoblbaaGreat
open Go.Conc Go.RowKit
set_option linter.unusedVariables false
set_option linter.unusedSimpArgs false

theorem InData.fin {d : Da} (h : InData d) : FinD d := by
  refine ⟨fun c hc => ?_, fun r hr => ⟨?_, fun v hv => ⟨⟨((h.rs r hr).num v hv).1, ?_⟩, (h.rs r hr).txt v hv⟩⟩⟩
  · have := (h.cs c hc).2.1.2; omega
  · have := (h.rs r hr).len; omega
  · have := ((h.rs r hr).num v hv).2; omega
end Go.Proofs.YtfbmlefhjoblbaaGreat

namespace Go.Proofs.YtfbmlefhjoblbaaGreat
open Go.Conc Go.RowKit
set_option linter.unusedVariables false
set_option linter.unusedSimpArgs false

set_option maxRecDepth 100000 in
set_option maxHeartbeats 1000000 in
theorem keptrows_any (w : World) (g c : Nat) (b : Option Addr) (cb B : Nat) (cs : List Value) (rs : List (List V)) (ho : OwnR B w (some ⟨g, 0, none⟩) rs.length c cs) (hl : LentR B w cs rs) (hb : IsR w b rs) (hx : rs.length ≤ maxLen) (hs : ∀ r ∈ rs, (r.length + 2) * 40 ≤ 140737488355328) :
    Calls Tryz.prog 34 #[.slice (some ⟨g, 0, none⟩) rs.length c, .slice b rs.length cb] w fun e w' => e = .returned (.bool true) ∧ Below w.heap.size w w' := by
  unfold maxLen at hx
  have HO := Lib.hid ho
  have HL := Lib.hid hl
  have HS := Lib.hid hs
  have HW := Lib.hid hb
  clear ho hl hs hb
  go_enter Tryz.func34, Tryz.ntmps34
  go_wp2
  go_loopw [5] (fun iv wr => ∃ n : Nat, n ≤ rs.length ∧ iv = .int .i64 n ∧ Hid (Below w.heap.size w wr)) (fun iv _ => rs.length - (intOf iv).toNat)
  case atStart => exact ⟨0, Nat.zero_le _, rfl, Below.refl _ _⟩
  case round =>
    obtain ⟨n, hle, rfl, HB⟩ := hrel
    by_cases cn : n < rs.length
    · have hb' := HW.out.below HB.out
      rcases hb' with hb' | ⟨bb, ob, rfl, hb'⟩
      · rw [hb'] at cn; simp at cn
      obtain ⟨u2, p2, ay, ky, rfl, vy, _⟩ := hb' n cn
      obtain ⟨gi, ci, k1, k2⟩ := HL.out.2 n cn
      have p1 := OwnR.read HO.out n _ k1
      have P1 := Lib.hid p1
      have P2 := Lib.hid p2
      have hlx := HS.out _ (List.getElem_mem cn)
      have hk2 := k2.below HB.out
      have T := Lib.hid (fun (u : World) (hu : Below wr.heap.size wr u) => keptvals_any u gi ci ay ky B rs[n] (hk2.below hu) (vy.below hu) hlx)
      clear hb' vy k1 k2 p1 p2 hlx hk2
      have hni : (n : Int) < (rs.length : Int) := by omega
      generalize rs[n] = r at *
      have hpl1 : ∀ u, Below wr.heap.size wr u → u.cell? ⟨g, n, none⟩ = some (.slice (some ⟨gi, 0, none⟩) r.length ci) := fun u hu => (World.cell?_of_block ((HB.out.trans (hu.mono HB.out.size)).block g (World.block_lt_of_cell? w ⟨g, n, none⟩ P1.out))).trans P1.out
      have hpl2 : ∀ u, Below wr.heap.size wr u → u.cell? ⟨bb, ob + n, none⟩ = some (.slice ay r.length ky) := fun u hu => (World.cell?_of_block (hu.block bb (World.block_lt_of_cell? wr ⟨bb, ob + n, none⟩ P2.out))).trans P2.out
      have HP1 := Lib.hid hpl1
      have HP2 := Lib.hid hpl2
      clear hpl1 hpl2 P1 P2
      go_upto_region 6 with fail
      refine region_class (fun w' => Below wr.heap.size wr w') (by kernel_rfl) (by kernel_rfl) (Below.refl _ _).drew ?_
      repeat (
        refine wpQuiet_step (fun K9 hK => ?_)
        go_simp
        first
        | (refine hK _ ?_; clear hK K9)
        | (apply Exists.intro
           refine ⟨fun w1 hw1 => ?_, hK _ ?_⟩
           (first
             | (exact rfl)
             | (go_at_call 18; exact (T.out _ hw1).mono fun e w2 ⟨he, hb⟩ => ⟨he, hw1.trans (hb.mono hw1.size)⟩)
             | (have p1 := HP1.out _ hw1; have p2 := HP2.out _ hw1; simp only [p1, p2, Result.andThen]; exact ⟨trivial, rfl⟩)
             | (exact ⟨trivial, rfl⟩))
           clear hK K9))
      refine wpQuiet_nil ?_
      intro w9 hw9
      have HB9 := Lib.hid (HB.out.trans (hw9.mono HB.out.size))
      clear hw9 T HP1 HP2
      go_wp2
      go_roundw
      case rel => exact ⟨n + 1, by omega, by go_num, HB9⟩
      case measure => simp [intOf]; omega
    · obtain rfl : n = rs.length := by omega
      clear cn
      go_wp2
      go_ret
      exact ⟨rfl, HB.out⟩
end Go.Proofs.YtfbmlefhjoblbaaGreat

namespace Go.Proofs.YtfbmlefhjoblbaaGreat
open Go.Conc Go.RowKit
set_option linter.unusedVariables false
set_option linter.unusedSimpArgs false

set_option maxRecDepth 100000 in
theorem rnull_any (v : V) (w : World) : Calls Tryz.prog 49 #[.agg #[.int .i64 v.k, .int .i64 v.i, .bool v.b, .string v.s]] w fun e w' => e = .returned (.bool (decide (kindV v = 0))) ∧ Below w.heap.size w w' := by
  have T := Lib.hid (fun u => rkind_any v u)
  have HB0 := Lib.hid (show Below w.heap.size w (w.alloc (.cells #[.int .i64 v.k, .int .i64 v.i, .bool v.b, .string v.s] 24)) from (Below.refl _ _).alloc (Nat.le_refl _) _)
  generalize kindV v = k at *
  have hq : (k == 0) = decide (k = 0) := by by_cases h : k = 0 <;> simp [h]
  generalize decide (k = 0) = d at *
  cases d
  all_goals (
    go_enter Tryz.func49, Tryz.ntmps49
    go_wp2_with (go_at_call 55; refine (T.out _).mono ?_; rintro e w1 ⟨rfl, hb⟩; have HB := Lib.hid (HB0.out.trans (hb.mono HB0.out.size)); clear hb)
    go_ret
    exact ⟨rfl, HB.out⟩)

/-- One bound is stored. -/
def putL (w : World) (g : Nat) (p : V) : World := ((((w.setCell ⟨g, 2, none⟩ (.int .i64 p.k)).setCell ⟨g, 3, none⟩ (.int .i64 p.i)).setCell ⟨g, 4, none⟩ (.bool p.b)).setCell ⟨g, 5, none⟩ (.string p.s))
def putH (w : World) (g : Nat) (p : V) : World := ((((w.setCell ⟨g, 6, none⟩ (.int .i64 p.k)).setCell ⟨g, 7, none⟩ (.int .i64 p.i)).setCell ⟨g, 8, none⟩ (.bool p.b)).setCell ⟨g, 9, none⟩ (.string p.s))
theorem SSlot.putL {w : World} {g : Nat} {z : S} (h : SSlot w g z) (p : V) : SSlot (putL w g p) g ⟨z.c, z.n, p, z.hi⟩ := by
  have h0 := h.b
  have h1 := heap_setCell_same _ g 2 _ _ (.int .i64 p.k) h0
  have h2 := heap_setCell_same _ g 3 _ _ (.int .i64 p.i) h1
  have h3 := heap_setCell_same _ g 4 _ _ (.bool p.b) h2
  have h4 := heap_setCell_same _ g 5 _ _ (.string p.s) h3
  refine ⟨Eq.trans h4 ?_⟩
  simp
theorem SSlot.putH {w : World} {g : Nat} {z : S} (h : SSlot w g z) (p : V) : SSlot (putH w g p) g ⟨z.c, z.n, z.lo, p⟩ := by
  have h0 := h.b
  have h1 := heap_setCell_same _ g 6 _ _ (.int .i64 p.k) h0
  have h2 := heap_setCell_same _ g 7 _ _ (.int .i64 p.i) h1
  have h3 := heap_setCell_same _ g 8 _ _ (.bool p.b) h2
  have h4 := heap_setCell_same _ g 9 _ _ (.string p.s) h3
  refine ⟨Eq.trans h4 ?_⟩
  simp
theorem SSlot.putN {w : World} {g : Nat} {z : S} (h : SSlot w g z) (m : Int) : SSlot (w.setCell ⟨g, 1, none⟩ (.int .i64 m)) g ⟨z.c, m, z.lo, z.hi⟩ := by
  have h1 := heap_setCell_same _ g 1 _ _ (.int .i64 m) h.b
  refine ⟨Eq.trans h1 ?_⟩
  simp
theorem putL_frm (w : World) (g : Nat) (p : V) : Frm (fun k => k = g) w (putL w g p) :=
  ((((Frm.refl (fun k => k = g) w).setCell (p := ⟨g, 2, none⟩) rfl _).setCell (p := ⟨g, 3, none⟩) rfl _).setCell (p := ⟨g, 4, none⟩) rfl _).setCell (p := ⟨g, 5, none⟩) rfl _
theorem putH_frm (w : World) (g : Nat) (p : V) : Frm (fun k => k = g) w (putH w g p) :=
  ((((Frm.refl (fun k => k = g) w).setCell (p := ⟨g, 6, none⟩) rfl _).setCell (p := ⟨g, 7, none⟩) rfl _).setCell (p := ⟨g, 8, none⟩) rfl _).setCell (p := ⟨g, 9, none⟩) rfl _
theorem Slot.frm {w w' : World} {g : Nat} {v : V} {F : Nat → Prop} (h : Slot w g v) (hf : Frm F w w') (hF : ¬ F g) : Slot w' g v := h.same (hf.block g h.lt hF)

/-- A block of its own that holds statistics. -/
def NewS (N : Nat) (z : S) (v : Value) (w : World) : Prop := ∃ g, v = .pointer (some ⟨g, 0, none⟩) ∧ N ≤ g ∧ SSlot w g z
theorem NewS.below {N : Nat} {z : S} (v : Value) (w w' : World) (h : NewS N z v w) (hb : Below w.heap.size w w') : NewS N z v w' := by
  obtain ⟨g, h1, h2, h3⟩ := h
  exact ⟨g, h1, h2, h3.below hb⟩
theorem exec_new_stat (o : Oper) (ho : o.op = .alloc 77) (ev : Operand → Value) (w : World) : (execOp ev o).run Tryz.prog w = .ok (.value (.pointer (some ⟨w.heap.size, 0, none⟩))) (w.alloc (.cells #[.int .i64 0, .int .i64 0, .int .i64 0, .int .i64 0, .bool false, .string ⟨#[]⟩, .int .i64 0, .int .i64 0, .bool false, .string ⟨#[]⟩] 77)) := by
  unfold execOp
  simp only [ho]
  go_simp

end Go.Proofs.YtfbmlefhjoblbaaGreat
