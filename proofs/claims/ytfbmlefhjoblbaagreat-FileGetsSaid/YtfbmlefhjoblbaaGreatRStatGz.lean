/- Spaces and remarks left out: a claim is at most so large. -/
import Derived.Test.YtfbmlefhjoblbaaGreatStatFGz
import Derived.Test.YtfbmlefhjoblbaaGreatQeGz
namespace Go.Proofs.YtfbmlefhjoblbaaGreat
open Go.Conc Go.RowKit
set_option linter.unusedVariables false
set_option linter.unusedSimpArgs false
set_option maxRecDepth 100000 in
theorem rnull_any (v:V) (w:World):Calls Tryz.prog 49 #[.agg #[.int .i64 v.k,.int .i64 v.i,.bool v.b,.string v.s]] w fun e w' => e=.returned (.bool (decide (kindV v=0)))∧Below w.heap.size w w':=by
  have T:=Lib.hid (fun u => rkind_any v u)
  have HB0:=Lib.hid (show Below w.heap.size w (w.alloc (.cells #[.int .i64 v.k,.int .i64 v.i,.bool v.b,.string v.s] 24)) from (Below.refl _ _).alloc (Nat.le_refl _) _)
  generalize kindV v=k at *
  have hq:(k == 0)=decide (k=0):=by by_cases h:k=0 <;> simp [h]
  generalize decide (k=0)=d at *
  cases d
  all_goals (
    go_enter Tryz.func49,Tryz.ntmps49
    go_wp2_with (go_at_call 55;refine (T.out _).mono ?_;rintro e w1 ⟨rfl,hb⟩;have HB:=Lib.hid (HB0.out.trans (hb.mono HB0.out.size));clear hb)
    go_ret
    exact ⟨rfl,HB.out⟩)
def putL (w:World) (g:Nat) (p:V):World:=((((w.setCell ⟨g,2,none⟩ (.int .i64 p.k)).setCell ⟨g,3,none⟩ (.int .i64 p.i)).setCell ⟨g,4,none⟩ (.bool p.b)).setCell ⟨g,5,none⟩ (.string p.s))
def putH (w:World) (g:Nat) (p:V):World:=((((w.setCell ⟨g,6,none⟩ (.int .i64 p.k)).setCell ⟨g,7,none⟩ (.int .i64 p.i)).setCell ⟨g,8,none⟩ (.bool p.b)).setCell ⟨g,9,none⟩ (.string p.s))
theorem SSlot.putL {w:World} {g:Nat} {z:S} (h:SSlot w g z) (p:V):SSlot (putL w g p) g ⟨z.c,z.n,p,z.hi⟩:=by
  have h0:=h.b
  have h1:=heap_setCell_same _ g 2 _ _ (.int .i64 p.k) h0
  have h2:=heap_setCell_same _ g 3 _ _ (.int .i64 p.i) h1
  have h3:=heap_setCell_same _ g 4 _ _ (.bool p.b) h2
  have h4:=heap_setCell_same _ g 5 _ _ (.string p.s) h3
  refine ⟨Eq.trans h4 ?_⟩
  simp
theorem SSlot.putH {w:World} {g:Nat} {z:S} (h:SSlot w g z) (p:V):SSlot (putH w g p) g ⟨z.c,z.n,z.lo,p⟩:=by
  have h0:=h.b
  have h1:=heap_setCell_same _ g 6 _ _ (.int .i64 p.k) h0
  have h2:=heap_setCell_same _ g 7 _ _ (.int .i64 p.i) h1
  have h3:=heap_setCell_same _ g 8 _ _ (.bool p.b) h2
  have h4:=heap_setCell_same _ g 9 _ _ (.string p.s) h3
  refine ⟨Eq.trans h4 ?_⟩
  simp
theorem SSlot.putN {w:World} {g:Nat} {z:S} (h:SSlot w g z) (m:Int):SSlot (w.setCell ⟨g,1,none⟩ (.int .i64 m)) g ⟨z.c,m,z.lo,z.hi⟩:=by
  have h1:=heap_setCell_same _ g 1 _ _ (.int .i64 m) h.b
  refine ⟨Eq.trans h1 ?_⟩
  simp
theorem putL_frm (w:World) (g:Nat) (p:V):Frm (fun k => k=g) w (putL w g p) :=
  ((((Frm.refl (fun k => k=g) w).setCell (p:=⟨g,2,none⟩) rfl _).setCell (p:=⟨g,3,none⟩) rfl _).setCell (p:=⟨g,4,none⟩) rfl _).setCell (p:=⟨g,5,none⟩) rfl _
theorem putH_frm (w:World) (g:Nat) (p:V):Frm (fun k => k=g) w (putH w g p) :=
  ((((Frm.refl (fun k => k=g) w).setCell (p:=⟨g,6,none⟩) rfl _).setCell (p:=⟨g,7,none⟩) rfl _).setCell (p:=⟨g,8,none⟩) rfl _).setCell (p:=⟨g,9,none⟩) rfl _
theorem Slot.frm {w w':World} {g:Nat} {v:V} {F:Nat→Prop} (h:Slot w g v) (hf:Frm F w w') (hF:¬ F g):Slot w' g v:=h.same (hf.block g h.lt hF)
def NewS (N:Nat) (z:S) (v:Value) (w:World):Prop:=∃ g,v=.pointer (some ⟨g,0,none⟩)∧N≤g∧SSlot w g z
theorem NewS.below {N:Nat} {z:S} (v:Value) (w w':World) (h:NewS N z v w) (hb:Below w.heap.size w w'):NewS N z v w':=by
  obtain ⟨g,h1,h2,h3⟩:=h
  exact ⟨g,h1,h2,h3.below hb⟩
theorem exec_new_stat (o:Oper) (ho:o.op=.alloc 77) (ev:Operand→Value) (w:World):(execOp ev o).run Tryz.prog w=.ok (.value (.pointer (some ⟨w.heap.size,0,none⟩))) (w.alloc (.cells #[.int .i64 0,.int .i64 0,.int .i64 0,.int .i64 0,.bool false,.string ⟨#[]⟩,.int .i64 0,.int .i64 0,.bool false,.string ⟨#[]⟩] 77)):=by
  unfold execOp
  simp only [ho]
  go_simp
end Go.Proofs.YtfbmlefhjoblbaaGreat
