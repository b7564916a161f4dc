/- Spaces and remarks left out: a claim is at most so large. -/
import Derived.Test.YtfbmlefhjoblbaaGreatNPFileGetsGz1
import Derived.Test.YtfbmlefhjoblbaaGreatNPFileGetsGz3
namespace Go.Proofs.YtfbmlefhjoblbaaGreat
open Go.Conc Go.RowKit
set_option linter.unusedVariables false
set_option linter.unusedSimpArgs false
def S.cells (s:S):List Value:=[.int .i64 s.c,.int .i64 s.n,.int .i64 s.lo.k,.int .i64 s.lo.i,.bool s.lo.b,.string s.lo.s,.int .i64 s.hi.k,.int .i64 s.hi.i,.bool s.hi.b,.string s.hi.s]
def zeroS:S:=⟨0,0,zeroV,zeroV⟩
def sameS (o p:S):Bool:=(o.c == p.c) && ((o.n == p.n) && ((o.lo.k == p.lo.k) && ((o.lo.i == p.lo.i) && ((o.lo.b == p.lo.b) && ((o.lo.s.toList == p.lo.s.toList) && ((o.hi.k == p.hi.k) && ((o.hi.i == p.hi.i) && ((o.hi.b == p.hi.b) && (o.hi.s.toList == p.hi.s.toList)))))))))
theorem sameS_iff (o p:S):sameS o p=true ↔ o=p:=by
  obtain ⟨c,n,⟨k,i,b,s⟩,⟨k2,i2,b2,s2⟩⟩:=o
  obtain ⟨c',n',⟨k',i',b',s'⟩,⟨k2',i2',b2',s2'⟩⟩:=p
  simp only [sameS,Bool.and_eq_true,beq_iff_eq,S.mk.injEq,V.mk.injEq]
  constructor
  · rintro ⟨h1,h2,h3,h4,h5,h6,h7,h8,h9,h10⟩
    exact ⟨h1,h2,⟨h3,h4,h5,text_inj h6⟩,h7,h8,h9,text_inj h10⟩
  · rintro ⟨rfl,rfl,⟨rfl,rfl,rfl,rfl⟩,rfl,rfl,rfl,rfl⟩
    exact ⟨rfl,rfl,rfl,rfl,rfl,rfl,rfl,rfl,rfl,rfl⟩
instance instDecS:DecidableEq S:=fun a b => if h:sameS a b=true then isTrue ((sameS_iff a b).1 h) else isFalse fun e => h ((sameS_iff a b).2 e)
theorem sameS_dec (o p:S):sameS o p=decide (o=p):=by
  by_cases e:o=p
  · rw [decide_eq_true e];exact (sameS_iff o p).2 e
  · rw [decide_eq_false e]
    cases h:sameS o p with
    | false => rfl
    | true => exact absurd ((sameS_iff o p).1 h) e
theorem run_neq_stat (o p:S) (w:World):(binOp .neq 77 (.agg #[.int .i64 o.c,.int .i64 o.n,.int .i64 o.lo.k,.int .i64 o.lo.i,.bool o.lo.b,.string o.lo.s,.int .i64 o.hi.k,.int .i64 o.hi.i,.bool o.hi.b,.string o.hi.s]) (.agg #[.int .i64 p.c,.int .i64 p.n,.int .i64 p.lo.k,.int .i64 p.lo.i,.bool p.lo.b,.string p.lo.s,.int .i64 p.hi.k,.int .i64 p.hi.i,.bool p.hi.b,.string p.hi.s])).run Tryz.prog w=.ok (.bool (!decide (o=p))) w:=by
  rw [← sameS_dec]
  unfold sameS
  cases h1:(o.c == p.c)
  · go_simp
  cases h2:(o.n == p.n)
  · go_simp
  cases h3:(o.lo.k == p.lo.k)
  · go_simp
  cases h4:(o.lo.i == p.lo.i)
  · go_simp
  cases h5:(o.lo.b == p.lo.b)
  · go_simp
  cases h6:(o.lo.s.toList == p.lo.s.toList)
  · go_simp
  cases h7:(o.hi.k == p.hi.k)
  · go_simp
  cases h8:(o.hi.i == p.hi.i)
  · go_simp
  cases h9:(o.hi.b == p.hi.b)
  · go_simp
  cases h10:(o.hi.s.toList == p.hi.s.toList)
  · go_simp
  go_simp
structure SSlot (w:World) (g:Nat) (s:S):Prop where
  b:w.heap[g]? = some (.cells #[.int .i64 s.c,.int .i64 s.n,.int .i64 s.lo.k,.int .i64 s.lo.i,.bool s.lo.b,.string s.lo.s,.int .i64 s.hi.k,.int .i64 s.hi.i,.bool s.hi.b,.string s.hi.s] 77 (0,0))
theorem SSlot.at {w:World} {g:Nat} {s:S} (h:SSlot w g s):(w.cell? ⟨g,0,none⟩=some (.int .i64 s.c)∧w.cell? ⟨g,1,none⟩=some (.int .i64 s.n)∧w.cell? ⟨g,2,none⟩=some (.int .i64 s.lo.k)∧w.cell? ⟨g,3,none⟩=some (.int .i64 s.lo.i)∧w.cell? ⟨g,4,none⟩=some (.bool s.lo.b)∧w.cell? ⟨g,5,none⟩=some (.string s.lo.s)∧w.cell? ⟨g,6,none⟩=some (.int .i64 s.hi.k)∧w.cell? ⟨g,7,none⟩=some (.int .i64 s.hi.i)∧w.cell? ⟨g,8,none⟩=some (.bool s.hi.b)∧w.cell? ⟨g,9,none⟩=some (.string s.hi.s))∧True:=by
  have hb:=h.b
  refine ⟨⟨?_,?_,?_,?_,?_,?_,?_,?_,?_,?_⟩,trivial⟩ <;> (rw [cell_of_row _ _ _ _ _ _ hb];rfl)
theorem SSlot.same {w w':World} {g:Nat} {s:S} (h:SSlot w g s) (hb:w'.heap[g]? = w.heap[g]?):SSlot w' g s:=⟨by rw [hb];exact h.b⟩
theorem SSlot.lt {w:World} {g:Nat} {s:S} (h:SSlot w g s):g < w.heap.size:=(Array.getElem?_eq_some_iff.1 h.b).1
theorem SSlot.below {w w':World} {g:Nat} {s:S} (h:SSlot w g s) (hb:Below w.heap.size w w'):SSlot w' g s:=h.same (hb.block g h.lt)
theorem SSlot.frm {w w':World} {g:Nat} {s:S} {F:Nat→Prop} (h:SSlot w g s) (hf:Frm F w w') (hF:¬ F g):SSlot w' g s:=h.same (hf.block g h.lt hF)
theorem SSlot.alloc {w:World} {g:Nat} {s:S} (h:SSlot w g s) (o:Obj):SSlot (w.alloc o) g s:=h.same (Below.heap_alloc w o g h.lt)
theorem SSlot.new (w:World) (s:S):SSlot (w.alloc (.cells #[.int .i64 s.c,.int .i64 s.n,.int .i64 s.lo.k,.int .i64 s.lo.i,.bool s.lo.b,.string s.lo.s,.int .i64 s.hi.k,.int .i64 s.hi.i,.bool s.hi.b,.string s.hi.s] 77)) w.heap.size s:=⟨heap_alloc_new w _⟩
def putS (w:World) (g:Nat) (s:S):World:=((((((((((w.setCell ⟨g,0,none⟩ (.int .i64 s.c)).setCell ⟨g,1,none⟩ (.int .i64 s.n)).setCell ⟨g,2,none⟩ (.int .i64 s.lo.k)).setCell ⟨g,3,none⟩ (.int .i64 s.lo.i)).setCell ⟨g,4,none⟩ (.bool s.lo.b)).setCell ⟨g,5,none⟩ (.string s.lo.s)).setCell ⟨g,6,none⟩ (.int .i64 s.hi.k)).setCell ⟨g,7,none⟩ (.int .i64 s.hi.i)).setCell ⟨g,8,none⟩ (.bool s.hi.b)).setCell ⟨g,9,none⟩ (.string s.hi.s))
theorem SSlot.put {w:World} {g:Nat} {z:S} (h:SSlot w g z) (s:S):SSlot (putS w g s) g s:=by
  have h0:=h.b
  have h1:=heap_setCell_same _ g 0 _ _ (.int .i64 s.c) h0
  have h2:=heap_setCell_same _ g 1 _ _ (.int .i64 s.n) h1
  have h3:=heap_setCell_same _ g 2 _ _ (.int .i64 s.lo.k) h2
  have h4:=heap_setCell_same _ g 3 _ _ (.int .i64 s.lo.i) h3
  have h5:=heap_setCell_same _ g 4 _ _ (.bool s.lo.b) h4
  have h6:=heap_setCell_same _ g 5 _ _ (.string s.lo.s) h5
  have h7:=heap_setCell_same _ g 6 _ _ (.int .i64 s.hi.k) h6
  have h8:=heap_setCell_same _ g 7 _ _ (.int .i64 s.hi.i) h7
  have h9:=heap_setCell_same _ g 8 _ _ (.bool s.hi.b) h8
  have h10:=heap_setCell_same _ g 9 _ _ (.string s.hi.s) h9
  refine ⟨Eq.trans h10 ?_⟩
  simp
theorem putS_frm (w:World) (g:Nat) (s:S):Frm (fun k => k=g) w (putS w g s) :=
  (((((((((((Frm.refl (fun k => k=g) w).setCell (p:=⟨g,0,none⟩) rfl _).setCell (p:=⟨g,1,none⟩) rfl _).setCell (p:=⟨g,2,none⟩) rfl _).setCell (p:=⟨g,3,none⟩) rfl _).setCell (p:=⟨g,4,none⟩) rfl _).setCell (p:=⟨g,5,none⟩) rfl _).setCell (p:=⟨g,6,none⟩) rfl _).setCell (p:=⟨g,7,none⟩) rfl _).setCell (p:=⟨g,8,none⟩) rfl _).setCell (p:=⟨g,9,none⟩) rfl _)
theorem putS_below {a w:World} {B g:Nat} {s:S} (h:Below B a w) (hg:B≤g):Below B a (putS w g s) :=
  ((((((((((h.setCell hg _).setCell hg _).setCell hg _).setCell hg _).setCell hg _).setCell hg _).setCell hg _).setCell hg _).setCell hg _).setCell hg _)
theorem SSlot.froz {w:World} {g:Nat} {s:S} (h:SSlot w g s):w.frozen? ⟨g,0,none⟩=false∧w.frozen? ⟨g,1,none⟩=false∧w.frozen? ⟨g,2,none⟩=false∧w.frozen? ⟨g,3,none⟩=false∧w.frozen? ⟨g,4,none⟩=false∧w.frozen? ⟨g,5,none⟩=false∧w.frozen? ⟨g,6,none⟩=false∧w.frozen? ⟨g,7,none⟩=false∧w.frozen? ⟨g,8,none⟩=false∧w.frozen? ⟨g,9,none⟩=false:=⟨frozen_of_row w g 0 _ _ h.b,frozen_of_row w g 1 _ _ h.b,frozen_of_row w g 2 _ _ h.b,frozen_of_row w g 3 _ _ h.b,frozen_of_row w g 4 _ _ h.b,frozen_of_row w g 5 _ _ h.b,frozen_of_row w g 6 _ _ h.b,frozen_of_row w g 7 _ _ h.b,frozen_of_row w g 8 _ _ h.b,frozen_of_row w g 9 _ _ h.b⟩
end Go.Proofs.YtfbmlefhjoblbaaGreat
namespace Go.Proofs.YtfbmlefhjoblbaaGreat
open Go.ChangeShapes Go.WideShapes Go.ChangeAt Go.RowKit
set_option linter.unusedVariables false
end Go.Proofs.YtfbmlefhjoblbaaGreat
