/- What a step may change. A region that draws its order, over a class of worlds. A new row of bytes as a text. Rows of one's own: kept where other blocks turn. Lists of numbers in memory: what the statements' helpers do with them. A new list of numbers, written out. A number more at the end of a list of one's own. A list of numbers that came in, as an argument of a law. -/
import Derived.Test.YtfbmlefhjoblbaaGreatRows
import Derived.Conc.LoneCalls
import Derived.WalkKit
import Derived.WalkSmall
import Derived.Laws.Rows
import Derived.Lib.SmallJoins
import Derived.Lib.Hide
import Derived.Below
import Derived.Deep.QuietTactic
import Derived.Test.YtfbmlefhjoblbaaGreatUtfQ
import Derived.Test.YtfbmlefhjoblbaaGreatProg
import Derived.ProofKit
import Derived.WalkLawsBesides
import Derived.WalkSpells
import Derived.Laws.IdiomStrings
import Derived.Laws.BytesString
import Derived.Laws.AppendOwn
import Derived.Lib.AppendStr
import Derived.BigQuiet
import Derived.Deep.RegionLaw
import Derived.ChangeOld
import Derived.OpenShut
import Derived.SizedLaws
namespace Go.Proofs.YtfbmlefhjoblbaaGreat
open Go.Conc Go.RowKit

/-- What a step may change: the blocks of F, and new ones. -/
structure Frm (F : Nat → Prop) (w w' : World) : Prop where
  os : w'.os = w.os
  tape : w'.tape = w.tape
  output : w'.output = w.output
  size : w.heap.size ≤ w'.heap.size
  block : ∀ k, k < w.heap.size → ¬ F k → w'.heap[k]? = w.heap[k]?

section
variable {F : Nat → Prop} {w w' a : World}
theorem Frm.refl (F : Nat → Prop) (w : World) : Frm F w w := ⟨rfl, rfl, rfl, Nat.le_refl _, fun _ _ _ => rfl⟩
theorem Frm.trans (h : Frm F a w) (k : Frm F w w') : Frm F a w' :=
  ⟨k.os.trans h.os, k.tape.trans h.tape, k.output.trans h.output, Nat.le_trans h.size k.size, fun i hi hn => (k.block i (Nat.lt_of_lt_of_le hi h.size) hn).trans (h.block i hi hn)⟩
theorem Frm.mono {F' : Nat → Prop} (h : Frm F w w') (hF : ∀ k, k < w.heap.size → F k → F' k) : Frm F' w w' :=
  ⟨h.os, h.tape, h.output, h.size, fun k hk hn => h.block k hk fun hf => hn (hF k hk hf)⟩
theorem Frm.below {B : Nat} (h : Frm (fun k => B ≤ k) w w') (hB : B ≤ w.heap.size) : Below B w w' :=
  ⟨h.os, h.tape, h.output, h.size, fun k hk => h.block k (by omega) (by omega)⟩
theorem Frm.of_new (h : Below w.heap.size w w') (F : Nat → Prop) : Frm F w w' :=
  ⟨h.os, h.tape, h.output, h.size, fun k hk _ => h.block k hk⟩
theorem Frm.drew (h : Frm F a w) : Frm F a w.drew := ⟨h.os, h.tape, h.output, h.size, h.block⟩
theorem Frm.same {v : World} (h : Frm F a w) (h1 : v.heap = w.heap) (h2 : v.os = w.os) (h3 : v.tape = w.tape) (h4 : v.output = w.output) : Frm F a v :=
  ⟨h2.trans h.os, h3.trans h.tape, h4.trans h.output, by rw [h1]; exact h.size, by rw [h1]; exact h.block⟩
theorem Frm.alloc (h : Frm F a w) (o : Obj) : Frm F a (w.alloc o) :=
  h.trans ⟨rfl, rfl, rfl, by simp, fun k hk _ => Below.heap_alloc _ _ _ hk⟩
theorem Frm.setCell (h : Frm F a w) {p : Addr} (hp : F p.block) (u : Value) : Frm F a (w.setCell p u) :=
  h.trans ⟨rfl, rfl, rfl, by simp [World.setCell], fun k _ hn => Below.heap_setCell _ _ _ _ (fun e => hn (e ▸ hp))⟩
theorem Frm.grown {row : Option Nat} (h : Frm F a w) (hg : w.grownBy w' row) (hr : ∀ k, row = some k → F k) : Frm F a w' :=
  h.trans ⟨hg.os, hg.tape, hg.output, hg.size, fun k hk hn => hg.block k hk (fun e => hn (hr k e.symm))⟩
end

end Go.Proofs.YtfbmlefhjoblbaaGreat

namespace Go.Proofs.YtfbmlefhjoblbaaGreat
open Go.RowKit
set_option linter.unusedVariables false
set_option linter.unusedSimpArgs false

/-- A region that draws its order, over a class of worlds. -/
theorem region_class {P : Program} {id : Nat} {Q : Exit → Act → World → Prop} {a : Act} {w : World} {l : List Oper} (C : World → Prop) (hm : P.follows .mixedOrders = true) (hB : Region.lexB .any l.toArray = true)
    (hC : C { w with drawn := w.drawn + 1 }) (h : wpQuiet P l.toArray C (fun a' => ∀ w', C w' → Q .normal a' w') l a) : (Code.region id l.toArray true).wp P Q a w :=
  wp_region_quiet hm hB hC (by simpa using h)

end Go.Proofs.YtfbmlefhjoblbaaGreat

namespace Go.Proofs.YtfbmlefhjoblbaaGreat
open Go.RowKit
set_option linter.unusedVariables false

def byteCells (l : List UInt8) : List Value := l.map fun b => Value.int .u8 (b.toNat : Int)
/-- A new row of bytes as a text. -/
theorem bytes_back (w : World) (l : List UInt8) (C : Array Value) (hC : (byteCells l).toArray = C) (n : Nat) (hn : l.length = n) :
    (convert 50 9 (.slice (some ⟨w.heap.size, 0, none⟩) n n)).run Tryz.prog (w.alloc (.cells C 5)) = .ok (.string ⟨l.toArray⟩) (w.alloc (.cells C 5)) := by
  subst hn hC
  refine run_convert_bytes_back _ 50 9 5 ⟨w.heap.size, 0, none⟩ _ l Tryz.underlying50 Tryz.underlying5 Tryz.underlying9 (fun j hj => ?_)
  have e : (⟨w.heap.size, 0, none⟩ : Addr).add j = ⟨w.heap.size, j, none⟩ := by
    unfold Addr.add
    by_cases h0 : j = 0
    · simp [h0]
    · simp [h0]
  rw [e]
  have hb : (w.alloc (.cells (byteCells l).toArray 5)).heap[w.heap.size]? = some (.cells (byteCells l).toArray 5) := by simp [World.alloc, -World.alloc_eq]
  simp only [World.cell?, hb]
  simp [byteCells, hj]
theorem cells_cons {a x : Value} {b y : List Value} (h : a = x) (h2 : b = y) : a :: b = x :: y := by rw [h, h2]

end Go.Proofs.YtfbmlefhjoblbaaGreat

namespace Go.Proofs.YtfbmlefhjoblbaaGreat
open Go.Conc Go.RowKit

theorem own_same {w w' : World} {base e size n : Nat} {v : Value} {xs : List Value} (h : w.ownsRow base e size v n xs) (hs : ∀ g, base ≤ g → g < w.heap.size → w'.heap[g]? = w.heap[g]?) : w'.ownsRow base e size v n xs := by
  refine ⟨h.1, ?_⟩
  rcases h.2 with hn | ⟨g, cap, cur, rfl, hb, hgg, rest⟩
  · exact .inl hn
  · exact .inr ⟨g, cap, cur, rfl, hb, by rw [hs g hb (Array.getElem?_eq_some_iff.1 hgg).1]; exact hgg, rest⟩
/-- Where the row is from base on, all below stands as it did. -/
theorem own_block {w : World} {base e size n : Nat} {v : Value} {xs : List Value} (h : w.ownsRow base e size v n xs) {k : Nat} (hk : some k = v.ownBlock) : base ≤ k := by
  rcases h.2 with ⟨rfl, _⟩ | ⟨g, cap, cur, rfl, hb, _⟩
  · simp [Value.ownBlock] at hk
  · simp only [Value.ownBlock, Option.some.injEq] at hk; omega
theorem infoByte : (Tryz.prog.info? 5).map (fun i => (i.zero, i.size, i.bytes)) = some (some (.int .u8 0), 1, 1) := by kernel_rfl
theorem byteCells_append (a b : List UInt8) : byteCells (a ++ b) = byteCells a ++ byteCells b := by simp [byteCells]
theorem byteCells_length (a : List UInt8) : (byteCells a).length = a.length := by simp [byteCells]
/-- A row of bytes of one's own as a text. -/
theorem own_text {w : World} {base : Nat} {v : Value} {l : List UInt8} (h : w.ownsRow base 5 1 v l.length (byteCells l)) : (convert 50 9 v).run Tryz.prog w = .ok (.string ⟨l.toArray⟩) w := by
  rcases h.2 with ⟨rfl, h0⟩ | ⟨g, cap, cur, rfl, hb, hgg, rest⟩
  · obtain rfl : l = [] := List.eq_nil_of_length_eq_zero h0
    kernel_rfl
  · exact run_convert_bytes_back w 50 9 5 ⟨g, 0, none⟩ cap l Tryz.underlying50 Tryz.underlying5 Tryz.underlying9 (fun j hj => h.cells (g := g) rfl j _ (by simp [byteCells, List.getElem?_eq_getElem hj]))
end Go.Proofs.YtfbmlefhjoblbaaGreat

namespace Go.Proofs.YtfbmlefhjoblbaaGreat
open Go.Conc Go.RowKit
set_option linter.unusedVariables false

def intCells (l : List Int) : List Value := l.map fun z => Value.int .i64 z
theorem intCells_length (l : List Int) : (intCells l).length = l.length := by simp [intCells]
theorem intCells_append (a b : List Int) : intCells (a ++ b) = intCells a ++ intCells b := by simp [intCells]
theorem intCells_get (l : List Int) (i : Nat) (h : i < l.length) : (intCells l)[i]? = some (.int .i64 l[i]) := by simp [intCells, h]
theorem infoInt : (Tryz.prog.info? 3).map (fun i => (i.zero, i.size, i.bytes)) = some (some (.int .i64 0), 1, 8) := by kernel_rfl

/-- A list of numbers that can be read. -/
def IsL (w : World) (a : Option Addr) (xs : List Int) : Prop :=
  xs = [] ∨ ∃ b off, a = some ⟨b, off, none⟩ ∧ ∀ i (h : i < xs.length), w.cell? ⟨b, off + i, none⟩ = some (.int .i64 xs[i])
theorem IsL.keep {w w' : World} {a : Option Addr} {xs : List Int} (h : IsL w a xs) (hk : ∀ b, some b = (a.map (·.block)) → w'.heap[b]? = w.heap[b]?) : IsL w' a xs := by
  rcases h with h | ⟨b, off, rfl, h⟩
  · exact .inl h
  · exact .inr ⟨b, off, rfl, fun i hi => by rw [World.cell?_of_block (hk b rfl)]; exact h i hi⟩
theorem IsL.below {w w' : World} {a : Option Addr} {xs : List Int} (h : IsL w a xs) (hb : Below w.heap.size w w') : IsL w' a xs := by
  rcases h with h | ⟨b, off, rfl, h⟩
  · exact .inl h
  · exact .inr ⟨b, off, rfl, fun i hi => (hb.cell (p := ⟨b, off + i, none⟩) (World.block_lt_of_cell? w ⟨b, off + i, none⟩ (h i hi))).trans (h i hi)⟩
theorem IsL.take {w : World} {a : Option Addr} {xs : List Int} (h : IsL w a xs) (n : Nat) : IsL w a (xs.take n) := by
  rcases h with rfl | ⟨b, off, rfl, h⟩
  · exact .inl (by simp)
  · refine .inr ⟨b, off, rfl, fun i hi => ?_⟩
    rw [List.length_take] at hi
    rw [h i (by omega), List.getElem_take]

/-- A row of numbers of one's own. -/
def OwnI (base : Nat) (w : World) (a : Option Addr) (cap : Nat) (xs : List Int) : Prop := w.ownsRow base 3 1 (.slice a xs.length cap) xs.length (intCells xs)
theorem addr_off (b off i : Nat) : (⟨b, off, none⟩ : Addr).add i = ⟨b, off + i, none⟩ := by
  unfold Addr.add
  by_cases h0 : i = 0
  · simp [h0]
  · simp [h0]
theorem OwnI.isL {base : Nat} {w : World} {a : Option Addr} {cap : Nat} {xs : List Int} (h : OwnI base w a cap xs) : IsL w a xs := by
  by_cases c : xs = []
  · exact .inl c
  · rcases h.2 with ⟨hv, h0⟩ | ⟨g, cp, cur, hv, hb, rest⟩
    · exact absurd (List.eq_nil_of_length_eq_zero h0) c
    · obtain rfl : a = some ⟨g, 0, none⟩ := by injection hv
      refine .inr ⟨g, 0, rfl, fun i hi => ?_⟩
      have := h.cells (g := g) rfl i _ (intCells_get xs i hi)
      rwa [addr_off] at this
theorem OwnI.same {base : Nat} {w w' : World} {a : Option Addr} {cap : Nat} {xs : List Int} (h : OwnI base w a cap xs) (hs : ∀ g, base ≤ g → g < w.heap.size → w'.heap[g]? = w.heap[g]?) : OwnI base w' a cap xs := own_same h hs
theorem OwnI.below {base : Nat} {w w' : World} {a : Option Addr} {cap : Nat} {xs : List Int} (h : OwnI base w a cap xs) (hb : Below w.heap.size w w') : OwnI base w' a cap xs := own_same h fun g _ hg => hb.block g hg
theorem OwnI.lower {base base' : Nat} {w : World} {a : Option Addr} {cap : Nat} {xs : List Int} (h : OwnI base w a cap xs) (hb : base' ≤ base) : OwnI base' w a cap xs := by
  refine ⟨h.1, ?_⟩
  rcases h.2 with hn | ⟨g, cp, cur, hv, hg, rest⟩
  · exact .inl hn
  · exact .inr ⟨g, cp, cur, hv, Nat.le_trans hb hg, rest⟩
theorem OwnI.nil (base : Nat) (w : World) : OwnI base w none 0 [] := World.ownsRow_nil _ _ _ _
/-- The block, if there is one. -/
theorem OwnI.block {base : Nat} {w : World} {a : Option Addr} {cap : Nat} {xs : List Int} (h : OwnI base w a cap xs) : (a = none ∧ cap = 0 ∧ xs = []) ∨ ∃ g, a = some ⟨g, 0, none⟩ ∧ base ≤ g ∧ g < w.heap.size ∧ xs.length ≤ cap ∧ ∃ cur, w.heap[g]? = some (.cells cur 3 (0, 0)) ∧ cur.size = cap := by
  rcases h.2 with ⟨hv, h0⟩ | ⟨g, cp, cur, hv, hb, hg, hn, hm, hs, ht⟩
  · injection hv with h1 h2 h3
    exact .inl ⟨h1, h3, List.eq_nil_of_length_eq_zero h0⟩
  · injection hv with h1 h2 h3
    subst h1 h3
    exact .inr ⟨g, rfl, hb, (Array.getElem?_eq_some_iff.1 hg).1, hn, cur, hg, by rw [hs, Nat.mul_one]⟩

theorem bel_drew {B : Nat} {a w : World} (h : Below B a w) (n : Nat) : Below B a (w.drewN n) := ⟨h.os, h.tape, h.output, h.size, h.block⟩

theorem own_form {w : World} {base e size n : Nat} {v : Value} {xs : List Value} (h : w.ownsRow base e size v n xs) : ∃ a cap, v = .slice a n cap := by
  rcases h.2 with ⟨rfl, rfl⟩ | ⟨g, cap, cur, rfl, _⟩
  · exact ⟨none, 0, rfl⟩
  · exact ⟨_, cap, rfl⟩
theorem own_some {w : World} {base e size n : Nat} {v : Value} {xs : List Value} (h : w.ownsRow base e size v n xs) (hn : v ≠ .slice none 0 0) : ∃ g cap, v = .slice (some ⟨g, 0, none⟩) n cap ∧ base ≤ g ∧ g < w.heap.size ∧ n ≤ cap ∧ cap ≤ maxLen := by
  rcases h.2 with ⟨rfl, rfl⟩ | ⟨g, cap, cur, rfl, hb, hg, h1, h2, _⟩
  · exact absurd rfl hn
  · exact ⟨g, cap, rfl, hb, (Array.getElem?_eq_some_iff.1 hg).1, h1, h2⟩
theorem int_one (xs : List Int) : ∀ u ∈ intCells xs, u.oneCell' = true := by
  intro u hu
  simp only [intCells, List.mem_map] at hu
  obtain ⟨z, _, rfl⟩ := hu
  rfl

theorem grown_below {B : Nat} {a w w' : World} {v : Value} (h : Below B a w) (hB : B ≤ a.heap.size) (hg : w.grownBy w' v.ownBlock) (hv : ∀ k, v.ownBlock = some k → B ≤ k) : Below B a w' :=
  ⟨hg.os.trans h.os, hg.tape.trans h.tape, hg.output.trans h.output, Nat.le_trans h.size hg.size, fun k hk => (hg.block k (Nat.lt_of_lt_of_le (Nat.lt_of_lt_of_le hk hB) h.size) (fun e => by have := hv k e.symm; omega)).trans (h.block k hk)⟩
end Go.Proofs.YtfbmlefhjoblbaaGreat

namespace Go.Proofs.YtfbmlefhjoblbaaGreat
open Go.Conc Go.RowKit
set_option linter.unusedVariables false
set_option linter.unusedSimpArgs false

end Go.Proofs.YtfbmlefhjoblbaaGreat

namespace Go.Proofs.YtfbmlefhjoblbaaGreat
open Go.RowKit
set_option linter.unusedVariables false

theorem OwnI.alloc {base : Nat} {w : World} {ad : Option Addr} {cap : Nat} {xs : List Int} (h : OwnI base w ad cap xs) (ob : Obj) : OwnI base (w.alloc ob) ad cap xs := own_same h fun k _ hk => Below.heap_alloc w ob k hk
end Go.Proofs.YtfbmlefhjoblbaaGreat

namespace Go.Proofs.YtfbmlefhjoblbaaGreat
open Go.ChangeShapes Go.WideShapes Go.ChangeAt Go.RowKit
set_option linter.unusedVariables false

theorem cellsInt : Tryz.prog.cellsOf 3 = 1 := by kernel_rfl
end Go.Proofs.YtfbmlefhjoblbaaGreat
