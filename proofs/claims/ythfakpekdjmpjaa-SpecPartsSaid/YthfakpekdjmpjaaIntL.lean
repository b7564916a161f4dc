/- Lists of numbers in memory: what the statements' helpers do with them. A new list of numbers, written out. A number more at the end of a list of one's own. A list of numbers that came in, as an argument of a law. -/
import Derived.Test.YthfakpekdjmpjaaOwn
import Derived.Deep.QuietTactic
import Derived.BigQuiet
import Derived.Deep.RegionLaw
import Derived.ChangeOld
import Derived.OpenShut
import Derived.SizedLaws
namespace Go.Proofs.Ythfakpekdjmpjaa
open Go.Conc Go.RowKit
set_option linter.unusedVariables false

def intCells (l : List Int) : List Value := l.map fun z => Value.int .i64 z
theorem intCells_length (l : List Int) : (intCells l).length = l.length := by simp [intCells]
theorem intCells_append (a b : List Int) : intCells (a ++ b) = intCells a ++ intCells b := by simp [intCells]
theorem intCells_get (l : List Int) (i : Nat) (h : i < l.length) : (intCells l)[i]? = some (.int .i64 l[i]) := by simp [intCells, h]
theorem infoInt : (Try.prog.info? 3).map (fun i => (i.zero, i.size, i.bytes)) = some (some (.int .i64 0), 1, 8) := by kernel_rfl

/-- A list of numbers that can be read. -/
def IsL (w : World) (a : Option Addr) (xs : List Int) : Prop :=
  xs = [] ∨ ∃ b off, a = some ⟨b, off, none⟩ ∧ ∀ i (h : i < xs.length), w.cell? ⟨b, off + i, none⟩ = some (.int .i64 xs[i])
theorem IsL.keep {w w' : World} {a : Option Addr} {xs : List Int} (h : IsL w a xs) (hk : ∀ b, some b = (a.map (·.block)) → w'.heap[b]? = w.heap[b]?) : IsL w' a xs := by
  rcases h with h | ⟨b, off, rfl, h⟩
  · exact .inl h
  · exact .inr ⟨b, off, rfl, fun i hi => by rw [World.cell?_of_block (hk b rfl)]; exact h i hi⟩
theorem IsL.below {w w' : World} {a : Option Addr} {xs : List Int} (h : IsL w a xs) (hb : Below w.heap.size w w') : IsL w' a xs := by
  rcases h with h | ⟨b, off, rfl, h⟩
  · exact .inl h
  · exact .inr ⟨b, off, rfl, fun i hi => (hb.cell (p := ⟨b, off + i, none⟩) (World.block_lt_of_cell? w ⟨b, off + i, none⟩ (h i hi))).trans (h i hi)⟩
theorem IsL.later {a0 w w' : World} {a : Option Addr} {xs : List Int} (h : IsL a0 a xs) (h0 : Below a0.heap.size a0 w) (hb : Below w.heap.size w w') : IsL w' a xs :=
  (h.below h0).below hb
theorem IsL.take {w : World} {a : Option Addr} {xs : List Int} (h : IsL w a xs) (n : Nat) : IsL w a (xs.take n) := by
  rcases h with rfl | ⟨b, off, rfl, h⟩
  · exact .inl (by simp)
  · refine .inr ⟨b, off, rfl, fun i hi => ?_⟩
    rw [List.length_take] at hi
    rw [h i (by omega), List.getElem_take]

/-- A row of numbers of one's own. -/
def OwnI (base : Nat) (w : World) (a : Option Addr) (cap : Nat) (xs : List Int) : Prop := w.ownsRow base 3 1 (.slice a xs.length cap) xs.length (intCells xs)
theorem addr_off (b off i : Nat) : (⟨b, off, none⟩ : Addr).add i = ⟨b, off + i, none⟩ := by
  unfold Addr.add
  by_cases h0 : i = 0
  · simp [h0]
  · simp [h0]
theorem OwnI.isL {base : Nat} {w : World} {a : Option Addr} {cap : Nat} {xs : List Int} (h : OwnI base w a cap xs) : IsL w a xs := by
  by_cases c : xs = []
  · exact .inl c
  · rcases h.2 with ⟨hv, h0⟩ | ⟨g, cp, cur, hv, hb, rest⟩
    · exact absurd (List.eq_nil_of_length_eq_zero h0) c
    · obtain rfl : a = some ⟨g, 0, none⟩ := by injection hv
      refine .inr ⟨g, 0, rfl, fun i hi => ?_⟩
      have := h.cells (g := g) rfl i _ (intCells_get xs i hi)
      rwa [addr_off] at this
theorem OwnI.same {base : Nat} {w w' : World} {a : Option Addr} {cap : Nat} {xs : List Int} (h : OwnI base w a cap xs) (hs : ∀ g, base ≤ g → g < w.heap.size → w'.heap[g]? = w.heap[g]?) : OwnI base w' a cap xs := own_same h hs
theorem OwnI.below {base : Nat} {w w' : World} {a : Option Addr} {cap : Nat} {xs : List Int} (h : OwnI base w a cap xs) (hb : Below w.heap.size w w') : OwnI base w' a cap xs := own_same h fun g _ hg => hb.block g hg
theorem OwnI.lower {base base' : Nat} {w : World} {a : Option Addr} {cap : Nat} {xs : List Int} (h : OwnI base w a cap xs) (hb : base' ≤ base) : OwnI base' w a cap xs := by
  refine ⟨h.1, ?_⟩
  rcases h.2 with hn | ⟨g, cp, cur, hv, hg, rest⟩
  · exact .inl hn
  · exact .inr ⟨g, cp, cur, hv, Nat.le_trans hb hg, rest⟩
theorem OwnI.nil (base : Nat) (w : World) : OwnI base w none 0 [] := World.ownsRow_nil _ _ _ _
/-- The block, if there is one. -/
theorem OwnI.block {base : Nat} {w : World} {a : Option Addr} {cap : Nat} {xs : List Int} (h : OwnI base w a cap xs) : (a = none ∧ cap = 0 ∧ xs = []) ∨ ∃ g, a = some ⟨g, 0, none⟩ ∧ base ≤ g ∧ g < w.heap.size ∧ xs.length ≤ cap ∧ ∃ cur, w.heap[g]? = some (.cells cur 3 (0, 0)) ∧ cur.size = cap := by
  rcases h.2 with ⟨hv, h0⟩ | ⟨g, cp, cur, hv, hb, hg, hn, hm, hs, ht⟩
  · injection hv with h1 h2 h3
    exact .inl ⟨h1, h3, List.eq_nil_of_length_eq_zero h0⟩
  · injection hv with h1 h2 h3
    subst h1 h3
    exact .inr ⟨g, rfl, hb, (Array.getElem?_eq_some_iff.1 hg).1, hn, cur, hg, by rw [hs, Nat.mul_one]⟩

theorem bel_drew {B : Nat} {a w : World} (h : Below B a w) (n : Nat) : Below B a (w.drewN n) := ⟨h.os, h.tape, h.output, h.size, h.block⟩

theorem own_form {w : World} {base e size n : Nat} {v : Value} {xs : List Value} (h : w.ownsRow base e size v n xs) : ∃ a cap, v = .slice a n cap := by
  rcases h.2 with ⟨rfl, rfl⟩ | ⟨g, cap, cur, rfl, _⟩
  · exact ⟨none, 0, rfl⟩
  · exact ⟨_, cap, rfl⟩
theorem own_some {w : World} {base e size n : Nat} {v : Value} {xs : List Value} (h : w.ownsRow base e size v n xs) (hn : v ≠ .slice none 0 0) : ∃ g cap, v = .slice (some ⟨g, 0, none⟩) n cap ∧ base ≤ g ∧ g < w.heap.size ∧ n ≤ cap ∧ cap ≤ maxLen := by
  rcases h.2 with ⟨rfl, rfl⟩ | ⟨g, cap, cur, rfl, hb, hg, h1, h2, _⟩
  · exact absurd rfl hn
  · exact ⟨g, cap, rfl, hb, (Array.getElem?_eq_some_iff.1 hg).1, h1, h2⟩
theorem int_cells_of {w : World} {b off : Nat} {xs : List Int} (h : ∀ i (h : i < xs.length), w.cell? ⟨b, off + i, none⟩ = some (.int .i64 xs[i])) : ∀ j u, (intCells xs)[j]? = some u → w.cell? ((⟨b, off, none⟩ : Addr).add j) = some u := by
  intro j u hj
  have hl : j < xs.length := by have := (List.getElem?_eq_some_iff.1 hj).1; rwa [intCells_length] at this
  rw [intCells_get xs j hl] at hj
  rw [addr_off, h j hl]
  exact hj
theorem int_one (xs : List Int) : ∀ u ∈ intCells xs, u.oneCell' = true := by
  intro u hu
  simp only [intCells, List.mem_map] at hu
  obtain ⟨z, _, rfl⟩ := hu
  rfl

theorem grown_below {B : Nat} {a w w' : World} {v : Value} (h : Below B a w) (hB : B ≤ a.heap.size) (hg : w.grownBy w' v.ownBlock) (hv : ∀ k, v.ownBlock = some k → B ≤ k) : Below B a w' :=
  ⟨hg.os.trans h.os, hg.tape.trans h.tape, hg.output.trans h.output, Nat.le_trans h.size hg.size, fun k hk => (hg.block k (Nat.lt_of_lt_of_le (Nat.lt_of_lt_of_le hk hB) h.size) (fun e => by have := hv k e.symm; omega)).trans (h.block k hk)⟩
theorem marks_cells (w : World) (L : List Int) (hL : L = [-7777, -8888]) : ∀ j u, (intCells L)[j]? = some u → (w.alloc (.cells #[.int .i64 (-7777), .int .i64 (-8888)] 3)).cell? ((⟨w.heap.size, 0, none⟩ : Addr).add j) = some u := by
  subst hL
  have hb : (w.alloc (.cells #[.int .i64 (-7777), .int .i64 (-8888)] 3)).heap[w.heap.size]? = some (.cells #[.int .i64 (-7777), .int .i64 (-8888)] 3 (0, 0)) := heap_alloc_new w _
  intro j u hj
  rw [addr_off, Nat.zero_add, cell_of_row _ _ _ _ _ _ hb]
  simpa [intCells] using hj

end Go.Proofs.Ythfakpekdjmpjaa

namespace Go.Proofs.Ythfakpekdjmpjaa
open Go.Conc Go.RowKit
set_option linter.unusedVariables false
set_option linter.unusedSimpArgs false

/-- A new list, written out. -/
theorem isl_new (w : World) (L : List Int) (C : Array Value) (hC : (intCells L).toArray = C) : IsL (w.alloc (.cells C 3)) (some ⟨w.heap.size, 0, none⟩) L := by
  subst hC
  by_cases c : L = []
  · exact .inl c
  · refine .inr ⟨w.heap.size, 0, rfl, fun i hi => ?_⟩
    rw [Nat.zero_add, cell_of_row _ _ _ _ _ _ (heap_alloc_new w (.cells (intCells L).toArray 3))]
    simp [intCells, hi]
end Go.Proofs.Ythfakpekdjmpjaa

namespace Go.Proofs.Ythfakpekdjmpjaa
open Go.RowKit
set_option linter.unusedVariables false

theorem OwnI.alloc {base : Nat} {w : World} {ad : Option Addr} {cap : Nat} {xs : List Int} (h : OwnI base w ad cap xs) (ob : Obj) : OwnI base (w.alloc ob) ad cap xs := own_same h fun k _ hk => Below.heap_alloc w ob k hk
/-- A number is put in. -/
theorem wp_int {a w : World} {ad : Option Addr} {cap : Nat} {xs : List Int} (h : OwnI a.heap.size w ad cap xs) (hb : Below a.heap.size a w) (hO : xs.length ≤ 17592186044000) {ops : Array Oper} {rest : List Oper} {op : Oper} {A : Act} {Q : Exit → Act → World → Prop} (hgd : op.guard = none) (sl x : Operand)
    (ho : op.op = .call { callee := .builtin .append, args := #[sl, x], argTypes := #[26, 26] }) (z : Int) (hs : A.eval sl = .slice ad xs.length cap) (hx : A.eval x = .slice (some ⟨w.heap.size, 0, none⟩) 1 1)
    (hK : ∀ ad' cap' w', OwnI a.heap.size w' ad' cap' (xs ++ [z]) → Below a.heap.size a w' → wpList Try.prog ops Q rest (A.put op.dst (.slice ad' (xs ++ [z]).length cap')) w') : wpList Try.prog ops Q (op :: rest) A (w.alloc (.cells #[.int .i64 z] 3)) := by
  obtain ⟨i0, hi0, hz0, hz1, hz2⟩ := info_parts infoInt
  have ha := h.alloc (.cells #[.int .i64 z] 3)
  have hb2 : (w.alloc (.cells #[.int .i64 z] 3)).heap[w.heap.size]? = some (.cells #[.int .i64 z] 3 (0, 0)) := heap_alloc_new w _
  have hbw := hb.alloc hb.size (.cells #[.int .i64 z] 3)
  refine wpList_append_own _ hgd sl x 26 ho a.heap.size 3 i0 (.int .i64 0) 1 8 Try.underlying26 hi0 hz0 hz1 hz2 rfl (by decide) (.slice ad xs.length cap) xs.length (intCells xs) hs ha ⟨w.heap.size, 0, none⟩ 1 1 (intCells [z]) hx rfl (fun j u hj => ?_) (int_one _) (by simp only [maxLen]; omega) (by omega) (Nat.le_trans hb.size (by simp)) ?_
  · have hj1 : j < 1 := by have := (List.getElem?_eq_some_iff.1 hj).1; simpa [intCells] using this
    have hj0 : j = 0 := by omega
    subst hj0
    rw [show (⟨w.heap.size, 0, none⟩ : Addr).add 0 = ⟨w.heap.size, 0, none⟩ by simp [Addr.add], cell_of_row _ _ _ _ _ _ hb2]
    simpa [intCells] using hj
  intro v' w' hown hgrow _
  obtain ⟨ad', cap', rfl⟩ := own_form hown
  have hl : (xs ++ [z]).length = xs.length + 1 := by simp
  have ho' : OwnI a.heap.size w' ad' cap' (xs ++ [z]) := by
    unfold OwnI
    rw [hl, intCells_append]
    exact hown
  have := hK ad' cap' w' ho' (grown_below hbw (Nat.le_refl _) hgrow fun k hk => own_block ha hk.symm)
  rwa [hl] at this
/-- The same, as a step of a region that draws. -/
theorem step_int {a w : World} {ad : Option Addr} {cap : Nat} {xs : List Int} (h : OwnI a.heap.size w ad cap xs) (hb : Below a.heap.size a w) (hO : xs.length ≤ 17592186044000) {ops : Array Oper} {op : Oper} {A : Act} {K : Act → World → Prop} {Q : Exit → Act → World → Prop} {E : Prop} (hgd : op.guard = none) (sl x : Operand)
    (ho : op.op = .call { callee := .builtin .append, args := #[sl, x], argTypes := #[26, 26] }) (z : Int) (hs : A.eval sl = .slice ad xs.length cap) (hx : A.eval x = .slice (some ⟨w.heap.size, 0, none⟩) 1 1)
    (hK : ∀ ad' cap' w', OwnI a.heap.size w' ad' cap' (xs ++ [z]) → Below a.heap.size a w' → K (A.put op.dst (.slice ad' (xs ++ [z]).length cap')) w') : if Region.wanted op (yielded ops A.tmps) = true then Oper.wp Try.prog op A (w.alloc (.cells #[.int .i64 z] 3)) K Q else E := by
  have hwt : Region.wanted op (yielded ops A.tmps) = true := by simp [Region.wanted, hgd]
  rw [if_pos hwt]
  obtain ⟨i0, hi0, hz0, hz1, hz2⟩ := info_parts infoInt
  have ha := h.alloc (.cells #[.int .i64 z] 3)
  have hb2 : (w.alloc (.cells #[.int .i64 z] 3)).heap[w.heap.size]? = some (.cells #[.int .i64 z] 3 (0, 0)) := heap_alloc_new w _
  have hbw := hb.alloc hb.size (.cells #[.int .i64 z] 3)
  refine wp_append_own _ sl x 26 ho a.heap.size 3 i0 (.int .i64 0) 1 8 Try.underlying26 hi0 hz0 hz1 hz2 rfl (by decide) (.slice ad xs.length cap) xs.length (intCells xs) hs ha ⟨w.heap.size, 0, none⟩ 1 1 (intCells [z]) hx rfl (fun j u hj => ?_) (int_one _) (by simp only [maxLen]; omega) (by omega) (Nat.le_trans hb.size (by simp)) ?_
  · have hj1 : j < 1 := by have := (List.getElem?_eq_some_iff.1 hj).1; simpa [intCells] using this
    have hj0 : j = 0 := by omega
    subst hj0
    rw [show (⟨w.heap.size, 0, none⟩ : Addr).add 0 = ⟨w.heap.size, 0, none⟩ by simp [Addr.add], cell_of_row _ _ _ _ _ _ hb2]
    simpa [intCells] using hj
  intro v' w' hown hgrow _
  obtain ⟨ad', cap', rfl⟩ := own_form hown
  have hl : (xs ++ [z]).length = xs.length + 1 := by simp
  have ho' : OwnI a.heap.size w' ad' cap' (xs ++ [z]) := by
    unfold OwnI
    rw [hl, intCells_append]
    exact hown
  have := hK ad' cap' w' ho' (grown_below hbw (Nat.le_refl _) hgrow fun k hk => own_block ha hk.symm)
  rwa [hl] at this
end Go.Proofs.Ythfakpekdjmpjaa

namespace Go.Proofs.Ythfakpekdjmpjaa
open Go.ChangeShapes Go.WideShapes Go.ChangeAt Go.RowKit
set_option linter.unusedVariables false

theorem bytesInt : Try.prog.bytesOf 3 = 8 := by kernel_rfl
theorem cellsInt : Try.prog.cellsOf 3 = 1 := by kernel_rfl
theorem ints_arg {H : Type} {enc : TypeId × Value → H} {W : World} {fuel : Nat} {a : Option Addr} {len cap : Nat} {d : DataW H} {p : List MemPlace} {hh : Bool}
    (h : DataW.trod enc Try.prog W 0 (fun _ => true) hh fuel 26 (Value.slice a len cap).cells.toList = some (d, p))
    {ts : List TypeId} {ds : List (DataW H)} (hsz : (DataW.weightsEach Try.prog ts ds).all (· ≤ reachBytes) = true) {j : Nat} (ht : ts[j]? = some 26) (hd : ds[j]? = some d) :
    ∃ xs : List Int, xs.length = len ∧ IsL W a xs ∧ (a = none → xs.length = 0 ∧ cap = 0) ∧ xs.length * 8 ≤ 140737488351232 ∧ ∀ x ∈ xs, -9223372036854775808 ≤ x ∧ x < 9223372036854775808 := by
  rcases open_ints Try.underlying26 Try.underlying3 cellsInt h with ⟨hcs, _⟩ | ⟨x, l, c, zs, hcs, _, hl, hm, hz, hx, hcell, hwz⟩
  · simp [Value.cells] at hcs
    obtain ⟨rfl, rfl, rfl⟩ := hcs
    exact ⟨[], rfl, .inl rfl, fun _ => ⟨rfl, rfl⟩, by simp, fun x hx => by simp at hx⟩
  · simp [Value.cells] at hcs
    obtain ⟨rfl, rfl, rfl⟩ := hcs
    have hz' : zs.length = cap := by simpa using hz
    injection hx with hx1 hx2
    subst hx1
    have hw := sized_slice hsz ht hd Try.underlying26
    rw [bytesInt] at hw
    simp only [lits, List.length_map, List.length_take, List.length_drop, reachBytes] at hw
    have hlen : (zs.take len).length = len := by rw [List.length_take]; omega
    refine ⟨zs.take len, hlen, ?_, (fun e => by cases e), by rw [hlen]; omega, fun y hy => ?_⟩
    · by_cases h0 : len = 0
      · exact .inl (by rw [h0]; rfl)
      · obtain ⟨b, off, spot⟩ := x
        have hsp : spot = none := by
          have h1 := hcell 0 (by omega)
          cases spot with
          | none => rfl
          | some s => simp [Addr.add, World.cell?] at h1; split at h1 <;> simp at h1
        subst hsp
        refine .inr ⟨b, off, rfl, fun i hi => ?_⟩
        rw [hlen] at hi
        have h1 := hcell i (by omega)
        rw [addr_off] at h1
        rw [h1, List.getElem_take, List.getD_eq_getElem?_getD, List.getElem?_eq_getElem (by omega)]
        rfl
    · have hw := hwz y (List.mem_of_mem_take hy)
      have m : IntKind.i64.min = -9223372036854775808 := rfl
      simp [Lit.wf] at hw
      omega
end Go.Proofs.Ythfakpekdjmpjaa
