/- A value, a number more at the end of a list of one's own, and what else stays. -/
import Derived.Test.YtgpnfmkonhaccaaValL
import Derived.Laws.OwnMore
import Derived.Deep.RegionLaw
import Derived.Laws.CopyRow
import Derived.Laws.AppendOwn
namespace Go.Proofs.Ytgpnfmkonhaccaa
open Go.Conc Go.RowKit
set_option linter.unusedVariables false

/-- The block of a row. -/
def At (ad : Option Addr) (k : Nat) : Prop := some k = ad.map (·.block)
theorem own_by {w w' : World} {base e size n cap : Nat} {a : Option Addr} {xs : List Value} {F : Nat → Prop} (h : w.ownsRow base e size (.slice a n cap) n xs) (hf : Frm F w w') (hF : ∀ k, At a k → k < w.heap.size → ¬ F k) : w'.ownsRow base e size (.slice a n cap) n xs := by
  refine ⟨h.1, ?_⟩
  rcases h.2 with hn | ⟨g, cp, cur, hv, hb, hgg, rest⟩
  · exact .inl hn
  · refine .inr ⟨g, cp, cur, hv, hb, ?_, rest⟩
    injection hv with h1 _ _
    subst h1
    have hl := (Array.getElem?_eq_some_iff.1 hgg).1
    rw [hf.block g hl (hF g rfl hl)]
    exact hgg
theorem OwnI.frm {base cap : Nat} {w w' : World} {a : Option Addr} {xs : List Int} {F : Nat → Prop} (h : OwnI base w a cap xs) (hf : Frm F w w') (hF : ∀ k, At a k → k < w.heap.size → ¬ F k) : OwnI base w' a cap xs := own_by h hf hF
theorem OwnV.frm {base cap : Nat} {w w' : World} {a : Option Addr} {xs : List V} {F : Nat → Prop} (h : OwnV base w a cap xs) (hf : Frm F w w') (hF : ∀ k, At a k → k < w.heap.size → ¬ F k) : OwnV base w' a cap xs := own_by h hf hF
theorem OwnI.at_ge {base cap : Nat} {w : World} {a : Option Addr} {xs : List Int} (h : OwnI base w a cap xs) {k : Nat} (hk : At a k) : base ≤ k ∧ k < w.heap.size := by
  rcases h.block with ⟨rfl, _⟩ | ⟨g, rfl, hg, hl, _⟩
  · simp [At] at hk
  · simp [At] at hk; omega
theorem OwnV.at_ge {base cap : Nat} {w : World} {a : Option Addr} {xs : List V} (h : OwnV base w a cap xs) {k : Nat} (hk : At a k) : base ≤ k ∧ k < w.heap.size := by
  rcases h.block with ⟨rfl, _⟩ | ⟨g, rfl, hg, hl, _⟩
  · simp [At] at hk
  · simp [At] at hk; omega
/-- Numbers and values lie apart. -/
theorem apart_iv {b1 b2 c1 c2 : Nat} {w : World} {a1 a2 : Option Addr} {xs : List Int} {vs : List V} (h1 : OwnI b1 w a1 c1 xs) (h2 : OwnV b2 w a2 c2 vs) {k : Nat} (hk : At a1 k) : ¬ At a2 k := by
  rcases h1.block with ⟨rfl, _⟩ | ⟨g, rfl, _, _, _, cur, hc, _⟩
  · simp [At] at hk
  · rcases h2.block with ⟨rfl, _⟩ | ⟨g2, rfl, _, _, _, cur2, hc2, _⟩
    · simp [At]
    · intro hk2
      simp [At] at hk hk2
      subst hk
      subst hk2
      rw [hc] at hc2
      injection hc2 with hc2
      injection hc2 with _ h3 _
      exact absurd h3 types_apart.2
theorem Frm.to_below {F : Nat → Prop} {B : Nat} {a w w' : World} (h : Below B a w) (hf : Frm F w w') (hF : ∀ k, F k → B ≤ k) (hB : B ≤ a.heap.size) : Below B a w' :=
  ⟨hf.os.trans h.os, hf.tape.trans h.tape, hf.output.trans h.output, Nat.le_trans h.size hf.size, fun k hk => (hf.block k (Nat.lt_of_lt_of_le (Nat.lt_of_lt_of_le hk hB) h.size) (fun e => by have := hF k e; omega)).trans (h.block k hk)⟩
theorem grown_frm {w w' : World} {ad : Option Addr} {n cap : Nat} (ob : Obj) (hg : (w.alloc ob).grownBy w' (Value.slice ad n cap).ownBlock) (hn : ad = none ∨ ∃ g, ad = some ⟨g, 0, none⟩) : Frm (At ad) w w' := by
  refine ⟨hg.os, hg.tape, hg.output, by have := hg.size; simp at this; omega, fun k hk hne => ?_⟩
  have h1 := hg.block k (by simp; omega) (fun e => hne (by
    rcases hn with rfl | ⟨g, rfl⟩
    · simp [Value.ownBlock] at e
    · simp [Value.ownBlock] at e; simp [At, e]))
  exact h1.trans (Below.heap_alloc w ob k hk)
theorem own_head {base e size n cap : Nat} {w : World} {a : Option Addr} {xs : List Value} (h : w.ownsRow base e size (.slice a n cap) n xs) : a = none ∨ ∃ g, a = some ⟨g, 0, none⟩ := by
  rcases h.2 with ⟨hv, _⟩ | ⟨g, cp, cur, hv, _⟩
  · injection hv with h1; exact .inl h1
  · injection hv with h1; exact .inr ⟨g, h1⟩

theorem val_cells (w : World) (v : V) : ∀ j u, (rowV [v])[j]? = some u → (w.alloc (.cells #[.int .i64 v.k, .int .i64 v.i, .bool v.b, .string v.s] 41)).cell? ((⟨w.heap.size, 0, none⟩ : Addr).add j) = some u := by
  have hb : (w.alloc (.cells #[.int .i64 v.k, .int .i64 v.i, .bool v.b, .string v.s] 41)).heap[w.heap.size]? = some (.cells #[.int .i64 v.k, .int .i64 v.i, .bool v.b, .string v.s] 41 (0, 0)) := heap_alloc_new w _
  intro j u hj
  rw [addr_off, Nat.zero_add, cell_of_row _ _ _ _ _ _ hb]
  simpa [rowV, V.cells] using hj
section
variable {P : Program}
theorem wpV_append_eq (w : World) {ops : Array Oper} {rest : List Oper} {o : Oper} {a : Act} {Q : Exit → Act → World → Prop} (hgd : o.guard = none) (d s : Operand) (t t' : TypeId)
    (ho : o.op = .call { callee := .builtin .append, args := #[d, s], argTypes := #[t, t'] }) (v u : Value) (hd : a.eval d = v) (hs : a.eval s = u) {v' : Value} {w' : World}
    (hr : (Builtin.append_ #[t, t'] o.type #[v, u]).run P w = .ok v' w') (h : wpList P ops Q rest (a.put o.dst v') w') : wpList P ops Q (o :: rest) a w := by
  refine wpList_plain hgd fun _ hK => ?_
  unfold Oper.wp execOp
  simp only [ho, resolve, invoke, builtin, Sem.run_bind, Sem.run_pure, Result.andThen_ok, List.map_toArray, List.map_cons, List.map_nil, hd, hs, hr]
  exact hK _ _ h
end

/-- One element more at a row's end. -/
theorem run_append_val (w : World) (base : Nat) (hbase : base ≤ w.heap.size) (v : Value) (n : Nat) (xs p : List Value) (hown : w.ownsRow base 41 4 v n xs) (hxl : xs.length = n * 4) (hl : n ≤ 3518437208882) (hp : p.length = 4) (hp1 : ∀ u ∈ p, u.oneCell' = true)
    (a : Addr) (c : Nat) (hnews : ∀ j u, p[j]? = some u → w.cell? (a.add j) = some u) :
    ∃ v' w', (∀ ty, (Builtin.append_ #[22, 22] ty #[v, .slice (some a) 1 c]).run Try.prog w = .ok v' w') ∧ w'.ownsRow base 41 4 v' (n + 1) (xs ++ p) ∧ w.grownBy w' v.ownBlock ∧ (∀ k, v'.ownBlock = some k → v.ownBlock = some k ∨ w.heap.size ≤ k) := by
  obtain ⟨i0, hi, hz0, hz1, hz2⟩ := info_parts infoVal
  have hpl : p.length = 1 * i0.size := by rw [hz1, hp]
  have hpx : (xs ++ p).length = (n + 1) * 4 := by rw [List.length_append, hxl, hp]; omega
  have grown : ∀ (old : Nat), old < n + 1 →
      (w.drew.alloc (.cells (xs.toArray ++ p.toArray ++ Builtin.zeroCells (zVal).cells (grownCap w (n + 1) old 41 - (n + 1))) 41)).ownsRow base 41 4
        (.slice (some ⟨w.heap.size, 0, none⟩) (n + 1) (grownCap w (n + 1) old 41)) (n + 1) (xs ++ p) := by
    intro old ho
    have hge := grownCap_ge w (n + 1) old 41
    have hcm : grownCap w (n + 1) old 41 ≤ maxLen := grownCap_le_maxLen w (n + 1) old 41 (by simp only [maxLen]; omega)
    refine ⟨hpx, .inr ⟨w.heap.size, _, _, rfl, hbase, heap_alloc_new w.drew _, hge, hcm, ?_, ?_⟩⟩
    · simp only [Array.size_append, List.size_toArray, size_zeroCells, hxl, hp]
      have hz3 : (zVal).cells.size = 4 := rfl
      rw [hz3]
      omega
    · simp only [Array.toList_append]
      rw [show (xs ++ p ++ (Builtin.zeroCells (zVal).cells (grownCap w (n + 1) old 41 - (n + 1))).toList) = (xs ++ p) ++ (Builtin.zeroCells (zVal).cells (grownCap w (n + 1) old 41 - (n + 1))).toList from rfl, ← hpx]
      exact List.take_left
  rcases hown.2 with ⟨rfl, h0⟩ | ⟨g, cap, cur, rfl, hb, hgg, hnc, hcm, hcs, htake⟩
  · have e0 : xs = [] := List.eq_nil_of_length_eq_zero (by omega)
    subst e0 h0
    have gr := grown 0 (by omega)
    refine ⟨_, _, fun ty => run_append_nil w 22 ty 41 i0 (zVal) Try.underlying22 hi hz0 a 1 c p hpl hnews (by omega) (by omega) (by rw [hz2]; omega), by simpa using gr, ⟨rfl, rfl, rfl, by simp, fun k hk _ => Below.heap_alloc w.drew _ k hk⟩, ?_⟩
    intro k hk
    simp [Value.ownBlock] at hk
    exact .inr (by omega)
  · by_cases hroom : n + 1 ≤ cap
    · have hfit : n * i0.size + p.length ≤ cur.size := by rw [hcs, hz1, hp]; omega
      have hlt : (cur.toList.take (n * 4) ++ p).length = (n + 1) * 4 := by rw [htake]; exact hpx
      refine ⟨_, _, fun ty => run_append_room w 22 ty 41 i0 Try.underlying22 hi g n cap cur hgg a 1 c p hpl hnews hp1 hroom hfit, ⟨hpx, .inr ⟨g, cap, _, rfl, hb, setRow_heap w g cur _ 41 _ hgg, by omega, hcm, ?_, ?_⟩⟩, ⟨rfl, rfl, rfl, by simp, fun k _ hk => setRow_other w g k _ (fun e => hk (by rw [e]; rfl))⟩, fun k hk => .inl hk⟩
      · simp only [List.size_toArray, List.length_append, List.length_take, List.length_drop, Array.length_toList]
        omega
      · rw [hz1, ← htake, List.append_assoc]
        rw [← List.append_assoc, ← hlt]
        exact List.take_left
    · have hr := fun ty => run_append_grow (P := Try.prog) w 22 ty 41 i0 (zVal) Try.underlying22 hi hz0 ⟨g, 0, none⟩ n cap xs (by rw [hz1]; exact hxl) (hown.cells (g := g) rfl) a 1 c p hpl hnews (by omega) (by omega) (growslice_fits (by omega) (by rw [hz2]; omega))
      refine ⟨_, _, hr, grown cap (by omega), ⟨rfl, rfl, rfl, by simp, fun k hk _ => Below.heap_alloc w.drew _ k hk⟩, ?_⟩
      intro k hk
      simp [Value.ownBlock] at hk
      exact .inr (by omega)

theorem grown_new {w : World} {ad ad' : Option Addr} {n n' cap cap' : Nat} (ob : Obj) (hh : ad = none ∨ ∃ g, ad = some ⟨g, 0, none⟩) (hh' : ad' = none ∨ ∃ g, ad' = some ⟨g, 0, none⟩) (h : ∀ k, (Value.slice ad' n' cap').ownBlock = some k → (Value.slice ad n cap).ownBlock = some k ∨ (w.alloc ob).heap.size ≤ k) : ∀ k, At ad' k → At ad k ∨ w.heap.size < k := by
  intro k hk
  rcases hh' with rfl | ⟨g', rfl⟩
  · simp [At] at hk
  · simp [At] at hk
    subst hk
    rcases h k rfl with h | h
    · rcases hh with rfl | ⟨g, rfl⟩
      · simp [Value.ownBlock] at h
      · simp [Value.ownBlock] at h
        exact .inl (by simp [At, h])
    · exact .inr (by simp at h; omega)
/-- A value is put in. -/
theorem wp_val {base : Nat} {w : World} {ad : Option Addr} {cap : Nat} {xs : List V} (h : OwnV base w ad cap xs) (hb : base ≤ w.heap.size) (hO : xs.length ≤ 3518437208882) {ops : Array Oper} {rest : List Oper} {op : Oper} {A : Act} {Q : Exit → Act → World → Prop} (hgd : op.guard = none) (sl x : Operand)
    (ho : op.op = .call { callee := .builtin .append, args := #[sl, x], argTypes := #[22, 22] }) (v : V) (hs : A.eval sl = .slice ad xs.length cap) (hx : A.eval x = .slice (some ⟨w.heap.size, 0, none⟩) 1 1)
    (hK : ∀ ad' cap' w', OwnV base w' ad' cap' (xs ++ [v]) → Frm (At ad) w w' → (∀ k, At ad' k → At ad k ∨ w.heap.size < k) → wpList Try.prog ops Q rest (A.put op.dst (.slice ad' (xs ++ [v]).length cap')) w') : wpList Try.prog ops Q (op :: rest) A (w.alloc (.cells #[.int .i64 v.k, .int .i64 v.i, .bool v.b, .string v.s] 41)) := by
  have ha := h.alloc (.cells #[.int .i64 v.k, .int .i64 v.i, .bool v.b, .string v.s] 41)
  obtain ⟨v', w', hr, hown, hgrow, hnew⟩ := run_append_val _ base (Nat.le_trans hb (by simp)) (.slice ad xs.length cap) xs.length (rowV xs) (rowV [v]) ha (rowV_length xs) hO (by rw [rowV_length]; rfl) (rowV_cells _) ⟨w.heap.size, 0, none⟩ 1 (val_cells w v)
  obtain ⟨ad', cap', rfl⟩ := own_form hown
  have hl : (xs ++ [v]).length = xs.length + 1 := by simp
  have ho' : OwnV base w' ad' cap' (xs ++ [v]) := by
    unfold OwnV
    rw [hl, rowV_append]
    exact hown
  have := hK ad' cap' w' ho' (grown_frm _ hgrow (own_head h)) (grown_new _ (own_head h) (own_head hown) hnew)
  rw [hl] at this
  exact wpV_append_eq _ hgd sl x 22 22 ho _ _ hs hx (hr _) this
/-- A list is put behind a new one that is empty. -/
theorem wp_copy {w : World} {a : Option Addr} {cap : Nat} {xs : List V} (ha : IsV w a xs) (hn : a = none → xs.length = 0 ∧ cap = 0) (hx : xs.length * 40 ≤ 140737488355328) {ops : Array Oper} {rest : List Oper} {op : Oper} {A : Act} {Q : Exit → Act → World → Prop} (hgd : op.guard = none) (sl x : Operand)
    (ho : op.op = .call { callee := .builtin .append, args := #[sl, x], argTypes := #[22, 22] }) (hs : A.eval sl = .slice (some ⟨w.heap.size, 0, none⟩) 0 0) (hxx : A.eval x = .slice a xs.length cap)
    (hK : ∀ g c w', OwnV w.heap.size w' (some ⟨g, 0, none⟩) c xs → Below w.heap.size w w' → wpList Try.prog ops Q rest (A.put op.dst (.slice (some ⟨g, 0, none⟩) xs.length c)) w') : wpList Try.prog ops Q (op :: rest) A (w.alloc (.cells #[] 41)) := by
  obtain ⟨i0, hi0, hz0, hz1, hz2⟩ := info_parts infoVal
  have hO : (w.alloc (.cells #[] 41)).ownsRow w.heap.size 41 4 (.slice (some ⟨w.heap.size, 0, none⟩) 0 0) 0 [] := World.ownsRow_made w #[] 0 (Nat.le_refl _) (Nat.zero_le _) rfl
  have hB : Below w.heap.size w (w.alloc (.cells #[] 41)) := (Below.refl _ _).alloc (Nat.le_refl _) _
  cases a with
  | none =>
    obtain ⟨h1, rfl⟩ := hn rfl
    have e1 : xs = [] := List.eq_nil_of_length_eq_zero h1
    subst e1
    have hr : ∀ ty, (Builtin.append_ #[22, 22] ty #[.slice (some ⟨w.heap.size, 0, none⟩) 0 0, .slice none 0 0]).run Try.prog (w.alloc (.cells #[] 41)) = .ok (.slice (some ⟨w.heap.size, 0, none⟩) 0 0) (w.alloc (.cells #[] 41)) := fun ty => by
      simp [Builtin.append_, run_underlying Try.underlying22, sizeOf, typeInfo, hi0, Builtin.lenOf, Builtin.firstCells, loadCells, loadCellsFrom, storeCells]
    exact wpV_append_eq _ hgd sl x 22 22 ho _ _ hs hxx (hr _) (hK _ _ _ hO hB)
  | some ad =>
    have hc : ∀ j u, (rowV xs)[j]? = some u → (w.alloc (.cells #[] 41)).cell? (ad.add j) = some u := by
      rcases ha.below hB with rfl | ⟨b, off, e, h⟩
      · intro j u hj; simp [rowV] at hj
      · injection e with e
        subst e
        exact IsV.cells h
    have hl := rowV_length xs
    refine wpList_append_own _ hgd sl x 22 ho w.heap.size 41 i0 zVal 4 40 Try.underlying22 hi0 hz0 hz1 hz2 rfl (by decide) (.slice (some ⟨w.heap.size, 0, none⟩) 0 0) 0 [] hs hO ad xs.length cap (rowV xs) hxx hl hc (rowV_cells xs) (by simp only [maxLen]; omega) (by omega) (by simp) ?_
    intro v1 w1 h1 g1 n1
    rw [Nat.zero_add, List.nil_append] at h1
    obtain ⟨g, cp, rfl, hbg, hgl, hcp, hcm⟩ := own_some h1 (by rw [ne_eq, n1]; simp)
    refine hK g cp w1 h1 ?_
    exact ⟨g1.os.trans hB.os, g1.tape.trans hB.tape, g1.output.trans hB.output, Nat.le_trans hB.size g1.size, fun k hk => (g1.block k (Nat.lt_of_lt_of_le hk hB.size) (by simp [Value.ownBlock]; omega)).trans (hB.block k hk)⟩

/-- A number is put in. -/
theorem wp_num {base : Nat} {w : World} {ad : Option Addr} {cap : Nat} {xs : List Int} (h : OwnI base w ad cap xs) (hb : base ≤ w.heap.size) (hO : xs.length ≤ 17592186044000) {ops : Array Oper} {rest : List Oper} {op : Oper} {A : Act} {Q : Exit → Act → World → Prop} (hgd : op.guard = none) (sl x : Operand)
    (ho : op.op = .call { callee := .builtin .append, args := #[sl, x], argTypes := #[23, 23] }) (z : Int) (hs : A.eval sl = .slice ad xs.length cap) (hx : A.eval x = .slice (some ⟨w.heap.size, 0, none⟩) 1 1)
    (hK : ∀ ad' cap' w', OwnI base w' ad' cap' (xs ++ [z]) → Frm (At ad) w w' → wpList Try.prog ops Q rest (A.put op.dst (.slice ad' (xs ++ [z]).length cap')) w') : wpList Try.prog ops Q (op :: rest) A (w.alloc (.cells #[.int .i64 z] 3)) := by
  obtain ⟨i0, hi0, hz0, hz1, hz2⟩ := info_parts infoInt
  have ha : OwnI base (w.alloc (.cells #[.int .i64 z] 3)) ad cap xs := own_same h fun k _ hk => Below.heap_alloc w _ k hk
  have hb2 : (w.alloc (.cells #[.int .i64 z] 3)).heap[w.heap.size]? = some (.cells #[.int .i64 z] 3 (0, 0)) := heap_alloc_new w _
  refine wpList_append_own _ hgd sl x 23 ho base 3 i0 (.int .i64 0) 1 8 Try.underlying23 hi0 hz0 hz1 hz2 rfl (by decide) (.slice ad xs.length cap) xs.length (intCells xs) hs ha ⟨w.heap.size, 0, none⟩ 1 1 (intCells [z]) hx rfl (fun j u hj => ?_) (int_one _) (by simp only [maxLen]; omega) (by omega) (Nat.le_trans hb (by simp)) ?_
  · have hj1 : j < 1 := by have := (List.getElem?_eq_some_iff.1 hj).1; simpa [intCells] using this
    have hj0 : j = 0 := by omega
    subst hj0
    rw [show (⟨w.heap.size, 0, none⟩ : Addr).add 0 = ⟨w.heap.size, 0, none⟩ by simp [Addr.add], cell_of_row _ _ _ _ _ _ hb2]
    simpa [intCells] using hj
  intro v' w' hown hgrow _
  obtain ⟨ad', cap', rfl⟩ := own_form hown
  have hl : (xs ++ [z]).length = xs.length + 1 := by simp
  have ho' : OwnI base w' ad' cap' (xs ++ [z]) := by
    unfold OwnI
    rw [hl, intCells_append]
    exact hown
  have := hK ad' cap' w' ho' (grown_frm _ hgrow (own_head h))
  rwa [hl] at this
/-- A number is written over. -/
theorem OwnI.stored {base cap g : Nat} {w : World} {xs : List Int} (h : OwnI base w (some ⟨g, 0, none⟩) cap xs) (j : Nat) (z : Int) : OwnI base (w.setCell ⟨g, j, none⟩ (.int .i64 z)) (some ⟨g, 0, none⟩) cap (xs.set j z) := by
  have h2 := (World.ownsRow.stored h j (.int .i64 z)).1
  unfold OwnI
  rw [List.length_set, show intCells (xs.set j z) = (intCells xs).set j (.int .i64 z) by simp [intCells, List.map_set]]
  exact h2
theorem OwnI.get {base cap g : Nat} {w : World} {xs : List Int} (h : OwnI base w (some ⟨g, 0, none⟩) cap xs) (j : Nat) (hj : j < xs.length) : w.cell? ⟨g, j, none⟩ = some (.int .i64 xs[j]) ∧ w.frozen? ⟨g, j, none⟩ = false :=
  ⟨(World.ownsRow.cellAt h j (by omega)).trans (intCells_get xs j hj), World.ownsRow.frozenAt h j⟩
theorem OwnI.there {base cap : Nat} {w : World} {a : Option Addr} {xs : List Int} (h : OwnI base w a cap xs) (hx : xs ≠ []) : ∃ g, a = some ⟨g, 0, none⟩ := by
  rcases h.block with ⟨_, _, h0⟩ | ⟨g, rfl, _⟩
  · exact absurd h0 hx
  · exact ⟨g, rfl⟩
theorem OwnV.there {base cap : Nat} {w : World} {a : Option Addr} {xs : List V} (h : OwnV base w a cap xs) (hx : xs ≠ []) : ∃ g, a = some ⟨g, 0, none⟩ := by
  rcases h.block with ⟨_, _, h0⟩ | ⟨g, rfl, _⟩
  · exact absurd h0 hx
  · exact ⟨g, rfl⟩
theorem OwnV.get {base cap g : Nat} {w : World} {xs : List V} (h : OwnV base w (some ⟨g, 0, none⟩) cap xs) (j : Nat) (hj : j < xs.length) : ValAt w g (j * 4) xs[j] := by
  rcases h.isV with h0 | ⟨b, off, e, hv⟩
  · subst h0; simp at hj
  · injection e with e
    injection e with e1 e2 _
    subst e1 e2
    have := hv j hj
    rwa [Nat.zero_add] at this
end Go.Proofs.Ytgpnfmkonhaccaa
