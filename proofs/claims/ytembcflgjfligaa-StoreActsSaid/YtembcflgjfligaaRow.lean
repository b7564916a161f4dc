/- append, copy, clear on a row of the store's objects (three cells each), as equations of their runs. -/
import Derived.Test.YtembcflgjfligaaFind
import Derived.Laws.CopyRow
import Derived.Deep.RegionLaw
namespace Go.Proofs.Ytembcflgjfligaa
open Go.Conc Go.RowKit

section
variable {P : Program}
theorem run_copy_sized (w : World) (dT sT ty elem : TypeId) (size : Nat) (g o dLen dCap : Nat) (a : Addr) (sLen sCap : Nat) (cur : Array Value) (t : TypeId) (cs : List Value)
    (hu : P.underlying dT = some (.slice elem)) (hs : (P.info? elem).map (·.size) = some size)
    (hg : w.heap[g]? = some (.cells cur t (0, 0))) (hn : cs.length = Nat.min sLen dLen * size)
    (hsrc : ∀ j v, cs[j]? = some v → w.cell? (a.add j) = some v) (hfit : o + cs.length ≤ cur.size) (h1 : ∀ v ∈ cs, v.oneCell' = true) :
    (Builtin.copy_ #[dT, sT] ty #[.slice (some ⟨g, o, none⟩) dLen dCap, .slice (some a) sLen sCap]).run P w =
      .ok (goInt (Nat.min sLen dLen)) (w.setRow g (cur.toList.take o ++ cs ++ cur.toList.drop (o + cs.length)).toArray) := by
  have hl := run_loadCells_list (P := P) w a cs hsrc
  have hst := run_storeCells_at P g o t cs 0 cur w hg (by simpa using hfit) h1
  cases hq : P.info? elem with
  | none => simp [hq] at hs
  | some i =>
    have hi : i.size = size := by simpa [hq] using hs
    simp [Builtin.copy_, run_underlying hu, Builtin.lenOf, Builtin.firstCells, sizeOf, typeInfo, hq, hi, ← hn, hl, hst]

theorem run_clear_sized (w : World) (dT ty elem : TypeId) (i : TypeInfo) (z : Value) (g o n c : Nat) (cur : Array Value) (t : TypeId)
    (hu : P.underlying dT = some (.slice elem)) (hi : P.info? elem = some i) (hz : i.zero = some z) (hn : 0 < n)
    (hg : w.heap[g]? = some (.cells cur t (0, 0))) (hfit : o + n * z.cells.size ≤ cur.size) (h1 : ∀ v ∈ (Builtin.zeroCells z.cells n).toList, v.oneCell' = true) :
    (Builtin.clear_ #[dT] ty #[.slice (some ⟨g, o, none⟩) n c]).run P w =
      .ok (.tuple #[]) (w.setRow g (cur.toList.take o ++ (Builtin.zeroCells z.cells n).toList ++ cur.toList.drop (o + n * z.cells.size)).toArray) := by
  have hst := run_storeCells_at P g o t (Builtin.zeroCells z.cells n).toList 0 cur w hg (by simpa [size_zeroCells] using hfit) h1
  have hne : n ≠ 0 := by omega
  obtain ⟨m, rfl⟩ : ∃ m, n = m + 1 := ⟨n - 1, by omega⟩
  simp only [Array.length_toList, size_zeroCells, Nat.add_zero] at hst
  simp [Builtin.clear_, run_underlying hu, zeroValue, typeInfo, hi, hz, hst]

theorem wp_copy_eq (w : World) {o : Oper} {a : Act} {K : Act → World → Prop} {Q : Exit → Act → World → Prop} (d s : Operand) (t t' : TypeId)
    (ho : o.op = .call { callee := .builtin .copy, args := #[d, s], argTypes := #[t, t'] }) (v u : Value) (hd : a.eval d = v) (hs : a.eval s = u) {v' : Value} {w' : World}
    (hr : (Builtin.copy_ #[t, t'] o.type #[v, u]).run P w = .ok v' w') (h : K (a.put o.dst v') w') : o.wp P a w K Q := by
  unfold Oper.wp execOp
  simp only [ho, resolve, invoke, builtin, Sem.run_bind, Sem.run_pure, Result.andThen_ok, List.map_toArray, List.map_cons, List.map_nil, hd, hs, hr]
  exact h
theorem wpList_copy_eq (w : World) {ops : Array Oper} {rest : List Oper} {o : Oper} {a : Act} {Q : Exit → Act → World → Prop} (hgd : o.guard = none) (d s : Operand) (t t' : TypeId)
    (ho : o.op = .call { callee := .builtin .copy, args := #[d, s], argTypes := #[t, t'] }) (v u : Value) (hd : a.eval d = v) (hs : a.eval s = u) {v' : Value} {w' : World}
    (hr : (Builtin.copy_ #[t, t'] o.type #[v, u]).run P w = .ok v' w') (h : wpList P ops Q rest (a.put o.dst v') w') : wpList P ops Q (o :: rest) a w :=
  wpList_plain hgd fun _ hK => wp_copy_eq w d s t t' ho v u hd hs hr (hK _ _ h)
theorem step_copy_eq {ops : Array Oper} {o : Oper} {a : Act} {w : World} {K : Act → World → Prop} {Q : Exit → Act → World → Prop} {E : Prop}
    (hg : o.guard = none) (d x : Operand) (dT sT : TypeId) (hop : o.op = Op.call { callee := Callee.builtin Builtin.copy, args := #[d, x], argTypes := #[dT, sT] })
    (v u : Value) (hd : a.eval d = v) (hx : a.eval x = u) {v' : Value} {w' : World} (hr : (Builtin.copy_ #[dT, sT] o.type #[v, u]).run P w = .ok v' w') (hK : K (a.put o.dst v') w') :
    if Region.wanted o (yielded ops a.tmps) = true then Oper.wp P o a w K Q else E := by
  have hw : Region.wanted o (yielded ops a.tmps) = true := by simp [Region.wanted, hg]
  rw [if_pos hw]
  exact wp_copy_eq w d x dT sT hop v u hd hx hr hK

theorem wp_append_eq (w : World) {o : Oper} {a : Act} {K : Act → World → Prop} {Q : Exit → Act → World → Prop} (d s : Operand) (t t' : TypeId)
    (ho : o.op = .call { callee := .builtin .append, args := #[d, s], argTypes := #[t, t'] }) (v u : Value) (hd : a.eval d = v) (hs : a.eval s = u) {v' : Value} {w' : World}
    (hr : (Builtin.append_ #[t, t'] o.type #[v, u]).run P w = .ok v' w') (h : K (a.put o.dst v') w') : o.wp P a w K Q := by
  unfold Oper.wp execOp
  simp only [ho, resolve, invoke, builtin, Sem.run_bind, Sem.run_pure, Result.andThen_ok, List.map_toArray, List.map_cons, List.map_nil, hd, hs, hr]
  exact h
theorem wpList_append_eq (w : World) {ops : Array Oper} {rest : List Oper} {o : Oper} {a : Act} {Q : Exit → Act → World → Prop} (hgd : o.guard = none) (d s : Operand) (t t' : TypeId)
    (ho : o.op = .call { callee := .builtin .append, args := #[d, s], argTypes := #[t, t'] }) (v u : Value) (hd : a.eval d = v) (hs : a.eval s = u) {v' : Value} {w' : World}
    (hr : (Builtin.append_ #[t, t'] o.type #[v, u]).run P w = .ok v' w') (h : wpList P ops Q rest (a.put o.dst v') w') : wpList P ops Q (o :: rest) a w :=
  wpList_plain hgd fun _ hK => wp_append_eq w d s t t' ho v u hd hs hr (hK _ _ h)
theorem step_append_eq {ops : Array Oper} {o : Oper} {a : Act} {w : World} {K : Act → World → Prop} {Q : Exit → Act → World → Prop} {E : Prop}
    (hg : o.guard = none) (d x : Operand) (dT sT : TypeId) (hop : o.op = Op.call { callee := Callee.builtin Builtin.append, args := #[d, x], argTypes := #[dT, sT] })
    (v u : Value) (hd : a.eval d = v) (hx : a.eval x = u) {v' : Value} {w' : World} (hr : (Builtin.append_ #[dT, sT] o.type #[v, u]).run P w = .ok v' w') (hK : K (a.put o.dst v') w') :
    if Region.wanted o (yielded ops a.tmps) = true then Oper.wp P o a w K Q else E := by
  have hw : Region.wanted o (yielded ops a.tmps) = true := by simp [Region.wanted, hg]
  rw [if_pos hw]
  exact wp_append_eq w d x dT sT hop v u hd hx hr hK
end

section
variable {P : Program}
theorem wpList_clear_eq (w : World) {ops : Array Oper} {rest : List Oper} {o : Oper} {a : Act} {Q : Exit → Act → World → Prop} (hgd : o.guard = none) (d : Operand) (t : TypeId)
    (ho : o.op = .call { callee := .builtin .clear, args := #[d], argTypes := #[t] }) (v : Value) (hd : a.eval d = v) {v' : Value} {w' : World}
    (hr : (Builtin.clear_ #[t] o.type #[v]).run P w = .ok v' w') (h : wpList P ops Q rest (a.put o.dst v') w') : wpList P ops Q (o :: rest) a w := by
  refine wpList_plain hgd fun _ hK => ?_
  unfold Oper.wp execOp
  simp only [ho, resolve, invoke, builtin, Sem.run_bind, Sem.run_pure, Result.andThen_ok, List.map_toArray, List.map_cons, List.map_nil, hd, hr]
  exact hK _ _ h
end

theorem sizeObj : (Try.prog.info? 56).map (·.size) = some 3 := by
  obtain ⟨i0, hi, _, hz1, _⟩ := info_parts infoObj
  rw [hi]; simp [hz1]

/-- The row that v holds behind a step is the old one, or a new one. -/
def NewRow (w : World) (v v' : Value) : Prop := ∀ k, v'.ownBlock = some k → v.ownBlock = some k ∨ w.heap.size ≤ k

/-- One object more at a row's end. -/
theorem run_append_one (w : World) (v : Value) (os : List Ob) (p : Ob) (hown : w.ownsRow 0 56 3 v os.length (rowOf os)) (hl : os.length ≤ 4096)
    (a : Addr) (c : Nat) (hnews : ∀ j u, p.cells[j]? = some u → w.cell? (a.add j) = some u) :
    ∃ v' w', (∀ ty, (Builtin.append_ #[38, 38] ty #[v, .slice (some a) 1 c]).run Try.prog w = .ok v' w') ∧ w'.ownsRow 0 56 3 v' (os ++ [p]).length (rowOf (os ++ [p])) ∧ w.grownBy w' v.ownBlock ∧ NewRow w v v' := by
  obtain ⟨i0, hi, hz0, hz1, hz2⟩ := info_parts infoObj
  have hpl : p.cells.length = 1 * i0.size := by rw [hz1]; rfl
  have e1 : (os ++ [p]).length = os.length + 1 := by simp
  have hp1 : ∀ u ∈ p.cells, u.oneCell' = true := fun u hu => rowOf_one' [p] u (by rwa [rowOf_one])
  have hlr := rowOf_length os
  have grown : ∀ (old : Nat), old < os.length + 1 →
      (w.drew.alloc (.cells ((rowOf os).toArray ++ p.cells.toArray ++ Builtin.zeroCells zObj.cells (grownCap w (os.length + 1) old 56 - (os.length + 1))) 56)).ownsRow 0 56 3
        (.slice (some ⟨w.heap.size, 0, none⟩) (os.length + 1) (grownCap w (os.length + 1) old 56)) (os ++ [p]).length (rowOf (os ++ [p])) := by
    intro old ho
    have hge := grownCap_ge w (os.length + 1) old 56
    have hcm : grownCap w (os.length + 1) old 56 ≤ maxLen := grownCap_le_maxLen w (os.length + 1) old 56 (by simp only [maxLen]; omega)
    refine ⟨rowOf_length _, .inr ⟨w.heap.size, _, _, by rw [e1], Nat.zero_le _, heap_alloc_new w.drew _, by rw [e1]; exact hge, hcm, ?_, ?_⟩⟩
    · simp only [Array.size_append, List.size_toArray, size_zeroCells, hlr]
      have hz3 : zObj.cells.size = 3 := rfl
      have hp3 : p.cells.length = 3 := rfl
      rw [hz3, hp3]
      omega
    · rw [rowOf_append, rowOf_one]
      simp only [Array.toList_append, List.append_assoc, e1]
      have : (rowOf os ++ (p.cells ++ (Builtin.zeroCells zObj.cells (grownCap w (os.length + 1) old 56 - (os.length + 1))).toList)) = (rowOf os ++ p.cells) ++ (Builtin.zeroCells zObj.cells (grownCap w (os.length + 1) old 56 - (os.length + 1))).toList := by simp
      rw [this]
      have : (rowOf os ++ p.cells).length = (os.length + 1) * 3 := by
        have : p.cells.length = 3 := rfl
        simp; omega
      rw [← this]
      exact List.take_left
  rcases hown.2 with ⟨rfl, h0⟩ | ⟨g, cap, cur, rfl, hb, hgg, hnc, hcm, hcs, htake⟩
  · have e0 : os = [] := List.eq_nil_of_length_eq_zero h0
    subst e0
    have gr := grown 0 (by simp)
    refine ⟨_, _, fun ty => run_append_nil w 38 ty 56 i0 zObj Try.underlying38 hi hz0 a 1 c p.cells hpl hnews (by omega) (by omega) (by rw [hz2]; omega), by simpa [rowOf] using gr, ⟨rfl, rfl, rfl, by simp, fun k hk _ => Below.heap_alloc w.drew _ k hk⟩, ?_⟩
    intro k hk
    simp [Value.ownBlock] at hk
    exact .inr (by omega)
  · by_cases hroom : os.length + 1 ≤ cap
    · have hfit : os.length * i0.size + p.cells.length ≤ cur.size := by rw [hcs, hz1]; have : p.cells.length = 3 := rfl; omega
      refine ⟨_, _, fun ty => run_append_room w 38 ty 56 i0 Try.underlying38 hi g os.length cap cur hgg a 1 c p.cells hpl hnews hp1 hroom hfit, ⟨rowOf_length _, .inr ⟨g, cap, _, by rw [e1], hb, setRow_heap w g cur _ 56 _ hgg, by omega, hcm, ?_, ?_⟩⟩, ⟨rfl, rfl, rfl, by simp, fun k _ hk => setRow_other w g k _ (fun e => hk (by simp [Value.ownBlock, e]))⟩, fun k hk => .inl (by simpa [Value.ownBlock] using hk)⟩
      · simp only [List.size_toArray, List.length_append, List.length_take, List.length_drop, Array.length_toList]
        omega
      · rw [hz1, htake, rowOf_append, rowOf_one]
        simp only [List.append_assoc, e1]
        have : rowOf os ++ (p.cells ++ cur.toList.drop (os.length * 3 + p.cells.length)) = (rowOf os ++ p.cells) ++ cur.toList.drop (os.length * 3 + p.cells.length) := by simp
        rw [this]
        have : (rowOf os ++ p.cells).length = (os.length + 1) * 3 := by
          have : p.cells.length = 3 := rfl
          simp; omega
        rw [← this]
        exact List.take_left
    · have hr := fun ty => run_append_grow (P := Try.prog) w 38 ty 56 i0 zObj Try.underlying38 hi hz0 ⟨g, 0, none⟩ os.length cap (rowOf os) (by rw [hz1]; exact hlr) (hown.cells (g := g) rfl) a 1 c p.cells hpl hnews (by omega) (by omega) (growslice_fits (by omega) (by rw [hz2]; omega))
      refine ⟨_, _, hr, grown cap (by omega), ⟨rfl, rfl, rfl, by simp, fun k hk _ => Below.heap_alloc w.drew _ k hk⟩, ?_⟩
      intro k hk
      simp [Value.ownBlock] at hk
      exact .inr (by omega)
end Go.Proofs.Ytembcflgjfligaa
