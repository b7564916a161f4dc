/- slices.Delete of one column out of a list of one's own. -/
import Derived.Test.YthfakpekdjmpjaaColL
import Derived.Laws.CopyRow
import Derived.Deep.RegionLaw
namespace Go.Proofs.Ythfakpekdjmpjaa
open Go.Conc Go.RowKit
set_option linter.unusedVariables false
set_option linter.unusedSimpArgs false

section
variable {P : Program}
theorem run_clear_sized (w : World) (dT ty elem : TypeId) (i : TypeInfo) (z : Value) (g o n c : Nat) (cur : Array Value) (t : TypeId)
    (hu : P.underlying dT = some (.slice elem)) (hi : P.info? elem = some i) (hz : i.zero = some z) (hn : 0 < n)
    (hg : w.heap[g]? = some (.cells cur t (0, 0))) (hfit : o + n * z.cells.size ≤ cur.size) (h1 : ∀ v ∈ (Builtin.zeroCells z.cells n).toList, v.oneCell' = true) :
    (Builtin.clear_ #[dT] ty #[.slice (some ⟨g, o, none⟩) n c]).run P w =
      .ok (.tuple #[]) (w.setRow g (cur.toList.take o ++ (Builtin.zeroCells z.cells n).toList ++ cur.toList.drop (o + n * z.cells.size)).toArray) := by
  have hst := run_storeCells_at P g o t (Builtin.zeroCells z.cells n).toList 0 cur w hg (by simpa [size_zeroCells] using hfit) h1
  have hne : n ≠ 0 := by omega
  obtain ⟨m, rfl⟩ : ∃ m, n = m + 1 := ⟨n - 1, by omega⟩
  simp only [Array.length_toList, size_zeroCells, Nat.add_zero] at hst
  simp [Builtin.clear_, run_underlying hu, zeroValue, typeInfo, hi, hz, hst]

theorem wp_append_eq (w : World) {o : Oper} {a : Act} {K : Act → World → Prop} {Q : Exit → Act → World → Prop} (d s : Operand) (t t' : TypeId)
    (ho : o.op = .call { callee := .builtin .append, args := #[d, s], argTypes := #[t, t'] }) (v u : Value) (hd : a.eval d = v) (hs : a.eval s = u) {v' : Value} {w' : World}
    (hr : (Builtin.append_ #[t, t'] o.type #[v, u]).run P w = .ok v' w') (h : K (a.put o.dst v') w') : o.wp P a w K Q := by
  unfold Oper.wp execOp
  simp only [ho, resolve, invoke, builtin, Sem.run_bind, Sem.run_pure, Result.andThen_ok, List.map_toArray, List.map_cons, List.map_nil, hd, hs, hr]
  exact h
theorem step_append_eq {ops : Array Oper} {o : Oper} {a : Act} {w : World} {K : Act → World → Prop} {Q : Exit → Act → World → Prop} {E : Prop}
    (hg : o.guard = none) (d x : Operand) (dT sT : TypeId) (hop : o.op = Op.call { callee := Callee.builtin Builtin.append, args := #[d, x], argTypes := #[dT, sT] })
    (v u : Value) (hd : a.eval d = v) (hx : a.eval x = u) {v' : Value} {w' : World} (hr : (Builtin.append_ #[dT, sT] o.type #[v, u]).run P w = .ok v' w') (hK : K (a.put o.dst v') w') :
    if Region.wanted o (yielded ops a.tmps) = true then Oper.wp P o a w K Q else E := by
  have hw : Region.wanted o (yielded ops a.tmps) = true := by simp [Region.wanted, hg]
  rw [if_pos hw]
  exact wp_append_eq w d x dT sT hop v u hd hx hr hK
theorem wpList_clear_eq (w : World) {ops : Array Oper} {rest : List Oper} {o : Oper} {a : Act} {Q : Exit → Act → World → Prop} (hgd : o.guard = none) (d : Operand) (t : TypeId)
    (ho : o.op = .call { callee := .builtin .clear, args := #[d], argTypes := #[t] }) (v : Value) (hd : a.eval d = v) {v' : Value} {w' : World}
    (hr : (Builtin.clear_ #[t] o.type #[v]).run P w = .ok v' w') (h : wpList P ops Q rest (a.put o.dst v') w') : wpList P ops Q (o :: rest) a w := by
  refine wpList_plain hgd fun _ hK => ?_
  unfold Oper.wp execOp
  simp only [ho, resolve, invoke, builtin, Sem.run_bind, Sem.run_pure, Result.andThen_ok, List.map_toArray, List.map_cons, List.map_nil, hd, hr]
  exact hK _ _ h

end

def delCo (os : List Co) (i : Nat) : List Co := os.take i ++ os.drop (i + 1)
theorem delCo_erase (os : List Co) (i : Nat) : delCo os i = os.eraseIdx i := (List.eraseIdx_eq_take_drop_succ os i).symm
theorem delCo_length (os : List Co) (i : Nat) (hi : i < os.length) : (delCo os i).length = os.length - 1 := by simp [delCo]; omega
theorem rowCo_take : ∀ (os : List Co) (n : Nat), rowCo (os.take n) = (rowCo os).take (n * 3)
  | [], n => by simp [rowCo]
  | o :: os, 0 => by simp [rowCo]
  | o :: os, n + 1 => by
    rw [List.take_succ_cons, rowCo_cons, rowCo_cons, rowCo_take os n, show (n + 1) * 3 = o.cells.length + n * 3 by rw [co_cells_length]; omega, List.take_length_add_append]
theorem rowCo_drop : ∀ (os : List Co) (n : Nat), rowCo (os.drop n) = (rowCo os).drop (n * 3)
  | [], n => by simp [rowCo]
  | o :: os, 0 => by simp
  | o :: os, n + 1 => by
    rw [List.drop_succ_cons, rowCo_cons, rowCo_drop os n, show (n + 1) * 3 = o.cells.length + n * 3 by rw [co_cells_length]; omega, List.drop_length_add_append]
theorem rowCo_delCo (os : List Co) (i : Nat) : rowCo (delCo os i) = (rowCo os).take (i * 3) ++ (rowCo os).drop ((i + 1) * 3) := by
  rw [delCo, rowCo_append, rowCo_take, rowCo_drop]
theorem gone_list {α : Type} (L R D z : List α) (k n : Nat) (hR : L.take (n * 3) = R) (hRl : R.length = n * 3) (hk : k < n) (hD : D = R.drop ((k + 1) * 3)) (hz : z.length = 3) (hL : n * 3 ≤ L.length) :
    let X := L.take (k * 3) ++ D ++ L.drop (k * 3 + D.length)
    (X.take ((n - 1) * 3) ++ z ++ X.drop ((n - 1) * 3 + 3)).take ((n - 1) * 3) = R.take (k * 3) ++ R.drop ((k + 1) * 3) ∧ (X.take ((n - 1) * 3) ++ z ++ X.drop ((n - 1) * 3 + 3)).length = L.length := by
  intro X
  have hDl : D.length = (n - 1) * 3 - k * 3 := by rw [hD]; simp; omega
  have hXl : X.length = L.length := by simp [X]; omega
  have h0 : L.take (k * 3) = R.take (k * 3) := by rw [← hR, List.take_take, Nat.min_eq_left (by omega)]
  have h1 : X.take ((n - 1) * 3) = R.take (k * 3) ++ D := by
    have e : (R.take (k * 3) ++ D).length = (n - 1) * 3 := by simp; omega
    simp only [X]
    rw [h0, ← e]; exact List.take_left
  have e : (X.take ((n - 1) * 3)).length = (n - 1) * 3 := by simp; omega
  constructor
  · rw [List.append_assoc, List.take_append_of_le_length (by omega), List.take_of_length_le (by omega), h1, hD]
  · simp; omega

/-- What deleting answers, as an ending. -/
def DelPost (w : World) (base : Nat) (a : Option Addr) (cap : Nat) (os : List Co) (e : Ending) (w' : World) : Prop := e = .returned (.slice a os.length cap) ∧ OwnCo base w' a cap os ∧ Frm (At a) w w'
set_option maxHeartbeats 1000000 in
set_option maxRecDepth 100000 in
theorem delcols_any (w : World) (base : Nat) (a : Option Addr) (cap : Nat) (os : List Co) (i : Nat) (h : OwnCo base w a cap os) (hi : i < os.length) (hl : os.length ≤ 4096) :
    Calls Try.prog 59 #[.slice a os.length cap, .int .i64 i, .int .i64 ((i : Int) + 1)] w (DelPost w base a cap (delCo os i)) := by
  rcases h.2 with ⟨_, h0⟩ | ⟨g, cap2, cur, he, hb, hgg, hnc, hcm, hcs, htake⟩
  · omega
  injection he with he1 he2 he3
  subst he1 he3
  have hcm' := hcm
  unfold maxLen at hcm
  have hlr := rowCo_length os
  have hdl : (rowCo (os.drop (i + 1))).length = (os.length - (i + 1)) * 3 := by rw [rowCo_length]; simp
  have hz3 : zCoVal.cells.size = 3 := rfl
  have hadd : ∀ b o j, (⟨b, o, none⟩ : Addr).add j = ⟨b, o + j, none⟩ := fun b o j => by unfold Addr.add; split <;> simp_all
  have hglt : g < w.heap.size := (Array.getElem?_eq_some_iff.1 hgg).1
  obtain ⟨i0, hi0, hz0, hz1, hz2⟩ := info_parts infoCo
  have hrd : ∀ j u, (rowCo (os.drop (i + 1)))[j]? = some u → w.drew.cell? ((⟨g, (i + 1) * 3, none⟩ : Addr).add j) = some u := fun j u hu => by
    rw [hadd]
    show w.cell? _ = _
    rw [cell_of_row w g _ _ _ _ hgg, ← Array.getElem?_toList]
    rw [rowCo_drop, ← htake, List.getElem?_drop, List.getElem?_take] at hu
    split at hu
    · exact hu
    · simp at hu
  obtain ⟨X1, hX1⟩ : ∃ X1, X1 = (cur.toList.take (i * 3) ++ rowCo (os.drop (i + 1)) ++ cur.toList.drop (i * 3 + (rowCo (os.drop (i + 1))).length)).toArray := ⟨_, rfl⟩
  obtain ⟨W1, hW1⟩ : ∃ W1, W1 = w.drew.setRow g X1 := ⟨_, rfl⟩
  have hap : ∀ (a : Addr) (m c : Nat), m = os.length - (i + 1) → (0 < m → a = ⟨g, (i + 1) * 3, none⟩) → ∀ ty, (Builtin.append_ #[22, 22] ty #[.slice (some ⟨g, 0, none⟩) i cap, .slice (some a) m c]).run Try.prog w.drew = .ok (.slice (some ⟨g, 0, none⟩) (os.length - 1) cap) W1 := fun a m c hm ha ty => by
    subst hm
    have := run_append_room (P := Try.prog) w.drew 22 ty 49 i0 Try.underlying22 hi0 g i cap cur hgg a (os.length - (i + 1)) c (rowCo (os.drop (i + 1))) (by rw [hz1]; exact hdl)
      (fun j u hu => by
        have hj : j < (rowCo (os.drop (i + 1))).length := (List.getElem?_eq_some_iff.1 hu).1
        rw [ha (by omega)]
        exact hrd j u hu)
      (rowCo_cells _) (by omega) (by rw [hz1]; omega)
    rw [hz1, ← hX1, ← hW1, show i + (os.length - (i + 1)) = os.length - 1 from by omega] at this
    exact this
  have hg1 : W1.heap[g]? = some (.cells X1 49 (0, 0)) := by rw [hW1]; exact setRow_heap w.drew g cur X1 49 _ hgg
  have hs1 : X1.size = cap * 3 := by rw [hX1]; simp; omega
  obtain ⟨Z, hZ⟩ : ∃ Z, Z = (Builtin.zeroCells zCoVal.cells 1).toList := ⟨_, rfl⟩
  have hZ3 : Z.length = 3 := by rw [hZ, Array.length_toList, size_zeroCells]; rfl
  have hZ1 : ∀ v ∈ Z, v.oneCell' = true := by
    have : (Builtin.zeroCells zCoVal.cells 1).toList = rowCo [zeroCo] := by simp [Builtin.zeroCells, zCoVal, Value.cells, rowCo, Co.cells]; rfl
    rw [hZ, this]
    exact rowCo_cells _
  obtain ⟨X2, hX2⟩ : ∃ X2, X2 = (X1.toList.take ((os.length - 1) * 3) ++ Z ++ X1.toList.drop ((os.length - 1) * 3 + 3)).toArray := ⟨_, rfl⟩
  obtain ⟨W2, hW2⟩ : ∃ W2, W2 = W1.setRow g X2 := ⟨_, rfl⟩
  have hcl : ∀ ty c, (Builtin.clear_ #[22] ty #[.slice (some ⟨g, (os.length - 1) * 3, none⟩) 1 c]).run Try.prog W1 = .ok (.tuple #[]) W2 := fun ty c => by
    have := run_clear_sized (P := Try.prog) W1 22 ty 49 i0 zCoVal g ((os.length - 1) * 3) 1 c X1 49 Try.underlying22 hi0 hz0 (by omega) hg1 (by rw [hz3]; omega) (by rw [← hZ]; exact hZ1)
    rw [← hZ, hz3, Nat.one_mul, ← hX2, ← hW2] at this
    exact this
  have hfin : X2.toList.take ((os.length - 1) * 3) = rowCo (delCo os i) ∧ X2.size = cap * 3 := by
    have := gone_list cur.toList (rowCo os) (rowCo (os.drop (i + 1))) Z i os.length htake hlr hi (rowCo_drop os (i + 1)) hZ3 (by have e := Array.length_toList (xs := cur); omega)
    rw [rowCo_delCo, hX2, hX1, ← Array.length_toList]
    exact ⟨this.1, this.2.trans (by rw [Array.length_toList]; exact hcs)⟩
  have e1 : (delCo os i).length = os.length - 1 := delCo_length os i hi
  have hres : DelPost w base (some ⟨g, 0, none⟩) cap (delCo os i) (.returned (.slice (some ⟨g, 0, none⟩) (os.length - 1) cap)) W2 := by
    refine ⟨by rw [e1], ⟨rowCo_length _, .inr ⟨g, cap, X2, by rw [e1], hb, by rw [hW2]; exact setRow_heap W1 g X1 X2 49 _ hg1, by rw [e1]; omega, hcm', hfin.2, by rw [e1]; exact hfin.1⟩⟩, ⟨?_, ?_, ?_, ?_, fun k _ hk => ?_⟩⟩
    · rw [hW2, hW1]; rfl
    · rw [hW2, hW1]; rfl
    · rw [hW2, hW1]; rfl
    · rw [hW2, hW1]; simp [World.setRow]
    · have hkg : k ≠ g := fun e => hk (by simp [At, e])
      rw [hW2, hW1, setRow_other _ g k X2 hkg, setRow_other _ g k X1 hkg]
      rfl
  have HRES := Lib.hid hres
  have HCL := Lib.hid hcl
  have HAP := Lib.hid hap
  clear hres hfin hX1 hX2 hg1 hs1 hgg htake hcs e1 hW1 hW2 hcl hap hrd h hdl hlr hZ hZ3 hZ1
  have hw1 : (i : Int) ≤ (os.length : Int) := by omega
  have hb2 : ¬ (cap = i) := by omega
  have hb3 : (i : Int) + 1 ≤ (os.length : Int) := by omega
  have hb4 : ¬ (cap = os.length - 1) := by omega
  have hb5 : os.length - (os.length - 1) = 1 := by omega
  have hb7 : ((i : Int) == (i : Int) + 1) = false := by simp; omega
  have hb8 : ((i : Int) + 1).toNat = i + 1 := by omega
  have hb9 : i ≤ cap := by omega
  have hb10 : (0 : Int) ≤ (i : Int) + 1 := by omega
  by_cases hc : cap = i + 1
  · subst hc
    have hb11 : (i : Int) ≤ (i : Int) + 1 := by omega
    go_enter Try.func59, Try.ntmps59
    go_wp2
    go_region_law (refine step_append_eq rfl _ _ 22 22 rfl _ _ (by simp [Act.eval, Act.put]) (by simp [Act.eval, Act.put]) (HAP.out ⟨g, 0, none⟩ 0 0 (by omega) (fun h => absurd h (by omega)) _) ?_)
    go_wp2_with (refine wpList_clear_eq _ rfl (.tmp 31) 22 rfl _ rfl (HCL.out _ _) ?_)
    go_ret
    exact HRES.out
  · go_enter Try.func59, Try.ntmps59
    go_wp2
    go_region_law (refine step_append_eq rfl _ _ 22 22 rfl _ _ (by simp [Act.eval, Act.put]) (by simp [Act.eval, Act.put]) (HAP.out ⟨g, (i + 1) * 3, none⟩ (os.length - (i + 1)) (cap - (i + 1)) rfl (fun _ => rfl) _) ?_)
    go_wp2_with (refine wpList_clear_eq _ rfl (.tmp 31) 22 rfl _ rfl (HCL.out _ _) ?_)
    go_ret
    exact HRES.out
end Go.Proofs.Ythfakpekdjmpjaa
