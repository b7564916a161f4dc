/- One element more at the end of a row of one's own; the row behind is the old one or a new one. -/
import Derived.Test.YtcobadgpelhcoaaDoorFrm
import Derived.Laws.CopyRow
import Derived.Laws.AppendOwn
import Derived.Deep.RegionLaw
namespace Go.Proofs.YtcobadgpelhcoaaDoor
open Go.Conc Go.RowKit
set_option linter.unusedVariables false

section
variable {P : Program}
theorem wp_append_eq (w : World) {o : Oper} {a : Act} {K : Act → World → Prop} {Q : Exit → Act → World → Prop} (d s : Operand) (t t' : TypeId)
    (ho : o.op = .call { callee := .builtin .append, args := #[d, s], argTypes := #[t, t'] }) (v u : Value) (hd : a.eval d = v) (hs : a.eval s = u) {v' : Value} {w' : World}
    (hr : (Builtin.append_ #[t, t'] o.type #[v, u]).run P w = .ok v' w') (h : K (a.put o.dst v') w') : o.wp P a w K Q := by
  unfold Oper.wp execOp
  simp only [ho, resolve, invoke, builtin, Sem.run_bind, Sem.run_pure, Result.andThen_ok, List.map_toArray, List.map_cons, List.map_nil, hd, hs, hr]
  exact h
theorem wpList_append_eq (w : World) {ops : Array Oper} {rest : List Oper} {o : Oper} {a : Act} {Q : Exit → Act → World → Prop} (hgd : o.guard = none) (d s : Operand) (t t' : TypeId)
    (ho : o.op = .call { callee := .builtin .append, args := #[d, s], argTypes := #[t, t'] }) (v u : Value) (hd : a.eval d = v) (hs : a.eval s = u) {v' : Value} {w' : World}
    (hr : (Builtin.append_ #[t, t'] o.type #[v, u]).run P w = .ok v' w') (h : wpList P ops Q rest (a.put o.dst v') w') : wpList P ops Q (o :: rest) a w :=
  wpList_plain hgd fun _ hK => wp_append_eq w d s t t' ho v u hd hs hr (hK _ _ h)
end

/-- The row that v holds behind a step is the old one, or a new one. -/
def NewRow (w : World) (v v' : Value) : Prop := ∀ k, v'.ownBlock = some k → v.ownBlock = some k ∨ w.heap.size ≤ k
/-- A value of JSON that is nothing. -/
def zJson : Value := .agg #[.int .i64 0, .bool false, .int .i64 0, .string ByteArray.empty, .slice none 0 0, .slice none 0 0]

theorem infoJson : (Tryd.prog.info? 25).map (fun i => (i.zero, i.size, i.bytes)) = some (some zJson, 6, 88) := by kernel_rfl
/-- One element more at a row's end. -/
theorem run_append_json (w : World) (base : Nat) (hbase : base ≤ w.heap.size) (v : Value) (n : Nat) (xs p : List Value) (hown : w.ownsRow base 25 6 v n xs) (hxl : xs.length = n * 6) (hl : n ≤ 200000) (hp : p.length = 6) (hp1 : ∀ u ∈ p, u.oneCell' = true)
    (a : Addr) (c : Nat) (hnews : ∀ j u, p[j]? = some u → w.cell? (a.add j) = some u) :
    ∃ v' w', (∀ ty, (Builtin.append_ #[22, 22] ty #[v, .slice (some a) 1 c]).run Tryd.prog w = .ok v' w') ∧ w'.ownsRow base 25 6 v' (n + 1) (xs ++ p) ∧ w.grownBy w' v.ownBlock ∧ NewRow w v v' := by
  obtain ⟨i0, hi, hz0, hz1, hz2⟩ := info_parts infoJson
  have hpl : p.length = 1 * i0.size := by rw [hz1, hp]
  have hpx : (xs ++ p).length = (n + 1) * 6 := by rw [List.length_append, hxl, hp]; omega
  have grown : ∀ (old : Nat), old < n + 1 →
      (w.drew.alloc (.cells (xs.toArray ++ p.toArray ++ Builtin.zeroCells (zJson).cells (grownCap w (n + 1) old 25 - (n + 1))) 25)).ownsRow base 25 6
        (.slice (some ⟨w.heap.size, 0, none⟩) (n + 1) (grownCap w (n + 1) old 25)) (n + 1) (xs ++ p) := by
    intro old ho
    have hge := grownCap_ge w (n + 1) old 25
    have hcm : grownCap w (n + 1) old 25 ≤ maxLen := grownCap_le_maxLen w (n + 1) old 25 (by simp only [maxLen]; omega)
    refine ⟨hpx, .inr ⟨w.heap.size, _, _, rfl, hbase, heap_alloc_new w.drew _, hge, hcm, ?_, ?_⟩⟩
    · simp only [Array.size_append, List.size_toArray, size_zeroCells, hxl, hp]
      have hz3 : (zJson).cells.size = 6 := rfl
      rw [hz3]
      omega
    · simp only [Array.toList_append]
      rw [show (xs ++ p ++ (Builtin.zeroCells (zJson).cells (grownCap w (n + 1) old 25 - (n + 1))).toList) = (xs ++ p) ++ (Builtin.zeroCells (zJson).cells (grownCap w (n + 1) old 25 - (n + 1))).toList from rfl, ← hpx]
      exact List.take_left
  rcases hown.2 with ⟨rfl, h0⟩ | ⟨g, cap, cur, rfl, hb, hgg, hnc, hcm, hcs, htake⟩
  · have e0 : xs = [] := List.eq_nil_of_length_eq_zero (by omega)
    subst e0 h0
    have gr := grown 0 (by omega)
    refine ⟨_, _, fun ty => run_append_nil w 22 ty 25 i0 (zJson) Tryd.underlying22 hi hz0 a 1 c p hpl hnews (by omega) (by omega) (by rw [hz2]; omega), by simpa using gr, ⟨rfl, rfl, rfl, by simp, fun k hk _ => Below.heap_alloc w.drew _ k hk⟩, ?_⟩
    intro k hk
    simp [Value.ownBlock] at hk
    exact .inr (by omega)
  · by_cases hroom : n + 1 ≤ cap
    · have hfit : n * i0.size + p.length ≤ cur.size := by rw [hcs, hz1, hp]; omega
      have hlt : (cur.toList.take (n * 6) ++ p).length = (n + 1) * 6 := by rw [htake]; exact hpx
      refine ⟨_, _, fun ty => run_append_room w 22 ty 25 i0 Tryd.underlying22 hi g n cap cur hgg a 1 c p hpl hnews hp1 hroom hfit, ⟨hpx, .inr ⟨g, cap, _, rfl, hb, setRow_heap w g cur _ 25 _ hgg, by omega, hcm, ?_, ?_⟩⟩, ⟨rfl, rfl, rfl, by simp, fun k _ hk => setRow_other w g k _ (fun e => hk (by rw [e]; rfl))⟩, fun k hk => .inl hk⟩
      · simp only [List.size_toArray, List.length_append, List.length_take, List.length_drop, Array.length_toList]
        omega
      · rw [hz1, ← htake, List.append_assoc]
        rw [← List.append_assoc, ← hlt]
        exact List.take_left
    · have hr := fun ty => run_append_grow (P := Tryd.prog) w 22 ty 25 i0 (zJson) Tryd.underlying22 hi hz0 ⟨g, 0, none⟩ n cap xs (by rw [hz1]; exact hxl) (hown.cells (g := g) rfl) a 1 c p hpl hnews (by omega) (by omega) (growslice_fits (by omega) (by rw [hz2]; omega))
      refine ⟨_, _, hr, grown cap (by omega), ⟨rfl, rfl, rfl, by simp, fun k hk _ => Below.heap_alloc w.drew _ k hk⟩, ?_⟩
      intro k hk
      simp [Value.ownBlock] at hk
      exact .inr (by omega)

theorem infoStr : (Tryd.prog.info? 9).map (fun i => (i.zero, i.size, i.bytes)) = some (some (Value.string ByteArray.empty), 1, 16) := by kernel_rfl
/-- One element more at a row's end. -/
theorem run_append_str (w : World) (base : Nat) (hbase : base ≤ w.heap.size) (v : Value) (n : Nat) (xs p : List Value) (hown : w.ownsRow base 9 1 v n xs) (hxl : xs.length = n * 1) (hl : n ≤ 200000) (hp : p.length = 1) (hp1 : ∀ u ∈ p, u.oneCell' = true)
    (a : Addr) (c : Nat) (hnews : ∀ j u, p[j]? = some u → w.cell? (a.add j) = some u) :
    ∃ v' w', (∀ ty, (Builtin.append_ #[23, 23] ty #[v, .slice (some a) 1 c]).run Tryd.prog w = .ok v' w') ∧ w'.ownsRow base 9 1 v' (n + 1) (xs ++ p) ∧ w.grownBy w' v.ownBlock ∧ NewRow w v v' := by
  obtain ⟨i0, hi, hz0, hz1, hz2⟩ := info_parts infoStr
  have hpl : p.length = 1 * i0.size := by rw [hz1, hp]
  have hpx : (xs ++ p).length = (n + 1) * 1 := by rw [List.length_append, hxl, hp]; omega
  have grown : ∀ (old : Nat), old < n + 1 →
      (w.drew.alloc (.cells (xs.toArray ++ p.toArray ++ Builtin.zeroCells ((Value.string ByteArray.empty)).cells (grownCap w (n + 1) old 9 - (n + 1))) 9)).ownsRow base 9 1
        (.slice (some ⟨w.heap.size, 0, none⟩) (n + 1) (grownCap w (n + 1) old 9)) (n + 1) (xs ++ p) := by
    intro old ho
    have hge := grownCap_ge w (n + 1) old 9
    have hcm : grownCap w (n + 1) old 9 ≤ maxLen := grownCap_le_maxLen w (n + 1) old 9 (by simp only [maxLen]; omega)
    refine ⟨hpx, .inr ⟨w.heap.size, _, _, rfl, hbase, heap_alloc_new w.drew _, hge, hcm, ?_, ?_⟩⟩
    · simp only [Array.size_append, List.size_toArray, size_zeroCells, hxl, hp]
      have hz3 : ((Value.string ByteArray.empty)).cells.size = 1 := rfl
      rw [hz3]
      omega
    · simp only [Array.toList_append]
      rw [show (xs ++ p ++ (Builtin.zeroCells ((Value.string ByteArray.empty)).cells (grownCap w (n + 1) old 9 - (n + 1))).toList) = (xs ++ p) ++ (Builtin.zeroCells ((Value.string ByteArray.empty)).cells (grownCap w (n + 1) old 9 - (n + 1))).toList from rfl, ← hpx]
      exact List.take_left
  rcases hown.2 with ⟨rfl, h0⟩ | ⟨g, cap, cur, rfl, hb, hgg, hnc, hcm, hcs, htake⟩
  · have e0 : xs = [] := List.eq_nil_of_length_eq_zero (by omega)
    subst e0 h0
    have gr := grown 0 (by omega)
    refine ⟨_, _, fun ty => run_append_nil w 23 ty 9 i0 ((Value.string ByteArray.empty)) Tryd.underlying23 hi hz0 a 1 c p hpl hnews (by omega) (by omega) (by rw [hz2]; omega), by simpa using gr, ⟨rfl, rfl, rfl, by simp, fun k hk _ => Below.heap_alloc w.drew _ k hk⟩, ?_⟩
    intro k hk
    simp [Value.ownBlock] at hk
    exact .inr (by omega)
  · by_cases hroom : n + 1 ≤ cap
    · have hfit : n * i0.size + p.length ≤ cur.size := by rw [hcs, hz1, hp]; omega
      have hlt : (cur.toList.take (n * 1) ++ p).length = (n + 1) * 1 := by rw [htake]; exact hpx
      refine ⟨_, _, fun ty => run_append_room w 23 ty 9 i0 Tryd.underlying23 hi g n cap cur hgg a 1 c p hpl hnews hp1 hroom hfit, ⟨hpx, .inr ⟨g, cap, _, rfl, hb, setRow_heap w g cur _ 9 _ hgg, by omega, hcm, ?_, ?_⟩⟩, ⟨rfl, rfl, rfl, by simp, fun k _ hk => setRow_other w g k _ (fun e => hk (by rw [e]; rfl))⟩, fun k hk => .inl hk⟩
      · simp only [List.size_toArray, List.length_append, List.length_take, List.length_drop, Array.length_toList]
        omega
      · rw [hz1, ← htake, List.append_assoc]
        rw [← List.append_assoc, ← hlt]
        exact List.take_left
    · have hr := fun ty => run_append_grow (P := Tryd.prog) w 23 ty 9 i0 ((Value.string ByteArray.empty)) Tryd.underlying23 hi hz0 ⟨g, 0, none⟩ n cap xs (by rw [hz1]; exact hxl) (hown.cells (g := g) rfl) a 1 c p hpl hnews (by omega) (by omega) (growslice_fits (by omega) (by rw [hz2]; omega))
      refine ⟨_, _, hr, grown cap (by omega), ⟨rfl, rfl, rfl, by simp, fun k hk _ => Below.heap_alloc w.drew _ k hk⟩, ?_⟩
      intro k hk
      simp [Value.ownBlock] at hk
      exact .inr (by omega)

theorem step_append_json {ops : Array Oper} {o : Oper} {a : Act} {w : World} {K : Act → World → Prop} {Q : Exit → Act → World → Prop} {E : Prop}
    (hg : o.guard = none) (d x : Operand) (hop : o.op = Op.call { callee := Callee.builtin Builtin.append, args := #[d, x], argTypes := #[22, 22] })
    (base : Nat) (hbase : base ≤ w.heap.size) (v : Value) (n : Nat) (xs p : List Value) (ad : Addr) (c : Nat) (hd : a.eval d = v) (hx : a.eval x = .slice (some ad) 1 c)
    (hown : w.ownsRow base 25 6 v n xs) (hxl : xs.length = n * 6) (hl : n ≤ 200000) (hp : p.length = 6) (hp1 : ∀ u ∈ p, u.oneCell' = true) (hnews : ∀ j u, p[j]? = some u → w.cell? (ad.add j) = some u)
    (hK : ∀ v' w', w'.ownsRow base 25 6 v' (n + 1) (xs ++ p) → w.grownBy w' v.ownBlock → NewRow w v v' → K (a.put o.dst v') w') :
    if Region.wanted o (yielded ops a.tmps) = true then Oper.wp Tryd.prog o a w K Q else E := by
  have hw : Region.wanted o (yielded ops a.tmps) = true := by simp [Region.wanted, hg]
  rw [if_pos hw]
  obtain ⟨v', w', hr, ho, hgr, hn⟩ := run_append_json w base hbase v n xs p hown hxl hl hp hp1 ad c hnews
  exact wp_append_eq w d x 22 22 hop v _ hd hx (hr _) (hK v' w' ho hgr hn)

theorem step_append_str {ops : Array Oper} {o : Oper} {a : Act} {w : World} {K : Act → World → Prop} {Q : Exit → Act → World → Prop} {E : Prop}
    (hg : o.guard = none) (d x : Operand) (hop : o.op = Op.call { callee := Callee.builtin Builtin.append, args := #[d, x], argTypes := #[23, 23] })
    (base : Nat) (hbase : base ≤ w.heap.size) (v : Value) (n : Nat) (xs p : List Value) (ad : Addr) (c : Nat) (hd : a.eval d = v) (hx : a.eval x = .slice (some ad) 1 c)
    (hown : w.ownsRow base 9 1 v n xs) (hxl : xs.length = n * 1) (hl : n ≤ 200000) (hp : p.length = 1) (hp1 : ∀ u ∈ p, u.oneCell' = true) (hnews : ∀ j u, p[j]? = some u → w.cell? (ad.add j) = some u)
    (hK : ∀ v' w', w'.ownsRow base 9 1 v' (n + 1) (xs ++ p) → w.grownBy w' v.ownBlock → NewRow w v v' → K (a.put o.dst v') w') :
    if Region.wanted o (yielded ops a.tmps) = true then Oper.wp Tryd.prog o a w K Q else E := by
  have hw : Region.wanted o (yielded ops a.tmps) = true := by simp [Region.wanted, hg]
  rw [if_pos hw]
  obtain ⟨v', w', hr, ho, hgr, hn⟩ := run_append_str w base hbase v n xs p hown hxl hl hp hp1 ad c hnews
  exact wp_append_eq w d x 23 23 hop v _ hd hx (hr _) (hK v' w' ho hgr hn)
end Go.Proofs.YtcobadgpelhcoaaDoor
