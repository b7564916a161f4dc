/- A map from values to their places. -/
import Derived.Test.YtgpnfmkonhaccaaWmath
import Derived.Test.YtgpnfmkonhaccaaValA
import Derived.Maps.OwnSet
import Derived.Maps.OwnOps
namespace Go.Proofs.Ytgpnfmkonhaccaa
open Go.Conc Go.RowKit Go.ChangeMaps
set_option linter.unusedVariables false
set_option linter.unusedSimpArgs false

def keyV (v : V) : Value := .agg #[.int .i64 v.k, .int .i64 v.i, .bool v.b, .string v.s]
theorem und_tmapvi : Try.prog.underlying 46 = some (.map 41 3) := by kernel_rfl
theorem run_equal_val (o p : V) (w : World) : (Op.equal 41 (keyV o) (keyV p)).run Try.prog w = .ok (decide (o = p)) w := by
  unfold keyV
  rw [← sameV_dec]
  unfold sameV
  change (Op.equalIn 10000 41 (.agg #[.int .i64 o.k, .int .i64 o.i, .bool o.b, .string o.s]) (.agg #[.int .i64 p.k, .int .i64 p.i, .bool p.b, .string p.s])).run Try.prog w = _
  cases h1 : (o.k == p.k) <;> cases h2 : (o.i == p.i) <;> cases h3 : (o.b == p.b) <;> cases h4 : (o.s.toList == p.s.toList) <;> go_simp
theorem run_check_val (e : Bool) (v : V) (w : World) : (Instr.checkKey e 10000 41 (keyV v)).run Try.prog w = .ok () w := by
  kernel_rfl
/-- Where a key stands. -/
theorem run_find_val (v : V) (w : World) : ∀ (es : List MapEntry) (ws : List V) (i : Nat), es.map (·.key) = ws.map keyV →
    (Instr.findAsking 41 (keyV v) es i).run Try.prog w = .ok ((es[placeV v ws]?).map fun e => (i + placeV v ws, e.val)) w
  | [], [], i, _ => rfl
  | [], _ :: _, i, h => by simp at h
  | _ :: _, [], i, h => by simp at h
  | e :: es, x :: ws, i, h => by
    simp only [List.map_cons, List.cons.injEq] at h
    unfold Instr.findAsking
    rw [h.1]
    simp only [Sem.run_bind, run_equal_val, Result.andThen_ok]
    rw [placeV]
    by_cases c : x = v
    · subst c
      simp [Sem.run_pure]
    · rw [if_neg c, decide_eq_false (fun e => c e.symm)]
      simp only [Bool.false_eq_true, if_false]
      rw [run_find_val v w es ws (i + 1) h.2]
      rw [List.getElem?_cons_succ, show i + 1 + placeV v ws = i + (placeV v ws + 1) by omega]
theorem findNow_val (v : V) : ∀ (es : List MapEntry) (i : Nat) (d : TypeDesc), Try.prog.underlying 41 = some d → (∀ r, Instr.findNow d (keyV v) es i = some r → r = none ∧ es = [])
  | [], i, d, hd, r, h => by
    simp [Instr.findNow] at h
    exact ⟨h.symm, rfl⟩
  | e :: es, i, d, hd, r, h => by
    rw [Try.underlying41] at hd
    injection hd with hd
    subst hd
    simp [Instr.findNow, Instr.sameNow, keyV] at h
theorem run_findKey_val (v : V) (w : World) (es : List MapEntry) (ws : List V) (h : es.map (·.key) = ws.map keyV) :
    (Instr.findKey 41 (keyV v) es).run Try.prog w = .ok ((es[placeV v ws]?).map fun e => (placeV v ws, e.val)) w := by
  unfold Instr.findKey
  simp only [Sem.run_bind, run_underlying Try.underlying41, Result.andThen_ok]
  cases hn : Instr.findNow _ (keyV v) es 0 with
  | none => simpa using run_find_val v w es ws 0 h
  | some r =>
    obtain ⟨rfl, rfl⟩ := findNow_val v es 0 _ Try.underlying41 r hn
    rfl

/-- A block that is a map from the words to their places. -/
def MapOf (w : World) (b : Nat) (ws : List V) : Prop :=
  ∃ (es : Array MapEntry) (clock : Nat), w.heap[b]? = some (.map es clock) ∧ es.toList.map (·.key) = ws.map keyV ∧ ∀ j, j < ws.length → (es.toList[j]?).map (·.val) = some (.int .i64 j)
theorem MapOf.new (w : World) : MapOf (w.alloc (.map #[] 0)) w.heap.size [] :=
  ⟨#[], 0, heap_alloc_new w _, rfl, fun j hj => by simp at hj⟩
theorem MapOf.same {w w' : World} {b : Nat} {ws : List V} (h : MapOf w b ws) (hb : w'.heap[b]? = w.heap[b]?) : MapOf w' b ws := by
  obtain ⟨es, clock, h1, h2⟩ := h
  exact ⟨es, clock, hb.trans h1, h2⟩
theorem MapOf.lt {w : World} {b : Nat} {ws : List V} (h : MapOf w b ws) : b < w.heap.size := by
  obtain ⟨es, clock, h1, _⟩ := h
  exact (Array.getElem?_eq_some_iff.1 h1).1
theorem MapOf.below {w w' : World} {b : Nat} {ws : List V} (h : MapOf w b ws) (hb : Below w.heap.size w w') : MapOf w' b ws := h.same (hb.block b h.lt)
/-- A word's place is looked up. -/
theorem MapOf.look {w : World} {b : Nat} {ws : List V} (h : MapOf w b ws) (v : V) :
    (Instr.lookup 46 (.map (some b)) (keyV v) true).run Try.prog w = .ok (.tuple #[.int .i64 (if placeV v ws < ws.length then (placeV v ws : Int) else 0), .bool (decide (placeV v ws < ws.length))]) w := by
  obtain ⟨es, clock, h1, h2, h3⟩ := h
  have hl : es.toList.length = ws.length := by simpa using congrArg List.length h2
  unfold Instr.lookup
  simp only [Sem.run_bind, run_underlying und_tmapvi, Result.andThen_ok, MapKept.run_getObj_map h1, Sem.run_pure, run_check_val, run_findKey_val v w es.toList ws h2]
  by_cases c : placeV v ws < ws.length
  · have h4 := h3 _ c
    rw [List.getElem?_eq_getElem (by omega)] at h4 ⊢
    simp only [Option.map_some, Option.some.injEq] at h4 ⊢
    simp only [Sem.run_pure, Result.andThen_ok, h4, if_pos c, decide_eq_true c, if_true]
    rfl
  · have hz : ∀ u : World, (zeroValue 3).run Try.prog u = .ok (.int .i64 0) u := fun u => by kernel_rfl
    rw [List.getElem?_eq_none (by omega)]
    simp only [Option.map_none, Sem.run_pure, Sem.run_bind, hz, Result.andThen_ok, if_neg c, decide_eq_false c, if_true]
/-- A word more. -/
theorem MapOf.put {w : World} {b : Nat} {ws : List V} (h : MapOf w b ws) (v : V) (hv : placeV v ws = ws.length) :
    ∃ w', (Instr.mapUpdate 46 (.map (some b)) (keyV v) (.int .i64 ws.length)).run Try.prog w = .ok () w' ∧ MapOf w' b (ws ++ [v]) ∧ Frm (fun k => k = b) w w' := by
  obtain ⟨es, clock, h1, h2, h3⟩ := h
  have hl : es.toList.length = ws.length := by simpa using congrArg List.length h2
  refine ⟨setBlock w b (.map (es.push ⟨keyV v, .int .i64 ws.length, clock⟩) (clock + 1)), ?_, ⟨_, _, heap_setBlock_same h1 _, by simp [h2], fun j hj => ?_⟩, ?_⟩
  · unfold Instr.mapUpdate
    simp only [Sem.run_bind, run_underlying und_tmapvi, Result.andThen_ok, MapKept.run_getObj_map h1, run_check_val, run_findKey_val v w es.toList ws h2]
    rw [hv, List.getElem?_eq_none (by omega)]
    simp only [Option.map_none, MapKept.run_setObj_map _ h1]
    rfl
  · rw [Array.toList_push]
    by_cases c : j < ws.length
    · rw [List.getElem?_append_left (by omega)]
      exact h3 j c
    · obtain rfl : j = ws.length := by simp at hj; omega
      rw [← hl, List.getElem?_append_right (Nat.le_refl _)]
      simp [hl]
  · exact ⟨rfl, rfl, rfl, by simp [setBlock], fun k _ hk => heap_setBlock_other h1 _ hk⟩
section
variable {w : World} {b : Nat} {ws : List V} {ops : Array Oper} {rest : List Oper} {op : Oper} {A : Act} {Q : Exit → Act → World → Prop}
theorem wp_look (h : MapOf w b ws) (hgd : op.guard = none) (m x : Operand) (ho : op.op = Op.lookup 46 m x true) (v : V) (hm : A.eval m = .map (some b)) (hx : A.eval x = .agg #[.int .i64 v.k, .int .i64 v.i, .bool v.b, .string v.s])
    (hK : wpList Try.prog ops Q rest (A.put op.dst (.tuple #[.int .i64 (if placeV v ws < ws.length then (placeV v ws : Int) else 0), .bool (decide (placeV v ws < ws.length))])) w) : wpList Try.prog ops Q (op :: rest) A w := by
  refine wpList_plain hgd fun K' hK' => ?_
  have hrun := h.look v
  unfold keyV at hrun
  unfold Oper.wp
  simp [execOp, ho, hm, hx, hrun, Result.andThen]
  exact hK' _ _ hK
theorem wp_look_yes (h : MapOf w b ws) (hgd : op.guard = none) (m x : Operand) (ho : op.op = Op.lookup 46 m x true) (v : V) {k : Nat} (hk : k = placeV v ws) (hl : placeV v ws < ws.length) (hm : A.eval m = .map (some b)) (hx : A.eval x = .agg #[.int .i64 v.k, .int .i64 v.i, .bool v.b, .string v.s])
    (hK : wpList Try.prog ops Q rest (A.put op.dst (.tuple #[.int .i64 k, .bool true])) w) : wpList Try.prog ops Q (op :: rest) A w :=
  wp_look h hgd m x ho v hm hx (by rw [if_pos hl, decide_eq_true hl, ← hk]; exact hK)
theorem wp_look_no (h : MapOf w b ws) (hgd : op.guard = none) (m x : Operand) (ho : op.op = Op.lookup 46 m x true) (v : V) (hl : ¬ placeV v ws < ws.length) (hm : A.eval m = .map (some b)) (hx : A.eval x = .agg #[.int .i64 v.k, .int .i64 v.i, .bool v.b, .string v.s])
    (hK : wpList Try.prog ops Q rest (A.put op.dst (.tuple #[.int .i64 0, .bool false])) w) : wpList Try.prog ops Q (op :: rest) A w :=
  wp_look h hgd m x ho v hm hx (by rw [if_neg hl, decide_eq_false hl]; exact hK)
theorem wp_putmap (h : MapOf w b ws) (hgd : op.guard = none) (m x y : Operand) (ho : op.op = Op.mapUpdate 46 m x y) (v : V) (hv : placeV v ws = ws.length) (hm : A.eval m = .map (some b)) (hx : A.eval x = .agg #[.int .i64 v.k, .int .i64 v.i, .bool v.b, .string v.s]) (hy : A.eval y = .int .i64 ws.length)
    (hK : ∀ w', MapOf w' b (ws ++ [v]) → Frm (fun k => k = b) w w' → wpList Try.prog ops Q rest (A.put op.dst undef) w') : wpList Try.prog ops Q (op :: rest) A w := by
  refine wpList_plain hgd fun K' hK' => ?_
  obtain ⟨w', hrun, r1, r2⟩ := h.put v hv
  unfold keyV at hrun
  unfold Oper.wp
  simp [execOp, ho, hm, hx, hy, hrun, Result.andThen]
  exact hK' _ _ (hK w' r1 r2)
end
end Go.Proofs.Ytgpnfmkonhaccaa
