/- A map from rows' parts to their places. The program's specs: Split. -/
import Derived.Test.YthfakpekdjmpjaaSpcL
import Derived.Maps.OwnSet
import Derived.Maps.OwnOps
import Derived.ChangeKeysEq
import Derived.Test.YthfakpekdjmpjaaRowL
import Derived.BigQuiet
namespace Go.Proofs.Ythfakpekdjmpjaa
open Go.Conc Go.RowKit Go.ChangeMaps
set_option linter.unusedVariables false
set_option linter.unusedSimpArgs false

def keyG (l : List V) : Value := .agg (partC l)
theorem und_tmappi : Try.prog.underlying 118 = some (.map 115 3) := by kernel_rfl
theorem und_tpart : Try.prog.underlying 115 = some (.array 4 57) := by kernel_rfl
theorem cells_tval : Try.prog.cellsOf 57 = 4 := by kernel_rfl
theorem run_eqin_val (o p : V) (w : World) : (Op.equalIn 9999 57 (.agg #[.int .i64 o.k, .int .i64 o.i, .bool o.b, .string o.s]) (.agg #[.int .i64 p.k, .int .i64 p.i, .bool p.b, .string p.s])).run Try.prog w = .ok (decide (o = p)) w := by
  rw [← sameV_dec]
  unfold sameV
  cases h1 : (o.k == p.k) <;> cases h2 : (o.i == p.i) <;> cases h3 : (o.b == p.b) <;> cases h4 : (o.s.toList == p.s.toList) <;> go_simp
theorem part_one (l : List V) (k : Nat) (hk : k < 4) (w : World) : (Go.part 57 (partC l) (k * 4)).run Try.prog w = .ok (.agg #[.int .i64 (l.getD k zeroV).k, .int .i64 (l.getD k zeroV).i, .bool (l.getD k zeroV).b, .string (l.getD k zeroV).s]) w := by
  rcases k with _ | _ | _ | _ | k
  · kernel_rfl
  · kernel_rfl
  · kernel_rfl
  · kernel_rfl
  · omega
theorem run_equal_part (a b : List V) (hl : a.length = b.length) (h4 : a.length ≤ 4) (w : World) : (Op.equal 115 (keyG a) (keyG b)).run Try.prog w = .ok (decide (a = b)) w := by
  have hi : ∃ i, Try.prog.info? 57 = some i := by
    cases h : Try.prog.info? 57 with
    | none => have := infoVal; rw [h] at this; cases this
    | some i => exact ⟨i, rfl⟩
  obtain ⟨i, hi⟩ := hi
  unfold keyG
  change (Op.equalIn 10000 115 (.agg (partC a)) (.agg (partC b))).run Try.prog w = _
  rw [run_equalIn_array (P := Try.prog) w 9999 (partC a) (partC b) und_tpart hi, cells_tval]
  have e0 := fun u => part_one a 0 (by omega) u
  have f0 := fun u => part_one b 0 (by omega) u
  have e1 := fun u => part_one a 1 (by omega) u
  have f1 := fun u => part_one b 1 (by omega) u
  have e2 := fun u => part_one a 2 (by omega) u
  have f2 := fun u => part_one b 2 (by omega) u
  have e3 := fun u => part_one a 3 (by omega) u
  have f3 := fun u => part_one b 3 (by omega) u
  have key : decide (a = b) = (decide (a.getD 0 zeroV = b.getD 0 zeroV) && (decide (a.getD 1 zeroV = b.getD 1 zeroV) && (decide (a.getD 2 zeroV = b.getD 2 zeroV) && decide (a.getD 3 zeroV = b.getD 3 zeroV)))) := by
    rw [Bool.eq_iff_iff]
    simp only [Bool.and_eq_true, decide_eq_true_eq]
    constructor
    · intro e; rw [e]; exact ⟨rfl, rfl, rfl, rfl⟩
    · intro h; exact getD_inj hl h4 h
  rw [key]
  change (Op.eqItems 9999 57 4 (partC a) (partC b) [0, 1, 2, 3]).run Try.prog w = _
  cases h0 : decide (a.getD 0 zeroV = b.getD 0 zeroV)
  · simp only [Op.eqItems, Sem.run_bind, e0, f0, run_eqin_val, h0, Result.andThen_ok, Bool.not_false, if_true, Sem.run_pure, Bool.false_and]
  cases h1 : decide (a.getD 1 zeroV = b.getD 1 zeroV)
  · simp only [Op.eqItems, Sem.run_bind, e0, f0, e1, f1, run_eqin_val, h0, h1, Result.andThen_ok, Bool.not_false, Bool.not_true, if_true, if_false, Bool.false_eq_true, Sem.run_pure, Bool.false_and, Bool.true_and]
  cases h2 : decide (a.getD 2 zeroV = b.getD 2 zeroV)
  · simp only [Op.eqItems, Sem.run_bind, e0, f0, e1, f1, e2, f2, run_eqin_val, h0, h1, h2, Result.andThen_ok, Bool.not_false, Bool.not_true, if_true, if_false, Bool.false_eq_true, Sem.run_pure, Bool.false_and, Bool.true_and]
  cases h3 : decide (a.getD 3 zeroV = b.getD 3 zeroV) <;> simp only [Op.eqItems, Sem.run_bind, e0, f0, e1, f1, e2, f2, e3, f3, run_eqin_val, h0, h1, h2, h3, Result.andThen_ok, Bool.not_false, Bool.not_true, if_true, if_false, Bool.false_eq_true, Sem.run_pure, Bool.false_and, Bool.true_and]
theorem run_check_part (e : Bool) (l : List V) (w : World) : (Instr.checkKey e 10000 115 (keyG l)).run Try.prog w = .ok () w := by
  kernel_rfl
/-- Where a key stands. -/
theorem run_find_part (v : List V) (hv : v.length ≤ 4) (w : World) : ∀ (es : List MapEntry) (ws : List (List V)) (i : Nat), (∀ x ∈ ws, x.length = v.length) → es.map (·.key) = ws.map keyG →
    (Instr.findAsking 115 (keyG v) es i).run Try.prog w = .ok ((es[placeG v ws]?).map fun e => (i + placeG v ws, e.val)) w
  | [], [], i, _, _ => rfl
  | [], _ :: _, i, _, h => by simp at h
  | _ :: _, [], i, _, h => by simp at h
  | e :: es, x :: ws, i, hw, h => by
    simp only [List.map_cons, List.cons.injEq] at h
    unfold Instr.findAsking
    rw [h.1]
    simp only [Sem.run_bind, run_equal_part v x (hw x (List.mem_cons_self ..)).symm hv, Result.andThen_ok]
    rw [placeG]
    by_cases c : x = v
    · subst c
      simp [Sem.run_pure]
    · rw [if_neg c, decide_eq_false (fun e => c e.symm)]
      simp only [Bool.false_eq_true, if_false]
      rw [run_find_part v hv w es ws (i + 1) (fun y hy => hw y (List.mem_cons_of_mem _ hy)) h.2]
      rw [List.getElem?_cons_succ, show i + 1 + placeG v ws = i + (placeG v ws + 1) by omega]
theorem findNow_part (v : List V) : ∀ (es : List MapEntry) (i : Nat) (d : TypeDesc), Try.prog.underlying 115 = some d → (∀ r, Instr.findNow d (keyG v) es i = some r → r = none ∧ es = [])
  | [], i, d, hd, r, h => by
    simp [Instr.findNow] at h
    exact ⟨h.symm, rfl⟩
  | e :: es, i, d, hd, r, h => by
    rw [Try.underlying115] at hd
    injection hd with hd
    subst hd
    simp [Instr.findNow, Instr.sameNow, keyG] at h
theorem run_findKey_part (v : List V) (hv : v.length ≤ 4) (w : World) (es : List MapEntry) (ws : List (List V)) (hw : ∀ x ∈ ws, x.length = v.length) (h : es.map (·.key) = ws.map keyG) :
    (Instr.findKey 115 (keyG v) es).run Try.prog w = .ok ((es[placeG v ws]?).map fun e => (placeG v ws, e.val)) w := by
  unfold Instr.findKey
  simp only [Sem.run_bind, run_underlying Try.underlying115, Result.andThen_ok]
  cases hn : Instr.findNow _ (keyG v) es 0 with
  | none => simpa using run_find_part v hv w es ws 0 hw h
  | some r =>
    obtain ⟨rfl, rfl⟩ := findNow_part v es 0 _ Try.underlying115 r hn
    rfl

/-- A block that is a map from the words to their places. -/
def MapG (w : World) (b m : Nat) (ws : List (List V)) : Prop :=
  (m ≤ 4 ∧ ∀ x ∈ ws, x.length = m) ∧ ∃ (es : Array MapEntry) (clock : Nat), w.heap[b]? = some (.map es clock) ∧ es.toList.map (·.key) = ws.map keyG ∧ ∀ j, j < ws.length → (es.toList[j]?).map (·.val) = some (.int .i64 j)
theorem MapG.new (w : World) (m : Nat) (hm : m ≤ 4) : MapG (w.alloc (.map #[] 0)) w.heap.size m [] :=
  ⟨⟨hm, fun x hx => by simp at hx⟩, #[], 0, heap_alloc_new w _, rfl, fun j hj => by simp at hj⟩
theorem MapG.same {w w' : World} {b m : Nat} {ws : List (List V)} (h : MapG w b m ws) (hb : w'.heap[b]? = w.heap[b]?) : MapG w' b m ws := by
  obtain ⟨h0, es, clock, h1, h2⟩ := h
  exact ⟨h0, es, clock, hb.trans h1, h2⟩
theorem MapG.lt {w : World} {b m : Nat} {ws : List (List V)} (h : MapG w b m ws) : b < w.heap.size := by
  obtain ⟨_, es, clock, h1, _⟩ := h
  exact (Array.getElem?_eq_some_iff.1 h1).1
theorem MapG.below {w w' : World} {b m : Nat} {ws : List (List V)} (h : MapG w b m ws) (hb : Below w.heap.size w w') : MapG w' b m ws := h.same (hb.block b h.lt)
/-- A word's place is looked up. -/
theorem MapG.look {w : World} {b m : Nat} {ws : List (List V)} (h : MapG w b m ws) (v : List V) (hvm : v.length = m) :
    (Instr.lookup 118 (.map (some b)) (keyG v) true).run Try.prog w = .ok (.tuple #[.int .i64 (if placeG v ws < ws.length then (placeG v ws : Int) else 0), .bool (decide (placeG v ws < ws.length))]) w := by
  obtain ⟨⟨h4m, hwm⟩, es, clock, h1, h2, h3⟩ := h
  subst hvm
  have hl : es.toList.length = ws.length := by simpa using congrArg List.length h2
  unfold Instr.lookup
  simp only [Sem.run_bind, run_underlying und_tmappi, Result.andThen_ok, MapKept.run_getObj_map h1, Sem.run_pure, run_check_part, run_findKey_part v h4m w es.toList ws hwm h2]
  by_cases c : placeG v ws < ws.length
  · have h4 := h3 _ c
    rw [List.getElem?_eq_getElem (by omega)] at h4 ⊢
    simp only [Option.map_some, Option.some.injEq] at h4 ⊢
    simp only [Sem.run_pure, Result.andThen_ok, h4, if_pos c, decide_eq_true c, if_true]
    rfl
  · have hz : ∀ u : World, (zeroValue 3).run Try.prog u = .ok (.int .i64 0) u := fun u => by kernel_rfl
    rw [List.getElem?_eq_none (by omega)]
    simp only [Option.map_none, Sem.run_pure, Sem.run_bind, hz, Result.andThen_ok, if_neg c, decide_eq_false c, if_true]
/-- A word more. -/
theorem MapG.put {w : World} {b m : Nat} {ws : List (List V)} (h : MapG w b m ws) (v : List V) (hvm : v.length = m) (hv : placeG v ws = ws.length) :
    ∃ w', (Instr.mapUpdate 118 (.map (some b)) (keyG v) (.int .i64 ws.length)).run Try.prog w = .ok () w' ∧ MapG w' b m (ws ++ [v]) ∧ Frm (fun k => k = b) w w' := by
  obtain ⟨⟨h4m, hwm⟩, es, clock, h1, h2, h3⟩ := h
  subst hvm
  have hl : es.toList.length = ws.length := by simpa using congrArg List.length h2
  refine ⟨setBlock w b (.map (es.push ⟨keyG v, .int .i64 ws.length, clock⟩) (clock + 1)), ?_, ⟨⟨h4m, fun x hx => by
    rcases List.mem_append.1 hx with hx | hx
    · exact hwm x hx
    · rw [List.mem_singleton.1 hx]⟩, _, _, heap_setBlock_same h1 _, by simp [h2], fun j hj => ?_⟩, ?_⟩
  · unfold Instr.mapUpdate
    simp only [Sem.run_bind, run_underlying und_tmappi, Result.andThen_ok, MapKept.run_getObj_map h1, run_check_part, run_findKey_part v h4m w es.toList ws hwm h2]
    rw [hv, List.getElem?_eq_none (by omega)]
    simp only [Option.map_none, MapKept.run_setObj_map _ h1]
    rfl
  · rw [Array.toList_push]
    by_cases c : j < ws.length
    · rw [List.getElem?_append_left (by omega)]
      exact h3 j c
    · obtain rfl : j = ws.length := by simp at hj; omega
      rw [← hl, List.getElem?_append_right (Nat.le_refl _)]
      simp [hl]
  · exact ⟨rfl, rfl, rfl, by simp [setBlock], fun k _ hk => heap_setBlock_other h1 _ hk⟩
section
variable {w : World} {b m : Nat} {ws : List (List V)} {ops : Array Oper} {rest : List Oper} {op : Oper} {A : Act} {Q : Exit → Act → World → Prop}
theorem wp_lookG (h : MapG w b m ws) (hgd : op.guard = none) (mm x : Operand) (ho : op.op = Op.lookup 118 mm x true) (v : List V) (hvm : v.length = m) (hm : A.eval mm = .map (some b)) (hx : A.eval x = .agg (partC v))
    (hK : wpList Try.prog ops Q rest (A.put op.dst (.tuple #[.int .i64 (if placeG v ws < ws.length then (placeG v ws : Int) else 0), .bool (decide (placeG v ws < ws.length))])) w) : wpList Try.prog ops Q (op :: rest) A w := by
  refine wpList_plain hgd fun K' hK' => ?_
  have hrun := h.look v hvm
  unfold keyG at hrun
  unfold Oper.wp
  simp [execOp, ho, hm, hx, hrun, Result.andThen]
  exact hK' _ _ hK
theorem wp_lookG_yes (h : MapG w b m ws) (hgd : op.guard = none) (mm x : Operand) (ho : op.op = Op.lookup 118 mm x true) (v : List V) (hvm : v.length = m) {k : Nat} (hk : k = placeG v ws) (hl : placeG v ws < ws.length) (hm : A.eval mm = .map (some b)) (hx : A.eval x = .agg (partC v))
    (hK : wpList Try.prog ops Q rest (A.put op.dst (.tuple #[.int .i64 k, .bool true])) w) : wpList Try.prog ops Q (op :: rest) A w :=
  wp_lookG h hgd mm x ho v hvm hm hx (by rw [if_pos hl, decide_eq_true hl, ← hk]; exact hK)
theorem wp_lookG_no (h : MapG w b m ws) (hgd : op.guard = none) (mm x : Operand) (ho : op.op = Op.lookup 118 mm x true) (v : List V) (hvm : v.length = m) (hl : ¬ placeG v ws < ws.length) (hm : A.eval mm = .map (some b)) (hx : A.eval x = .agg (partC v))
    (hK : wpList Try.prog ops Q rest (A.put op.dst (.tuple #[.int .i64 0, .bool false])) w) : wpList Try.prog ops Q (op :: rest) A w :=
  wp_lookG h hgd mm x ho v hvm hm hx (by rw [if_neg hl, decide_eq_false hl]; exact hK)
theorem wp_putmapG (h : MapG w b m ws) (hgd : op.guard = none) (mm x y : Operand) (ho : op.op = Op.mapUpdate 118 mm x y) (v : List V) (hvm : v.length = m) (hv : placeG v ws = ws.length) (hm : A.eval mm = .map (some b)) (hx : A.eval x = .agg (partC v)) (hy : A.eval y = .int .i64 ws.length)
    (hK : ∀ w', MapG w' b m (ws ++ [v]) → Frm (fun k => k = b) w w' → wpList Try.prog ops Q rest (A.put op.dst undef) w') : wpList Try.prog ops Q (op :: rest) A w := by
  refine wpList_plain hgd fun K' hK' => ?_
  obtain ⟨w', hrun, r1, r2⟩ := h.put v hvm hv
  unfold keyG at hrun
  unfold Oper.wp
  simp [execOp, ho, hm, hx, hy, hrun, Result.andThen]
  exact hK' _ _ (hK w' r1 r2)
end
end Go.Proofs.Ythfakpekdjmpjaa

namespace Go.Proofs.Ythfakpekdjmpjaa
open Go.Conc Go.RowKit
set_option linter.unusedVariables false
set_option linter.unusedSimpArgs false

/-- What Split has behind n rows. -/
structure SAt (w v wr : World) (gm : Nat) (fa a : Option Addr) (fcap cap : Nat) (p : Sp) (s : Sc) (rs : List (List V)) (n : Nat) (ai : Option Addr) (ci : Nat) (ws : List (List V)) (at_ : List Int) : Prop where
  is : grpA ((rs.map (partL p.fs s.cs)).take n) = (ws, at_)
  nums : OwnI (gm + 1) wr ai ci at_
  map : MapG wr gm p.fs.length ws
  sp : SpSlot wr w.heap.size fa fcap p
  sc : ScSlot wr (w.heap.size + 1) a cap s
  low : w.heap.size + 1 < gm
  below : Below w.heap.size w wr
section
variable {w v wr w' : World} {gm n : Nat} {fa a ai ai' : Option Addr} {fcap cap ci ci' : Nat} {p : Sp} {s : Sc} {rs ws ws' : List (List V)} {at_ at' : List Int}
theorem SAt.more (h : SAt w v wr gm fa a fcap cap p s rs n ai ci ws at_) (hb : Below wr.heap.size wr w') : SAt w v w' gm fa a fcap cap p s rs n ai ci ws at_ :=
  ⟨h.is, h.nums.below hb, h.map.below hb, h.sp.below hb, h.sc.below hb, h.low, h.below.trans (hb.mono h.below.size)⟩
/-- A row more, of a part that was there. -/
theorem SAt.old {q : List V} (h : SAt w v wr gm fa a fcap cap p s rs n ai ci ws at_) (hn : n < rs.length) (hq : q = partL p.fs s.cs rs[n]) {k : Nat} (hk : k = placeG q ws) (hl : placeG q ws < ws.length)
    (ho : OwnI (gm + 1) w' ai' ci' (at_ ++ [(k : Int)])) (hf : Frm (At ai) wr w') : SAt w v w' gm fa a fcap cap p s rs (n + 1) ai' ci' ws (at_ ++ [(k : Int)]) := by
  have hlow := h.low
  refine ⟨?_, ho, h.map.same (hf.block _ h.map.lt fun hk => by have := (h.nums.at_ge hk).1; omega), ⟨by rw [hf.block _ h.sp.lt fun hk => by have := (h.nums.at_ge hk).1; omega]; exact h.sp.b⟩, h.sc.same (hf.block _ h.sc.lt fun hk => by have := (h.nums.at_ge hk).1; omega), hlow, Frm.to_below h.below hf (fun k hk => by have := (h.nums.at_ge hk).1; omega) (Nat.le_refl _)⟩
  rw [grpA_take _ n (by rw [List.length_map]; exact hn), h.is, List.getElem_map, ← hq]
  unfold grpStep
  simp only
  rw [if_neg (by omega), hk]
/-- The map gets a part more. -/
theorem SAt.put {ms : List (List V)} (h : SAt w v wr gm fa a fcap cap p s rs n ai ci ws at_) (hf : Frm (fun k => k = gm) wr w') : OwnI (gm + 1) w' ai ci at_ ∧ SpSlot w' w.heap.size fa fcap p ∧ ScSlot w' (w.heap.size + 1) a cap s ∧ Below w.heap.size w w' := by
  have hlow := h.low
  exact ⟨h.nums.frm hf fun k hk _ e => by have := (h.nums.at_ge hk).1; omega, ⟨by rw [hf.block _ h.sp.lt (by omega)]; exact h.sp.b⟩, h.sc.same (hf.block _ h.sc.lt (by omega)), Frm.to_below h.below hf (fun k hk => by omega) (Nat.le_refl _)⟩
/-- A row more, of a new part: u is the world in which the map has it. -/
theorem SAt.new {u : World} {q : List V} (h : SAt w v wr gm fa a fcap cap p s rs n ai ci ws at_) (hn : n < rs.length) (hq : q = partL p.fs s.cs rs[n]) (hl : placeG q ws = ws.length)
    (hm : MapG u gm p.fs.length (ws ++ [q])) (hf0 : Frm (fun k => k = gm) wr u) (ho : OwnI (gm + 1) w' ai' ci' (at_ ++ [(ws.length : Int)])) (hf : Frm (At ai) u w') : SAt w v w' gm fa a fcap cap p s rs (n + 1) ai' ci' (ws ++ [q]) (at_ ++ [(ws.length : Int)]) := by
  have hlow := h.low
  obtain ⟨h1, h2, h3, h4⟩ := h.put (ms := ws) hf0
  refine ⟨?_, ho, hm.same (hf.block _ hm.lt fun hk => by have := (h1.at_ge hk).1; omega), ⟨by rw [hf.block _ h2.lt fun hk => by have := (h1.at_ge hk).1; omega]; exact h2.b⟩, h3.same (hf.block _ h3.lt fun hk => by have := (h1.at_ge hk).1; omega), hlow, Frm.to_below h4 hf (fun k hk => by have := (h1.at_ge hk).1; omega) (Nat.le_refl _)⟩
  rw [grpA_take _ n (by rw [List.length_map]; exact hn), h.is, List.getElem_map, ← hq]
  unfold grpStep
  simp only
  rw [if_pos hl, hl]
end
theorem IsR.get {w : World} {ra : Option Addr} {rs : List (List V)} (h : IsR w ra rs) {n : Nat} (hn : n < rs.length) : ∃ b off ar cr, ra = some ⟨b, off, none⟩ ∧ w.cell? ⟨b, off + n, none⟩ = some (.slice ar rs[n].length cr) ∧ IsV w ar rs[n] := by
  rcases h with rfl | ⟨b, off, rfl, h⟩
  · simp at hn
  · obtain ⟨u, h1, ar, cr, rfl, h2, _⟩ := h n hn
    exact ⟨b, off, ar, cr, rfl, h1, h2⟩
theorem MapG.len {w : World} {b m : Nat} {ws : List (List V)} (h : MapG w b m ws) : ∃ es clock, w.heap[b]? = some (.map es clock) ∧ es.size = ws.length := by
  obtain ⟨_, es, clock, h1, h2, _⟩ := h
  exact ⟨es, clock, h1, by simpa using congrArg List.length h2⟩
set_option maxRecDepth 100000 in
set_option maxHeartbeats 4000000 in
theorem spsplit_any (w : World) (fa a ra : Option Addr) (fcap cap rcap : Nat) (p : Sp) (s : Sc) (rs : List (List V)) (hf : IsFd w fa p.fs) (hfc : p.fs.length ≤ fcap) (ha : IsCo w a s.cs) (hl : s.cs.length ≤ maxLen) (hcap : s.cs.length ≤ cap) (hr : IsR w ra rs) (hrl : rs.length ≤ 17592186044000)
    (hv : ∀ r ∈ rs, r.length ≤ 35184372088832 ∧ ∀ v ∈ r, (-9223372036854775808 ≤ v.i ∧ v.i < 9223372036854775808) ∧ v.s.size ≤ 140737488355328) :
    Calls Try.prog 41 #[.agg #[.int .i64 p.id, .slice fa p.fs.length fcap], .agg #[.int .i64 s.id, .slice a s.cs.length cap, .int .i64 s.next], .slice ra rs.length rcap] w fun e w' => ∃ ai ci, e = .returned (.tuple #[.slice ai (splitA p s rs).1.length ci, .int .i64 (splitA p s rs).2]) ∧ OwnI w.heap.size w' ai ci (splitA p s rs).1 ∧ Below w.heap.size w w' := by
  obtain ⟨u1, hu1⟩ : ∃ u, u = w.alloc (.cells #[.int .i64 p.id, .slice fa p.fs.length fcap] 65) := ⟨_, rfl⟩
  obtain ⟨u, hu⟩ : ∃ u, u = u1.alloc (.cells #[.int .i64 s.id, .slice a s.cs.length cap, .int .i64 s.next] 24) := ⟨_, rfl⟩
  have z1 : u1.heap.size = w.heap.size + 1 := by rw [hu1]; simp
  have z2 : u.heap.size = w.heap.size + 2 := by rw [hu]; simp [z1]
  have b1 : Below w.heap.size w u1 := by rw [hu1]; exact (Below.refl _ _).alloc (Nat.le_refl _) _
  have b2 : Below u1.heap.size u1 u := by rw [hu]; exact (Below.refl _ _).alloc (Nat.le_refl _) _
  have s1 : SpSlot u1 w.heap.size fa fcap p := by rw [hu1]; exact SpSlot.new w fa fcap p
  have hsc : ScSlot u (w.heap.size + 1) a cap s := by rw [hu, ← z1]; exact ScSlot.new u1 a cap s
  have hsp := s1.below b2
  have hbu := b1.trans (b2.mono b1.size)
  have hw : (w.alloc (.cells #[.int .i64 p.id, .slice fa p.fs.length fcap] 65)).alloc (.cells #[.int .i64 s.id, .slice a s.cs.length cap, .int .i64 s.next] 24) = u := by rw [hu, hu1]
  have HSP := Lib.hid hsp
  have HSC := Lib.hid hsc
  have HB := Lib.hid hbu
  have T0 := Lib.hid (spmay_any u fa a fcap cap p s (hf.below hbu) hfc (ha.below hbu) hl hcap)
  have HZ := Lib.hid z2
  clear hu hu1 z1 z2 b1 b2 s1 hsc hsp hbu
  by_cases hm : maySp p s = true
  · rw [hm] at T0
    have HM := Lib.hid hm
    have H4 := Lib.hid (maysp_most hm).1
    have HR := Lib.hid hr
    have HV := Lib.hid hv
    have HRL := Lib.hid hrl
    have T1 := Lib.hid (fun (x : World) (hx : Below w.heap.size w x) (ar : Option Addr) (cr : Nat) (r : List V) (h1 : IsV w ar r) h2 => spisrow_any x ar a cr cap r s (h1.below hx) (ha.below hx) hl h2)
    have T2 := Lib.hid (fun (x : World) (hx : Below w.heap.size w x) (ar : Option Addr) (cr : Nat) (r : List V) (h1 : IsV w ar r) (h2 : rowB13 s.cs r = true) h3 => partof_any x fa a ar fcap cap cr p s r (hf.below hx) (part_pre hm h2).1 (ha.below hx) hl (h1.below hx) (part_pre hm h2).2 h3)
    clear hm hf hfc ha hl hcap hr hrl hv
    obtain ⟨R, hR⟩ : ∃ R, R = splitA p s rs := ⟨_, rfl⟩
    rw [← hR]
    have HRR := Lib.hid hR
    clear hR
    have hmm := @run_makeMap Try.prog
    go_enter Try.func41, Try.ntmps41
    go_upto_region 1 with fail
    clear hw
    obtain ⟨c0, c1⟩ := HSP.out.at
    obtain ⟨b0, b1, b2⟩ := HSC.out.at
    go_upto_region 3 with (go_at_call 35; refine T0.out.mono ?_; rintro e w1 ⟨rfl, hb⟩; have HB1 := Lib.hid hb; clear hb c0 c1 b0 b1 b2 T0)
    go_upto_region 6 with fail
    have h0 : SAt w (w1.alloc (.map #[] 0)) (w1.alloc (.map #[] 0)) w1.heap.size fa a fcap cap p s rs 0 none 0 [] [] :=
      have hb0 := HB1.out.trans ((Below.refl _ _).alloc (Nat.le_refl _) (.map #[] 0) |>.mono HB1.out.size)
      ⟨rfl, OwnI.nil _ _, MapG.new w1 _ H4.out, HSP.out.below hb0, HSC.out.below hb0, by have := HZ.out; have := HB1.out.size; omega, HB.out.trans (hb0.mono HB.out.size)⟩
    have HC0 := Lib.hid h0
    have HBV := Lib.hid h0.below
    generalize w1.alloc (.map #[] 0) = v at *
    generalize w1.heap.size = gm at *
    clear h0 hmm
    go_loopw [8, 22] (fun tv iv wr => ∃ (n ci : Nat) (ai : Option Addr) (ws : List (List V)) (at_ : List Int), n ≤ rs.length ∧ tv = .slice ai at_.length ci ∧ iv = .int .i64 n ∧ Hid (∀ r ∈ rs.take n, rowB13 s.cs r = true) ∧ Hid (SAt w v wr gm fa a fcap cap p s rs n ai ci ws at_)) (fun _ iv _ => rs.length - (intOf iv).toNat)
    case atStart => exact ⟨0, 0, none, [], [], Nat.zero_le _, rfl, rfl, fun r hr => by simp at hr, HC0⟩
    case round =>
      obtain ⟨n, ci, ai, ws, at_, hle, rfl, rfl, HOK, HX⟩ := hrel
      by_cases cn : n < rs.length
      · obtain ⟨b, off, ar, cr, rfl, hcell, hiv⟩ := HR.out.get cn
        have hcell' := (World.cell?_of_block (HX.out.below.block b (World.block_lt_of_cell? w ⟨b, off + n, none⟩ hcell))).trans hcell
        obtain ⟨hrl, hrv⟩ := HV.out rs[n] (List.getElem_mem cn)
        have T3 := Lib.hid (fun (x : World) (hx : Below w.heap.size w x) => T1.out x hx ar cr rs[n] hiv hrl)
        have T4 := Lib.hid (fun (x : World) (hx : Below w.heap.size w x) (hb : rowB13 s.cs rs[n] = true) => T2.out x hx ar cr rs[n] hiv hb hrv)
        unfold partC at T4
        obtain ⟨q, hq⟩ : ∃ q, q = partL p.fs s.cs rs[n] := ⟨_, rfl⟩
        rw [← hq] at T4
        have HQL : Hid (q.length = p.fs.length) := by unfold Hid; rw [hq, partL_length]
        have HQ := Lib.hid hq
        obtain ⟨B, hB⟩ : ∃ B, B = rowB13 s.cs rs[n] := ⟨_, rfl⟩
        rw [← hB] at T3 T4
        have HOLD := Lib.hid (fun (wr' w' : World) (ai' : Option Addr) (ci' k : Nat) (h : SAt w v wr' gm fa a fcap cap p s rs n ai ci ws at_) hk hl ho hf => h.old (w' := w') (ai' := ai') (ci' := ci') (k := k) cn hq hk hl ho hf)
        have HNEW := Lib.hid (fun (wr' u w' : World) (ai' : Option Addr) (ci' : Nat) (h : SAt w v wr' gm fa a fcap cap p s rs n ai ci ws at_) hl hm hf0 ho hf => h.new (u := u) (w' := w') (ai' := ai') (ci' := ci') cn hq hl hm hf0 ho hf)
        have HBAD : Hid (B = false → R = ([], 1300)) := fun h => by rw [HRR.out]; exact splitA_bad cn (by rw [← hB]; exact h)
        have HMORE : Hid (B = true → ∀ r ∈ rs.take (n + 1), rowB13 s.cs r = true) := fun h r hr => by
          rw [← List.take_append_getElem cn] at hr
          rcases List.mem_append.1 hr with h1 | h1
          · exact HOK.out r h1
          · rw [List.mem_singleton.1 h1, ← hB]; exact h
        obtain ⟨w2, hw2⟩ : ∃ w2, w2 = wr.alloc (.cells #[.slice ar rs[n].length cr] 74) := ⟨_, rfl⟩
        have hb2 : Below wr.heap.size wr w2 := by rw [hw2]; exact (Below.refl _ _).alloc (Nat.le_refl _) _
        have HCR := Lib.hid (show w2.cell? ⟨wr.heap.size, 0, none⟩ = some (.slice ar rs[n].length cr) by rw [hw2]; exact cell_of_row _ _ _ _ _ _ (heap_alloc_new wr _))
        have HRB := Lib.hid (show wr.heap.size < w2.heap.size by rw [hw2]; simp)
        have HX2 := Lib.hid (HX.out.more hb2)
        have hni : (n : Int) < (rs.length : Int) := by omega
        have hnb : (n : Int) < 17592186044000 := by have := HRL.out; omega
        have HCN := Lib.hid cn
        have hatl : at_.length = n := by have h := (grouped ((rs.map (partL p.fs s.cs)).take n)).len; rw [HX.out.is, List.length_take, List.length_map] at h; simp only at h; omega
        have hib : Hid (at_.length ≤ 17592186044000) := by unfold Hid; have := HRL.out; omega
        clear hrl hrv hq hB hb2 hatl hcell hiv
        generalize rs[n] = r at *
        go_upto_region 8 with fail
        rw [← hw2]
        clear hw2 hcell'
        generalize wr.heap.size = gr at *
        have d0 := HCR.out
        obtain ⟨b0, b1, b2⟩ := HX2.out.sc.at
        cases B with
        | false =>
          obtain rfl : R = ([], 1300) := HBAD.out rfl
          clear HBAD HMORE
          go_wp2_with (go_at_call 80; refine (T3.out _ HX2.out.below).mono ?_; rintro e w3 ⟨rfl, hb⟩; have HX3 := Lib.hid (HX2.out.more hb); clear hb d0 b0 b1 b2)
          go_ret2
          exact ⟨none, 0, rfl, OwnI.nil _ _, HX3.out.below⟩
        | true =>
          have HMO := Lib.hid (HMORE.out rfl)
          clear HBAD HMORE
          go_upto_region 10 with (go_at_call 80; refine (T3.out _ HX2.out.below).mono ?_; rintro e w3 ⟨rfl, hb⟩; have HX3 := Lib.hid (HX2.out.more hb); have HCR3 := Lib.hid ((World.cell?_of_block (hb.block gr HRB.out)).trans HCR.out); clear hb d0 b0 b1 b2)
          have d0 := HCR3.out
          obtain ⟨b0, b1, b2⟩ := HX3.out.sc.at
          obtain ⟨c0, c1⟩ := HX3.out.sp.at
          go_upto_region 11 with (go_at_call 81; refine (T4.out _ HX3.out.below (by first | exact rfl | trivial)).mono ?_; rintro e w4 ⟨rfl, hb⟩; have HX4 := Lib.hid (HX3.out.more hb); clear hb d0 b0 b1 b2 c0 c1)
          change Code.wp _ _ _ _ (w4.alloc (.cells (partC q) 115))
          have HPS := Lib.hid (PSlot.new w4 q)
          have HX5 := Lib.hid (HX4.out.more ((Below.refl _ _).alloc (Nat.le_refl _) (.cells (partC q) 115)))
          generalize w4.alloc (.cells (partC q) 115) = w5 at *
          generalize w4.heap.size = gp at *
          clear T3 T4 HX HX2 HX3 HX4 HCR HCR3 HRB
          obtain ⟨z0, z1, z2, z3, z4, z5, z6, z7, z8, z9, z10, z11, z12, z13, z14, z15⟩ := HPS.out.all
          by_cases hpl : placeG q ws < ws.length
          · obtain ⟨k, hk⟩ : ∃ k, k = placeG q ws := ⟨_, rfl⟩
            have HK := Lib.hid hk
            have HKL := Lib.hid hpl
            clear hk hpl
            go_upto_region 12 with (at_lookup; refine wp_lookG_yes HX5.out.map rfl _ _ rfl q HQL.out HK.out HKL.out rfl rfl ?_)
            clear z0 z1 z2 z3 z4 z5 z6 z7 z8 z9 z10 z11 z12 z13 z14 z15
            go_upto_region 15 with fail
            go_wp2_with (at_builtin; refine wp_num HX5.out.nums (by have := HX5.out.map.lt; omega) hib.out rfl _ _ rfl (k : Int) rfl rfl ?_; intro ai' ci' u4 ho hf; have HFIN := Lib.hid (HOLD.out _ _ _ _ _ HX5.out HK.out HKL.out ho hf); clear ho hf)
            refine ⟨⟨n + 1, ci', ai', ws, at_ ++ [(k : Int)], HCN.out, by simp, by go_num, HMO, HFIN⟩, by have := HCN.out; simp [intOf]; omega⟩
          · have hpe : placeG q ws = ws.length := by have := placeG_le q ws; omega
            have HPE := Lib.hid hpe
            have HPL := Lib.hid hpl
            clear hpe hpl
            go_upto_region 12 with (at_lookup; refine wp_lookG_no HX5.out.map rfl _ _ rfl q HQL.out HPL.out rfl rfl ?_)
            obtain ⟨es, clock, hes, hsz⟩ := HX5.out.map.len
            have hlen : (Builtin.len_ #[118] 3 #[.map (some gm)]).run Try.prog w5 = .ok (.int .i64 (ws.length : Int)) w5 := by
              rw [← hsz]
              exact run_len_map (P := Try.prog) w5 118 3 gm es clock (by kernel_rfl) hes
            clear hes hsz
            go_upto_region 14 with fail
            clear hlen
            go_upto_region 15 with (at_mapUpdate; refine wp_putmapG HX5.out.map rfl _ _ _ rfl q HQL.out HPE.out rfl rfl rfl ?_; intro u5 hm hf; have HO6 := Lib.hid (HX5.out.put (ms := ws) hf); have HM6 := Lib.hid hm; have HF6 := Lib.hid hf; clear hm hf)
            clear z0 z1 z2 z3 z4 z5 z6 z7 z8 z9 z10 z11 z12 z13 z14 z15
            go_wp2_with (at_builtin; refine wp_num HO6.out.1 (by have := HM6.out.lt; omega) hib.out rfl _ _ rfl (ws.length : Int) rfl rfl ?_; intro ai' ci' u7 ho hf; have HFIN := Lib.hid (HNEW.out _ _ _ _ _ HX5.out HPE.out HM6.out HF6.out ho hf); clear ho hf)
            refine ⟨⟨n + 1, ci', ai', ws ++ [q], at_ ++ [(ws.length : Int)], HCN.out, by simp, by go_num, HMO, HFIN⟩, by have := HCN.out; simp [intOf]; omega⟩
      · obtain rfl : n = rs.length := by omega
        have hRR : R = (at_, 0) := by
          rw [HRR.out, splitA_good HM.out (by have := HOK.out; rwa [List.take_length] at this)]
          have h := HX.out.is
          rw [show rs.length = (rs.map (partL p.fs s.cs)).length by rw [List.length_map], List.take_length] at h
          rw [h]
        subst hRR
        clear cn hle
        go_wp2
        go_ret2
        exact ⟨ai, ci, rfl, HX.out.nums.lower (by have := HX.out.low; omega), HX.out.below⟩
  · have hm' : maySp p s = false := by simpa using hm
    rw [hm'] at T0
    rw [splitA_no hm']
    clear hm hm' hf hfc ha hl hcap hr hrl hv
    go_enter Try.func41, Try.ntmps41
    go_upto_region 1 with fail
    clear hw
    obtain ⟨c0, c1⟩ := HSP.out.at
    obtain ⟨b0, b1, b2⟩ := HSC.out.at
    go_wp2_with (go_at_call 35; refine T0.out.mono ?_; rintro e w1 ⟨rfl, hb⟩; have HB1 := Lib.hid (HB.out.trans (hb.mono HB.out.size)); clear hb c0 c1 b0 b1 b2)
    go_ret2
    exact ⟨none, 0, rfl, OwnI.nil _ _, HB1.out⟩
end Go.Proofs.Ythfakpekdjmpjaa
