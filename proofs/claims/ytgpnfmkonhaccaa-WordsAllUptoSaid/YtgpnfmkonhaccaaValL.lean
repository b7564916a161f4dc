/- Lists of values in memory: what the statements' helpers do with them. -/
import Derived.Test.YtgpnfmkonhaccaaIntL
import Derived.Laws.StructEq
import Derived.Lib.SmallJoins
namespace Go.Proofs.Ytgpnfmkonhaccaa
open Go.Conc Go.RowKit
set_option linter.unusedVariables false

/-- A value: its kind, and each kind's field. -/
structure V where
  k : Int
  i : Int
  b : Bool
  s : ByteArray
def V.cells (v : V) : List Value := [.int .i64 v.k, .int .i64 v.i, .bool v.b, .string v.s]
def rowV (vs : List V) : List Value := vs.flatMap V.cells
def zVal : Value := .agg #[.int .i64 0, .int .i64 0, .bool false, .string ByteArray.empty]
theorem infoVal : (Try.prog.info? 41).map (fun i => (i.zero, i.size, i.bytes)) = some (some zVal, 4, 40) := by kernel_rfl
theorem cells_length (v : V) : v.cells.length = 4 := rfl
theorem rowV_nil : rowV [] = [] := rfl
theorem rowV_cons (v : V) (vs : List V) : rowV (v :: vs) = v.cells ++ rowV vs := by simp [rowV]
theorem rowV_append (a b : List V) : rowV (a ++ b) = rowV a ++ rowV b := by simp [rowV]
theorem rowV_one (v : V) : rowV [v] = v.cells := by simp [rowV]
theorem rowV_length (vs : List V) : (rowV vs).length = vs.length * 4 := by
  induction vs with
  | nil => rfl
  | cons v vs ih => rw [rowV_cons, List.length_append, cells_length, ih, List.length_cons]; omega
theorem rowV_cells (vs : List V) : ∀ u ∈ rowV vs, u.oneCell' = true := by
  intro u hu
  simp only [rowV, List.mem_flatMap] at hu
  obtain ⟨v, _, hu⟩ := hu
  simp only [V.cells, List.mem_cons, List.not_mem_nil, or_false] at hu
  rcases hu with rfl | rfl | rfl | rfl <;> rfl
theorem rowV_at : ∀ (vs : List V) (n m : Nat) (h : n < vs.length) (hm : m < 4), (rowV vs)[n * 4 + m]? = vs[n].cells[m]?
  | v :: vs, 0, m, _, hm => by
    rw [rowV_cons, Nat.zero_mul, Nat.zero_add, List.getElem?_append_left (by rw [cells_length]; exact hm)]; rfl
  | v :: vs, n + 1, m, h, hm => by
    rw [rowV_cons, List.getElem?_append_right (by rw [cells_length]; omega), cells_length, show (n + 1) * 4 + m - 4 = n * 4 + m by omega]
    exact rowV_at vs n m (by simpa using h) hm

/-- Are two values alike, field by field? -/
def sameV (o p : V) : Bool := (o.k == p.k) && ((o.i == p.i) && ((o.b == p.b) && (o.s.toList == p.s.toList)))
theorem text_inj {a b : ByteArray} (h : a.toList = b.toList) : a = b := by
  rw [ByteArray.toList_eq, ByteArray.toList_eq] at h
  exact congrArg ByteArray.mk (Array.toList_inj.1 h)
theorem sameV_iff (o p : V) : sameV o p = true ↔ o = p := by
  cases o; cases p
  simp only [sameV, Bool.and_eq_true, beq_iff_eq, V.mk.injEq]
  constructor
  · rintro ⟨h1, h2, h3, h4⟩
    exact ⟨h1, h2, h3, text_inj h4⟩
  · rintro ⟨rfl, rfl, rfl, rfl⟩
    exact ⟨rfl, rfl, rfl, rfl⟩
instance instDecV : DecidableEq V := fun a b => if h : sameV a b = true then isTrue ((sameV_iff a b).1 h) else isFalse fun e => h ((sameV_iff a b).2 e)
theorem sameV_dec (o p : V) : sameV o p = decide (o = p) := by
  by_cases e : o = p
  · rw [decide_eq_true e]; exact (sameV_iff o p).2 e
  · rw [decide_eq_false e]
    cases h : sameV o p with
    | false => rfl
    | true => exact absurd ((sameV_iff o p).1 h) e
theorem run_neq_val (o p : V) (w : World) : (binOp .neq 41 (.agg #[.int .i64 o.k, .int .i64 o.i, .bool o.b, .string o.s]) (.agg #[.int .i64 p.k, .int .i64 p.i, .bool p.b, .string p.s])).run Try.prog w = .ok (.bool (!decide (o = p))) w := by
  rw [← sameV_dec]
  unfold sameV
  cases h1 : (o.k == p.k) <;> cases h2 : (o.i == p.i) <;> cases h3 : (o.b == p.b) <;> cases h4 : (o.s.toList == p.s.toList) <;> go_simp
theorem run_eql_val (o p : V) (w : World) : (binOp .eql 41 (.agg #[.int .i64 o.k, .int .i64 o.i, .bool o.b, .string o.s]) (.agg #[.int .i64 p.k, .int .i64 p.i, .bool p.b, .string p.s])).run Try.prog w = .ok (.bool (decide (o = p))) w := by
  rw [← sameV_dec]
  unfold sameV
  cases h1 : (o.k == p.k) <;> cases h2 : (o.i == p.i) <;> cases h3 : (o.b == p.b) <;> cases h4 : (o.s.toList == p.s.toList) <;> go_simp

/-- A value's four cells. -/
structure ValAt (w : World) (b o : Nat) (v : V) : Prop where
  c0 : w.cell? ⟨b, o, none⟩ = some (.int .i64 v.k)
  c1 : w.cell? ⟨b, o + 1, none⟩ = some (.int .i64 v.i)
  c2 : w.cell? ⟨b, o + 2, none⟩ = some (.bool v.b)
  c3 : w.cell? ⟨b, o + 3, none⟩ = some (.string v.s)
theorem ValAt.block {w w' : World} {b o : Nat} {v : V} (h : ValAt w b o v) (hb : w'.heap[b]? = w.heap[b]?) : ValAt w' b o v :=
  ⟨(World.cell?_of_block hb).trans h.c0, (World.cell?_of_block hb).trans h.c1, (World.cell?_of_block hb).trans h.c2, (World.cell?_of_block hb).trans h.c3⟩
theorem ValAt.lt {w : World} {b o : Nat} {v : V} (h : ValAt w b o v) : b < w.heap.size := World.block_lt_of_cell? w ⟨b, o, none⟩ h.c0
theorem ValAt.below {w w' : World} {b o : Nat} {v : V} (h : ValAt w b o v) (hb : Below w.heap.size w w') : ValAt w' b o v := h.block (hb.block b h.lt)
theorem ValAt.later {a w w' : World} {b o : Nat} {v : V} (h : ValAt a b o v) (h0 : Below a.heap.size a w) (hb : Below w.heap.size w w') : ValAt w' b o v := (h.below h0).below hb

/-- A list of values that can be read. -/
def IsV (w : World) (a : Option Addr) (vs : List V) : Prop :=
  vs = [] ∨ ∃ b off, a = some ⟨b, off, none⟩ ∧ ∀ i (h : i < vs.length), ValAt w b (off + i * 4) vs[i]
theorem IsV.keep {w w' : World} {a : Option Addr} {vs : List V} (h : IsV w a vs) (hk : ∀ b, some b = (a.map (·.block)) → w'.heap[b]? = w.heap[b]?) : IsV w' a vs := by
  rcases h with h | ⟨b, off, rfl, h⟩
  · exact .inl h
  · exact .inr ⟨b, off, rfl, fun i hi => (h i hi).block (hk b rfl)⟩
theorem IsV.below {w w' : World} {a : Option Addr} {vs : List V} (h : IsV w a vs) (hb : Below w.heap.size w w') : IsV w' a vs := by
  rcases h with h | ⟨b, off, rfl, h⟩
  · exact .inl h
  · exact .inr ⟨b, off, rfl, fun i hi => (h i hi).below hb⟩
theorem IsV.later {a0 w w' : World} {a : Option Addr} {vs : List V} (h : IsV a0 a vs) (h0 : Below a0.heap.size a0 w) (hb : Below w.heap.size w w') : IsV w' a vs := (h.below h0).below hb
theorem IsV.take {w : World} {a : Option Addr} {vs : List V} (h : IsV w a vs) (n : Nat) : IsV w a (vs.take n) := by
  rcases h with rfl | ⟨b, off, rfl, h⟩
  · exact .inl (by simp)
  · refine .inr ⟨b, off, rfl, fun i hi => ?_⟩
    rw [List.length_take] at hi
    rw [List.getElem_take]
    exact h i (by omega)
theorem IsV.cells {w : World} {b off : Nat} {vs : List V} (h : ∀ i (h : i < vs.length), ValAt w b (off + i * 4) vs[i]) : ∀ j u, (rowV vs)[j]? = some u → w.cell? ((⟨b, off, none⟩ : Addr).add j) = some u := by
  intro j u hj
  have hl : j < vs.length * 4 := by have := (List.getElem?_eq_some_iff.1 hj).1; rwa [rowV_length] at this
  have hn : j / 4 < vs.length := by omega
  have h4 : j % 4 < 4 := Nat.mod_lt _ (by omega)
  have e : j / 4 * 4 + j % 4 = j := by omega
  rw [← e, rowV_at vs (j / 4) (j % 4) hn h4] at hj
  have hv := h (j / 4) hn
  rw [addr_off]
  generalize vs[j / 4] = v at *
  rcases (show j % 4 = 0 ∨ j % 4 = 1 ∨ j % 4 = 2 ∨ j % 4 = 3 by omega) with e4 | e4 | e4 | e4
  all_goals
    rw [e4] at hj
    simp only [V.cells, List.getElem?_cons_zero, List.getElem?_cons_succ, Option.some.injEq] at hj
    subst hj
  · have := hv.c0; rwa [show off + j / 4 * 4 = off + j by omega] at this
  · have := hv.c1; rwa [show off + j / 4 * 4 + 1 = off + j by omega] at this
  · have := hv.c2; rwa [show off + j / 4 * 4 + 2 = off + j by omega] at this
  · have := hv.c3; rwa [show off + j / 4 * 4 + 3 = off + j by omega] at this
theorem IsV.of_cells {w : World} {b off : Nat} {vs : List V} (h : ∀ j u, (rowV vs)[j]? = some u → w.cell? ((⟨b, off, none⟩ : Addr).add j) = some u) : ∀ i (h : i < vs.length), ValAt w b (off + i * 4) vs[i] := by
  intro i hi
  have g : ∀ m, m < 4 → ∀ u, vs[i].cells[m]? = some u → w.cell? ⟨b, off + i * 4 + m, none⟩ = some u := fun m hm u hu => by
    have := h (i * 4 + m) u (by rw [rowV_at vs i m hi hm]; exact hu)
    rwa [addr_off, ← Nat.add_assoc] at this
  exact ⟨g 0 (by omega) _ rfl, g 1 (by omega) _ rfl, g 2 (by omega) _ rfl, g 3 (by omega) _ rfl⟩

/-- A row of values of one's own. -/
def OwnV (base : Nat) (w : World) (a : Option Addr) (cap : Nat) (vs : List V) : Prop := w.ownsRow base 41 4 (.slice a vs.length cap) vs.length (rowV vs)
theorem OwnV.isV {base : Nat} {w : World} {a : Option Addr} {cap : Nat} {vs : List V} (h : OwnV base w a cap vs) : IsV w a vs := by
  by_cases c : vs = []
  · exact .inl c
  · rcases h.2 with ⟨hv, h0⟩ | ⟨g, cp, cur, hv, hb, rest⟩
    · exact absurd (List.eq_nil_of_length_eq_zero h0) c
    · obtain rfl : a = some ⟨g, 0, none⟩ := by injection hv
      exact .inr ⟨g, 0, rfl, IsV.of_cells (h.cells (g := g) rfl)⟩
theorem OwnV.same {base : Nat} {w w' : World} {a : Option Addr} {cap : Nat} {vs : List V} (h : OwnV base w a cap vs) (hs : ∀ g, base ≤ g → g < w.heap.size → w'.heap[g]? = w.heap[g]?) : OwnV base w' a cap vs := own_same h hs
theorem OwnV.below {base : Nat} {w w' : World} {a : Option Addr} {cap : Nat} {vs : List V} (h : OwnV base w a cap vs) (hb : Below w.heap.size w w') : OwnV base w' a cap vs := own_same h fun g _ hg => hb.block g hg
theorem own_lower {w : World} {base base' e size n : Nat} {v : Value} {xs : List Value} (h : w.ownsRow base e size v n xs) (hb : base' ≤ base) : w.ownsRow base' e size v n xs := by
  refine ⟨h.1, ?_⟩
  rcases h.2 with hn | ⟨g, cp, cur, hv, hg, rest⟩
  · exact .inl hn
  · exact .inr ⟨g, cp, cur, hv, Nat.le_trans hb hg, rest⟩
theorem OwnV.lower {base base' : Nat} {w : World} {a : Option Addr} {cap : Nat} {vs : List V} (h : OwnV base w a cap vs) (hb : base' ≤ base) : OwnV base' w a cap vs := own_lower h hb
theorem OwnV.nil (base : Nat) (w : World) : OwnV base w none 0 [] := World.ownsRow_nil _ _ _ _
theorem OwnV.alloc {base : Nat} {w : World} {ad : Option Addr} {cap : Nat} {vs : List V} (h : OwnV base w ad cap vs) (ob : Obj) : OwnV base (w.alloc ob) ad cap vs := own_same h fun k _ hk => Below.heap_alloc w ob k hk
/-- The block, if there is one. -/
theorem OwnV.block {base : Nat} {w : World} {a : Option Addr} {cap : Nat} {vs : List V} (h : OwnV base w a cap vs) : (a = none ∧ cap = 0 ∧ vs = []) ∨ ∃ g, a = some ⟨g, 0, none⟩ ∧ base ≤ g ∧ g < w.heap.size ∧ vs.length ≤ cap ∧ ∃ cur, w.heap[g]? = some (.cells cur 41 (0, 0)) ∧ cur.size = cap * 4 := by
  rcases h.2 with ⟨hv, h0⟩ | ⟨g, cp, cur, hv, hb, hg, hn, hm, hs, ht⟩
  · injection hv with h1 h2 h3
    exact .inl ⟨h1, h3, List.eq_nil_of_length_eq_zero h0⟩
  · injection hv with h1 h2 h3
    subst h1 h3
    exact .inr ⟨g, rfl, hb, (Array.getElem?_eq_some_iff.1 hg).1, hn, cur, hg, hs⟩
/-- A row stays where a row of another type grows. -/
theorem own_apart {w w' : World} {base e size n base' e' size' n' : Nat} {v v' : Value} {xs xs' : List Value} (h : w.ownsRow base e size v n xs) (h2 : w.ownsRow base' e' size' v' n' xs') (he : e ≠ e') (hg : w.grownBy w' v'.ownBlock) : w'.ownsRow base e size v n xs := by
  refine ⟨h.1, ?_⟩
  rcases h.2 with hn | ⟨g, cap, cur, rfl, hb, hgg, rest⟩
  · exact .inl hn
  · refine .inr ⟨g, cap, cur, rfl, hb, ?_, rest⟩
    rw [hg.block g (Array.getElem?_eq_some_iff.1 hgg).1 fun eq => ?_]
    · exact hgg
    · rcases h2.2 with ⟨rfl, _⟩ | ⟨g2, cap2, cur2, rfl, _, hgg2, _⟩
      · simp [Value.ownBlock] at eq
      · simp [Value.ownBlock] at eq
        subst eq
        rw [hgg2] at hgg
        injection hgg with hgg
        injection hgg with _ h3 _
        exact he h3.symm
theorem types_apart : (41 : Nat) ≠ 3 ∧ (3 : Nat) ≠ 41 := ⟨by decide, by decide⟩

set_option maxRecDepth 100000 in
set_option maxHeartbeats 1000000 in
theorem samevals_any (w : World) (a b : Option Addr) (ca cb : Nat) (xs ys : List V) (ha : IsV w a xs) (hb : IsV w b ys) (hx : xs.length ≤ maxLen) :
    Calls Try.prog 12 #[.slice a xs.length ca, .slice b ys.length cb] w fun e w' => e = .returned (.bool (decide (xs = ys))) ∧ Below w.heap.size w w' := by
  unfold maxLen at hx
  by_cases hn : xs.length = ys.length
  · have hd : ∀ n, n ≤ xs.length → xs.take n = ys.take n → (xs = ys ↔ xs.drop n = ys.drop n) := fun n _ h => by
      constructor
      · intro e; rw [e]
      · intro e; rw [← List.take_append_drop n xs, ← List.take_append_drop n ys, h, e]
    obtain ⟨R, hR⟩ : ∃ R, R = decide (xs = ys) := ⟨_, rfl⟩
    rw [← hR]
    rw [← hn]
    have HN := Lib.hid hn
    have HR := Lib.hid hR
    have HD := Lib.hid hd
    clear hn hR hd
    go_enter Try.func12, Try.ntmps12
    go_wp2
    go_loopw [5] (fun iv wr => ∃ n : Nat, n ≤ xs.length ∧ iv = .int .i64 n ∧ Hid (xs.take n = ys.take n) ∧ Hid (Below w.heap.size w wr)) (fun iv _ => xs.length - (intOf iv).toNat)
    case atStart => exact ⟨0, Nat.zero_le _, rfl, rfl, Below.refl _ _⟩
    case round =>
      obtain ⟨n, hle, rfl, HT, HB⟩ := hrel
      by_cases c : n < xs.length
      · have hne : xs ≠ [] := fun e => by rw [e] at c; simp at c
        have hney : ys ≠ [] := fun e => by have := HN.out; rw [e] at this; simp at this; rw [this] at c; simp at c
        rcases ha with ha | ⟨ba, oa, rfl, ha⟩
        · exact absurd ha hne
        rcases hb with hb | ⟨bb, ob, rfl, hb⟩
        · exact absurd hb hney
        have cy : n < ys.length := by have := HN.out; omega
        have h1 := (ha n c).below HB.out
        have h2 := (hb n cy).below HB.out
        have hx1 : xs.drop n = xs[n] :: xs.drop (n + 1) := List.drop_eq_getElem_cons c
        have hy1 : ys.drop n = ys[n] :: ys.drop (n + 1) := List.drop_eq_getElem_cons cy
        have hx2 : xs.take (n + 1) = xs.take n ++ [xs[n]] := (List.take_append_getElem c).symm
        have hy2 : ys.take (n + 1) = ys.take n ++ [ys[n]] := (List.take_append_getElem cy).symm
        have HE := Lib.hid (HD.out n (by omega) HT.out)
        have HX1 := Lib.hid hx1
        have HY1 := Lib.hid hy1
        have HX2 := Lib.hid hx2
        have HY2 := Lib.hid hy2
        have hcy : (n : Int) < (ys.length : Int) := by omega
        clear hx1 hy1 hx2 hy2 ha hb hne hney
        generalize xs[n] = x at *
        generalize ys[n] = y at *
        obtain ⟨p0, p1, p2, p3⟩ := h1
        obtain ⟨q0, q1, q2, q3⟩ := h2
        have hq := run_neq_val x y
        by_cases e : x = y
        · simp only [decide_eq_true e, Bool.not_true] at hq
          have HQE := Lib.hid e
          clear e
          go_wp2
          go_quiet (fail)
          go_wp2
          go_roundw
          case rel => exact ⟨n + 1, by omega, by go_num, Lib.hid (by rw [HX2.out, HY2.out, HT.out, HQE.out]), bel_drew HB.out _⟩
          case measure => simp [intOf]; omega
        · have hf : R = false := by
            rw [HR.out, decide_eq_false_iff_not, HE.out, HX1.out, HY1.out]
            intro k
            injection k with k1 k2
            exact e k1
          subst hf
          simp only [decide_eq_false e, Bool.not_false] at hq
          clear e
          go_wp2
          go_quiet (fail)
          go_wp2
          go_ret
          exact ⟨rfl, bel_drew HB.out _⟩
      · obtain rfl : n = xs.length := by omega
        have ht : R = true := by
          have h1 := HT.out
          rw [List.take_length, HN.out, List.take_length] at h1
          rw [HR.out, h1]; simp
        subst ht
        clear c
        go_wp2
        go_ret
        exact ⟨rfl, HB.out⟩
  · have hne : ((xs.length : Int) != (ys.length : Int)) = true := by simp; omega
    have hf : decide (xs = ys) = false := decide_eq_false fun e => hn (by rw [e])
    rw [hf]
    go_enter Try.func12, Try.ntmps12
    go_wp2
    go_ret
    exact ⟨rfl, Below.refl _ _⟩
end Go.Proofs.Ytgpnfmkonhaccaa
