/- Lists of Fd in memory, as of values. (Written by tools/mkrow.py.) -/
import Derived.Test.YthfakpekdjmpjaaValL
import Derived.Test.YthfakpekdjmpjaaValC
import Derived.Laws.MakeOwn
import Derived.Deep.Strs
import Derived.ChangeSame
namespace Go.Proofs.Ythfakpekdjmpjaa
open Go.Conc Go.RowKit
set_option linter.unusedVariables false
set_option linter.unusedSimpArgs false

structure Fd where
  src : Int
  tr : Int
  par : Int
def Fd.cells (v : Fd) : List Value := [.int .i64 v.src, .int .i64 v.tr, .int .i64 v.par]
def rowFd (vs : List Fd) : List Value := vs.flatMap Fd.cells
def zFdVal : Value := .agg #[.int .i64 0, .int .i64 0, .int .i64 0]
def zeroFd : Fd := ⟨0, 0, 0⟩
theorem infoFd : (Try.prog.info? 55).map (fun i => (i.zero, i.size, i.bytes)) = some (some zFdVal, 3, 24) := by kernel_rfl
theorem fd_cells_length (v : Fd) : v.cells.length = 3 := rfl
theorem rowFd_nil : rowFd [] = [] := rfl
theorem rowFd_cons (v : Fd) (vs : List Fd) : rowFd (v :: vs) = v.cells ++ rowFd vs := by simp [rowFd]
theorem rowFd_append (a b : List Fd) : rowFd (a ++ b) = rowFd a ++ rowFd b := by simp [rowFd]
theorem rowFd_one (v : Fd) : rowFd [v] = v.cells := by simp [rowFd]
theorem rowFd_length (vs : List Fd) : (rowFd vs).length = vs.length * 3 := by
  induction vs with
  | nil => rfl
  | cons v vs ih => rw [rowFd_cons, List.length_append, fd_cells_length, ih, List.length_cons]; omega
theorem rowFd_cells (vs : List Fd) : ∀ u ∈ rowFd vs, u.oneCell' = true := by
  intro u hu
  simp only [rowFd, List.mem_flatMap] at hu
  obtain ⟨v, _, hu⟩ := hu
  simp only [Fd.cells, List.mem_cons, List.not_mem_nil, or_false] at hu
  rcases hu with rfl | rfl | rfl <;> rfl
theorem rowFd_at : ∀ (vs : List Fd) (n m : Nat) (h : n < vs.length) (hm : m < 3), (rowFd vs)[n * 3 + m]? = vs[n].cells[m]?
  | v :: vs, 0, m, _, hm => by
    rw [rowFd_cons, Nat.zero_mul, Nat.zero_add, List.getElem?_append_left (by rw [fd_cells_length]; exact hm)]; rfl
  | v :: vs, n + 1, m, h, hm => by
    rw [rowFd_cons, List.getElem?_append_right (by rw [fd_cells_length]; omega), fd_cells_length, show (n + 1) * 3 + m - 3 = n * 3 + m by omega]
    exact rowFd_at vs n m (by simpa using h) hm

def sameFd (o p : Fd) : Bool := (o.src == p.src) && ((o.tr == p.tr) && ((o.par == p.par)))
theorem sameFd_iff (o p : Fd) : sameFd o p = true ↔ o = p := by
  cases o; cases p
  simp only [sameFd, Bool.and_eq_true, beq_iff_eq, Fd.mk.injEq]
instance instDecFd : DecidableEq Fd := fun a b => if h : sameFd a b = true then isTrue ((sameFd_iff a b).1 h) else isFalse fun e => h ((sameFd_iff a b).2 e)
theorem sameFd_dec (o p : Fd) : sameFd o p = decide (o = p) := by
  by_cases e : o = p
  · rw [decide_eq_true e]; exact (sameFd_iff o p).2 e
  · rw [decide_eq_false e]
    cases h : sameFd o p with
    | false => rfl
    | true => exact absurd ((sameFd_iff o p).1 h) e
theorem run_neq_fd (o p : Fd) (w : World) : (binOp .neq 55 (.agg #[.int .i64 o.src, .int .i64 o.tr, .int .i64 o.par]) (.agg #[.int .i64 p.src, .int .i64 p.tr, .int .i64 p.par])).run Try.prog w = .ok (.bool (!decide (o = p))) w := by
  rw [← sameFd_dec]
  unfold sameFd
  cases h0 : (o.src == p.src)
  · go_simp
  cases h1 : (o.tr == p.tr)
  · go_simp
  cases h2 : (o.par == p.par)
  · go_simp
  go_simp
theorem run_eql_fd (o p : Fd) (w : World) : (binOp .eql 55 (.agg #[.int .i64 o.src, .int .i64 o.tr, .int .i64 o.par]) (.agg #[.int .i64 p.src, .int .i64 p.tr, .int .i64 p.par])).run Try.prog w = .ok (.bool (decide (o = p))) w := by
  rw [← sameFd_dec]
  unfold sameFd
  cases h0 : (o.src == p.src)
  · go_simp
  cases h1 : (o.tr == p.tr)
  · go_simp
  cases h2 : (o.par == p.par)
  · go_simp
  go_simp

structure FdAt (w : World) (b o : Nat) (v : Fd) : Prop where
  c0 : w.cell? ⟨b, o, none⟩ = some (.int .i64 v.src)
  c1 : w.cell? ⟨b, o + 1, none⟩ = some (.int .i64 v.tr)
  c2 : w.cell? ⟨b, o + 2, none⟩ = some (.int .i64 v.par)
theorem FdAt.block {w w' : World} {b o : Nat} {v : Fd} (h : FdAt w b o v) (hb : w'.heap[b]? = w.heap[b]?) : FdAt w' b o v :=
  ⟨(World.cell?_of_block hb).trans h.c0, (World.cell?_of_block hb).trans h.c1, (World.cell?_of_block hb).trans h.c2⟩
theorem FdAt.lt {w : World} {b o : Nat} {v : Fd} (h : FdAt w b o v) : b < w.heap.size := World.block_lt_of_cell? w ⟨b, o, none⟩ h.c0
theorem FdAt.below {w w' : World} {b o : Nat} {v : Fd} (h : FdAt w b o v) (hb : Below w.heap.size w w') : FdAt w' b o v := h.block (hb.block b h.lt)

def IsFd (w : World) (a : Option Addr) (vs : List Fd) : Prop :=
  vs = [] ∨ ∃ b off, a = some ⟨b, off, none⟩ ∧ ∀ i (h : i < vs.length), FdAt w b (off + i * 3) vs[i]
theorem IsFd.keep {w w' : World} {a : Option Addr} {vs : List Fd} (h : IsFd w a vs) (hk : ∀ b, some b = (a.map (·.block)) → w'.heap[b]? = w.heap[b]?) : IsFd w' a vs := by
  rcases h with h | ⟨b, off, rfl, h⟩
  · exact .inl h
  · exact .inr ⟨b, off, rfl, fun i hi => (h i hi).block (hk b rfl)⟩
theorem IsFd.below {w w' : World} {a : Option Addr} {vs : List Fd} (h : IsFd w a vs) (hb : Below w.heap.size w w') : IsFd w' a vs := by
  rcases h with h | ⟨b, off, rfl, h⟩
  · exact .inl h
  · exact .inr ⟨b, off, rfl, fun i hi => (h i hi).below hb⟩
theorem IsFd.take {w : World} {a : Option Addr} {vs : List Fd} (h : IsFd w a vs) (n : Nat) : IsFd w a (vs.take n) := by
  rcases h with rfl | ⟨b, off, rfl, h⟩
  · exact .inl (by simp)
  · refine .inr ⟨b, off, rfl, fun i hi => ?_⟩
    rw [List.length_take] at hi
    rw [List.getElem_take]
    exact h i (by omega)
theorem IsFd.cells {w : World} {b off : Nat} {vs : List Fd} (h : ∀ i (h : i < vs.length), FdAt w b (off + i * 3) vs[i]) : ∀ j u, (rowFd vs)[j]? = some u → w.cell? ((⟨b, off, none⟩ : Addr).add j) = some u := by
  intro j u hj
  have hl : j < vs.length * 3 := by have := (List.getElem?_eq_some_iff.1 hj).1; rwa [rowFd_length] at this
  have hn : j / 3 < vs.length := by omega
  have h4 : j % 3 < 3 := Nat.mod_lt _ (by omega)
  have e : j / 3 * 3 + j % 3 = j := by omega
  rw [← e, rowFd_at vs (j / 3) (j % 3) hn h4] at hj
  have hv := h (j / 3) hn
  rw [addr_off]
  generalize vs[j / 3] = v at *
  rcases (show j % 3 = 0 ∨ j % 3 = 1 ∨ j % 3 = 2 by omega) with e4 | e4 | e4
  all_goals
    rw [e4] at hj
    simp only [Fd.cells, List.getElem?_cons_zero, List.getElem?_cons_succ, Option.some.injEq] at hj
    subst hj
  · have := hv.c0; rwa [show off + j / 3 * 3 = off + j by omega] at this
  · have := hv.c1; rwa [show off + j / 3 * 3 + 1 = off + j by omega] at this
  · have := hv.c2; rwa [show off + j / 3 * 3 + 2 = off + j by omega] at this
theorem IsFd.of_cells {w : World} {b off : Nat} {vs : List Fd} (h : ∀ j u, (rowFd vs)[j]? = some u → w.cell? ((⟨b, off, none⟩ : Addr).add j) = some u) : ∀ i (h : i < vs.length), FdAt w b (off + i * 3) vs[i] := by
  intro i hi
  have g : ∀ m, m < 3 → ∀ u, vs[i].cells[m]? = some u → w.cell? ⟨b, off + i * 3 + m, none⟩ = some u := fun m hm u hu => by
    have := h (i * 3 + m) u (by rw [rowFd_at vs i m hi hm]; exact hu)
    rwa [addr_off, ← Nat.add_assoc] at this
  exact ⟨g 0 (by omega) _ rfl, g 1 (by omega) _ rfl, g 2 (by omega) _ rfl⟩
theorem IsFd.get {w : World} {a : Option Addr} {xs : List Fd} (h : IsFd w a xs) {n : Nat} (hn : n < xs.length) : ∃ b off, a = some ⟨b, off, none⟩ ∧ FdAt w b (off + n * 3) (xs.getD n zeroFd) := by
  rcases h with h | ⟨b, off, rfl, hc⟩
  · subst h; simp at hn
  · exact ⟨b, off, rfl, by rw [getD_in hn]; exact hc n hn⟩
theorem isfd_new (w : World) (L : List Fd) (C : Array Value) (hC : (rowFd L).toArray = C) : IsFd (w.alloc (.cells C 55)) (some ⟨w.heap.size, 0, none⟩) L := by
  subst hC
  by_cases c : L = []
  · exact .inl c
  · refine .inr ⟨w.heap.size, 0, rfl, IsFd.of_cells fun j u hj => ?_⟩
    rw [addr_off, Nat.zero_add, cell_of_row _ _ _ _ _ _ (heap_alloc_new w (.cells (rowFd L).toArray 55))]
    simpa using hj

def OwnFd (base : Nat) (w : World) (a : Option Addr) (cap : Nat) (vs : List Fd) : Prop := w.ownsRow base 55 3 (.slice a vs.length cap) vs.length (rowFd vs)
theorem OwnFd.isX {base : Nat} {w : World} {a : Option Addr} {cap : Nat} {vs : List Fd} (h : OwnFd base w a cap vs) : IsFd w a vs := by
  by_cases c : vs = []
  · exact .inl c
  · rcases h.2 with ⟨hv, h0⟩ | ⟨g, cp, cur, hv, hb, rest⟩
    · exact absurd (List.eq_nil_of_length_eq_zero h0) c
    · obtain rfl : a = some ⟨g, 0, none⟩ := by injection hv
      exact .inr ⟨g, 0, rfl, IsFd.of_cells (h.cells (g := g) rfl)⟩
theorem OwnFd.same {base : Nat} {w w' : World} {a : Option Addr} {cap : Nat} {vs : List Fd} (h : OwnFd base w a cap vs) (hs : ∀ g, base ≤ g → g < w.heap.size → w'.heap[g]? = w.heap[g]?) : OwnFd base w' a cap vs := own_same h hs
theorem OwnFd.below {base : Nat} {w w' : World} {a : Option Addr} {cap : Nat} {vs : List Fd} (h : OwnFd base w a cap vs) (hb : Below w.heap.size w w') : OwnFd base w' a cap vs := own_same h fun g _ hg => hb.block g hg
theorem OwnFd.lower {base base' : Nat} {w : World} {a : Option Addr} {cap : Nat} {vs : List Fd} (h : OwnFd base w a cap vs) (hb : base' ≤ base) : OwnFd base' w a cap vs := own_lower h hb
theorem OwnFd.nil (base : Nat) (w : World) : OwnFd base w none 0 [] := World.ownsRow_nil _ _ _ _
theorem OwnFd.alloc {base : Nat} {w : World} {ad : Option Addr} {cap : Nat} {vs : List Fd} (h : OwnFd base w ad cap vs) (ob : Obj) : OwnFd base (w.alloc ob) ad cap vs := own_same h fun k _ hk => Below.heap_alloc w ob k hk
theorem OwnFd.block {base : Nat} {w : World} {a : Option Addr} {cap : Nat} {vs : List Fd} (h : OwnFd base w a cap vs) : (a = none ∧ cap = 0 ∧ vs = []) ∨ ∃ g, a = some ⟨g, 0, none⟩ ∧ base ≤ g ∧ g < w.heap.size ∧ vs.length ≤ cap ∧ ∃ cur, w.heap[g]? = some (.cells cur 55 (0, 0)) ∧ cur.size = cap * 3 := by
  rcases h.2 with ⟨hv, h0⟩ | ⟨g, cp, cur, hv, hb, hg, hn, hm, hs, ht⟩
  · injection hv with h1 h2 h3
    exact .inl ⟨h1, h3, List.eq_nil_of_length_eq_zero h0⟩
  · injection hv with h1 h2 h3
    subst h1 h3
    exact .inr ⟨g, rfl, hb, (Array.getElem?_eq_some_iff.1 hg).1, hn, cur, hg, hs⟩
theorem OwnFd.frm {base cap : Nat} {w w' : World} {a : Option Addr} {xs : List Fd} {F : Nat → Prop} (h : OwnFd base w a cap xs) (hf : Frm F w w') (hF : ∀ k, At a k → k < w.heap.size → ¬ F k) : OwnFd base w' a cap xs := own_by h hf hF
theorem OwnFd.at_ge {base cap : Nat} {w : World} {a : Option Addr} {xs : List Fd} (h : OwnFd base w a cap xs) {k : Nat} (hk : At a k) : base ≤ k ∧ k < w.heap.size := by
  rcases h.block with ⟨rfl, _⟩ | ⟨g, rfl, hg, hl, _⟩
  · simp [At] at hk
  · simp [At] at hk; omega
theorem OwnFd.cap {base cap : Nat} {w : World} {a : Option Addr} {xs : List Fd} (h : OwnFd base w a cap xs) : xs.length ≤ cap := by
  rcases h.block with ⟨_, rfl, rfl⟩ | ⟨g, _, _, _, hc, _⟩
  · simp
  · exact hc
theorem OwnFd.there {base cap : Nat} {w : World} {a : Option Addr} {xs : List Fd} (h : OwnFd base w a cap xs) (hx : xs ≠ []) : ∃ g, a = some ⟨g, 0, none⟩ := by
  rcases h.block with ⟨_, _, h0⟩ | ⟨g, rfl, _⟩
  · exact absurd h0 hx
  · exact ⟨g, rfl⟩
theorem OwnFd.get {base cap g : Nat} {w : World} {xs : List Fd} (h : OwnFd base w (some ⟨g, 0, none⟩) cap xs) (j : Nat) (hj : j < xs.length) : FdAt w g (j * 3) xs[j] := by
  rcases h.isX with h0 | ⟨b, off, e, hv⟩
  · subst h0; simp at hj
  · injection e with e
    injection e with e1 e2 _
    subst e1 e2
    have := hv j hj
    rwa [Nat.zero_add] at this
theorem isfd_frm {w w' : World} {a b : Option Addr} {xs : List Fd} {lo hi lo2 hi2 : Nat} (h : IsFd w a xs) (hf : Frm (At b) w w') (ha : Lies lo hi a) (hb : Lies lo2 hi2 b) (hd : hi ≤ lo2 ∨ hi2 ≤ lo) (hz : hi ≤ w.heap.size) : IsFd w' a xs :=
  h.keep fun k hk => hf.block k (by have := ha k hk; omega) fun h2 => by have := ha k hk; have := hb k h2; omega

theorem fd_cells (w : World) (v : Fd) : ∀ j u, (rowFd [v])[j]? = some u → (w.alloc (.cells #[.int .i64 v.src, .int .i64 v.tr, .int .i64 v.par] 55)).cell? ((⟨w.heap.size, 0, none⟩ : Addr).add j) = some u := by
  have hb : (w.alloc (.cells #[.int .i64 v.src, .int .i64 v.tr, .int .i64 v.par] 55)).heap[w.heap.size]? = some (.cells #[.int .i64 v.src, .int .i64 v.tr, .int .i64 v.par] 55 (0, 0)) := heap_alloc_new w _
  intro j u hj
  rw [addr_off, Nat.zero_add, cell_of_row _ _ _ _ _ _ hb]
  simpa [rowFd, Fd.cells] using hj
theorem run_append_fd (w : World) (base : Nat) (hbase : base ≤ w.heap.size) (v : Value) (n : Nat) (xs p : List Value) (hown : w.ownsRow base 55 3 v n xs) (hxl : xs.length = n * 3) (hl : n ≤ 5864062014804) (hp : p.length = 3) (hp1 : ∀ u ∈ p, u.oneCell' = true)
    (a : Addr) (c : Nat) (hnews : ∀ j u, p[j]? = some u → w.cell? (a.add j) = some u) :
    ∃ v' w', (∀ ty, (Builtin.append_ #[63, 63] ty #[v, .slice (some a) 1 c]).run Try.prog w = .ok v' w') ∧ w'.ownsRow base 55 3 v' (n + 1) (xs ++ p) ∧ w.grownBy w' v.ownBlock ∧ (∀ k, v'.ownBlock = some k → v.ownBlock = some k ∨ w.heap.size ≤ k) := by
  obtain ⟨i0, hi, hz0, hz1, hz2⟩ := info_parts infoFd
  have hpl : p.length = 1 * i0.size := by rw [hz1, hp]
  have hpx : (xs ++ p).length = (n + 1) * 3 := by rw [List.length_append, hxl, hp]; omega
  have grown : ∀ (old : Nat), old < n + 1 →
      (w.drew.alloc (.cells (xs.toArray ++ p.toArray ++ Builtin.zeroCells (zFdVal).cells (grownCap w (n + 1) old 55 - (n + 1))) 55)).ownsRow base 55 3
        (.slice (some ⟨w.heap.size, 0, none⟩) (n + 1) (grownCap w (n + 1) old 55)) (n + 1) (xs ++ p) := by
    intro old ho
    have hge := grownCap_ge w (n + 1) old 55
    have hcm : grownCap w (n + 1) old 55 ≤ maxLen := grownCap_le_maxLen w (n + 1) old 55 (by simp only [maxLen]; omega)
    refine ⟨hpx, .inr ⟨w.heap.size, _, _, rfl, hbase, heap_alloc_new w.drew _, hge, hcm, ?_, ?_⟩⟩
    · simp only [Array.size_append, List.size_toArray, size_zeroCells, hxl, hp]
      have hz3 : (zFdVal).cells.size = 3 := rfl
      rw [hz3]
      omega
    · simp only [Array.toList_append]
      rw [show (xs ++ p ++ (Builtin.zeroCells (zFdVal).cells (grownCap w (n + 1) old 55 - (n + 1))).toList) = (xs ++ p) ++ (Builtin.zeroCells (zFdVal).cells (grownCap w (n + 1) old 55 - (n + 1))).toList from rfl, ← hpx]
      exact List.take_left
  rcases hown.2 with ⟨rfl, h0⟩ | ⟨g, cap, cur, rfl, hb, hgg, hnc, hcm, hcs, htake⟩
  · have e0 : xs = [] := List.eq_nil_of_length_eq_zero (by omega)
    subst e0 h0
    have gr := grown 0 (by omega)
    refine ⟨_, _, fun ty => run_append_nil w 63 ty 55 i0 (zFdVal) Try.underlying63 hi hz0 a 1 c p hpl hnews (by omega) (by omega) (by rw [hz2]; omega), by simpa using gr, ⟨rfl, rfl, rfl, by simp, fun k hk _ => Below.heap_alloc w.drew _ k hk⟩, ?_⟩
    intro k hk
    simp [Value.ownBlock] at hk
    exact .inr (by omega)
  · by_cases hroom : n + 1 ≤ cap
    · have hfit : n * i0.size + p.length ≤ cur.size := by rw [hcs, hz1, hp]; omega
      have hlt : (cur.toList.take (n * 3) ++ p).length = (n + 1) * 3 := by rw [htake]; exact hpx
      refine ⟨_, _, fun ty => run_append_room w 63 ty 55 i0 Try.underlying63 hi g n cap cur hgg a 1 c p hpl hnews hp1 hroom hfit, ⟨hpx, .inr ⟨g, cap, _, rfl, hb, setRow_heap w g cur _ 55 _ hgg, by omega, hcm, ?_, ?_⟩⟩, ⟨rfl, rfl, rfl, by simp, fun k _ hk => setRow_other w g k _ (fun e => hk (by rw [e]; rfl))⟩, fun k hk => .inl hk⟩
      · simp only [List.size_toArray, List.length_append, List.length_take, List.length_drop, Array.length_toList]
        omega
      · rw [hz1, ← htake, List.append_assoc]
        rw [← List.append_assoc, ← hlt]
        exact List.take_left
    · have hr := fun ty => run_append_grow (P := Try.prog) w 63 ty 55 i0 (zFdVal) Try.underlying63 hi hz0 ⟨g, 0, none⟩ n cap xs (by rw [hz1]; exact hxl) (hown.cells (g := g) rfl) a 1 c p hpl hnews (by omega) (by omega) (growslice_fits (by omega) (by rw [hz2]; omega))
      refine ⟨_, _, hr, grown cap (by omega), ⟨rfl, rfl, rfl, by simp, fun k hk _ => Below.heap_alloc w.drew _ k hk⟩, ?_⟩
      intro k hk
      simp [Value.ownBlock] at hk
      exact .inr (by omega)
/-- One is put in. -/
theorem wp_fd {base : Nat} {w : World} {ad : Option Addr} {cap : Nat} {xs : List Fd} (h : OwnFd base w ad cap xs) (hb : base ≤ w.heap.size) (hO : xs.length ≤ 5864062014804) {ops : Array Oper} {rest : List Oper} {op : Oper} {A : Act} {Q : Exit → Act → World → Prop} (hgd : op.guard = none) (sl x : Operand)
    (ho : op.op = .call { callee := .builtin .append, args := #[sl, x], argTypes := #[63, 63] }) (v : Fd) (hs : A.eval sl = .slice ad xs.length cap) (hx : A.eval x = .slice (some ⟨w.heap.size, 0, none⟩) 1 1)
    (hK : ∀ ad' cap' w', OwnFd base w' ad' cap' (xs ++ [v]) → Frm (At ad) w w' → (∀ k, At ad' k → At ad k ∨ w.heap.size < k) → wpList Try.prog ops Q rest (A.put op.dst (.slice ad' (xs ++ [v]).length cap')) w') : wpList Try.prog ops Q (op :: rest) A (w.alloc (.cells #[.int .i64 v.src, .int .i64 v.tr, .int .i64 v.par] 55)) := by
  have ha := h.alloc (.cells #[.int .i64 v.src, .int .i64 v.tr, .int .i64 v.par] 55)
  obtain ⟨v', w', hr, hown, hgrow, hnew⟩ := run_append_fd _ base (Nat.le_trans hb (by simp)) (.slice ad xs.length cap) xs.length (rowFd xs) (rowFd [v]) ha (rowFd_length xs) hO (by rw [rowFd_length]; rfl) (rowFd_cells _) ⟨w.heap.size, 0, none⟩ 1 (fd_cells w v)
  obtain ⟨ad', cap', rfl⟩ := own_form hown
  have hl : (xs ++ [v]).length = xs.length + 1 := by simp
  have ho' : OwnFd base w' ad' cap' (xs ++ [v]) := by
    unfold OwnFd
    rw [hl, rowFd_append]
    exact hown
  have := hK ad' cap' w' ho' (grown_frm _ hgrow (own_head h)) (grown_new _ (own_head h) (own_head hown) hnew)
  rw [hl] at this
  exact wpV_append_eq _ hgd sl x 63 63 ho _ _ hs hx (hr _) this
theorem zFd_cells : zFdVal.cells = #[.int .i64 0, .int .i64 0, .int .i64 0] := rfl
theorem made_fd_cells (n : Nat) : (madeCells zFdVal.cells (n * 3)).toList = rowFd (List.replicate n zeroFd) := by
  apply List.ext_getElem?
  intro i
  by_cases h : i < n * 3
  · have h1 : i / 3 < (List.replicate n zeroFd).length := by rw [List.length_replicate]; omega
    have h2 := rowFd_at (List.replicate n zeroFd) (i / 3) (i % 3) h1 (by omega)
    rw [show i / 3 * 3 + i % 3 = i by omega] at h2
    rw [h2, List.getElem_replicate]
    have h3 : (madeCells zFdVal.cells (n * 3)).toList[i]? = some (zFdVal.cells[i % 3]!) := by
      rw [List.getElem?_eq_getElem (by rw [Array.length_toList, size_madeCells]; exact h)]
      simp [madeCells, zFd_cells]
    rw [h3, zFd_cells]
    rcases (show i % 3 = 0 ∨ i % 3 = 1 ∨ i % 3 = 2 by omega) with e | e | e <;> rw [e] <;> rfl
  · rw [List.getElem?_eq_none (by rw [Array.length_toList, size_madeCells]; omega), List.getElem?_eq_none (by rw [rowFd_length, List.length_replicate]; omega)]
theorem made_fd_own (w : World) (n : Nat) (h : n ≤ 5864062014804) : ∃ C, (Instr.makeSlice 63 (.int .i64 (n : Int)) (.int .i64 (n : Int))).run Try.prog w = .ok (.slice (some ⟨w.heap.size, 0, none⟩) n n) (w.alloc (.cells C 55)) ∧ OwnFd w.heap.size (w.alloc (.cells C 55)) (some ⟨w.heap.size, 0, none⟩) n (List.replicate n zeroFd) := by
  obtain ⟨i0, hi, hz0, hz1, hz2⟩ := info_parts infoFd
  have hr := run_make (P := Try.prog) w 63 55 i0 _ Try.underlying63 hi hz0 .i64 .i64 (n : Int) (n : Int) (by omega) (Int.le_refl _) (by rw [hz2]; omega) (by omega)
  rw [Int.toNat_natCast, hz1] at hr
  refine ⟨_, hr, ?_⟩
  have hc := made_fd_cells n
  have hs := size_madeCells zFdVal.cells (n * 3)
  refine ⟨by rw [rowFd_length], .inr ⟨w.heap.size, n, _, by rw [List.length_replicate], Nat.le_refl _, heap_alloc_new w _, by rw [List.length_replicate]; exact Nat.le_refl _, by simp only [maxLen]; omega, hs, ?_⟩⟩
  rw [List.length_replicate, ← hc]
  exact List.take_of_length_le (by rw [Array.length_toList, hs]; exact Nat.le_refl _)

set_option maxRecDepth 100000 in
set_option maxHeartbeats 1000000 in
theorem samefields_any (w : World) (a b : Option Addr) (ca cb : Nat) (xs ys : List Fd) (ha : IsFd w a xs) (hb : IsFd w b ys) (hx : xs.length ≤ maxLen) :
    Calls Try.prog 83 #[.slice a xs.length ca, .slice b ys.length cb] w fun e w' => e = .returned (.bool (decide (xs = ys))) ∧ Below w.heap.size w w' := by
  unfold maxLen at hx
  by_cases hn : xs.length = ys.length
  · have hd : ∀ n, n ≤ xs.length → xs.take n = ys.take n → (xs = ys ↔ xs.drop n = ys.drop n) := fun n _ h => by
      constructor
      · intro e; rw [e]
      · intro e; rw [← List.take_append_drop n xs, ← List.take_append_drop n ys, h, e]
    obtain ⟨R, hR⟩ : ∃ R, R = decide (xs = ys) := ⟨_, rfl⟩
    rw [← hR]
    rw [← hn]
    have HN := Lib.hid hn
    have HR := Lib.hid hR
    have HD := Lib.hid hd
    clear hn hR hd
    go_enter Try.func83, Try.ntmps83
    go_wp2
    go_loopw [5] (fun iv wr => ∃ n : Nat, n ≤ xs.length ∧ iv = .int .i64 n ∧ Hid (xs.take n = ys.take n) ∧ Hid (Below w.heap.size w wr)) (fun iv _ => xs.length - (intOf iv).toNat)
    case atStart => exact ⟨0, Nat.zero_le _, rfl, rfl, Below.refl _ _⟩
    case round =>
      obtain ⟨n, hle, rfl, HT, HB⟩ := hrel
      by_cases c : n < xs.length
      · have hne : xs ≠ [] := fun e => by rw [e] at c; simp at c
        have hney : ys ≠ [] := fun e => by have := HN.out; rw [e] at this; simp at this; rw [this] at c; simp at c
        rcases ha with ha | ⟨ba, oa, rfl, ha⟩
        · exact absurd ha hne
        rcases hb with hb | ⟨bb, ob, rfl, hb⟩
        · exact absurd hb hney
        have cy : n < ys.length := by have := HN.out; omega
        have h1 := (ha n c).below HB.out
        have h2 := (hb n cy).below HB.out
        have hx1 : xs.drop n = xs[n] :: xs.drop (n + 1) := List.drop_eq_getElem_cons c
        have hy1 : ys.drop n = ys[n] :: ys.drop (n + 1) := List.drop_eq_getElem_cons cy
        have hx2 : xs.take (n + 1) = xs.take n ++ [xs[n]] := (List.take_append_getElem c).symm
        have hy2 : ys.take (n + 1) = ys.take n ++ [ys[n]] := (List.take_append_getElem cy).symm
        have HE := Lib.hid (HD.out n (by omega) HT.out)
        have HX1 := Lib.hid hx1
        have HY1 := Lib.hid hy1
        have HX2 := Lib.hid hx2
        have HY2 := Lib.hid hy2
        have hcy : (n : Int) < (ys.length : Int) := by omega
        clear hx1 hy1 hx2 hy2 ha hb hne hney
        generalize xs[n] = x at *
        generalize ys[n] = y at *
        obtain ⟨p0, p1, p2⟩ := h1
        obtain ⟨q0, q1, q2⟩ := h2
        have hq := run_neq_fd x y
        by_cases e : x = y
        · simp only [decide_eq_true e, Bool.not_true] at hq
          have HQE := Lib.hid e
          clear e
          go_wp2
          go_quiet (fail)
          go_wp2
          go_roundw
          case rel => exact ⟨n + 1, by omega, by go_num, Lib.hid (by rw [HX2.out, HY2.out, HT.out, HQE.out]), bel_drew HB.out _⟩
          case measure => simp [intOf]; omega
        · have hf : R = false := by
            rw [HR.out, decide_eq_false_iff_not, HE.out, HX1.out, HY1.out]
            intro k
            injection k with k1 k2
            exact e k1
          subst hf
          simp only [decide_eq_false e, Bool.not_false] at hq
          clear e
          go_wp2
          go_quiet (fail)
          go_wp2
          go_ret
          exact ⟨rfl, bel_drew HB.out _⟩
      · obtain rfl : n = xs.length := by omega
        have ht : R = true := by
          have h1 := HT.out
          rw [List.take_length, HN.out, List.take_length] at h1
          rw [HR.out, h1]; simp
        subst ht
        clear c
        go_wp2
        go_ret
        exact ⟨rfl, HB.out⟩
  · have hne : ((xs.length : Int) != (ys.length : Int)) = true := by simp; omega
    have hf : decide (xs = ys) = false := decide_eq_false fun e => hn (by rw [e])
    rw [hf]
    go_enter Try.func83, Try.ntmps83
    go_wp2
    go_ret
    exact ⟨rfl, Below.refl _ _⟩
set_option maxRecDepth 100000 in
theorem copyfields_any (w : World) (a : Option Addr) (cap : Nat) (xs : List Fd) (ha : IsFd w a xs) (hn : a = none → xs.length = 0 ∧ cap = 0) (hx : xs.length * 24 ≤ 140737488355328) :
    Calls Try.prog 75 #[.slice a xs.length cap] w fun e w' => ∃ g c, e = .returned (.slice (some ⟨g, 0, none⟩) xs.length c) ∧ OwnFd w.heap.size w' (some ⟨g, 0, none⟩) c xs ∧ Below w.heap.size w w' := by
  obtain ⟨i0, hi0, hz0, hz1, hz2⟩ := info_parts infoFd
  have hO : (w.alloc (.cells #[] 55)).ownsRow w.heap.size 55 3 (.slice (some ⟨w.heap.size, 0, none⟩) 0 0) 0 [] := World.ownsRow_made w #[] 0 (Nat.le_refl _) (Nat.zero_le _) rfl
  have HO := Lib.hid hO
  have HB : Hid (Below w.heap.size w (w.alloc (.cells #[] 55))) := (Below.refl _ _).alloc (Nat.le_refl _) _
  have HZ := Lib.hid hz0
  clear hz0 hO
  cases a with
  | none =>
    obtain ⟨h1, rfl⟩ := hn rfl
    have e1 : xs = [] := List.eq_nil_of_length_eq_zero h1
    subst e1
    clear hn h1 hx ha
    go_enter Try.func75, Try.ntmps75
    go_wp2_with (at_builtin; refine wpList_append_own_none rfl _ _ 63 rfl w.heap.size 55 i0 3 Try.underlying63 hi0 _ 0 [] rfl HO.out rfl ?_)
    go_ret
    exact ⟨_, _, rfl, HO.out, HB.out⟩
  | some ad =>
    have hc : ∀ j u, (rowFd xs)[j]? = some u → (w.alloc (.cells #[] 55)).cell? (ad.add j) = some u := by
      rcases ha.below HB.out with rfl | ⟨b, off, e, h⟩
      · intro j u hj; simp [rowFd] at hj
      · injection e with e
        subst e
        exact IsFd.cells h
    have HC := Lib.hid hc
    clear hc ha hn
    have hl := rowFd_length xs
    go_enter Try.func75, Try.ntmps75
    go_wp2_with (at_builtin; refine wpList_append_own _ rfl _ _ 63 rfl w.heap.size 55 i0 zFdVal 3 24 Try.underlying63 hi0 HZ.out hz1 hz2 rfl (by decide) (.slice (some ⟨w.heap.size, 0, none⟩) 0 0) 0 [] rfl HO.out ad xs.length cap (rowFd xs) rfl hl HC.out (rowFd_cells xs) (by simp only [maxLen]; omega) (by omega) (by simp) ?_; intro v1 w1 h1 g1 n1; rw [Nat.zero_add, List.nil_append] at h1; obtain ⟨g, cp, rfl, hbg, hgl, hcp, hcm⟩ := own_some h1 (by rw [ne_eq, n1]; simp); have H1 := Lib.hid h1; have G1 := Lib.hid g1; clear h1 g1 n1)
    go_ret
    refine ⟨g, cp, rfl, H1.out, ?_⟩
    have hb := HB.out
    have hg := G1.out
    exact ⟨hg.os.trans hb.os, hg.tape.trans hb.tape, hg.output.trans hb.output, Nat.le_trans hb.size hg.size, fun k hk => (hg.block k (Nat.lt_of_lt_of_le hk hb.size) (by simp [Value.ownBlock]; omega)).trans (hb.block k hk)⟩
def markFd : Fd := ⟨77777, 0, 0⟩
theorem marksFd_cells (w : World) (L : List Fd) (hL : L = [markFd, markFd]) : ∀ j u, (rowFd L)[j]? = some u → (w.alloc (.cells #[.int .i64 77777, .int .i64 0, .int .i64 0, .int .i64 77777, .int .i64 0, .int .i64 0] 55)).cell? ((⟨w.heap.size, 0, none⟩ : Addr).add j) = some u := by
  subst hL
  have hb : (w.alloc (.cells #[.int .i64 77777, .int .i64 0, .int .i64 0, .int .i64 77777, .int .i64 0, .int .i64 0] 55)).heap[w.heap.size]? = some (.cells #[.int .i64 77777, .int .i64 0, .int .i64 0, .int .i64 77777, .int .i64 0, .int .i64 0] 55 (0, 0)) := heap_alloc_new w _
  intro j u hj
  rw [addr_off, Nat.zero_add, cell_of_row _ _ _ _ _ _ hb]
  simpa [rowFd, Fd.cells, markFd] using hj
set_option maxRecDepth 100000 in
theorem lendfields_any (w : World) (a : Option Addr) (cap : Nat) (xs : List Fd) (ha : IsFd w a xs) (hn : a = none → xs.length = 0 ∧ cap = 0) (hx : (xs.length + 2) * 24 ≤ 140737488355328) :
    Calls Try.prog 33 #[.slice a xs.length cap] w fun e w' => ∃ g c, e = .returned (.slice (some ⟨g, 0, none⟩) xs.length c) ∧ OwnFd w.heap.size w' (some ⟨g, 0, none⟩) c (xs ++ [markFd, markFd]) ∧ Below w.heap.size w w' := by
  obtain ⟨i0, hi0, hz0, hz1, hz2⟩ := info_parts infoFd
  have HZ := Lib.hid hz0
  have T := Lib.hid (copyfields_any w a cap xs ha hn (by omega))
  obtain ⟨L, hL⟩ : ∃ L : List Fd, L = [markFd, markFd] := ⟨_, rfl⟩
  rw [← hL]
  have hl : L.length = 2 := by rw [hL]; rfl
  have hcl : (rowFd L).length = 6 := by rw [rowFd_length, hl]
  have HM := Lib.hid (fun w => marksFd_cells w L hL)
  have hap := rowFd_append xs L
  have hlen : (xs ++ L).length = xs.length + 2 := by rw [List.length_append, hl]
  unfold OwnFd
  rw [hlen, hap]
  clear hap hlen hz0 hL hl ha hn
  go_enter Try.func33, Try.ntmps33
  go_wp2_with (first
    | (go_at_call 75; refine T.out.mono ?_; rintro e w1 ⟨g, c, rfl, h1, hb1⟩; have H1 := Lib.hid (OwnFd.below h1 ((Below.refl w1.heap.size w1).alloc (Nat.le_refl _) (.cells #[.int .i64 77777, .int .i64 0, .int .i64 0, .int .i64 77777, .int .i64 0, .int .i64 0] 55))); have HB1 := Lib.hid hb1; clear h1 hb1)
    | (at_builtin; refine wpList_append_own _ rfl _ _ 63 rfl w.heap.size 55 i0 zFdVal 3 24 Try.underlying63 hi0 HZ.out hz1 hz2 rfl (by decide) (.slice (some ⟨g, 0, none⟩) xs.length c) xs.length (rowFd xs) rfl H1.out ⟨w1.heap.size, 0, none⟩ 2 2 (rowFd L) rfl (by rw [hcl]) (HM.out w1) (rowFd_cells L) (by simp only [maxLen]; omega) (by omega) (by have := HB1.out.size; simp; omega) ?_; intro v2 w2 h2 g2 n2; obtain ⟨gg, cp, rfl, hbg, hgl, hcp, hcm⟩ := own_some h2 (by rw [ne_eq, n2]; simp); have H2 := Lib.hid h2; have G2 := Lib.hid g2; clear h2 g2 n2))
  go_ret
  refine ⟨gg, cp, rfl, H2.out, ?_⟩
  have hb := (HB1.out.alloc HB1.out.size (.cells #[.int .i64 77777, .int .i64 0, .int .i64 0, .int .i64 77777, .int .i64 0, .int .i64 0] 55))
  exact grown_below hb (Nat.le_refl _) G2.out fun k hk => own_block H1.out hk.symm
set_option maxRecDepth 100000 in
theorem keptfields_any (w : World) (g c : Nat) (b : Option Addr) (cb base : Nat) (xs : List Fd) (h : OwnFd base w (some ⟨g, 0, none⟩) c (xs ++ [markFd, markFd])) (hb : IsFd w b xs) (hx : (xs.length + 2) * 24 ≤ 140737488355328) :
    Calls Try.prog 44 #[.slice (some ⟨g, 0, none⟩) xs.length c, .slice b xs.length cb] w fun e w' => e = .returned (.bool true) ∧ Below w.heap.size w w' := by
  have hl : IsFd w (some ⟨g, 0, none⟩) (xs ++ [markFd, markFd]) := h.isX
  have hl2 : IsFd w (some ⟨g, 0, none⟩) xs := by have := hl.take xs.length; rwa [List.take_left] at this
  have hc : xs.length + 2 ≤ c := by
    rcases h.block with ⟨h, _⟩ | ⟨g', e, _, _, h, _⟩
    · cases h
    · simpa using h
  have T := Lib.hid (samefields_any w (some ⟨g, 0, none⟩) b c cb xs xs hl2 hb (by simp only [maxLen]; omega))
  rw [decide_eq_true rfl] at T
  have hm : FdAt w g (xs.length * 3) markFd ∧ FdAt w g ((xs.length + 1) * 3) markFd := by
    rcases hl with h | ⟨b, off, e, h⟩
    · simp at h
    · injection e with e
      injection e with e1 e2 e3
      subst e1 e2
      constructor
      · have := h xs.length (by simp); simpa using this
      · have := h (xs.length + 1) (by simp); simpa using this
  have HM := Lib.hid hm
  have hg : g < w.heap.size := hm.1.lt
  have hq := run_eql_fd markFd markFd
  simp only [markFd, decide_eq_true] at hq
  clear h hb hl hl2 hm
  go_enter Try.func44, Try.ntmps44
  go_wp2_with (go_at_call 83; refine T.out.mono ?_; rintro e w1 ⟨rfl, hb1⟩; obtain ⟨p0, p1, p2⟩ := HM.out.1.below hb1; obtain ⟨q0, q1, q2⟩ := HM.out.2.below hb1; simp only [markFd] at p0 p1 p2 q0 q1 q2; have HB1 := Lib.hid hb1; clear hb1)
  go_ret
  exact ⟨rfl, HB1.out⟩
end Go.Proofs.Ythfakpekdjmpjaa

namespace Go.Proofs.Ythfakpekdjmpjaa
open Go.ChangeShapes Go.WideShapes Go.ChangeAt Go.RowKit
set_option linter.unusedVariables false
set_option linter.unusedSimpArgs false

theorem bytesFd : Try.prog.bytesOf 55 = 24 := by kernel_rfl
theorem cellsFd : Try.prog.cellsOf 55 = 3 := by kernel_rfl
/-- Cells that read as one. -/
def InFd (v : Fd) : Prop := (-9223372036854775808 ≤ v.src ∧ v.src < 9223372036854775808) ∧ (-9223372036854775808 ≤ v.tr ∧ v.tr < 9223372036854775808) ∧ (-9223372036854775808 ≤ v.par ∧ v.par < 9223372036854775808)
set_option maxRecDepth 100000 in
theorem fd_open {H : Type} {enc : TypeId × Value → H} {w : World} {spare : Nat → Bool} {hh : Bool} {n : Nat} {cs : List Value} {d : DataW H} {ps : List MemPlace} (hw : ∀ x ∈ d.weights Try.prog 55, x ≤ reachBytes) (ht : DataW.trod enc Try.prog w 0 spare hh n 55 cs = some (d, ps)) :
    ∃ v : Fd, cs = v.cells ∧ InFd v := by
  obtain ⟨y0, y1, y2, m, hx, hl, t0, t1, t2⟩ := Deep.trod_struct3 Try.underlying55 ht
  rw [cellsFd] at hl
  match cs, hl with
  | [c0, c1, c2], _ =>
    simp only [cellsInt, cellsBoolV, cellsStrV, List.drop_zero, List.drop_succ_cons, List.take_succ_cons, List.take_zero] at t0 t1 t2
    injection hx with hx1 hx2
    subst hx1
    have hwe : ∀ (j : Nat) (t : TypeId) (y : DataW H), [3, 3, 3][j]? = some t → [y0.1, y1.1, y2.1][j]? = some y → ∀ x ∈ y.weights Try.prog t, x ≤ reachBytes := by
      intro j t y h1 h2 x hxm
      refine hw x ?_
      have := DataW.weights_mem_each (P := Try.prog) (ts := [3, 3, 3]) (ds := [y0.1, y1.1, y2.1]) (j := j) h1 h2 x hxm
      unfold DataW.weights
      rw [Try.underlying55]
      exact this
    have m : IntKind.i64.min = -9223372036854775808 := rfl
    obtain ⟨r0, e0, _, wf0⟩ := DataW.trod_int Try.underlying3 t0
    obtain ⟨r1, e1, _, wf1⟩ := DataW.trod_int Try.underlying3 t1
    obtain ⟨r2, e2, _, wf2⟩ := DataW.trod_int Try.underlying3 t2
    simp only [List.cons.injEq, and_true] at e0 e1 e2
    subst e0 e1 e2
    refine ⟨⟨r0, r1, r2⟩, rfl, ?_⟩
    unfold InFd
    simp only
    exact ⟨(by simp [Lit.wf] at wf0; show -9223372036854775808 ≤ r0 ∧ r0 < 9223372036854775808; omega), (by simp [Lit.wf] at wf1; show -9223372036854775808 ≤ r1 ∧ r1 < 9223372036854775808; omega), (by simp [Lit.wf] at wf2; show -9223372036854775808 ≤ r2 ∧ r2 < 9223372036854775808; omega)⟩
set_option maxRecDepth 100000 in
theorem fds_arg {H : Type} {enc : TypeId × Value → H} {W : World} {fuel : Nat} {a : Option Addr} {len cap : Nat} {d : DataW H} {p : List MemPlace} {hh : Bool}
    (h : DataW.trod enc Try.prog W 0 (fun _ => true) hh fuel 63 (Value.slice a len cap).cells.toList = some (d, p)) (hw : ∀ x ∈ d.weights Try.prog 63, x ≤ reachBytes) :
    ∃ xs : List Fd, xs.length = len ∧ IsFd W a xs ∧ (a = none → xs.length = 0 ∧ cap = 0) ∧ xs.length * 24 ≤ 140737488351232 ∧ ∀ v ∈ xs, InFd v := by
  rcases Deep.open_slice Try.underlying63 h with ⟨hcs, _⟩ | ⟨x, l, c, m, n, D, Pl, hcs, _, hl, hm, hmm, hdd, hel⟩
  · simp [Value.cells] at hcs
    obtain ⟨rfl, rfl, rfl⟩ := hcs
    exact ⟨[], rfl, .inl rfl, fun _ => ⟨rfl, rfl⟩, by simp, fun x hx => by simp at hx⟩
  · simp [Value.cells] at hcs
    obtain ⟨rfl, rfl, rfl⟩ := hcs
    have hmc : m = cap := by simpa using hmm
    subst hmc
    injection hdd with hdd _
    rw [hdd] at hw
    have hw := weighV_slice Try.underlying63 hw
    rw [bytesFd, List.length_map, List.length_range] at hw
    have hw1 := hw.1
    simp only [reachBytes] at hw1
    have hx : ∀ i, ∃ v : Fd, i < len → W.cells? 0 (x.add (i * 3)) 3 = some v.cells ∧ InFd v := by
      intro i
      by_cases hi : i < len
      · obtain ⟨cs', h1, h2⟩ := hel i (by omega)
        rw [cellsFd] at h1
        obtain ⟨v, hv, hs⟩ := fd_open (hw.2 (D i) (List.mem_map.2 ⟨i, List.mem_range.2 hi, rfl⟩)) h2
        exact ⟨v, fun _ => ⟨by rw [← hv]; exact h1, hs⟩⟩
      · exact ⟨zeroFd, fun h => absurd h hi⟩
    obtain ⟨X, hX⟩ := Classical.axiomOfChoice hx
    have hlen : ((List.range len).map X).length = len := by simp
    refine ⟨(List.range len).map X, hlen, ?_, (fun e => by cases e), by rw [hlen]; omega, fun v hv => ?_⟩
    · by_cases h0 : len = 0
      · exact .inl (by rw [h0]; rfl)
      · obtain ⟨b, off, spot⟩ := x
        have hsp : spot = none := by
          have h3 := (World.cells?_some (hX 0 (by omega)).1).2.2 0 (by omega)
          cases spot with
          | none => rfl
          | some s => simp [Addr.add, World.cell?, Fd.cells] at h3; split at h3 <;> simp at h3
        subst hsp
        refine .inr ⟨b, off, rfl, fun i hi => ?_⟩
        rw [hlen] at hi
        have h3 := (World.cells?_some (hX i hi).1).2.2
        have e : ((List.range len).map X)[i]'(by rw [hlen]; exact hi) = X i := by simp
        rw [e]
        have g0 := h3 0 (by omega)
        have g1 := h3 1 (by omega)
        have g2 := h3 2 (by omega)
        simp only [addr_off] at g0 g1 g2
        exact ⟨g0, g1, g2⟩
    · obtain ⟨i, hi, rfl⟩ := List.mem_map.1 hv
      exact (hX i (List.mem_range.1 hi)).2
end Go.Proofs.Ythfakpekdjmpjaa
