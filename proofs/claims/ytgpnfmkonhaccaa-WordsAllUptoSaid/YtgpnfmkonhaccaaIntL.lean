/- Lists of numbers in memory: what the statements' helpers do with them. -/
import Derived.Test.YtgpnfmkonhaccaaOwn
import Derived.Deep.QuietTactic
import Derived.BigQuiet
namespace Go.Proofs.Ytgpnfmkonhaccaa
open Go.Conc Go.RowKit
set_option linter.unusedVariables false

def intCells (l : List Int) : List Value := l.map fun z => Value.int .i64 z
theorem intCells_length (l : List Int) : (intCells l).length = l.length := by simp [intCells]
theorem intCells_append (a b : List Int) : intCells (a ++ b) = intCells a ++ intCells b := by simp [intCells]
theorem intCells_get (l : List Int) (i : Nat) (h : i < l.length) : (intCells l)[i]? = some (.int .i64 l[i]) := by simp [intCells, h]
theorem infoInt : (Try.prog.info? 3).map (fun i => (i.zero, i.size, i.bytes)) = some (some (.int .i64 0), 1, 8) := by kernel_rfl

/-- A list of numbers that can be read. -/
def IsL (w : World) (a : Option Addr) (xs : List Int) : Prop :=
  xs = [] ∨ ∃ b off, a = some ⟨b, off, none⟩ ∧ ∀ i (h : i < xs.length), w.cell? ⟨b, off + i, none⟩ = some (.int .i64 xs[i])
theorem IsL.keep {w w' : World} {a : Option Addr} {xs : List Int} (h : IsL w a xs) (hk : ∀ b, some b = (a.map (·.block)) → w'.heap[b]? = w.heap[b]?) : IsL w' a xs := by
  rcases h with h | ⟨b, off, rfl, h⟩
  · exact .inl h
  · exact .inr ⟨b, off, rfl, fun i hi => by rw [World.cell?_of_block (hk b rfl)]; exact h i hi⟩
theorem IsL.below {w w' : World} {a : Option Addr} {xs : List Int} (h : IsL w a xs) (hb : Below w.heap.size w w') : IsL w' a xs := by
  rcases h with h | ⟨b, off, rfl, h⟩
  · exact .inl h
  · exact .inr ⟨b, off, rfl, fun i hi => (hb.cell (p := ⟨b, off + i, none⟩) (World.block_lt_of_cell? w ⟨b, off + i, none⟩ (h i hi))).trans (h i hi)⟩
theorem IsL.later {a0 w w' : World} {a : Option Addr} {xs : List Int} (h : IsL a0 a xs) (h0 : Below a0.heap.size a0 w) (hb : Below w.heap.size w w') : IsL w' a xs :=
  (h.below h0).below hb
theorem IsL.take {w : World} {a : Option Addr} {xs : List Int} (h : IsL w a xs) (n : Nat) : IsL w a (xs.take n) := by
  rcases h with rfl | ⟨b, off, rfl, h⟩
  · exact .inl (by simp)
  · refine .inr ⟨b, off, rfl, fun i hi => ?_⟩
    rw [List.length_take] at hi
    rw [h i (by omega), List.getElem_take]

/-- A row of numbers of one's own. -/
def OwnI (base : Nat) (w : World) (a : Option Addr) (cap : Nat) (xs : List Int) : Prop := w.ownsRow base 3 1 (.slice a xs.length cap) xs.length (intCells xs)
theorem addr_off (b off i : Nat) : (⟨b, off, none⟩ : Addr).add i = ⟨b, off + i, none⟩ := by
  unfold Addr.add
  by_cases h0 : i = 0
  · simp [h0]
  · simp [h0]
theorem OwnI.isL {base : Nat} {w : World} {a : Option Addr} {cap : Nat} {xs : List Int} (h : OwnI base w a cap xs) : IsL w a xs := by
  by_cases c : xs = []
  · exact .inl c
  · rcases h.2 with ⟨hv, h0⟩ | ⟨g, cp, cur, hv, hb, rest⟩
    · exact absurd (List.eq_nil_of_length_eq_zero h0) c
    · obtain rfl : a = some ⟨g, 0, none⟩ := by injection hv
      refine .inr ⟨g, 0, rfl, fun i hi => ?_⟩
      have := h.cells (g := g) rfl i _ (intCells_get xs i hi)
      rwa [addr_off] at this
theorem OwnI.same {base : Nat} {w w' : World} {a : Option Addr} {cap : Nat} {xs : List Int} (h : OwnI base w a cap xs) (hs : ∀ g, base ≤ g → g < w.heap.size → w'.heap[g]? = w.heap[g]?) : OwnI base w' a cap xs := own_same h hs
theorem OwnI.below {base : Nat} {w w' : World} {a : Option Addr} {cap : Nat} {xs : List Int} (h : OwnI base w a cap xs) (hb : Below w.heap.size w w') : OwnI base w' a cap xs := own_same h fun g _ hg => hb.block g hg
theorem OwnI.lower {base base' : Nat} {w : World} {a : Option Addr} {cap : Nat} {xs : List Int} (h : OwnI base w a cap xs) (hb : base' ≤ base) : OwnI base' w a cap xs := by
  refine ⟨h.1, ?_⟩
  rcases h.2 with hn | ⟨g, cp, cur, hv, hg, rest⟩
  · exact .inl hn
  · exact .inr ⟨g, cp, cur, hv, Nat.le_trans hb hg, rest⟩
theorem OwnI.nil (base : Nat) (w : World) : OwnI base w none 0 [] := World.ownsRow_nil _ _ _ _
/-- The block, if there is one. -/
theorem OwnI.block {base : Nat} {w : World} {a : Option Addr} {cap : Nat} {xs : List Int} (h : OwnI base w a cap xs) : (a = none ∧ cap = 0 ∧ xs = []) ∨ ∃ g, a = some ⟨g, 0, none⟩ ∧ base ≤ g ∧ g < w.heap.size ∧ xs.length ≤ cap ∧ ∃ cur, w.heap[g]? = some (.cells cur 3 (0, 0)) ∧ cur.size = cap := by
  rcases h.2 with ⟨hv, h0⟩ | ⟨g, cp, cur, hv, hb, hg, hn, hm, hs, ht⟩
  · injection hv with h1 h2 h3
    exact .inl ⟨h1, h3, List.eq_nil_of_length_eq_zero h0⟩
  · injection hv with h1 h2 h3
    subst h1 h3
    exact .inr ⟨g, rfl, hb, (Array.getElem?_eq_some_iff.1 hg).1, hn, cur, hg, by rw [hs, Nat.mul_one]⟩

theorem bel_drew {B : Nat} {a w : World} (h : Below B a w) (n : Nat) : Below B a (w.drewN n) := ⟨h.os, h.tape, h.output, h.size, h.block⟩

set_option maxRecDepth 100000 in
theorem sameints_any (w : World) (a b : Option Addr) (ca cb : Nat) (xs ys : List Int) (ha : IsL w a xs) (hb : IsL w b ys) (hx : xs.length ≤ maxLen) :
    Calls Try.prog 13 #[.slice a xs.length ca, .slice b ys.length cb] w fun e w' => e = .returned (.bool (decide (xs = ys))) ∧ Below w.heap.size w w' := by
  unfold maxLen at hx
  by_cases hn : xs.length = ys.length
  · have hd : ∀ n, n ≤ xs.length → xs.take n = ys.take n → (xs = ys ↔ xs.drop n = ys.drop n) := fun n _ h => by
      constructor
      · intro e; rw [e]
      · intro e; rw [← List.take_append_drop n xs, ← List.take_append_drop n ys, h, e]
    obtain ⟨R, hR⟩ : ∃ R, R = decide (xs = ys) := ⟨_, rfl⟩
    rw [← hR]
    rw [← hn]
    have HN := Lib.hid hn
    have HR := Lib.hid hR
    have HD := Lib.hid hd
    clear hn hR hd
    go_enter Try.func13, Try.ntmps13
    go_wp2
    go_loopw [5] (fun iv wr => ∃ n : Nat, n ≤ xs.length ∧ iv = .int .i64 n ∧ Hid (xs.take n = ys.take n) ∧ Hid (Below w.heap.size w wr)) (fun iv _ => xs.length - (intOf iv).toNat)
    case atStart => exact ⟨0, Nat.zero_le _, rfl, rfl, Below.refl _ _⟩
    case round =>
      obtain ⟨n, hle, rfl, HT, HB⟩ := hrel
      by_cases c : n < xs.length
      · have hne : xs ≠ [] := fun e => by rw [e] at c; simp at c
        have hney : ys ≠ [] := fun e => by have := HN.out; rw [e] at this; simp at this; rw [this] at c; simp at c
        rcases ha with ha | ⟨ba, oa, rfl, ha⟩
        · exact absurd ha hne
        rcases hb with hb | ⟨bb, ob, rfl, hb⟩
        · exact absurd hb hney
        have cy : n < ys.length := by have := HN.out; omega
        have h1 := (HB.out.cell (p := ⟨ba, oa + n, none⟩) (World.block_lt_of_cell? w _ (ha n c))).trans (ha n c)
        have h2 := (HB.out.cell (p := ⟨bb, ob + n, none⟩) (World.block_lt_of_cell? w _ (hb n cy))).trans (hb n cy)
        have hx1 : xs.drop n = xs[n] :: xs.drop (n + 1) := List.drop_eq_getElem_cons c
        have hy1 : ys.drop n = ys[n] :: ys.drop (n + 1) := List.drop_eq_getElem_cons cy
        have hx2 : xs.take (n + 1) = xs.take n ++ [xs[n]] := (List.take_append_getElem c).symm
        have hy2 : ys.take (n + 1) = ys.take n ++ [ys[n]] := (List.take_append_getElem cy).symm
        have HE := Lib.hid (HD.out n (by omega) HT.out)
        have HX1 := Lib.hid hx1
        have HY1 := Lib.hid hy1
        have HX2 := Lib.hid hx2
        have HY2 := Lib.hid hy2
        have hcy : (n : Int) < (ys.length : Int) := by omega
        clear hx1 hy1 hx2 hy2 ha hb hne hney
        generalize xs[n] = x at *
        generalize ys[n] = y at *
        by_cases e : x = y
        · subst e
          go_wp2
          go_quiet (fail)
          go_wp2
          go_roundw
          case rel => exact ⟨n + 1, by omega, by go_num, Lib.hid (by rw [HX2.out, HY2.out, HT.out]), bel_drew HB.out _⟩
          case measure => simp [intOf]; omega
        · have en : (x != y) = true := by simpa using e
          have hf : R = false := by
            rw [HR.out, decide_eq_false_iff_not, HE.out, HX1.out, HY1.out]
            intro k
            injection k with k1 k2
            exact e k1
          subst hf
          go_wp2
          go_quiet (fail)
          go_wp2
          go_ret
          exact ⟨rfl, bel_drew HB.out _⟩
      · obtain rfl : n = xs.length := by omega
        have ht : R = true := by
          have h1 := HT.out
          rw [List.take_length, HN.out, List.take_length] at h1
          rw [HR.out, h1]; simp
        subst ht
        clear c
        go_wp2
        go_ret
        exact ⟨rfl, HB.out⟩
  · have hne : ((xs.length : Int) != (ys.length : Int)) = true := by simp; omega
    have hf : decide (xs = ys) = false := decide_eq_false fun e => hn (by rw [e])
    rw [hf]
    go_enter Try.func13, Try.ntmps13
    go_wp2
    go_ret
    exact ⟨rfl, Below.refl _ _⟩
theorem own_form {w : World} {base e size n : Nat} {v : Value} {xs : List Value} (h : w.ownsRow base e size v n xs) : ∃ a cap, v = .slice a n cap := by
  rcases h.2 with ⟨rfl, rfl⟩ | ⟨g, cap, cur, rfl, _⟩
  · exact ⟨none, 0, rfl⟩
  · exact ⟨_, cap, rfl⟩
theorem own_some {w : World} {base e size n : Nat} {v : Value} {xs : List Value} (h : w.ownsRow base e size v n xs) (hn : v ≠ .slice none 0 0) : ∃ g cap, v = .slice (some ⟨g, 0, none⟩) n cap ∧ base ≤ g ∧ g < w.heap.size ∧ n ≤ cap ∧ cap ≤ maxLen := by
  rcases h.2 with ⟨rfl, rfl⟩ | ⟨g, cap, cur, rfl, hb, hg, h1, h2, _⟩
  · exact absurd rfl hn
  · exact ⟨g, cap, rfl, hb, (Array.getElem?_eq_some_iff.1 hg).1, h1, h2⟩
theorem int_cells_of {w : World} {b off : Nat} {xs : List Int} (h : ∀ i (h : i < xs.length), w.cell? ⟨b, off + i, none⟩ = some (.int .i64 xs[i])) : ∀ j u, (intCells xs)[j]? = some u → w.cell? ((⟨b, off, none⟩ : Addr).add j) = some u := by
  intro j u hj
  have hl : j < xs.length := by have := (List.getElem?_eq_some_iff.1 hj).1; rwa [intCells_length] at this
  rw [intCells_get xs j hl] at hj
  rw [addr_off, h j hl]
  exact hj
theorem int_one (xs : List Int) : ∀ u ∈ intCells xs, u.oneCell' = true := by
  intro u hu
  simp only [intCells, List.mem_map] at hu
  obtain ⟨z, _, rfl⟩ := hu
  rfl

set_option maxRecDepth 100000 in
theorem copyints_any (w : World) (a : Option Addr) (cap : Nat) (xs : List Int) (ha : IsL w a xs) (hn : a = none → xs.length = 0 ∧ cap = 0) (hx : xs.length * 8 ≤ 140737488355328) :
    Calls Try.prog 23 #[.slice a xs.length cap] w fun e w' => ∃ g c, e = .returned (.slice (some ⟨g, 0, none⟩) xs.length c) ∧ OwnI w.heap.size w' (some ⟨g, 0, none⟩) c xs ∧ Below w.heap.size w w' := by
  obtain ⟨i0, hi0, hz0, hz1, hz2⟩ := info_parts infoInt
  have hO : (w.alloc (.cells #[] 3)).ownsRow w.heap.size 3 1 (.slice (some ⟨w.heap.size, 0, none⟩) 0 0) 0 [] := World.ownsRow_made w #[] 0 (Nat.le_refl _) (Nat.zero_le _) rfl
  have HO := Lib.hid hO
  have HB : Hid (Below w.heap.size w (w.alloc (.cells #[] 3))) := (Below.refl _ _).alloc (Nat.le_refl _) _
  have HZ := Lib.hid hz0
  clear hz0 hO
  cases a with
  | none =>
    obtain ⟨h1, rfl⟩ := hn rfl
    have e1 : xs = [] := List.eq_nil_of_length_eq_zero h1
    subst e1
    clear hn h1 hx ha
    go_enter Try.func23, Try.ntmps23
    go_wp2_with (at_builtin; refine wpList_append_own_none rfl _ _ 23 rfl w.heap.size 3 i0 1 Try.underlying23 hi0 _ 0 [] rfl HO.out rfl ?_)
    go_ret
    exact ⟨_, _, rfl, HO.out, HB.out⟩
  | some ad =>
    have hc : ∀ j u, (intCells xs)[j]? = some u → (w.alloc (.cells #[] 3)).cell? (ad.add j) = some u := by
      rcases ha.below HB.out with rfl | ⟨b, off, e, h⟩
      · intro j u hj; simp [intCells] at hj
      · injection e with e
        subst e
        exact int_cells_of h
    have HC := Lib.hid hc
    clear hc ha hn
    have hl := intCells_length xs
    go_enter Try.func23, Try.ntmps23
    go_wp2_with (at_builtin; refine wpList_append_own _ rfl _ _ 23 rfl w.heap.size 3 i0 (.int .i64 0) 1 8 Try.underlying23 hi0 HZ.out hz1 hz2 rfl (by decide) (.slice (some ⟨w.heap.size, 0, none⟩) 0 0) 0 [] rfl HO.out ad xs.length cap (intCells xs) rfl (by rw [hl, Nat.mul_one]) HC.out (int_one xs) (by simp only [maxLen]; omega) (by omega) (by simp) ?_; intro v1 w1 h1 g1 n1; rw [Nat.zero_add, List.nil_append] at h1; obtain ⟨g, cp, rfl, hbg, hgl, hcp, hcm⟩ := own_some h1 (by rw [ne_eq, n1]; simp); have H1 := Lib.hid h1; have G1 := Lib.hid g1; clear h1 g1 n1)
    go_ret
    refine ⟨g, cp, rfl, H1.out, ?_⟩
    have hb := HB.out
    have hg := G1.out
    exact ⟨hg.os.trans hb.os, hg.tape.trans hb.tape, hg.output.trans hb.output, Nat.le_trans hb.size hg.size, fun k hk => (hg.block k (Nat.lt_of_lt_of_le hk hb.size) (by simp [Value.ownBlock]; omega)).trans (hb.block k hk)⟩

theorem grown_below {B : Nat} {a w w' : World} {v : Value} (h : Below B a w) (hB : B ≤ a.heap.size) (hg : w.grownBy w' v.ownBlock) (hv : ∀ k, v.ownBlock = some k → B ≤ k) : Below B a w' :=
  ⟨hg.os.trans h.os, hg.tape.trans h.tape, hg.output.trans h.output, Nat.le_trans h.size hg.size, fun k hk => (hg.block k (Nat.lt_of_lt_of_le (Nat.lt_of_lt_of_le hk hB) h.size) (fun e => by have := hv k e.symm; omega)).trans (h.block k hk)⟩
theorem marks_cells (w : World) (L : List Int) (hL : L = [-7777, -8888]) : ∀ j u, (intCells L)[j]? = some u → (w.alloc (.cells #[.int .i64 (-7777), .int .i64 (-8888)] 3)).cell? ((⟨w.heap.size, 0, none⟩ : Addr).add j) = some u := by
  subst hL
  have hb : (w.alloc (.cells #[.int .i64 (-7777), .int .i64 (-8888)] 3)).heap[w.heap.size]? = some (.cells #[.int .i64 (-7777), .int .i64 (-8888)] 3 (0, 0)) := heap_alloc_new w _
  intro j u hj
  rw [addr_off, Nat.zero_add, cell_of_row _ _ _ _ _ _ hb]
  simpa [intCells] using hj

set_option maxRecDepth 100000 in
theorem lendints_any (w : World) (a : Option Addr) (cap : Nat) (xs : List Int) (ha : IsL w a xs) (hn : a = none → xs.length = 0 ∧ cap = 0) (hx : (xs.length + 2) * 8 ≤ 140737488355328) :
    Calls Try.prog 7 #[.slice a xs.length cap] w fun e w' => ∃ g c, e = .returned (.slice (some ⟨g, 0, none⟩) xs.length c) ∧ OwnI w.heap.size w' (some ⟨g, 0, none⟩) c (xs ++ [-7777, -8888]) ∧ Below w.heap.size w w' := by
  obtain ⟨i0, hi0, hz0, hz1, hz2⟩ := info_parts infoInt
  have HZ := Lib.hid hz0
  have T := Lib.hid (copyints_any w a cap xs ha hn (by omega))
  obtain ⟨L, hL⟩ : ∃ L : List Int, L = [-7777, -8888] := ⟨_, rfl⟩
  rw [← hL]
  have hl : L.length = 2 := by rw [hL]; rfl
  have hcl : (intCells L).length = 2 := by rw [intCells_length, hl]
  have HM := Lib.hid (fun w => marks_cells w L hL)
  have HS : Hid (∀ base w (a : Option Addr) c, World.ownsRow base w 3 1 (.slice a xs.length c) xs.length (intCells xs) → True) := fun _ _ _ _ _ => trivial
  have hap := intCells_append xs L
  have hlen : (xs ++ L).length = xs.length + 2 := by rw [List.length_append, hl]
  unfold OwnI
  rw [hlen, hap]
  clear hap hlen hz0 hL hl ha hn HS
  go_enter Try.func7, Try.ntmps7
  go_wp2_with (first
    | (go_at_call 23; refine T.out.mono ?_; rintro e w1 ⟨g, c, rfl, h1, hb1⟩; have H1 := Lib.hid (OwnI.below h1 ((Below.refl w1.heap.size w1).alloc (Nat.le_refl _) (.cells #[.int .i64 (-7777), .int .i64 (-8888)] 3))); have HB1 := Lib.hid hb1; clear h1 hb1)
    | (at_builtin; refine wpList_append_own _ rfl _ _ 23 rfl w.heap.size 3 i0 (.int .i64 0) 1 8 Try.underlying23 hi0 HZ.out hz1 hz2 rfl (by decide) (.slice (some ⟨g, 0, none⟩) xs.length c) xs.length (intCells xs) rfl H1.out ⟨w1.heap.size, 0, none⟩ 2 2 (intCells L) rfl (by rw [hcl]) (HM.out w1) (int_one L) (by simp only [maxLen]; omega) (by omega) (by have := HB1.out.size; simp; omega) ?_; intro v2 w2 h2 g2 n2; obtain ⟨gg, cp, rfl, hbg, hgl, hcp, hcm⟩ := own_some h2 (by rw [ne_eq, n2]; simp); have H2 := Lib.hid h2; have G2 := Lib.hid g2; clear h2 g2 n2))
  go_ret
  refine ⟨gg, cp, rfl, H2.out, ?_⟩
  have hb := (HB1.out.alloc HB1.out.size (.cells #[.int .i64 (-7777), .int .i64 (-8888)] 3))
  exact grown_below hb (Nat.le_refl _) G2.out fun k hk => own_block H1.out hk.symm

set_option maxRecDepth 100000 in
theorem keptints_any (w : World) (g c : Nat) (b : Option Addr) (cb base : Nat) (xs : List Int) (h : OwnI base w (some ⟨g, 0, none⟩) c (xs ++ [-7777, -8888])) (hb : IsL w b xs) (hx : (xs.length + 2) * 8 ≤ 140737488355328) :
    Calls Try.prog 16 #[.slice (some ⟨g, 0, none⟩) xs.length c, .slice b xs.length cb] w fun e w' => e = .returned (.bool true) ∧ Below w.heap.size w w' := by
  have hl : IsL w (some ⟨g, 0, none⟩) (xs ++ [-7777, -8888]) := h.isL
  have hl2 : IsL w (some ⟨g, 0, none⟩) xs := by have := hl.take xs.length; rwa [List.take_left] at this
  have hc : xs.length + 2 ≤ c := by
    rcases h.block with ⟨h, _⟩ | ⟨g', e, _, _, h, _⟩
    · cases h
    · simpa using h
  have T := Lib.hid (sameints_any w (some ⟨g, 0, none⟩) b c cb xs xs hl2 hb (by simp only [maxLen]; omega))
  rw [decide_eq_true rfl] at T
  have hm : w.cell? ⟨g, 0 + xs.length, none⟩ = some (.int .i64 (-7777)) ∧ w.cell? ⟨g, 0 + (xs.length + 1), none⟩ = some (.int .i64 (-8888)) := by
    rcases hl with h | ⟨b, off, e, h⟩
    · simp at h
    · injection e with e
      injection e with e1 e2 e3
      subst e1 e2
      constructor
      · rw [h xs.length (by simp)]; simp
      · rw [h (xs.length + 1) (by simp)]; simp
  rw [Nat.zero_add, Nat.zero_add] at hm
  have HM := Lib.hid hm
  have hg : g < w.heap.size := World.block_lt_of_cell? w _ hm.1
  clear h hb hl hl2 hm
  go_enter Try.func16, Try.ntmps16
  go_wp2_with (go_at_call 13; refine T.out.mono ?_; rintro e w1 ⟨rfl, hb1⟩; have c1 := (hb1.cell (p := ⟨g, xs.length, none⟩) hg).trans HM.out.1; have c2 := (hb1.cell (p := ⟨g, xs.length + 1, none⟩) hg).trans HM.out.2; have HB1 := Lib.hid hb1; clear hb1)
  go_ret
  exact ⟨rfl, HB1.out⟩

set_option maxRecDepth 100000 in
theorem spoilints_any (w : World) (a : Option Addr) (c base : Nat) (xs : List Int) (h : OwnI base w a c xs) (hx : xs.length ≤ maxLen) :
    Calls Try.prog 18 #[.slice a xs.length c] w fun e w' => e = .returned (.tuple #[]) ∧ Frm (fun k => some k = a.map (·.block)) w w' := by
  unfold maxLen at hx
  rcases h.block with ⟨rfl, rfl, rfl⟩ | ⟨g, rfl, _, hg, hc, cur, hcur, hsz⟩
  · clear h
    go_enter Try.func18, Try.ntmps18
    go_wp2
    go_loop [2] (fun iv => iv = .int .i64 0) (fun _ => 0)
    case atStart => rfl
    case round =>
      subst hrel
      go_wp2
      go_end0
      exact ⟨rfl, Frm.refl _ _⟩
  · have hi : ∀ i, i < xs.length → ∃ z, cur[i]? = some (.int .i64 z) := by
      intro i hi
      rcases h.isL with h | ⟨b, off, e, h⟩
      · subst h; simp at hi
      · injection e with e
        injection e with e1 e2 e3
        subst e1 e2
        have := h i hi
        rw [Nat.zero_add, cell_of_row _ _ _ _ _ _ hcur] at this
        exact ⟨_, this⟩
    have HI := Lib.hid hi
    have HC := Lib.hid hcur
    clear hi hcur h
    go_enter Try.func18, Try.ntmps18
    go_wp2
    go_loopw [2] (fun iv wr => ∃ n : Nat, n ≤ xs.length ∧ iv = .int .i64 n ∧ Hid (Frm (fun k => some k = (some (⟨g, 0, none⟩ : Addr)).map (·.block)) w wr) ∧ Hid (∃ cur, wr.heap[g]? = some (.cells cur 3 (0, 0)) ∧ ∀ i, i < xs.length → ∃ z, cur[i]? = some (.int .i64 z))) (fun iv _ => xs.length - (intOf iv).toNat)
    case atStart => exact ⟨0, Nat.zero_le _, rfl, Frm.refl _ _, cur, HC.out, HI.out⟩
    case round =>
      obtain ⟨n, hle, rfl, HF, hcur2⟩ := hrel
      by_cases cn : n < xs.length
      · obtain ⟨cr, hcr, hall⟩ := hcur2
        obtain ⟨z, hz⟩ := hall n cn
        have hce := (cell_of_row wr g n _ _ _ hcr).trans hz
        have hfz := frozen_of_row wr g n _ _ hcr
        have HA := Lib.hid hall
        have HCR := Lib.hid hcr
        have hns : n < cr.size := (Array.getElem?_eq_some_iff.1 hz).1
        clear hall hcr hz
        go_wp2
        go_roundw
        case rel =>
          refine ⟨n + 1, by omega, by go_num, HF.out.setCell (p := ⟨g, n, none⟩) rfl _, _, heap_setCell_same _ _ _ _ _ _ HCR.out, fun i hi => ?_⟩
          rw [Array.getElem?_setIfInBounds]
          by_cases e : n = i
          · rw [if_pos e, if_pos hns]; exact ⟨_, rfl⟩
          · rw [if_neg e]; exact HA.out i hi
        case measure => simp [intOf]; omega
      · obtain rfl : n = xs.length := by omega
        clear cn
        go_wp2
        go_end0
        exact ⟨rfl, HF.out⟩
end Go.Proofs.Ytgpnfmkonhaccaa
