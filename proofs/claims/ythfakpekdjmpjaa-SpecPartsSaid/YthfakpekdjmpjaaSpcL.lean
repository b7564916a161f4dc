/- Groups of rows, plainly: which row's part stands among the unlike ones. No program is spoken of. The program's specs: a row's part, an array of four values. The program's specs: what each field makes of a row. The program's specs: Part. -/
import Derived.Test.YthfakpekdjmpjaaSpm2
import Derived.Test.YthfakpekdjmpjaaWmath
import Derived.Test.YthfakpekdjmpjaaSpcJ
import Derived.Test.YthfakpekdjmpjaaSpcM
import Derived.BigQuiet
import Derived.Test.YthfakpekdjmpjaaQe
namespace Go.Proofs.Ythfakpekdjmpjaa
open Go.Conc Go.RowKit
set_option linter.unusedVariables false
set_option linter.unusedSimpArgs false

/-- A part's place; as many as there are, where it is none. -/
def placeG (p : List V) : List (List V) → Nat
  | [] => 0
  | w :: r => if w = p then 0 else placeG p r + 1
theorem placeG_le (p : List V) : ∀ ws : List (List V), placeG p ws ≤ ws.length
  | [] => Nat.le_refl _
  | w :: r => by
    rw [placeG]
    have := placeG_le p r
    split <;> simp <;> omega
theorem placeG_is (p : List V) : ∀ (ws : List (List V)) (k : Nat), k ≤ ws.length → (∀ i, i < k → ws.getD i [] ≠ p) → (k = ws.length ∨ ws.getD k [] = p) → placeG p ws = k
  | [], k, hk, _, _ => by have : k = 0 := by simpa using hk
                          rw [this]; rfl
  | w :: r, 0, _, _, h => by
    rw [placeG]
    rcases h with h | h
    · simp at h
    · rw [if_pos (by simpa using h)]
  | w :: r, k + 1, hk, h1, h2 => by
    have h0 : w ≠ p := by simpa using h1 0 (by omega)
    rw [placeG, if_neg h0, placeG_is p r k (by simpa using hk) (fun i hi => by simpa using h1 (i + 1) (by omega)) (by simpa using h2)]
theorem placeG_at (p : List V) : ∀ ws : List (List V), placeG p ws < ws.length → ws.getD (placeG p ws) [] = p
  | [], h => by simp [placeG] at h
  | w :: r, h => by
    rw [placeG] at h ⊢
    by_cases c : w = p
    · rw [if_pos c]; simpa using c
    · rw [if_neg c] at h ⊢
      simpa using placeG_at p r (by simpa using h)
theorem placeG_before (p : List V) : ∀ (ws : List (List V)) (i : Nat), i < placeG p ws → ws.getD i [] ≠ p
  | [], i, h => by simp [placeG] at h
  | w :: r, 0, h => by
    rw [placeG] at h
    by_cases c : w = p
    · rw [if_pos c] at h; simp at h
    · simpa using c
  | w :: r, i + 1, h => by
    rw [placeG] at h
    by_cases c : w = p
    · rw [if_pos c] at h; simp at h
    · rw [if_neg c] at h
      simpa using placeG_before p r i (by omega)
theorem placeG_none (p : List V) (ws : List (List V)) : placeG p ws = ws.length ↔ ∀ i, i < ws.length → ws.getD i [] ≠ p := by
  constructor
  · intro h i hi
    exact placeG_before p ws i (by omega)
  · intro h
    exact placeG_is p ws ws.length (Nat.le_refl _) h (.inl rfl)

/-- A part more. -/
def grpStep (r : List (List V) × List Int) (q : List V) : List (List V) × List Int :=
  (if placeG q r.1 = r.1.length then r.1 ++ [q] else r.1, r.2 ++ [((placeG q r.1 : Nat) : Int)])
def grpA (qs : List (List V)) : List (List V) × List Int := qs.foldl grpStep ([], [])
theorem grpA_nil : grpA [] = ([], []) := rfl
theorem grpA_snoc (qs : List (List V)) (q : List V) : grpA (qs ++ [q]) = grpStep (grpA qs) q := by unfold grpA; rw [List.foldl_append]; rfl
theorem grpA_take (qs : List (List V)) (n : Nat) (h : n < qs.length) : grpA (qs.take (n + 1)) = grpStep (grpA (qs.take n)) qs[n] := by
  rw [← List.take_append_getElem h, grpA_snoc]

structure Grouped (qs ws : List (List V)) (at_ : List Int) : Prop where
  len : at_.length = qs.length
  le : ws.length ≤ qs.length
  apart : ∀ i j, i < j → j < ws.length → ws.getD i [] ≠ ws.getD j []
  place : ∀ i, i < qs.length → ∃ k : Nat, at_.getD i 0 = (k : Int) ∧ k < ws.length ∧ ws.getD k [] = qs.getD i []
  mem : ∀ w ∈ ws, w ∈ qs
theorem grouped (qs : List (List V)) : Grouped qs (grpA qs).1 (grpA qs).2 := by
  refine snoc_ind (P := fun qs => Grouped qs (grpA qs).1 (grpA qs).2) ⟨rfl, Nat.le_refl _, fun i j _ hj => by simp [grpA] at hj, fun i hi => by simp at hi, fun w hw => by simp [grpA] at hw⟩ (fun qs q h => ?_) qs
  rw [grpA_snoc]
  generalize grpA qs = r at *
  obtain ⟨ws, at_⟩ := r
  simp only at h
  unfold grpStep
  simp only
  have hle := placeG_le q ws
  have hplace : ∀ (ws' : List (List V)), (∀ k, k < ws.length → ws'.getD k [] = ws.getD k []) → ws.length ≤ ws'.length → placeG q ws < ws'.length → ws'.getD (placeG q ws) [] = q →
      ∀ i, i < (qs ++ [q]).length → ∃ k : Nat, (at_ ++ [((placeG q ws : Nat) : Int)]).getD i 0 = (k : Int) ∧ k < ws'.length ∧ ws'.getD k [] = (qs ++ [q]).getD i [] := by
    intro ws' h1 h2 h3 h4 i hi
    by_cases c : i < qs.length
    · obtain ⟨k, k1, k2, k3⟩ := h.place i c
      exact ⟨k, by rw [getD_left (by rw [h.len]; exact c)]; exact k1, by omega, by rw [h1 k k2, getD_left c]; exact k3⟩
    · obtain rfl : i = qs.length := by simp at hi; omega
      refine ⟨placeG q ws, by rw [← h.len, getD_end], h3, by rw [h4, getD_end]⟩
  by_cases c : placeG q ws = ws.length
  · rw [if_pos c]
    have hn := (placeG_none q ws).1 c
    refine ⟨by simp [h.len], by simp; exact h.le, fun i j hij hj => ?_, hplace _ (fun k hk => getD_left hk) (by simp) (by simp; omega) (by rw [c, getD_end]), fun w hw => ?_⟩
    · by_cases e : j < ws.length
      · rw [getD_left e, getD_left (by omega)]; exact h.apart i j hij e
      · obtain rfl : j = ws.length := by simp at hj; omega
        rw [getD_end, getD_left hij]; exact hn i hij
    · rcases List.mem_append.1 hw with hw | hw
      · exact List.mem_append_left _ (h.mem w hw)
      · exact List.mem_append_right _ hw
  · rw [if_neg c]
    exact ⟨by simp [h.len], by simp; have := h.le; omega, h.apart, hplace ws (fun _ _ => rfl) (Nat.le_refl _) (by omega) (placeG_at q ws (by omega)), fun w hw => List.mem_append_left _ (h.mem w hw)⟩
theorem grp_at (qs : List (List V)) (n : Nat) (h : n < qs.length) : (grpA qs).2.getD n 0 = ((placeG qs[n] (grpA (qs.take n)).1 : Nat) : Int) := by
  have : ∀ d m, m = n + 1 + d → m ≤ qs.length → (grpA (qs.take m)).2.getD n 0 = ((placeG qs[n] (grpA (qs.take n)).1 : Nat) : Int) := by
    intro d
    induction d with
    | zero =>
      rintro m rfl hm
      have hl : (grpA (qs.take n)).2.length = n := by rw [(grouped (qs.take n)).len, List.length_take]; omega
      have hg : ∀ (l : List Int) (x : Int), l.length = n → (l ++ [x]).getD n 0 = x := fun l x e => by rw [← e]; exact getD_end
      rw [Nat.add_zero, grpA_take qs n h]
      exact hg _ _ hl
    | succ d ih =>
      rintro m rfl hm
      rw [show n + 1 + (d + 1) = (n + 1 + d) + 1 by omega, grpA_take qs _ (by omega)]
      have hl : (grpA (qs.take (n + 1 + d))).2.length = n + 1 + d := by rw [(grouped _).len, List.length_take]; omega
      unfold grpStep
      simp only
      rw [getD_left (by rw [hl]; omega)]
      exact ih _ rfl (by omega)
  have := this (qs.length - (n + 1)) qs.length (by omega) (Nat.le_refl _)
  rwa [List.take_length] at this
theorem grp_len (qs : List (List V)) (n : Nat) (h : n < qs.length) : (grpA (qs.take (n + 1))).1.length = if placeG qs[n] (grpA (qs.take n)).1 = (grpA (qs.take n)).1.length then (grpA (qs.take n)).1.length + 1 else (grpA (qs.take n)).1.length := by
  rw [grpA_take qs n h]
  unfold grpStep
  simp only
  split
  · rw [List.length_append]; rfl
  · rfl
theorem grp_same (qs : List (List V)) (i k : Nat) (hi : i < qs.length) (hk : k < qs.length) : (grpA qs).2.getD i 0 = (grpA qs).2.getD k 0 ↔ qs.getD i [] = qs.getD k [] := by
  have h := grouped qs
  obtain ⟨x, x1, x2, x3⟩ := h.place i hi
  obtain ⟨y, y1, y2, y3⟩ := h.place k hk
  rw [x1, y1, ← x3, ← y3]
  constructor
  · intro e
    rw [show x = y by omega]
  · intro e
    rcases Nat.lt_trichotomy x y with c | c | c
    · exact absurd e (h.apart x y c y2)
    · rw [c]
    · exact absurd e.symm (h.apart y x c x2)
/-- Parts that are all one are one group. -/
theorem grp_one (qs : List (List V)) (q : List V) (hq : ∀ x ∈ qs, x = q) (i : Nat) (hi : i < qs.length) : (grpA qs).2.getD i 0 = 0 := by
  have h0 : 0 < qs.length := by omega
  have e0 : (grpA qs).2.getD 0 0 = 0 := by rw [grp_at qs 0 h0]; rfl
  refine ((grp_same qs i 0 hi h0).2 ?_).trans e0
  have g : ∀ j, j < qs.length → qs.getD j [] = q := fun j hj => by
    rw [List.getD_eq_getElem?_getD, List.getElem?_eq_getElem hj]; exact hq _ (List.getElem_mem hj)
  rw [g i hi, g 0 h0]
def splitA (p : Sp) (s : Sc) (rs : List (List V)) : List Int × Int := if maySp p s && rs.all (rowB13 s.cs) then ((grpA (rs.map (partL p.fs s.cs))).2, 0) else ([], 1300)
theorem splitA_no {p : Sp} {s : Sc} {rs : List (List V)} (h : maySp p s = false) : splitA p s rs = ([], 1300) := by unfold splitA; rw [h]; rfl
theorem splitA_bad {p : Sp} {s : Sc} {rs : List (List V)} {k : Nat} (hk : k < rs.length) (h : rowB13 s.cs rs[k] = false) : splitA p s rs = ([], 1300) := by
  unfold splitA
  have : rs.all (rowB13 s.cs) = false := by rw [List.all_eq_false]; exact ⟨_, List.getElem_mem hk, by rw [h]; simp⟩
  rw [this, Bool.and_false]; rfl
theorem splitA_good {p : Sp} {s : Sc} {rs : List (List V)} (hm : maySp p s = true) (h : ∀ r ∈ rs, rowB13 s.cs r = true) : splitA p s rs = ((grpA (rs.map (partL p.fs s.cs))).2, 0) := by
  unfold splitA
  rw [hm, List.all_eq_true.2 h]; rfl
theorem partA_no {p : Sp} {s : Sc} {r : List V} (h : (maySp p s && rowB13 s.cs r) = false) : partA p s r = ([], 1300) := by unfold partA; rw [h]; rfl
theorem partA_yes {p : Sp} {s : Sc} {r : List V} (h : maySp p s = true) (h2 : rowB13 s.cs r = true) : partA p s r = (partL p.fs s.cs r, 0) := by unfold partA; rw [h, h2]; rfl
theorem partL_length (fs : List Fd) (cs : List Co) (r : List V) : (partL fs cs r).length = fs.length := List.length_map ..
theorem maysp_most {p : Sp} {s : Sc} (h : maySp p s = true) : p.fs.length ≤ 4 ∧ maySc s = true ∧ ∀ k, k < p.fs.length → okFd s.cs p.fs k = true := by
  unfold maySp at h
  rw [Bool.and_eq_true, Bool.and_eq_true] at h
  obtain ⟨⟨h1, h2⟩, h3⟩ := h
  unfold bndSp at h1
  rw [decide_eq_true_eq] at h1
  exact ⟨h1.2.2, h2, fun k hk => List.all_eq_true.1 h3 k (List.mem_range.2 hk)⟩
end Go.Proofs.Ythfakpekdjmpjaa

namespace Go.Proofs.Ythfakpekdjmpjaa
open Go.Conc Go.RowKit
set_option linter.unusedVariables false
set_option linter.unusedSimpArgs false

/-- An array of four values: the list's, and nothing behind them. -/
def partC (l : List V) : Array Value := #[.int .i64 (l.getD 0 zeroV).k, .int .i64 (l.getD 0 zeroV).i, .bool (l.getD 0 zeroV).b, .string (l.getD 0 zeroV).s, .int .i64 (l.getD 1 zeroV).k, .int .i64 (l.getD 1 zeroV).i, .bool (l.getD 1 zeroV).b, .string (l.getD 1 zeroV).s, .int .i64 (l.getD 2 zeroV).k, .int .i64 (l.getD 2 zeroV).i, .bool (l.getD 2 zeroV).b, .string (l.getD 2 zeroV).s, .int .i64 (l.getD 3 zeroV).k, .int .i64 (l.getD 3 zeroV).i, .bool (l.getD 3 zeroV).b, .string (l.getD 3 zeroV).s]
/-- A variable of type part. -/
structure PSlot (w : World) (g : Nat) (l : List V) : Prop where
  b : w.heap[g]? = some (.cells (partC l) 115 (0, 0))
theorem PSlot.lt {w : World} {g : Nat} {l : List V} (h : PSlot w g l) : g < w.heap.size := (Array.getElem?_eq_some_iff.1 h.b).1
theorem PSlot.same {w w' : World} {g : Nat} {l : List V} (h : PSlot w g l) (hb : w'.heap[g]? = w.heap[g]?) : PSlot w' g l := ⟨by rw [hb]; exact h.b⟩
theorem PSlot.below {w w' : World} {g : Nat} {l : List V} (h : PSlot w g l) (hb : Below w.heap.size w w') : PSlot w' g l := h.same (hb.block g h.lt)
theorem PSlot.new (w : World) (l : List V) : PSlot (w.alloc (.cells (partC l) 115)) w.heap.size l := ⟨heap_alloc_new w _⟩
theorem PSlot.val {w : World} {g : Nat} {l : List V} (h : PSlot w g l) {k : Nat} (hk : k < 4) : ValAt w g (k * 4) (l.getD k zeroV) := by
  have e : ∀ j, w.cell? ⟨g, j, none⟩ = (partC l)[j]? := fun j => cell_of_row _ _ _ _ _ _ h.b
  rcases k with _ | _ | _ | _ | k
  · exact ⟨(e _).trans rfl, (e _).trans rfl, (e _).trans rfl, (e _).trans rfl⟩
  · exact ⟨(e _).trans rfl, (e _).trans rfl, (e _).trans rfl, (e _).trans rfl⟩
  · exact ⟨(e _).trans rfl, (e _).trans rfl, (e _).trans rfl, (e _).trans rfl⟩
  · exact ⟨(e _).trans rfl, (e _).trans rfl, (e _).trans rfl, (e _).trans rfl⟩
  · omega
theorem PSlot.free {w : World} {g : Nat} {l : List V} (h : PSlot w g l) (j : Nat) : w.frozen? ⟨g, j, none⟩ = false := frozen_of_row w g j _ _ h.b
/-- A value is put behind the others. -/
def putP (w : World) (g n : Nat) (p : V) : World := (((w.setCell ⟨g, n * 4, none⟩ (.int .i64 p.k)).setCell ⟨g, n * 4 + 1, none⟩ (.int .i64 p.i)).setCell ⟨g, n * 4 + 2, none⟩ (.bool p.b)).setCell ⟨g, n * 4 + 3, none⟩ (.string p.s)
theorem PSlot.put {w : World} {g : Nat} {l : List V} (h : PSlot w g l) {n : Nat} (hn : l.length = n) (h4 : n < 4) (p : V) : PSlot (putP w g n p) g (l ++ [p]) := by
  refine ⟨?_⟩
  unfold putP
  rw [heap_setCell_same _ _ _ _ _ _ (heap_setCell_same _ _ _ _ _ _ (heap_setCell_same _ _ _ _ _ _ (heap_setCell_same _ _ _ _ _ _ h.b)))]
  subst hn
  match l, h4 with
  | [], _ => rfl
  | [_], _ => rfl
  | [_, _], _ => rfl
  | [_, _, _], _ => rfl
theorem putP_below {w a : World} {B g n : Nat} (h : Below B a w) (hg : B ≤ g) (p : V) : Below B a (putP w g n p) := (((h.setCell hg _).setCell hg _).setCell hg _).setCell hg _
theorem putP_other {w : World} {g n k : Nat} (hne : k ≠ g) (p : V) : (putP w g n p).heap[k]? = w.heap[k]? := by
  unfold putP
  rw [Below.heap_setCell _ _ _ _ hne, Below.heap_setCell _ _ _ _ hne, Below.heap_setCell _ _ _ _ hne, Below.heap_setCell _ _ _ _ hne]
theorem PSlot.all {w : World} {g : Nat} {l : List V} (h : PSlot w g l) : w.cell? ⟨g, 0, none⟩ = some (.int .i64 (l.getD 0 zeroV).k) ∧ w.cell? ⟨g, 1, none⟩ = some (.int .i64 (l.getD 0 zeroV).i) ∧ w.cell? ⟨g, 2, none⟩ = some (.bool (l.getD 0 zeroV).b) ∧ w.cell? ⟨g, 3, none⟩ = some (.string (l.getD 0 zeroV).s) ∧ w.cell? ⟨g, 4, none⟩ = some (.int .i64 (l.getD 1 zeroV).k) ∧ w.cell? ⟨g, 5, none⟩ = some (.int .i64 (l.getD 1 zeroV).i) ∧ w.cell? ⟨g, 6, none⟩ = some (.bool (l.getD 1 zeroV).b) ∧ w.cell? ⟨g, 7, none⟩ = some (.string (l.getD 1 zeroV).s) ∧ w.cell? ⟨g, 8, none⟩ = some (.int .i64 (l.getD 2 zeroV).k) ∧ w.cell? ⟨g, 9, none⟩ = some (.int .i64 (l.getD 2 zeroV).i) ∧ w.cell? ⟨g, 10, none⟩ = some (.bool (l.getD 2 zeroV).b) ∧ w.cell? ⟨g, 11, none⟩ = some (.string (l.getD 2 zeroV).s) ∧ w.cell? ⟨g, 12, none⟩ = some (.int .i64 (l.getD 3 zeroV).k) ∧ w.cell? ⟨g, 13, none⟩ = some (.int .i64 (l.getD 3 zeroV).i) ∧ w.cell? ⟨g, 14, none⟩ = some (.bool (l.getD 3 zeroV).b) ∧ w.cell? ⟨g, 15, none⟩ = some (.string (l.getD 3 zeroV).s) := by
  have e : ∀ j, w.cell? ⟨g, j, none⟩ = (partC l)[j]? := fun j => cell_of_row _ _ _ _ _ _ h.b
  exact ⟨(e _).trans rfl, (e _).trans rfl, (e _).trans rfl, (e _).trans rfl, (e _).trans rfl, (e _).trans rfl, (e _).trans rfl, (e _).trans rfl, (e _).trans rfl, (e _).trans rfl, (e _).trans rfl, (e _).trans rfl, (e _).trans rfl, (e _).trans rfl, (e _).trans rfl, (e _).trans rfl⟩
theorem PSlot.frees {w : World} {g : Nat} {l : List V} (h : PSlot w g l) : w.frozen? ⟨g, 0, none⟩ = false ∧ w.frozen? ⟨g, 1, none⟩ = false ∧ w.frozen? ⟨g, 2, none⟩ = false ∧ w.frozen? ⟨g, 3, none⟩ = false ∧ w.frozen? ⟨g, 4, none⟩ = false ∧ w.frozen? ⟨g, 5, none⟩ = false ∧ w.frozen? ⟨g, 6, none⟩ = false ∧ w.frozen? ⟨g, 7, none⟩ = false ∧ w.frozen? ⟨g, 8, none⟩ = false ∧ w.frozen? ⟨g, 9, none⟩ = false ∧ w.frozen? ⟨g, 10, none⟩ = false ∧ w.frozen? ⟨g, 11, none⟩ = false ∧ w.frozen? ⟨g, 12, none⟩ = false ∧ w.frozen? ⟨g, 13, none⟩ = false ∧ w.frozen? ⟨g, 14, none⟩ = false ∧ w.frozen? ⟨g, 15, none⟩ = false := ⟨h.free 0, h.free 1, h.free 2, h.free 3, h.free 4, h.free 5, h.free 6, h.free 7, h.free 8, h.free 9, h.free 10, h.free 11, h.free 12, h.free 13, h.free 14, h.free 15⟩
/-- A whole array is written. -/
def putW (w : World) (g : Nat) (l : List V) : World := (((((((((((((((w.setCell ⟨g, 0, none⟩ (.int .i64 (l.getD 0 zeroV).k)).setCell ⟨g, 1, none⟩ (.int .i64 (l.getD 0 zeroV).i)).setCell ⟨g, 2, none⟩ (.bool (l.getD 0 zeroV).b)).setCell ⟨g, 3, none⟩ (.string (l.getD 0 zeroV).s)).setCell ⟨g, 4, none⟩ (.int .i64 (l.getD 1 zeroV).k)).setCell ⟨g, 5, none⟩ (.int .i64 (l.getD 1 zeroV).i)).setCell ⟨g, 6, none⟩ (.bool (l.getD 1 zeroV).b)).setCell ⟨g, 7, none⟩ (.string (l.getD 1 zeroV).s)).setCell ⟨g, 8, none⟩ (.int .i64 (l.getD 2 zeroV).k)).setCell ⟨g, 9, none⟩ (.int .i64 (l.getD 2 zeroV).i)).setCell ⟨g, 10, none⟩ (.bool (l.getD 2 zeroV).b)).setCell ⟨g, 11, none⟩ (.string (l.getD 2 zeroV).s)).setCell ⟨g, 12, none⟩ (.int .i64 (l.getD 3 zeroV).k)).setCell ⟨g, 13, none⟩ (.int .i64 (l.getD 3 zeroV).i)).setCell ⟨g, 14, none⟩ (.bool (l.getD 3 zeroV).b)).setCell ⟨g, 15, none⟩ (.string (l.getD 3 zeroV).s)
theorem PSlot.putW {w : World} {g : Nat} {l0 : List V} (h : PSlot w g l0) (l : List V) : PSlot (putW w g l) g l := by
  refine ⟨?_⟩
  have e0 := h.b
  have e1 := heap_setCell_same _ g 0 _ _ (.int .i64 (l.getD 0 zeroV).k) e0
  have e2 := heap_setCell_same _ g 1 _ _ (.int .i64 (l.getD 0 zeroV).i) e1
  clear e1
  have e3 := heap_setCell_same _ g 2 _ _ (.bool (l.getD 0 zeroV).b) e2
  clear e2
  have e4 := heap_setCell_same _ g 3 _ _ (.string (l.getD 0 zeroV).s) e3
  clear e3
  have e5 := heap_setCell_same _ g 4 _ _ (.int .i64 (l.getD 1 zeroV).k) e4
  clear e4
  have e6 := heap_setCell_same _ g 5 _ _ (.int .i64 (l.getD 1 zeroV).i) e5
  clear e5
  have e7 := heap_setCell_same _ g 6 _ _ (.bool (l.getD 1 zeroV).b) e6
  clear e6
  have e8 := heap_setCell_same _ g 7 _ _ (.string (l.getD 1 zeroV).s) e7
  clear e7
  have e9 := heap_setCell_same _ g 8 _ _ (.int .i64 (l.getD 2 zeroV).k) e8
  clear e8
  have e10 := heap_setCell_same _ g 9 _ _ (.int .i64 (l.getD 2 zeroV).i) e9
  clear e9
  have e11 := heap_setCell_same _ g 10 _ _ (.bool (l.getD 2 zeroV).b) e10
  clear e10
  have e12 := heap_setCell_same _ g 11 _ _ (.string (l.getD 2 zeroV).s) e11
  clear e11
  have e13 := heap_setCell_same _ g 12 _ _ (.int .i64 (l.getD 3 zeroV).k) e12
  clear e12
  have e14 := heap_setCell_same _ g 13 _ _ (.int .i64 (l.getD 3 zeroV).i) e13
  clear e13
  have e15 := heap_setCell_same _ g 14 _ _ (.bool (l.getD 3 zeroV).b) e14
  clear e14
  have e16 := heap_setCell_same _ g 15 _ _ (.string (l.getD 3 zeroV).s) e15
  clear e15
  unfold Go.Proofs.Ythfakpekdjmpjaa.putW
  refine e16.trans ?_
  have e : ∀ C C' : Array Value, C = C' → some (Obj.cells C 115 (0, 0)) = some (Obj.cells C' 115 (0, 0)) := fun C C' h => by rw [h]
  refine e _ _ ?_
  clear e16 e0 h
  kernel_rfl
theorem putW_below {w a : World} {B g : Nat} (h : Below B a w) (hg : B ≤ g) (l : List V) : Below B a (putW w g l) := (((((((((((((((h.setCell hg _).setCell hg _).setCell hg _).setCell hg _).setCell hg _).setCell hg _).setCell hg _).setCell hg _).setCell hg _).setCell hg _).setCell hg _).setCell hg _).setCell hg _).setCell hg _).setCell hg _).setCell hg _
theorem putW_other {w : World} {g k : Nat} (hne : k ≠ g) (l : List V) : (putW w g l).heap[k]? = w.heap[k]? := by
  unfold putW
  rw [Below.heap_setCell _ _ _ _ hne, Below.heap_setCell _ _ _ _ hne, Below.heap_setCell _ _ _ _ hne, Below.heap_setCell _ _ _ _ hne, Below.heap_setCell _ _ _ _ hne, Below.heap_setCell _ _ _ _ hne, Below.heap_setCell _ _ _ _ hne, Below.heap_setCell _ _ _ _ hne, Below.heap_setCell _ _ _ _ hne, Below.heap_setCell _ _ _ _ hne, Below.heap_setCell _ _ _ _ hne, Below.heap_setCell _ _ _ _ hne, Below.heap_setCell _ _ _ _ hne, Below.heap_setCell _ _ _ _ hne, Below.heap_setCell _ _ _ _ hne, Below.heap_setCell _ _ _ _ hne]
/-- Two lists of as many values are one where their arrays are. -/
theorem getD_inj {a b : List V} (hl : a.length = b.length) (h4 : a.length ≤ 4) (h : a.getD 0 zeroV = b.getD 0 zeroV ∧ a.getD 1 zeroV = b.getD 1 zeroV ∧ a.getD 2 zeroV = b.getD 2 zeroV ∧ a.getD 3 zeroV = b.getD 3 zeroV) : a = b := by
  match a, b, hl, h4, h with
  | [], [], _, _, _ => rfl
  | [_], [_], _, _, h => obtain ⟨h0, h1, h2, h3⟩ := h; simp only [List.getD_cons_zero, List.getD_cons_succ] at h0; rw [h0]
  | [_, _], [_, _], _, _, h => obtain ⟨h0, h1, h2, h3⟩ := h; simp only [List.getD_cons_zero, List.getD_cons_succ] at h0 h1; rw [h0, h1]
  | [_, _, _], [_, _, _], _, _, h => obtain ⟨h0, h1, h2, h3⟩ := h; simp only [List.getD_cons_zero, List.getD_cons_succ] at h0 h1 h2; rw [h0, h1, h2]
  | [_, _, _, _], [_, _, _, _], _, _, h => obtain ⟨h0, h1, h2, h3⟩ := h; simp only [List.getD_cons_zero, List.getD_cons_succ] at h0 h1 h2 h3; rw [h0, h1, h2, h3]
  | _ :: _ :: _ :: _ :: _ :: _, _, _, h4, _ => simp at h4
/-- A field that may stand takes what a row's place holds. -/
theorem row_takes {f : Fd} {v : V} {k : Int} (hk : takesB f k = true) (hv : isOf v k = true) : takesB f v.k = true := by
  unfold isOf at hv
  rw [Bool.or_eq_true, decide_eq_true_eq, decide_eq_true_eq] at hv
  rcases hv with h | h
  · rw [takes_field] at hk ⊢
    rw [Bool.and_eq_true] at hk ⊢
    refine ⟨hk.1, ?_⟩
    rw [Bool.not_eq_true', decide_eq_false_iff_not]
    rintro ⟨_, h2⟩
    rw [plainV_bool h2] at h
    have := congrArg V.k h
    have h2 : (2 : Int) = 0 := this; omega
  · rw [h]; exact hk
end Go.Proofs.Ythfakpekdjmpjaa

namespace Go.Proofs.Ythfakpekdjmpjaa
open Go.Conc Go.RowKit
set_option linter.unusedVariables false
set_option linter.unusedSimpArgs false

/-- What partOf has at hand: spec, schema, row, its answer, the part so far. -/
structure PoF (w u : World) (fa a ra : Option Addr) (fcap cap rcap : Nat) (p : Sp) (s : Sc) (r l : List V) : Prop where
  sp : SpSlot u w.heap.size fa fcap p
  sc : ScSlot u (w.heap.size + 1) a cap s
  ro : u.heap[w.heap.size + 1 + 1]? = some (.cells #[.slice ra r.length rcap] 74 (0, 0))
  t6 : PSlot u (w.heap.size + 1 + 1 + 1) []
  t7 : PSlot u (w.heap.size + 1 + 1 + 1 + 1) l
  below : Below w.heap.size w u
theorem PoF.row {w u : World} {fa a ra : Option Addr} {fcap cap rcap : Nat} {p : Sp} {s : Sc} {r l : List V} (h : PoF w u fa a ra fcap cap rcap p s r l) : u.cell? ⟨w.heap.size + 1 + 1, 0, none⟩ = some (.slice ra r.length rcap) := cell_of_row _ _ _ _ _ _ h.ro
theorem PoF.more {w u u' : World} {fa a ra : Option Addr} {fcap cap rcap : Nat} {p : Sp} {s : Sc} {r l : List V} (h : PoF w u fa a ra fcap cap rcap p s r l) (hb : Below u.heap.size u u') : PoF w u' fa a ra fcap cap rcap p s r l :=
  ⟨h.sp.below hb, h.sc.below hb, by rw [hb.block _ (Array.getElem?_eq_some_iff.1 h.ro).1]; exact h.ro, h.t6.below hb, h.t7.below hb, h.below.trans (hb.mono h.below.size)⟩
theorem PoF.put {w u : World} {fa a ra : Option Addr} {fcap cap rcap : Nat} {p : Sp} {s : Sc} {r l : List V} (h : PoF w u fa a ra fcap cap rcap p s r l) {n : Nat} (hn : l.length = n) (h4 : n < 4) (v : V) : PoF w (putP u (w.heap.size + 1 + 1 + 1 + 1) n v) fa a ra fcap cap rcap p s r (l ++ [v]) :=
  ⟨⟨by rw [putP_other (by omega)]; exact h.sp.b⟩, h.sc.same (putP_other (by omega) _), by rw [putP_other (by omega)]; exact h.ro, h.t6.same (putP_other (by omega) _), h.t7.put hn h4 v, putP_below h.below (by omega) v⟩
theorem PoF.new (w : World) (fa a ra : Option Addr) (fcap cap rcap : Nat) (p : Sp) (s : Sc) (r : List V) :
    PoF w (((((w.alloc (.cells #[.int .i64 p.id, .slice fa p.fs.length fcap] 65)).alloc (.cells #[.int .i64 s.id, .slice a s.cs.length cap, .int .i64 s.next] 24)).alloc (.cells #[.slice ra r.length rcap] 74)).alloc (.cells (partC []) 115)).alloc (.cells (partC []) 115)) fa a ra fcap cap rcap p s r [] := by
  obtain ⟨u1, h1⟩ : ∃ u, u = w.alloc (.cells #[.int .i64 p.id, .slice fa p.fs.length fcap] 65) := ⟨_, rfl⟩
  obtain ⟨u2, h2⟩ : ∃ u, u = u1.alloc (.cells #[.int .i64 s.id, .slice a s.cs.length cap, .int .i64 s.next] 24) := ⟨_, rfl⟩
  obtain ⟨u3, h3⟩ : ∃ u, u = u2.alloc (.cells #[.slice ra r.length rcap] 74) := ⟨_, rfl⟩
  obtain ⟨u4, h4⟩ : ∃ u, u = u3.alloc (.cells (partC []) 115) := ⟨_, rfl⟩
  obtain ⟨u5, h5⟩ : ∃ u, u = u4.alloc (.cells (partC []) 115) := ⟨_, rfl⟩
  have z1 : u1.heap.size = w.heap.size + 1 := by rw [h1]; simp
  have z2 : u2.heap.size = w.heap.size + 1 + 1 := by rw [h2, ← z1]; simp
  have z3 : u3.heap.size = w.heap.size + 1 + 1 + 1 := by rw [h3, ← z2]; simp
  have z4 : u4.heap.size = w.heap.size + 1 + 1 + 1 + 1 := by rw [h4, ← z3]; simp
  have b1 : Below w.heap.size w u1 := by rw [h1]; exact (Below.refl _ _).alloc (Nat.le_refl _) _
  have b2 : Below u1.heap.size u1 u2 := by rw [h2]; exact (Below.refl _ _).alloc (Nat.le_refl _) _
  have b3 : Below u2.heap.size u2 u3 := by rw [h3]; exact (Below.refl _ _).alloc (Nat.le_refl _) _
  have b4 : Below u3.heap.size u3 u4 := by rw [h4]; exact (Below.refl _ _).alloc (Nat.le_refl _) _
  have b5 : Below u4.heap.size u4 u5 := by rw [h5]; exact (Below.refl _ _).alloc (Nat.le_refl _) _
  have s1 : SpSlot u1 w.heap.size fa fcap p := by rw [h1]; exact SpSlot.new w fa fcap p
  have s2 : ScSlot u2 (w.heap.size + 1) a cap s := by rw [h2, ← z1]; exact ScSlot.new u1 a cap s
  have s3 : u3.heap[w.heap.size + 1 + 1]? = some (.cells #[.slice ra r.length rcap] 74 (0, 0)) := by rw [h3, ← z2]; exact heap_alloc_new _ _
  have s4 : PSlot u4 (w.heap.size + 1 + 1 + 1) [] := by rw [h4, ← z3]; exact PSlot.new u3 []
  have s5 : PSlot u5 (w.heap.size + 1 + 1 + 1 + 1) [] := by rw [h5, ← z4]; exact PSlot.new u4 []
  rw [← h1, ← h2, ← h3, ← h4, ← h5]
  have b35 := b4.trans (b5.mono b4.size)
  have b25 := b3.trans (b35.mono b3.size)
  have b15 := b2.trans (b25.mono b2.size)
  refine ⟨s1.below b15, s2.below b25, ?_, s4.below b5, s5, b1.trans (b15.mono b1.size)⟩
  rw [b35.block _ (by omega)]; exact s3
set_option maxRecDepth 100000 in
set_option maxHeartbeats 2000000 in
theorem partof_any (w : World) (fa a ra : Option Addr) (fcap cap rcap : Nat) (p : Sp) (s : Sc) (r : List V) (hf : IsFd w fa p.fs) (h4 : p.fs.length ≤ 4) (ha : IsCo w a s.cs) (hl : s.cs.length ≤ maxLen) (hr : IsV w ra r)
    (hp : ∀ k (hk : k < p.fs.length), ∃ j : Nat, placeA s.cs p.fs[k].src = (j : Int) ∧ j < r.length ∧ takesB p.fs[k] (r.getD j zeroV).k = true)
    (hv : ∀ v ∈ r, (-9223372036854775808 ≤ v.i ∧ v.i < 9223372036854775808) ∧ v.s.size ≤ 140737488355328) :
    Calls Try.prog 81 #[.agg #[.int .i64 p.id, .slice fa p.fs.length fcap], .agg #[.int .i64 s.id, .slice a s.cs.length cap, .int .i64 s.next], .agg #[.slice ra r.length rcap]] w fun e w' => e = .returned (.agg (partC (partL p.fs s.cs r))) ∧ Below w.heap.size w w' := by
  have hP := PoF.new w fa a ra fcap cap rcap p s r
  obtain ⟨u, hu⟩ : ∃ u, u = (((((w.alloc (.cells #[.int .i64 p.id, .slice fa p.fs.length fcap] 65)).alloc (.cells #[.int .i64 s.id, .slice a s.cs.length cap, .int .i64 s.next] 24)).alloc (.cells #[.slice ra r.length rcap] 74)).alloc (.cells (partC []) 115)).alloc (.cells (partC []) 115)) := ⟨_, rfl⟩
  rw [← hu] at hP
  have HP0 := Lib.hid hP
  have HF := Lib.hid hf
  have HA := Lib.hid ha
  have HR := Lib.hid hr
  have HL := Lib.hid hl
  have HPL := Lib.hid hp
  have HV := Lib.hid hv
  have H4 := Lib.hid h4
  obtain ⟨D, hD⟩ : ∃ D, D = partL p.fs s.cs r := ⟨_, rfl⟩
  have HD := Lib.hid hD
  have HDL : Hid (D.length = p.fs.length) := by unfold Hid; rw [hD, partL_length]
  rw [← hD]
  clear hP hf ha hr hl hp hv h4 hD
  go_enter Try.func81, Try.ntmps81
  go_upto_region 2 with fail
  change Code.wp _ _ _ _ (((((w.alloc (.cells #[.int .i64 p.id, .slice fa p.fs.length fcap] 65)).alloc (.cells #[.int .i64 s.id, .slice a s.cs.length cap, .int .i64 s.next] 24)).alloc (.cells #[.slice ra r.length rcap] 74)).alloc (.cells (partC []) 115)).alloc (.cells (partC []) 115))
  rw [← hu]
  clear hu
  obtain ⟨c0, c1⟩ := HP0.out.sp.at
  go_upto_region 3 with fail
  clear c0 c1
  go_loopw [13] (fun iv wr => ∃ n : Nat, n ≤ p.fs.length ∧ iv = .int .i64 n ∧ Hid (PoF w wr fa a ra fcap cap rcap p s r (D.take n))) (fun iv _ => p.fs.length - (intOf iv).toNat)
  case atStart => exact ⟨0, Nat.zero_le _, rfl, HP0⟩
  case round =>
    obtain ⟨n, hle, rfl, HX⟩ := hrel
    by_cases cn : n < p.fs.length
    · have hfb := HF.out.below HX.out.below
      rcases hfb with e | ⟨b, off, rfl, hcc⟩
      · rw [e] at cn; simp at cn
      obtain ⟨p0, p1, p2⟩ := hcc n cn
      obtain ⟨j, hj, hjr, htk⟩ := HPL.out n cn
      have hrb := IsV.get (HR.out.below HX.out.below) hjr
      obtain ⟨rb, roff, rfl, hval⟩ := hrb
      obtain ⟨vi, vs⟩ := HV.out (r.getD j zeroV) (by rw [List.getD_eq_getElem?_getD, List.getElem?_eq_getElem hjr]; exact List.getElem_mem hjr)
      have hDn : D.take (n + 1) = D.take n ++ [madeV p.fs[n] (r.getD j zeroV)] := by
        have hn : n < D.length := by rw [HDL.out]; exact cn
        rw [← List.take_append_getElem hn]
        congr 2
        have e : D[n] = (partL p.fs s.cs r)[n]'(by rw [← HD.out]; exact hn) := by congr 1
        rw [e]
        unfold partL
        simp only [List.getElem_map, hj, Int.toNat_natCast]
      have HDN := Lib.hid hDn
      have HTN : Hid ((D.take n).length = n) := by unfold Hid; rw [List.length_take, HDL.out]; omega
      obtain ⟨w2, hw2⟩ : ∃ w2, w2 = wr.alloc (.cells #[.int .i64 p.fs[n].src, .int .i64 p.fs[n].tr, .int .i64 p.fs[n].par] 55) := ⟨_, rfl⟩
      have hb2 : Below wr.heap.size wr w2 := by rw [hw2]; exact (Below.refl _ _).alloc (Nat.le_refl _) _
      have HCO := Lib.hid (show FdAt w2 wr.heap.size 0 p.fs[n] by rw [hw2]; exact FdAt.new wr p.fs[n])
      have HX2 := Lib.hid (HX.out.more hb2)
      have HVA := Lib.hid (hval.below hb2)
      have T1 := Lib.hid (fun (x : World) (hx : Below w2.heap.size w2 x) => spplace_any x a cap s p.fs[n].src (HA.out.below (HX2.out.more hx).below) HL.out)
      have T2 := Lib.hid (fun (x : World) => made_any p.fs[n] (r.getD j zeroV) htk vi vs x)
      rw [hj] at T1
      have hni : (n : Int) < (p.fs.length : Int) := by omega
      have hn4 : (n : Int) < 4 := by have := H4.out; omega
      have hn4' : n < 4 := by have := H4.out; omega
      have hji : (j : Int) < (r.length : Int) := by omega
      have HCN := Lib.hid cn
      have HNN := Lib.hid hn4'
      clear hcc hb2 hval hj htk vi vs hDn
      generalize madeV p.fs[n] (r.getD j zeroV) = M at *
      generalize r.getD j zeroV = x at *
      generalize p.fs[n] = f at *
      go_upto_region 5 with fail
      rw [← hw2]
      clear hw2 p0 p1 p2
      generalize wr.heap.size = gc at *
      refine region_class_tail (fun w' => Below w2.heap.size w2 w') 12 (by kernel_rfl) (by kernel_rfl) (Below.refl _ _).drew ?_
      simp only [List.take_succ_cons, List.take_zero, List.drop_succ_cons, List.drop_zero]
      repeat (first
        | go_big_quiet_skip
        | (go_big_quiet_want
           go_big_quiet_op
           first
           | go_big_quiet_on
           | (apply Exists.intro
              refine ⟨fun v1 hv1 => ?_, ?_⟩
              (first
                | (exact rfl)
                | (go_at_call 102; exact (T1.out v1 hv1).mono fun e w3 ⟨he, hb⟩ => ⟨he, hv1.trans (hb.mono hv1.size)⟩)
                | (go_at_call 70; exact (T2.out v1).mono fun e w3 ⟨he, hb⟩ => ⟨he, hv1.trans (hb.mono hv1.size)⟩)
                | (obtain ⟨q0, q1, q2⟩ := HCO.out.below hv1; simp only [q0, q1, q2, Nat.zero_add, Result.andThen]; exact ⟨trivial, rfl⟩)
                | (obtain ⟨b0, b1, b2⟩ := (HX2.out.more hv1).sc.at; simp only [b0, b1, b2, Result.andThen]; exact ⟨trivial, rfl⟩)
                | (have d0 := (HX2.out.more hv1).row; simp only [d0, Result.andThen]; exact ⟨trivial, rfl⟩)
                | (obtain ⟨q0, q1, q2, q3⟩ := HVA.out.below hv1; simp only [q0, q1, q2, q3, Result.andThen]; exact ⟨trivial, rfl⟩)
                | (exact ⟨trivial, rfl⟩))
              go_big_quiet_on)))
      refine wpQuiet_nil ?_
      intro w9 hw9
      have HX9 := Lib.hid (HX2.out.more hw9)
      have y0 := HX9.out.t7.free (n * 4)
      have y1 := HX9.out.t7.free (n * 4 + 1)
      have y2 := HX9.out.t7.free (n * 4 + 2)
      have y3 := HX9.out.t7.free (n * 4 + 3)
      obtain ⟨z0, z1, z2, z3⟩ := HX9.out.t7.val HNN.out
      clear hw9
      go_wp2
      refine ⟨⟨n + 1, by have := HCN.out; omega, by go_num, ?_⟩, by have := HCN.out; simp [intOf]; omega⟩
      have h := HX9.out.put HTN.out HNN.out M
      rw [← HDN.out] at h
      exact h
    · obtain rfl : n = p.fs.length := by omega
      have hDD : D.take p.fs.length = D := by rw [← HDL.out]; exact List.take_length
      rw [hDD] at HX
      obtain ⟨c0, c1, c2, c3, c4, c5, c6, c7, c8, c9, c10, c11, c12, c13, c14, c15⟩ := HX.out.t7.all
      obtain ⟨d0, d1, d2, d3, d4, d5, d6, d7, d8, d9, d10, d11, d12, d13, d14, d15⟩ := HX.out.t6.all
      obtain ⟨y0, y1, y2, y3, y4, y5, y6, y7, y8, y9, y10, y11, y12, y13, y14, y15⟩ := HX.out.t6.frees
      clear cn hDD hle
      go_wp2
      change bodyPost _ _ _ _ _ (putW wr (w.heap.size + 1 + 1 + 1) D)
      have hS9 := HX.out.t6.putW D
      have hB9 := putW_below HX.out.below (by omega : w.heap.size ≤ w.heap.size + 1 + 1 + 1) D
      generalize putW wr (w.heap.size + 1 + 1 + 1) D = w9 at *
      clear c0 c1 c2 c3 c4 c5 c6 c7 c8 c9 c10 c11 c12 c13 c14 c15 d0 d1 d2 d3 d4 d5 d6 d7 d8 d9 d10 d11 d12 d13 d14 d15 y0 y1 y2 y3 y4 y5 y6 y7 y8 y9 y10 y11 y12 y13 y14 y15
      obtain ⟨z0, z1, z2, z3, z4, z5, z6, z7, z8, z9, z10, z11, z12, z13, z14, z15⟩ := hS9.all
      refine bodyPost_ret (v := .agg (partC D)) (by simp [results, Try.results81, go_sem, z0, z1, z2, z3, z4, z5, z6, z7, z8, z9, z10, z11, z12, z13, z14, z15, partC]) rfl ?_
      exact ⟨rfl, hB9⟩
end Go.Proofs.Ythfakpekdjmpjaa

namespace Go.Proofs.Ythfakpekdjmpjaa
open Go.Conc Go.RowKit
set_option linter.unusedVariables false
set_option linter.unusedSimpArgs false

/-- Spec, schema, row in variables. -/
structure P3 (w u : World) (fa a ra : Option Addr) (fcap cap rcap : Nat) (p : Sp) (s : Sc) (r : List V) : Prop where
  sp : SpSlot u w.heap.size fa fcap p
  sc : ScSlot u (w.heap.size + 1) a cap s
  ro : u.heap[w.heap.size + 1 + 1]? = some (.cells #[.slice ra r.length rcap] 74 (0, 0))
  below : Below w.heap.size w u
theorem P3.row {w u : World} {fa a ra : Option Addr} {fcap cap rcap : Nat} {p : Sp} {s : Sc} {r : List V} (h : P3 w u fa a ra fcap cap rcap p s r) : u.cell? ⟨w.heap.size + 1 + 1, 0, none⟩ = some (.slice ra r.length rcap) := cell_of_row _ _ _ _ _ _ h.ro
theorem P3.more {w u u' : World} {fa a ra : Option Addr} {fcap cap rcap : Nat} {p : Sp} {s : Sc} {r : List V} (h : P3 w u fa a ra fcap cap rcap p s r) (hb : Below u.heap.size u u') : P3 w u' fa a ra fcap cap rcap p s r :=
  ⟨h.sp.below hb, h.sc.below hb, by rw [hb.block _ (Array.getElem?_eq_some_iff.1 h.ro).1]; exact h.ro, h.below.trans (hb.mono h.below.size)⟩
theorem P3.new (w : World) (fa a ra : Option Addr) (fcap cap rcap : Nat) (p : Sp) (s : Sc) (r : List V) :
    P3 w (((w.alloc (.cells #[.int .i64 p.id, .slice fa p.fs.length fcap] 65)).alloc (.cells #[.int .i64 s.id, .slice a s.cs.length cap, .int .i64 s.next] 24)).alloc (.cells #[.slice ra r.length rcap] 74)) fa a ra fcap cap rcap p s r := by
  obtain ⟨u1, h1⟩ : ∃ u, u = w.alloc (.cells #[.int .i64 p.id, .slice fa p.fs.length fcap] 65) := ⟨_, rfl⟩
  obtain ⟨u2, h2⟩ : ∃ u, u = u1.alloc (.cells #[.int .i64 s.id, .slice a s.cs.length cap, .int .i64 s.next] 24) := ⟨_, rfl⟩
  obtain ⟨u3, h3⟩ : ∃ u, u = u2.alloc (.cells #[.slice ra r.length rcap] 74) := ⟨_, rfl⟩
  have z1 : u1.heap.size = w.heap.size + 1 := by rw [h1]; simp
  have z2 : u2.heap.size = w.heap.size + 1 + 1 := by rw [h2, ← z1]; simp
  have b1 : Below w.heap.size w u1 := by rw [h1]; exact (Below.refl _ _).alloc (Nat.le_refl _) _
  have b2 : Below u1.heap.size u1 u2 := by rw [h2]; exact (Below.refl _ _).alloc (Nat.le_refl _) _
  have b3 : Below u2.heap.size u2 u3 := by rw [h3]; exact (Below.refl _ _).alloc (Nat.le_refl _) _
  have s1 : SpSlot u1 w.heap.size fa fcap p := by rw [h1]; exact SpSlot.new w fa fcap p
  have s2 : ScSlot u2 (w.heap.size + 1) a cap s := by rw [h2, ← z1]; exact ScSlot.new u1 a cap s
  have s3 : u3.heap[w.heap.size + 1 + 1]? = some (.cells #[.slice ra r.length rcap] 74 (0, 0)) := by rw [h3, ← z2]; exact heap_alloc_new _ _
  rw [← h1, ← h2, ← h3]
  have b13 := b2.trans (b3.mono b2.size)
  exact ⟨s1.below b13, s2.below b3, s3, b1.trans (b13.mono b1.size)⟩
/-- What Part has behind n fields. -/
structure PLoop (v wr : World) (g : Nat) (D xs : List V) (n : Nat) (ao : Option Addr) (co : Nat) : Prop where
  is : xs = D.take n
  own : OwnV v.heap.size wr ao co xs
  all : PSlot wr g D
  below : Below v.heap.size v wr
theorem PLoop.more {v wr w' : World} {g n co : Nat} {D xs : List V} {ao : Option Addr} (h : PLoop v wr g D xs n ao co) (hb : Below wr.heap.size wr w') : PLoop v w' g D xs n ao co :=
  ⟨h.is, h.own.below hb, h.all.below hb, h.below.trans (hb.mono h.below.size)⟩
theorem PLoop.put {v wr w' : World} {g n co co' : Nat} {D xs : List V} {ao ao' : Option Addr} (h : PLoop v wr g D xs n ao co) (hg : g < v.heap.size) (hn : n < D.length) (ho : OwnV v.heap.size w' ao' co' (xs ++ [D.getD n zeroV])) (hf : Frm (At ao) wr w') : PLoop v w' g D (xs ++ [D.getD n zeroV]) (n + 1) ao' co' :=
  ⟨by rw [h.is, ← List.take_append_getElem hn, List.getD_eq_getElem?_getD, List.getElem?_eq_getElem hn]; rfl, ho, h.all.same (hf.block _ h.all.lt fun hk => by have := (h.own.at_ge hk).1; omega), Frm.to_below h.below hf (fun k hk => (h.own.at_ge hk).1) (Nat.le_refl _)⟩
/-- What partOf asks, of a spec that may be and a row that may. -/
theorem part_pre {p : Sp} {s : Sc} {r : List V} (hm : maySp p s = true) (hr : rowB13 s.cs r = true) : p.fs.length ≤ 4 ∧ ∀ k (hk : k < p.fs.length), ∃ j : Nat, placeA s.cs p.fs[k].src = (j : Int) ∧ j < r.length ∧ takesB p.fs[k] (r.getD j zeroV).k = true := by
  obtain ⟨h4, _, hok⟩ := maysp_most hm
  refine ⟨h4, fun k hk => ?_⟩
  unfold rowB13 at hr
  rw [Bool.and_eq_true, decide_eq_true_eq, List.all_eq_true] at hr
  obtain ⟨hl, hr⟩ := hr
  have h := hok k hk
  rw [okfd_at hk, Bool.and_eq_true] at h
  have hst := h.1
  unfold standB at hst
  rw [Bool.and_eq_true, decide_eq_true_eq] at hst
  obtain ⟨h0, ht⟩ := hst
  rcases place_range s.cs p.fs[k].src with e | ⟨j, e, hj⟩
  · rw [e] at h0; omega
  · refine ⟨j, e, by omega, ?_⟩
    unfold kindAt at ht
    rw [e, Int.toNat_natCast] at ht
    exact row_takes ht (hr j (List.mem_range.2 (by omega)))
set_option maxRecDepth 100000 in
set_option maxHeartbeats 2000000 in
theorem sppart_any (w : World) (fa a ra : Option Addr) (fcap cap rcap : Nat) (p : Sp) (s : Sc) (r : List V) (hf : IsFd w fa p.fs) (hfc : p.fs.length ≤ fcap) (ha : IsCo w a s.cs) (hl : s.cs.length ≤ maxLen) (hcap : s.cs.length ≤ cap) (hr : IsV w ra r) (hrl : r.length ≤ 35184372088832)
    (hv : ∀ v ∈ r, (-9223372036854775808 ≤ v.i ∧ v.i < 9223372036854775808) ∧ v.s.size ≤ 140737488355328) :
    Calls Try.prog 37 #[.agg #[.int .i64 p.id, .slice fa p.fs.length fcap], .agg #[.int .i64 s.id, .slice a s.cs.length cap, .int .i64 s.next], .agg #[.slice ra r.length rcap]] w fun e w' => ∃ ao co, e = .returned (.tuple #[.slice ao (partA p s r).1.length co, .int .i64 (partA p s r).2]) ∧ OwnV w.heap.size w' ao co (partA p s r).1 ∧ Below w.heap.size w w' := by
  have hP := P3.new w fa a ra fcap cap rcap p s r
  obtain ⟨u, hu⟩ : ∃ u, u = (((w.alloc (.cells #[.int .i64 p.id, .slice fa p.fs.length fcap] 65)).alloc (.cells #[.int .i64 s.id, .slice a s.cs.length cap, .int .i64 s.next] 24)).alloc (.cells #[.slice ra r.length rcap] 74)) := ⟨_, rfl⟩
  rw [← hu] at hP
  have HP := Lib.hid hP
  have T0 := Lib.hid (spmay_any u fa a fcap cap p s (hf.below hP.below) hfc (ha.below hP.below) hl hcap)
  have T1 := Lib.hid (fun (x : World) (hx : Below w.heap.size w x) => spisrow_any x ra a rcap cap r s (hr.below hx) (ha.below hx) hl hrl)
  have go : ∀ (M : Bool), maySp p s = M → ∀ (B : Bool), rowB13 s.cs r = B →
    Calls Try.prog 37 #[.agg #[.int .i64 p.id, .slice fa p.fs.length fcap], .agg #[.int .i64 s.id, .slice a s.cs.length cap, .int .i64 s.next], .agg #[.slice ra r.length rcap]] w fun e w' => ∃ ao co, e = .returned (.tuple #[.slice ao (partA p s r).1.length co, .int .i64 (partA p s r).2]) ∧ OwnV w.heap.size w' ao co (partA p s r).1 ∧ Below w.heap.size w w' := by
    intro M hM B hB
    rw [hM] at T0
    rw [hB] at T1
    cases M with
    | false =>
      rw [partA_no (by rw [hM]; rfl)]
      clear hM hB hf hfc ha hl hcap hr hrl hv hP T1
      go_enter Try.func37, Try.ntmps37
      go_upto_region 1 with fail
      change Code.wp _ _ _ _ (((w.alloc (.cells #[.int .i64 p.id, .slice fa p.fs.length fcap] 65)).alloc (.cells #[.int .i64 s.id, .slice a s.cs.length cap, .int .i64 s.next] 24)).alloc (.cells #[.slice ra r.length rcap] 74))
      rw [← hu]
      clear hu
      obtain ⟨c0, c1⟩ := HP.out.sp.at
      obtain ⟨b0, b1, b2⟩ := HP.out.sc.at
      go_wp2_with (go_at_call 35; refine T0.out.mono ?_; rintro e w1 ⟨rfl, hb⟩; have HP1 := Lib.hid (HP.out.more hb); clear hb c0 c1 b0 b1 b2)
      go_ret2
      exact ⟨none, 0, rfl, OwnV.nil _ _, HP1.out.below⟩
    | true =>
      cases B with
      | false =>
        rw [partA_no (by rw [hM, hB]; rfl)]
        clear hM hB hf hfc ha hl hcap hr hrl hv hP
        go_enter Try.func37, Try.ntmps37
        go_upto_region 1 with fail
        change Code.wp _ _ _ _ (((w.alloc (.cells #[.int .i64 p.id, .slice fa p.fs.length fcap] 65)).alloc (.cells #[.int .i64 s.id, .slice a s.cs.length cap, .int .i64 s.next] 24)).alloc (.cells #[.slice ra r.length rcap] 74))
        rw [← hu]
        clear hu
        obtain ⟨c0, c1⟩ := HP.out.sp.at
        obtain ⟨b0, b1, b2⟩ := HP.out.sc.at
        go_wp2_with (first
          | (go_at_call 35; refine T0.out.mono ?_; rintro e w1 ⟨rfl, hb⟩; have HP1 := Lib.hid (HP.out.more hb); clear hb c0 c1 b0 b1 b2 T0; obtain ⟨b0, b1, b2⟩ := HP1.out.sc.at; have d0 := HP1.out.row)
          | (go_at_call 80; refine (T1.out _ HP1.out.below).mono ?_; rintro e w2 ⟨rfl, hb⟩; have HP2 := Lib.hid (HP1.out.more hb); clear hb b0 b1 b2 d0))
        go_ret2
        exact ⟨none, 0, rfl, OwnV.nil _ _, HP2.out.below⟩
      | true =>
        obtain ⟨h4, hpre⟩ := part_pre hM hB
        have T2 := Lib.hid (fun (x : World) (hx : Below w.heap.size w x) => partof_any x fa a ra fcap cap rcap p s r (hf.below hx) h4 (ha.below hx) hl (hr.below hx) hpre hv)
        rw [partA_yes hM hB]
        have HDP : Hid (∀ k, k < (partL p.fs s.cs r).length → plainV ((partL p.fs s.cs r).getD k zeroV) = (partL p.fs s.cs r).getD k zeroV ∧ ((partL p.fs s.cs r).getD k zeroV).s.size ≤ 281474976710656) := by
          intro k hk
          have hk' : k < p.fs.length := by rw [partL_length] at hk; exact hk
          have e : (partL p.fs s.cs r).getD k zeroV = madeV p.fs[k] (r.getD (placeA s.cs p.fs[k].src).toNat zeroV) := by
            rw [List.getD_eq_getElem?_getD, List.getElem?_eq_getElem hk]
            simp only [partL, List.getElem_map, Option.getD_some]
          rw [e]
          refine ⟨madeV_plain _ _, Nat.le_trans (madeV_size _ _) ?_⟩
          obtain ⟨j, e2, hj, _⟩ := hpre k hk'
          rw [e2, Int.toNat_natCast]
          have := (hv (r.getD j zeroV) (by rw [List.getD_eq_getElem?_getD, List.getElem?_eq_getElem hj]; exact List.getElem_mem hj)).2
          omega
        have HDL : Hid ((partL p.fs s.cs r).length = p.fs.length) := partL_length _ _ _
        have H4 := Lib.hid h4
        clear hM hB hf hfc ha hl hcap hr hrl hv hP h4 hpre
        generalize partL p.fs s.cs r = D at *
        unfold partC at T2
        go_enter Try.func37, Try.ntmps37
        go_upto_region 1 with fail
        change Code.wp _ _ _ _ (((w.alloc (.cells #[.int .i64 p.id, .slice fa p.fs.length fcap] 65)).alloc (.cells #[.int .i64 s.id, .slice a s.cs.length cap, .int .i64 s.next] 24)).alloc (.cells #[.slice ra r.length rcap] 74))
        rw [← hu]
        clear hu
        obtain ⟨c0, c1⟩ := HP.out.sp.at
        obtain ⟨b0, b1, b2⟩ := HP.out.sc.at
        go_upto_region 3 with (first
          | (go_at_call 35; refine T0.out.mono ?_; rintro e w1 ⟨rfl, hb⟩; have HP1 := Lib.hid (HP.out.more hb); clear hb c0 c1 b0 b1 b2 T0; obtain ⟨b0, b1, b2⟩ := HP1.out.sc.at; have d0 := HP1.out.row)
          | (go_at_call 80; refine (T1.out _ HP1.out.below).mono ?_; rintro e w2 ⟨rfl, hb⟩; have HP2 := Lib.hid (HP1.out.more hb); clear hb b0 b1 b2 d0 T1))
        obtain ⟨c0, c1⟩ := HP2.out.sp.at
        obtain ⟨b0, b1, b2⟩ := HP2.out.sc.at
        have d0 := HP2.out.row
        go_upto_region 4 with (go_at_call 81; refine (T2.out _ HP2.out.below).mono ?_; rintro e w3 ⟨rfl, hb⟩; have HP3 := Lib.hid (HP2.out.more hb); clear hb b0 b1 b2 c0 c1 d0 T2)
        change Code.wp _ _ _ _ (w3.alloc (.cells (partC D) 115))
        obtain ⟨v, hv⟩ : ∃ v, v = w3.alloc (.cells (partC D) 115) := ⟨_, rfl⟩
        rw [← hv]
        have hb3 : Below w3.heap.size w3 v := by rw [hv]; exact (Below.refl _ _).alloc (Nat.le_refl _) _
        have hpl : PLoop v v w3.heap.size D [] 0 none 0 := ⟨rfl, OwnV.nil _ _, by rw [hv]; exact PSlot.new w3 D, Below.refl _ _⟩
        have HG : Hid (w3.heap.size < v.heap.size) := hpl.all.lt
        have HPL := Lib.hid hpl
        replace HP3 := Lib.hid (HP3.out.more hb3)
        clear hv hb3 hpl
        generalize w3.heap.size = g at *
        obtain ⟨c0, c1⟩ := HP3.out.sp.at
        go_upto_region 6 with fail
        clear c0 c1
        go_loopw [9, 28] (fun ov iv wr => ∃ (n co : Nat) (ao : Option Addr) (xs : List V), n ≤ p.fs.length ∧ ov = .slice ao xs.length co ∧ iv = .int .i64 n ∧ Hid (PLoop v wr g D xs n ao co)) (fun _ iv _ => p.fs.length - (intOf iv).toNat)
        case atStart => exact ⟨0, 0, none, [], Nat.zero_le _, rfl, rfl, HPL⟩
        case round =>
          obtain ⟨n, co, ao, xs, hle, rfl, rfl, HX⟩ := hrel
          by_cases cn : n < p.fs.length
          · have hn4 : n < 4 := by have := H4.out; omega
            obtain ⟨z0, z1, z2, z3⟩ := HX.out.all.val hn4
            have hDn : n < D.length := by rw [HDL.out]; exact cn
            obtain ⟨pl, ps⟩ := HDP.out n hDn
            have T3 := Lib.hid (fun (x : World) => vcopy_any (D.getD n zeroV) ps x)
            rw [pl] at T3
            have HPUT := Lib.hid (fun (w' : World) (ao' : Option Addr) (co' : Nat) (wr' : World) (h : PLoop v wr' g D xs n ao co) ho hf => h.put (w' := w') (ao' := ao') (co' := co') HG.out hDn ho hf)
            have HSZ : Hid (xs.length ≤ 3518437208882) := by unfold Hid; rw [HX.out.is, List.length_take]; omega
            have hni : (n : Int) < (p.fs.length : Int) := by omega
            have hn4i : (n : Int) < 4 := by omega
            have HCN := Lib.hid cn
            clear pl ps hDn
            generalize D.getD n zeroV = x at *
            go_wp2_with (first
              | (go_at_call 69; refine (T3.out _).mono ?_; rintro e w4 ⟨rfl, hb4⟩; have HX4 := Lib.hid (HX.out.more hb4); clear hb4)
              | (at_builtin; refine wp_val HX4.out.own HX4.out.below.size HSZ.out rfl _ _ rfl x rfl rfl ?_; intro av' cv' u6 ho hf _; have HFIN := Lib.hid (HPUT.out _ _ _ _ HX4.out ho hf); clear ho hf))
            refine ⟨⟨n + 1, cv', av', xs ++ [x], by have := HCN.out; omega, by simp, by go_num, HFIN⟩, by have := HCN.out; simp [intOf]; omega⟩
          · obtain rfl : n = p.fs.length := by omega
            have hxD : xs = D := by rw [HX.out.is, ← HDL.out]; exact List.take_length
            subst hxD
            clear cn hle
            go_wp2
            go_ret2
            exact ⟨ao, co, rfl, HX.out.own.lower (by have := HP3.out.below.size; omega), HP3.out.below.trans (HX.out.below.mono HP3.out.below.size)⟩
  exact go _ rfl _ rfl
end Go.Proofs.Ythfakpekdjmpjaa
