/- Groups of rows, plainly: which row's part stands among the unlike ones. No program is spoken of. The program's specs: a row's part, an array of four values. -/
import Derived.Test.YthfakpekdjmpjaaSpm2
import Derived.Test.YthfakpekdjmpjaaWmath
import Derived.Test.YthfakpekdjmpjaaSpcJ
import Derived.Test.YthfakpekdjmpjaaSpcM
import Derived.BigQuiet
namespace Go.Proofs.Ythfakpekdjmpjaa
open Go.Conc Go.RowKit
set_option linter.unusedVariables false
set_option linter.unusedSimpArgs false

/-- A part's place; as many as there are, where it is none. -/
def placeG (p : List V) : List (List V) → Nat
  | [] => 0
  | w :: r => if w = p then 0 else placeG p r + 1
theorem placeG_le (p : List V) : ∀ ws : List (List V), placeG p ws ≤ ws.length
  | [] => Nat.le_refl _
  | w :: r => by
    rw [placeG]
    have := placeG_le p r
    split <;> simp <;> omega
theorem placeG_is (p : List V) : ∀ (ws : List (List V)) (k : Nat), k ≤ ws.length → (∀ i, i < k → ws.getD i [] ≠ p) → (k = ws.length ∨ ws.getD k [] = p) → placeG p ws = k
  | [], k, hk, _, _ => by have : k = 0 := by simpa using hk
                          rw [this]; rfl
  | w :: r, 0, _, _, h => by
    rw [placeG]
    rcases h with h | h
    · simp at h
    · rw [if_pos (by simpa using h)]
  | w :: r, k + 1, hk, h1, h2 => by
    have h0 : w ≠ p := by simpa using h1 0 (by omega)
    rw [placeG, if_neg h0, placeG_is p r k (by simpa using hk) (fun i hi => by simpa using h1 (i + 1) (by omega)) (by simpa using h2)]
theorem placeG_at (p : List V) : ∀ ws : List (List V), placeG p ws < ws.length → ws.getD (placeG p ws) [] = p
  | [], h => by simp [placeG] at h
  | w :: r, h => by
    rw [placeG] at h ⊢
    by_cases c : w = p
    · rw [if_pos c]; simpa using c
    · rw [if_neg c] at h ⊢
      simpa using placeG_at p r (by simpa using h)
theorem placeG_before (p : List V) : ∀ (ws : List (List V)) (i : Nat), i < placeG p ws → ws.getD i [] ≠ p
  | [], i, h => by simp [placeG] at h
  | w :: r, 0, h => by
    rw [placeG] at h
    by_cases c : w = p
    · rw [if_pos c] at h; simp at h
    · simpa using c
  | w :: r, i + 1, h => by
    rw [placeG] at h
    by_cases c : w = p
    · rw [if_pos c] at h; simp at h
    · rw [if_neg c] at h
      simpa using placeG_before p r i (by omega)
theorem placeG_none (p : List V) (ws : List (List V)) : placeG p ws = ws.length ↔ ∀ i, i < ws.length → ws.getD i [] ≠ p := by
  constructor
  · intro h i hi
    exact placeG_before p ws i (by omega)
  · intro h
    exact placeG_is p ws ws.length (Nat.le_refl _) h (.inl rfl)

/-- A part more. -/
def grpStep (r : List (List V) × List Int) (q : List V) : List (List V) × List Int :=
  (if placeG q r.1 = r.1.length then r.1 ++ [q] else r.1, r.2 ++ [((placeG q r.1 : Nat) : Int)])
def grpA (qs : List (List V)) : List (List V) × List Int := qs.foldl grpStep ([], [])
theorem grpA_nil : grpA [] = ([], []) := rfl
theorem grpA_snoc (qs : List (List V)) (q : List V) : grpA (qs ++ [q]) = grpStep (grpA qs) q := by unfold grpA; rw [List.foldl_append]; rfl
theorem grpA_take (qs : List (List V)) (n : Nat) (h : n < qs.length) : grpA (qs.take (n + 1)) = grpStep (grpA (qs.take n)) qs[n] := by
  rw [← List.take_append_getElem h, grpA_snoc]

structure Grouped (qs ws : List (List V)) (at_ : List Int) : Prop where
  len : at_.length = qs.length
  le : ws.length ≤ qs.length
  apart : ∀ i j, i < j → j < ws.length → ws.getD i [] ≠ ws.getD j []
  place : ∀ i, i < qs.length → ∃ k : Nat, at_.getD i 0 = (k : Int) ∧ k < ws.length ∧ ws.getD k [] = qs.getD i []
  mem : ∀ w ∈ ws, w ∈ qs
theorem grouped (qs : List (List V)) : Grouped qs (grpA qs).1 (grpA qs).2 := by
  refine snoc_ind (P := fun qs => Grouped qs (grpA qs).1 (grpA qs).2) ⟨rfl, Nat.le_refl _, fun i j _ hj => by simp [grpA] at hj, fun i hi => by simp at hi, fun w hw => by simp [grpA] at hw⟩ (fun qs q h => ?_) qs
  rw [grpA_snoc]
  generalize grpA qs = r at *
  obtain ⟨ws, at_⟩ := r
  simp only at h
  unfold grpStep
  simp only
  have hle := placeG_le q ws
  have hplace : ∀ (ws' : List (List V)), (∀ k, k < ws.length → ws'.getD k [] = ws.getD k []) → ws.length ≤ ws'.length → placeG q ws < ws'.length → ws'.getD (placeG q ws) [] = q →
      ∀ i, i < (qs ++ [q]).length → ∃ k : Nat, (at_ ++ [((placeG q ws : Nat) : Int)]).getD i 0 = (k : Int) ∧ k < ws'.length ∧ ws'.getD k [] = (qs ++ [q]).getD i [] := by
    intro ws' h1 h2 h3 h4 i hi
    by_cases c : i < qs.length
    · obtain ⟨k, k1, k2, k3⟩ := h.place i c
      exact ⟨k, by rw [getD_left (by rw [h.len]; exact c)]; exact k1, by omega, by rw [h1 k k2, getD_left c]; exact k3⟩
    · obtain rfl : i = qs.length := by simp at hi; omega
      refine ⟨placeG q ws, by rw [← h.len, getD_end], h3, by rw [h4, getD_end]⟩
  by_cases c : placeG q ws = ws.length
  · rw [if_pos c]
    have hn := (placeG_none q ws).1 c
    refine ⟨by simp [h.len], by simp; exact h.le, fun i j hij hj => ?_, hplace _ (fun k hk => getD_left hk) (by simp) (by simp; omega) (by rw [c, getD_end]), fun w hw => ?_⟩
    · by_cases e : j < ws.length
      · rw [getD_left e, getD_left (by omega)]; exact h.apart i j hij e
      · obtain rfl : j = ws.length := by simp at hj; omega
        rw [getD_end, getD_left hij]; exact hn i hij
    · rcases List.mem_append.1 hw with hw | hw
      · exact List.mem_append_left _ (h.mem w hw)
      · exact List.mem_append_right _ hw
  · rw [if_neg c]
    exact ⟨by simp [h.len], by simp; have := h.le; omega, h.apart, hplace ws (fun _ _ => rfl) (Nat.le_refl _) (by omega) (placeG_at q ws (by omega)), fun w hw => List.mem_append_left _ (h.mem w hw)⟩
theorem grp_at (qs : List (List V)) (n : Nat) (h : n < qs.length) : (grpA qs).2.getD n 0 = ((placeG qs[n] (grpA (qs.take n)).1 : Nat) : Int) := by
  have : ∀ d m, m = n + 1 + d → m ≤ qs.length → (grpA (qs.take m)).2.getD n 0 = ((placeG qs[n] (grpA (qs.take n)).1 : Nat) : Int) := by
    intro d
    induction d with
    | zero =>
      rintro m rfl hm
      have hl : (grpA (qs.take n)).2.length = n := by rw [(grouped (qs.take n)).len, List.length_take]; omega
      have hg : ∀ (l : List Int) (x : Int), l.length = n → (l ++ [x]).getD n 0 = x := fun l x e => by rw [← e]; exact getD_end
      rw [Nat.add_zero, grpA_take qs n h]
      exact hg _ _ hl
    | succ d ih =>
      rintro m rfl hm
      rw [show n + 1 + (d + 1) = (n + 1 + d) + 1 by omega, grpA_take qs _ (by omega)]
      have hl : (grpA (qs.take (n + 1 + d))).2.length = n + 1 + d := by rw [(grouped _).len, List.length_take]; omega
      unfold grpStep
      simp only
      rw [getD_left (by rw [hl]; omega)]
      exact ih _ rfl (by omega)
  have := this (qs.length - (n + 1)) qs.length (by omega) (Nat.le_refl _)
  rwa [List.take_length] at this
theorem grp_len (qs : List (List V)) (n : Nat) (h : n < qs.length) : (grpA (qs.take (n + 1))).1.length = if placeG qs[n] (grpA (qs.take n)).1 = (grpA (qs.take n)).1.length then (grpA (qs.take n)).1.length + 1 else (grpA (qs.take n)).1.length := by
  rw [grpA_take qs n h]
  unfold grpStep
  simp only
  split
  · rw [List.length_append]; rfl
  · rfl
theorem grp_same (qs : List (List V)) (i k : Nat) (hi : i < qs.length) (hk : k < qs.length) : (grpA qs).2.getD i 0 = (grpA qs).2.getD k 0 ↔ qs.getD i [] = qs.getD k [] := by
  have h := grouped qs
  obtain ⟨x, x1, x2, x3⟩ := h.place i hi
  obtain ⟨y, y1, y2, y3⟩ := h.place k hk
  rw [x1, y1, ← x3, ← y3]
  constructor
  · intro e
    rw [show x = y by omega]
  · intro e
    rcases Nat.lt_trichotomy x y with c | c | c
    · exact absurd e (h.apart x y c y2)
    · rw [c]
    · exact absurd e.symm (h.apart y x c x2)
/-- Parts that are all one are one group. -/
theorem grp_one (qs : List (List V)) (q : List V) (hq : ∀ x ∈ qs, x = q) (i : Nat) (hi : i < qs.length) : (grpA qs).2.getD i 0 = 0 := by
  have h0 : 0 < qs.length := by omega
  have e0 : (grpA qs).2.getD 0 0 = 0 := by rw [grp_at qs 0 h0]; rfl
  refine ((grp_same qs i 0 hi h0).2 ?_).trans e0
  have g : ∀ j, j < qs.length → qs.getD j [] = q := fun j hj => by
    rw [List.getD_eq_getElem?_getD, List.getElem?_eq_getElem hj]; exact hq _ (List.getElem_mem hj)
  rw [g i hi, g 0 h0]
def splitA (p : Sp) (s : Sc) (rs : List (List V)) : List Int × Int := if maySp p s && rs.all (rowB13 s.cs) then ((grpA (rs.map (partL p.fs s.cs))).2, 0) else ([], 1300)
theorem splitA_no {p : Sp} {s : Sc} {rs : List (List V)} (h : maySp p s = false) : splitA p s rs = ([], 1300) := by unfold splitA; rw [h]; rfl
theorem splitA_bad {p : Sp} {s : Sc} {rs : List (List V)} {k : Nat} (hk : k < rs.length) (h : rowB13 s.cs rs[k] = false) : splitA p s rs = ([], 1300) := by
  unfold splitA
  have : rs.all (rowB13 s.cs) = false := by rw [List.all_eq_false]; exact ⟨_, List.getElem_mem hk, by rw [h]; simp⟩
  rw [this, Bool.and_false]; rfl
theorem splitA_good {p : Sp} {s : Sc} {rs : List (List V)} (hm : maySp p s = true) (h : ∀ r ∈ rs, rowB13 s.cs r = true) : splitA p s rs = ((grpA (rs.map (partL p.fs s.cs))).2, 0) := by
  unfold splitA
  rw [hm, List.all_eq_true.2 h]; rfl
theorem partA_no {p : Sp} {s : Sc} {r : List V} (h : (maySp p s && rowB13 s.cs r) = false) : partA p s r = ([], 1300) := by unfold partA; rw [h]; rfl
theorem partA_yes {p : Sp} {s : Sc} {r : List V} (h : maySp p s = true) (h2 : rowB13 s.cs r = true) : partA p s r = (partL p.fs s.cs r, 0) := by unfold partA; rw [h, h2]; rfl
theorem partL_length (fs : List Fd) (cs : List Co) (r : List V) : (partL fs cs r).length = fs.length := List.length_map ..
theorem maysp_most {p : Sp} {s : Sc} (h : maySp p s = true) : p.fs.length ≤ 4 ∧ maySc s = true ∧ ∀ k, k < p.fs.length → okFd s.cs p.fs k = true := by
  unfold maySp at h
  rw [Bool.and_eq_true, Bool.and_eq_true] at h
  obtain ⟨⟨h1, h2⟩, h3⟩ := h
  unfold bndSp at h1
  rw [decide_eq_true_eq] at h1
  exact ⟨h1.2.2, h2, fun k hk => List.all_eq_true.1 h3 k (List.mem_range.2 hk)⟩
end Go.Proofs.Ythfakpekdjmpjaa

namespace Go.Proofs.Ythfakpekdjmpjaa
open Go.Conc Go.RowKit
set_option linter.unusedVariables false
set_option linter.unusedSimpArgs false

/-- An array of four values: the list's, and nothing behind them. -/
def partC (l : List V) : Array Value := #[.int .i64 (l.getD 0 zeroV).k, .int .i64 (l.getD 0 zeroV).i, .bool (l.getD 0 zeroV).b, .string (l.getD 0 zeroV).s, .int .i64 (l.getD 1 zeroV).k, .int .i64 (l.getD 1 zeroV).i, .bool (l.getD 1 zeroV).b, .string (l.getD 1 zeroV).s, .int .i64 (l.getD 2 zeroV).k, .int .i64 (l.getD 2 zeroV).i, .bool (l.getD 2 zeroV).b, .string (l.getD 2 zeroV).s, .int .i64 (l.getD 3 zeroV).k, .int .i64 (l.getD 3 zeroV).i, .bool (l.getD 3 zeroV).b, .string (l.getD 3 zeroV).s]
/-- A variable of type part. -/
structure PSlot (w : World) (g : Nat) (l : List V) : Prop where
  b : w.heap[g]? = some (.cells (partC l) 115 (0, 0))
theorem PSlot.lt {w : World} {g : Nat} {l : List V} (h : PSlot w g l) : g < w.heap.size := (Array.getElem?_eq_some_iff.1 h.b).1
theorem PSlot.same {w w' : World} {g : Nat} {l : List V} (h : PSlot w g l) (hb : w'.heap[g]? = w.heap[g]?) : PSlot w' g l := ⟨by rw [hb]; exact h.b⟩
theorem PSlot.below {w w' : World} {g : Nat} {l : List V} (h : PSlot w g l) (hb : Below w.heap.size w w') : PSlot w' g l := h.same (hb.block g h.lt)
theorem PSlot.new (w : World) (l : List V) : PSlot (w.alloc (.cells (partC l) 115)) w.heap.size l := ⟨heap_alloc_new w _⟩
theorem PSlot.val {w : World} {g : Nat} {l : List V} (h : PSlot w g l) {k : Nat} (hk : k < 4) : ValAt w g (k * 4) (l.getD k zeroV) := by
  have e : ∀ j, w.cell? ⟨g, j, none⟩ = (partC l)[j]? := fun j => cell_of_row _ _ _ _ _ _ h.b
  rcases k with _ | _ | _ | _ | k
  · exact ⟨(e _).trans rfl, (e _).trans rfl, (e _).trans rfl, (e _).trans rfl⟩
  · exact ⟨(e _).trans rfl, (e _).trans rfl, (e _).trans rfl, (e _).trans rfl⟩
  · exact ⟨(e _).trans rfl, (e _).trans rfl, (e _).trans rfl, (e _).trans rfl⟩
  · exact ⟨(e _).trans rfl, (e _).trans rfl, (e _).trans rfl, (e _).trans rfl⟩
  · omega
theorem PSlot.free {w : World} {g : Nat} {l : List V} (h : PSlot w g l) (j : Nat) : w.frozen? ⟨g, j, none⟩ = false := frozen_of_row w g j _ _ h.b
/-- A value is put behind the others. -/
def putP (w : World) (g n : Nat) (p : V) : World := (((w.setCell ⟨g, n * 4, none⟩ (.int .i64 p.k)).setCell ⟨g, n * 4 + 1, none⟩ (.int .i64 p.i)).setCell ⟨g, n * 4 + 2, none⟩ (.bool p.b)).setCell ⟨g, n * 4 + 3, none⟩ (.string p.s)
theorem PSlot.put {w : World} {g : Nat} {l : List V} (h : PSlot w g l) {n : Nat} (hn : l.length = n) (h4 : n < 4) (p : V) : PSlot (putP w g n p) g (l ++ [p]) := by
  refine ⟨?_⟩
  unfold putP
  rw [heap_setCell_same _ _ _ _ _ _ (heap_setCell_same _ _ _ _ _ _ (heap_setCell_same _ _ _ _ _ _ (heap_setCell_same _ _ _ _ _ _ h.b)))]
  subst hn
  match l, h4 with
  | [], _ => rfl
  | [_], _ => rfl
  | [_, _], _ => rfl
  | [_, _, _], _ => rfl
theorem putP_below {w a : World} {B g n : Nat} (h : Below B a w) (hg : B ≤ g) (p : V) : Below B a (putP w g n p) := (((h.setCell hg _).setCell hg _).setCell hg _).setCell hg _
theorem putP_other {w : World} {g n k : Nat} (hne : k ≠ g) (p : V) : (putP w g n p).heap[k]? = w.heap[k]? := by
  unfold putP
  rw [Below.heap_setCell _ _ _ _ hne, Below.heap_setCell _ _ _ _ hne, Below.heap_setCell _ _ _ _ hne, Below.heap_setCell _ _ _ _ hne]
theorem PSlot.all {w : World} {g : Nat} {l : List V} (h : PSlot w g l) : w.cell? ⟨g, 0, none⟩ = some (.int .i64 (l.getD 0 zeroV).k) ∧ w.cell? ⟨g, 1, none⟩ = some (.int .i64 (l.getD 0 zeroV).i) ∧ w.cell? ⟨g, 2, none⟩ = some (.bool (l.getD 0 zeroV).b) ∧ w.cell? ⟨g, 3, none⟩ = some (.string (l.getD 0 zeroV).s) ∧ w.cell? ⟨g, 4, none⟩ = some (.int .i64 (l.getD 1 zeroV).k) ∧ w.cell? ⟨g, 5, none⟩ = some (.int .i64 (l.getD 1 zeroV).i) ∧ w.cell? ⟨g, 6, none⟩ = some (.bool (l.getD 1 zeroV).b) ∧ w.cell? ⟨g, 7, none⟩ = some (.string (l.getD 1 zeroV).s) ∧ w.cell? ⟨g, 8, none⟩ = some (.int .i64 (l.getD 2 zeroV).k) ∧ w.cell? ⟨g, 9, none⟩ = some (.int .i64 (l.getD 2 zeroV).i) ∧ w.cell? ⟨g, 10, none⟩ = some (.bool (l.getD 2 zeroV).b) ∧ w.cell? ⟨g, 11, none⟩ = some (.string (l.getD 2 zeroV).s) ∧ w.cell? ⟨g, 12, none⟩ = some (.int .i64 (l.getD 3 zeroV).k) ∧ w.cell? ⟨g, 13, none⟩ = some (.int .i64 (l.getD 3 zeroV).i) ∧ w.cell? ⟨g, 14, none⟩ = some (.bool (l.getD 3 zeroV).b) ∧ w.cell? ⟨g, 15, none⟩ = some (.string (l.getD 3 zeroV).s) := by
  have e : ∀ j, w.cell? ⟨g, j, none⟩ = (partC l)[j]? := fun j => cell_of_row _ _ _ _ _ _ h.b
  exact ⟨(e _).trans rfl, (e _).trans rfl, (e _).trans rfl, (e _).trans rfl, (e _).trans rfl, (e _).trans rfl, (e _).trans rfl, (e _).trans rfl, (e _).trans rfl, (e _).trans rfl, (e _).trans rfl, (e _).trans rfl, (e _).trans rfl, (e _).trans rfl, (e _).trans rfl, (e _).trans rfl⟩
theorem PSlot.frees {w : World} {g : Nat} {l : List V} (h : PSlot w g l) : w.frozen? ⟨g, 0, none⟩ = false ∧ w.frozen? ⟨g, 1, none⟩ = false ∧ w.frozen? ⟨g, 2, none⟩ = false ∧ w.frozen? ⟨g, 3, none⟩ = false ∧ w.frozen? ⟨g, 4, none⟩ = false ∧ w.frozen? ⟨g, 5, none⟩ = false ∧ w.frozen? ⟨g, 6, none⟩ = false ∧ w.frozen? ⟨g, 7, none⟩ = false ∧ w.frozen? ⟨g, 8, none⟩ = false ∧ w.frozen? ⟨g, 9, none⟩ = false ∧ w.frozen? ⟨g, 10, none⟩ = false ∧ w.frozen? ⟨g, 11, none⟩ = false ∧ w.frozen? ⟨g, 12, none⟩ = false ∧ w.frozen? ⟨g, 13, none⟩ = false ∧ w.frozen? ⟨g, 14, none⟩ = false ∧ w.frozen? ⟨g, 15, none⟩ = false := ⟨h.free 0, h.free 1, h.free 2, h.free 3, h.free 4, h.free 5, h.free 6, h.free 7, h.free 8, h.free 9, h.free 10, h.free 11, h.free 12, h.free 13, h.free 14, h.free 15⟩
/-- A whole array is written. -/
def putW (w : World) (g : Nat) (l : List V) : World := (((((((((((((((w.setCell ⟨g, 0, none⟩ (.int .i64 (l.getD 0 zeroV).k)).setCell ⟨g, 1, none⟩ (.int .i64 (l.getD 0 zeroV).i)).setCell ⟨g, 2, none⟩ (.bool (l.getD 0 zeroV).b)).setCell ⟨g, 3, none⟩ (.string (l.getD 0 zeroV).s)).setCell ⟨g, 4, none⟩ (.int .i64 (l.getD 1 zeroV).k)).setCell ⟨g, 5, none⟩ (.int .i64 (l.getD 1 zeroV).i)).setCell ⟨g, 6, none⟩ (.bool (l.getD 1 zeroV).b)).setCell ⟨g, 7, none⟩ (.string (l.getD 1 zeroV).s)).setCell ⟨g, 8, none⟩ (.int .i64 (l.getD 2 zeroV).k)).setCell ⟨g, 9, none⟩ (.int .i64 (l.getD 2 zeroV).i)).setCell ⟨g, 10, none⟩ (.bool (l.getD 2 zeroV).b)).setCell ⟨g, 11, none⟩ (.string (l.getD 2 zeroV).s)).setCell ⟨g, 12, none⟩ (.int .i64 (l.getD 3 zeroV).k)).setCell ⟨g, 13, none⟩ (.int .i64 (l.getD 3 zeroV).i)).setCell ⟨g, 14, none⟩ (.bool (l.getD 3 zeroV).b)).setCell ⟨g, 15, none⟩ (.string (l.getD 3 zeroV).s)
theorem PSlot.putW {w : World} {g : Nat} {l0 : List V} (h : PSlot w g l0) (l : List V) : PSlot (putW w g l) g l := by
  refine ⟨?_⟩
  have e0 := h.b
  have e1 := heap_setCell_same _ g 0 _ _ (.int .i64 (l.getD 0 zeroV).k) e0
  have e2 := heap_setCell_same _ g 1 _ _ (.int .i64 (l.getD 0 zeroV).i) e1
  clear e1
  have e3 := heap_setCell_same _ g 2 _ _ (.bool (l.getD 0 zeroV).b) e2
  clear e2
  have e4 := heap_setCell_same _ g 3 _ _ (.string (l.getD 0 zeroV).s) e3
  clear e3
  have e5 := heap_setCell_same _ g 4 _ _ (.int .i64 (l.getD 1 zeroV).k) e4
  clear e4
  have e6 := heap_setCell_same _ g 5 _ _ (.int .i64 (l.getD 1 zeroV).i) e5
  clear e5
  have e7 := heap_setCell_same _ g 6 _ _ (.bool (l.getD 1 zeroV).b) e6
  clear e6
  have e8 := heap_setCell_same _ g 7 _ _ (.string (l.getD 1 zeroV).s) e7
  clear e7
  have e9 := heap_setCell_same _ g 8 _ _ (.int .i64 (l.getD 2 zeroV).k) e8
  clear e8
  have e10 := heap_setCell_same _ g 9 _ _ (.int .i64 (l.getD 2 zeroV).i) e9
  clear e9
  have e11 := heap_setCell_same _ g 10 _ _ (.bool (l.getD 2 zeroV).b) e10
  clear e10
  have e12 := heap_setCell_same _ g 11 _ _ (.string (l.getD 2 zeroV).s) e11
  clear e11
  have e13 := heap_setCell_same _ g 12 _ _ (.int .i64 (l.getD 3 zeroV).k) e12
  clear e12
  have e14 := heap_setCell_same _ g 13 _ _ (.int .i64 (l.getD 3 zeroV).i) e13
  clear e13
  have e15 := heap_setCell_same _ g 14 _ _ (.bool (l.getD 3 zeroV).b) e14
  clear e14
  have e16 := heap_setCell_same _ g 15 _ _ (.string (l.getD 3 zeroV).s) e15
  clear e15
  unfold Go.Proofs.Ythfakpekdjmpjaa.putW
  refine e16.trans ?_
  have e : ∀ C C' : Array Value, C = C' → some (Obj.cells C 115 (0, 0)) = some (Obj.cells C' 115 (0, 0)) := fun C C' h => by rw [h]
  refine e _ _ ?_
  clear e16 e0 h
  kernel_rfl
theorem putW_below {w a : World} {B g : Nat} (h : Below B a w) (hg : B ≤ g) (l : List V) : Below B a (putW w g l) := (((((((((((((((h.setCell hg _).setCell hg _).setCell hg _).setCell hg _).setCell hg _).setCell hg _).setCell hg _).setCell hg _).setCell hg _).setCell hg _).setCell hg _).setCell hg _).setCell hg _).setCell hg _).setCell hg _).setCell hg _
theorem putW_other {w : World} {g k : Nat} (hne : k ≠ g) (l : List V) : (putW w g l).heap[k]? = w.heap[k]? := by
  unfold putW
  rw [Below.heap_setCell _ _ _ _ hne, Below.heap_setCell _ _ _ _ hne, Below.heap_setCell _ _ _ _ hne, Below.heap_setCell _ _ _ _ hne, Below.heap_setCell _ _ _ _ hne, Below.heap_setCell _ _ _ _ hne, Below.heap_setCell _ _ _ _ hne, Below.heap_setCell _ _ _ _ hne, Below.heap_setCell _ _ _ _ hne, Below.heap_setCell _ _ _ _ hne, Below.heap_setCell _ _ _ _ hne, Below.heap_setCell _ _ _ _ hne, Below.heap_setCell _ _ _ _ hne, Below.heap_setCell _ _ _ _ hne, Below.heap_setCell _ _ _ _ hne, Below.heap_setCell _ _ _ _ hne]
/-- Two lists of as many values are one where their arrays are. -/
theorem getD_inj {a b : List V} (hl : a.length = b.length) (h4 : a.length ≤ 4) (h : a.getD 0 zeroV = b.getD 0 zeroV ∧ a.getD 1 zeroV = b.getD 1 zeroV ∧ a.getD 2 zeroV = b.getD 2 zeroV ∧ a.getD 3 zeroV = b.getD 3 zeroV) : a = b := by
  match a, b, hl, h4, h with
  | [], [], _, _, _ => rfl
  | [_], [_], _, _, h => obtain ⟨h0, h1, h2, h3⟩ := h; simp only [List.getD_cons_zero, List.getD_cons_succ] at h0; rw [h0]
  | [_, _], [_, _], _, _, h => obtain ⟨h0, h1, h2, h3⟩ := h; simp only [List.getD_cons_zero, List.getD_cons_succ] at h0 h1; rw [h0, h1]
  | [_, _, _], [_, _, _], _, _, h => obtain ⟨h0, h1, h2, h3⟩ := h; simp only [List.getD_cons_zero, List.getD_cons_succ] at h0 h1 h2; rw [h0, h1, h2]
  | [_, _, _, _], [_, _, _, _], _, _, h => obtain ⟨h0, h1, h2, h3⟩ := h; simp only [List.getD_cons_zero, List.getD_cons_succ] at h0 h1 h2 h3; rw [h0, h1, h2, h3]
  | _ :: _ :: _ :: _ :: _ :: _, _, _, h4, _ => simp at h4
/-- A field that may stand takes what a row's place holds. -/
theorem row_takes {f : Fd} {v : V} {k : Int} (hk : takesB f k = true) (hv : isOf v k = true) : takesB f v.k = true := by
  unfold isOf at hv
  rw [Bool.or_eq_true, decide_eq_true_eq, decide_eq_true_eq] at hv
  rcases hv with h | h
  · rw [takes_field] at hk ⊢
    rw [Bool.and_eq_true] at hk ⊢
    refine ⟨hk.1, ?_⟩
    rw [Bool.not_eq_true', decide_eq_false_iff_not]
    rintro ⟨_, h2⟩
    rw [plainV_bool h2] at h
    have := congrArg V.k h
    have h2 : (2 : Int) = 0 := this; omega
  · rw [h]; exact hk
end Go.Proofs.Ythfakpekdjmpjaa
