/- Values as words and places: no program is spoken of. -/
import Derived.Test.YtgpnfmkonhaccaaVPlain
import Derived.Test.YtgpnfmkonhaccaaGetD
namespace Go.Proofs.Ytgpnfmkonhaccaa
open Go.Conc Go.RowKit
set_option linter.unusedVariables false
set_option linter.unusedSimpArgs false

/-- A word's place; as many as there are, where it is none. -/
def placeV (p : V) : List V → Nat
  | [] => 0
  | w :: r => if w = p then 0 else placeV p r + 1
theorem placeV_le (p : V) : ∀ ws : List V, placeV p ws ≤ ws.length
  | [] => Nat.le_refl _
  | w :: r => by
    rw [placeV]
    have := placeV_le p r
    split <;> simp <;> omega
theorem placeV_is (p : V) : ∀ (ws : List V) (k : Nat), k ≤ ws.length → (∀ i, i < k → ws.getD i zeroV ≠ p) → (k = ws.length ∨ ws.getD k zeroV = p) → placeV p ws = k
  | [], k, hk, _, _ => by have : k = 0 := by simpa using hk
                          rw [this]; rfl
  | w :: r, 0, _, _, h => by
    rw [placeV]
    rcases h with h | h
    · simp at h
    · rw [if_pos (by simpa using h)]
  | w :: r, k + 1, hk, h1, h2 => by
    have h0 : w ≠ p := by simpa using h1 0 (by omega)
    rw [placeV, if_neg h0, placeV_is p r k (by simpa using hk) (fun i hi => by simpa using h1 (i + 1) (by omega)) (by simpa using h2)]
theorem placeV_at (p : V) : ∀ ws : List V, placeV p ws < ws.length → ws.getD (placeV p ws) zeroV = p
  | [], h => by simp [placeV] at h
  | w :: r, h => by
    rw [placeV] at h ⊢
    by_cases c : w = p
    · rw [if_pos c]; simpa using c
    · rw [if_neg c] at h ⊢
      simpa using placeV_at p r (by simpa using h)
theorem placeV_before (p : V) : ∀ (ws : List V) (i : Nat), i < placeV p ws → ws.getD i zeroV ≠ p
  | [], i, h => by simp [placeV] at h
  | w :: r, 0, h => by
    rw [placeV] at h
    by_cases c : w = p
    · rw [if_pos c] at h; simp at h
    · simpa using c
  | w :: r, i + 1, h => by
    rw [placeV] at h
    by_cases c : w = p
    · rw [if_pos c] at h; simp at h
    · rw [if_neg c] at h
      simpa using placeV_before p r i (by omega)
theorem placeV_none (p : V) (ws : List V) : placeV p ws = ws.length ↔ ∀ i, i < ws.length → ws.getD i zeroV ≠ p := by
  constructor
  · intro h i hi
    exact placeV_before p ws i (by omega)
  · intro h
    exact placeV_is p ws ws.length (Nat.le_refl _) h (.inl rfl)

/-- A value more. -/
def buildStep (r : List V × List Int) (v : V) : List V × List Int :=
  (if placeV (plainV v) r.1 = r.1.length then r.1 ++ [plainV v] else r.1, r.2 ++ [((placeV (plainV v) r.1 : Nat) : Int)])
def buildA (vs : List V) : List V × List Int := vs.foldl buildStep ([], [])
theorem buildA_nil : buildA [] = ([], []) := rfl
theorem buildA_snoc (vs : List V) (v : V) : buildA (vs ++ [v]) = buildStep (buildA vs) v := by unfold buildA; rw [List.foldl_append]; rfl
theorem buildA_take (vs : List V) (n : Nat) (h : n < vs.length) : buildA (vs.take (n + 1)) = buildStep (buildA (vs.take n)) vs[n] := by
  rw [← List.take_append_getElem h, buildA_snoc]

/-- What Build gives is well made. -/
structure Built (vs : List V) (ws : List V) (at_ : List Int) : Prop where
  len : at_.length = vs.length
  le : ws.length ≤ vs.length
  plain : ∀ i, i < ws.length → plainV (ws.getD i zeroV) = ws.getD i zeroV
  apart : ∀ i j, i < j → j < ws.length → ws.getD i zeroV ≠ ws.getD j zeroV
  place : ∀ i, i < vs.length → ∃ k : Nat, at_.getD i 0 = (k : Int) ∧ k < ws.length ∧ ws.getD k zeroV = plainV (vs.getD i zeroV)
  size : ∀ w ∈ ws, ∃ u ∈ vs, w.s.size ≤ u.s.size
theorem built (vs : List V) : Built vs (buildA vs).1 (buildA vs).2 := by
  refine snoc_ind (P := fun vs => Built vs (buildA vs).1 (buildA vs).2) ⟨rfl, Nat.le_refl _, fun i hi => by simp [buildA] at hi, fun i j _ hj => by simp [buildA] at hj, fun i hi => by simp at hi, fun w hw => by simp [buildA] at hw⟩ (fun vs v h => ?_) vs
  rw [buildA_snoc]
  generalize buildA vs = r at *
  obtain ⟨ws, at_⟩ := r
  simp only at h
  unfold buildStep
  simp only
  generalize hp : plainV v = p
  have hpp : plainV p = p := by rw [← hp, plainV_twice]
  have hps : p.s.size ≤ v.s.size := by rw [← hp]; exact plainV_size v
  have hle := placeV_le p ws
  have hplace : ∀ (ws' : List V), (∀ k, k < ws.length → ws'.getD k zeroV = ws.getD k zeroV) → ws.length ≤ ws'.length → placeV p ws < ws'.length → ws'.getD (placeV p ws) zeroV = p →
      ∀ i, i < (vs ++ [v]).length → ∃ k : Nat, (at_ ++ [((placeV p ws : Nat) : Int)]).getD i 0 = (k : Int) ∧ k < ws'.length ∧ ws'.getD k zeroV = plainV ((vs ++ [v]).getD i zeroV) := by
    intro ws' h1 h2 h3 h4 i hi
    by_cases c : i < vs.length
    · obtain ⟨k, k1, k2, k3⟩ := h.place i c
      exact ⟨k, by rw [getD_left (by rw [h.len]; exact c)]; exact k1, by omega, by rw [h1 k k2, getD_left c]; exact k3⟩
    · obtain rfl : i = vs.length := by simp at hi; omega
      refine ⟨placeV p ws, by rw [← h.len, getD_end], h3, by rw [h4, getD_end, hp]⟩
  by_cases c : placeV p ws = ws.length
  · rw [if_pos c]
    have hn := (placeV_none p ws).1 c
    refine ⟨by simp [h.len], by simp; exact h.le, fun i hi => ?_, fun i j hij hj => ?_, hplace _ (fun k hk => getD_left hk) (by simp) (by simp; omega) (by rw [c, getD_end]), fun w hw => ?_⟩
    · by_cases e : i < ws.length
      · rw [getD_left e]; exact h.plain i e
      · obtain rfl : i = ws.length := by simp at hi; omega
        rw [getD_end]; exact hpp
    · by_cases e : j < ws.length
      · rw [getD_left e, getD_left (by omega)]; exact h.apart i j hij e
      · obtain rfl : j = ws.length := by simp at hj; omega
        rw [getD_end, getD_left hij]; exact hn i hij
    · rcases List.mem_append.1 hw with hw | hw
      · obtain ⟨u, h1, h2⟩ := h.size w hw
        exact ⟨u, List.mem_append_left _ h1, h2⟩
      · simp at hw
        exact ⟨v, by simp, by rw [hw]; exact hps⟩
  · rw [if_neg c]
    refine ⟨by simp [h.len], by simp; have := h.le; omega, h.plain, h.apart, hplace ws (fun _ _ => rfl) (Nat.le_refl _) (by omega) (placeV_at p ws (by omega)), fun w hw => ?_⟩
    obtain ⟨u, h1, h2⟩ := h.size w hw
    exact ⟨u, List.mem_append_left _ h1, h2⟩

/-- A value's place, and how many words there are behind it. -/
theorem build_at (vs : List V) (n : Nat) (h : n < vs.length) : (buildA vs).2.getD n 0 = ((placeV (plainV vs[n]) (buildA (vs.take n)).1 : Nat) : Int) := by
  have : ∀ d m, m = n + 1 + d → m ≤ vs.length → (buildA (vs.take m)).2.getD n 0 = ((placeV (plainV vs[n]) (buildA (vs.take n)).1 : Nat) : Int) := by
    intro d
    induction d with
    | zero =>
      rintro m rfl hm
      have hl : (buildA (vs.take n)).2.length = n := by rw [(built (vs.take n)).len, List.length_take]; omega
      have hg : ∀ (l : List Int) (x : Int), l.length = n → (l ++ [x]).getD n 0 = x := fun l x e => by rw [← e]; exact getD_end
      rw [Nat.add_zero, buildA_take vs n h]
      exact hg _ _ hl
    | succ d ih =>
      rintro m rfl hm
      rw [show n + 1 + (d + 1) = (n + 1 + d) + 1 by omega, buildA_take vs _ (by omega)]
      have hl : (buildA (vs.take (n + 1 + d))).2.length = n + 1 + d := by rw [(built _).len, List.length_take]; omega
      unfold buildStep
      simp only
      rw [getD_left (by rw [hl]; omega)]
      exact ih _ rfl (by omega)
  have := this (vs.length - (n + 1)) vs.length (by omega) (Nat.le_refl _)
  rwa [List.take_length] at this
theorem build_len (vs : List V) (n : Nat) (h : n < vs.length) : (buildA (vs.take (n + 1))).1.length = max (buildA (vs.take n)).1.length (placeV (plainV vs[n]) (buildA (vs.take n)).1 + 1) := by
  rw [buildA_take vs n h]
  unfold buildStep
  simp only
  have := placeV_le (plainV vs[n]) (buildA (vs.take n)).1
  split
  · rename_i c
    rw [List.length_append, c]; simp
  · omega
/-- The words that were stand ahead. -/
theorem build_more (vs : List V) (v : V) : (buildA (vs ++ [v])).2 = (buildA vs).2 ++ [((placeV (plainV v) (buildA vs).1 : Nat) : Int)] ∧
    ((placeV (plainV v) (buildA vs).1 = (buildA vs).1.length ∧ (buildA (vs ++ [v])).1 = (buildA vs).1 ++ [plainV v]) ∨ (placeV (plainV v) (buildA vs).1 < (buildA vs).1.length ∧ (buildA (vs ++ [v])).1 = (buildA vs).1)) := by
  rw [buildA_snoc]
  refine ⟨rfl, ?_⟩
  unfold buildStep
  simp only
  have := placeV_le (plainV v) (buildA vs).1
  by_cases c : placeV (plainV v) (buildA vs).1 = (buildA vs).1.length
  · rw [if_pos c]; exact .inl ⟨c, rfl⟩
  · rw [if_neg c]; exact .inr ⟨by omega, rfl⟩

/-- Are two of the words one? -/
def dupV (ws : List V) : Prop := ∃ i j, i < j ∧ j < ws.length ∧ plainV (ws.getD i zeroV) = plainV (ws.getD j zeroV)
theorem built_apart (vs : List V) : ¬ dupV (buildA vs).1 := by
  rintro ⟨i, j, hij, hj, h⟩
  have hb := built vs
  rw [hb.plain i (by omega), hb.plain j hj] at h
  exact hb.apart i j hij hj h
open Classical in
/-- What Look answers. -/
noncomputable def lookA (ws : List V) (at_ : List Int) : List V × Int :=
  if dupV ws ∨ ∃ x ∈ at_, x < 0 ∨ (ws.length : Int) ≤ x then ([], 800) else (at_.map fun x => plainV (ws.getD x.toNat zeroV), 0)
theorem lookA_dup {ws : List V} {at_ : List Int} (h : dupV ws) : lookA ws at_ = ([], 800) := by unfold lookA; rw [if_pos (.inl h)]
theorem lookA_out {ws : List V} {at_ : List Int} {x : Int} (hx : x ∈ at_) (h : x < 0 ∨ (ws.length : Int) ≤ x) : lookA ws at_ = ([], 800) := by unfold lookA; rw [if_pos (.inr ⟨x, hx, h⟩)]
theorem lookA_yes {ws : List V} {at_ : List Int} (h1 : ¬ dupV ws) (h2 : ∀ x ∈ at_, 0 ≤ x ∧ x < ws.length) : lookA ws at_ = (at_.map fun x => plainV (ws.getD x.toNat zeroV), 0) := by
  unfold lookA
  rw [if_neg]
  rintro (h | ⟨x, hx, h⟩)
  · exact h1 h
  · have := h2 x hx; omega
theorem lookA_le (ws : List V) (at_ : List Int) : (lookA ws at_).1.length ≤ at_.length := by
  unfold lookA
  split
  · simp
  · simp
/-- Places that were built look up what it was. -/
theorem look_built (vs : List V) : lookA (buildA vs).1 (buildA vs).2 = (vs.map plainV, 0) := by
  have hb := built vs
  have hat : ∀ x ∈ (buildA vs).2, 0 ≤ x ∧ x < (buildA vs).1.length := by
    intro x hx
    obtain ⟨i, hi, rfl⟩ := List.getElem_of_mem hx
    obtain ⟨k, k1, k2, _⟩ := hb.place i (by rw [← hb.len]; exact hi)
    rw [getD_in hi] at k1
    omega
  rw [lookA_yes (built_apart vs) hat]
  congr 1
  apply List.ext_getElem
  · rw [List.length_map, List.length_map, hb.len]
  · intro i h1 h2
    rw [List.length_map] at h1 h2
    rw [List.getElem_map, List.getElem_map]
    obtain ⟨k, k1, k2, k3⟩ := hb.place i h2
    rw [getD_in h1] at k1
    rw [k1, Int.toNat_natCast, hb.plain k k2, k3, getD_in h2]

theorem dup_more {ws : List V} {v : V} (h : dupV ws) : dupV (ws ++ [v]) := by
  obtain ⟨i, j, hij, hj, e⟩ := h
  exact ⟨i, j, hij, by simp; omega, by rw [getD_left (by omega), getD_left hj]; exact e⟩
theorem dup_last {ws : List V} {v : V} (h : ¬ dupV (ws ++ [v])) : ∀ i, i < ws.length → plainV (ws.getD i zeroV) ≠ plainV v := by
  intro i hi e
  exact h ⟨i, ws.length, hi, by simp, by rw [getD_left hi, getD_end]; exact e⟩
theorem map_getD {ws : List V} {i : Nat} (hi : i < ws.length) : (ws.map plainV).getD i zeroV = plainV (ws.getD i zeroV) := by
  rw [getD_in (by rw [List.length_map]; exact hi), getD_in hi, List.getElem_map]
/-- Words that are unlike are all built again. -/
theorem build_whole (ws : List V) : ¬ dupV ws → (buildA ws).1 = ws.map plainV := by
  refine snoc_ind (P := fun ws => ¬ dupV ws → (buildA ws).1 = ws.map plainV) (fun _ => rfl) (fun ws v ih h => ?_) ws
  have h1 := ih fun e => h (dup_more e)
  rw [buildA_snoc, buildStep, h1]
  simp only
  rw [if_pos, List.map_append, List.map_singleton]
  rw [placeV_none]
  intro i hi
  rw [List.length_map] at hi
  rw [map_getD hi]
  exact dup_last h i hi
/-- .. and where two are one, there are fewer. -/
theorem build_less (ws : List V) : dupV ws → (buildA ws).1.length < ws.length := by
  intro h
  rcases Nat.lt_or_ge (buildA ws).1.length ws.length with c | c
  · exact c
  · exact absurd h (snoc_ind (P := fun ws => ws.length ≤ (buildA ws).1.length → ¬ dupV ws) (fun _ => by rintro ⟨i, j, _, hj, _⟩; simp at hj) (fun ws v ih hl => by
      rw [buildA_snoc, buildStep] at hl
      simp only at hl
      have hb := (built ws).le
      by_cases e : placeV (plainV v) (buildA ws).1 = (buildA ws).1.length
      · rw [if_pos e] at hl
        have h1 := ih (by simp at hl; omega)
        rw [build_whole ws h1, placeV_none] at e
        rintro ⟨i, j, hij, hj, e2⟩
        rw [List.length_append, List.length_singleton] at hj
        by_cases c2 : j < ws.length
        · rw [getD_left c2, getD_left (by omega)] at e2
          exact h1 ⟨i, j, hij, c2, e2⟩
        · obtain rfl : j = ws.length := by omega
          rw [getD_end, getD_left hij] at e2
          have := e i (by rw [List.length_map]; exact hij)
          rw [map_getD hij] at this
          exact this e2
      · rw [if_neg e] at hl
        simp at hl
        omega) ws c)
end Go.Proofs.Ytgpnfmkonhaccaa
