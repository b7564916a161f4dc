/- Values cut into runs, runs joined: no program is spoken of. -/
import Derived.Test.YtpijnnkhokmlbaaVOrd
namespace Go.Proofs.Ytpijnnkhokmlbaa
open Go.Conc Go.RowKit
set_option linter.unusedVariables false

theorem kind_one {v : V} : kindV v = 1 ↔ v.k = 1 := by unfold kindV; split <;> omega
theorem kind_two {v : V} : kindV v = 2 ↔ v.k = 2 := by unfold kindV; split <;> omega
theorem kind_three {v : V} : kindV v = 3 ↔ v.k = 3 := by unfold kindV; split <;> omega
theorem cmpK_zero {a b : ByteArray} (h1 : ¬ cmpK a b < 0) (h2 : ¬ cmpK b a < 0) : a = b := by
  have h3 := cmpK_swap a b
  exact cmpK_eq a b (by omega)
/-- Values are one just where the order does not part them. -/
theorem ordV_zero (a b : V) : ordV a b = 0 ↔ plainV a = plainV b := by
  by_cases hk : kindV a = kindV b
  · unfold ordV
    rw [if_neg (by omega), if_neg (by omega)]
    by_cases h1 : kindV a = 1
    · rw [if_pos h1, plainV_int (kind_one.1 h1), plainV_int (kind_one.1 (hk ▸ h1))]
      constructor
      · intro h
        split at h
        · omega
        · split at h
          · omega
          · have : a.i = b.i := by omega
            rw [this]
      · intro h
        injection h with _ h2 _ _
        rw [h2, if_neg (by omega), if_neg (by omega)]
    rw [if_neg h1]
    by_cases h2 : kindV a = 2
    · rw [if_pos h2, plainV_bool (kind_two.1 h2), plainV_bool (kind_two.1 (hk ▸ h2))]
      generalize a.b = x
      generalize b.b = y
      cases x <;> cases y <;> simp
    rw [if_neg h2]
    by_cases h3 : kindV a = 3
    · rw [if_pos h3, plainV_text (kind_three.1 h3), plainV_text (kind_three.1 (hk ▸ h3))]
      constructor
      · intro h
        split at h
        · omega
        · split at h
          · omega
          · rename_i c1 c2
            rw [cmpK_zero c1 c2]
      · intro h
        injection h with _ _ _ h4
        rw [h4, cmpK_refl, if_neg (by omega), if_neg (by omega)]
    · rw [if_neg h3]
      have n1 : ¬ a.k = 1 := fun e => h1 (kind_one.2 e)
      have n2 : ¬ a.k = 2 := fun e => h2 (kind_two.2 e)
      have n3 : ¬ a.k = 3 := fun e => h3 (kind_three.2 e)
      have m1 : ¬ b.k = 1 := fun e => h1 (hk ▸ kind_one.2 e)
      have m2 : ¬ b.k = 2 := fun e => h2 (hk ▸ kind_two.2 e)
      have m3 : ¬ b.k = 3 := fun e => h3 (hk ▸ kind_three.2 e)
      rw [plainV_null n1 n2 n3, plainV_null m1 m2 m3]
      simp
  · constructor
    · intro h
      exfalso
      unfold ordV at h
      split at h
      · omega
      · split at h
        · omega
        · omega
    · intro h
      exact absurd (by rw [← plainV_kind, ← plainV_kind, h]) hk

def zeroV : V := ⟨0, 0, false, ByteArray.empty⟩
/-- A value more. -/
def cutStep (r : List Int × List V) (v : V) : List Int × List V :=
  if r.2.getLast? = some (plainV v) then (r.1.set (r.1.length - 1) (r.1.getD (r.1.length - 1) 0 + 1), r.2) else (r.1 ++ [1], r.2 ++ [plainV v])
def cutA (vs : List V) : List Int × List V := vs.foldl cutStep ([], [])
theorem cutA_nil : cutA [] = ([], []) := rfl
theorem cutA_snoc (vs : List V) (v : V) : cutA (vs ++ [v]) = cutStep (cutA vs) v := by unfold cutA; rw [List.foldl_append]; rfl
theorem cutA_take (vs : List V) (n : Nat) (h : n < vs.length) : cutA (vs.take (n + 1)) = cutStep (cutA (vs.take n)) vs[n] := by
  rw [← List.take_append_getElem h, cutA_snoc]
theorem snoc_ind {P : List V → Prop} (h0 : P []) (h1 : ∀ vs v, P vs → P (vs ++ [v])) (vs : List V) : P vs := by
  have : ∀ n, n ≤ vs.length → P (vs.take n) := by
    intro n
    induction n with
    | zero => intro _; simpa using h0
    | succ n ih =>
      intro h
      rw [← List.take_append_getElem (by omega)]
      exact h1 _ _ (ih (by omega))
  have := this vs.length (Nat.le_refl _)
  rwa [List.take_length] at this

/-- What the runs come to. -/
def expN (m : List Int) (e : List V) : Nat → List V
  | 0 => []
  | k + 1 => expN m e k ++ List.replicate (m.getD k 0).toNat (plainV (e.getD k zeroV))
def sumN (m : List Int) : Nat → Int
  | 0 => 0
  | k + 1 => sumN m k + m.getD k 0
theorem expN_same {m m' : List Int} {e e' : List V} : ∀ (k : Nat), (∀ i, i < k → m.getD i 0 = m'.getD i 0 ∧ e.getD i zeroV = e'.getD i zeroV) → expN m e k = expN m' e' k
  | 0, _ => rfl
  | k + 1, h => by rw [expN, expN, expN_same k fun i hi => h i (by omega), (h k (by omega)).1, (h k (by omega)).2]
theorem expN_length {m : List Int} {e : List V} : ∀ (k : Nat), (∀ i, i < k → 1 ≤ m.getD i 0) → ((expN m e k).length : Int) = sumN m k
  | 0, _ => rfl
  | k + 1, h => by
    rw [expN, sumN, List.length_append, List.length_replicate, ← expN_length (e := e) k fun i hi => h i (by omega)]
    have := h k (by omega)
    omega

/-- What Cut gives is well made. -/
structure Cutd (vs : List V) (m : List Int) (e : List V) : Prop where
  len : m.length = e.length
  le : e.length ≤ vs.length
  pos : ∀ i, i < m.length → 1 ≤ m.getD i 0
  plain : ∀ v ∈ e, plainV v = v
  last : e.getLast? = (vs.getLast?).map plainV
  apart : ∀ i, 0 < i → i < e.length → e.getD (i - 1) zeroV ≠ e.getD i zeroV
  all : expN m e m.length = vs.map plainV
  size : ∀ v ∈ e, ∃ u ∈ vs, v.s.size ≤ u.s.size
theorem getD_left {α : Type} {l r : List α} {d : α} {i : Nat} (h : i < l.length) : (l ++ r).getD i d = l.getD i d := by
  rw [List.getD_eq_getElem?_getD, List.getD_eq_getElem?_getD, List.getElem?_append_left h]
theorem getD_end {α : Type} {l : List α} {x d : α} : (l ++ [x]).getD l.length d = x := by
  rw [List.getD_eq_getElem?_getD, List.getElem?_append_right (Nat.le_refl _), Nat.sub_self]; rfl
theorem getD_set_other {α : Type} {l : List α} {x d : α} {i k : Nat} (h : k ≠ i) : (l.set k x).getD i d = l.getD i d := by
  rw [List.getD_eq_getElem?_getD, List.getD_eq_getElem?_getD, List.getElem?_set_ne h]
theorem getD_set_same {α : Type} {l : List α} {x d : α} {k : Nat} (h : k < l.length) : (l.set k x).getD k d = x := by
  rw [List.getD_eq_getElem?_getD, List.getElem?_set_self h]; rfl
theorem getD_in {α : Type} {l : List α} {d : α} {i : Nat} (h : i < l.length) : l.getD i d = l[i] := by
  rw [List.getD_eq_getElem?_getD, List.getElem?_eq_getElem h]; rfl
theorem last_getD {l : List V} {p d : V} (h : l.getLast? = some p) : 0 < l.length ∧ l.getD (l.length - 1) d = p := by
  have h1 : 0 < l.length := by
    cases l with
    | nil => simp at h
    | cons => simp
  refine ⟨h1, ?_⟩
  rw [List.getLast?_eq_getElem?] at h
  rw [List.getD_eq_getElem?_getD, h]; rfl
theorem cutd (vs : List V) : Cutd vs (cutA vs).1 (cutA vs).2 := by
  refine snoc_ind (P := fun vs => Cutd vs (cutA vs).1 (cutA vs).2) ⟨rfl, Nat.le_refl _, fun i hi => by simp [cutA] at hi, fun v hv => by simp [cutA] at hv, rfl, fun i _ hi => by simp [cutA] at hi, rfl, fun v hv => by simp [cutA] at hv⟩ (fun vs v h => ?_) vs
  rw [cutA_snoc]
  generalize cutA vs = r at *
  obtain ⟨m, e⟩ := r
  simp only at h
  unfold cutStep
  simp only
  by_cases c : e.getLast? = some (plainV v)
  · rw [if_pos c]
    obtain ⟨h0, hl⟩ := last_getD (d := zeroV) c
    have hm0 : 0 < m.length := by have := h.len; omega
    have hx := h.pos (m.length - 1) (by omega)
    refine ⟨by rw [List.length_set]; exact h.len, by show e.length ≤ _; rw [List.length_append]; have := h.le; omega, fun i hi => ?_, h.plain, by simp [c], h.apart, ?_, fun u hu => ?_⟩
    · rw [List.length_set] at hi
      by_cases e1 : m.length - 1 = i
      · subst e1
        rw [getD_set_same (by omega)]; omega
      · rw [getD_set_other e1]; exact h.pos i hi
    · have ha := h.all
      obtain ⟨k, hk⟩ : ∃ k, m.length = k + 1 := ⟨m.length - 1, by omega⟩
      rw [List.length_set, List.map_append, ← ha]
      rw [hk, Nat.add_sub_cancel, expN, expN, getD_set_same (by omega)]
      rw [expN_same (m' := m) (e' := e) k fun i hi => ⟨getD_set_other (by omega), rfl⟩]
      have hek : e.getD k zeroV = plainV v := by rw [← hl]; congr 1; have := h.len; omega
      rw [hk, Nat.add_sub_cancel] at hx
      rw [hek, show (m.getD k 0 + 1).toNat = (m.getD k 0).toNat + 1 by omega, List.replicate_succ', List.append_assoc, plainV_twice]
      rfl
    · obtain ⟨u', h1, h2⟩ := h.size u hu
      exact ⟨u', List.mem_append_left _ h1, h2⟩
  · rw [if_neg c]
    refine ⟨by simp [h.len], by simp; exact h.le, fun i hi => ?_, fun u hu => ?_, by simp, fun i h0 hi => ?_, ?_, fun u hu => ?_⟩
    · rw [List.length_append] at hi
      by_cases e1 : i < m.length
      · rw [getD_left e1]; exact h.pos i e1
      · have : i = m.length := by simp at hi; omega
        subst this
        rw [getD_end]; omega
    · rcases List.mem_append.1 hu with hu | hu
      · exact h.plain u hu
      · simp at hu; rw [hu, plainV_twice]
    · rw [List.length_append] at hi
      by_cases e1 : i < e.length
      · rw [getD_left e1, getD_left (by omega)]; exact h.apart i h0 e1
      · have : i = e.length := by simp at hi; omega
        subst this
        rw [getD_end, getD_left (by omega)]
        intro eq
        refine c ?_
        rw [List.getLast?_eq_getElem?, List.getElem?_eq_getElem (by omega), ← eq, getD_in (by omega)]
    · have e1 : (m ++ [(1 : Int)]).length = m.length + 1 := by simp
      rw [e1, expN, getD_end, List.map_append, ← h.all]
      rw [expN_same (m' := m) (e' := e) m.length fun i hi => ⟨getD_left hi, getD_left (by rw [← h.len]; exact hi)⟩]
      congr 1
      rw [show (e ++ [plainV v]).getD m.length zeroV = plainV v by rw [h.len]; exact getD_end, plainV_twice]; rfl
    · rcases List.mem_append.1 hu with hu | hu
      · obtain ⟨u', h1, h2⟩ := h.size u hu
        exact ⟨u', List.mem_append_left _ h1, h2⟩
      · simp at hu
        exact ⟨v, by simp, by rw [hu]; exact plainV_size v⟩

/-- Runs joined, so far. -/
def joinN (m : List Int) (e : List V) : Nat → Option (List V)
  | 0 => some []
  | k + 1 => match joinN m e k with
    | none => none
    | some out => if m.getD k 0 < 1 ∨ 4096 - (out.length : Int) < m.getD k 0 ∨ (0 < k ∧ plainV (e.getD (k - 1) zeroV) = plainV (e.getD k zeroV)) then none else some (out ++ List.replicate (m.getD k 0).toNat (plainV (e.getD k zeroV)))
def joinA (m : List Int) (e : List V) : List V × Int :=
  if m.length = e.length then (match joinN m e e.length with | none => ([], 700) | some out => (out, 0)) else ([], 700)
theorem joinN_none {m : List Int} {e : List V} {k : Nat} (h : joinN m e k = none) : ∀ n, k ≤ n → joinN m e n = none
  | 0, hn => by obtain rfl : k = 0 := by omega
                exact h
  | n + 1, hn => by
    rcases Nat.lt_or_ge n k with c | c
    · obtain rfl : k = n + 1 := by omega
      exact h
    · rw [joinN, joinN_none h n c]
theorem joinA_none {m : List Int} {e : List V} {k : Nat} (hk : k ≤ e.length) (h : joinN m e k = none) : joinA m e = ([], 700) := by
  unfold joinA
  rw [joinN_none h _ hk]
  split <;> rfl
theorem joinA_some {m : List Int} {e out : List V} (hl : m.length = e.length) (h : joinN m e e.length = some out) : joinA m e = (out, 0) := by
  unfold joinA
  rw [if_pos hl, h]
theorem joinA_len {m : List Int} {e : List V} (hl : ¬ m.length = e.length) : joinA m e = ([], 700) := by
  unfold joinA
  rw [if_neg hl]
theorem joinN_le {m : List Int} {e : List V} : ∀ (k : Nat) (out : List V), joinN m e k = some out → out.length ≤ 4096
  | 0, out, h => by injection h with h; subst h; simp
  | k + 1, out, h => by
    rw [joinN] at h
    split at h
    · simp at h
    · rename_i o ho
      have := joinN_le k o ho
      split at h
      · simp at h
      · rename_i c
        injection h with h
        subst h
        rw [List.length_append, List.length_replicate]
        omega
theorem joinA_le (m : List Int) (e : List V) : (joinA m e).1.length ≤ 4096 := by
  unfold joinA
  split
  · split
    · simp
    · rename_i o ho; exact joinN_le _ o ho
  · simp
/-- Runs that are well made come to what they tell, if there is room. -/
theorem joinN_made {m : List Int} {e : List V} : ∀ (k : Nat), (∀ i, i < k → 1 ≤ m.getD i 0) → (∀ i, 0 < i → i < k → plainV (e.getD (i - 1) zeroV) ≠ plainV (e.getD i zeroV)) →
    joinN m e k = if (expN m e k).length ≤ 4096 then some (expN m e k) else none
  | 0, _, _ => by rw [joinN, expN, if_pos (by simp)]
  | k + 1, h1, h2 => by
    rw [joinN, joinN_made k (fun i hi => h1 i (by omega)) fun i h0 hi => h2 i h0 (by omega), expN]
    have hp := h1 k (by omega)
    have hlen : (expN m e k ++ List.replicate (m.getD k 0).toNat (plainV (e.getD k zeroV))).length = (expN m e k).length + (m.getD k 0).toNat := by rw [List.length_append, List.length_replicate]
    by_cases c : (expN m e k).length ≤ 4096
    · rw [if_pos c]
      simp only
      by_cases c2 : (expN m e k).length + (m.getD k 0).toNat ≤ 4096
      · have hn : ¬ (m.getD k 0 < 1 ∨ 4096 - ((expN m e k).length : Int) < m.getD k 0 ∨ (0 < k ∧ plainV (e.getD (k - 1) zeroV) = plainV (e.getD k zeroV))) := by
          rintro (h | h | ⟨h, hh⟩)
          · omega
          · omega
          · exact h2 k h (by omega) hh
        rw [if_neg hn, if_pos (by rw [hlen]; exact c2)]
      · rw [if_pos (.inr (.inl (by omega))), if_neg (by rw [hlen]; exact c2)]
    · rw [if_neg c, if_neg (by rw [hlen]; omega)]
theorem join_cut (vs : List V) : joinA (cutA vs).1 (cutA vs).2 = if vs.length ≤ 4096 then (vs.map plainV, 0) else ([], 700) := by
  have h := cutd vs
  generalize (cutA vs).1 = m at *
  generalize (cutA vs).2 = e at *
  have hj := joinN_made (m := m) (e := e) e.length (fun i hi => h.pos i (by rw [h.len]; exact hi)) (fun i h0 hi => by
    rw [getD_in (l := e) (i := i) hi, getD_in (l := e) (i := i - 1) (by omega), h.plain _ (List.getElem_mem _), h.plain _ (List.getElem_mem _)]
    have := h.apart i h0 hi
    rwa [getD_in (l := e) (i := i) hi, getD_in (l := e) (i := i - 1) (by omega)] at this)
  have ha := h.all
  rw [h.len] at ha
  rw [ha, List.length_map] at hj
  by_cases c : vs.length ≤ 4096
  · rw [if_pos c] at hj ⊢
    exact joinA_some h.len hj
  · rw [if_neg c] at hj ⊢
    exact joinA_none (Nat.le_refl _) hj
theorem sum_cut (vs : List V) : sumN (cutA vs).1 (cutA vs).1.length = vs.length := by
  have h := cutd vs
  rw [← expN_length (e := (cutA vs).2) _ h.pos, h.all, List.length_map]
theorem sumN_le {m : List Int} : ∀ (k : Nat), (∀ i, i < k → 1 ≤ m.getD i 0) → 0 ≤ sumN m k ∧ ∀ i, i < k → m.getD i 0 ≤ sumN m k
  | 0, _ => ⟨Int.le_refl _, fun i hi => by omega⟩
  | k + 1, h => by
    obtain ⟨h0, h1⟩ := sumN_le k fun i hi => h i (by omega)
    have := h k (by omega)
    rw [sumN]
    refine ⟨by omega, fun i hi => ?_⟩
    by_cases c : i < k
    · have := h1 i c; omega
    · obtain rfl : i = k := by omega
      omega
theorem sumN_mono {m : List Int} {n : Nat} (h : ∀ i, i < n → 1 ≤ m.getD i 0) : ∀ (d k : Nat), k + d = n → sumN m k ≤ sumN m n
  | 0, k, e => by obtain rfl : k = n := by omega
                  exact Int.le_refl _
  | d + 1, k, e => by
    have h1 := sumN_mono h d (k + 1) (by omega)
    rw [sumN] at h1
    have := h k (by omega)
    omega
theorem cut_num_le (vs : List V) (i : Nat) (h : i < (cutA vs).1.length) : (cutA vs).1.getD i 0 ≤ vs.length := by
  rw [← sum_cut]
  exact (sumN_le _ (cutd vs).pos).2 i h
end Go.Proofs.Ytpijnnkhokmlbaa
