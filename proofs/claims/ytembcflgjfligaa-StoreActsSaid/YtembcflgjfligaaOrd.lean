/- The order of keys, byte by byte; the place of a key in a list that rises. No program is spoken of. -/
import Derived.Lib.Bytealg
namespace Go.Proofs.Ytembcflgjfligaa
open Go

abbrev cmpL (a b : List UInt8) : Int := Lib.compareBytes a b
abbrev cmpK (a b : ByteArray) : Int := Lib.compareBytes a.data.toList b.data.toList

theorem cmpL_refl (a : List UInt8) : cmpL a a = 0 := by
  induction a with
  | nil => rfl
  | cons x a ih => simp only [cmpL, Lib.compareBytes]; rw [if_neg (by simp), if_neg (by simp)]; exact ih
theorem cmpL_cons (x y : UInt8) (a b : List UInt8) : cmpL (x :: a) (y :: b) = if x < y then -1 else if y < x then 1 else cmpL a b := rfl
theorem cmpL_cases (a b : List UInt8) : cmpL a b = -1 ∨ cmpL a b = 0 ∨ cmpL a b = 1 := by
  induction a generalizing b with
  | nil => cases b <;> simp [cmpL, Lib.compareBytes]
  | cons x a ih =>
    cases b with
    | nil => simp [cmpL, Lib.compareBytes]
    | cons y b => rw [cmpL_cons]; split; · simp
                  split; · simp
                  exact ih b
theorem cmpL_eq (a b : List UInt8) (h : cmpL a b = 0) : a = b := by
  induction a generalizing b with
  | nil => cases b with
    | nil => rfl
    | cons y b => simp [cmpL, Lib.compareBytes] at h
  | cons x a ih =>
    cases b with
    | nil => simp [cmpL, Lib.compareBytes] at h
    | cons y b =>
      rw [cmpL_cons] at h
      split at h; · simp at h
      split at h; · simp at h
      rename_i h1 h2
      have : x = y := by
        rw [UInt8.lt_iff_toNat_lt] at h1 h2
        exact UInt8.toNat_inj.1 (by omega)
      rw [this, ih b h]
theorem cmpL_swap (a b : List UInt8) : cmpL a b = - cmpL b a := by
  induction a generalizing b with
  | nil => cases b <;> simp [cmpL, Lib.compareBytes]
  | cons x a ih =>
    cases b with
    | nil => simp [cmpL, Lib.compareBytes]
    | cons y b =>
      rw [cmpL_cons, cmpL_cons, ih b]
      simp only [UInt8.lt_iff_toNat_lt]
      by_cases h1 : x.toNat < y.toNat
      · rw [if_pos h1, if_neg (by omega), if_pos h1]
      · by_cases h2 : y.toNat < x.toNat
        · rw [if_neg h1, if_pos h2, if_pos h2]; rfl
        · rw [if_neg h1, if_neg h2, if_neg h2, if_neg h1]
theorem cmpL_trans (a b c : List UInt8) (h : cmpL a b < 0) (k : cmpL b c < 0) : cmpL a c < 0 := by
  induction a generalizing b c with
  | nil =>
    cases c with
    | nil => cases b <;> simp [cmpL, Lib.compareBytes] at *
    | cons z c => simp [cmpL, Lib.compareBytes]
  | cons x a ih =>
    cases b with
    | nil => simp [cmpL, Lib.compareBytes] at h
    | cons y b =>
      cases c with
      | nil => simp [cmpL, Lib.compareBytes] at k
      | cons z c =>
        rw [cmpL_cons] at *
        simp only [UInt8.lt_iff_toNat_lt] at *
        by_cases h1 : x.toNat < z.toNat
        · rw [if_pos h1]; omega
        · rw [if_neg h1]
          split at h
          · split at k
            · omega
            · split at k
              · omega
              · omega
          · split at h
            · omega
            · split at k
              · omega
              · split at k
                · omega
                · rw [if_neg (by omega)]; exact ih b c h k

theorem cmpK_refl (a : ByteArray) : cmpK a a = 0 := cmpL_refl _
theorem cmpK_eq (a b : ByteArray) (h : cmpK a b = 0) : a = b := by
  have := cmpL_eq _ _ h
  cases a; cases b
  exact congrArg ByteArray.mk (Array.toList_inj.1 this)
theorem cmpK_cases (a b : ByteArray) : cmpK a b = -1 ∨ cmpK a b = 0 ∨ cmpK a b = 1 := cmpL_cases _ _
theorem cmpK_swap (a b : ByteArray) : cmpK a b = - cmpK b a := cmpL_swap _ _
theorem cmpK_trans {a b c : ByteArray} (h : cmpK a b < 0) (k : cmpK b c < 0) : cmpK a c < 0 := cmpL_trans _ _ _ h k
/-- b is not ahead of a. -/
theorem cmpK_le_trans {a b c : ByteArray} (h : ¬ cmpK b a < 0) (k : ¬ cmpK c b < 0) : ¬ cmpK c a < 0 := by
  intro hc
  have h1 := cmpK_swap a b
  have h2 := cmpK_swap b c
  rcases cmpK_cases a b with e | e | e
  · rcases cmpK_cases b c with f | f | f
    · have := cmpK_trans (a := a) (b := b) (c := c) (by omega) (by omega)
      have := cmpK_swap a c
      omega
    · rw [cmpK_eq _ _ f] at e
      have := cmpK_swap a c
      omega
    · omega
  · rw [cmpK_eq _ _ e] at hc
    exact k hc
  · omega

/-- A list of keys that rises. -/
def Rises (ks : List ByteArray) : Prop := ks.Pairwise fun a b => cmpK a b < 0
theorem Rises.at {ks : List ByteArray} (h : Rises ks) {i j : Nat} {a b : ByteArray} (hi : ks[i]? = some a) (hj : ks[j]? = some b) (hij : i < j) : cmpK a b < 0 := by
  obtain ⟨hi', rfl⟩ := List.getElem?_eq_some_iff.1 hi
  obtain ⟨hj', rfl⟩ := List.getElem?_eq_some_iff.1 hj
  exact List.pairwise_iff_getElem.1 h i j hi' hj' hij
/-- Where a key stands, or would stand. -/
def keyPlace (ks : List ByteArray) (k : ByteArray) : Nat := ks.countP fun a => cmpK a k < 0
theorem keyPlace_le (ks : List ByteArray) (k : ByteArray) : keyPlace ks k ≤ ks.length := List.countP_le_length
/-- Just one number parts a rising list so. -/
theorem keyPlace_split (k : ByteArray) : ∀ (ks : List ByteArray) (i : Nat), i ≤ ks.length → (∀ j a, j < i → ks[j]? = some a → cmpK a k < 0) → (∀ j a, i ≤ j → ks[j]? = some a → ¬ cmpK a k < 0) → keyPlace ks k = i
  | [], i, hi, _, _ => by
    have : i = 0 := by simpa using hi
    simp [this, keyPlace]
  | a :: r, 0, _, _, h2 => by
    have ha : ¬ cmpK a k < 0 := h2 0 a (Nat.le_refl _) rfl
    have := keyPlace_split k r 0 (Nat.zero_le _) (fun j _ hj => absurd hj (Nat.not_lt_zero _)) (fun j b _ hj => h2 (j + 1) b (Nat.zero_le _) (by simpa using hj))
    simp only [keyPlace, List.countP_cons] at *
    simp [ha, this]
  | a :: r, i + 1, hi, h1, h2 => by
    have ha : cmpK a k < 0 := h1 0 a (Nat.succ_pos _) rfl
    have := keyPlace_split k r i (by simpa using hi) (fun j b hj hb => h1 (j + 1) b (by omega) (by simpa using hb)) (fun j b hij hb => h2 (j + 1) b (by omega) (by simpa using hb))
    simp only [keyPlace, List.countP_cons] at *
    simp [ha, this]
theorem keyPlace_lo {ks : List ByteArray} (h : Rises ks) (k : ByteArray) : ∀ j a, j < keyPlace ks k → ks[j]? = some a → cmpK a k < 0 := by
  induction ks with
  | nil => intro j a hj; simp [keyPlace] at hj
  | cons b r ih =>
    intro j a hj ha
    have hr : Rises r := (List.pairwise_cons.1 h).2
    by_cases hb : cmpK b k < 0
    · cases j with
      | zero => simp at ha; exact ha ▸ hb
      | succ j => exact ih hr j a (by simp only [keyPlace, List.countP_cons, hb, decide_true, if_true] at hj ⊢; omega) (by simpa using ha)
    · exfalso
      have h0 : keyPlace r k = 0 := by
        simp only [keyPlace, List.countP_eq_zero, decide_eq_true_eq]
        intro c hc hck
        exact hb (cmpK_trans ((List.pairwise_cons.1 h).1 c hc) hck)
      simp only [keyPlace, List.countP_cons] at hj h0
      simp [hb, h0] at hj
theorem keyPlace_hi {ks : List ByteArray} (h : Rises ks) (k : ByteArray) : ∀ j a, keyPlace ks k ≤ j → ks[j]? = some a → ¬ cmpK a k < 0 := by
  induction ks with
  | nil => intro j a _ ha; simp at ha
  | cons b r ih =>
    intro j a hj ha
    have hr : Rises r := (List.pairwise_cons.1 h).2
    by_cases hb : cmpK b k < 0
    · cases j with
      | zero => simp only [keyPlace, List.countP_cons, hb] at hj; simp at hj
      | succ j => exact ih hr j a (by simp only [keyPlace, List.countP_cons, hb, decide_true, if_true] at hj ⊢; omega) (by simpa using ha)
    · cases j with
      | zero => simp at ha; exact ha ▸ hb
      | succ j =>
        have ha' : r[j]? = some a := by simpa using ha
        intro hak
        exact hb (cmpK_trans ((List.pairwise_cons.1 h).1 a (List.mem_of_getElem? ha')) hak)
/-- Is the key there? Then it stands at its place. -/
theorem keyPlace_mem {ks : List ByteArray} (h : Rises ks) (k : ByteArray) : k ∈ ks ↔ ks[keyPlace ks k]? = some k := by
  constructor
  · intro hm
    obtain ⟨i, hi⟩ := List.getElem?_of_mem hm
    have : keyPlace ks k = i := by
      refine keyPlace_split k ks i (by have := (List.getElem?_eq_some_iff.1 hi).1; omega) (fun j a hj ha => h.at ha hi hj) (fun j a hj ha => ?_)
      rcases Nat.eq_or_lt_of_le hj with rfl | hlt
      · rw [hi] at ha; simp at ha; rw [← ha, cmpK_refl]; omega
      · have := h.at hi ha hlt
        have := cmpK_swap a k
        omega
    rw [this]; exact hi
  · intro hm
    exact List.mem_of_getElem? hm
/-- Is the key there? -/
def keyThere (ks : List ByteArray) (k : ByteArray) : Bool := ks.any fun a => cmpK a k == 0
theorem keyThere_iff (ks : List ByteArray) (k : ByteArray) : keyThere ks k = true ↔ k ∈ ks := by
  simp only [keyThere, List.any_eq_true, beq_iff_eq]
  constructor
  · rintro ⟨a, ha, e⟩
    exact cmpK_eq _ _ e ▸ ha
  · exact fun h => ⟨k, h, cmpK_refl k⟩
/-- A key more, in its place. -/
theorem Rises.insert {ks : List ByteArray} (h : Rises ks) (k : ByteArray) (hk : k ∉ ks) : Rises (ks.take (keyPlace ks k) ++ k :: ks.drop (keyPlace ks k)) := by
  refine List.pairwise_append.2 ⟨h.sublist (List.take_sublist _ _), List.pairwise_cons.2 ⟨fun a ha => ?_, h.sublist (List.drop_sublist _ _)⟩, fun a ha b hb => ?_⟩
  · obtain ⟨i, hi⟩ := List.getElem?_of_mem ha
    rw [List.getElem?_drop] at hi
    have := keyPlace_hi h k _ a (by omega) hi
    have hs := cmpK_swap k a
    rcases cmpK_cases a k with e | e | e
    · omega
    · exact absurd (cmpK_eq _ _ e ▸ List.mem_of_getElem? hi) hk
    · omega
  · obtain ⟨i, hi⟩ := List.getElem?_of_mem ha
    rw [List.getElem?_take] at hi
    split at hi
    · have hlt : i < keyPlace ks k := by assumption
      rcases List.mem_cons.1 hb with rfl | hb
      · exact keyPlace_lo h b i a hlt hi
      · obtain ⟨j, hj⟩ := List.getElem?_of_mem hb
        rw [List.getElem?_drop] at hj
        exact h.at hi hj (by omega)
    · simp at hi
theorem Rises.erase {ks : List ByteArray} (h : Rises ks) (i : Nat) : Rises (ks.take i ++ ks.drop (i + 1)) :=
  h.sublist (by
    have := (List.Sublist.refl (ks.take i)).append (show (ks.drop (i + 1)).Sublist (ks.drop i) by
      rw [← List.drop_drop (i := 1) (j := i) (l := ks)]; exact List.drop_sublist _ _)
    rwa [List.take_append_drop] at this)
end Go.Proofs.Ytembcflgjfligaa
