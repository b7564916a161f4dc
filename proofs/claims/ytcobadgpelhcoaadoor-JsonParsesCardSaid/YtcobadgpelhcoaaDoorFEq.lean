/- The document's parser and the program's, by their plain mathematics: one answer. -/
import Derived.Test.YtcobadgpelhcoaaDoorFMath
import Derived.Test.YtcobadgpelhcoaaDoorNum
namespace Go.Proofs.YtcobadgpelhcoaaDoor
set_option linter.unusedVariables false
set_option linter.unusedSimpArgs false

/-- What may not stand behind a number. -/
def BadAt (l : List UInt8) (k : Nat) : Prop := (48 ≤ pk l k ∧ pk l k ≤ 57) ∨ pk l k = 46 ∨ pk l k = 101 ∨ pk l k = 69
/-- The same answer, or a number that is none beside one with such behind it. -/
def RelR (l : List UInt8) (r r' : Rd J) : Prop := r = r' ∨ (r = .error 300 ∧ ∃ j k, r' = .ok (j, k) ∧ BadAt l k)
theorem bad_in {l : List UInt8} {k : Nat} (h : BadAt l k) : ∃ hk : k < l.length, l[k].toNat = pk l k := by
  have h0 : pk l k ≠ 0 := by unfold BadAt at h; omega
  unfold pk at h0 ⊢
  cases e : l[k]? with
  | none => rw [e] at h0; exact absurd rfl h0
  | some c =>
    obtain ⟨hk, hc⟩ := List.getElem?_eq_some_iff.1 e
    exact ⟨hk, by rw [hc]⟩
theorem bad_skip {l : List UInt8} {k : Nat} (h : BadAt l k) : skipW l k = k := by
  obtain ⟨hk, e⟩ := bad_in h
  refine skipW_no hk ?_
  unfold isWhite
  rw [e]
  unfold BadAt at h
  simp only [Bool.or_eq_false_iff, beq_eq_false_iff_ne]
  omega
theorem word_pk {l : List UInt8} {i : Nat} (c : Nat) (h0 : 0 < c) (h1 : c < 256) : wordAt [UInt8.ofNat c] l i = decide (pk l i = c) := wordAt_one h0 h1
theorem word93 (l : List UInt8) (i : Nat) : wordAt [93] l i = decide (pk l i = 93) := word_pk 93 (by decide) (by decide)
theorem word44 (l : List UInt8) (i : Nat) : wordAt [44] l i = decide (pk l i = 44) := word_pk 44 (by decide) (by decide)
theorem word125 (l : List UInt8) (i : Nat) : wordAt [125] l i = decide (pk l i = 125) := word_pk 125 (by decide) (by decide)
theorem word45 (l : List UInt8) (i : Nat) : wordAt [45] l i = decide (pk l i = 45) := word_pk 45 (by decide) (by decide)
theorem get_pk {l : List UInt8} {i : Nat} {c : UInt8} (hc : c ≠ 0) : l[i]? = some c ↔ pk l i = c.toNat := by
  unfold pk
  cases e : l[i]? with
  | none =>
    simp only [reduceCtorEq, false_iff]
    intro h
    exact hc (UInt8.toNat_inj.1 (by simpa using h.symm))
  | some d =>
    simp only [Option.some.injEq]
    exact UInt8.toNat_inj.symm

theorem list_eq {l : List UInt8} {f g : Nat → Rd J} (h : ∀ i, RelR l (f i) (g i)) : ∀ (n i : Nat) (acc : List J), listAt l f n i acc = listAt l g n i acc
  | 0, i, acc => rfl
  | n + 1, i, acc => by
    unfold listAt
    rcases h (skipW l i) with e | ⟨e1, j, k, e2, hb⟩
    · rw [e]
      cases g (skipW l i) with
      | error c => rfl
      | ok r =>
        obtain ⟨j, k⟩ := r
        dsimp only
        rw [list_eq h n]
    · rw [e1, e2]
      dsimp only
      rw [bad_skip hb, word93, word44, if_neg (by unfold BadAt at hb; simp; omega), if_neg (by unfold BadAt at hb; simp; omega)]
theorem obj_eq {l : List UInt8} {f g : Nat → Rd J} (h : ∀ i, RelR l (f i) (g i)) : ∀ (n i : Nat) (ks : List ByteArray) (acc : List J), objAt l f n i ks acc = objAt l g n i ks acc
  | 0, i, ks, acc => rfl
  | n + 1, i, ks, acc => by
    unfold objAt
    split
    · cases textOf l (skipW l i) with
      | error c => rfl
      | ok r =>
        obtain ⟨key, i2⟩ := r
        dsimp only
        split
        · rfl
        · split
          · rcases h (skipW l (skipW l i2 + 1)) with e | ⟨e1, j, k, e2, hb⟩
            · rw [e]
              cases g (skipW l (skipW l i2 + 1)) with
              | error c => rfl
              | ok r =>
                obtain ⟨j, k⟩ := r
                dsimp only
                rw [obj_eq h n]
            · rw [e1, e2]
              dsimp only
              rw [bad_skip hb, word125, word44, if_neg (by unfold BadAt at hb; simp; omega), if_neg (by unfold BadAt at hb; simp; omega)]
          · rfl
    · rfl

theorem span_pos {l : List UInt8} {i : Nat} (h0 : 48 ≤ pk l i) (h1 : pk l i ≤ 57) : spanOf isDigit l i = spanOf isDigit l (i + 1) + 1 := by
  obtain ⟨hk, e⟩ := bad_in (l := l) (k := i) (.inl ⟨h0, h1⟩)
  exact spanOf_yes hk (by unfold isDigit; rw [decide_eq_true_eq]; omega)
theorem span_zero {l : List UInt8} {i : Nat} (h : ¬ (48 ≤ pk l i ∧ pk l i ≤ 57)) : spanOf isDigit l i = 0 := by
  rcases Nat.lt_or_ge i l.length with hk | hk
  · refine spanOf_no hk ?_
    unfold pk at h
    rw [List.getElem?_eq_getElem hk] at h
    unfold isDigit
    rw [decide_eq_false_iff_not]
    exact h
  · exact spanOf_end hk
theorem dv_one {l : List UInt8} {i : Nat} (h0 : 48 ≤ pk l i) (h1 : pk l i ≤ 57) : dv l i 1 = pk l i - 48 := by
  obtain ⟨hk, e⟩ := bad_in (l := l) (k := i) (.inl ⟨h0, h1⟩)
  have := dv_succ (l := l) (fr := i) (j := 0) (by simpa using hk)
  rw [dv_zero] at this
  simp only [Nat.add_zero] at this
  rw [this, ← e]
  omega
theorem dv_pos {l : List UInt8} {i : Nat} (h0 : 49 ≤ pk l i) (h1 : pk l i ≤ 57) (hs : i + spanOf isDigit l i ≤ l.length) : 0 < dv l i (spanOf isDigit l i) := by
  have h2 := span_pos (l := l) (i := i) (by omega) h1
  have h3 := dv_mono (l := l) (fr := i) (d := spanOf isDigit l (i + 1)) (j := 1) (by omega)
  rw [dv_one (by omega) h1] at h3
  rw [h2, Nat.add_comm]
  omega
theorem span_le {l : List UInt8} {i : Nat} (h : 0 < spanOf isDigit l i) : i + spanOf isDigit l i ≤ l.length := by
  have := spanOf_le isDigit l i
  omega
def intJ (r : Rd Int) : Rd J := match r with | .error e => .error e | .ok (n, k) => .ok (jInt n, k)
theorem num_rel (l : List UInt8) (i : Nat) : RelR l (intJ (numAt l i)) (intJ (numD l i)) := by
  have key : ∀ (minus : Bool) (fr : Nat), RelR l (intJ (numFrom l minus fr))
      (intJ (if pk l fr = 48 then (if minus then .error 300 else .ok (0, fr + 1)) else if spanOf isDigit l fr = 0 ∨ (if minus then 9223372036854775808 else 9223372036854775807) < dv l fr (spanOf isDigit l fr) then .error 300
        else .ok (if minus then -(dv l fr (spanOf isDigit l fr) : Int) else (dv l fr (spanOf isDigit l fr) : Int), fr + spanOf isDigit l fr))) := by
    intro minus fr
    have hg48 : l[fr]? = some 48 ↔ pk l fr = 48 := get_pk (by decide)
    have hg46 : ∀ k, l[k]? = some 46 ↔ pk l k = 46 := fun k => get_pk (by decide)
    have hg101 : ∀ k, l[k]? = some 101 ↔ pk l k = 101 := fun k => get_pk (by decide)
    have hg69 : ∀ k, l[k]? = some 69 ↔ pk l k = 69 := fun k => get_pk (by decide)
    have hnf : numFrom l minus fr = if spanOf isDigit l fr = 0 ∨ (1 < spanOf isDigit l fr ∧ l[fr]? = some 48) ∨ (minus = true ∧ dv l fr (spanOf isDigit l fr) = 0) ∨ (if minus then 9223372036854775808 else 9223372036854775807) < dv l fr (spanOf isDigit l fr)
        ∨ l[fr + spanOf isDigit l fr]? = some 46 ∨ l[fr + spanOf isDigit l fr]? = some 101 ∨ l[fr + spanOf isDigit l fr]? = some 69 then .error 300
        else .ok (if minus then -(dv l fr (spanOf isDigit l fr) : Int) else (dv l fr (spanOf isDigit l fr) : Int), fr + spanOf isDigit l fr) := rfl
    rw [hnf]
    simp only [hg48, hg46, hg101, hg69]
    clear hnf hg48
    by_cases h48 : pk l fr = 48
    · rw [if_pos h48]
      have hs := span_pos (l := l) (i := fr) (by omega) (by omega)
      have h1 := dv_one (l := l) (i := fr) (by omega) (by omega)
      by_cases hk : spanOf isDigit l (fr + 1) = 0
      · have hs1 : spanOf isDigit l fr = 1 := by omega
        have hd0 : dv l fr 1 = 0 := by omega
        rw [hs1, hd0]
        cases minus with
        | true =>
          left
          rw [if_pos (.inr (.inr (.inl ⟨rfl, rfl⟩)))]
          rfl
        | false =>
          by_cases hb : pk l (fr + 1) = 46 ∨ pk l (fr + 1) = 101 ∨ pk l (fr + 1) = 69
          · right
            rw [if_pos (.inr (.inr (.inr (.inr hb))))]
            exact ⟨rfl, _, _, rfl, .inr hb⟩
          · left
            rw [if_neg (by
              rintro (h | h | h | h | h)
              · omega
              · omega
              · exact absurd h.1 (by decide)
              · simp at h
              · exact hb h)]
            rfl
      · rw [if_pos (by omega)]
        cases minus with
        | true => left; rfl
        | false =>
          right
          refine ⟨rfl, _, _, rfl, .inl ?_⟩
          by_cases hd : 48 ≤ pk l (fr + 1) ∧ pk l (fr + 1) ≤ 57
          · exact hd
          · exact absurd (span_zero hd) hk
    · rw [if_neg h48]
      by_cases hk : spanOf isDigit l fr = 0
      · left
        rw [if_pos (.inl hk), if_pos (.inl hk)]
      · by_cases ho : (if minus then 9223372036854775808 else 9223372036854775807) < dv l fr (spanOf isDigit l fr)
        · left
          rw [if_pos (by simp [ho]), if_pos (.inr ho)]
        · rw [if_neg (show ¬ (spanOf isDigit l fr = 0 ∨ _) from fun h => h.elim hk ho)]
          have hd : 48 ≤ pk l fr ∧ pk l fr ≤ 57 := by
            by_cases hd : 48 ≤ pk l fr ∧ pk l fr ≤ 57
            · exact hd
            · exact absurd (span_zero hd) hk
          have hp := dv_pos (l := l) (i := fr) (by omega) hd.2 (span_le (by omega))
          by_cases hb : pk l (fr + spanOf isDigit l fr) = 46 ∨ pk l (fr + spanOf isDigit l fr) = 101 ∨ pk l (fr + spanOf isDigit l fr) = 69
          · right
            rw [if_pos (by simp [hb])]
            exact ⟨rfl, _, _, rfl, .inr hb⟩
          · left
            rw [if_neg (by
              rintro (h | h | h | h | h)
              · exact hk h
              · exact h48 h.2
              · omega
              · exact ho h
              · exact hb h)]
  rw [numAt_eq, word45]
  unfold numD
  by_cases hm : pk l i = 45
  · rw [decide_eq_true hm, show (pk l i == 45) = true by simpa using hm]
    exact key true (i + 1)
  · rw [decide_eq_false hm, show (pk l i == 45) = false by simpa using hm]
    exact key false i

theorem word_head {c : UInt8} {w : List UInt8} {l : List UInt8} {i : Nat} (hc : c ≠ 0) (h : wordAt (c :: w) l i = true) : pk l i = c.toNat := by
  unfold wordAt at h
  refine (get_pk hc).1 ?_
  cases hd : l.drop i with
  | nil => rw [hd] at h; simp [List.isPrefixOf] at h
  | cons b r =>
    rw [hd] at h
    simp only [List.isPrefixOf, Bool.and_eq_true, beq_iff_eq] at h
    have : l[i]? = (l.drop i)[0]? := by rw [List.getElem?_drop]; rfl
    rw [this, hd, h.1]
    rfl
theorem val_rel (l : List UInt8) (sub sub' : Option (Nat → Rd J)) (h : (sub = none ∧ sub' = none) ∨ ∃ f g, sub = some f ∧ sub' = some g ∧ ∀ i, RelR l (f i) (g i)) (i : Nat) : RelR l (valF l sub i) (valP numD l sub' i) := by
  have hn := num_rel l i
  have hno : ¬ (pk l i = 45) → ¬ (48 ≤ pk l i ∧ pk l i ≤ 57) → numD l i = .error 300 := fun h1 h2 => by
    unfold numD
    rw [show (pk l i == 45) = false by simpa using h1]
    simp only [Bool.false_eq_true, if_false]
    rw [if_neg (by omega), if_pos (.inl (span_zero h2))]
  unfold valF
  cases e : l[i]? with
  | none =>
    have h0 : pk l i = 0 := by unfold pk; rw [e]
    left
    unfold valP
    rw [h0]
    simp only [hno (by omega) (by omega)]
    rfl
  | some c =>
    have hp : pk l i = c.toNat := by unfold pk; rw [e]
    dsimp only
    by_cases w1 : wordAt [110, 117, 108, 108] l i = true
    · have hh := word_head (by decide) w1
      left
      rw [if_pos w1]
      unfold valP
      rw [hh, if_neg (by decide), if_neg (by decide), if_neg (by decide), if_pos (by decide), if_pos w1]
    rw [if_neg w1]
    by_cases w2 : wordAt [116, 114, 117, 101] l i = true
    · have hh := word_head (by decide) w2
      left
      rw [if_pos w2]
      unfold valP
      rw [hh, if_neg (by decide), if_neg (by decide), if_neg (by decide), if_neg (by decide), if_pos (by decide), if_pos w2]
    rw [if_neg w2]
    by_cases w3 : wordAt [102, 97, 108, 115, 101] l i = true
    · have hh := word_head (by decide) w3
      left
      rw [if_pos w3]
      unfold valP
      rw [hh, if_neg (by decide), if_neg (by decide), if_neg (by decide), if_neg (by decide), if_neg (by decide), if_pos (by decide), if_pos w3]
    rw [if_neg w3, ← hp]
    by_cases c34 : pk l i = 34
    · left
      rw [if_pos c34]
      unfold valP
      rw [if_neg (by omega), if_neg (by omega), if_pos c34]
      cases textOf l i <;> rfl
    rw [if_neg c34]
    by_cases c91 : pk l i = 91
    · left
      rw [if_pos c91]
      unfold valP
      rw [if_pos c91]
      rcases h with ⟨rfl, rfl⟩ | ⟨f, g, rfl, rfl, hfg⟩
      · rfl
      · dsimp only
        rw [word93, list_eq hfg]
        simp only [decide_eq_true_eq]
    rw [if_neg c91]
    by_cases c123 : pk l i = 123
    · left
      rw [if_pos c123]
      unfold valP
      rw [if_neg (by omega), if_pos c123]
      rcases h with ⟨rfl, rfl⟩ | ⟨f, g, rfl, rfl, hfg⟩
      · rfl
      · dsimp only
        rw [word125, obj_eq hfg]
        simp only [decide_eq_true_eq]
    rw [if_neg c123]
    have hvp : valP numD l sub' i = if pk l i = 110 then .error 300 else if pk l i = 116 then .error 300 else if pk l i = 102 then .error 300 else intJ (numD l i) := by
      unfold valP
      rw [if_neg c91, if_neg c123, if_neg c34, if_neg w1, if_neg w2, if_neg w3]
      rfl
    rw [hvp]
    by_cases cn : pk l i = 45 ∨ (48 ≤ pk l i ∧ pk l i ≤ 57)
    · rw [if_pos cn, if_neg (by omega), if_neg (by omega), if_neg (by omega)]
      exact hn
    · left
      rw [if_neg cn]
      repeat' split
      all_goals first | rfl | (rw [hno (fun x => cn (.inl x)) (fun x => cn (.inr x))]; rfl)
theorem valAt_rel (l : List UInt8) : ∀ d i, RelR l (valAt l d i) (valN numD l d i)
  | 0, i => val_rel l none none (.inl ⟨rfl, rfl⟩) i
  | d + 1, i => val_rel l (some (valAt l d)) (some (valN numD l d)) (.inr ⟨_, _, rfl, rfl, valAt_rel l d⟩) i

/-! ### within the text -/
theorem list_in {l : List UInt8} {g : Nat → Rd J} : ∀ (n i : Nat) (acc : List J) (j : J) (k : Nat), listAt l g n i acc = .ok (j, k) → k ≤ l.length
  | 0, i, acc, j, k, h => by simp [listAt] at h
  | n + 1, i, acc, j, k, h => by
    unfold listAt at h
    split at h
    · simp at h
    · rename_i x p hx
      split at h
      · rename_i hw
        simp only [Except.ok.injEq, Prod.mk.injEq] at h
        have h1 := word_head (by decide) hw
        obtain ⟨_, _, _, hlt⟩ := pk_some h1 (by decide)
        omega
      · split at h
        · exact list_in n _ _ j k h
        · simp at h
theorem obj_in {l : List UInt8} {g : Nat → Rd J} : ∀ (n i : Nat) (ks : List ByteArray) (acc : List J) (j : J) (k : Nat), objAt l g n i ks acc = .ok (j, k) → k ≤ l.length
  | 0, i, ks, acc, j, k, h => by simp [objAt] at h
  | n + 1, i, ks, acc, j, k, h => by
    unfold objAt at h
    split at h
    · split at h
      · simp at h
      · split at h
        · simp at h
        · split at h
          · split at h
            · simp at h
            · rename_i x p hx
              split at h
              · rename_i hw
                simp only [Except.ok.injEq, Prod.mk.injEq] at h
                have h1 := word_head (by decide) hw
                obtain ⟨_, _, _, hlt⟩ := pk_some h1 (by decide)
                omega
              · split at h
                · exact obj_in n _ _ _ j k h
                · simp at h
          · simp at h
    · simp at h
theorem word_in {c : UInt8} {w : List UInt8} {l : List UInt8} {i : Nat} (h : wordAt (c :: w) l i = true) : i + (w.length + 1) ≤ l.length := by
  unfold wordAt at h
  have h1 := (List.isPrefixOf_iff_prefix.1 h).length_le
  rw [List.length_drop, List.length_cons] at h1
  omega
theorem valP_in {l : List UInt8} {sub : Option (Nat → Rd J)} {i k : Nat} {j : J} (h : valP numD l sub i = .ok (j, k)) : k ≤ l.length := by
  have hp1 : ∀ c p, pk l p = c → 0 < c → p + 1 ≤ l.length := fun c p e h0 => by obtain ⟨_, _, _, hlt⟩ := pk_some e h0; omega
  unfold valP at h
  split at h
  · cases sub with
    | none => simp at h
    | some g =>
      dsimp only at h
      split at h
      · rename_i hw
        simp only [Except.ok.injEq, Prod.mk.injEq] at h
        have := hp1 93 _ hw (by decide)
        omega
      · exact list_in _ _ _ _ _ h
  · split at h
    · cases sub with
      | none => simp at h
      | some g =>
        dsimp only at h
        split at h
        · rename_i hw
          simp only [Except.ok.injEq, Prod.mk.injEq] at h
          have := hp1 125 _ hw (by decide)
          omega
        · exact obj_in _ _ _ _ _ _ h
    · split at h
      · split at h
        · simp at h
        · rename_i ht
          simp only [Except.ok.injEq, Prod.mk.injEq] at h
          have := (textOf_in ht).2
          omega
      · split at h
        · split at h
          · rename_i hw
            simp only [Except.ok.injEq, Prod.mk.injEq] at h
            have := word_in hw
            simp at this
            omega
          · simp at h
        · split at h
          · split at h
            · rename_i hw
              simp only [Except.ok.injEq, Prod.mk.injEq] at h
              have := word_in hw
              simp at this
              omega
            · simp at h
          · split at h
            · split at h
              · rename_i hw
                simp only [Except.ok.injEq, Prod.mk.injEq] at h
                have := word_in hw
                simp at this
                omega
              · simp at h
            · split at h
              · simp at h
              · rename_i n k' hnum
                simp only [Except.ok.injEq, Prod.mk.injEq] at h
                by_cases hi : i ≤ l.length
                · have := (numD_in hi hnum).2
                  omega
                · have h0 : pk l i = 0 := by unfold pk; rw [List.getElem?_eq_none (by omega)]
                  unfold numD at hnum
                  rw [h0] at hnum
                  simp only at hnum
                  rw [show ((0 : Nat) == 45) = false from rfl] at hnum
                  simp only [Bool.false_eq_true, if_false] at hnum
                  rw [h0, if_neg (by omega), if_pos (.inl (span_zero (by omega)))] at hnum
                  simp at hnum
theorem valN_in {l : List UInt8} {d i k : Nat} {j : J} (h : valN numD l d i = .ok (j, k)) : k ≤ l.length := by
  cases d with
  | zero => exact valP_in h
  | succ d => exact valP_in h
/-- One answer. -/
theorem parse_same (l : List UInt8) : parse l = parseN numD l := by
  unfold parse parseN
  split
  · rfl
  · unfold valW
    rcases valAt_rel l 16 (skipW l 0) with e | ⟨e1, j, k, e2, hb⟩
    · rw [e]
      cases hv : valN numD l 16 (skipW l 0) with
      | error c => rfl
      | ok r =>
        obtain ⟨j, k⟩ := r
        have hk := valN_in hv
        have hs := skipW_le l k hk
        dsimp only
        by_cases hq : skipW l k = l.length
        · rw [if_pos hq, if_pos (by omega)]
        · rw [if_neg hq, if_neg (by omega)]
    · rw [e1, e2]
      obtain ⟨hk, _⟩ := bad_in hb
      dsimp only
      rw [bad_skip hb, if_neg (by omega)]
end Go.Proofs.YtcobadgpelhcoaaDoor
