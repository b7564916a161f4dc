/- The parser of the document's answer: a number. -/
import Derived.Test.YtcobadgpelhcoaaDoorText
namespace Go.Proofs.YtcobadgpelhcoaaDoor
open Go.Conc Go.RowKit
set_option linter.unusedVariables false

/-- What is read of a number behind its sign. -/
def numFrom (l : List UInt8) (minus : Bool) (fr : Nat) : Rd Int :=
  let k := spanOf isDigit l fr
  let x := digitsVal ((l.drop fr).take k)
  if k = 0 ∨ (1 < k ∧ l[fr]? = some 48) ∨ (minus = true ∧ x = 0) ∨ (if minus then 9223372036854775808 else 9223372036854775807) < x
      ∨ l[fr + k]? = some 46 ∨ l[fr + k]? = some 101 ∨ l[fr + k]? = some 69 then .error 300
  else .ok (if minus then -(x : Int) else (x : Int), fr + k)
theorem numAt_eq (l : List UInt8) (i : Nat) : numAt l i = numFrom l (wordAt [45] l i) (if wordAt [45] l i then i + 1 else i) := rfl
/-- The value of the first j digits. -/
def dv (l : List UInt8) (fr j : Nat) : Nat := digitsVal ((l.drop fr).take j)
theorem dv_zero (l : List UInt8) (fr : Nat) : dv l fr 0 = 0 := by simp [dv, digitsVal]
theorem dv_succ {l : List UInt8} {fr j : Nat} (h : fr + j < l.length) : dv l fr (j + 1) = 10 * dv l fr j + (l[fr + j].toNat - 48) := by
  unfold dv digitsVal
  have e : (l.drop fr)[j]? = some l[fr + j] := by rw [List.getElem?_drop, List.getElem?_eq_getElem h]
  rw [List.take_add_one, e]
  simp [List.foldl_append]
theorem dv_mono {l : List UInt8} {fr : Nat} : ∀ {d j : Nat}, fr + (j + d) ≤ l.length → dv l fr j ≤ dv l fr (j + d)
  | 0, j, h => Nat.le_refl _
  | d + 1, j, h => by
    have h1 := dv_mono (d := d) (j := j) (fr := fr) (l := l) (by omega)
    have h2 := dv_succ (l := l) (fr := fr) (j := j + d) (by omega)
    rw [show j + (d + 1) = j + d + 1 from rfl, h2]
    omega
theorem mem_takeWhile_yes {α : Type} {p : α → Bool} : ∀ (l : List α) (c : α), c ∈ l.takeWhile p → p c = true
  | [], c, h => by simp at h
  | a :: l, c, h => by
    rw [List.takeWhile_cons] at h
    by_cases ha : p a = true
    · rw [if_pos ha] at h
      rcases List.mem_cons.1 h with rfl | h
      · exact ha
      · exact mem_takeWhile_yes l c h
    · rw [if_neg ha] at h; simp at h
/-- The digits go as far as they go. -/
theorem span_in {l : List UInt8} {fr j : Nat} (h : j < spanOf isDigit l fr) : ∃ hl : fr + j < l.length, isDigit l[fr + j] = true := by
  unfold spanOf at h
  have hp := List.takeWhile_prefix isDigit (l := l.drop fr)
  have hlen := hp.length_le
  rw [List.length_drop] at hlen
  refine ⟨by omega, ?_⟩
  have h1 : ((l.drop fr).takeWhile isDigit)[j]? = (l.drop fr)[j]? := by
    obtain ⟨t, ht⟩ := hp
    rw [← ht, List.getElem?_append_left h]
    congr 1
    rw [ht]
  have h2 : ((l.drop fr).takeWhile isDigit)[j]? = some ((l.drop fr).takeWhile isDigit)[j] := List.getElem?_eq_getElem h
  have h3 : isDigit ((l.drop fr).takeWhile isDigit)[j] = true := mem_takeWhile_yes _ _ (List.getElem_mem h)
  rw [h2, List.getElem?_drop, List.getElem?_eq_getElem (by omega)] at h1
  simp only [Option.some.injEq] at h1
  rw [← h1]; exact h3
theorem span_out {l : List UInt8} {fr : Nat} (h : fr + spanOf isDigit l fr < l.length) : isDigit (l[fr + spanOf isDigit l fr]) = false := by
  have h2 : spanOf isDigit l (fr + spanOf isDigit l fr) = 0 := by
    unfold spanOf
    rw [← List.drop_drop]
    have : (l.drop fr).drop ((l.drop fr).takeWhile isDigit).length = (l.drop fr).dropWhile isDigit := by
      conv => lhs; arg 2; rw [← List.takeWhile_append_dropWhile (p := isDigit) (l := l.drop fr)]
      rw [List.drop_left]
    rw [this]
    cases hc : (l.drop fr).dropWhile isDigit with
    | nil => rfl
    | cons a t =>
      have := List.head_dropWhile_not isDigit (l := l.drop fr) (by rw [hc]; simp)
      simp only [hc, List.head_cons] at this
      rw [List.takeWhile_cons, if_neg (by rw [this]; simp)]; rfl
  apply Bool.eq_false_iff.2
  intro ht
  rw [spanOf_yes h ht] at h2
  omega
end Go.Proofs.YtcobadgpelhcoaaDoor
