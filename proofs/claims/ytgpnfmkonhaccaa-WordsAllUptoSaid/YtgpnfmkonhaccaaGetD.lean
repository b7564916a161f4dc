/- Lists by their places. -/
import Derived.Test.YtgpnfmkonhaccaaValL
namespace Go.Proofs.Ytgpnfmkonhaccaa
open Go.Conc Go.RowKit
set_option linter.unusedVariables false
set_option linter.unusedSimpArgs false

def zeroV : V := ⟨0, 0, false, ByteArray.empty⟩
theorem snoc_ind {α : Type} {P : List α → Prop} (h0 : P []) (h1 : ∀ vs v, P vs → P (vs ++ [v])) (vs : List α) : P vs := by
  have : ∀ n, n ≤ vs.length → P (vs.take n) := by
    intro n
    induction n with
    | zero => intro _; simpa using h0
    | succ n ih =>
      intro h
      rw [← List.take_append_getElem (by omega)]
      exact h1 _ _ (ih (by omega))
  have := this vs.length (Nat.le_refl _)
  rwa [List.take_length] at this

theorem getD_left {α : Type} {l r : List α} {d : α} {i : Nat} (h : i < l.length) : (l ++ r).getD i d = l.getD i d := by
  rw [List.getD_eq_getElem?_getD, List.getD_eq_getElem?_getD, List.getElem?_append_left h]
theorem getD_end {α : Type} {l : List α} {x d : α} : (l ++ [x]).getD l.length d = x := by
  rw [List.getD_eq_getElem?_getD, List.getElem?_append_right (Nat.le_refl _), Nat.sub_self]; rfl
theorem getD_set_other {α : Type} {l : List α} {x d : α} {i k : Nat} (h : k ≠ i) : (l.set k x).getD i d = l.getD i d := by
  rw [List.getD_eq_getElem?_getD, List.getD_eq_getElem?_getD, List.getElem?_set_ne h]
theorem getD_set_same {α : Type} {l : List α} {x d : α} {k : Nat} (h : k < l.length) : (l.set k x).getD k d = x := by
  rw [List.getD_eq_getElem?_getD, List.getElem?_set_self h]; rfl
theorem getD_in {α : Type} {l : List α} {d : α} {i : Nat} (h : i < l.length) : l.getD i d = l[i] := by
  rw [List.getD_eq_getElem?_getD, List.getElem?_eq_getElem h]; rfl
theorem last_getD {α : Type} {l : List α} {p d : α} (h : l.getLast? = some p) : 0 < l.length ∧ l.getD (l.length - 1) d = p := by
  have h1 : 0 < l.length := by
    cases l with
    | nil => simp at h
    | cons => simp
  refine ⟨h1, ?_⟩
  rw [List.getLast?_eq_getElem?] at h
  rw [List.getD_eq_getElem?_getD, h]; rfl
theorem IsL.get {w : World} {a : Option Addr} {xs : List Int} (h : IsL w a xs) {n : Nat} (hn : n < xs.length) : ∃ b off, a = some ⟨b, off, none⟩ ∧ w.cell? ⟨b, off + n, none⟩ = some (.int .i64 (xs.getD n 0)) := by
  rcases h with h | ⟨b, off, rfl, hc⟩
  · subst h; simp at hn
  · exact ⟨b, off, rfl, by rw [getD_in hn]; exact hc n hn⟩

theorem IsV.get {w : World} {a : Option Addr} {xs : List V} (h : IsV w a xs) {n : Nat} (hn : n < xs.length) : ∃ b off, a = some ⟨b, off, none⟩ ∧ ValAt w b (off + n * 4) (xs.getD n zeroV) := by
  rcases h with h | ⟨b, off, rfl, hc⟩
  · subst h; simp at hn
  · exact ⟨b, off, rfl, by rw [getD_in hn]; exact hc n hn⟩
end Go.Proofs.Ytgpnfmkonhaccaa
