/- Keys that begin alike stand side by side in a list that rises. No program is spoken of. -/
import Derived.Test.YtembcflgjfligaaOrd
import Derived.Test.YtembcflgjfligaaSto
import Derived.Lib.Strings
namespace Go.Proofs.Ytembcflgjfligaa
open Go

theorem pre_ge : ∀ (p s : List UInt8), p.isPrefixOf s = true → ¬ cmpL s p < 0
  | [], s, _ => by cases s <;> simp [cmpL, Lib.compareBytes]
  | x :: p, [], h => by simp at h
  | x :: p, y :: s, h => by
    simp only [List.isPrefixOf, Bool.and_eq_true, beq_iff_eq] at h
    rw [cmpL_cons, if_neg (by rw [h.1]; simp), if_neg (by rw [h.1]; simp)]
    exact pre_ge p s h.2
theorem pre_between : ∀ (p a b : List UInt8), ¬ cmpL a p < 0 → cmpL a b < 0 → p.isPrefixOf b = true → p.isPrefixOf a = true
  | [], _, _, _, _, _ => by simp
  | x :: p, a, [], _, _, h => by simp at h
  | x :: p, [], y :: b, h, _, _ => by simp [cmpL, Lib.compareBytes] at h
  | x :: p, z :: a, y :: b, h1, h2, h3 => by
    simp only [List.isPrefixOf, Bool.and_eq_true, beq_iff_eq] at h3 ⊢
    obtain ⟨rfl, h3⟩ := h3
    rw [cmpL_cons] at h1 h2
    simp only [UInt8.lt_iff_toNat_lt] at h1 h2
    by_cases e1 : z.toNat < x.toNat
    · rw [if_pos e1] at h1; omega
    · rw [if_neg e1] at h1 h2
      by_cases e2 : x.toNat < z.toNat
      · rw [if_pos e2] at h2; omega
      · rw [if_neg e2] at h1 h2
        exact ⟨UInt8.toNat_inj.1 (by omega), pre_between p a b h1 h2 h3⟩

/-- Does the object's key begin so? -/
def pre (p : ByteArray) (o : Ob) : Bool := Lib.hasPrefix o.key.data.toList p.data.toList
/-- What a list shows of an object. -/
def shown (o : Ob) : Ob := ⟨o.key, ByteArray.empty, o.time⟩
/-- What List answers. -/
def listOf (os : List Ob) (p : ByteArray) : List Ob := (os.filter (pre p)).map shown

theorem filter_none {os : List Ob} {f : Ob → Bool} (h : ∀ (j : Nat) (o : Ob), os[j]? = some o → f o = false) : os.filter f = [] := by
  rw [List.filter_eq_nil_iff]
  intro o ho
  obtain ⟨j, hj⟩ := List.getElem?_of_mem ho
  simp [h j o hj]
theorem filter_all {os : List Ob} {f : Ob → Bool} (h : ∀ (j : Nat) (o : Ob), os[j]? = some o → f o = true) : os.filter f = os := by
  rw [List.filter_eq_self]
  intro o ho
  obtain ⟨j, hj⟩ := List.getElem?_of_mem ho
  exact h j o hj

theorem listOf_run {os : List Ob} {p : ByteArray} (hs : Rises (os.map Ob.key)) {i a : Nat} (hi : i = keyPlace (os.map Ob.key) p)
    (ha : ∀ j o, j < a → os[i + j]? = some o → pre p o = true) (hb : ∀ o, os[i + a]? = some o → pre p o = false) : listOf os p = ((os.drop i).take a).map shown := by
  have hkey : ∀ {j : Nat} {o : Ob}, os[j]? = some o → (os.map Ob.key)[j]? = some o.key := fun h => by simp [h]
  have e : os = os.take i ++ ((os.drop i).take a ++ (os.drop i).drop a) := by rw [List.take_append_drop, List.take_append_drop]
  unfold listOf
  congr 1
  have h1 : (os.take i).filter (pre p) = [] := filter_none fun j o hj => by
    rw [List.getElem?_take] at hj
    split at hj
    · have hlt : j < keyPlace (os.map Ob.key) p := by rw [← hi]; assumption
      have := keyPlace_lo hs p j o.key hlt (hkey hj)
      rw [Bool.eq_false_iff]
      intro hp
      exact pre_ge _ _ hp this
    · simp at hj
  have h2 : ((os.drop i).take a).filter (pre p) = (os.drop i).take a := filter_all fun j o hj => by
    rw [List.getElem?_take] at hj
    split at hj
    · rw [List.getElem?_drop] at hj
      exact ha j o (by assumption) hj
    · simp at hj
  have h3 : ((os.drop i).drop a).filter (pre p) = [] := filter_none fun j o hj => by
    rw [List.getElem?_drop, List.getElem?_drop] at hj
    cases j with
    | zero => exact hb o hj
    | succ j =>
      have hlt : i + a < os.length := by have := (List.getElem?_eq_some_iff.1 hj).1; omega
      have h0 : os[i + a]? = some os[i + a] := List.getElem?_eq_getElem hlt
      have hn := hb _ h0
      rw [Bool.eq_false_iff] at hn ⊢
      intro hp
      refine hn (pre_between _ _ _ ?_ (hs.at (hkey h0) (hkey hj) (by omega)) hp)
      exact keyPlace_hi hs p (i + a) _ (by omega) (hkey h0)
  conv => lhs; rw [e]
  rw [List.filter_append, List.filter_append, h1, h2, h3]
  simp
end Go.Proofs.Ytembcflgjfligaa
