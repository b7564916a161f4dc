/- Keys made of a letter and a number, as the statements make them; lists of objects under such keys. -/
import Derived.Test.YtepenaoffdaacaaDec
import Derived.Test.YtepenaoffdaacaaKey
import Derived.Test.YtepenaoffdaacaaSdel
namespace Go.Proofs.Ytepenaoffdaacaa
open Go.Conc Go.RowKit

/-- A letter and a number's digits. -/
def keyOf (c : UInt8) (i : Nat) : ByteArray := ⟨(c :: dec i).toArray⟩
theorem keyOf_eq (c : UInt8) (i : Nat) : (⟨#[c]⟩ : ByteArray) ++ ⟨(dec i).toArray⟩ = keyOf c i := by
  unfold keyOf
  apply congrArg ByteArray.mk
  show (ByteArray.append ⟨#[c]⟩ ⟨(dec i).toArray⟩).data = _
  simp [ByteArray.append]
theorem keyOf_size (c : UInt8) (i : Nat) : (keyOf c i).size = 1 + (dec i).length := by simp [keyOf, ByteArray.size]; omega
theorem keyOf_may (c : UInt8) (hc : 33 ≤ c.toNat ∧ c.toNat ≤ 126) (i : Nat) : KeyMay (keyOf c i) := by
  have hl := dec_length i
  refine ⟨by rw [keyOf_size]; omega, by rw [keyOf_size]; omega, fun j hj => ?_⟩
  rw [keyOf_size] at hj
  have e : (keyOf c i)[j]'(by rw [keyOf_size]; exact hj) = (c :: dec i)[j]'(by simp; omega) := by simp [keyOf, ByteArray.getElem_eq_getElem_data]
  rw [e]
  cases j with
  | zero => exact hc
  | succ j =>
    have := dec_range i ((dec i)[j]'(by omega)) (List.getElem_mem _)
    simp only [List.getElem_cons_succ]
    exact ⟨by omega, by omega⟩
theorem keyOf_inj {c : UInt8} {i j : Nat} (hi : i < 10 ^ 20) (hj : j < 10 ^ 20) (h : keyOf c i = keyOf c j) : i = j := by
  unfold keyOf at h
  have h1 := congrArg (fun b : ByteArray => b.data.toList) h
  simp only [List.cons.injEq, true_and] at h1
  exact dec_inj hi hj h1

/-- A list that rises, of the keys of the numbers of a set. -/
def KeysIn (c : UInt8) (os : List Ob) (S : Nat → Prop) : Prop := Rises (os.map Ob.key) ∧ ∀ o ∈ os, ∃ j, S j ∧ j < 10 ^ 20 ∧ o.key = keyOf c j
theorem KeysIn.nil (c : UInt8) (S : Nat → Prop) : KeysIn c [] S := ⟨List.Pairwise.nil, by simp⟩
theorem KeysIn.not_mem {c : UInt8} {os : List Ob} {S : Nat → Prop} (h : KeysIn c os S) {i : Nat} (hi : i < 10 ^ 20) (hS : ¬ S i) : keyOf c i ∉ os.map Ob.key := by
  intro hm
  obtain ⟨o, ho, hk⟩ := List.mem_map.1 hm
  obtain ⟨j, hj, hj', e⟩ := h.2 o ho
  rw [e] at hk
  exact hS (keyOf_inj hj' hi hk ▸ hj)
theorem keys_insAt (os : List Ob) (i : Nat) (p : Ob) : (insAt os i p).map Ob.key = (os.map Ob.key).take i ++ p.key :: (os.map Ob.key).drop i := by
  simp [insAt]
theorem rises_insAt {os : List Ob} (h : Rises (os.map Ob.key)) (p : Ob) (hp : p.key ∉ os.map Ob.key) : Rises ((insAt os (keyPlace (os.map Ob.key) p.key) p).map Ob.key) := by
  rw [keys_insAt]
  exact h.insert p.key hp
theorem mem_insAt {os : List Ob} {i : Nat} {p o : Ob} : o ∈ insAt os i p ↔ o = p ∨ o ∈ os := by
  simp only [insAt, List.mem_append, List.mem_cons]
  constructor
  · rintro (h | rfl | h)
    · exact .inr (List.mem_of_mem_take h)
    · exact .inl rfl
    · exact .inr (List.mem_of_mem_drop h)
  · rintro (rfl | h)
    · exact .inr (.inl rfl)
    · rw [← List.take_append_drop i os] at h
      rcases List.mem_append.1 h with h | h
      · exact .inl h
      · exact .inr (.inr h)
theorem KeysIn.insert {c : UInt8} {os : List Ob} {S T : Nat → Prop} (h : KeysIn c os S) {i : Nat} (hi : i < 10 ^ 20) (hS : ¬ S i) (d : ByteArray) (t : Int) (hT : ∀ j, S j → T j) (hTi : T i) :
    KeysIn c (insAt os (keyPlace (os.map Ob.key) (keyOf c i)) ⟨keyOf c i, d, t⟩) T := by
  refine ⟨rises_insAt h.1 ⟨keyOf c i, d, t⟩ (h.not_mem hi hS), fun o ho => ?_⟩
  rcases mem_insAt.1 ho with rfl | ho
  · exact ⟨i, hTi, hi, rfl⟩
  · obtain ⟨j, hj, h1, h2⟩ := h.2 o ho
    exact ⟨j, hT j hj, h1, h2⟩
theorem insAt_length' (os : List Ob) (k : ByteArray) (p : Ob) : (insAt os (keyPlace (os.map Ob.key) k) p).length = os.length + 1 :=
  insAt_length os _ p (by have := keyPlace_le (os.map Ob.key) k; simpa using this)

theorem mem_keys_insAt {os : List Ob} {i : Nat} {p : Ob} {k : ByteArray} : k ∈ (insAt os i p).map Ob.key ↔ k = p.key ∨ k ∈ os.map Ob.key := by
  constructor
  · intro h
    obtain ⟨o, ho, rfl⟩ := List.mem_map.1 h
    rcases mem_insAt.1 ho with rfl | ho
    · exact .inl rfl
    · exact .inr (List.mem_map.2 ⟨o, ho, rfl⟩)
  · rintro (rfl | h)
    · exact List.mem_map.2 ⟨p, mem_insAt.2 (.inl rfl), rfl⟩
    · obtain ⟨o, ho, rfl⟩ := List.mem_map.1 h
      exact List.mem_map.2 ⟨o, mem_insAt.2 (.inr ho), rfl⟩
theorem keys_delAt (os : List Ob) (i : Nat) : (delAt os i).map Ob.key = (os.map Ob.key).take i ++ (os.map Ob.key).drop (i + 1) := by simp [delAt]
theorem rises_delAt {os : List Ob} (h : Rises (os.map Ob.key)) (i : Nat) : Rises ((delAt os i).map Ob.key) := by rw [keys_delAt]; exact h.erase i
theorem mem_of_mem_delAt {os : List Ob} {i : Nat} {o : Ob} (h : o ∈ delAt os i) : o ∈ os := by
  rcases List.mem_append.1 h with h | h
  · exact List.mem_of_mem_take h
  · exact List.mem_of_mem_drop h
/-- A key that begins with another letter is not among them. -/
theorem KeysIn.other {c : UInt8} {os : List Ob} {S : Nat → Prop} (h : KeysIn c os S) {k : ByteArray} (hk : k.data.toList.head? ≠ some c) : k ∉ os.map Ob.key := by
  intro hm
  obtain ⟨o, ho, rfl⟩ := List.mem_map.1 hm
  obtain ⟨j, _, _, e⟩ := h.2 o ho
  rw [e] at hk
  exact hk rfl
/-- Which texts may be keys, asked of a list of bytes. -/
theorem may_list (l : List UInt8) (h1 : 1 ≤ l.length) (h2 : l.length ≤ 64) (h3 : ∀ c ∈ l, 33 ≤ c.toNat ∧ c.toNat ≤ 126) : KeyMay ⟨l.toArray⟩ := by
  refine ⟨by simpa [ByteArray.size] using h1, by simpa [ByteArray.size] using h2, fun i h => ?_⟩
  have hi : i < l.length := by simpa [ByteArray.size] using h
  have e : (⟨l.toArray⟩ : ByteArray)[i] = l[i] := by simp [ByteArray.getElem_eq_getElem_data]
  show 33 ≤ ((⟨l.toArray⟩ : ByteArray)[i]).toNat ∧ _
  rw [e]
  exact h3 _ (List.getElem_mem hi)
/-- x & m is a number from 0 to m. -/
theorem and_small (x : Int) (m : Nat) (hm : m < 1024) : ∃ k : Nat, k ≤ m ∧ bits .and .i64 x (m : Int) = (k : Int) := by
  refine ⟨(BitVec.ofInt 64 x).toNat &&& m, Nat.and_le_right, ?_⟩
  have hb : (BitVec.ofInt 64 (m : Int)).toNat = m := by
    rw [BitVec.ofInt_natCast, BitVec.toNat_ofNat]
    omega
  have hle : (BitVec.ofInt 64 x).toNat &&& m ≤ m := Nat.and_le_right
  show IntKind.i64.wrap (((BitVec.ofInt 64 x &&& BitVec.ofInt 64 (m : Int)).toNat : Nat) : Int) = _
  rw [BitVec.toNat_and, hb, IntKind.wrap_i64]
  omega
end Go.Proofs.Ytepenaoffdaacaa
