/- The parser as plain mathematics, by the first byte; how numbers are read is left open. No program is spoken of. -/
import Derived.Test.YtcobadgpelhcoaaDoorDNumb
namespace Go.Proofs.YtcobadgpelhcoaaDoor
set_option linter.unusedVariables false

theorem wordAt_one {l : List UInt8} {i c : Nat} (hc : 0 < c) (hc2 : c < 256) : wordAt [UInt8.ofNat c] l i = decide (pk l i = c) := by
  unfold wordAt pk
  rcases Nat.lt_or_ge i l.length with h | h
  · rw [List.drop_eq_getElem_cons h, List.getElem?_eq_getElem h]
    simp only [List.isPrefixOf, Bool.and_true]
    rw [Bool.eq_iff_iff]
    simp only [beq_iff_eq, decide_eq_true_eq]
    constructor
    · intro e; rw [← e]; simp [UInt8.toNat_ofNat']; omega
    · intro e; rw [← e]; simp
  · rw [List.drop_eq_nil_of_le h, List.getElem?_eq_none h]
    simp only [List.isPrefixOf]
    symm; rw [decide_eq_false_iff_not]; omega

/-- A value at a place, by its first byte; `sub` reads those within it, none: it is too deep for them. -/
def valP (nm : List UInt8 → Nat → Rd Int) (l : List UInt8) (sub : Option (Nat → Rd J)) (i : Nat) : Rd J :=
  if pk l i = 91 then
    match sub with
    | none => .error 301
    | some f => if pk l (skipW l (i + 1)) = 93 then .ok (jList [], skipW l (i + 1) + 1) else listAt l f (l.length + 1) (skipW l (i + 1)) []
  else if pk l i = 123 then
    match sub with
    | none => .error 301
    | some f => if pk l (skipW l (i + 1)) = 125 then .ok (jObj [] [], skipW l (i + 1) + 1) else objAt l f (l.length + 1) (skipW l (i + 1)) [] []
  else if pk l i = 34 then (match textOf l i with | .error e => .error e | .ok (t, k) => .ok (jText ⟨t.toArray⟩, k))
  else if pk l i = 110 then (if wordAt [110, 117, 108, 108] l i then .ok (jNull, i + 4) else .error 300)
  else if pk l i = 116 then (if wordAt [116, 114, 117, 101] l i then .ok (jBool true, i + 4) else .error 300)
  else if pk l i = 102 then (if wordAt [102, 97, 108, 115, 101] l i then .ok (jBool false, i + 5) else .error 300)
  else match nm l i with | .error e => .error e | .ok (n, k) => .ok (jInt n, k)
/-- A value that may hold so many levels. -/
def valN (nm : List UInt8 → Nat → Rd Int) (l : List UInt8) : Nat → Nat → Rd J
  | 0, i => valP nm l none i
  | d + 1, i => valP nm l (some (valN nm l d)) i
/-- A value with the white about it. -/
def valW (l : List UInt8) (f : Nat → Rd J) (i : Nat) : Rd J := match f (skipW l i) with | .error e => .error e | .ok (j, k) => .ok (j, skipW l k)
/-- A whole text. -/
def parseN (nm : List UInt8 → Nat → Rd Int) (l : List UInt8) : Except Int J :=
  if 65536 < l.length then .error 302
  else match valW l (valN nm l 16) 0 with
    | .error e => .error e
    | .ok (j, i) => if l.length ≤ i then .ok j else .error 300
/-- An object's key and the white about it. -/
def keyAt (l : List UInt8) (i : Nat) : Rd (List UInt8) :=
  if pk l (skipW l i) = 34 then (match textOf l (skipW l i) with | .error e => .error e | .ok (k, i2) => .ok (k, skipW l i2)) else .error 300

theorem textAt_in {l : List UInt8} : ∀ {f i : Nat} {acc bs : List UInt8} {k : Nat}, textAt l f i acc = .ok (bs, k) → i < k ∧ k ≤ l.length
  | 0, i, acc, bs, k, h => by simp [textAt] at h
  | f + 1, i, acc, bs, k, h => by
    unfold textAt at h
    split at h
    · simp at h
    · rename_i h0
      have hin := rr_in l i (fun e => h0 (.inl e))
      have hle := rr_le l i
      have hne : (rr l i).2 ≠ 0 := fun e => h0 (.inl e)
      split at h
      · simp only [Except.ok.injEq, Prod.mk.injEq] at h
        omega
      · split at h
        · split at h
          · simp at h
          · rename_i bs' k' hE
            have h1 := escAt_ge hE
            have h2 := textAt_in h
            omega
        · have h2 := textAt_in h
          omega
theorem textOf_in {l : List UInt8} {i k : Nat} {bs : List UInt8} (h : textOf l i = .ok (bs, k)) : i ≤ k ∧ k ≤ l.length := by
  have := textAt_in h; omega
theorem numD_in {l : List UInt8} {i k : Nat} {n : Int} (hi : i ≤ l.length) (h : numD l i = .ok (n, k)) : i ≤ k ∧ k ≤ l.length := by
  have hp : ∀ c j, pk l j = c → 0 < c → j + 1 ≤ l.length := fun c j e h0 => by obtain ⟨_, _, _, h⟩ := pk_some e h0; omega
  unfold numD at h
  by_cases hm : pk l i = 45
  · have h1 := hp 45 i hm (by omega)
    rw [show (pk l i == 45) = true by simpa using hm] at h
    simp only [if_true] at h
    split at h
    · simp at h
    · split at h
      · simp at h
      · simp only [Except.ok.injEq, Prod.mk.injEq] at h
        have := spanOf_le isDigit l (i + 1)
        omega
  · rw [show (pk l i == 45) = false by simpa using hm] at h
    simp only [Bool.false_eq_true, if_false] at h
    split at h
    · rename_i h48
      have h1 := hp 48 i h48 (by omega)
      simp only [Except.ok.injEq, Prod.mk.injEq] at h
      omega
    · split at h
      · simp at h
      · simp only [Except.ok.injEq, Prod.mk.injEq] at h
        have := spanOf_le isDigit l i
        omega
end Go.Proofs.YtcobadgpelhcoaaDoor
