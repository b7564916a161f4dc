/- JSON as the document tells it: plain mathematics. No program is spoken of. -/
import Derived.Test.YtcobadgpelhcoaaDoorUtf2
namespace Go.Proofs.YtcobadgpelhcoaaDoor

/-- A value of JSON, as api has it. -/
inductive J where
  | mk (kind : Int) (b : Bool) (n : Int) (s : ByteArray) (l : List J) (keys : List ByteArray)
def J.kind : J → Int | .mk k _ _ _ _ _ => k
def J.b : J → Bool | .mk _ b _ _ _ _ => b
def J.n : J → Int | .mk _ _ n _ _ _ => n
def J.s : J → ByteArray | .mk _ _ _ s _ _ => s
def J.l : J → List J | .mk _ _ _ _ l _ => l
def J.keys : J → List ByteArray | .mk _ _ _ _ _ k => k
def jNull : J := .mk 0 false 0 ByteArray.empty [] []
def jBool (b : Bool) : J := .mk 1 b 0 ByteArray.empty [] []
def jInt (n : Int) : J := .mk 2 false n ByteArray.empty [] []
def jText (s : ByteArray) : J := .mk 3 false 0 s [] []
def jList (l : List J) : J := .mk 4 false 0 ByteArray.empty l []
def jObj (keys : List ByteArray) (l : List J) : J := .mk 5 false 0 ByteArray.empty l keys

/-- What stands there, and the place behind it; or the error. -/
abbrev Rd (α : Type) := Except Int (α × Nat)

def isWhite (c : UInt8) : Bool := c.toNat == 32 || c.toNat == 9 || c.toNat == 10 || c.toNat == 13
def isDigit (c : UInt8) : Bool := decide (48 ≤ c.toNat ∧ c.toNat ≤ 57)
/-- How many of the bytes from a place on are such. -/
def spanOf (f : UInt8 → Bool) (l : List UInt8) (i : Nat) : Nat := ((l.drop i).takeWhile f).length
/-- Behind the white. -/
def skipW (l : List UInt8) (i : Nat) : Nat := i + spanOf isWhite l i
/-- Does a word stand there? -/
def wordAt (w : List UInt8) (l : List UInt8) (i : Nat) : Bool := w.isPrefixOf (l.drop i)

theorem spanOf_yes {f : UInt8 → Bool} {l : List UInt8} {i : Nat} (h : i < l.length) (hf : f l[i] = true) : spanOf f l i = spanOf f l (i + 1) + 1 := by
  unfold spanOf
  rw [List.drop_eq_getElem_cons h, List.takeWhile_cons, if_pos hf]; rfl
theorem spanOf_no {f : UInt8 → Bool} {l : List UInt8} {i : Nat} (h : i < l.length) (hf : f l[i] = false) : spanOf f l i = 0 := by
  unfold spanOf
  rw [List.drop_eq_getElem_cons h, List.takeWhile_cons, if_neg (by simp [hf])]; rfl
theorem spanOf_end {f : UInt8 → Bool} {l : List UInt8} {i : Nat} (h : l.length ≤ i) : spanOf f l i = 0 := by
  unfold spanOf
  rw [List.drop_eq_nil_of_le h]; rfl
theorem spanOf_le (f : UInt8 → Bool) (l : List UInt8) (i : Nat) : i + spanOf f l i ≤ l.length ∨ spanOf f l i = 0 := by
  unfold spanOf
  have h := List.takeWhile_prefix f (l := l.drop i)
  have h2 := h.length_le
  rw [List.length_drop] at h2
  omega
theorem skipW_yes {l : List UInt8} {i : Nat} (h : i < l.length) (hf : isWhite l[i] = true) : skipW l i = skipW l (i + 1) := by
  unfold skipW; rw [spanOf_yes h hf]; omega
theorem skipW_no {l : List UInt8} {i : Nat} (h : i < l.length) (hf : isWhite l[i] = false) : skipW l i = i := by
  unfold skipW; rw [spanOf_no h hf]; omega
theorem skipW_end {l : List UInt8} {i : Nat} (h : l.length ≤ i) : skipW l i = i := by
  unfold skipW; rw [spanOf_end h]; omega
theorem skipW_ge (l : List UInt8) (i : Nat) : i ≤ skipW l i := by unfold skipW; omega
theorem skipW_le (l : List UInt8) (i : Nat) (h : i ≤ l.length) : skipW l i ≤ l.length := by
  unfold skipW; have := spanOf_le isWhite l i; omega

/-! ### numbers -/
def digitsVal (ds : List UInt8) : Nat := ds.foldl (fun a c => 10 * a + (c.toNat - 48)) 0
/-- The number at a place. -/
def numAt (l : List UInt8) (i : Nat) : Rd Int :=
  let minus := wordAt [45] l i
  let from_ := if minus then i + 1 else i
  let k := spanOf isDigit l from_
  let x := digitsVal ((l.drop from_).take k)
  if k = 0 ∨ (1 < k ∧ l[from_]? = some 48) ∨ (minus = true ∧ x = 0) ∨ (if minus then 9223372036854775808 else 9223372036854775807) < x
      ∨ l[from_ + k]? = some 46 ∨ l[from_ + k]? = some 101 ∨ l[from_ + k]? = some 69 then .error 300
  else .ok (if minus then -(x : Int) else (x : Int), from_ + k)

/-! ### texts -/
def hexVal (c : UInt8) : Option Nat :=
  if 48 ≤ c.toNat ∧ c.toNat ≤ 57 then some (c.toNat - 48)
  else if 97 ≤ c.toNat ∧ c.toNat ≤ 102 then some (c.toNat - 97 + 10)
  else if 65 ≤ c.toNat ∧ c.toNat ≤ 70 then some (c.toNat - 65 + 10) else none
/-- So many digits. -/
def hexN (l : List UInt8) (i : Nat) : Nat → Option Nat
  | 0 => some 0
  | j + 1 => match hexN l i j, l[i + j]?.bind hexVal with
    | some x, some d => some (16 * x + d)
    | _, _ => none
/-- Four digits. -/
def hexAt (l : List UInt8) (i : Nat) : Option Nat := hexN l i 4
theorem hexN_none {l : List UInt8} {i j : Nat} (h : hexN l i j = none) : hexN l i (j + 1) = none := by
  unfold hexN; rw [h]
theorem hexN_bad {l : List UInt8} {i j : Nat} (h : l[i + j]?.bind hexVal = none) : hexN l i (j + 1) = none := by
  unfold hexN; rw [h]; cases hexN l i j <;> rfl
theorem hexN_more {l : List UInt8} {i j x d : Nat} (h : hexN l i j = some x) (h2 : l[i + j]?.bind hexVal = some d) : hexN l i (j + 1) = some (16 * x + d) := by
  unfold hexN; rw [h, h2]
theorem hexAt_bad {l : List UInt8} {i j : Nat} (hj : j < 4) (h : hexN l i (j + 1) = none) : hexAt l i = none := by
  unfold hexAt
  rcases (by omega : j = 0 ∨ j = 1 ∨ j = 2 ∨ j = 3) with rfl | rfl | rfl | rfl
  · exact hexN_none (hexN_none (hexN_none h))
  · exact hexN_none (hexN_none h)
  · exact hexN_none h
  · exact h
theorem hexVal_lt {c : UInt8} {d : Nat} (h : hexVal c = some d) : d < 16 := by
  unfold hexVal at h
  repeat' split at h
  all_goals simp at h
  all_goals omega
/-- A stroke and one byte. -/
def short (c : UInt8) : Option UInt8 :=
  match c.toNat with
  | 34 => some 34 | 92 => some 92 | 47 => some 47 | 98 => some 8 | 102 => some 12 | 110 => some 10 | 114 => some 13 | 116 => some 9
  | _ => none
/-- Behind a stroke. -/
def escAt (l : List UInt8) (i : Nat) : Rd (List UInt8) :=
  match l[i]? with
  | none => .error 300
  | some c =>
    match short c with
    | some b => .ok ([b], i + 1)
    | none =>
      if c.toNat ≠ 117 then .error 300
      else match hexAt l (i + 1) with
        | none => .error 300
        | some r =>
          if 55296 ≤ r ∧ r ≤ 56319 ∧ wordAt [92, 117] l (i + 5) = true then
            match hexAt l (i + 7) with
            | none => .error 300
            | some low => if low < 56320 ∨ 57343 < low then .error 300 else .ok (enc (65536 + (r - 55296) * 1024 + (low - 56320)), i + 11)
          else if isRune r then .ok (enc r, i + 5) else .error 300
/-- A text from a place within it on. -/
def textAt (l : List UInt8) : Nat → Nat → List UInt8 → Rd (List UInt8)
  | 0, _, _ => .error 300
  | f + 1, i, acc =>
    if (rr l i).2 = 0 ∨ (rr l i).1 < 32 then .error 300
    else if (rr l i).1 = 34 then .ok (acc, i + 1)
    else if (rr l i).1 = 92 then
      match escAt l (i + 1) with
      | .error e => .error e
      | .ok (bs, k) => textAt l f k (acc ++ bs)
    else textAt l f (i + (rr l i).2.toNat) (acc ++ (l.drop i).take (rr l i).2.toNat)
/-- The text whose mark is at a place. -/
def textOf (l : List UInt8) (i : Nat) : Rd (List UInt8) := textAt l (l.length + 1) (i + 1) []

/-! ### values -/
/-- The members of a list, from a place on; `f` reads a value. -/
def listAt (l : List UInt8) (f : Nat → Rd J) : Nat → Nat → List J → Rd J
  | 0, _, _ => .error 300
  | g + 1, i, acc =>
    match f (skipW l i) with
    | .error e => .error e
    | .ok (j, k) =>
      if wordAt [93] l (skipW l k) then .ok (jList (acc ++ [j]), skipW l k + 1)
      else if wordAt [44] l (skipW l k) then listAt l f g (skipW l k + 1) (acc ++ [j])
      else .error 300
/-- The members of an object. -/
def objAt (l : List UInt8) (f : Nat → Rd J) : Nat → Nat → List ByteArray → List J → Rd J
  | 0, _, _, _ => .error 300
  | g + 1, i, ks, acc =>
    if l[skipW l i]? = some 34 then
      match textOf l (skipW l i) with
      | .error e => .error e
      | .ok (k, i2) =>
        if ks.any (fun q => q.data.toList == k) then .error 300
        else if wordAt [58] l (skipW l i2) then
          match f (skipW l (skipW l i2 + 1)) with
          | .error e => .error e
          | .ok (j, i3) =>
            if wordAt [125] l (skipW l i3) then .ok (jObj (ks ++ [⟨k.toArray⟩]) (acc ++ [j]), skipW l i3 + 1)
            else if wordAt [44] l (skipW l i3) then objAt l f g (skipW l i3 + 1) (ks ++ [⟨k.toArray⟩]) (acc ++ [j])
            else .error 300
        else .error 300
    else .error 300
/-- A value at a place; `sub` reads those within it, none: it is too deep for them. -/
def valF (l : List UInt8) (sub : Option (Nat → Rd J)) (i : Nat) : Rd J :=
  match l[i]? with
  | none => .error 300
  | some c =>
    if wordAt [110, 117, 108, 108] l i then .ok (jNull, i + 4)
    else if wordAt [116, 114, 117, 101] l i then .ok (jBool true, i + 4)
    else if wordAt [102, 97, 108, 115, 101] l i then .ok (jBool false, i + 5)
    else if c.toNat = 34 then (match textOf l i with | .error e => .error e | .ok (t, k) => .ok (jText ⟨t.toArray⟩, k))
    else if c.toNat = 91 then
      match sub with
      | none => .error 301
      | some f => if wordAt [93] l (skipW l (i + 1)) then .ok (jList [], skipW l (i + 1) + 1) else listAt l f (l.length + 1) (skipW l (i + 1)) []
    else if c.toNat = 123 then
      match sub with
      | none => .error 301
      | some f => if wordAt [125] l (skipW l (i + 1)) then .ok (jObj [] [], skipW l (i + 1) + 1) else objAt l f (l.length + 1) (skipW l (i + 1)) [] []
    else if c.toNat = 45 ∨ (48 ≤ c.toNat ∧ c.toNat ≤ 57) then (match numAt l i with | .error e => .error e | .ok (n, k) => .ok (jInt n, k))
    else .error 300
/-- A value that may hold so many levels. -/
def valAt (l : List UInt8) : Nat → Nat → Rd J
  | 0, i => valF l none i
  | d + 1, i => valF l (some (valAt l d)) i
/-- A whole text. -/
def parse (l : List UInt8) : Except Int J :=
  if 65536 < l.length then .error 302
  else match valAt l 16 (skipW l 0) with
    | .error e => .error e
    | .ok (j, i) => if skipW l i = l.length then .ok j else .error 300
end Go.Proofs.YtcobadgpelhcoaaDoor
