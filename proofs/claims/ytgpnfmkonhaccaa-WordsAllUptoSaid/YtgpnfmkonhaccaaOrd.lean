/- The order of texts, byte by byte. No program is spoken of. -/
import Derived.Lib.Bytealg
namespace Go.Proofs.Ytgpnfmkonhaccaa
open Go

abbrev cmpL (a b : List UInt8) : Int := Lib.compareBytes a b
abbrev cmpK (a b : ByteArray) : Int := Lib.compareBytes a.data.toList b.data.toList

theorem cmpL_refl (a : List UInt8) : cmpL a a = 0 := by
  induction a with
  | nil => rfl
  | cons x a ih => simp only [cmpL, Lib.compareBytes]; rw [if_neg (by simp), if_neg (by simp)]; exact ih
theorem cmpL_cons (x y : UInt8) (a b : List UInt8) : cmpL (x :: a) (y :: b) = if x < y then -1 else if y < x then 1 else cmpL a b := rfl
theorem cmpL_cases (a b : List UInt8) : cmpL a b = -1 ∨ cmpL a b = 0 ∨ cmpL a b = 1 := by
  induction a generalizing b with
  | nil => cases b <;> simp [cmpL, Lib.compareBytes]
  | cons x a ih =>
    cases b with
    | nil => simp [cmpL, Lib.compareBytes]
    | cons y b => rw [cmpL_cons]; split; · simp
                  split; · simp
                  exact ih b
theorem cmpL_eq (a b : List UInt8) (h : cmpL a b = 0) : a = b := by
  induction a generalizing b with
  | nil => cases b with
    | nil => rfl
    | cons y b => simp [cmpL, Lib.compareBytes] at h
  | cons x a ih =>
    cases b with
    | nil => simp [cmpL, Lib.compareBytes] at h
    | cons y b =>
      rw [cmpL_cons] at h
      split at h; · simp at h
      split at h; · simp at h
      rename_i h1 h2
      have : x = y := by
        rw [UInt8.lt_iff_toNat_lt] at h1 h2
        exact UInt8.toNat_inj.1 (by omega)
      rw [this, ih b h]
theorem cmpL_swap (a b : List UInt8) : cmpL a b = - cmpL b a := by
  induction a generalizing b with
  | nil => cases b <;> simp [cmpL, Lib.compareBytes]
  | cons x a ih =>
    cases b with
    | nil => simp [cmpL, Lib.compareBytes]
    | cons y b =>
      rw [cmpL_cons, cmpL_cons, ih b]
      simp only [UInt8.lt_iff_toNat_lt]
      by_cases h1 : x.toNat < y.toNat
      · rw [if_pos h1, if_neg (by omega), if_pos h1]
      · by_cases h2 : y.toNat < x.toNat
        · rw [if_neg h1, if_pos h2, if_pos h2]; rfl
        · rw [if_neg h1, if_neg h2, if_neg h2, if_neg h1]
theorem cmpL_trans (a b c : List UInt8) (h : cmpL a b < 0) (k : cmpL b c < 0) : cmpL a c < 0 := by
  induction a generalizing b c with
  | nil =>
    cases c with
    | nil => cases b <;> simp [cmpL, Lib.compareBytes] at *
    | cons z c => simp [cmpL, Lib.compareBytes]
  | cons x a ih =>
    cases b with
    | nil => simp [cmpL, Lib.compareBytes] at h
    | cons y b =>
      cases c with
      | nil => simp [cmpL, Lib.compareBytes] at k
      | cons z c =>
        rw [cmpL_cons] at *
        simp only [UInt8.lt_iff_toNat_lt] at *
        by_cases h1 : x.toNat < z.toNat
        · rw [if_pos h1]; omega
        · rw [if_neg h1]
          split at h
          · split at k
            · omega
            · split at k
              · omega
              · omega
          · split at h
            · omega
            · split at k
              · omega
              · split at k
                · omega
                · rw [if_neg (by omega)]; exact ih b c h k

theorem cmpK_refl (a : ByteArray) : cmpK a a = 0 := cmpL_refl _
theorem cmpK_eq (a b : ByteArray) (h : cmpK a b = 0) : a = b := by
  have := cmpL_eq _ _ h
  cases a; cases b
  exact congrArg ByteArray.mk (Array.toList_inj.1 this)
theorem cmpK_cases (a b : ByteArray) : cmpK a b = -1 ∨ cmpK a b = 0 ∨ cmpK a b = 1 := cmpL_cases _ _
theorem cmpK_swap (a b : ByteArray) : cmpK a b = - cmpK b a := cmpL_swap _ _
theorem cmpK_trans {a b c : ByteArray} (h : cmpK a b < 0) (k : cmpK b c < 0) : cmpK a c < 0 := cmpL_trans _ _ _ h k
end Go.Proofs.Ytgpnfmkonhaccaa
