/- Digits bit by bit: plain mathematics. No program is spoken of. -/
import Derived.Test.YtlepmiijdpcgnaaKmath
namespace Go.Proofs.Ytlepmiijdpcgnaa
set_option linter.unusedVariables false

theorem mod_div_pow (S t a : Nat) (h : a ≤ t) : S % 2 ^ t / 2 ^ a = S / 2 ^ a % 2 ^ (t - a) := by
  have e : 2 ^ t = 2 ^ a * 2 ^ (t - a) := by rw [← Nat.pow_add]; congr 1; omega
  rw [e, Nat.mod_mul_right_div_self]
theorem mod_mod_pow (X a b : Nat) (h : b ≤ a) : X % 2 ^ a % 2 ^ b = X % 2 ^ b := Nat.mod_mod_of_dvd X (Nat.pow_dvd_pow 2 h)
theorem mod_mod_low (X a b : Nat) (h : a ≤ b) : X % 2 ^ a % 2 ^ b = X % 2 ^ a := by
  have h1 := Nat.mod_lt X (Nat.two_pow_pos a)
  have h2 : 2 ^ a ≤ 2 ^ b := Nat.pow_le_pow_right (by omega) h
  exact Nat.mod_eq_of_lt (by omega)
/-- A bit of a number's low bits. -/
theorem bit_low (X w k : Nat) (h : k < w) : X % 2 ^ w / 2 ^ k % 2 = X / 2 ^ k % 2 := by
  rw [mod_div_pow X w k (by omega)]
  have := mod_mod_pow (X / 2 ^ k) (w - k) 1 (by omega)
  simpa using this
theorem mod_succ_pow (X k : Nat) : X % 2 ^ (k + 1) = X % 2 ^ k + 2 ^ k * (X / 2 ^ k % 2) := by
  rw [Nat.pow_succ, Nat.mod_mul]
/-- A digit of a number's low t bits. -/
theorem digit_low (w S t i : Nat) : S % 2 ^ t / 2 ^ (w * i) % 2 ^ w = if w * i + w ≤ t then S / 2 ^ (w * i) % 2 ^ w else if w * i ≤ t then S / 2 ^ (w * i) % 2 ^ (t - w * i) else 0 := by
  by_cases c : w * i ≤ t
  · rw [mod_div_pow S t (w * i) c]
    by_cases c2 : w * i + w ≤ t
    · rw [if_pos c2, mod_mod_pow _ _ _ (by omega)]
    · rw [if_neg c2, if_pos c, mod_mod_low _ _ _ (by omega)]
  · have h1 := Nat.mod_lt S (Nat.two_pow_pos t)
    have h2 : 2 ^ t ≤ 2 ^ (w * i) := Nat.pow_le_pow_right (by omega) (by omega)
    rw [if_neg (by omega), if_neg c, Nat.div_eq_of_lt (by omega)]
    simp
/-- What is there of the digit at a bit. -/
def part (w S t : Nat) : Nat := S / 2 ^ (w * (t / w)) % 2 ^ (t % w)
theorem part_lt (w S t : Nat) : part w S t < 2 ^ (t % w) := Nat.mod_lt _ (Nat.two_pow_pos _)
theorem part_digit (w S t : Nat) (h : 0 < w) : S % 2 ^ t / 2 ^ (w * (t / w)) % 2 ^ w = part w S t := by
  have hd := Nat.div_add_mod t w
  have hm := Nat.mod_lt t h
  unfold part
  rw [digit_low, if_neg (by omega), if_pos (by omega)]
  congr 2
  omega
/-- One bit more. -/
theorem digit_step (w S t n : Nat) (h : 0 < w) (ht : t < w * n) : unpackN w n (S % 2 ^ (t + 1)) = (unpackN w n (S % 2 ^ t)).set (t / w) (part w S t + 2 ^ (t % w) * (S / 2 ^ t % 2)) := by
  apply List.ext_getElem
  · rw [List.length_set, unpackN_length, unpackN_length]
  · intro i h1 h2
    have hd := Nat.div_add_mod t w
    have hm := Nat.mod_lt t h
    rw [unpackN_get, List.getElem_set]
    by_cases c : t / w = i
    · subst c
      rw [if_pos rfl, digit_low]
      by_cases c2 : w * (t / w) + w ≤ t + 1
      · rw [if_pos c2]
        have e : w = t % w + 1 := by omega
        have := mod_succ_pow (S / 2 ^ (w * (t / w))) (t % w)
        rw [← e, Nat.div_div_eq_div_mul, ← Nat.pow_add, hd] at this
        exact this
      · rw [if_neg c2, if_pos (by omega), show t + 1 - w * (t / w) = t % w + 1 by omega]
        have := mod_succ_pow (S / 2 ^ (w * (t / w))) (t % w)
        rw [Nat.div_div_eq_div_mul, ← Nat.pow_add, hd] at this
        exact this
    · rw [if_neg c, unpackN_get, digit_low, digit_low]
      rcases Nat.lt_or_gt_of_ne c with c1 | c1
      · have : w * (t / w) + w ≤ w * i := by
          rw [← Nat.mul_succ]; exact Nat.mul_le_mul_left _ c1
        rw [if_neg (show ¬ w * i + w ≤ t + 1 by omega), if_neg (show ¬ w * i + w ≤ t by omega), if_neg (show ¬ w * i ≤ t by omega)]
        by_cases c3 : w * i ≤ t + 1
        · rw [if_pos c3, show t + 1 - w * i = 0 by omega]; simp [Nat.mod_one]
        · rw [if_neg c3]
      · have : w * i + w ≤ w * (t / w) := by
          rw [← Nat.mul_succ]; exact Nat.mul_le_mul_left _ c1
        rw [if_pos (show w * i + w ≤ t + 1 by omega), if_pos (show w * i + w ≤ t by omega)]
theorem bytes_digits : ∀ c S : Nat, bytesN c S = (unpackN 8 c S).map u8
  | 0, _ => rfl
  | c + 1, S => by rw [bytesN, unpackN, List.map_cons, bytes_digits c]
theorem byte_step (S t c : Nat) (ht : t < 8 * c) : bytesN c (S % 2 ^ (t + 1)) = (bytesN c (S % 2 ^ t)).set (t / 8) (u8 (part 8 S t + 2 ^ (t % 8) * (S / 2 ^ t % 2))) := by
  rw [bytes_digits, bytes_digits, digit_step 8 S t c (by omega) ht, List.map_set]
theorem byte_at (S t c : Nat) (ht : t < 8 * c) : (bytesN c (S % 2 ^ t))[t / 8]? = some (u8 (part 8 S t)) := by
  have hl : t / 8 < (unpackN 8 c (S % 2 ^ t)).length := by rw [unpackN_length]; omega
  rw [bytes_digits, List.getElem?_map, List.getElem?_eq_getElem hl, unpackN_get, part_digit 8 S t (by omega)]
  rfl
theorem digit_at (w S t n : Nat) (h : 0 < w) (ht : t < w * n) : (unpackN w n (S % 2 ^ t))[t / w]? = some (part w S t) := by
  have hl : t / w < (unpackN w n (S % 2 ^ t)).length := by rw [unpackN_length]; exact Nat.div_lt_of_lt_mul ht
  rw [List.getElem?_eq_getElem hl, unpackN_get, part_digit w S t h]
theorem bytes_none (c S : Nat) : bytesN c (S % 2 ^ 0) = List.replicate c 0 := by
  have e : S % 2 ^ 0 = 0 := by simp [Nat.mod_one]
  rw [e]
  induction c with
  | zero => rfl
  | succ c ih => rw [bytesN, List.replicate_succ, show (0 : Nat) / 256 = 0 from rfl, ih]; rfl
theorem digits_none (w n S : Nat) : unpackN w n (S % 2 ^ 0) = List.replicate n 0 := by
  have e : S % 2 ^ 0 = 0 := by simp [Nat.mod_one]
  rw [e]
  induction n with
  | zero => rfl
  | succ n ih => rw [unpackN, List.replicate_succ, Nat.zero_div, ih, Nat.zero_mod]
/-- A bit of numbers one behind the other. -/
theorem pack_bit (w : Nat) (l : List Nat) (hl : ∀ x ∈ l, x < 2 ^ w) (i k : Nat) (hi : i < l.length) (hk : k < w) : packN w l / 2 ^ (w * i + k) % 2 = l[i] / 2 ^ k % 2 := by
  have h1 := unpackN_get w l.length (packN w l) i (by rw [unpackN_length]; exact hi)
  have h2 : (unpackN w l.length (packN w l))[i]'(by rw [unpackN_length]; exact hi) = l[i] := by simp only [unpack_pack w l hl]
  rw [h2] at h1
  rw [h1, bit_low _ _ _ hk, Nat.div_div_eq_div_mul, ← Nat.pow_add]
/-- A bit of a text's bytes. -/
theorem byte_bit (l : List UInt8) (t : Nat) (h : t / 8 < l.length) : numB l / 2 ^ t % 2 = l[t / 8].toNat / 2 ^ (t % 8) % 2 := by
  have h1 := bytesN_get l.length (numB l) (t / 8) (by rw [bytesN_length]; exact h)
  have h2 : (bytesN l.length (numB l))[t / 8]'(by rw [bytesN_length]; exact h) = l[t / 8] := by simp only [bytesN_numB l]
  rw [h2] at h1
  have hd := Nat.div_add_mod t 8
  have e : (256 : Nat) ^ (t / 8) = 2 ^ (8 * (t / 8)) := by rw [Nat.pow_mul]
  rw [h1, e, show (256 : Nat) = 2 ^ 8 from rfl, bit_low _ 8 _ (Nat.mod_lt _ (by omega)), Nat.div_div_eq_div_mul, ← Nat.pow_add, hd]
end Go.Proofs.Ytlepmiijdpcgnaa
