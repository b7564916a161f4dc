/- Numerals, plainly. No program is spoken of. -/
import Derived.Test.YtcobadgpelhcoaaDoorJSpecD
import Derived.Test.YtcobadgpelhcoaaDoorEPrinter
import Derived.Lib.ItoaLen
namespace Go.Proofs.YtcobadgpelhcoaaDoor
set_option linter.unusedVariables false
set_option linter.unusedSimpArgs false

theorem dd_small {u : Nat} (h : u < 10) : Lib.decDigits u = [UInt8.ofNat (48 + u)] := by rw [Lib.decDigits, dif_pos h]
theorem dd_big {u : Nat} (h : ¬ u < 10) : Lib.decDigits u = Lib.decDigits (u / 10) ++ [UInt8.ofNat (48 + u % 10)] := by rw [Lib.decDigits, dif_neg h]
theorem dgt (n : Nat) (h : n < 10) : (UInt8.ofNat (48 + n)).toNat = 48 + n := by
  rw [UInt8.toNat_ofNat_of_lt']; show 48 + n < 256; omega
theorem dd_digits : ∀ u : Nat, ∀ c ∈ Lib.decDigits u, isDigit c = true := by
  intro u
  induction u using Nat.strongRecOn with
  | ind u ih =>
    intro c hc
    by_cases h : u < 10
    · rw [dd_small h] at hc
      simp only [List.mem_singleton] at hc
      subst hc
      unfold isDigit; rw [dgt u h]; simp; omega
    · rw [dd_big h] at hc
      rcases List.mem_append.1 hc with h1 | h1
      · exact ih (u / 10) (by omega) c h1
      · simp only [List.mem_singleton] at h1
        subst h1
        unfold isDigit; rw [dgt _ (by omega)]; simp; omega
theorem dd_val : ∀ u : Nat, digitsVal (Lib.decDigits u) = u := by
  intro u
  induction u using Nat.strongRecOn with
  | ind u ih =>
    by_cases h : u < 10
    · rw [dd_small h]; unfold digitsVal; simp only [List.foldl_cons, List.foldl_nil]; rw [dgt u h]; omega
    · rw [dd_big h]
      unfold digitsVal
      rw [List.foldl_append]
      have := ih (u / 10) (by omega)
      unfold digitsVal at this
      rw [this]
      simp only [List.foldl_cons, List.foldl_nil]
      rw [dgt _ (by omega)]; omega
theorem dd_head : ∀ u : Nat, 0 < u → ∃ c r, Lib.decDigits u = c :: r ∧ 49 ≤ c.toNat ∧ c.toNat ≤ 57 := by
  intro u
  induction u using Nat.strongRecOn with
  | ind u ih =>
    intro h0
    by_cases h : u < 10
    · exact ⟨_, [], dd_small h, by rw [dgt u h]; omega, by rw [dgt u h]; omega⟩
    · obtain ⟨c, r, e, h1, h2⟩ := ih (u / 10) (by omega) (by omega)
      exact ⟨c, r ++ [UInt8.ofNat (48 + u % 10)], by rw [dd_big h, e]; rfl, h1, h2⟩
theorem pk_app (pre : List UInt8) (c : UInt8) (suf : List UInt8) : pk (pre ++ c :: suf) pre.length = c.toNat := by
  unfold pk; rw [List.getElem?_append_right (Nat.le_refl _)]; simp
theorem span_app (f : UInt8 → Bool) (pre ds suf : List UInt8) (hd : ∀ c ∈ ds, f c = true) (hs : ∀ c r, suf = c :: r → f c = false) : spanOf f (pre ++ (ds ++ suf)) pre.length = ds.length := by
  unfold spanOf
  rw [List.drop_left, List.takeWhile_append_of_pos hd]
  cases suf with
  | nil => simp
  | cons c r => rw [List.takeWhile_cons, if_neg (by rw [hs c r rfl]; decide)]; simp
/-- A numeral is read to its end. -/
theorem numD_pos (pre suf : List UInt8) (n : Nat) (hn : n ≤ 9223372036854775807) (hs : ∀ c r, suf = c :: r → isDigit c = false) :
    numD (pre ++ (Lib.decDigits n ++ suf)) pre.length = .ok ((n : Int), pre.length + (Lib.decDigits n).length) := by
  rcases Nat.eq_zero_or_pos n with rfl | h0
  · have e : Lib.decDigits 0 = [48] := by rw [dd_small (by omega)]; rfl
    rw [e]
    unfold numD
    have hp : pk (pre ++ ([48] ++ suf)) pre.length = 48 := pk_app pre 48 suf
    simp only [hp]
    rw [show ((48 : Nat) == 45) = false from rfl]
    simp only [Bool.false_eq_true, if_false, hp, if_true]
    rfl
  · obtain ⟨c, r, e, h1, h2⟩ := dd_head n h0
    have hp : pk (pre ++ (Lib.decDigits n ++ suf)) pre.length = c.toNat := by rw [e]; exact pk_app pre c (r ++ suf)
    have hsp := span_app isDigit pre (Lib.decDigits n) suf (dd_digits n) hs
    unfold numD
    simp only [hp]
    rw [show (c.toNat == 45) = false by simp; omega]
    simp only [Bool.false_eq_true, if_false, hp]
    rw [if_neg (by omega), hsp]
    have hv : dv (pre ++ (Lib.decDigits n ++ suf)) pre.length (Lib.decDigits n).length = n := by
      unfold dv; rw [List.drop_left, List.take_left]; exact dd_val n
    rw [hv, if_neg]
    rintro (h | h)
    · rw [e] at h; simp at h
    · omega
theorem numD_neg (pre suf : List UInt8) (n : Nat) (h0 : 0 < n) (hn : n ≤ 9223372036854775808) (hs : ∀ c r, suf = c :: r → isDigit c = false) :
    numD (pre ++ (45 :: Lib.decDigits n ++ suf)) pre.length = .ok (-(n : Int), pre.length + (45 :: Lib.decDigits n).length) := by
  obtain ⟨c, r, e, h1, h2⟩ := dd_head n h0
  have el : pre ++ (45 :: Lib.decDigits n ++ suf) = (pre ++ [45]) ++ (Lib.decDigits n ++ suf) := by simp
  have hp0 : pk (pre ++ (45 :: Lib.decDigits n ++ suf)) pre.length = 45 := pk_app pre 45 _
  have hl : pre.length + 1 = (pre ++ [45]).length := by simp
  have hp : pk (pre ++ (45 :: Lib.decDigits n ++ suf)) (pre.length + 1) = c.toNat := by rw [el, hl, e]; exact pk_app (pre ++ [45]) c (r ++ suf)
  have hsp : spanOf isDigit (pre ++ (45 :: Lib.decDigits n ++ suf)) (pre.length + 1) = (Lib.decDigits n).length := by rw [el, hl]; exact span_app isDigit (pre ++ [45]) (Lib.decDigits n) suf (dd_digits n) hs
  have hv : dv (pre ++ (45 :: Lib.decDigits n ++ suf)) (pre.length + 1) (Lib.decDigits n).length = n := by
    rw [el, hl]; unfold dv; rw [List.drop_left, List.take_left]; exact dd_val n
  unfold numD
  simp only [hp0]
  rw [show ((45 : Nat) == 45) = true from rfl]
  simp only [if_true, hp, hsp, hv]
  rw [if_neg (by omega), if_neg]
  · simp only [List.length_cons]; rw [show pre.length + 1 + (Lib.decDigits n).length = pre.length + ((Lib.decDigits n).length + 1) by omega]
  · rintro (h | h)
    · rw [e] at h; simp at h
    · omega
/-- A number's numeral. -/
theorem numD_itoa (pre suf : List UInt8) (x : Int) (h0 : -9223372036854775808 ≤ x) (h1 : x ≤ 9223372036854775807) (hs : ∀ c r, suf = c :: r → isDigit c = false) :
    numD (pre ++ (Lib.itoa x ++ suf)) pre.length = .ok (x, pre.length + (Lib.itoa x).length) := by
  rcases Int.lt_or_le x 0 with h | h
  · obtain ⟨n, rfl⟩ : ∃ n : Nat, x = -(n : Int) := ⟨x.natAbs, by omega⟩
    rw [Lib.itoa_neg n (by omega)]
    exact numD_neg pre suf n (by omega) (by omega) hs
  · obtain ⟨n, rfl⟩ : ∃ n : Nat, x = (n : Int) := ⟨x.natAbs, by omega⟩
    rw [Lib.itoa_nonneg n]
    exact numD_pos pre suf n (by omega) hs
/-- The first byte of a number's numeral. -/
theorem itoa_head (x : Int) : ∃ c r, Lib.itoa x = c :: r ∧ (c.toNat = 45 ∨ (48 ≤ c.toNat ∧ c.toNat ≤ 57)) := by
  have hd : ∀ n : Nat, ∃ c r, Lib.decDigits n = c :: r ∧ 48 ≤ c.toNat ∧ c.toNat ≤ 57 := fun n => by
    rcases Nat.eq_zero_or_pos n with rfl | h0
    · exact ⟨48, [], by rw [dd_small (by omega)]; rfl, by decide, by decide⟩
    · obtain ⟨c, r, e, h1, h2⟩ := dd_head n h0; exact ⟨c, r, e, by omega, h2⟩
  rcases Int.lt_or_le x 0 with h | h
  · obtain ⟨n, rfl⟩ : ∃ n : Nat, x = -(n : Int) := ⟨x.natAbs, by omega⟩
    exact ⟨45, Lib.decDigits n, Lib.itoa_neg n (by omega), .inl rfl⟩
  · obtain ⟨n, rfl⟩ : ∃ n : Nat, x = (n : Int) := ⟨x.natAbs, by omega⟩
    obtain ⟨c, r, e, h1⟩ := hd n
    exact ⟨c, r, by rw [Lib.itoa_nonneg n, e], .inr h1⟩
/-- White stands nowhere about a byte that is none. -/
theorem skipW_at (pre suf : List UInt8) (hs : ∀ c r, suf = c :: r → isWhite c = false) : skipW (pre ++ suf) pre.length = pre.length := by
  cases suf with
  | nil => exact skipW_end (by simp)
  | cons c r => exact skipW_no (by simp) (by rw [List.getElem_append_right (Nat.le_refl _)]; simpa using hs c r rfl)
end Go.Proofs.YtcobadgpelhcoaaDoor
