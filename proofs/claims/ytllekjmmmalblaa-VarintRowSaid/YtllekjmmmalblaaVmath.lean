/- Numbers as parts of seven bits: plain mathematics. No program is spoken of. -/
import Derived.Test.YtllekjmmmalblaaUtf2
namespace Go.Proofs.Ytllekjmmmalblaa

/-- A number's parts, at most f + 1. -/
def vpf : Nat → Nat → List UInt8
  | 0, n => [u8 n]
  | f + 1, n => if n < 128 then [u8 n] else u8 (128 + n % 128) :: vpf f (n / 128)
def vp (n : Nat) : List UInt8 := vpf 9 n
/-- What parts are worth. -/
def vval : List UInt8 → Nat
  | [] => 0
  | b :: l => b.toNat % 128 + 128 * vval l
/-- How many bytes ahead go on. -/
def run : List UInt8 → Nat
  | [] => 0
  | b :: l => if b.toNat < 128 then 0 else run l + 1
/-- The byte behind these. -/
def top (d : List UInt8) : Nat := (d.getD (run d) 0).toNat
/-- These bytes and the one behind them. -/
def seg (d : List UInt8) : List UInt8 := d.take (run d + 1)
/-- Parts that no number has. -/
def bad (d : List UInt8) : Prop := (0 < run d ∧ top d = 0) ∨ 18446744073709551616 ≤ vval (seg d)
instance (d : List UInt8) : Decidable (bad d) := by unfold bad; infer_instance
/-- The number at a place, the place behind, the error. -/
def readN (l : List UInt8) (a : Int) : Nat × Int × Int :=
  if a < 0 ∨ (l.length : Int) < a then (0, 0, 500)
  else if run (l.drop a.toNat) = (l.drop a.toNat).length then (0, 0, 500)
  else if bad (l.drop a.toNat) then (0, 0, 501)
  else (vval (seg (l.drop a.toNat)), a + run (l.drop a.toNat) + 1, 0)

theorem run_cons_lo {b : UInt8} (l : List UInt8) (h : b.toNat < 128) : run (b :: l) = 0 := if_pos h
theorem run_cons_hi {b : UInt8} (l : List UInt8) (h : 128 ≤ b.toNat) : run (b :: l) = run l + 1 := if_neg (by omega)
theorem run_le : ∀ l : List UInt8, run l ≤ l.length
  | [] => Nat.le_refl _
  | b :: l => by
    have := run_le l
    by_cases h : b.toNat < 128
    · rw [run_cons_lo l h]; exact Nat.zero_le _
    · rw [run_cons_hi l (by omega), List.length_cons]; omega
theorem run_hi : ∀ (l : List UInt8) (i : Nat) (h : i < l.length), i < run l → 128 ≤ l[i].toNat
  | b :: l, i, h, hi => by
    by_cases c : b.toNat < 128
    · rw [run_cons_lo l c] at hi; omega
    · cases i with
      | zero => simpa using Nat.le_of_not_lt c
      | succ i =>
        rw [run_cons_hi l (by omega)] at hi
        simpa using run_hi l i (by simpa using h) (by omega)
theorem run_lo : ∀ (l : List UInt8) (h : run l < l.length), l[run l].toNat < 128
  | [], h => by simp [run] at h
  | b :: l, h => by
    by_cases c : b.toNat < 128
    · simp [run, c]
    · have h2 : run l < l.length := by rw [run_cons_hi l (by omega)] at h; simpa using h
      simpa [run, c] using run_lo l h2
/-- The first place of a byte below 128. -/
theorem run_is (l : List UInt8) (k : Nat) (h : k < l.length) (hlo : l[k].toNat < 128) (hhi : ∀ i (hi : i < k), 128 ≤ l[i].toNat) : run l = k := by
  rcases Nat.lt_trichotomy (run l) k with c | c | c
  · have h1 := run_lo l (by omega)
    have h2 := hhi _ c
    omega
  · exact c
  · have h1 := run_hi l k h c
    omega
theorem run_all (l : List UInt8) (h : ∀ i (hi : i < l.length), 128 ≤ l[i].toNat) : run l = l.length := by
  apply Decidable.byContradiction
  intro c
  have h0 : run l < l.length := Nat.lt_of_le_of_ne (run_le l) c
  have h1 := run_lo l h0
  have h2 := h _ h0
  omega

theorem vval_lt : ∀ l : List UInt8, vval l < 128 ^ l.length
  | [] => by simp [vval]
  | b :: l => by
    have := vval_lt l
    rw [vval, List.length_cons, Nat.pow_succ]
    omega
theorem vval_snoc : ∀ (l : List UInt8) (b : UInt8), vval (l ++ [b]) = vval l + 128 ^ l.length * (b.toNat % 128)
  | [], b => by simp [vval]
  | a :: l, b => by
    rw [List.cons_append, vval, vval_snoc l b, vval, List.length_cons, Nat.pow_succ, Nat.mul_add, Nat.mul_comm (128 ^ l.length) 128, Nat.mul_assoc]
    omega
theorem vval_drop (l : List UInt8) (j : Nat) (h : j < l.length) : vval (l.drop j) = l[j].toNat % 128 + 128 * vval (l.drop (j + 1)) := by
  rw [List.drop_eq_getElem_cons h]; rfl
theorem vval_end (l : List UInt8) : vval (l.drop l.length) = 0 := by simp [vval]
theorem vval_drop_le (l : List UInt8) : ∀ j, vval (l.drop j) ≤ vval l
  | 0 => by simp
  | j + 1 => by
    have h1 := vval_drop_le l j
    by_cases h : j < l.length
    · rw [vval_drop l j h] at h1; omega
    · rw [List.drop_of_length_le (by omega)]; exact Nat.zero_le _

theorem seg_length {d : List UInt8} (h : run d < d.length) : (seg d).length = run d + 1 := by
  unfold seg; rw [List.length_take]; omega
theorem seg_get {d : List UInt8} (h : run d < d.length) (i : Nat) (hi : i < run d + 1) : (seg d)[i]'(by rw [seg_length h]; exact hi) = d[i]'(by omega) := by
  unfold seg; rw [List.getElem_take]
theorem top_get {d : List UInt8} (h : run d < d.length) : top d = d[run d].toNat := by
  unfold top; rw [List.getD_eq_getElem?_getD, List.getElem?_eq_getElem h]; rfl
theorem seg_snoc {d : List UInt8} (h : run d < d.length) : seg d = d.take (run d) ++ [d[run d]] := by
  unfold seg; rw [List.take_succ_eq_append_getElem h]
/-- Where a number has no room, told by its parts' number and the last one. -/
theorem bad_iff {d : List UInt8} (h : run d < d.length) : bad d ↔ 9 < run d ∨ (run d = 9 ∧ 1 < top d) ∨ (0 < run d ∧ top d = 0) := by
  have hl := run_lo d h
  have ht := top_get h
  have hlen : (d.take (run d)).length = run d := by rw [List.length_take]; omega
  have hv : vval (seg d) = vval (d.take (run d)) + 128 ^ run d * top d := by
    rw [seg_snoc h, vval_snoc, hlen, ht, Nat.mod_eq_of_lt hl]
  have hb := vval_lt (d.take (run d))
  rw [hlen] at hb
  rw [← ht] at hl
  unfold bad
  rw [hv]
  generalize vval (d.take (run d)) = v at *
  generalize run d = k at *
  generalize top d = t at *
  clear hv hlen ht h
  by_cases t0 : t = 0
  · subst t0
    by_cases k0 : 0 < k
    · exact ⟨fun _ => .inr (.inr ⟨k0, rfl⟩), fun _ => .inl ⟨k0, rfl⟩⟩
    · obtain rfl : k = 0 := by omega
      simp at hb ⊢
      omega
  · have hmul : 128 ^ k ≤ 128 ^ k * t := Nat.le_mul_of_pos_right _ (by omega)
    by_cases k9 : k ≤ 8
    · have hp : 128 ^ (k + 1) ≤ 128 ^ 9 := Nat.pow_le_pow_right (by omega) (by omega)
      have h2 : 128 ^ k * t ≤ 128 ^ k * 127 := Nat.mul_le_mul_left _ (by omega)
      rw [Nat.pow_succ] at hp
      constructor
      · rintro (⟨_, hx⟩ | hx)
        · exact absurd hx t0
        · omega
      · omega
    · by_cases ke : k = 9
      · subst ke
        constructor
        · rintro (⟨_, hx⟩ | hx)
          · exact absurd hx t0
          · refine .inr (.inl ⟨rfl, ?_⟩)
            omega
        · intro hx
          right
          have : 2 ≤ t := by omega
          have h3 : 128 ^ 9 * 2 ≤ 128 ^ 9 * t := Nat.mul_le_mul_left _ this
          omega
      · have hp : 128 ^ 10 ≤ 128 ^ k := Nat.pow_le_pow_right (by omega) (by omega)
        exact ⟨fun _ => .inl (by omega), fun _ => .inr (by omega)⟩

theorem readN_out {l : List UInt8} {a : Int} (h : a < 0 ∨ (l.length : Int) < a) : readN l a = (0, 0, 500) := if_pos h
theorem readN_cut {l : List UInt8} {k : Nat} (h2 : run (l.drop k) = (l.drop k).length) : readN l k = (0, 0, 500) := by
  unfold readN
  split
  · rfl
  · rw [Int.toNat_natCast, if_pos h2]
theorem readN_bad {l : List UInt8} {k : Nat} (h : k ≤ l.length) (h2 : run (l.drop k) < (l.drop k).length) (h3 : bad (l.drop k)) : readN l k = (0, 0, 501) := by
  unfold readN
  rw [if_neg (by omega), Int.toNat_natCast, if_neg (by omega), if_pos h3]
theorem readN_yes {l : List UInt8} {k : Nat} (h : k ≤ l.length) (h2 : run (l.drop k) < (l.drop k).length) (h3 : ¬ bad (l.drop k)) : readN l k = (vval (seg (l.drop k)), (k : Int) + run (l.drop k) + 1, 0) := by
  unfold readN
  rw [if_neg (by omega), Int.toNat_natCast, if_neg (by omega), if_neg h3]
theorem readN_lt (l : List UInt8) (a : Int) : (readN l a).1 < 18446744073709551616 := by
  unfold readN
  split
  · simp
  split
  · simp
  split
  · simp
  · rename_i h
    unfold bad at h
    omega

/-! ### there and back -/
theorem vpf_length_pos (f n : Nat) : 0 < (vpf f n).length := by
  cases f with
  | zero => simp [vpf]
  | succ f => rw [vpf]; split <;> simp
theorem vpf_length_le : ∀ f n : Nat, (vpf f n).length ≤ f + 1
  | 0, n => Nat.le_refl _
  | f + 1, n => by
    have := vpf_length_le f (n / 128)
    rw [vpf]; split
    · simp
    · rw [List.length_cons]; omega
theorem run_vpf : ∀ (f n : Nat) (r : List UInt8), n < 128 ^ (f + 1) → run (vpf f n ++ r) + 1 = (vpf f n).length ∧ vval (vpf f n) = n ∧ (0 < n → top (vpf f n ++ r) ≠ 0) ∧ run (vpf f n) + 1 = (vpf f n).length
  | 0, n, r, h => by
    have h : n < 128 := by simpa using h
    have e := u8_toNat n (by omega)
    have e1 : ∀ t, run (u8 n :: t) = 0 := fun t => run_cons_lo t (by omega)
    refine ⟨?_, ?_, ?_, ?_⟩
    · show run (u8 n :: r) + 1 = 1
      rw [e1]
    · show (u8 n).toNat % 128 + 128 * 0 = n
      rw [e]; omega
    · intro h0
      show top (u8 n :: r) ≠ 0
      unfold top
      rw [e1]
      show (u8 n).toNat ≠ 0
      omega
    · show run (u8 n :: []) + 1 = 1
      rw [e1]
  | f + 1, n, r, h => by
    by_cases c : n < 128
    · have e := u8_toNat n (by omega)
      have e1 : ∀ t, run (u8 n :: t) = 0 := fun t => run_cons_lo t (by omega)
      rw [vpf, if_pos c]
      refine ⟨?_, ?_, ?_, ?_⟩
      · show run (u8 n :: r) + 1 = 1
        rw [e1]
      · show (u8 n).toNat % 128 + 128 * 0 = n
        rw [e]; omega
      · intro h0
        show top (u8 n :: r) ≠ 0
        unfold top
        rw [e1]
        show (u8 n).toNat ≠ 0
        omega
      · show run (u8 n :: []) + 1 = 1
        rw [e1]
    · have hd : n / 128 < 128 ^ (f + 1) := by
        rw [Nat.pow_succ] at h
        exact Nat.div_lt_of_lt_mul (by omega)
      obtain ⟨i1, i2, i3, i4⟩ := run_vpf f (n / 128) r hd
      have e := u8_toNat (128 + n % 128) (by omega)
      have e1 : ∀ t, run (u8 (128 + n % 128) :: t) = run t + 1 := fun t => run_cons_hi t (by omega)
      rw [vpf, if_neg c]
      refine ⟨?_, ?_, ?_, ?_⟩
      · rw [List.cons_append, e1, i1]; rfl
      · rw [vval, i2, e]; omega
      · intro _
        have i3 := i3 (by omega)
        unfold top at i3 ⊢
        rw [List.cons_append, e1, List.getD_cons_succ]
        exact i3
      · rw [e1, i4]; rfl

/-- A number's parts, wherever they stand. -/
theorem readN_vp (pre r : List UInt8) (n : Nat) (h : n < 18446744073709551616) : readN (pre ++ vp n ++ r) pre.length = (n, (pre.length : Int) + (vp n).length, 0) := by
  obtain ⟨i1, i2, i3, _⟩ := run_vpf 9 n r (by omega)
  have hp := vpf_length_pos 9 n
  have hd : (pre ++ vp n ++ r).drop pre.length = vp n ++ r := by rw [List.append_assoc, List.drop_left]
  have hs : seg (vp n ++ r) = vp n := by
    unfold seg
    show List.take (run (vpf 9 n ++ r) + 1) (vpf 9 n ++ r) = vpf 9 n
    rw [i1]; exact List.take_left
  have hl : run (vp n ++ r) < (vp n ++ r).length := by
    show run (vpf 9 n ++ r) < (vpf 9 n ++ r).length
    rw [List.length_append]; omega
  have hb : ¬ bad (vp n ++ r) := by
    unfold bad
    rw [hs]
    show ¬ ((0 < run (vpf 9 n ++ r) ∧ top (vpf 9 n ++ r) = 0) ∨ 18446744073709551616 ≤ vval (vpf 9 n))
    rw [i2]
    rintro (⟨ha, hb⟩ | hb)
    · by_cases n0 : n = 0
      · subst n0
        have : (vpf 9 0).length = 1 := rfl
        omega
      · exact i3 (by omega) hb
    · omega
  have e := readN_yes (l := pre ++ vp n ++ r) (k := pre.length) (by rw [List.append_assoc, List.length_append]; omega) (by rw [hd]; exact hl) (by rw [hd]; exact hb)
  rw [e, hd, hs]
  have i1' : run (vp n ++ r) + 1 = (vp n).length := i1
  show (vval (vpf 9 n), (pre.length : Int) + run (vp n ++ r) + 1, (0 : Int)) = _
  rw [i2, ← i1']
  refine Prod.ext rfl (Prod.ext ?_ rfl)
  show (pre.length : Int) + run (vp n ++ r) + 1 = (pre.length : Int) + ((run (vp n ++ r) + 1 : Nat) : Int)
  omega
theorem vp_run (n : Nat) (h : n < 18446744073709551616) : run (vp n) + 1 = (vp n).length := (run_vpf 9 n [] (by omega)).2.2.2
theorem vp_pos (n : Nat) : 0 < (vp n).length := vpf_length_pos 9 n
theorem vp_le (n : Nat) : (vp n).length ≤ 10 := vpf_length_le 9 n

theorem get_hi {l : List UInt8} (h : run l + 1 = l.length) (i : Nat) (hi : i + 1 < l.length) : 128 ≤ l[i].toNat := run_hi l i (by omega) (by omega)
/-- Parts, the last one marked, and a last one 0 behind them. -/
theorem readN_long {l : List UInt8} (h : run l + 1 = l.length) (z : UInt8) (hz : 128 ≤ z.toNat) : readN (l.set (l.length - 1) z ++ [0]) 0 = (0, 0, 501) := by
  have hr : run (l.set (l.length - 1) z ++ [0]) = l.length := by
    refine run_is _ _ (by simp) ?_ ?_
    · rw [List.getElem_append_right (by simp)]
      simp
    · intro i hi
      rw [List.getElem_append_left (by simpa using hi)]
      by_cases c : i = l.length - 1
      · subst c
        rw [List.getElem_set_self]; exact hz
      · rw [List.getElem_set_ne (by omega)]
        exact get_hi h i (by omega)
  have hl : run (l.set (l.length - 1) z ++ [0]) < (l.set (l.length - 1) z ++ [0]).length := by rw [hr]; simp
  refine readN_bad (k := 0) (Nat.zero_le _) (by simpa using hl) ?_
  rw [List.drop_zero]
  refine .inl ⟨by omega, ?_⟩
  rw [top_get hl]
  simp only [hr]
  rw [List.getElem_append_right (by simp)]
  simp
/-- Parts without the last one. -/
theorem readN_short {l : List UInt8} (h : run l + 1 = l.length) : readN (l.take (l.length - 1)) 0 = (0, 0, 500) := by
  refine readN_cut (k := 0) ?_
  rw [List.drop_zero]
  apply run_all
  intro i hi
  rw [List.length_take] at hi
  rw [List.getElem_take]
  exact get_hi h i (by omega)

/-- Numbers of either sign as numbers from 0 on, and back. -/
def zz (x : Int) : Nat := if x < 0 then (-2 * x - 1).toNat else (2 * x).toNat
def unzz (m : Nat) : Int := if m % 2 = 1 then -((m / 2 : Nat) : Int) - 1 else ((m / 2 : Nat) : Int)
theorem zz_lt {x : Int} (h : -9223372036854775808 ≤ x) (h2 : x ≤ 9223372036854775807) : zz x < 18446744073709551616 := by
  unfold zz; split <;> omega
theorem unzz_zz (x : Int) : unzz (zz x) = x := by
  unfold unzz zz
  split <;> split <;> omega
theorem unzz_zero : unzz 0 = 0 := rfl

theorem sizes (b : Nat) (h : b < 63) : (vp (2 ^ b)).length = b / 7 + 1 ∧ (vp (2 ^ b - 1)).length = max 1 ((b + 6) / 7) ∧ (vp (2 * (2 ^ b - 1))).length = (vp (2 * 2 ^ b - 1)).length := by
  have : ∀ b : Fin 63, (vp (2 ^ b.val)).length = b.val / 7 + 1 ∧ (vp (2 ^ b.val - 1)).length = max 1 ((b.val + 6) / 7) ∧ (vp (2 * (2 ^ b.val - 1))).length = (vp (2 * 2 ^ b.val - 1)).length := by decide +kernel
  exact this ⟨b, h⟩
theorem vp_one (n : Nat) (h : n < 128) : vp n = [u8 n] := if_pos h
end Go.Proofs.Ytllekjmmmalblaa
