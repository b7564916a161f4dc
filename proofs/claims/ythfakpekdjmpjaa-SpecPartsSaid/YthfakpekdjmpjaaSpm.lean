/- Specs, plainly: what a field makes of a value. No program is spoken of. -/
import Derived.Test.YthfakpekdjmpjaaVProg
import Derived.Test.YthfakpekdjmpjaaPmath
import Derived.Test.YthfakpekdjmpjaaSmath
import Derived.Test.YthfakpekdjmpjaaUtf
import Derived.Test.YthfakpekdjmpjaaFieL
namespace Go.Proofs.Ythfakpekdjmpjaa
open Go.Conc Go.RowKit
set_option linter.unusedVariables false
set_option linter.unusedSimpArgs false

structure Sp where
  id : Int
  fs : List Fd
def zeroVal : V := ⟨0, 0, false, ByteArray.empty⟩
def paramB (x : Int) : Bool := decide (1 ≤ x ∧ x ≤ 1024)
def fieldB (f : Fd) : Bool := if f.tr = 0 then decide (f.par = 0) else if f.tr = 1 ∨ f.tr = 2 then paramB f.par else false
def takesB (f : Fd) (k : Int) : Bool := if f.tr = 0 then decide (f.par = 0) else if f.tr = 1 then paramB f.par else if f.tr = 2 then paramB f.par && decide (k ≠ 2) else false
theorem takes_field (f : Fd) (k : Int) : takesB f k = (fieldB f && !decide (f.tr = 2 ∧ k = 2)) := by
  unfold takesB fieldB
  by_cases h0 : f.tr = 0
  · rw [if_pos h0, if_pos h0, decide_eq_false (p := f.tr = 2 ∧ k = 2) (by omega)]; simp
  · rw [if_neg h0, if_neg h0]
    by_cases h1 : f.tr = 1
    · rw [if_pos h1, if_pos (.inl h1), decide_eq_false (p := f.tr = 2 ∧ k = 2) (by omega)]; simp
    · rw [if_neg h1]
      by_cases h2 : f.tr = 2
      · rw [if_pos h2, if_pos (.inr h2)]
        by_cases hk : k = 2
        · simp [hk, h2]
        · simp [hk, h2]
      · rw [if_neg h2, if_neg (by omega)]; rfl
/-- A number's bytes, the highest first: of its last 64 bits. -/
def unsN (x : Int) : Nat := (x % 18446744073709551616).toNat
def beB (x : Int) : List UInt8 := (bytesN 8 (unsN x)).reverse
theorem beB_length (x : Int) : (beB x).length = 8 := by unfold beB; rw [List.length_reverse, bytesN_length]
theorem unsN_lt (x : Int) : unsN x < 18446744073709551616 := by
  unfold unsN; have := Int.emod_nonneg x (show (18446744073709551616 : Int) ≠ 0 by omega); have := Int.emod_lt_of_pos x (show (0 : Int) < 18446744073709551616 by omega); omega
/-- The bytes of a value that are summed (a plain one, not null). -/
def bytesV (v : V) : ByteArray := if v.k = 1 then textB (beB v.i) else if v.k = 2 then textB [if v.b then 1 else 0] else v.s
def floorA (x p : Int) : Int := if x < -9223372036854775808 + x % p then -9223372036854775808 else x - x % p
/-- Where a text's first so many runes end. -/
def runesAt (l : List UInt8) : Nat → Nat → Nat
  | 0, a => a
  | m + 1, a => if a < l.length then runesAt l m (a + max (rr l a).2.toNat 1) else a
def cutT (s : ByteArray) (m : Nat) : ByteArray := textB (s.data.toList.take (runesAt s.data.toList m 0))
def madeP (f : Fd) (p : V) : V :=
  if p.k = 0 ∨ f.tr = 0 then p else if f.tr = 1 then ⟨1, (crcN (bytesV p).data.toList : Int) % f.par, false, ByteArray.empty⟩ else if p.k = 3 then ⟨3, 0, false, cutT p.s f.par.toNat⟩ else ⟨1, floorA p.i f.par, false, ByteArray.empty⟩
def madeV (f : Fd) (v : V) : V := madeP f (plainV v)
def applyA (f : Fd) (v : V) : V × Int := if takesB f v.k = false then (zeroVal, 1300) else (madeV f v, 0)

theorem rr_step (l : List UInt8) (a : Nat) (h : a < l.length) : a + max (rr l a).2.toNat 1 ≤ l.length := by
  by_cases h0 : (rr l a).2 = 0
  · rw [h0]; show a + max 0 1 ≤ _; omega
  · have h1 := rr_in l a h0
    have h2 := rr_le l a
    omega
theorem runesAt_le (l : List UInt8) : ∀ (m a : Nat), a ≤ l.length → runesAt l m a ≤ l.length := by
  intro m
  induction m with
  | zero => intro a h; exact h
  | succ m ih =>
    intro a h
    unfold runesAt
    by_cases c : a < l.length
    · rw [if_pos c]; exact ih _ (rr_step l a c)
    · rw [if_neg c]; exact h
theorem runesAt_ge (l : List UInt8) : ∀ (m a : Nat), a ≤ runesAt l m a := by
  intro m
  induction m with
  | zero => intro a; exact Nat.le_refl _
  | succ m ih =>
    intro a
    unfold runesAt
    by_cases c : a < l.length
    · rw [if_pos c]; exact Nat.le_trans (Nat.le_add_right _ _) (ih _)
    · rw [if_neg c]; exact Nat.le_refl _
theorem runesAt_end (l : List UInt8) (m a : Nat) (h : ¬ a < l.length) : runesAt l m a = a := by
  cases m with
  | zero => rfl
  | succ m => unfold runesAt; rw [if_neg h]
theorem cutT_size (s : ByteArray) (m : Nat) : (cutT s m).size ≤ s.size := by
  unfold cutT; rw [textB_size, List.length_take, size_list]; omega
theorem plain_cases (v : V) : plainV v = ⟨1, v.i, false, ByteArray.empty⟩ ∨ plainV v = ⟨2, 0, v.b, ByteArray.empty⟩ ∨ plainV v = ⟨3, 0, false, v.s⟩ ∨ plainV v = zeroVal := by
  by_cases h1 : v.k = 1
  · exact .inl (plainV_int h1)
  by_cases h2 : v.k = 2
  · exact .inr (.inl (plainV_bool h2))
  by_cases h3 : v.k = 3
  · exact .inr (.inr (.inl (plainV_text h3)))
  · exact .inr (.inr (.inr (plainV_null h1 h2 h3)))
theorem madeP_plain (f : Fd) (v : V) : plainV (madeP f (plainV v)) = madeP f (plainV v) := by
  generalize hp : plainV v = p
  have hpp : plainV p = p := by rw [← hp]; exact plainV_twice v
  unfold madeP
  by_cases h0 : p.k = 0 ∨ f.tr = 0
  · rw [if_pos h0]; exact hpp
  rw [if_neg h0]
  by_cases h1 : f.tr = 1
  · rw [if_pos h1]; exact plainV_int rfl
  rw [if_neg h1]
  by_cases h3 : p.k = 3
  · rw [if_pos h3]; exact plainV_text rfl
  · rw [if_neg h3]; exact plainV_int rfl
theorem madeV_plain (f : Fd) (v : V) : plainV (madeV f v) = madeV f v := madeP_plain f v
theorem madeP_size (f : Fd) (p : V) : (madeP f p).s.size ≤ p.s.size := by
  unfold madeP
  by_cases h0 : p.k = 0 ∨ f.tr = 0
  · rw [if_pos h0]; exact Nat.le_refl _
  rw [if_neg h0]
  by_cases h1 : f.tr = 1
  · rw [if_pos h1]; exact Nat.zero_le _
  rw [if_neg h1]
  by_cases h3 : p.k = 3
  · rw [if_pos h3]; exact cutT_size _ _
  · rw [if_neg h3]; exact Nat.zero_le _
theorem madeV_size (f : Fd) (v : V) : (madeV f v).s.size ≤ v.s.size := Nat.le_trans (madeP_size f _) (plainV_size v)

/-! ### What was cut, cut again -/
theorem run4_same (c a b d a' b' d' : Int) (h : (run4 c a b d).2 ≠ 0) (ha : 2 ≤ (run4 c a b d).2 → a' = a) (hb : 3 ≤ (run4 c a b d).2 → b' = b) (hd : 4 ≤ (run4 c a b d).2 → d' = d) : run4 c a' b' d' = run4 c a b d := by
  unfold run4 at h ha hb hd ⊢
  by_cases c0 : c < 0
  · rw [if_pos c0] at h; exact absurd rfl h
  rw [if_neg c0] at h ha hb hd ⊢
  rw [if_neg c0]
  by_cases c1 : c < 128
  · rw [if_pos c1, if_pos c1]
  rw [if_neg c1] at h ha hb hd ⊢
  rw [if_neg c1]
  by_cases c2 : c < 194 ∨ 244 < c
  · rw [if_pos c2] at h; exact absurd rfl h
  rw [if_neg c2] at h ha hb hd ⊢
  rw [if_neg c2]
  by_cases c3 : c < 224
  · rw [if_pos c3] at h ha ⊢
    rw [if_pos c3]
    by_cases a0 : 0 ≤ a
    · rw [if_pos a0] at ha; rw [ha (Int.le_refl 2)]
    · rw [if_neg a0] at h; exact absurd rfl h
  rw [if_neg c3] at h ha hb hd ⊢
  rw [if_neg c3]
  by_cases c4 : c < 240
  · rw [if_pos c4] at h ha hb ⊢
    rw [if_pos c4]
    by_cases k : 0 ≤ a ∧ 0 ≤ b ∧ 2048 ≤ (c - 224) * 4096 + a * 64 + b ∧ ((c - 224) * 4096 + a * 64 + b < 55296 ∨ 57343 < (c - 224) * 4096 + a * 64 + b)
    · rw [if_pos k] at ha hb; rw [ha (by show (2 : Int) ≤ 3; omega), hb (Int.le_refl 3)]
    · rw [if_neg k] at h; exact absurd rfl h
  rw [if_neg c4] at h ha hb hd ⊢
  rw [if_neg c4]
  by_cases k : 0 ≤ a ∧ 0 ≤ b ∧ 0 ≤ d ∧ 65536 ≤ (c - 240) * 262144 + a * 4096 + b * 64 + d ∧ (c - 240) * 262144 + a * 4096 + b * 64 + d ≤ 1114111
  · rw [if_pos k] at ha hb hd; rw [ha (by show (2 : Int) ≤ 4; omega), hb (by show (3 : Int) ≤ 4; omega), hd (Int.le_refl 4)]
  · rw [if_neg k] at h; exact absurd rfl h
theorem rr_take {l : List UInt8} {n a : Nat} (hn : n ≤ l.length) (ha : a + max (rr l a).2.toNat 1 ≤ n) : (rr (l.take n) a).2 = (rr l a).2 := by
  have hl : l = l.take n ++ l.drop n := (List.take_append_drop n l).symm
  have hlt : (l.take n).length = n := by rw [List.length_take]; omega
  have nx : ∀ j, j < n → nxt (l.take n) j = nxt l j := fun j hj => by
    conv => rhs; rw [hl]
    exact (nxt_left (by rw [hlt]; exact hj)).symm
  have le : ∀ j, j < n → lead (l.take n) j = lead l j := fun j hj => by
    conv => rhs; rw [hl]
    exact (lead_left (by rw [hlt]; exact hj)).symm
  by_cases h0 : (rr l a).2 = 0
  · by_cases h : (rr (l.take n) a).2 = 0
    · rw [h, h0]
    · have := rr_left (b := l.drop n) h
      rw [← hl] at this
      rw [this]
  · have h2 := rr_le l a
    have key : rr (l.take n) a = rr l a := by
      have g1 : 2 ≤ (rr l a).2 → nxt (l.take n) (a + 1) = nxt l (a + 1) := fun _ => nx _ (by omega)
      have g2 : 3 ≤ (rr l a).2 → nxt (l.take n) (a + 2) = nxt l (a + 2) := fun _ => nx _ (by omega)
      have g3 : 4 ≤ (rr l a).2 → nxt (l.take n) (a + 3) = nxt l (a + 3) := fun _ => nx _ (by omega)
      have g0 := le a (by omega)
      unfold rr at h0 g1 g2 g3 ⊢
      rw [g0]
      exact run4_same _ _ _ _ _ _ _ h0 g1 g2 g3
    rw [key]
theorem runesAt_take (l : List UInt8) : ∀ (m a n : Nat), n ≤ l.length → runesAt l m a = n → runesAt (l.take n) m a = n := by
  intro m
  induction m with
  | zero => intro a n _ h; exact h
  | succ m ih =>
    intro a n hn h
    unfold runesAt at h
    by_cases c : a < l.length
    · rw [if_pos c] at h
      have hge := runesAt_ge l m (a + max (rr l a).2.toNat 1)
      rw [h] at hge
      have hlt : (l.take n).length = n := by rw [List.length_take]; omega
      unfold runesAt
      rw [if_pos (by rw [hlt]; omega), rr_take hn hge]
      exact ih _ _ hn h
    · rw [if_neg c] at h
      subst h
      exact runesAt_end _ _ _ (by rw [List.length_take]; omega)
theorem cutT_list (s : ByteArray) (m : Nat) : (cutT s m).data.toList = s.data.toList.take (runesAt s.data.toList m 0) := rfl
theorem cutT_twice (s : ByteArray) (m : Nat) : cutT (cutT s m) m = cutT s m := by
  have h := runesAt_take s.data.toList m 0 _ (runesAt_le s.data.toList m 0 (Nat.zero_le _)) rfl
  show textB ((cutT s m).data.toList.take (runesAt (cutT s m).data.toList m 0)) = cutT s m
  rw [cutT_list, h, List.take_take, Nat.min_self]
  rfl
theorem floorA_le (x p : Int) (hx : -9223372036854775808 ≤ x) (hp : 0 < p) : floorA x p ≤ x := by
  unfold floorA
  have := Int.emod_nonneg x (show p ≠ 0 by omega)
  split <;> omega
theorem floorA_range (x p : Int) (hx : -9223372036854775808 ≤ x ∧ x < 9223372036854775808) (hp : 0 < p) : -9223372036854775808 ≤ floorA x p ∧ floorA x p < 9223372036854775808 := by
  unfold floorA
  have := Int.emod_nonneg x (show p ≠ 0 by omega)
  split <;> omega
theorem floorA_twice (x p : Int) (hx : -9223372036854775808 ≤ x) (hp : 0 < p) : floorA (floorA x p) p = floorA x p ∨ floorA x p = -9223372036854775808 := by
  by_cases c : x < -9223372036854775808 + x % p
  · exact .inr (by unfold floorA; rw [if_pos c])
  · have e : floorA x p = x - x % p := by unfold floorA; rw [if_neg c]
    left
    rw [e]
    have h0 : (x - x % p) % p = 0 := by rw [Int.sub_emod, Int.emod_emod]; simp
    unfold floorA
    rw [h0, if_neg (by omega), Int.sub_zero]
end Go.Proofs.Ythfakpekdjmpjaa
