/- Runes as UTF-8 tells them: plain mathematics. No program is spoken of. Texts of runes: plain mathematics. No program is spoken of. -/
import Derived.ProofKit
namespace Go.Proofs.Ythfakpekdjmpjaa

/-- The bits of a byte that goes on; -1: none is there. -/
def nxt (l : List UInt8) (i : Nat) : Int :=
  match l[i]? with
  | some b => if b.toNat < 128 ∨ 191 < b.toNat then -1 else (b.toNat : Int) - 128
  | none => -1
/-- A byte; -1: none is there. -/
def lead (l : List UInt8) (i : Nat) : Int :=
  match l[i]? with
  | some b => (b.toNat : Int)
  | none => -1
/-- The rune of a first byte and of what goes on, and its bytes; 0, 0: none. -/
def run4 (c a b d : Int) : Int × Int :=
  if c < 0 then (0, 0) else if c < 128 then (c, 1) else if c < 194 ∨ 244 < c then (0, 0)
  else if c < 224 then (if 0 ≤ a then ((c - 192) * 64 + a, 2) else (0, 0))
  else if c < 240 then (if 0 ≤ a ∧ 0 ≤ b ∧ 2048 ≤ (c - 224) * 4096 + a * 64 + b ∧ ((c - 224) * 4096 + a * 64 + b < 55296 ∨ 57343 < (c - 224) * 4096 + a * 64 + b) then ((c - 224) * 4096 + a * 64 + b, 3) else (0, 0))
  else (if 0 ≤ a ∧ 0 ≤ b ∧ 0 ≤ d ∧ 65536 ≤ (c - 240) * 262144 + a * 4096 + b * 64 + d ∧ (c - 240) * 262144 + a * 4096 + b * 64 + d ≤ 1114111 then ((c - 240) * 262144 + a * 4096 + b * 64 + d, 4) else (0, 0))
/-- The rune at a place. -/
def rr (l : List UInt8) (i : Nat) : Int × Int := run4 (lead l i) (nxt l (i + 1)) (nxt l (i + 2)) (nxt l (i + 3))
/-- How many bytes a rune has; 0: it is none. -/
def sz (r : Int) : Int :=
  if r < 0 ∨ 1114111 < r then 0 else if 55296 ≤ r ∧ r ≤ 57343 then 0 else if r ≤ 127 then 1 else if r ≤ 2047 then 2 else if r ≤ 65535 then 3 else 4
/-- What a first byte tells. -/
def rl (c : Int) : Int × Int :=
  if c ≤ 127 then (c, 1) else if c < 192 then (0, 0) else if c < 224 then (c - 192, 2) else if c < 240 then (c - 224, 3) else if c < 248 then (c - 240, 4) else (0, 0)
/-- What stands behind k bytes. -/
def acc (l : List UInt8) (i : Nat) (r0 : Int) : Nat → Int
  | 0 => r0
  | 1 => r0
  | k + 2 => acc l i r0 (k + 1) * 64 + nxt l (i + (k + 1))
/-- The bytes behind the first go on. -/
def Good (l : List UInt8) (i k : Nat) : Prop := ∀ j, 1 ≤ j → j < k → 0 ≤ nxt l (i + j)

theorem nxt_lo (l : List UInt8) (i : Nat) : -1 ≤ nxt l i := by
  unfold nxt; split
  · split <;> omega
  · omega
theorem nxt_hi (l : List UInt8) (i : Nat) : nxt l i ≤ 63 := by
  unfold nxt; split
  · split <;> omega
  · omega
theorem nxt_none {l : List UInt8} {i : Nat} (h : l.length ≤ i) : nxt l i = -1 := by
  unfold nxt; rw [List.getElem?_eq_none h]
theorem nxt_len {l : List UInt8} {i : Nat} (h : 0 ≤ nxt l i) : i < l.length := by
  apply Decidable.byContradiction
  intro hn
  rw [nxt_none (by omega)] at h
  omega
theorem nxt_yes {l : List UInt8} {i : Nat} (h : i < l.length) (h1 : 128 ≤ l[i].toNat) (h2 : l[i].toNat ≤ 191) : nxt l i = (l[i].toNat : Int) - 128 := by
  unfold nxt; rw [List.getElem?_eq_getElem h]
  exact if_neg (by omega)
theorem nxt_no {l : List UInt8} {i : Nat} (h : i < l.length) (h1 : l[i].toNat < 128 ∨ 191 < l[i].toNat) : nxt l i = -1 := by
  unfold nxt; rw [List.getElem?_eq_getElem h]
  exact if_pos h1
theorem lead_some {l : List UInt8} {i : Nat} (h : i < l.length) : lead l i = (l[i].toNat : Int) := by
  unfold lead; rw [List.getElem?_eq_getElem h]
theorem lead_none {l : List UInt8} {i : Nat} (h : l.length ≤ i) : lead l i = -1 := by
  unfold lead; rw [List.getElem?_eq_none h]
theorem lead_hi (l : List UInt8) (i : Nat) : lead l i ≤ 255 := by
  unfold lead; split
  · rename_i b _; have := b.toNat_lt; omega
  · omega
theorem acc_succ (l : List UInt8) (i : Nat) (r0 : Int) (k : Nat) (h : 1 ≤ k) : acc l i r0 (k + 1) = acc l i r0 k * 64 + nxt l (i + k) := by
  cases k with
  | zero => omega
  | succ k => rfl

theorem run4_size (c a b d : Int) : (run4 c a b d).2 = 0 → run4 c a b d = (0, 0) := by
  unfold run4
  repeat' split
  all_goals simp
theorem run4_le (c a b d : Int) : 0 ≤ (run4 c a b d).2 ∧ (run4 c a b d).2 ≤ 4 := by
  unfold run4
  repeat' split
  all_goals simp
theorem rr_le (l : List UInt8) (i : Nat) : 0 ≤ (rr l i).2 ∧ (rr l i).2 ≤ 4 := run4_le _ _ _ _
theorem rr_zero {l : List UInt8} {i : Nat} (h : (rr l i).2 = 0) : rr l i = (0, 0) := run4_size _ _ _ _ h
/-- A rune lies within the text. -/
theorem rr_in (l : List UInt8) (i : Nat) : (rr l i).2 ≠ 0 → (i : Int) + (rr l i).2 ≤ l.length := by
  intro h
  have h0 : i < l.length := by
    apply Decidable.byContradiction
    intro hn
    apply h
    unfold rr run4
    rw [lead_none (by omega)]
    simp
  have ha := @nxt_len l (i + 1)
  have hb := @nxt_len l (i + 2)
  have hd := @nxt_len l (i + 3)
  revert h
  unfold rr run4
  repeat' split
  all_goals simp
  all_goals omega

/-- A rune of the form's length. -/
def fin (x k : Int) : Int × Int := if sz x = k then (x, k) else (0, 0)
theorem sz_one (r : Int) : sz r = 1 ↔ 0 ≤ r ∧ r ≤ 127 := by
  unfold sz
  repeat' split
  all_goals omega
theorem sz_two (r : Int) : sz r = 2 ↔ 128 ≤ r ∧ r ≤ 2047 := by
  unfold sz
  repeat' split
  all_goals omega
theorem fin1 (c a b d : Int) (h0 : 0 ≤ c) (h1 : c ≤ 127) : run4 c a b d = fin c 1 := by
  unfold run4 fin
  rw [if_pos ((sz_one c).2 ⟨h0, h1⟩), if_neg (by omega), if_pos (by omega)]
theorem fin2 (c a b d : Int) (h0 : 192 ≤ c) (h1 : c < 224) (a0 : 0 ≤ a) (a1 : a ≤ 63) : run4 c a b d = fin ((c - 192) * 64 + a) 2 := by
  unfold run4 fin
  rw [if_neg (by omega), if_neg (by omega)]
  by_cases h4 : c < 194
  · rw [if_pos (.inl h4), if_neg (by rw [sz_two]; omega)]
  · rw [if_neg (by omega), if_pos h1, if_pos a0, if_pos (by rw [sz_two]; omega)]
theorem sz_three (r : Int) : sz r = 3 ↔ 2048 ≤ r ∧ r ≤ 65535 ∧ (r < 55296 ∨ 57343 < r) := by
  unfold sz
  repeat' split
  all_goals omega
theorem sz_four (r : Int) : sz r = 4 ↔ 65536 ≤ r ∧ r ≤ 1114111 := by
  unfold sz
  repeat' split
  all_goals omega
theorem fin3 (c a b d : Int) (h0 : 224 ≤ c) (h1 : c < 240) (a0 : 0 ≤ a) (a1 : a ≤ 63) (b0 : 0 ≤ b) (b1 : b ≤ 63) : run4 c a b d = fin ((c - 224) * 4096 + a * 64 + b) 3 := by
  unfold run4 fin
  rw [if_neg (by omega), if_neg (by omega), if_neg (by omega), if_neg (by omega), if_pos h1]
  by_cases h : sz ((c - 224) * 4096 + a * 64 + b) = 3
  · rw [if_pos h]
    rw [sz_three] at h
    rw [if_pos ⟨a0, b0, h.1, h.2.2⟩]
  · rw [if_neg h]
    rw [sz_three] at h
    rw [if_neg (fun h' => h ⟨h'.2.2.1, by omega, h'.2.2.2⟩)]
theorem fin4 (c a b d : Int) (h0 : 240 ≤ c) (h1 : c < 248) (a0 : 0 ≤ a) (a1 : a ≤ 63) (b0 : 0 ≤ b) (b1 : b ≤ 63) (d0 : 0 ≤ d) (d1 : d ≤ 63) : run4 c a b d = fin ((c - 240) * 262144 + a * 4096 + b * 64 + d) 4 := by
  unfold run4 fin
  rw [if_neg (by omega), if_neg (by omega)]
  by_cases h : sz ((c - 240) * 262144 + a * 4096 + b * 64 + d) = 4
  · rw [if_pos h]
    rw [sz_four] at h
    rw [if_neg (by omega), if_neg (by omega), if_neg (by omega), if_pos ⟨a0, b0, d0, h.1, h.2⟩]
  · rw [if_neg h]
    rw [sz_four] at h
    by_cases h8 : c < 194 ∨ 244 < c
    · rw [if_pos h8]
    · rw [if_neg h8, if_neg (by omega), if_neg (by omega), if_neg (fun h' => h ⟨h'.2.2.2.1, h'.2.2.2.2⟩)]
/-- What the program reads of a first byte and of those behind it is the rune. -/
theorem rr_fin (l : List UInt8) (i : Nat) (h : i < l.length) (k : Nat) (hk : (rl (lead l i)).2 = k) (h0 : k ≠ 0) (hg : Good l i k) (x : Int) (hx : acc l i (rl (lead l i)).1 k = x) :
    rr l i = fin x k := by
  have hc0 : 0 ≤ lead l i := by rw [lead_some h]; omega
  have hc1 := lead_hi l i
  have a1 := nxt_hi l (i + 1)
  have a2 := nxt_hi l (i + 2)
  have a3 := nxt_hi l (i + 3)
  unfold rr
  generalize lead l i = c at *
  unfold rl at hk hx
  by_cases h1 : c ≤ 127
  · rw [if_pos h1] at hk hx
    obtain rfl : k = 1 := by simp at hk; omega
    obtain rfl : c = x := hx
    exact fin1 _ _ _ _ hc0 h1
  rw [if_neg h1] at hk hx
  by_cases h2 : c < 192
  · rw [if_pos h2] at hk; simp at hk; omega
  rw [if_neg h2] at hk hx
  by_cases h3 : c < 224
  · rw [if_pos h3] at hk hx
    obtain rfl : k = 2 := by simp at hk; omega
    have hx' : (c - 192) * 64 + nxt l (i + 1) = x := hx
    rw [← hx']
    exact fin2 _ _ _ _ (by omega) h3 (hg 1 (by omega) (by omega)) a1
  rw [if_neg h3] at hk hx
  by_cases h5 : c < 240
  · rw [if_pos h5] at hk hx
    obtain rfl : k = 3 := by simp at hk; omega
    have hx' : ((c - 224) * 64 + nxt l (i + 1)) * 64 + nxt l (i + 2) = x := hx
    have e : (c - 224) * 4096 + nxt l (i + 1) * 64 + nxt l (i + 2) = x := by omega
    rw [← e]
    exact fin3 _ _ _ _ (by omega) h5 (hg 1 (by omega) (by omega)) a1 (hg 2 (by omega) (by omega)) a2
  rw [if_neg h5] at hk hx
  by_cases h7 : c < 248
  · rw [if_pos h7] at hk hx
    obtain rfl : k = 4 := by simp at hk; omega
    have hx' : (((c - 240) * 64 + nxt l (i + 1)) * 64 + nxt l (i + 2)) * 64 + nxt l (i + 3) = x := hx
    have e : (c - 240) * 262144 + nxt l (i + 1) * 4096 + nxt l (i + 2) * 64 + nxt l (i + 3) = x := by omega
    rw [← e]
    exact fin4 _ _ _ _ (by omega) h7 (hg 1 (by omega) (by omega)) a1 (hg 2 (by omega) (by omega)) a2 (hg 3 (by omega) (by omega)) a3
  · rw [if_neg h7] at hk; simp at hk; omega

theorem rl_range (c : Int) (h0 : 0 ≤ c) (h : c ≤ 255) : 0 ≤ (rl c).1 ∧ (rl c).1 ≤ 127 ∧ 0 ≤ (rl c).2 ∧ (rl c).2 ≤ 4 := by
  unfold rl
  repeat' split
  all_goals simp
  all_goals omega
/-- No first byte, too short a text, or a byte that does not go on: no rune. -/
theorem rr_bad (l : List UInt8) (i : Nat) (h : (rl (lead l i)).2 = 0 ∨ (l.length : Int) - i < (rl (lead l i)).2 ∨ ∃ j : Nat, 1 ≤ j ∧ (j : Int) < (rl (lead l i)).2 ∧ nxt l (i + j) = -1) : rr l i = (0, 0) := by
  have ha := @nxt_len l (i + 1)
  have hb := @nxt_len l (i + 2)
  have hd := @nxt_len l (i + 3)
  have hl : 0 ≤ lead l i → i < l.length := by
    intro h
    apply Decidable.byContradiction
    intro hn
    rw [lead_none (by omega)] at h
    omega
  by_cases h0 : lead l i < 0
  · unfold rr run4
    rw [if_pos h0]
  have hl' := hl (by omega)
  rcases h with h | h | ⟨j, j1, j2, hj⟩
  · unfold rr run4
    unfold rl at h
    generalize lead l i = c at *
    repeat' split
    all_goals first | rfl | (exfalso; repeat' split at h) <;> simp at h <;> omega
  · unfold rr run4
    unfold rl at h
    generalize lead l i = c at *
    repeat' split
    all_goals first | rfl | (exfalso; repeat' split at h) <;> simp at h <;> omega
  · have hj' : (j = 1 ∨ j = 2 ∨ j = 3) := by
      have : (rl (lead l i)).2 ≤ 4 := (rl_range _ (by omega) (lead_hi _ _)).2.2.2
      omega
    unfold rr run4
    unfold rl at j2
    generalize lead l i = c at *
    rcases hj' with rfl | rfl | rfl <;> rw [hj]
    all_goals repeat' split
    all_goals first | rfl | (exfalso; repeat' split at j2) <;> simp at j2 <;> omega
end Go.Proofs.Ythfakpekdjmpjaa

namespace Go.Proofs.Ythfakpekdjmpjaa

/-- The first place that is no rune's beginning, from a place on; -1: none. -/
def firstAt (l : List UInt8) (i : Nat) : Int :=
  if i < l.length then (if (rr l i).2 = 0 then (i : Int) else firstAt l (i + (rr l i).2.toNat)) else -1
termination_by l.length - i
decreasing_by have := rr_le l i; omega
def first (l : List UInt8) : Int := firstAt l 0

theorem firstAt_end {l : List UInt8} {i : Nat} (h : ¬ i < l.length) : firstAt l i = -1 := by
  rw [firstAt, if_neg h]
theorem firstAt_stop {l : List UInt8} {i : Nat} (h : i < l.length) (h2 : (rr l i).2 = 0) : firstAt l i = i := by
  rw [firstAt, if_pos h, if_pos h2]
theorem firstAt_go {l : List UInt8} {i : Nat} (h : i < l.length) (h2 : (rr l i).2 ≠ 0) : firstAt l i = firstAt l (i + (rr l i).2.toNat) := by
  rw [firstAt, if_pos h, if_neg h2]
/-- A place or -1. -/
theorem firstAt_range (l : List UInt8) : ∀ (m i : Nat), l.length - i ≤ m → firstAt l i = -1 ∨ 0 ≤ firstAt l i ∧ firstAt l i < l.length
  | m, i, hm => by
    by_cases h : i < l.length
    · by_cases h2 : (rr l i).2 = 0
      · rw [firstAt_stop h h2]; omega
      · rw [firstAt_go h h2]
        have hle := rr_le l i
        cases m with
        | zero => omega
        | succ m => exact firstAt_range l m _ (by omega)
    · rw [firstAt_end h]; omega
theorem first_range (l : List UInt8) : first l = -1 ∨ 0 ≤ first l ∧ first l < l.length := firstAt_range l _ 0 (Nat.le_refl _)

theorem nxt_left {a b : List UInt8} {i : Nat} (h : i < a.length) : nxt (a ++ b) i = nxt a i := by
  unfold nxt; rw [List.getElem?_append_left h]
theorem nxt_right (a b : List UInt8) (i : Nat) : nxt (a ++ b) (a.length + i) = nxt b i := by
  unfold nxt; rw [List.getElem?_append_right (by omega), Nat.add_sub_cancel_left]
theorem lead_left {a b : List UInt8} {i : Nat} (h : i < a.length) : lead (a ++ b) i = lead a i := by
  unfold lead; rw [List.getElem?_append_left h]
theorem lead_right (a b : List UInt8) (i : Nat) : lead (a ++ b) (a.length + i) = lead b i := by
  unfold lead; rw [List.getElem?_append_right (by omega), Nat.add_sub_cancel_left]
/-- Behind a text a rune is what it is alone. -/
theorem rr_right (a b : List UInt8) (i : Nat) : rr (a ++ b) (a.length + i) = rr b i := by
  unfold rr
  rw [lead_right, show a.length + i + 1 = a.length + (i + 1) from rfl, show a.length + i + 2 = a.length + (i + 2) from rfl, show a.length + i + 3 = a.length + (i + 3) from rfl, nxt_right, nxt_right, nxt_right]
theorem run4_more (c a b d a' b' d' : Int) (h : (run4 c a b d).2 ≠ 0) (ha : 0 ≤ a → a' = a) (hb : 0 ≤ b → b' = b) (hd : 0 ≤ d → d' = d) : run4 c a' b' d' = run4 c a b d := by
  unfold run4 at h ⊢
  by_cases c0 : c < 0
  · rw [if_pos c0] at h; exact absurd rfl h
  rw [if_neg c0] at h ⊢
  rw [if_neg c0]
  by_cases c1 : c < 128
  · rw [if_pos c1, if_pos c1]
  rw [if_neg c1] at h ⊢
  rw [if_neg c1]
  by_cases c2 : c < 194 ∨ 244 < c
  · rw [if_pos c2] at h; exact absurd rfl h
  rw [if_neg c2] at h ⊢
  rw [if_neg c2]
  by_cases c3 : c < 224
  · rw [if_pos c3] at h ⊢
    rw [if_pos c3]
    by_cases a0 : 0 ≤ a
    · rw [ha a0]
    · rw [if_neg a0] at h; exact absurd rfl h
  rw [if_neg c3] at h ⊢
  rw [if_neg c3]
  by_cases c4 : c < 240
  · rw [if_pos c4] at h ⊢
    rw [if_pos c4]
    by_cases a0 : 0 ≤ a
    · by_cases b0 : 0 ≤ b
      · rw [ha a0, hb b0]
      · rw [if_neg (fun x => b0 x.2.1)] at h; exact absurd rfl h
    · rw [if_neg (fun x => a0 x.1)] at h; exact absurd rfl h
  rw [if_neg c4] at h ⊢
  rw [if_neg c4]
  by_cases a0 : 0 ≤ a
  · by_cases b0 : 0 ≤ b
    · by_cases d0 : 0 ≤ d
      · rw [ha a0, hb b0, hd d0]
      · rw [if_neg (fun x => d0 x.2.2.1)] at h; exact absurd rfl h
    · rw [if_neg (fun x => b0 x.2.1)] at h; exact absurd rfl h
  · rw [if_neg (fun x => a0 x.1)] at h; exact absurd rfl h
/-- Ahead of a text a rune is what it is alone. -/
theorem rr_left {a b : List UInt8} {i : Nat} (h : (rr a i).2 ≠ 0) : rr (a ++ b) i = rr a i := by
  have hi : i < a.length := by have := rr_in a i h; have := rr_le a i; omega
  unfold rr at h ⊢
  rw [lead_left hi]
  exact run4_more _ _ _ _ _ _ _ h (fun x => nxt_left (nxt_len x)) (fun x => nxt_left (nxt_len x)) (fun x => nxt_left (nxt_len x))

/-- Behind runes alone the first place is that of what follows. -/
theorem firstAt_pass (a b : List UInt8) : ∀ (m i : Nat), a.length - i ≤ m → i ≤ a.length → firstAt a i = -1 → firstAt (a ++ b) i = firstAt (a ++ b) a.length
  | m, i, hm, hi, h => by
    by_cases hlt : i < a.length
    · have h2 : (rr a i).2 ≠ 0 := fun h2 => by rw [firstAt_stop hlt h2] at h; omega
      rw [firstAt_go hlt h2] at h
      have hle := rr_le a i
      have hin := rr_in a i h2
      rw [firstAt_go (l := a ++ b) (by rw [List.length_append]; omega) (by rw [rr_left h2]; exact h2), rr_left h2]
      cases m with
      | zero => omega
      | succ m => exact firstAt_pass a b m _ (by omega) (by omega) h
    · obtain rfl : i = a.length := by omega
      rfl
theorem first_pass {a b : List UInt8} (h : first a = -1) : first (a ++ b) = firstAt (a ++ b) a.length := firstAt_pass a b _ 0 (Nat.le_refl _) (Nat.zero_le _) h
/-- One rune behind runes alone. -/
theorem first_more {a t : List UInt8} (h : first a = -1) (ht : 0 < t.length) (h2 : (rr t 0).2 = t.length) : first (a ++ t) = -1 := by
  have e := rr_right a t 0
  rw [Nat.add_zero] at e
  rw [first_pass h, firstAt_go (by rw [List.length_append]; omega) (by rw [e, h2]; omega), e, h2, firstAt_end (by rw [List.length_append]; omega)]
/-- What is no rune behind runes alone. -/
theorem first_less {a t : List UInt8} (h : first a = -1) (ht : 0 < t.length) (h2 : (rr t 0).2 = 0) : first (a ++ t) = a.length := by
  have e := rr_right a t 0
  rw [Nat.add_zero] at e
  rw [first_pass h, firstAt_stop (by rw [List.length_append]; omega) (by rw [e, h2])]
theorem first_nil : first [] = -1 := firstAt_end (by simp)
theorem first_one {t : List UInt8} (ht : 0 < t.length) (h2 : (rr t 0).2 = t.length) : first t = -1 := first_more (a := []) first_nil ht h2

/-- The text s of n. -/
def times (t : List UInt8) : Nat → List UInt8
  | 0 => []
  | n + 1 => times t n ++ t
theorem times_length (t : List UInt8) (n : Nat) : (times t n).length = n * t.length := by
  induction n with
  | zero => simp [times]
  | succ n ih => rw [times, List.length_append, ih, Nat.succ_mul]
theorem first_times {t : List UInt8} (ht : 0 < t.length) (h2 : (rr t 0).2 = t.length) (n : Nat) : first (times t n) = -1 := by
  induction n with
  | zero => exact first_nil
  | succ n ih => exact first_more ih ht h2

/-! ### a rune's bytes -/
def u8 (n : Nat) : UInt8 := UInt8.ofNat n
theorem u8_toNat (n : Nat) (h : n < 256) : (u8 n).toNat = n := UInt8.toNat_ofNat_of_lt' h
/-- Is it a rune? -/
def isRune (r : Int) : Bool := decide (0 ≤ r ∧ r ≤ 1114111 ∧ (r < 55296 ∨ 57343 < r))
/-- A rune's bytes. -/
def enc (r : Nat) : List UInt8 :=
  if r < 128 then [u8 r] else if r < 2048 then [u8 (192 + r / 64), u8 (128 + r % 64)]
  else if r < 65536 then [u8 (224 + r / 4096), u8 (128 + r / 64 % 64), u8 (128 + r % 64)]
  else [u8 (240 + r / 262144), u8 (128 + r / 4096 % 64), u8 (128 + r / 64 % 64), u8 (128 + r % 64)]
theorem lead_cons (b : UInt8) (l : List UInt8) : lead (b :: l) 0 = (b.toNat : Int) := rfl
theorem nxt_zero (b : UInt8) (l : List UInt8) : nxt (b :: l) 0 = if b.toNat < 128 ∨ 191 < b.toNat then -1 else (b.toNat : Int) - 128 := rfl
theorem nxt_succ (b : UInt8) (l : List UInt8) (i : Nat) : nxt (b :: l) (i + 1) = nxt l i := by
  unfold nxt; rw [List.getElem?_cons_succ]
theorem nxt_nil (i : Nat) : nxt [] i = -1 := nxt_none (Nat.zero_le _)
theorem nxt_u8 (n : Nat) (h : n < 64) (l : List UInt8) : nxt (u8 (128 + n) :: l) 0 = n := by
  rw [nxt_zero, u8_toNat _ (by omega), if_neg (by omega)]; omega
theorem rr_cons (b : UInt8) (l : List UInt8) : rr (b :: l) 0 = run4 b.toNat (nxt l 0) (nxt l 1) (nxt l 2) := by
  unfold rr; rw [lead_cons, nxt_succ, nxt_succ, nxt_succ]
theorem isRune_iff {r : Nat} : isRune r = true ↔ r ≤ 1114111 ∧ (r < 55296 ∨ 57343 < r) := by
  unfold isRune; rw [decide_eq_true_iff]; omega
/-- A rune's bytes are it. -/
theorem rr_enc (r : Nat) (h : isRune r = true) : rr (enc r) 0 = ((r : Int), ((enc r).length : Int)) := by
  rw [isRune_iff] at h
  unfold enc
  by_cases h1 : r < 128
  · rw [if_pos h1, rr_cons, u8_toNat _ (by omega)]
    unfold run4
    rw [if_neg (by omega), if_pos (by omega)]; rfl
  rw [if_neg h1]
  by_cases h2 : r < 2048
  · rw [if_pos h2, rr_cons, u8_toNat _ (by omega), nxt_u8 _ (by omega)]
    unfold run4
    rw [if_neg (by omega), if_neg (by omega), if_neg (by omega), if_pos (by omega), if_pos (by omega)]
    refine Prod.ext ?_ rfl
    show (_ : Int) = _
    omega
  rw [if_neg h2]
  by_cases h3 : r < 65536
  · rw [if_pos h3, rr_cons, u8_toNat _ (by omega), nxt_u8 _ (by omega), nxt_succ, nxt_u8 _ (by omega)]
    unfold run4
    have e : (((224 + r / 4096 : Nat) : Int) - 224) * 4096 + ((r / 64 % 64 : Nat) : Int) * 64 + ((r % 64 : Nat) : Int) = r := by omega
    rw [e, if_neg (by omega), if_neg (by omega), if_neg (by omega), if_neg (by omega), if_pos (by omega), if_pos (by omega)]
    rfl
  rw [if_neg h3, rr_cons, u8_toNat _ (by omega), nxt_u8 _ (by omega), nxt_succ, nxt_u8 _ (by omega), nxt_succ, nxt_succ, nxt_u8 _ (by omega)]
  unfold run4
  have e : (((240 + r / 262144 : Nat) : Int) - 240) * 262144 + ((r / 4096 % 64 : Nat) : Int) * 4096 + ((r / 64 % 64 : Nat) : Int) * 64 + ((r % 64 : Nat) : Int) = r := by omega
  rw [e, if_neg (by omega), if_neg (by omega), if_neg (by omega), if_neg (by omega), if_neg (by omega), if_pos (by omega)]
  rfl
theorem enc_length (r : Nat) : (enc r).length = if r < 128 then 1 else if r < 2048 then 2 else if r < 65536 then 3 else 4 := by
  unfold enc
  repeat' split
  all_goals rfl
theorem enc_pos (r : Nat) : 0 < (enc r).length := by
  rw [enc_length]; repeat' split
  all_goals omega
theorem enc_le (r : Nat) : (enc r).length ≤ 4 := by
  rw [enc_length]; repeat' split
  all_goals omega
theorem first_enc (r : Nat) (h : isRune r = true) : first (enc r) = -1 := first_one (enc_pos r) (by rw [rr_enc r h])
/-- A rune that is cut is none. -/
theorem rr_cut (r k : Nat) (h : 128 ≤ r) (hr : r ≤ 1114111) (hk : k < (enc r).length) : (rr ((enc r).take k) 0).2 = 0 := by
  rw [enc_length, if_neg (by omega)] at hk
  have hz : (rr [] 0).2 = 0 := rfl
  unfold enc
  rw [if_neg (by omega)]
  by_cases h2 : r < 2048
  · rw [if_pos h2] at hk ⊢
    rcases (by omega : k = 0 ∨ k = 1) with rfl | rfl
    · exact hz
    · rw [List.take_succ_cons, List.take_zero, rr_cons, u8_toNat _ (by omega), nxt_nil]
      unfold run4
      rw [if_neg (by omega), if_neg (by omega), if_neg (by omega), if_pos (by omega), if_neg (by omega)]
  rw [if_neg h2] at hk ⊢
  by_cases h3 : r < 65536
  · rw [if_pos h3] at hk ⊢
    rcases (by omega : k = 0 ∨ k = 1 ∨ k = 2) with rfl | rfl | rfl
    · exact hz
    · rw [List.take_succ_cons, List.take_zero, rr_cons, u8_toNat _ (by omega), nxt_nil]
      unfold run4
      rw [if_neg (by omega), if_neg (by omega), if_neg (by omega), if_neg (by omega), if_pos (by omega), if_neg (by omega)]
    · rw [List.take_succ_cons, List.take_succ_cons, List.take_zero, rr_cons, u8_toNat _ (by omega), nxt_u8 _ (by omega), nxt_succ, nxt_nil]
      unfold run4
      rw [if_neg (by omega), if_neg (by omega), if_neg (by omega), if_neg (by omega), if_pos (by omega), if_neg (by omega)]
  rw [if_neg h3] at hk ⊢
  have fin : ∀ a b : Int, (run4 ((240 + r / 262144 : Nat) : Int) a b (-1)).2 = 0 := by
    intro a b
    unfold run4
    rw [if_neg (by omega), if_neg (by omega), if_neg (by omega), if_neg (by omega), if_neg (by omega), if_neg (by omega)]
  rcases (by omega : k = 0 ∨ k = 1 ∨ k = 2 ∨ k = 3) with rfl | rfl | rfl | rfl
  · exact hz
  · rw [List.take_succ_cons, List.take_zero, rr_cons, u8_toNat _ (by omega), nxt_nil]; exact fin _ _
  · rw [List.take_succ_cons, List.take_succ_cons, List.take_zero, rr_cons, u8_toNat _ (by omega), nxt_succ, nxt_succ, nxt_nil]; exact fin _ _
  · rw [List.take_succ_cons, List.take_succ_cons, List.take_succ_cons, List.take_zero, rr_cons, u8_toNat _ (by omega), nxt_succ, nxt_succ, nxt_succ, nxt_nil]; exact fin _ _
end Go.Proofs.Ythfakpekdjmpjaa
