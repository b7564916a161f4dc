/- Numbers out of few bits: how a text is read, by steps. No walk stands here. -/
import Derived.Test.YtlepmiijdpcgnaaPackM
import Derived.Laws.MakeOwn
namespace Go.Proofs.Ytlepmiijdpcgnaa
open Go.Conc Go.RowKit
set_option linter.unusedVariables false

/-- A row of n numbers, the first i there. -/
def rowI (f : Nat → Int) (n i : Nat) : Array Value := ((List.range n).map fun j => Value.int .i64 (if j < i then f j else 0)).toArray
theorem rowI_size (f : Nat → Int) (n i : Nat) : (rowI f n i).size = n := by simp [rowI]
theorem rowI_get (f : Nat → Int) (n i j : Nat) (h : j < n) : (rowI f n i)[j]? = some (.int .i64 (if j < i then f j else 0)) := by simp [rowI, h]
theorem rowI_none (f : Nat → Int) (n i j : Nat) (h : ¬ j < n) : (rowI f n i)[j]? = none := by simp [rowI, h]
theorem rowI_step (f : Nat → Int) (n i : Nat) (h : i < n) : (rowI f n i).setIfInBounds i (.int .i64 (f i)) = rowI f n (i + 1) := by
  apply Array.ext_getElem?
  intro j
  rw [Array.getElem?_setIfInBounds]
  by_cases hj : j < n
  · rw [rowI_get f n (i + 1) j hj, rowI_size]
    by_cases e : i = j
    · subst e
      rw [if_pos rfl, if_pos h, if_pos (by omega)]
    · rw [if_neg e, rowI_get f n i j hj]
      by_cases hk : j < i
      · rw [if_pos hk, if_pos (by omega)]
      · rw [if_neg hk, if_neg (by omega)]
  · rw [if_neg (by omega), rowI_none f n i j hj, rowI_none f n (i + 1) j hj]
theorem rowI_made (f : Nat → Int) (n : Nat) : madeCells (Value.int .i64 0).cells n = rowI f n 0 := by
  apply Array.ext_getElem?
  intro j
  by_cases hj : j < n
  · rw [rowI_get f n 0 j hj, if_neg (by omega)]
    simp [madeCells, hj, Value.cells, Nat.mod_one]
  · rw [rowI_none f n 0 j hj]
    simp [madeCells, hj]
theorem rowI_full (f : Nat → Int) (n : Nat) : (rowI f n n).toList = intCells ((List.range n).map f) := by
  simp only [rowI, intCells, List.map_map]
  apply List.map_congr_left
  intro j hj
  rw [List.mem_range] at hj
  simp [hj]
/-- A full row, as one's own. -/
theorem own_row {w : World} {base g n : Nat} {f : Nat → Int} {ys : List Int} (h : w.heap[g]? = some (.cells (rowI f n n) 3 (0, 0))) (hb : base ≤ g) (hn : n ≤ maxLen) (hy : ys = (List.range n).map f) : OwnI base w (some ⟨g, 0, none⟩) n ys := by
  subst hy
  have hl : ((List.range n).map f).length = n := by simp
  refine ⟨by rw [intCells_length, Nat.mul_one], .inr ⟨g, n, _, rfl, hb, h, by rw [hl]; exact Nat.le_refl _, hn, by rw [rowI_size, Nat.mul_one], ?_⟩⟩
  rw [rowI_full, hl, Nat.mul_one, List.take_of_length_le (by rw [intCells_length, hl]; exact Nat.le_refl _)]

/-- The i-th number of k bits. -/
def dig (k S i : Nat) : Nat := S / 2 ^ (k * i) % 2 ^ k
theorem dig_lt (k S i : Nat) : dig k S i < 2 ^ k := Nat.mod_lt _ (Nat.two_pow_pos _)
theorem unpack_range (k S n : Nat) : unpackN k n S = (List.range n).map (dig k S) := by
  apply List.ext_getElem
  · rw [unpackN_length]; simp
  · intro i h1 h2
    rw [unpackN_get]
    simp [dig]
/-- What stands in the window behind a bytes and i numbers. -/
def wst (k S a i : Nat) : Nat := S % 256 ^ a / 2 ^ (k * i)
theorem wst_zero (k S i : Nat) : wst k S 0 i = 0 := by unfold wst; rw [Nat.pow_zero, Nat.mod_one, Nat.zero_div]
theorem wst_lt {k S a i m : Nat} (e : m + k * i = 8 * a) : wst k S a i < 2 ^ m := by
  unfold wst
  rw [Nat.div_lt_iff_lt_mul (Nat.two_pow_pos _), ← Nat.pow_add, e, p256]
  exact Nat.mod_lt _ (Nat.two_pow_pos _)
theorem wst_fill {k S a i m : Nat} (e : m + k * i = 8 * a) : wst k S a i + 2 ^ m * (S / 256 ^ a % 256) = wst k S (a + 1) i := by
  unfold wst
  have h : S % 256 ^ (a + 1) = S % 256 ^ a + 256 ^ a * (S / 256 ^ a % 256) := by rw [Nat.pow_succ, Nat.mod_mul]
  have h2 : 256 ^ a = 2 ^ (k * i) * 2 ^ m := by rw [p256, ← e, ← Nat.pow_add, Nat.add_comm]
  rw [h]
  generalize S / 256 ^ a % 256 = c
  generalize S % 256 ^ a = X
  rw [h2, Nat.mul_assoc, Nat.add_mul_div_left _ _ (Nat.two_pow_pos _)]
theorem wst_digit {k S a i m : Nat} (e : m + k * i = 8 * a) (h : k ≤ m) : wst k S a i % 2 ^ k = dig k S i := by
  unfold wst dig
  rw [p256, digit_low, if_pos (by omega)]
theorem wst_empty (k S a i : Nat) : wst k S a i / 2 ^ k = wst k S a (i + 1) := by
  unfold wst
  rw [Nat.div_div_eq_div_mul, ← Nat.pow_add, ← Nat.mul_succ]
theorem wst_end {k S a i : Nat} (h : S < 256 ^ a) : wst k S a i = S / 2 ^ (k * i) := by
  unfold wst; rw [Nat.mod_eq_of_lt h]
/-- A text's number, and its bytes. -/
def numT (s : ByteArray) : Nat := numB s.data.toList
theorem numT_lt (s : ByteArray) : numT s < 256 ^ s.size := numB_lt _
theorem numT_byte (s : ByteArray) (a : Nat) (h : a < s.size) : (s[a]'h).toNat = numT s / 256 ^ a % 256 := by
  have h1 := bytesN_get s.size (numT s) a (by rw [bytesN_length]; exact h)
  have h2 : bytesN s.size (numT s) = s.data.toList := bytesN_numB _
  rw [← h1]
  simp only [h2]
  rfl

/-- What Unpack answers. -/
def unpackA (s : ByteArray) (many z : Int) : List Int × Int :=
  if 0 ≤ z ∧ z ≤ 16 then
    if 0 ≤ many ∧ many ≤ 65536 then
      if s.size = bytesFor many.toNat z.toNat ∧ numT s / 2 ^ (z.toNat * many.toNat) = 0 then ((List.range many.toNat).map (fun i => (dig z.toNat (numT s) i : Int)), 0) else ([], 602)
    else ([], 601)
  else ([], 600)
theorem unpackA_width {s : ByteArray} {many z : Int} (h : ¬ (0 ≤ z ∧ z ≤ 16)) : unpackA s many z = ([], 600) := if_neg h
theorem unpackA_many {s : ByteArray} {many : Int} {k : Nat} (h : k ≤ 16) (hm : ¬ (0 ≤ many ∧ many ≤ 65536)) : unpackA s many k = ([], 601) := by
  unfold unpackA; rw [if_pos (by omega), if_neg hm]
theorem unpackA_cut {s : ByteArray} {n k : Nat} (h : k ≤ 16) (hm : n ≤ 65536) (hc : ¬ (s.size = bytesFor n k ∧ numT s / 2 ^ (k * n) = 0)) : unpackA s n k = ([], 602) := by
  unfold unpackA; rw [if_pos (by omega), if_pos (by omega), Int.toNat_natCast, Int.toNat_natCast, if_neg hc]
theorem unpackA_yes {s : ByteArray} {n k : Nat} (h : k ≤ 16) (hm : n ≤ 65536) (hc : s.size = bytesFor n k ∧ numT s / 2 ^ (k * n) = 0) : unpackA s n k = ((List.range n).map (fun i => (dig k (numT s) i : Int)), 0) := by
  unfold unpackA; rw [if_pos (by omega), if_pos (by omega), Int.toNat_natCast, Int.toNat_natCast, if_pos hc]
end Go.Proofs.Ytlepmiijdpcgnaa
