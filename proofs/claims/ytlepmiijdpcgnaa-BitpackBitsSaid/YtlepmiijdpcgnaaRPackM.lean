/- The document's packing, bit by bit: rows of bytes, bits. No walk stands here. -/
import Derived.Test.YtlepmiijdpcgnaaUnpackM
import Derived.Test.YtlepmiijdpcgnaaBits
namespace Go.Proofs.Ytlepmiijdpcgnaa
open Go.Conc Go.RowKit
set_option linter.unusedVariables false

/-- A number's lowest c bytes, as cells. -/
def rowB (c X : Nat) : Array Value := (byteCells (bytesN c X)).toArray
theorem rowB_size (c X : Nat) : (rowB c X).size = c := by simp [rowB, byteCells, bytesN_length]
theorem rowB_at (S t c : Nat) (ht : t < 8 * c) : (rowB c (S % 2 ^ t))[t / 8]? = some (.int .u8 (part 8 S t : Nat)) := by
  have h := byte_at S t c ht
  have hp := part_lt 8 S t
  have h2 : 2 ^ (t % 8) ≤ 2 ^ 7 := Nat.pow_le_pow_right (by omega) (by omega)
  simp only [rowB, byteCells, List.getElem?_toArray, List.getElem?_map, h, Option.map_some]
  rw [u8_toNat _ (by omega)]
theorem rowB_step (S t c : Nat) (ht : t < 8 * c) : (rowB c (S % 2 ^ t)).setIfInBounds (t / 8) (.int .u8 (part 8 S t + 2 ^ (t % 8) * (S / 2 ^ t % 2) : Nat)) = rowB c (S % 2 ^ (t + 1)) := by
  have hp := part_lt 8 S t
  have h2 : 2 ^ (t % 8) ≤ 2 ^ 7 := Nat.pow_le_pow_right (by omega) (by omega)
  have h3 : 2 ^ (t % 8) * (S / 2 ^ t % 2) ≤ 2 ^ (t % 8) * 1 := Nat.mul_le_mul_left _ (by omega)
  unfold rowB
  rw [byte_step S t c ht, List.setIfInBounds_toArray]
  congr 1
  simp only [byteCells, List.map_set]
  rw [u8_toNat _ (by omega)]
theorem rowB_made (S c : Nat) : madeCells (Value.int .u8 0).cells c = rowB c (S % 2 ^ 0) := by
  unfold rowB
  rw [bytes_none]
  apply Array.ext_getElem?
  intro j
  by_cases hj : j < c
  · simp [madeCells, hj, Value.cells, Nat.mod_one, byteCells]
  · simp [madeCells, hj, byteCells]
theorem infoByteRow : (Try.prog.info? 5).map (fun i => (i.zero, i.size, i.bytes)) = some (some (.int .u8 0), 1, 1) := by kernel_rfl
/-- make([]byte, c). -/
theorem make_bytes (S : Nat) (w : World) (c : Nat) (h : c ≤ 281474976710656) : (Instr.makeSlice 41 (.int .i64 (c : Int)) (.int .i64 (c : Int))).run Try.prog w = .ok (.slice (some ⟨w.heap.size, 0, none⟩) c c) (w.alloc (.cells (rowB c (S % 2 ^ 0)) 5)) := by
  obtain ⟨i0, hi, hz0, hz1, hz2⟩ := info_parts infoByteRow
  have hr := run_make (P := Try.prog) w 41 5 i0 _ Try.underlying41 hi hz0 .i64 .i64 (c : Int) (c : Int) (by omega) (Int.le_refl _) (by rw [hz2]; omega) (by omega)
  rw [Int.toNat_natCast, hz1, Nat.mul_one, rowB_made S c] at hr
  exact hr
/-- A row of bytes as a text. -/
theorem rowB_text {w : World} {g c X : Nat} (h : w.heap[g]? = some (.cells (rowB c X) 5 (0, 0))) (hc : c ≤ maxLen) : (convert 41 9 (.slice (some ⟨g, 0, none⟩) c c)).run Try.prog w = .ok (.string (textB (bytesN c X))) w := by
  have hl := bytesN_length c X
  have ho : w.ownsRow 0 5 1 (.slice (some ⟨g, 0, none⟩) c c) (bytesN c X).length (byteCells (bytesN c X)) := by
    refine ⟨by rw [byteCells_length, Nat.mul_one], .inr ⟨g, c, _, by rw [hl], Nat.zero_le _, h, by rw [hl]; exact Nat.le_refl _, hc, by rw [rowB_size, Nat.mul_one], ?_⟩⟩
    rw [Nat.mul_one, hl]
    show (byteCells (bytesN c X)).take c = _
    rw [List.take_of_length_le (by rw [byteCells_length, hl]; exact Nat.le_refl _)]
  exact own_text ho

theorem i64_and1 (q : Nat) (h : q < 9223372036854775808) : bits .and .i64 (q : Int) 1 = ((q % 2 : Nat) : Int) := by
  show IntKind.i64.wrap ((BitVec.ofInt 64 (q : Int) &&& BitVec.ofInt 64 ((1 : Nat) : Int)).toNat : Int) = _
  rw [BitVec.toNat_and, ofInt_u64 _ (by omega), ofInt_u64 1 (by omega), Nat.and_one_is_mod]
  exact wrap_i64_nat _ (by omega)
theorem u8_or_bit (r p v : Nat) (hr : r ≤ 7) (hp : p < 2 ^ r) (hv : v ≤ 1) : bits .or .u8 (p : Int) ((2 ^ r * v : Nat) : Int) = ((p + 2 ^ r * v : Nat) : Int) := by
  have h2 : 2 ^ r ≤ 2 ^ 7 := Nat.pow_le_pow_right (by omega) hr
  have h3 : 2 ^ r * v ≤ 2 ^ r * 1 := Nat.mul_le_mul_left _ hv
  rw [u8_or_nat _ _ (by omega) (by omega), Nat.or_comm, nat_join r (2 ^ r * v) p (Nat.mul_mod_right _ _) hp, Nat.add_comm]

/-- How many numbers fit, from the first on. -/
def lead1 (k : Nat) : List Int → Nat
  | [] => 0
  | x :: xs => if 0 ≤ x ∧ wid x.toNat ≤ k then lead1 k xs + 1 else 0
theorem lead1_le (k : Nat) : ∀ xs, lead1 k xs ≤ xs.length
  | [] => Nat.le_refl _
  | x :: xs => by
    have := lead1_le k xs
    rw [lead1]
    split <;> simp <;> omega
theorem lead1_in (k : Nat) : ∀ (xs : List Int) (i : Nat) (h : i < xs.length), i < lead1 k xs → 0 ≤ xs[i] ∧ wid xs[i].toNat ≤ k
  | [], i, h, h2 => by simp at h
  | x :: xs, i, h, h2 => by
    rw [lead1] at h2
    split at h2
    · rename_i hc
      cases i with
      | zero => exact hc
      | succ i => exact lead1_in k xs i (by simpa using h) (by omega)
    · omega
theorem lead1_out (k : Nat) : ∀ (xs : List Int) (h : lead1 k xs < xs.length), xs[lead1 k xs] < 0 ∨ ¬ wid xs[lead1 k xs].toNat ≤ k
  | [], h => by simp at h
  | x :: xs, h => by
    by_cases c : 0 ≤ x ∧ wid x.toNat ≤ k
    · have e : lead1 k (x :: xs) = lead1 k xs + 1 := if_pos c
      simp only [e, List.getElem_cons_succ]
      exact lead1_out k xs (by rw [e] at h; simpa using h)
    · have e : lead1 k (x :: xs) = 0 := if_neg c
      simp only [e, List.getElem_cons_zero]
      omega
theorem lead1_fits {k : Nat} {xs : List Int} : fits k xs ↔ lead1 k xs = xs.length := by
  constructor
  · intro h
    by_cases c : lead1 k xs < xs.length
    · exact absurd h (not_fits (List.getElem_mem c) (lead1_out k xs c))
    · have := lead1_le k xs; omega
  · intro h x hx
    obtain ⟨i, hi, rfl⟩ := List.getElem_of_mem hx
    obtain ⟨h0, h1⟩ := lead1_in k xs i hi (by omega)
    have h2 := (wid_le k _).1 h1
    have h3 : ((2 : Int) ^ k) = ((2 ^ k : Nat) : Int) := by simp
    rw [h3]
    omega
/-- A bit of the numbers that fit. -/
theorem lead1_bit {k : Nat} {xs : List Int} {i j y : Nat} (hi : i < xs.length) (hl : i < lead1 k xs) (hj : j < k) (hy : xs[i] = (y : Int)) : packN k (nats (xs.take (lead1 k xs))) / 2 ^ (k * i + j) % 2 = y / 2 ^ j % 2 := by
  have hlen : (nats (xs.take (lead1 k xs))).length = lead1 k xs := by
    rw [nats_length, List.length_take, Nat.min_eq_left (lead1_le k xs)]
  have hi2 : i < (nats (xs.take (lead1 k xs))).length := by rw [hlen]; exact hl
  have hb := pack_bit k (nats (xs.take (lead1 k xs))) (fun x hx => ?_) i j hi2 hj
  · rw [hb]
    have e : (nats (xs.take (lead1 k xs)))[i] = y := by simp [nats, hy]
    rw [e]
  · simp only [nats, List.mem_map] at hx
    obtain ⟨z, hz, rfl⟩ := hx
    obtain ⟨p, hp, rfl⟩ := List.getElem_of_mem hz
    rw [List.length_take] at hp
    rw [List.getElem_take]
    exact (wid_le k _).1 (lead1_in k xs p (by omega) (by omega)).2
end Go.Proofs.Ytlepmiijdpcgnaa
