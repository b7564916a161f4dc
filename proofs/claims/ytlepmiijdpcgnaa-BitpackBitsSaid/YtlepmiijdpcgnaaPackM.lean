/- Numbers in few bits: how a list is packed, by steps. No walk stands here. -/
import Derived.Test.YtlepmiijdpcgnaaFit
import Derived.Test.YtlepmiijdpcgnaaSb
namespace Go.Proofs.Ytlepmiijdpcgnaa
open Go.Conc Go.RowKit
set_option linter.unusedVariables false

def textB (l : List UInt8) : ByteArray := ⟨l.toArray⟩
theorem textB_size (l : List UInt8) : (textB l).size = l.length := rfl
theorem textB_list (l : List UInt8) : (textB l).data.toList = l := rfl
/-- The numbers, as such. -/
def nats (xs : List Int) : List Nat := xs.map Int.toNat
theorem nats_length (xs : List Int) : (nats xs).length = xs.length := by simp [nats]
/-- The first n numbers as one. -/
def pk (k : Nat) (xs : List Int) (n : Nat) : Nat := packN k ((nats xs).take n)
theorem pk_zero (k : Nat) (xs : List Int) : pk k xs 0 = 0 := by simp [pk, packN]
theorem pk_all (k : Nat) (xs : List Int) : pk k xs xs.length = packN k (nats xs) := by
  unfold pk; rw [← nats_length, List.take_length]
theorem pk_succ (k : Nat) (xs : List Int) (n : Nat) (h : n < xs.length) : pk k xs (n + 1) = pk k xs n + 2 ^ (k * n) * xs[n].toNat := by
  have hn : n < (nats xs).length := by rw [nats_length]; exact h
  have e : (nats xs)[n] = xs[n].toNat := by simp [nats]
  unfold pk
  rw [← List.take_append_getElem hn, packN_snoc, List.length_take, Nat.min_eq_left (Nat.le_of_lt hn), e]
theorem fits_lt {k : Nat} {xs : List Int} (h : fits k xs) : ∀ x ∈ nats xs, x < 2 ^ k := by
  intro x hx
  simp only [nats, List.mem_map] at hx
  obtain ⟨y, hy, rfl⟩ := hx
  obtain ⟨h0, h1⟩ := h y hy
  have h3 : ((2 : Int) ^ k) = ((2 ^ k : Nat) : Int) := by simp
  rw [h3] at h1
  omega
theorem pk_lt {k : Nat} {xs : List Int} (h : fits k xs) (n : Nat) (hn : n ≤ xs.length) : pk k xs n < 2 ^ (k * n) := by
  have := packN_lt k ((nats xs).take n) (fun x hx => fits_lt h x (List.mem_of_mem_take hx))
  rwa [List.length_take, nats_length, Nat.min_eq_left hn] at this
theorem p256 (c : Nat) : 256 ^ c = 2 ^ (8 * c) := by rw [show (256 : Nat) = 2 ^ 8 from rfl, ← Nat.pow_mul]
/-- What stands in the window is below its bits' power. -/
theorem win_lt {S c m N : Nat} (h : S < 2 ^ N) (e : m + 8 * c = N) : S / 256 ^ c < 2 ^ m := by
  rw [p256, Nat.div_lt_iff_lt_mul (Nat.two_pow_pos _), ← Nat.pow_add, e]
  exact h
/-- A number more. -/
theorem win_fill (S y c m N : Nat) (e : m + 8 * c = N) : (S + 2 ^ N * y) / 256 ^ c = S / 256 ^ c + 2 ^ m * y := by
  rw [← e, Nat.add_comm m, Nat.pow_add, ← p256, Nat.mul_assoc, Nat.add_mul_div_left _ _ (by rw [p256]; exact Nat.two_pow_pos _)]
/-- A byte less. -/
theorem win_empty (S c : Nat) : S / 256 ^ c / 2 ^ 8 = S / 256 ^ (c + 1) := by
  show S / 256 ^ c / 256 = _
  rw [Nat.div_div_eq_div_mul, Nat.pow_succ]
theorem bytes_more (S c : Nat) : bytesN c S ++ [u8 (S / 256 ^ c % 2 ^ 8)] = bytesN (c + 1) S := (bytesN_snoc c S).symm
/-- The last byte. -/
theorem bytes_last {S c m N : Nat} (h : S < 2 ^ N) (e : m + 8 * c = N) (hm : m < 8) (h0 : 0 < m) : bytesN c S ++ [u8 (S / 256 ^ c % 2 ^ m)] = bytesN ((N + 7) / 8) S := by
  have h1 := win_lt h e
  have h2 : 2 ^ m ≤ 2 ^ 7 := Nat.pow_le_pow_right (by omega) (by omega)
  rw [show (N + 7) / 8 = c + 1 by omega, ← bytes_more, Nat.mod_eq_of_lt h1, Nat.mod_eq_of_lt (a := S / 256 ^ c) (by omega)]
theorem bytes_full {S c m N : Nat} (e : m + 8 * c = N) (h0 : m = 0) : bytesN c S = bytesN ((N + 7) / 8) S := by
  rw [show (N + 7) / 8 = c by omega]

/-- What Pack answers. -/
def packA (xs : List Int) (z : Int) : ByteArray × Int :=
  if 0 ≤ z ∧ z ≤ 16 then (if fits z.toNat xs then (textB (bytesN (bytesFor xs.length z.toNat) (packN z.toNat (nats xs))), 0) else (ByteArray.empty, 601)) else (ByteArray.empty, 600)
theorem packA_width {xs : List Int} {z : Int} (h : ¬ (0 ≤ z ∧ z ≤ 16)) : packA xs z = (ByteArray.empty, 600) := if_neg h
theorem packA_range {xs : List Int} {k : Nat} (h : k ≤ 16) (hf : ¬ fits k xs) : packA xs k = (ByteArray.empty, 601) := by
  unfold packA; rw [if_pos (by omega), Int.toNat_natCast, if_neg hf]
theorem packA_yes {xs : List Int} {k : Nat} (h : k ≤ 16) (hf : fits k xs) : packA xs k = (textB (bytesN ((k * xs.length + 7) / 8) (pk k xs xs.length)), 0) := by
  unfold packA bytesFor; rw [if_pos (by omega), Int.toNat_natCast, if_pos hf, pk_all, Nat.mul_comm]

/-- A builder that another block's turn leaves as it is. -/
theorem SbAt.frm {B b g : Nat} {l : List UInt8} {w w' : World} {cs : Array Value} {T : TypeId} {fz : Nat × Nat} (h : SbAt B b l w) (hg : w.heap[g]? = some (.cells cs T fz)) (hT : T ≠ 5) (hb : b ≠ g) (hf : Frm (fun k => k = g) w w') : SbAt B b l w' := by
  have key : ∀ p, Lib.BuilderAt 46 5 B b p (byteCells l) w → Lib.BuilderAt 46 5 B b p (byteCells l) w' := by
    rintro p ⟨hB, v, hbk, hown, hne⟩
    refine ⟨hB, v, (hf.block b (Array.getElem?_eq_some_iff.1 hbk).1 hb).trans hbk, ?_, hne⟩
    refine hown.kept (row := some g) ⟨hf.os, hf.tape, hf.output, hf.size, fun k hk hn => hf.block k hk (fun e => hn (by rw [e]))⟩ (.inr ?_)
    exact Lib.ownBlock_ne hown hg hT
  exact h.elim (fun x => .inl (key _ x)) (fun x => .inr (key _ x))
theorem SbAt.alloc {B b : Nat} {l : List UInt8} {w : World} (h : SbAt B b l w) (o : Obj) : SbAt B b l (w.alloc o) := by
  have key : ∀ p, Lib.BuilderAt 46 5 B b p (byteCells l) w → Lib.BuilderAt 46 5 B b p (byteCells l) (w.alloc o) := by
    rintro p ⟨hB, v, hbk, hown, hne⟩
    exact ⟨hB, v, (Below.heap_alloc _ _ _ (Array.getElem?_eq_some_iff.1 hbk).1).trans hbk, own_same hown fun g _ hg => Below.heap_alloc _ _ _ hg, hne⟩
  exact h.elim (fun x => .inl (key _ x)) (fun x => .inr (key _ x))
theorem WinAt.kept {w w' : World} {b g B m : Nat} (h : WinAt w g B m) (hk : SbKept b w w') (hb : g ≠ b) : WinAt w' g B m :=
  hk g _ h (by simpa using hb) (fun c fz e => by injection e with _ e2 _; exact absurd e2 (by decide))
theorem below_frm {B g : Nat} {a w w' : World} (h : Below B a w) (hg : B ≤ g) (ha : B ≤ a.heap.size) (hf : Frm (fun k => k = g) w w') : Below B a w' :=
  ⟨hf.os.trans h.os, hf.tape.trans h.tape, hf.output.trans h.output, Nat.le_trans h.size hf.size, fun k hk => (hf.block k (by have := h.size; omega) (by omega)).trans (h.block k hk)⟩
end Go.Proofs.Ytlepmiijdpcgnaa
