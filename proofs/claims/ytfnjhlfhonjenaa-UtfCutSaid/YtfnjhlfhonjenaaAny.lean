/- The calls of utf and of the document's answer at any input: one answer for both. -/
import Derived.Test.YtfnjhlfhonjenaaUAwake
import Derived.Test.YtfnjhlfhonjenaaRFirst
import Derived.Test.YtfnjhlfhonjenaaRPutR
namespace Go.Proofs.Ytfnjhlfhonjenaa
open Go.RowKit
set_option linter.unusedVariables false

theorem below2 {w w1 w2 : World} (a : Below w.heap.size w w1) (b : Below w1.heap.size w1 w2) : Below w.heap.size w w2 := a.trans (b.mono a.size)
theorem below3 {w w1 w2 w3 : World} (a : Below w.heap.size w w1) (b : Below w1.heap.size w1 w2) (c : Below w2.heap.size w2 w3) : Below w.heap.size w w3 := below2 (below2 a b) c

/-- The rune at any place. -/
def rz (l : List UInt8) (z : Int) : Int × Int := if 0 ≤ z then rr l z.toNat else (0, 0)
theorem rr_beyond {l : List UInt8} {i : Nat} (h : l.length ≤ i) : rr l i = (0, 0) := by
  unfold rr run4
  rw [lead_none h, if_pos (by omega)]
theorem rz_out {l : List UInt8} {z : Int} (h : z < 0 ∨ (l.length : Int) ≤ z) : rz l z = (0, 0) := by
  unfold rz
  by_cases h0 : 0 ≤ z
  · rw [if_pos h0, rr_beyond (by omega)]
  · rw [if_neg h0]
theorem rz_in (l : List UInt8) (i : Nat) : rz l (i : Int) = rr l i := by
  unfold rz; rw [if_pos (by omega)]; rfl
theorem urune_z (s : ByteArray) (z : Int) (hs : s.size ≤ 9223372036854775000) (w : World) :
    Calls Try.prog 7 #[.string s, .int .i64 z] w fun e w' => e = .returned (.tuple #[.int .i64 (rz s.data.toList z).1, .int .i64 (rz s.data.toList z).2]) ∧ w = w' := by
  by_cases h : z < 0 ∨ (s.size : Int) ≤ z
  · rw [rz_out (by simpa using h)]; exact urune_out s z h w
  · obtain ⟨i, rfl⟩ : ∃ i : Nat, z = (i : Int) := ⟨z.toNat, by omega⟩
    rw [rz_in]; exact urune_in s i (by omega) (by omega) w
theorem rrune_z (s : ByteArray) (z : Int) (hs : s.size ≤ 9223372036854775000) (w : World) :
    Calls Try.prog 8 #[.string s, .int .i64 z] w fun e w' => e = .returned (.tuple #[.int .i64 (rz s.data.toList z).1, .int .i64 (rz s.data.toList z).2]) ∧ w = w' := by
  by_cases h : z < 0 ∨ (s.size : Int) ≤ z
  · rw [rz_out (by simpa using h)]; exact rrune_out s z h w
  · obtain ⟨i, rfl⟩ : ∃ i : Nat, z = (i : Int) := ⟨z.toNat, by omega⟩
    rw [rz_in]; exact rrune_in s i (by omega) hs w

/-- A rune's bytes; of what is none, nothing. -/
def putS (r : Int) : ByteArray := if isRune r then ⟨(enc r.toNat).toArray⟩ else ByteArray.empty
def putE (r : Int) : Int := if isRune r then 0 else 200
theorem putS_yes {r : Nat} (h : isRune r = true) : putS r = ⟨(enc r).toArray⟩ := by unfold putS; rw [if_pos h]; rfl
theorem putE_yes {r : Int} (h : isRune r = true) : putE r = 0 := by unfold putE; rw [if_pos h]
theorem putS_no {r : Int} (h : isRune r = false) : putS r = ByteArray.empty := by unfold putS; rw [h]; rfl
theorem putE_no {r : Int} (h : isRune r = false) : putE r = 200 := by unfold putE; rw [h]; rfl
theorem isRune_nat {r : Int} (h : isRune r = true) : ∃ n : Nat, r = n := by
  unfold isRune at h
  rw [decide_eq_true_iff] at h
  exact ⟨r.toNat, by omega⟩
theorem uput_any (r : Int) (w : World) : Calls Try.prog 9 #[.int .i64 r] w fun e w' => e = .returned (.tuple #[.string (putS r), .int .i64 (putE r)]) ∧ Below w.heap.size w w' := by
  by_cases h : isRune r = true
  · obtain ⟨n, rfl⟩ := isRune_nat h
    rw [putS_yes h, putE_yes h]; exact uput_yes n h w
  · have h' : isRune r = false := by simpa using h
    rw [putS_no h', putE_no h']
    exact (uput_no r h' w).mono fun e w' ⟨h1, h2⟩ => ⟨h1, h2 ▸ Below.refl _ _⟩
theorem rputr_any (r : Int) (w : World) : Calls Try.prog 10 #[.int .i64 r] w fun e w' => e = .returned (.tuple #[.string (putS r), .int .i64 (putE r)]) ∧ Below w.heap.size w w' := by
  by_cases h : isRune r = true
  · obtain ⟨n, rfl⟩ := isRune_nat h
    rw [putS_yes h, putE_yes h]; exact rputr_yes n h w
  · have h' : isRune r = false := by simpa using h
    rw [putS_no h', putE_no h']
    exact (rputr_no r h' w).mono fun e w' ⟨h1, h2⟩ => ⟨h1, h2 ▸ Below.refl _ _⟩
end Go.Proofs.Ytfnjhlfhonjenaa
