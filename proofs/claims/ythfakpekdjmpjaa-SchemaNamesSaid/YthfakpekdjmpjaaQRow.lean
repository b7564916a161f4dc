/- A row of bytes of one's own, byte by byte: one of a kind, then its first turned. -/
import Derived.Test.YthfakpekdjmpjaaSchZ
import Derived.Test.YthfakpekdjmpjaaOwn
import Derived.Laws.MakeOwn
import Derived.Laws.Tables
namespace Go.Proofs.Ythfakpekdjmpjaa
open Go.Conc Go.RowKit
set_option linter.unusedVariables false
set_option linter.unusedSimpArgs false

def bsN (k n : Nat) : List UInt8 := List.replicate n 113 ++ List.replicate (k - n) 0
theorem bsN_length {k n : Nat} (h : n ≤ k) : (bsN k n).length = k := by simp [bsN]; omega
theorem bytes_set (l : List UInt8) (i : Nat) (x : UInt8) : (byteCells l).toArray.setIfInBounds i (.int .u8 (x.toNat : Int)) = (byteCells (l.set i x)).toArray := by
  apply Array.ext'
  simp [byteCells, List.map_set]
theorem bytes_get (l : List UInt8) (i : Nat) (h : i < l.length) : (byteCells l).toArray[i]? = some (.int .u8 (l[i].toNat : Int)) := by
  simp [byteCells, h]
theorem bsN_step {k n : Nat} (h : n < k) : (bsN k n).set n 113 = bsN k (n + 1) := by
  unfold bsN
  obtain ⟨m, rfl⟩ : ∃ m, k = n + 1 + m := ⟨k - (n + 1), by omega⟩
  rw [show n + 1 + m - n = m + 1 by omega, show n + 1 + m - (n + 1) = m by omega, List.set_append_right _ _ (by simp), List.length_replicate, Nat.sub_self, List.replicate_succ, List.set_cons_zero, List.replicate_succ', List.append_assoc]
  rfl
theorem bsN_first {k : Nat} (x : UInt8) (h : 0 < k) : (bsN k k).set 0 x = qList x k := by
  obtain ⟨m, rfl⟩ : ∃ m, k = m + 1 := ⟨k - 1, by omega⟩
  unfold bsN
  rw [Nat.sub_self, List.replicate_zero, List.append_nil, List.replicate_succ]
  rfl
theorem made_zeroQ (n : Nat) : madeCells (Value.int .u8 0).cells (n * 1) = (byteCells (bsN n 0)).toArray := by
  apply Array.ext
  · simp [size_madeCells, bsN, byteCells]
  · intro i h1 h2
    simp [madeCells, bsN, byteCells, Value.cells, Nat.mod_one]
theorem make_q (n : Nat) (hn : n ≤ 1000000) (w : World) : (Instr.makeSlice 51 (.int .i64 (n : Int)) (.int .i64 (n : Int))).run Try.prog w = .ok (.slice (some ⟨w.heap.size, 0, none⟩) n n) (w.alloc (.cells (byteCells (bsN n 0)).toArray 5)) := by
  obtain ⟨i0, hi, hz0, hz1, hz2⟩ := info_parts infoByte
  have := run_make (P := Try.prog) w 51 5 i0 (.int .u8 0) Try.underlying51 hi hz0 .i64 .i64 (n : Int) (n : Int) (by omega) (by omega) (by rw [hz2]; omega) (by omega)
  rw [hz1, Int.toNat_natCast, made_zeroQ] at this
  exact this
theorem convert_q (w : World) (b c : Nat) (l : List UInt8) (n : Nat) (hn : l.length = n) (h : w.heap[b]? = some (.cells (byteCells l).toArray 5 (0, 0))) : (convert 51 9 (.slice (some ⟨b, 0, none⟩) n c)).run Try.prog w = .ok (.string (textB l)) w := by
  subst hn
  refine run_convert_bytes_back w 51 9 5 ⟨b, 0, none⟩ c l Try.underlying51 Try.underlying5 Try.underlying9 fun j hj => ?_
  have hadd : (⟨b, 0, none⟩ : Addr).add j = ⟨b, j, none⟩ := by unfold Addr.add; split <;> simp_all
  rw [hadd, cell_of_row w b j _ _ _ h]
  simp [byteCells, List.getElem?_eq_getElem hj]
theorem mask_q (x : Int) : ∃ c : UInt8, IntKind.u8.wrap x = (c.toNat : Int) := by
  have h0 : 0 ≤ IntKind.u8.wrap x ∧ IntKind.u8.wrap x < 256 := by rw [IntKind.wrap_u8]; omega
  refine ⟨UInt8.ofNat (IntKind.u8.wrap x).toNat, ?_⟩
  rw [UInt8.toNat_ofNat_of_lt' (by show _ < 256; omega)]
  omega
end Go.Proofs.Ythfakpekdjmpjaa
