/- A new row of bytes as a text. -/
import Derived.Test.YtgpnfmkonhaccaaUtf2
import Derived.Test.YtgpnfmkonhaccaaProg
import Derived.WalkKit
import Derived.ProofKit
import Derived.Lib.Hide
import Derived.WalkLawsBesides
import Derived.WalkSpells
import Derived.Laws.IdiomStrings
import Derived.Laws.BytesString
import Derived.Below
namespace Go.Proofs.Ytgpnfmkonhaccaa
open Go.RowKit
set_option linter.unusedVariables false

def byteCells (l : List UInt8) : List Value := l.map fun b => Value.int .u8 (b.toNat : Int)
/-- A new row of bytes as a text. -/
theorem bytes_back (w : World) (l : List UInt8) (C : Array Value) (hC : (byteCells l).toArray = C) (n : Nat) (hn : l.length = n) :
    (convert 51 9 (.slice (some ⟨w.heap.size, 0, none⟩) n n)).run Try.prog (w.alloc (.cells C 5)) = .ok (.string ⟨l.toArray⟩) (w.alloc (.cells C 5)) := by
  subst hn hC
  refine run_convert_bytes_back _ 51 9 5 ⟨w.heap.size, 0, none⟩ _ l Try.underlying51 Try.underlying5 Try.underlying9 (fun j hj => ?_)
  have e : (⟨w.heap.size, 0, none⟩ : Addr).add j = ⟨w.heap.size, j, none⟩ := by
    unfold Addr.add
    by_cases h0 : j = 0
    · simp [h0]
    · simp [h0]
  rw [e]
  have hb : (w.alloc (.cells (byteCells l).toArray 5)).heap[w.heap.size]? = some (.cells (byteCells l).toArray 5) := by simp [World.alloc, -World.alloc_eq]
  simp only [World.cell?, hb]
  simp [byteCells, hj]
theorem u8_cell (n : Nat) (x : Int) (h : n < 256) (hx : (n : Int) = x) : Value.int .u8 ((u8 n).toNat : Int) = .int .u8 x := by rw [u8_toNat n h, hx]
theorem cells_one {a x : Value} (h : a = x) : [a] = [x] := by rw [h]
theorem cells_cons {a x : Value} {b y : List Value} (h : a = x) (h2 : b = y) : a :: b = x :: y := by rw [h, h2]

end Go.Proofs.Ytgpnfmkonhaccaa
