/- What is sealed opens; with one byte turned it does not: plainly. -/
import Derived.Test.YtfbmlefhjoblbaaGreatSmath
import Derived.Test.YtfbmlefhjoblbaaGreatOwn
import Derived.Test.YtfbmlefhjoblbaaGreatPmath
import Derived.Deep.Cut
namespace Go.Proofs.YtfbmlefhjoblbaaGreat
open Go.Conc Go.RowKit
set_option linter.unusedVariables false

/-- A text with a byte of it turned. -/
def turnB (s : ByteArray) (k : Nat) (z : UInt8) : ByteArray := ⟨(s.data.toList.set k z).toArray⟩
theorem turn_list (s : ByteArray) (k : Nat) (z : UInt8) : (turnB s k z).data.toList = s.data.toList.set k z := by unfold turnB; simp
theorem turn_size (s : ByteArray) (k : Nat) (z : UInt8) : (turnB s k z).size = s.size := by
  rw [size_list, turn_list, List.length_set, ← size_list]
theorem turned_no (s : ByteArray) (k : Nat) (z : UInt8) (h : k < (sealB s).data.toList.length) (hz : z ≠ (sealB s).data.toList[k]) : isSealed (turnB (sealB s) k z) = false := by
  rw [← Bool.not_eq_true, sealed_list _ (by rw [turn_size, sealB_size]; omega), turn_size, sealB_size, turn_list, show s.size + 4 - 4 = s.data.toList.length by rw [← size_list]; omega]
  have hl := seal_list s
  generalize (sealB s).data.toList = l at *
  subst hl
  generalize s.data.toList = S at *
  intro e
  by_cases c : k < S.length
  · rw [List.set_append_left _ _ c] at e
    rw [show S.length = (S.set k z).length by simp] at e
    rw [List.drop_left, List.take_left] at e
    have e := fourB_inj (crcN_lt _) (crcN_lt _) e
    rw [List.getElem_append_left c] at hz
    have h1 : S = S.take k ++ S[k] :: S.drop (k + 1) := by rw [List.getElem_cons_drop, List.take_append_drop]
    have h2 : S.set k z = S.take k ++ z :: S.drop (k + 1) := by rw [List.set_eq_take_append_cons_drop, if_pos c]
    rw [h2] at e
    have e2 : crcN (S.take k ++ S[k] :: S.drop (k + 1)) = crcN (S.take k ++ z :: S.drop (k + 1)) := by rw [← h1]; exact e
    exact hz (crcN_turned _ _ _ _ e2).symm
  · rw [List.set_append_right _ _ (by omega)] at e
    rw [List.drop_left, List.take_left] at e
    rw [List.getElem_append_right (by omega)] at hz
    have e := congrArg (fun l : List UInt8 => l[k - S.length]?) e
    rw [List.length_append, fourB_length] at h
    simp only [List.getElem?_set] at e
    rw [if_pos trivial, if_pos (by rw [fourB_length]; omega), List.getElem?_eq_getElem (by rw [fourB_length]; omega)] at e
    exact hz (Option.some.inj e)
theorem turned_openE (s : ByteArray) (k : Nat) (z : UInt8) (h : k < (sealB s).data.toList.length) (hz : z ≠ (sealB s).data.toList[k]) : openE (turnB (sealB s) k z) = 400 := by
  unfold openE; rw [turned_no s k z h hz]; rfl

/-- A text's bytes in new memory: the world behind, and how many cells there are. -/
def capB (t : ByteArray) (w : World) : Nat := grownCap w t.size 0 5
def bytesW (t : ByteArray) (w : World) : World := w.drew.alloc (.cells (bytesRow t (capB t w)) 5 ((bytesRow t (capB t w)).size, (bytesRow t (capB t w)).size + 1))
theorem bytesW_run (t : ByteArray) (w : World) : (convert 9 50 (.string t)).run Tryz.prog w = .ok (.slice (some ⟨w.heap.size, 0, none⟩) t.size (capB t w)) (bytesW t w) :=
  run_bytes_of_string w 9 50 5 t Tryz.underlying9 Tryz.underlying50 Tryz.underlying5
theorem bytesW_below (t : ByteArray) (w : World) : Below w.heap.size w (bytesW t w) := ((Below.refl _ _).drew).alloc (Nat.le_refl _) _
theorem bytesW_block (t : ByteArray) (w : World) : (bytesW t w).heap[w.heap.size]? = some (.cells (bytesRow t (capB t w)) 5 ((bytesRow t (capB t w)).size, (bytesRow t (capB t w)).size + 1)) := heap_alloc_new w.drew _

theorem bytesW_grows (t : ByteArray) (w : World) : w.heap.size < (bytesW t w).heap.size := by
  show w.heap.size < (w.heap.push _).size
  simp
/-- The row with a byte turned, read as a text. -/
theorem turned_back (t : ByteArray) (w u : World) (k : Nat) (z : UInt8) (hk : k < t.data.size) (n : Nat) (hn : t.size = n)
    (hb : Below ((bytesW t w).setCell ⟨w.heap.size, k, none⟩ (.int .u8 (z.toNat : Int))).heap.size ((bytesW t w).setCell ⟨w.heap.size, k, none⟩ (.int .u8 (z.toNat : Int))) u) :
    (convert 50 9 (.slice (some ⟨w.heap.size, 0, none⟩) n (capB t w))).run Tryz.prog u = .ok (.string (turnB t k z)) u := by
  subst hn
  have hrow := bytesW_block t w
  have hg := bytesW_grows t w
  have hbl := hb.block w.heap.size (by simpa [World.setCell] using hg)
  rw [setCell_eq_setRow _ _ _ _ _ _ _ hrow, setRow_heap _ _ _ _ _ _ hrow] at hbl
  have hl : (t.data.toList.set k z).length = t.size := by rw [List.length_set, ← size_list]
  rw [← hl]
  refine run_convert_bytes_back _ 50 9 5 ⟨w.heap.size, 0, none⟩ _ _ Tryz.underlying50 Tryz.underlying5 Tryz.underlying9 (fun j hj => ?_)
  have e : (⟨w.heap.size, 0, none⟩ : Addr).add j = ⟨w.heap.size, j, none⟩ := by
    unfold Addr.add
    by_cases h0 : j = 0
    · simp [h0]
    · simp [h0]
  have hj2 : j < t.data.size := by simpa using hj
  rw [e, cell_of_row _ _ _ _ _ _ hbl, Array.getElem?_setIfInBounds]
  by_cases c : k = j
  · subst c
    rw [if_pos rfl, if_pos (by unfold bytesRow; rw [Array.size_append, Array.size_map]; omega)]
    simp
  · rw [if_neg c, bytesRow_at t _ j hj2]
    simp [List.getElem_set_ne c]
theorem xor_ne (a : UInt8) (v : Nat) (h0 : 0 < v) (h : v < 256) : ∃ z : UInt8, bits .xor .u8 (a.toNat : Int) (v : Int) = (z.toNat : Int) ∧ z ≠ a := by
  refine ⟨a ^^^ UInt8.ofNat v, ?_, ?_⟩
  · rw [u8_xor_nat a.toNat v a.toNat_lt h, UInt8.toNat_xor, UInt8.toNat_ofNat_of_lt' (by show _ < 256; omega)]
  · intro e
    have e := congrArg UInt8.toNat e
    rw [UInt8.toNat_xor, UInt8.toNat_ofNat_of_lt' (by show _ < 256; omega)] at e
    have : v = 0 := xorL (c := a.toNat) (by rw [Nat.xor_zero]; exact e)
    omega
theorem bytesW_cell (X : ByteArray) (k : Nat) (hk : k < X.data.size) (W : World) : (bytesW X W).cell? ⟨W.heap.size, k, none⟩ = some (.int .u8 (X.data[k].toNat : Int)) := (cell_of_row _ _ _ _ _ _ (bytesW_block X W)).trans (bytesRow_at X _ k hk)
theorem bytesW_froz (X : ByteArray) (k : Nat) (hk : k < X.data.size) (W : World) : (bytesW X W).frozen? ⟨W.heap.size, k, none⟩ = false := by
  simp only [World.frozen?, bytesW_block X W]
  have : k < (bytesRow X (capB X W)).size := by unfold bytesRow; rw [Array.size_append, Array.size_map]; omega
  rw [decide_eq_false (by omega)]
  rfl
end Go.Proofs.YtfbmlefhjoblbaaGreat
