/- What is sealed opens; with one byte turned it does not: plainly. -/
import Derived.Test.YtchgicgekfbdeaaOpen
namespace Go.Proofs.Ytchgicgekfbdeaa
open Go.RowKit
set_option linter.unusedVariables false

theorem ahead_list (s : ByteArray) : (ahead s).data.toList = s.data.toList.take (s.size - 4) := by
  unfold ahead
  simp
theorem behind_list (s : ByteArray) : (behind s).data.toList = s.data.toList.drop (s.size - 4) := by
  have e : (s.data.toList.drop (s.size - 4)).take (s.size - (s.size - 4)) = s.data.toList.drop (s.size - 4) := by
    apply List.take_of_length_le
    rw [List.length_drop, Array.length_toList]
    exact Nat.le_refl _
  rw [← e]
  unfold behind
  rw [ByteArray.data_extract, Array.toList_extract]
theorem bytes_eq {a b : ByteArray} (h : a.data.toList = b.data.toList) : a = b := by
  cases a; cases b
  simpa using h
theorem sealed_list (s : ByteArray) (h : 4 ≤ s.size) : isSealed s = true ↔ s.data.toList.drop (s.size - 4) = fourB (crcN (s.data.toList.take (s.size - 4))) := by
  unfold isSealed
  rw [decide_eq_true h, ahead_list, ← behind_list]
  simp only [Bool.true_and, decide_eq_true_eq]
  constructor
  · intro e
    rw [e]
    rfl
  · intro e
    exact bytes_eq e
theorem seal_list (s : ByteArray) : (sealB s).data.toList = s.data.toList ++ fourB (crcN s.data.toList) := by
  unfold sealB
  rw [ByteArray.data_append, Array.toList_append]
  rfl
theorem fourB_length (n : Nat) : (fourB n).length = 4 := rfl
theorem size_list (s : ByteArray) : s.size = s.data.toList.length := (Array.length_toList).symm
theorem seal_sealed (s : ByteArray) : isSealed (sealB s) = true := by
  rw [sealed_list _ (by rw [sealB_size]; omega), sealB_size, seal_list, show s.size + 4 - 4 = s.data.toList.length by rw [← size_list]; omega]
  rw [List.drop_left, List.take_left]
theorem seal_ahead (s : ByteArray) : ahead (sealB s) = s := by
  apply bytes_eq
  rw [ahead_list, sealB_size, seal_list, show s.size + 4 - 4 = s.data.toList.length by rw [← size_list]; omega, List.take_left]
theorem seal_openT (s : ByteArray) : openT (sealB s) = s := by unfold openT; rw [seal_sealed]; exact seal_ahead s
theorem seal_openE (s : ByteArray) : openE (sealB s) = 0 := by unfold openE; rw [seal_sealed]; rfl

/-- A text with a byte of it turned. -/
def turnB (s : ByteArray) (k : Nat) (z : UInt8) : ByteArray := ⟨(s.data.toList.set k z).toArray⟩
theorem turn_list (s : ByteArray) (k : Nat) (z : UInt8) : (turnB s k z).data.toList = s.data.toList.set k z := by unfold turnB; simp
theorem turn_size (s : ByteArray) (k : Nat) (z : UInt8) : (turnB s k z).size = s.size := by
  rw [size_list, turn_list, List.length_set, ← size_list]
theorem turned_no (s : ByteArray) (k : Nat) (z : UInt8) (h : k < (sealB s).data.toList.length) (hz : z ≠ (sealB s).data.toList[k]) : isSealed (turnB (sealB s) k z) = false := by
  rw [← Bool.not_eq_true, sealed_list _ (by rw [turn_size, sealB_size]; omega), turn_size, sealB_size, turn_list, show s.size + 4 - 4 = s.data.toList.length by rw [← size_list]; omega]
  have hl := seal_list s
  generalize (sealB s).data.toList = l at *
  subst hl
  generalize s.data.toList = S at *
  intro e
  by_cases c : k < S.length
  · rw [List.set_append_left _ _ c] at e
    rw [show S.length = (S.set k z).length by simp] at e
    rw [List.drop_left, List.take_left] at e
    have e := fourB_inj (crcN_lt _) (crcN_lt _) e
    rw [List.getElem_append_left c] at hz
    have h1 : S = S.take k ++ S[k] :: S.drop (k + 1) := by rw [List.getElem_cons_drop, List.take_append_drop]
    have h2 : S.set k z = S.take k ++ z :: S.drop (k + 1) := by rw [List.set_eq_take_append_cons_drop, if_pos c]
    rw [h2] at e
    have e2 : crcN (S.take k ++ S[k] :: S.drop (k + 1)) = crcN (S.take k ++ z :: S.drop (k + 1)) := by rw [← h1]; exact e
    exact hz (crcN_turned _ _ _ _ e2).symm
  · rw [List.set_append_right _ _ (by omega)] at e
    rw [List.drop_left, List.take_left] at e
    rw [List.getElem_append_right (by omega)] at hz
    have e := congrArg (fun l : List UInt8 => l[k - S.length]?) e
    rw [List.length_append, fourB_length] at h
    simp only [List.getElem?_set] at e
    rw [if_pos trivial, if_pos (by rw [fourB_length]; omega), List.getElem?_eq_getElem (by rw [fourB_length]; omega)] at e
    exact hz (Option.some.inj e)
theorem turned_openE (s : ByteArray) (k : Nat) (z : UInt8) (h : k < (sealB s).data.toList.length) (hz : z ≠ (sealB s).data.toList[k]) : openE (turnB (sealB s) k z) = 400 := by
  unfold openE; rw [turned_no s k z h hz]; rfl
end Go.Proofs.Ytchgicgekfbdeaa
