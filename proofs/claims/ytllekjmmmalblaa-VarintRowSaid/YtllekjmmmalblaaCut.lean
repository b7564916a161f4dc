/- A number's parts: the program's way, by an array of ten bytes. -/
import Derived.Test.YtllekjmmmalblaaVmath
import Derived.Test.YtllekjmmmalblaaBytes
import Derived.Test.YtllekjmmmalblaaBits
import Derived.Below
import Derived.Laws.Tables
namespace Go.Proofs.Ytllekjmmmalblaa
open Go.RowKit
set_option linter.unusedVariables false

def textB (l : List UInt8) : ByteArray := ⟨l.toArray⟩
theorem textB_list (l : List UInt8) : (textB l).data.toList = l := rfl
theorem textB_size (l : List UInt8) : (textB l).size = l.length := rfl
/-- The array, its first bytes there. -/
def arrV (pre : List UInt8) : Array Value := (byteCells pre ++ List.replicate (10 - pre.length) (Value.int .u8 0)).toArray
theorem arrV_size {pre : List UInt8} (h : pre.length ≤ 10) : (arrV pre).size = 10 := by
  simp [arrV, byteCells]; omega
theorem arrV_set {pre : List UInt8} (h : pre.length < 10) (b : UInt8) : (arrV pre).setIfInBounds pre.length (.int .u8 (b.toNat : Int)) = arrV (pre ++ [b]) := by
  unfold arrV
  obtain ⟨k, hk⟩ : ∃ k, 10 - pre.length = k + 1 := ⟨9 - pre.length, by omega⟩
  rw [hk, show 10 - (pre ++ [b]).length = k by rw [List.length_append, List.length_singleton]; omega, List.replicate_succ]
  rw [List.setIfInBounds_toArray, List.set_append_right _ _ (by simp [byteCells])]
  simp [byteCells]
theorem arrV_zero {pre : List UInt8} (h : pre.length < 10) : (arrV pre)[pre.length]? = some (.int .u8 0) := by
  unfold arrV
  obtain ⟨k, hk⟩ : ∃ k, 10 - pre.length = k + 1 := ⟨9 - pre.length, by omega⟩
  rw [hk, List.getElem?_toArray, List.getElem?_append_right (by simp [byteCells])]
  simp [byteCells, List.replicate_succ]
theorem arrV_get (pre : List UInt8) (j : Nat) (h : j < pre.length) : (arrV pre)[j]? = some (.int .u8 (pre[j].toNat : Int)) := by
  unfold arrV
  rw [List.getElem?_toArray, List.getElem?_append_left (by simpa [byteCells] using h)]
  simp [byteCells, h]
/-- The array's first bytes as a text. -/
theorem arr_back (w : World) (g : Nat) (l : List UInt8) (C : Array Value) (ty : TypeId) (hb : w.heap[g]? = some (.cells C ty (0, 0))) (hC : ∀ j (h : j < l.length), C[j]? = some (.int .u8 (l[j].toNat : Int))) (n c : Nat) (hn : l.length = n) :
    (convert 33 9 (.slice (some ⟨g, 0, none⟩) n c)).run Try.prog w = .ok (.string (textB l)) w := by
  subst hn
  refine run_convert_bytes_back _ 33 9 5 ⟨g, 0, none⟩ _ l Try.underlying33 Try.underlying5 Try.underlying9 (fun j hj => ?_)
  have e : (⟨g, 0, none⟩ : Addr).add j = ⟨g, j, none⟩ := by
    unfold Addr.add
    by_cases h0 : j = 0
    · simp [h0]
    · simp [h0]
  rw [e, cell_of_row _ _ _ _ _ _ hb]
  exact hC j hj

theorem arrLen : Try.prog.arrayLen 45 = 10 := by kernel_rfl
theorem arr_slice (w : World) (g k : Nat) (h : k + 1 ≤ 10) :
    (Instr.sliceAt 45 (.pointer (some ⟨g, 0, none⟩)) none (some (.int .i64 ((k : Int) + 1))) none).run Try.prog w = .ok (.slice (some ⟨g, 0, none⟩) (k + 1) 10) w := by
  have e := run_sliceAt_array_h (P := Try.prog) w 45 ⟨g, 0, none⟩ Try.underlying45 .i64 ((k : Int) + 1) (by omega) (by rw [arrLen]; omega)
  rw [e]
  simp [go_sem]

theorem low7 (m : Nat) (h : m < 18446744073709551616) : bits .and .u64 (m : Int) 127 = (m : Int) % 128 := by
  have := u64_and_nat m 127 h (by omega)
  rw [show ((127 : Nat) : Int) = 127 from rfl] at this
  rw [this, show (127 : Nat) = 2 ^ 7 - 1 from rfl, Nat.and_two_pow_sub_one_eq_mod]
  rfl
theorem mark7 (m : Nat) : bits .or .u64 ((m : Int) % 128) 128 = 128 + (m : Int) % 128 := by
  have := u64_or_nat 128 (m % 128) (by omega) (by omega)
  rw [nat_join 7 128 (m % 128) (by omega) (by omega)] at this
  have h2 := u64_or_nat (m % 128) 128 (by omega) (by omega)
  rw [Nat.or_comm, nat_join 7 128 (m % 128) (by omega) (by omega)] at h2
  exact h2

set_option maxRecDepth 100000 in
set_option maxHeartbeats 1000000 in
theorem vcut_any (n : Nat) (h : n < 18446744073709551616) (w : World) : Calls Try.prog 17 #[.int .u64 (n : Int)] w fun e w' => e = .returned (.string (textB (vp n))) ∧ Below w.heap.size w w' := by
  go_enter Try.func17, Try.ntmps17
  go_wp2
  go_loopw [0, 4] (fun mv kv wr => ∃ (pre : List UInt8) (f m : Nat), vp n = pre ++ vpf f m ∧ f + pre.length = 9 ∧ m < 2 * 128 ^ f ∧ m < 18446744073709551616 ∧ mv = .int .u64 m ∧ kv = .int .i64 pre.length ∧ wr.heap[w.heap.size]? = some (.cells (arrV pre) 45 (0, 0)) ∧ Below w.heap.size w wr) (fun mv _ _ => (intOf mv).toNat)
  case atStart => exact ⟨[], 9, n, rfl, rfl, by omega, h, rfl, rfl, heap_alloc_new _ _, (Below.refl _ _).alloc (Nat.le_refl _) _⟩
  case round =>
    obtain ⟨pre, f, m, he, hf, hm, hm2, rfl, rfl, hb, hbl⟩ := hrel
    have HB := Lib.hid hb
    have HL := Lib.hid hbl
    clear hbl
    have hsz := arrV_size (pre := pre) (by omega)
    have hc := (cell_of_row wr w.heap.size pre.length _ _ _ hb).trans (arrV_zero (by omega))
    have hz := frozen_of_row wr w.heap.size pre.length _ _ hb
    clear hb
    have hlt : (w.heap.size : Nat) < wr.heap.size := (Array.getElem?_eq_some_iff.1 HB.out).1
    by_cases c : m < 128
    · have e3 := arr_slice (wr.setCell ⟨w.heap.size, pre.length, none⟩ (.int .u8 (m : Int))) w.heap.size pre.length (by omega)
      have e4 := u8_toNat m (by omega)
      have hv : vpf f m = [Go.Proofs.Ytllekjmmmalblaa.u8 m] := by
        cases f with
        | zero => rfl
        | succ f => exact if_pos c
      have hb2 : (wr.setCell ⟨w.heap.size, pre.length, none⟩ (.int .u8 (m : Int))).heap[w.heap.size]? = some (.cells (arrV (pre ++ [Go.Proofs.Ytllekjmmmalblaa.u8 m])) 45 (0, 0)) := by
        rw [← arrV_set (by omega), e4]
        exact heap_setCell_same _ _ _ _ _ _ HB.out
      have e5 := arr_back _ _ (pre ++ [Go.Proofs.Ytllekjmmmalblaa.u8 m]) _ _ hb2 (fun j h => arrV_get _ j h) (pre.length + 1) 10 (by simp)
      clear hb2
      rw [hv] at he
      go_wp2
      go_ret
      exact ⟨by rw [he]; rfl, HL.out.setCell (Nat.le_refl _) _⟩
    · have f0 : f ≠ 0 := by
        intro e
        subst e
        simp at hm
        omega
      obtain ⟨f, rfl⟩ : ∃ j, f = j + 1 := ⟨f - 1, by omega⟩
      have e1 := low7 m hm2
      have e2 := mark7 m
      have e4 := u8_toNat (128 + m % 128) (by omega)
      go_wp2
      go_roundw
      case rel =>
        refine ⟨pre ++ [Go.Proofs.Ytllekjmmmalblaa.u8 (128 + m % 128)], f, m / 128, ?_, by simp; omega, ?_, by omega, by congr 1, by simp, ?_, HL.out.setCell (Nat.le_refl _) _⟩
        · rw [he, vpf, if_neg c, List.append_assoc]; rfl
        · rw [Nat.pow_succ] at hm; omega
        · rw [← arrV_set (by omega), e4]
          exact heap_setCell_same _ _ _ _ _ _ HB.out
      case measure => simp [intOf]; omega
end Go.Proofs.Ytllekjmmmalblaa
