/- Parts joined, and the number at a place: the program's way. -/
import Derived.Test.YtllekjmmmalblaaCut
import Derived.Deep.QuietTactic
namespace Go.Proofs.Ytllekjmmmalblaa
open Go.RowKit
set_option linter.unusedVariables false

theorem size_list (s : ByteArray) : s.size = s.data.toList.length := (Array.length_toList).symm
theorem get_list (s : ByteArray) (j : Nat) (h : j < s.size) : s.data.toList[j]'(by rw [← size_list]; exact h) = s[j] := by
  rw [Array.getElem_toList]; rfl
theorem vd_step (s : ByteArray) (j : Nat) (h : j < s.size) : vval (s.data.toList.drop j) = s[j].toNat % 128 + 128 * vval (s.data.toList.drop (j + 1)) := by
  rw [vval_drop _ j (by rw [← size_list]; exact h), get_list s j h]
theorem vd_end (s : ByteArray) (j : Nat) (h : s.size ≤ j) : vval (s.data.toList.drop j) = 0 := by
  rw [List.drop_of_length_le (by rw [← size_list]; exact h)]; rfl
theorem last_list (s : ByteArray) (k : Nat) (hk : s.size = k + 1) : (s.data.toList.getD (s.data.toList.length - 1) 0).toNat = (s[k]'(by omega)).toNat := by
  have hsl := size_list s
  rw [List.getD_eq_getElem?_getD, show s.data.toList.length - 1 = k by omega, List.getElem?_eq_getElem (by omega), get_list s k (by omega)]
  rfl
/-- Parts of which no number is. -/
def jbad (l : List UInt8) : Prop := (1 < l.length ∧ (l.getD (l.length - 1) 0).toNat = 0) ∨ 18446744073709551616 ≤ vval l
instance (l : List UInt8) : Decidable (jbad l) := by unfold jbad; infer_instance
/-- The number that is cut into parts, and whether there is one. -/
def jn (l : List UInt8) : Nat × Bool := if jbad l then (0, false) else (vval l, true)
theorem low7b (b : UInt8) : bits .and .u8 (b.toNat : Int) 127 = (b.toNat : Int) % 128 := by
  have := u8_and_nat b.toNat 127 b.toNat_lt (by omega)
  rw [show ((127 : Nat) : Int) = 127 from rfl] at this
  rw [this, show (127 : Nat) = 2 ^ 7 - 1 from rfl, Nat.and_two_pow_sub_one_eq_mod]
  rfl
theorem join7 (y b : Nat) (h : y < 144115188075855872) : bits .or .u64 ((y : Int) * 128) ((b : Int) % 128) = (b : Int) % 128 + 128 * (y : Int) := by
  have := u64_or_nat (y * 128) (b % 128) (by omega) (by omega)
  rw [nat_join 7 (y * 128) (b % 128) (by omega) (by omega)] at this
  rw [show (((b % 128 : Nat)) : Int) = (b : Int) % 128 from rfl, show ((y * 128 : Nat) : Int) = (y : Int) * 128 by omega] at this
  rw [this]
  omega

set_option maxRecDepth 100000 in
set_option maxHeartbeats 1000000 in
theorem vjoin_any (s : ByteArray) (h0 : 0 < s.size) (hs : s.size ≤ 281474976710656) (w : World) : Calls Try.prog 21 #[.string s] w fun e w' =>
    e = .returned (.tuple #[.int .u64 ((jn s.data.toList).1 : Int), .bool (jn s.data.toList).2]) ∧ w = w' := by
  have hsl := size_list s
  obtain ⟨k, hk⟩ : ∃ k, s.size = k + 1 := ⟨s.size - 1, by omega⟩
  have hlast := last_list s k hk
  have hkk : k < s.size := by omega
  have e0 : (s.size : Int) - 1 = (k : Int) := by omega
  by_cases c : 0 < k ∧ s[k].toNat = 0
  · have hj : jbad s.data.toList := .inl ⟨by omega, by rw [hlast]; exact c.2⟩
    have hr : jn s.data.toList = (0, false) := if_pos hj
    rw [hr]
    obtain ⟨c1, c2⟩ := c
    clear hj hlast hsl
    have c3 : (0 : Int) < k := by omega
    go_enter Try.func21, Try.ntmps21
    go_wp2
    go_ret2
    exact ⟨rfl, rfl⟩
  · have hj : jbad s.data.toList ↔ 18446744073709551616 ≤ vval s.data.toList := by
      unfold jbad
      rw [hlast, ← hsl]
      constructor
      · rintro (⟨h1, h2⟩ | h2)
        · exact absurd ⟨by omega, h2⟩ c
        · exact h2
      · exact .inr
    have HJ := Lib.hid hj
    clear hj hlast hsl
    by_cases c4 : 0 < k
    · have c5 : ¬ s[k].toNat = 0 := fun x => c ⟨c4, x⟩
      have c3 : (0 : Int) < k := by omega
      have c6 : ((s[k].toNat : Int) == 0) = false := by rw [beq_eq_false_iff_ne]; omega
      clear c
      go_enter Try.func21, Try.ntmps21
      go_wp2
      go_loop [5, 6] (fun yv iv => ∃ j v : Nat, j ≤ s.size ∧ v < 18446744073709551616 ∧ iv = .int .i64 ((j : Int) - 1) ∧ yv = .int .u64 v ∧ v = vval (s.data.toList.drop j)) (fun _ iv => (intOf iv + 1).toNat)
      case atStart => exact ⟨s.size, 0, by omega, by omega, by congr 1; omega, rfl, (vd_end s _ (Nat.le_refl _)).symm⟩
      case round =>
        obtain ⟨j, v, hj, hv, rfl, rfl, e⟩ := hrel
        by_cases cj : j = 0
        · subst cj
          have hnb : ¬ jbad s.data.toList := by
            rw [HJ.out]
            have e : v = vval s.data.toList := e
            omega
          have e : v = vval s.data.toList := e
          have hr : jn s.data.toList = (v, true) := by rw [e]; exact if_neg hnb
          clear hnb e
          go_wp2
          go_ret2
          exact ⟨rfl, rfl⟩
        · obtain ⟨j, rfl⟩ : ∃ m, j = m + 1 := ⟨j - 1, by omega⟩
          have ej : (((j + 1 : Nat) : Int)) - 1 = (j : Int) := by omega
          rw [ej]
          have hjs : j < s.size := by omega
          have ed := vd_step s j hjs
          rw [← e] at ed
          by_cases cv : v < 144115188075855872
          · have e1 := low7b s[j]
            have e2 := join7 v s[j].toNat cv
            clear e
            go_wp2
            go_round
            case rel => exact ⟨j, s[j].toNat % 128 + 128 * v, by omega, by omega, rfl, rfl, ed.symm⟩
            case measure => simp [intOf]
          · have hb : jbad s.data.toList := by
              rw [HJ.out]
              have := vval_drop_le s.data.toList j
              omega
            have hr : jn s.data.toList = (0, false) := if_pos hb
            clear hb e ed
            have cv2 : 0 < v / 144115188075855872 := by omega
            go_wp2
            go_ret2
            exact ⟨rfl, rfl⟩
    · obtain rfl : k = 0 := by omega
      clear c c4
      go_enter Try.func21, Try.ntmps21
      go_wp2
      go_loop [5, 6] (fun yv iv => ∃ j v : Nat, j ≤ s.size ∧ v < 18446744073709551616 ∧ iv = .int .i64 ((j : Int) - 1) ∧ yv = .int .u64 v ∧ v = vval (s.data.toList.drop j)) (fun _ iv => (intOf iv + 1).toNat)
      case atStart => exact ⟨s.size, 0, by omega, by omega, by congr 1; omega, rfl, (vd_end s _ (Nat.le_refl _)).symm⟩
      case round =>
        obtain ⟨j, v, hj, hv, rfl, rfl, e⟩ := hrel
        by_cases cj : j = 0
        · subst cj
          have hnb : ¬ jbad s.data.toList := by
            rw [HJ.out]
            have e : v = vval s.data.toList := e
            omega
          have e : v = vval s.data.toList := e
          have hr : jn s.data.toList = (v, true) := by rw [e]; exact if_neg hnb
          clear hnb e
          go_wp2
          go_ret2
          exact ⟨rfl, rfl⟩
        · obtain ⟨j, rfl⟩ : ∃ m, j = m + 1 := ⟨j - 1, by omega⟩
          have ej : (((j + 1 : Nat) : Int)) - 1 = (j : Int) := by omega
          rw [ej]
          have hjs : j < s.size := by omega
          have ed := vd_step s j hjs
          rw [← e] at ed
          by_cases cv : v < 144115188075855872
          · have e1 := low7b s[j]
            have e2 := join7 v s[j].toNat cv
            clear e
            go_wp2
            go_round
            case rel => exact ⟨j, s[j].toNat % 128 + 128 * v, by omega, by omega, rfl, rfl, ed.symm⟩
            case measure => simp [intOf]
          · have hb : jbad s.data.toList := by
              rw [HJ.out]
              have := vval_drop_le s.data.toList j
              omega
            have hr : jn s.data.toList = (0, false) := if_pos hb
            clear hb e ed
            have cv2 : 0 < v / 144115188075855872 := by omega
            go_wp2
            go_ret2
            exact ⟨rfl, rfl⟩
end Go.Proofs.Ytllekjmmmalblaa
