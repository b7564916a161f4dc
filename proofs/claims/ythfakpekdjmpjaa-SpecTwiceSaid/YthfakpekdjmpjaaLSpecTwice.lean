/- A value cut twice, and its bucket: every value, every number. -/
import Derived.Test.YthfakpekdjmpjaaLTwice
namespace Go.Proofs.Ythfakpekdjmpjaa
open Go.Conc Go.RowKit
set_option linter.unusedVariables false
set_option linter.unusedSimpArgs false

theorem ap_bucket (p : V) (hp : plainV p = p) {K : Int} (h1 : 1 ≤ K) (h2 : K ≤ 1024) : applyA ⟨0, 1, K⟩ p = (madeP ⟨0, 1, K⟩ p, 0) := by
  unfold applyA madeV
  rw [hp, if_neg]
  show ¬ takesB ⟨0, 1, K⟩ p.k = false
  have : takesB ⟨0, 1, K⟩ p.k = true := by simp [takesB, paramB, h1, h2]
  rw [this]; simp
theorem ap_cut (p : V) (hp : plainV p = p) (hk : p.k ≠ 2) {K : Int} (h1 : 1 ≤ K) (h2 : K ≤ 1024) : applyA ⟨0, 2, K⟩ p = (madeP ⟨0, 2, K⟩ p, 0) := by
  unfold applyA madeV
  rw [hp, if_neg]
  have : takesB ⟨0, 2, K⟩ p.k = true := by simp [takesB, paramB, h1, h2, hk]
  rw [this]; simp
theorem ap_no (p : V) (hk : p.k = 2) {K : Int} : applyA ⟨0, 2, K⟩ p = (zeroVal, 1300) := by
  unfold applyA
  rw [if_pos]
  simp [takesB, hk]
theorem ord_int (i j : Int) (h : i ≤ j) : ordV ⟨1, i, false, ByteArray.empty⟩ ⟨1, j, false, ByteArray.empty⟩ ≤ 0 := by
  have hk : ∀ x : Int, kindV ⟨1, x, false, ByteArray.empty⟩ = 1 := fun x => rfl
  unfold ordV
  simp only [hk]
  rw [if_neg (by omega), if_neg (by omega), if_pos trivial]
  split
  · omega
  · rw [if_neg (by omega)]; omega
theorem ord_text (a b : ByteArray) (h : ¬ cmpK b a < 0) : ordV ⟨3, 0, false, a⟩ ⟨3, 0, false, b⟩ ≤ 0 := by
  have hk : ∀ x : ByteArray, kindV ⟨3, 0, false, x⟩ = 3 := fun x => rfl
  unfold ordV
  simp only [hk]
  rw [if_neg (by omega), if_neg (by omega), if_neg (by omega), if_neg (by omega), if_pos trivial]
  split
  · omega
  · omega
theorem spectwice_walk (v : V) (par : Int) (hp1 : -9223372036854775808 ≤ par) (hp2 : par < 9223372036854775808) {W : World} (hs : v.s.size ≤ 140737488351232) (hk : -9223372036854775808 ≤ v.k ∧ v.k < 9223372036854775808) (hi : -9223372036854775808 ≤ v.i ∧ v.i < 9223372036854775808) :
    Calls Try.prog 9 #[.agg #[.int .i64 v.k, .int .i64 v.i, .bool v.b, .string v.s], .int .i64 par] W fun e w' => e = .returned (.bool true) ∧ Below W.heap.size W w' := by
  obtain ⟨K, hK⟩ : ∃ K, K = 1 + par % 1024 := ⟨_, rfl⟩
  have h1 : 1 ≤ K := by omega
  have h2 : K ≤ 1024 := by omega
  have h0 : (0 : Int) < K := by omega
  have zr : -9223372036854775808 ≤ (0 : Int) ∧ (0 : Int) < 9223372036854775808 := by omega
  have z8 : ByteArray.empty.size ≤ 140737488355328 := by decide
  have z9 : ByteArray.empty.size ≤ 9223372036854775807 := by decide
  rcases plain_cases v with e | e | e | e
  · have hp : plainV ⟨1, v.i, false, ByteArray.empty⟩ = ⟨1, v.i, false, ByteArray.empty⟩ := rfl
    have hfl := floorA_range v.i K hi h0
    obtain ⟨fl, hfe⟩ : ∃ fl, fl = floorA v.i K := ⟨_, rfl⟩
    obtain ⟨fm, hme⟩ : ∃ fm, fm = floorA fl K := ⟨_, rfl⟩
    have ef : floorA v.i K = fl := hfe.symm
    have em : floorA fl K = fm := hme.symm
    have eb : madeP ⟨0, 1, K⟩ ⟨1, v.i, false, ByteArray.empty⟩ = ⟨1, (crcN (bytesV ⟨1, v.i, false, ByteArray.empty⟩).data.toList : Int) % K, false, ByteArray.empty⟩ := by simp [madeP]
    have et : madeP ⟨0, 2, K⟩ ⟨1, v.i, false, ByteArray.empty⟩ = ⟨1, fl, false, ByteArray.empty⟩ := by simp [madeP, ef]
    have eu : madeP ⟨0, 2, K⟩ ⟨1, fl, false, ByteArray.empty⟩ = ⟨1, fm, false, ByteArray.empty⟩ := by simp [madeP, em]
    have T1 := fun w => apply_any ⟨0, 1, K⟩ ⟨1, v.i, false, ByteArray.empty⟩ hi z8 w
    rw [ap_bucket _ hp h1 h2, eb] at T1
    have T2 := fun w => apply_any ⟨0, 2, K⟩ ⟨1, v.i, false, ByteArray.empty⟩ hi z8 w
    rw [ap_cut _ hp (by simp) h1 h2, et] at T2
    have T3 := fun w => apply_any ⟨0, 2, K⟩ ⟨1, fl, false, ByteArray.empty⟩ (by rw [hfe]; exact hfl) z8 w
    rw [ap_cut _ rfl (by simp) h1 h2, eu] at T3
    have T0 := fun w => rclean_any v w
    rw [e] at T0
    have hle : fl ≤ v.i := by rw [hfe]; exact floorA_le v.i K hi.1 h0
    have T4 := fun w => rcmp_any ⟨1, fl, false, ByteArray.empty⟩ ⟨1, v.i, false, ByteArray.empty⟩ z9 z9 w
    have hor := ord_int fl v.i hle
    have hc0 := Int.emod_nonneg (crcN (bytesV ⟨1, v.i, false, ByteArray.empty⟩).data.toList : Int) (show K ≠ 0 by omega)
    have hc1 := Int.emod_lt_of_pos (crcN (bytesV ⟨1, v.i, false, ByteArray.empty⟩).data.toList : Int) h0
    by_cases hf : fm = fl
    · rw [hf] at T3
      exact spectwice_int v par ⟨hp1, hp2⟩ K hK v.i fl _ hc0 hc1 T0 T1 T2 T3 _ hor T4
    · have hm : fl = -9223372036854775808 := by
        rcases floorA_twice v.i K hi.1 h0 with h | h
        · rw [ef, em] at h; exact absurd h hf
        · rw [ef] at h; exact h
      rw [hm] at T2 T3 T4 hor
      exact spectwice_least v par ⟨hp1, hp2⟩ K hK v.i fm (by rw [← hm]; exact hf) _ hc0 hc1 T0 T1 T2 T3 _ hor T4
  · have hp : plainV ⟨2, 0, v.b, ByteArray.empty⟩ = ⟨2, 0, v.b, ByteArray.empty⟩ := rfl
    have eb : madeP ⟨0, 1, K⟩ ⟨2, 0, v.b, ByteArray.empty⟩ = ⟨1, (crcN (bytesV ⟨2, 0, v.b, ByteArray.empty⟩).data.toList : Int) % K, false, ByteArray.empty⟩ := by simp [madeP]
    have T1 := fun w => apply_any ⟨0, 1, K⟩ ⟨2, 0, v.b, ByteArray.empty⟩ zr z8 w
    rw [ap_bucket _ hp h1 h2, eb] at T1
    have T2 := fun w => apply_any ⟨0, 2, K⟩ ⟨2, 0, v.b, ByteArray.empty⟩ zr z8 w
    rw [ap_no _ rfl] at T2
    have T0 := fun w => rclean_any v w
    rw [e] at T0
    have hc0 := Int.emod_nonneg (crcN (bytesV ⟨2, 0, v.b, ByteArray.empty⟩).data.toList : Int) (show K ≠ 0 by omega)
    have hc1 := Int.emod_lt_of_pos (crcN (bytesV ⟨2, 0, v.b, ByteArray.empty⟩).data.toList : Int) h0
    exact spectwice_truth v par ⟨hp1, hp2⟩ K hK v.b _ hc0 hc1 T0 T1 T2
  · have hp : plainV ⟨3, 0, false, v.s⟩ = ⟨3, 0, false, v.s⟩ := rfl
    have eb : madeP ⟨0, 1, K⟩ ⟨3, 0, false, v.s⟩ = ⟨1, (crcN (bytesV ⟨3, 0, false, v.s⟩).data.toList : Int) % K, false, ByteArray.empty⟩ := by simp [madeP]
    obtain ⟨cs, hcs⟩ : ∃ cs, cs = cutT v.s K.toNat := ⟨_, rfl⟩
    have ec : cutT v.s K.toNat = cs := hcs.symm
    have ec2 : cutT cs K.toNat = cs := by rw [hcs]; exact cutT_twice _ _
    have hsz : cs.size ≤ 140737488355328 := by rw [hcs]; have := cutT_size v.s K.toNat; omega
    have et : madeP ⟨0, 2, K⟩ ⟨3, 0, false, v.s⟩ = ⟨3, 0, false, cs⟩ := by simp [madeP, ec]
    have eu : madeP ⟨0, 2, K⟩ ⟨3, 0, false, cs⟩ = ⟨3, 0, false, cs⟩ := by simp [madeP, ec2]
    have T1 := fun w => apply_any ⟨0, 1, K⟩ ⟨3, 0, false, v.s⟩ zr (by show v.s.size ≤ _; omega) w
    rw [ap_bucket _ hp h1 h2, eb] at T1
    have T2 := fun w => apply_any ⟨0, 2, K⟩ ⟨3, 0, false, v.s⟩ zr (by show v.s.size ≤ _; omega) w
    rw [ap_cut _ hp (by show (3 : Int) ≠ 2; decide) h1 h2, et] at T2
    have T3 := fun w => apply_any ⟨0, 2, K⟩ ⟨3, 0, false, cs⟩ zr hsz w
    rw [ap_cut _ rfl (by show (3 : Int) ≠ 2; decide) h1 h2, eu] at T3
    have T0 := fun w => rclean_any v w
    rw [e] at T0
    have T4 := fun w => rcmp_any ⟨3, 0, false, cs⟩ ⟨3, 0, false, v.s⟩ (by show cs.size ≤ _; omega) (by show v.s.size ≤ _; omega) w
    have hor := ord_text cs v.s (by
      show ¬ cmpL v.s.data.toList cs.data.toList < 0
      rw [hcs, cutT_list]; exact cmpL_take _ _)
    have hc0 := Int.emod_nonneg (crcN (bytesV ⟨3, 0, false, v.s⟩).data.toList : Int) (show K ≠ 0 by omega)
    have hc1 := Int.emod_lt_of_pos (crcN (bytesV ⟨3, 0, false, v.s⟩).data.toList : Int) h0
    exact spectwice_text v par ⟨hp1, hp2⟩ K hK v.s cs _ hc0 hc1 T0 T1 T2 T3 _ hor T4
  · have e : plainV v = ⟨0, 0, false, ByteArray.empty⟩ := e
    have hp : plainV ⟨0, 0, false, ByteArray.empty⟩ = ⟨0, 0, false, ByteArray.empty⟩ := rfl
    have eb : madeP ⟨0, 1, K⟩ ⟨0, 0, false, ByteArray.empty⟩ = ⟨0, 0, false, ByteArray.empty⟩ := by simp [madeP]
    have et : madeP ⟨0, 2, K⟩ ⟨0, 0, false, ByteArray.empty⟩ = ⟨0, 0, false, ByteArray.empty⟩ := by simp [madeP]
    have T1 := fun w => apply_any ⟨0, 1, K⟩ ⟨0, 0, false, ByteArray.empty⟩ zr z8 w
    rw [ap_bucket _ hp h1 h2, eb] at T1
    have T2 := fun w => apply_any ⟨0, 2, K⟩ ⟨0, 0, false, ByteArray.empty⟩ zr z8 w
    rw [ap_cut _ hp (by simp) h1 h2, et] at T2
    have T0 := fun w => rclean_any v w
    rw [e] at T0
    have T4 := fun w => rcmp_any ⟨0, 0, false, ByteArray.empty⟩ ⟨0, 0, false, ByteArray.empty⟩ z9 z9 w
    exact spectwice_null v par ⟨hp1, hp2⟩ K hK T0 T1 T2 T2 _ (by decide) T4
end Go.Proofs.Ythfakpekdjmpjaa
