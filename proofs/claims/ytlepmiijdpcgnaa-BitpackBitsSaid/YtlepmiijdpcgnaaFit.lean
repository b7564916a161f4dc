/- Does each number fit? -/
import Derived.Test.YtlepmiijdpcgnaaWin
namespace Go.Proofs.Ytlepmiijdpcgnaa
open Go.Conc Go.RowKit
set_option linter.unusedVariables false

/-- Each number is one of at most w bits. -/
def fits (w : Nat) (xs : List Int) : Prop := ∀ x ∈ xs, 0 ≤ x ∧ x < 2 ^ w
instance (w : Nat) (xs : List Int) : Decidable (fits w xs) := by unfold fits; infer_instance
theorem fits_nil (w : Nat) : fits w [] := fun x h => by simp at h
theorem fits_snoc {w : Nat} {xs : List Int} {x : Int} (h : fits w xs) (h0 : 0 ≤ x) (h1 : wid x.toNat ≤ w) : fits w (xs ++ [x]) := by
  intro y hy
  rcases List.mem_append.1 hy with hy | hy
  · exact h y hy
  · simp at hy
    subst hy
    refine ⟨h0, ?_⟩
    have h2 := (wid_le w y.toNat).1 h1
    have h3 : ((2 : Int) ^ w) = ((2 ^ w : Nat) : Int) := by simp
    rw [h3]; omega
theorem not_fits {w : Nat} {xs : List Int} {x : Int} (hx : x ∈ xs) (h : x < 0 ∨ ¬ wid x.toNat ≤ w) : ¬ fits w xs := by
  intro hf
  obtain ⟨h0, h1⟩ := hf x hx
  rcases h with h | h
  · omega
  · have h3 : ((2 : Int) ^ w) = ((2 ^ w : Nat) : Int) := by simp
    rw [h3] at h1
    exact h ((wid_le w x.toNat).2 (by omega))

set_option maxRecDepth 100000 in
theorem kfit_any (w : World) (a : Option Addr) (cap k : Nat) (hk : k ≤ 16) (xs : List Int) (ha : IsL w a xs) (hx : xs.length ≤ maxLen) (hb : ∀ x ∈ xs, x < 9223372036854775808) :
    Calls Try.prog 20 #[.slice a xs.length cap, .int .i64 k] w fun e w' => e = .returned (.bool (decide (fits k xs))) ∧ w = w' := by
  unfold maxLen at hx
  obtain ⟨R, hR⟩ : ∃ R, R = decide (fits k xs) := ⟨_, rfl⟩
  rw [← hR]
  have HR := Lib.hid hR
  have HB := Lib.hid hb
  clear hR hb
  go_enter Try.func20, Try.ntmps20
  go_wp2
  go_loop [9] (fun iv => ∃ n : Nat, n ≤ xs.length ∧ iv = .int .i64 n ∧ Hid (fits k (xs.take n))) (fun iv => xs.length - (intOf iv).toNat)
  case atStart => exact ⟨0, Nat.zero_le _, rfl, fits_nil k⟩
  case round =>
    obtain ⟨n, hle, rfl, HF⟩ := hrel
    by_cases c : n < xs.length
    · rcases ha with h | ⟨b, off, rfl, h⟩
      · subst h; simp at c
      have h1 := h n c
      have hm : xs[n] ∈ xs := List.getElem_mem c
      have HM := Lib.hid hm
      have hxb := HB.out _ hm
      have hx2 : xs.take (n + 1) = xs.take n ++ [xs[n]] := (List.take_append_getElem c).symm
      have HX2 := Lib.hid hx2
      have T := Lib.hid (kwidth_any xs[n] hxb w)
      clear hx2 h hm
      generalize xs[n] = x at *
      by_cases c0 : x < 0
      · have hf : R = false := by rw [HR.out, decide_eq_false (not_fits HM.out (.inl c0))]
        subst hf
        go_wp2
        go_ret
        exact ⟨rfl, rfl⟩
      · generalize hz : wid x.toNat = z at *
        have HZ := Lib.hid hz
        clear hz
        by_cases c1 : z ≤ k
        · have d1 : decide ((k : Int) < (z : Int)) = false := decide_eq_false (by omega)
          go_wp2_with (go_at_call 14; refine T.out.mono ?_; rintro e w' ⟨rfl, rfl⟩)
          go_round
          case rel => exact ⟨n + 1, by omega, by go_num, Lib.hid (by rw [HX2.out]; exact fits_snoc HF.out (by omega) (by rw [HZ.out]; exact c1))⟩
          case measure => simp [intOf]; omega
        · have hf : R = false := by rw [HR.out, decide_eq_false (not_fits HM.out (.inr (by rw [HZ.out]; exact c1)))]
          subst hf
          have d1 : (k : Int) < (z : Int) := by omega
          go_wp2_with (go_at_call 14; refine T.out.mono ?_; rintro e w' ⟨rfl, rfl⟩)
          go_ret
          exact ⟨rfl, rfl⟩
    · obtain rfl : n = xs.length := by omega
      have ht : R = true := by
        have h1 := HF.out
        rw [List.take_length] at h1
        rw [HR.out, decide_eq_true h1]
      subst ht
      clear c
      go_wp2
      go_ret
      exact ⟨rfl, rfl⟩
end Go.Proofs.Ytlepmiijdpcgnaa
