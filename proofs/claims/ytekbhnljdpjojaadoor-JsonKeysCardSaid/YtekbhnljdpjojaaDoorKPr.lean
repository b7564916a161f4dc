/- Print of the law's object, with and without a doubled key. -/
import Derived.Test.YtekbhnljdpjojaaDoorKGet
namespace Go.Proofs.YtekbhnljdpjojaaDoor
open Go.Conc Go.RowKit Go.Maps Go.WideMaps
set_option linter.unusedVariables false
set_option linter.unusedSimpArgs false

theorem kKey_size (i : Nat) (h : i < 9) : (kKey i).size ≤ 4000000 := by
  have h1 := Lib.itoa_length_le (i : Int) (by omega) (by omega)
  unfold kKey
  rw [ByteArray.size_append]
  have h2 : (ByteArray.mk (Lib.itoa (i : Int)).toArray).size = (Lib.itoa (i : Int)).length := by simp [ByteArray.size]
  have h3 : (ByteArray.mk #[107]).size = 1 := rfl
  omega
theorem kVals_jsm (k : Nat) (h : k ≤ 8) : ∀ x ∈ kVals k, JSm x := by
  intro x hx
  simp only [kVals, List.mem_map, List.mem_range] at hx
  obtain ⟨i, hi, rfl⟩ := hx
  exact jsm_scal 2 false (10 * (i : Int)) ByteArray.empty ⟨by omega, by omega⟩ (by decide)
theorem kKeys_small (k : Nat) (h : k ≤ 8) : ∀ x ∈ kKeys k, x.size ≤ 4000000 := by
  intro x hx
  simp only [kKeys, List.mem_map, List.mem_range] at hx
  obtain ⟨i, hi, rfl⟩ := hx
  exact kKey_size i (by omega)
theorem kPr (B k j : Nat) (hk1 : 1 ≤ k) (hk8 : k ≤ 8) (hj : j < k) (twice : Bool) (ks : List ByteArray) (vs : List J)
    (hks : (twice = false ∧ ks = kKeys k ∧ vs = kVals k) ∨ (twice = true ∧ ∃ x, ks = kKeys k ++ [kKey j] ∧ vs = kVals k ++ [x] ∧ JSm x)) (c : List Value) (u : World)
    (hjn : JIn (fun g => g < u.heap.size) u (jObj ks vs) c) (ht : TabLow B u) (hB : B ≤ u.heap.size) :
    Calls Tryd.prog 15 #[.agg c.toArray] u fun e w' => (∃ s, e = .returned (.tuple #[.string s, .int .i64 (if twice then 300 else 0)])) ∧ Below u.heap.size u w' := by
  rcases hks with ⟨rfl, rfl, rfl⟩ | ⟨rfl, x, rfl, rfl, hx⟩
  · have hm : JSm (jObj (kKeys k) (kVals k)) := .mk 5 false 0 _ _ _ ⟨by decide, by decide⟩ (by decide) (by rw [kVals_len]; omega) (by rw [kKeys_len]; omega) (kKeys_small k hk8) (kVals_jsm k hk8)
    have h0 := jprint_any B _ c u hjn hm ht hB
    have h1 := kPrint k hk1 hk8
    cases h2 : printN (jObj (kKeys k) (kVals k)) with
    | error e => rw [h2] at h1; cases h1
    | ok bs =>
      rw [h2] at h0
      exact h0.mono fun e w' h => ⟨⟨_, h.1⟩, h.2⟩
  · have hm : JSm (jObj (kKeys k ++ [kKey j]) (kVals k ++ [x])) := .mk 5 false 0 _ _ _ ⟨by decide, by decide⟩ (by decide) (by simp [kVals_len]; omega) (by simp [kKeys_len]; omega)
      (fun y hy => by rcases List.mem_append.1 hy with h | h; exact kKeys_small k hk8 y h; rw [List.mem_singleton.1 h]; exact kKey_size j (by omega))
      (fun y hy => by rcases List.mem_append.1 hy with h | h; exact kVals_jsm k hk8 y h; rw [List.mem_singleton.1 h]; exact hx)
    have h0 := jprint_any B _ c u hjn hm ht hB
    rw [kPrint2 k j hj x] at h0
    exact h0.mono fun e w' h => ⟨⟨_, h.1⟩, h.2⟩
end Go.Proofs.YtekbhnljdpjojaaDoor
