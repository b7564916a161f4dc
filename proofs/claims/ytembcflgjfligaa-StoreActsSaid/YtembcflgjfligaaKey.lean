/- isKey of objstore: which texts may be keys. -/
import Derived.Test.YtembcflgjfligaaSmall
namespace Go.Proofs.Ytembcflgjfligaa
open Go.Conc Go.RowKit

def okByte (c : UInt8) : Prop := 33 ≤ c.toNat ∧ c.toNat ≤ 126
/-- Which texts may be keys. -/
def KeyMay (k : ByteArray) : Prop := 1 ≤ k.size ∧ k.size ≤ 64 ∧ ∀ (i : Nat) (h : i < k.size), okByte (k[i])
/-- The first a bytes are fine. -/
def Fine (k : ByteArray) (a : Nat) : Prop := ∀ (i : Nat) (h : i < k.size), i < a → okByte (k[i])
/-- The answer is right. -/
def KeyAns (k : ByteArray) (w : World) (e : Ending) (w' : World) : Prop := w = w' ∧ ((e = .returned (.bool true) ∧ KeyMay k) ∨ (e = .returned (.bool false) ∧ ¬ KeyMay k))

set_option maxHeartbeats 400000 in
theorem iskey_any (k : ByteArray) (w : World) (hs : k.size ≤ 9223372036854775807) : Calls Try.prog 29 #[.string k] w (KeyAns k w) := by
  by_cases h1 : k.size < 1
  · go_enter Try.func29, Try.ntmps29
    go_wp2
    go_ret
    exact ⟨rfl, .inr ⟨rfl, fun h => by have := h.1; omega⟩⟩
  by_cases h2 : 64 < k.size
  · go_enter Try.func29, Try.ntmps29
    go_wp2
    go_ret
    exact ⟨rfl, .inr ⟨rfl, fun h => by have := h.2.1; omega⟩⟩
  go_enter Try.func29, Try.ntmps29
  go_wp2
  go_loop [14] (fun i => ∃ a : Nat, a ≤ k.size ∧ i = .int .i64 a ∧ Fine k a) (fun i => k.size - (intOf i).toNat)
  case atStart => exact ⟨0, Nat.zero_le _, rfl, fun i h hi => absurd hi (Nat.not_lt_zero _)⟩
  case round =>
    obtain ⟨a, ha, rfl, hf⟩ := hrel
    by_cases hlt : a < k.size
    · by_cases c1 : k[a].toNat < 33
      · go_wp2
        go_ret
        exact ⟨rfl, .inr ⟨rfl, fun h => by have := (h.2.2 a hlt).1; omega⟩⟩
      by_cases c2 : 126 < k[a].toNat
      · go_wp2
        go_ret
        exact ⟨rfl, .inr ⟨rfl, fun h => by have := (h.2.2 a hlt).2; omega⟩⟩
      go_wp2
      go_round
      case rel =>
        refine ⟨a + 1, by omega, by go_num, fun i h hi => ?_⟩
        rcases Nat.lt_succ_iff_lt_or_eq.1 hi with h' | rfl
        · exact hf i h h'
        · exact ⟨by omega, by omega⟩
      case measure => simp [intOf]; omega
    · go_wp2
      go_ret
      exact ⟨rfl, .inl ⟨rfl, by omega, by omega, fun i h => hf i h (by omega)⟩⟩
end Go.Proofs.Ytembcflgjfligaa
