/- What is no rune: the walk of the law. -/
import Derived.Test.YtfnjhlfhonjenaaForms
import Derived.Outline
namespace Go.Proofs.Ytfnjhlfhonjenaa
open Go.RowKit
set_option linter.unusedVariables false

set_option maxHeartbeats 1000000 in
set_option maxRecDepth 1000000 in
theorem utfForms_walk (which low : Int) (w : World) :
    Calls Try.prog 5 #[.int .i64 which, .int .i64 low] w fun e w' => e = .returned (.bool true) ∧ Below w.heap.size w w' := by
  obtain ⟨m, hm, em⟩ := i64_and63 low
  have e31 := u8_and31 m hm
  have e15 := u8_and15 m hm
  obtain ⟨j, hj, ej⟩ : ∃ j : Nat, j < 9 ∧ (IntKind.u64.wrap which).tmod 9 = (j : Int) := by
    have h0 := wrap_u64_nonneg which
    rw [Int.tmod_eq_emod_of_nonneg h0]
    exact ⟨((IntKind.u64.wrap which) % 9).toNat, by omega, by omega⟩
  obtain ⟨t, ht, et⟩ := noRune_at m hm j hj
  have HT := Lib.hid ht
  have hsum : 1 + t.size ≤ 9223372036854775807 := by
    have h4 := ht.le
    rw [Array.length_toList] at h4
    have h5 : t.size ≤ 4 := h4
    omega
  clear ht
  have h0 := fun u : World => bytes_back u [u8 192, u8 (128 + m)] #[.int .u8 192, .int .u8 (128 + (m : Int))] (congrArg List.toArray (cells_cons (u8_cell _ _ (by omega) (by omega)) (cells_cons (u8_cell _ _ (by omega) (by omega)) rfl))) 2 rfl
  try simp only [World.size_alloc] at h0
  have h1 := fun u : World => bytes_back (u.alloc (.cells #[.int .u8 192, .int .u8 (128 + (m : Int))] 5)) [u8 193, u8 (128 + m)] #[.int .u8 193, .int .u8 (128 + (m : Int))] (congrArg List.toArray (cells_cons (u8_cell _ _ (by omega) (by omega)) (cells_cons (u8_cell _ _ (by omega) (by omega)) rfl))) 2 rfl
  try simp only [World.size_alloc] at h1
  have h2 := fun u : World => bytes_back ((u.alloc (.cells #[.int .u8 192, .int .u8 (128 + (m : Int))] 5)).alloc (.cells #[.int .u8 193, .int .u8 (128 + (m : Int))] 5)) [u8 224, u8 (128 + m % 32), u8 (128 + m)] #[.int .u8 224, .int .u8 (128 + (m : Int) % 32), .int .u8 (128 + (m : Int))] (congrArg List.toArray (cells_cons (u8_cell _ _ (by omega) (by omega)) (cells_cons (u8_cell _ _ (by omega) (by omega)) (cells_cons (u8_cell _ _ (by omega) (by omega)) rfl)))) 3 rfl
  try simp only [World.size_alloc] at h2
  have h3 := fun u : World => bytes_back (((u.alloc (.cells #[.int .u8 192, .int .u8 (128 + (m : Int))] 5)).alloc (.cells #[.int .u8 193, .int .u8 (128 + (m : Int))] 5)).alloc (.cells #[.int .u8 224, .int .u8 (128 + (m : Int) % 32), .int .u8 (128 + (m : Int))] 5)) [u8 237, u8 (160 + m % 32), u8 (128 + m)] #[.int .u8 237, .int .u8 (160 + (m : Int) % 32), .int .u8 (128 + (m : Int))] (congrArg List.toArray (cells_cons (u8_cell _ _ (by omega) (by omega)) (cells_cons (u8_cell _ _ (by omega) (by omega)) (cells_cons (u8_cell _ _ (by omega) (by omega)) rfl)))) 3 rfl
  try simp only [World.size_alloc] at h3
  have h4 := fun u : World => bytes_back ((((u.alloc (.cells #[.int .u8 192, .int .u8 (128 + (m : Int))] 5)).alloc (.cells #[.int .u8 193, .int .u8 (128 + (m : Int))] 5)).alloc (.cells #[.int .u8 224, .int .u8 (128 + (m : Int) % 32), .int .u8 (128 + (m : Int))] 5)).alloc (.cells #[.int .u8 237, .int .u8 (160 + (m : Int) % 32), .int .u8 (128 + (m : Int))] 5)) [u8 240, u8 (128 + m % 16), u8 (128 + m), u8 (128 + m)] #[.int .u8 240, .int .u8 (128 + (m : Int) % 16), .int .u8 (128 + (m : Int)), .int .u8 (128 + (m : Int))] (congrArg List.toArray (cells_cons (u8_cell _ _ (by omega) (by omega)) (cells_cons (u8_cell _ _ (by omega) (by omega)) (cells_cons (u8_cell _ _ (by omega) (by omega)) (cells_cons (u8_cell _ _ (by omega) (by omega)) rfl))))) 4 rfl
  try simp only [World.size_alloc] at h4
  have h5 := fun u : World => bytes_back (((((u.alloc (.cells #[.int .u8 192, .int .u8 (128 + (m : Int))] 5)).alloc (.cells #[.int .u8 193, .int .u8 (128 + (m : Int))] 5)).alloc (.cells #[.int .u8 224, .int .u8 (128 + (m : Int) % 32), .int .u8 (128 + (m : Int))] 5)).alloc (.cells #[.int .u8 237, .int .u8 (160 + (m : Int) % 32), .int .u8 (128 + (m : Int))] 5)).alloc (.cells #[.int .u8 240, .int .u8 (128 + (m : Int) % 16), .int .u8 (128 + (m : Int)), .int .u8 (128 + (m : Int))] 5)) [u8 244, u8 (144 + m % 16), u8 (128 + m), u8 (128 + m)] #[.int .u8 244, .int .u8 (144 + (m : Int) % 16), .int .u8 (128 + (m : Int)), .int .u8 (128 + (m : Int))] (congrArg List.toArray (cells_cons (u8_cell _ _ (by omega) (by omega)) (cells_cons (u8_cell _ _ (by omega) (by omega)) (cells_cons (u8_cell _ _ (by omega) (by omega)) (cells_cons (u8_cell _ _ (by omega) (by omega)) rfl))))) 4 rfl
  try simp only [World.size_alloc] at h5
  have h6 := fun u : World => bytes_back ((((((u.alloc (.cells #[.int .u8 192, .int .u8 (128 + (m : Int))] 5)).alloc (.cells #[.int .u8 193, .int .u8 (128 + (m : Int))] 5)).alloc (.cells #[.int .u8 224, .int .u8 (128 + (m : Int) % 32), .int .u8 (128 + (m : Int))] 5)).alloc (.cells #[.int .u8 237, .int .u8 (160 + (m : Int) % 32), .int .u8 (128 + (m : Int))] 5)).alloc (.cells #[.int .u8 240, .int .u8 (128 + (m : Int) % 16), .int .u8 (128 + (m : Int)), .int .u8 (128 + (m : Int))] 5)).alloc (.cells #[.int .u8 244, .int .u8 (144 + (m : Int) % 16), .int .u8 (128 + (m : Int)), .int .u8 (128 + (m : Int))] 5)) [u8 245, u8 (128 + m), u8 (128 + m), u8 (128 + m)] #[.int .u8 245, .int .u8 (128 + (m : Int)), .int .u8 (128 + (m : Int)), .int .u8 (128 + (m : Int))] (congrArg List.toArray (cells_cons (u8_cell _ _ (by omega) (by omega)) (cells_cons (u8_cell _ _ (by omega) (by omega)) (cells_cons (u8_cell _ _ (by omega) (by omega)) (cells_cons (u8_cell _ _ (by omega) (by omega)) rfl))))) 4 rfl
  try simp only [World.size_alloc] at h6
  have h7 := fun u : World => bytes_back (((((((u.alloc (.cells #[.int .u8 192, .int .u8 (128 + (m : Int))] 5)).alloc (.cells #[.int .u8 193, .int .u8 (128 + (m : Int))] 5)).alloc (.cells #[.int .u8 224, .int .u8 (128 + (m : Int) % 32), .int .u8 (128 + (m : Int))] 5)).alloc (.cells #[.int .u8 237, .int .u8 (160 + (m : Int) % 32), .int .u8 (128 + (m : Int))] 5)).alloc (.cells #[.int .u8 240, .int .u8 (128 + (m : Int) % 16), .int .u8 (128 + (m : Int)), .int .u8 (128 + (m : Int))] 5)).alloc (.cells #[.int .u8 244, .int .u8 (144 + (m : Int) % 16), .int .u8 (128 + (m : Int)), .int .u8 (128 + (m : Int))] 5)).alloc (.cells #[.int .u8 245, .int .u8 (128 + (m : Int)), .int .u8 (128 + (m : Int)), .int .u8 (128 + (m : Int))] 5)) [u8 (128 + m)] #[.int .u8 (128 + (m : Int))] (congrArg List.toArray (cells_cons (u8_cell _ _ (by omega) (by omega)) rfl)) 1 rfl
  try simp only [World.size_alloc] at h7
  have h8 := fun u : World => bytes_back ((((((((u.alloc (.cells #[.int .u8 192, .int .u8 (128 + (m : Int))] 5)).alloc (.cells #[.int .u8 193, .int .u8 (128 + (m : Int))] 5)).alloc (.cells #[.int .u8 224, .int .u8 (128 + (m : Int) % 32), .int .u8 (128 + (m : Int))] 5)).alloc (.cells #[.int .u8 237, .int .u8 (160 + (m : Int) % 32), .int .u8 (128 + (m : Int))] 5)).alloc (.cells #[.int .u8 240, .int .u8 (128 + (m : Int) % 16), .int .u8 (128 + (m : Int)), .int .u8 (128 + (m : Int))] 5)).alloc (.cells #[.int .u8 244, .int .u8 (144 + (m : Int) % 16), .int .u8 (128 + (m : Int)), .int .u8 (128 + (m : Int))] 5)).alloc (.cells #[.int .u8 245, .int .u8 (128 + (m : Int)), .int .u8 (128 + (m : Int)), .int .u8 (128 + (m : Int))] 5)).alloc (.cells #[.int .u8 (128 + (m : Int))] 5)) [u8 255] #[.int .u8 255] (congrArg List.toArray (cells_cons (u8_cell _ _ (by omega) (by omega)) rfl)) 1 rfl
  try simp only [World.size_alloc] at h8
  go_enter Try.func5, Try.ntmps5
  go_wp2_with (first
        | (go_at_call 16; refine (uawake_any _).mono ?_; rintro e w3 ⟨rfl, hb3⟩; have HB3 := Lib.hid hb3; clear hb3)
        | (go_at_call 7; refine (HT.out.one _).mono ?_; rintro e w' ⟨rfl, rfl⟩)
        | (go_at_call 15; refine (num_any _ _).mono ?_; rintro e w' ⟨rfl, rfl⟩)
        | (go_at_call 11; refine (HT.out.fst _).mono ?_; rintro e w' ⟨rfl, rfl⟩)
        | (go_at_call 13; first | ((with_reducible refine (HT.out.val _).mono ?_); rintro e w' ⟨rfl, rfl⟩) | ((with_reducible refine (uvalid_none _).mono ?_); rintro e w' ⟨rfl, rfl⟩)))
  go_ret
  exact ⟨rfl, below2 HB3.out (((((((((((Below.refl _ _).alloc (by first | exact Nat.le_refl _ | (simp only [World.size_alloc]; omega)) _).alloc (by first | exact Nat.le_refl _ | (simp only [World.size_alloc]; omega)) _).alloc (by first | exact Nat.le_refl _ | (simp only [World.size_alloc]; omega)) _).alloc (by first | exact Nat.le_refl _ | (simp only [World.size_alloc]; omega)) _).alloc (by first | exact Nat.le_refl _ | (simp only [World.size_alloc]; omega)) _).alloc (by first | exact Nat.le_refl _ | (simp only [World.size_alloc]; omega)) _).alloc (by first | exact Nat.le_refl _ | (simp only [World.size_alloc]; omega)) _).alloc (by first | exact Nat.le_refl _ | (simp only [World.size_alloc]; omega)) _).alloc (by first | exact Nat.le_refl _ | (simp only [World.size_alloc]; omega)) _).alloc (by first | exact Nat.le_refl _ | (simp only [World.size_alloc]; omega)) _)⟩
end Go.Proofs.Ytfnjhlfhonjenaa
