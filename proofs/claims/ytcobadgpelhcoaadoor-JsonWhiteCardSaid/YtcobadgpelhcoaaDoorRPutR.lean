/- PutRune of the document's answer: a rune's bytes. -/
import Derived.Test.YtcobadgpelhcoaaDoorRLead
import Derived.Test.YtcobadgpelhcoaaDoorBytes
namespace Go.Proofs.YtcobadgpelhcoaaDoor
open Go.RowKit
set_option linter.unusedVariables false

theorem rputr_no_low (r : Int) (h : r < 0) (w : World) : Calls Tryd.prog 76 #[.int .i64 r] w fun e w' => e = .returned (.tuple #[.string ByteArray.empty, .int .i64 200]) ∧ w = w' := by
  go_enter Tryd.func76, Tryd.ntmps76
  go_wp2
  go_ret2
  exact ⟨rfl, rfl⟩
theorem rputr_no_high (r : Int) (h : 1114111 < r) (w : World) : Calls Tryd.prog 76 #[.int .i64 r] w fun e w' => e = .returned (.tuple #[.string ByteArray.empty, .int .i64 200]) ∧ w = w' := by
  go_enter Tryd.func76, Tryd.ntmps76
  go_wp2
  go_ret2
  exact ⟨rfl, rfl⟩
theorem rputr_no_half (r : Int) (h : 55296 ≤ r) (h2 : r ≤ 57343) (w : World) : Calls Tryd.prog 76 #[.int .i64 r] w fun e w' => e = .returned (.tuple #[.string ByteArray.empty, .int .i64 200]) ∧ w = w' := by
  go_enter Tryd.func76, Tryd.ntmps76
  go_wp2
  go_ret2
  exact ⟨rfl, rfl⟩
theorem rputr_no (r : Int) (h : isRune r = false) (w : World) : Calls Tryd.prog 76 #[.int .i64 r] w fun e w' => e = .returned (.tuple #[.string ByteArray.empty, .int .i64 200]) ∧ w = w' := by
  unfold isRune at h
  rw [decide_eq_false_iff_not] at h
  by_cases h1 : r < 0
  · exact rputr_no_low r h1 w
  by_cases h2 : 1114111 < r
  · exact rputr_no_high r h2 w
  exact rputr_no_half r (by omega) (by omega) w

set_option maxRecDepth 1000000 in
set_option maxHeartbeats 1000000 in
theorem rputr_one (r : Nat) (h1 : 0 ≤ r) (h2 : r ≤ 127) (h3 : r < 55296 ∨ 57343 < r) (w : World) : Calls Tryd.prog 76 #[.int .i64 r] w fun e w' => e = .returned (.tuple #[.string ⟨([u8 r] : List UInt8).toArray⟩, .int .i64 0]) ∧ Below w.heap.size w w' := by
  have hcv := bytes_back w [u8 r] #[.int .u8 (r : Int)] (congrArg List.toArray (cells_cons (u8_cell _ _ (by omega) (by omega)) rfl)) 1 rfl
  rcases h3 with h3 | h3
  · go_enter Tryd.func76, Tryd.ntmps76
    go_wp2
    exact bodyPost_ret (v := .tuple #[.string ⟨([u8 r] : List UInt8).toArray⟩, .int .i64 0]) (by simp [results, Tryd.results76, go_sem]) rfl ⟨rfl, (Below.refl _ _).alloc (Nat.le_refl _) _⟩
  · exfalso; omega
set_option maxRecDepth 1000000 in
set_option maxHeartbeats 1000000 in
theorem rputr_two (r : Nat) (h1 : 128 ≤ r) (h2 : r ≤ 2047) (h3 : r < 55296 ∨ 57343 < r) (w : World) : Calls Tryd.prog 76 #[.int .i64 r] w fun e w' => e = .returned (.tuple #[.string ⟨([u8 (192 + r / 64), u8 (128 + r % 64)] : List UInt8).toArray⟩, .int .i64 0]) ∧ Below w.heap.size w w' := by
  have hcv := bytes_back w [u8 (192 + r / 64), u8 (128 + r % 64)] #[.int .u8 (192 + ((r : Int) / 64)), .int .u8 (128 + (r : Int) % 64)] (congrArg List.toArray (cells_cons (u8_cell _ _ (by omega) (by omega)) (cells_cons (u8_cell _ _ (by omega) (by omega)) rfl))) 2 rfl
  rcases h3 with h3 | h3
  · go_enter Tryd.func76, Tryd.ntmps76
    go_wp2
    exact bodyPost_ret (v := .tuple #[.string ⟨([u8 (192 + r / 64), u8 (128 + r % 64)] : List UInt8).toArray⟩, .int .i64 0]) (by simp [results, Tryd.results76, go_sem]) rfl ⟨rfl, (Below.refl _ _).alloc (Nat.le_refl _) _⟩
  · exfalso; omega
set_option maxRecDepth 1000000 in
set_option maxHeartbeats 1000000 in
theorem rputr_three (r : Nat) (h1 : 2048 ≤ r) (h2 : r ≤ 65535) (h3 : r < 55296 ∨ 57343 < r) (w : World) : Calls Tryd.prog 76 #[.int .i64 r] w fun e w' => e = .returned (.tuple #[.string ⟨([u8 (224 + r / 4096), u8 (128 + r / 64 % 64), u8 (128 + r % 64)] : List UInt8).toArray⟩, .int .i64 0]) ∧ Below w.heap.size w w' := by
  have hcv := bytes_back w [u8 (224 + r / 4096), u8 (128 + r / 64 % 64), u8 (128 + r % 64)] #[.int .u8 (224 + ((r : Int) / 4096)), .int .u8 (128 + ((r : Int) / 64) % 64), .int .u8 (128 + (r : Int) % 64)] (congrArg List.toArray (cells_cons (u8_cell _ _ (by omega) (by omega)) (cells_cons (u8_cell _ _ (by omega) (by omega)) (cells_cons (u8_cell _ _ (by omega) (by omega)) rfl)))) 3 rfl
  rcases h3 with h3 | h3
  · go_enter Tryd.func76, Tryd.ntmps76
    go_wp2
    exact bodyPost_ret (v := .tuple #[.string ⟨([u8 (224 + r / 4096), u8 (128 + r / 64 % 64), u8 (128 + r % 64)] : List UInt8).toArray⟩, .int .i64 0]) (by simp [results, Tryd.results76, go_sem]) rfl ⟨rfl, (Below.refl _ _).alloc (Nat.le_refl _) _⟩
  · have h4 : (57343 : Int) < (r : Int) := by omega
    go_enter Tryd.func76, Tryd.ntmps76
    go_wp2
    exact bodyPost_ret (v := .tuple #[.string ⟨([u8 (224 + r / 4096), u8 (128 + r / 64 % 64), u8 (128 + r % 64)] : List UInt8).toArray⟩, .int .i64 0]) (by simp [results, Tryd.results76, go_sem]) rfl ⟨rfl, (Below.refl _ _).alloc (Nat.le_refl _) _⟩
set_option maxRecDepth 1000000 in
set_option maxHeartbeats 1000000 in
theorem rputr_four (r : Nat) (h1 : 65536 ≤ r) (h2 : r ≤ 1114111) (h3 : r < 55296 ∨ 57343 < r) (w : World) : Calls Tryd.prog 76 #[.int .i64 r] w fun e w' => e = .returned (.tuple #[.string ⟨([u8 (240 + r / 262144), u8 (128 + r / 4096 % 64), u8 (128 + r / 64 % 64), u8 (128 + r % 64)] : List UInt8).toArray⟩, .int .i64 0]) ∧ Below w.heap.size w w' := by
  have hcv := bytes_back w [u8 (240 + r / 262144), u8 (128 + r / 4096 % 64), u8 (128 + r / 64 % 64), u8 (128 + r % 64)] #[.int .u8 (240 + ((r : Int) / 262144)), .int .u8 (128 + ((r : Int) / 4096) % 64), .int .u8 (128 + ((r : Int) / 64) % 64), .int .u8 (128 + (r : Int) % 64)] (congrArg List.toArray (cells_cons (u8_cell _ _ (by omega) (by omega)) (cells_cons (u8_cell _ _ (by omega) (by omega)) (cells_cons (u8_cell _ _ (by omega) (by omega)) (cells_cons (u8_cell _ _ (by omega) (by omega)) rfl))))) 4 rfl
  rcases h3 with h3 | h3
  · exfalso; omega
  · have h4 : (57343 : Int) < (r : Int) := by omega
    go_enter Tryd.func76, Tryd.ntmps76
    go_wp2
    exact bodyPost_ret (v := .tuple #[.string ⟨([u8 (240 + r / 262144), u8 (128 + r / 4096 % 64), u8 (128 + r / 64 % 64), u8 (128 + r % 64)] : List UInt8).toArray⟩, .int .i64 0]) (by simp [results, Tryd.results76, go_sem]) rfl ⟨rfl, (Below.refl _ _).alloc (Nat.le_refl _) _⟩
theorem rputr_yes (r : Nat) (h : isRune r = true) (w : World) : Calls Tryd.prog 76 #[.int .i64 r] w fun e w' => e = .returned (.tuple #[.string ⟨(enc r).toArray⟩, .int .i64 0]) ∧ Below w.heap.size w w' := by
  rw [isRune_iff] at h
  unfold enc
  by_cases h1 : r < 128
  · rw [if_pos h1]; exact rputr_one r (by omega) (by omega) (by omega) w
  rw [if_neg h1]
  by_cases h2 : r < 2048
  · rw [if_pos h2]; exact rputr_two r (by omega) (by omega) (by omega) w
  rw [if_neg h2]
  by_cases h3 : r < 65536
  · rw [if_pos h3]; exact rputr_three r (by omega) (by omega) (by omega) w
  rw [if_neg h3]; exact rputr_four r (by omega) (by omega) (by omega) w
end Go.Proofs.YtcobadgpelhcoaaDoor
