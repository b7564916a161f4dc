/- Put of utf: a rune's bytes. -/
import Derived.Test.YtcobadgpelhcoaaDoorLead
import Derived.Test.YtcobadgpelhcoaaDoorBits
import Derived.Test.YtcobadgpelhcoaaDoorBytes
import Derived.Laws.IdiomStrings
import Derived.Laws.BytesString
import Derived.Below
namespace Go.Proofs.YtcobadgpelhcoaaDoor
open Go.RowKit
set_option linter.unusedVariables false

theorem uput_no (r : Int) (h : isRune r = false) (w : World) : Calls Tryd.prog 104 #[.int .i64 r] w fun e w' => e = .returned (.tuple #[.string ByteArray.empty, .int .i64 200]) ∧ w = w' := by
  have e : sz r = 0 := by
    unfold isRune at h
    rw [decide_eq_false_iff_not] at h
    unfold sz
    repeat' split
    all_goals omega
  have T := Lib.hid (sizeOf_any r)
  rw [e] at T
  clear e
  go_enter Tryd.func104, Tryd.ntmps104
  go_wp2_with (go_at_call 102; refine (T.out _).mono ?_; rintro e w' ⟨rfl, rfl⟩)
  go_ret2
  exact ⟨rfl, rfl⟩


set_option maxHeartbeats 1000000 in
theorem uput_one (r : Nat) (h1 : 0 ≤ r) (h2 : r ≤ 127) (w : World) : Calls Tryd.prog 104 #[.int .i64 r] w fun e w' => e = .returned (.tuple #[.string ⟨([u8 r] : List UInt8).toArray⟩, .int .i64 0]) ∧ Below w.heap.size w w' := by
  have e : sz r = 1 := by rw [sz_one]; omega
  have T := Lib.hid (sizeOf_any r)
  rw [e] at T
  clear e
  have e3 : bits .or .u8 0 (r : Int) = (r : Int) := by have := u8_or_join 7 0 r (by omega) (by omega) (by omega) (by omega); simpa using this
  have hcv := bytes_back w [u8 r] #[.int .u8 (r : Int)] (congrArg List.toArray (cells_cons (u8_cell _ _ (by omega) (by omega)) rfl)) 1 rfl
  have hmk : ∀ u : World, (Instr.makeSlice 47 (.int .i64 1) (.int .i64 1)).run Tryd.prog u = .ok (.slice (some ⟨u.heap.size, 0, none⟩) 1 1) (u.alloc (.cells #[.int .u8 0] 5)) := fun _ => by kernel_rfl
  go_enter Tryd.func104, Tryd.ntmps104
  go_wp2_with (go_at_call 102; refine (T.out _).mono ?_; rintro e w' ⟨rfl, rfl⟩)
  go_loopw [0, 6] (fun rv iv wr => (iv = .int .i64 0 ∧ rv = .int .i64 (r : Int) ∧ wr = w.alloc (.cells #[.int .u8 0] 5))) (fun _ iv _ => (intOf iv).toNat)
  case atStart => exact ⟨rfl, rfl, rfl⟩
  case round =>
    obtain ⟨rfl, rfl, rfl⟩ := hrel
    · go_wp2_with (go_at_call 108; refine (leadMark_one _).mono ?_; rintro e w' ⟨rfl, rfl⟩)
      exact bodyPost_ret (v := .tuple #[.string ⟨([u8 r] : List UInt8).toArray⟩, .int .i64 0]) (by simp [results, Tryd.results104, go_sem]) rfl ⟨rfl, (Below.refl _ _).alloc (Nat.le_refl _) _⟩
set_option maxHeartbeats 1000000 in
theorem uput_two (r : Nat) (h1 : 128 ≤ r) (h2 : r ≤ 2047) (w : World) : Calls Tryd.prog 104 #[.int .i64 r] w fun e w' => e = .returned (.tuple #[.string ⟨([u8 (192 + r / 64), u8 (128 + r % 64)] : List UInt8).toArray⟩, .int .i64 0]) ∧ Below w.heap.size w w' := by
  have e : sz r = 2 := by rw [sz_two]; omega
  have T := Lib.hid (sizeOf_any r)
  rw [e] at T
  clear e
  have e1_0 : bits .and .i64 (r : Int) 63 = (r : Int) % 64 := i64_lo6 r (by omega)
  have e2_0 : bits .or .u8 128 ((r : Int) % 64) = 128 + (r : Int) % 64 := u8_or_join 6 128 (r % 64) (by omega) (by omega) (by omega) (by omega)
  have e3 : bits .or .u8 192 ((r : Int) / 64) = 192 + ((r : Int) / 64) := u8_or_join 5 192 (r / 64) (by omega) (by omega) (by omega) (by omega)
  have hcv := bytes_back w [u8 (192 + r / 64), u8 (128 + r % 64)] #[.int .u8 (192 + ((r : Int) / 64)), .int .u8 (128 + (r : Int) % 64)] (congrArg List.toArray (cells_cons (u8_cell _ _ (by omega) (by omega)) (cells_cons (u8_cell _ _ (by omega) (by omega)) rfl))) 2 rfl
  have hmk : ∀ u : World, (Instr.makeSlice 47 (.int .i64 2) (.int .i64 2)).run Tryd.prog u = .ok (.slice (some ⟨u.heap.size, 0, none⟩) 2 2) (u.alloc (.cells #[.int .u8 0, .int .u8 0] 5)) := fun _ => by kernel_rfl
  go_enter Tryd.func104, Tryd.ntmps104
  go_wp2_with (go_at_call 102; refine (T.out _).mono ?_; rintro e w' ⟨rfl, rfl⟩)
  go_loopw [0, 6] (fun rv iv wr => (iv = .int .i64 1 ∧ rv = .int .i64 (r : Int) ∧ wr = w.alloc (.cells #[.int .u8 0, .int .u8 0] 5)) ∨ (iv = .int .i64 0 ∧ rv = .int .i64 ((r : Int) / 64) ∧ wr = w.alloc (.cells #[.int .u8 0, .int .u8 (128 + (r : Int) % 64)] 5))) (fun _ iv _ => (intOf iv).toNat)
  case atStart => exact .inl ⟨rfl, rfl, rfl⟩
  case round =>
    rcases hrel with ⟨rfl, rfl, rfl⟩ | ⟨rfl, rfl, rfl⟩
    · go_wp2
      go_roundw
      case rel => exact .inr (⟨rfl, congrArg (Value.int .i64) (by omega), (by first | rfl | trivial)⟩)
      case measure => simp [intOf]
    · go_wp2_with (go_at_call 108; refine (leadMark_two _).mono ?_; rintro e w' ⟨rfl, rfl⟩)
      exact bodyPost_ret (v := .tuple #[.string ⟨([u8 (192 + r / 64), u8 (128 + r % 64)] : List UInt8).toArray⟩, .int .i64 0]) (by simp [results, Tryd.results104, go_sem]) rfl ⟨rfl, (Below.refl _ _).alloc (Nat.le_refl _) _⟩
set_option maxHeartbeats 1000000 in
theorem uput_three (r : Nat) (h1 : 2048 ≤ r) (h2 : r ≤ 65535) (h3 : r < 55296 ∨ 57343 < r) (w : World) : Calls Tryd.prog 104 #[.int .i64 r] w fun e w' => e = .returned (.tuple #[.string ⟨([u8 (224 + r / 4096), u8 (128 + r / 64 % 64), u8 (128 + r % 64)] : List UInt8).toArray⟩, .int .i64 0]) ∧ Below w.heap.size w w' := by
  have e : sz r = 3 := by rw [sz_three]; omega
  have T := Lib.hid (sizeOf_any r)
  rw [e] at T
  clear e
  have e1_0 : bits .and .i64 (r : Int) 63 = (r : Int) % 64 := i64_lo6 r (by omega)
  have e2_0 : bits .or .u8 128 ((r : Int) % 64) = 128 + (r : Int) % 64 := u8_or_join 6 128 (r % 64) (by omega) (by omega) (by omega) (by omega)
  have e1_1 : bits .and .i64 ((r : Int) / 64) 63 = ((r : Int) / 64) % 64 := i64_lo6 (r / 64) (by omega)
  have e2_1 : bits .or .u8 128 (((r : Int) / 64) % 64) = 128 + ((r : Int) / 64) % 64 := u8_or_join 6 128 ((r / 64) % 64) (by omega) (by omega) (by omega) (by omega)
  have e3 : bits .or .u8 224 ((r : Int) / 4096) = 224 + ((r : Int) / 4096) := u8_or_join 4 224 (r / 4096) (by omega) (by omega) (by omega) (by omega)
  have hcv := bytes_back w [u8 (224 + r / 4096), u8 (128 + r / 64 % 64), u8 (128 + r % 64)] #[.int .u8 (224 + ((r : Int) / 4096)), .int .u8 (128 + ((r : Int) / 64) % 64), .int .u8 (128 + (r : Int) % 64)] (congrArg List.toArray (cells_cons (u8_cell _ _ (by omega) (by omega)) (cells_cons (u8_cell _ _ (by omega) (by omega)) (cells_cons (u8_cell _ _ (by omega) (by omega)) rfl)))) 3 rfl
  have hmk : ∀ u : World, (Instr.makeSlice 47 (.int .i64 3) (.int .i64 3)).run Tryd.prog u = .ok (.slice (some ⟨u.heap.size, 0, none⟩) 3 3) (u.alloc (.cells #[.int .u8 0, .int .u8 0, .int .u8 0] 5)) := fun _ => by kernel_rfl
  go_enter Tryd.func104, Tryd.ntmps104
  go_wp2_with (go_at_call 102; refine (T.out _).mono ?_; rintro e w' ⟨rfl, rfl⟩)
  go_loopw [0, 6] (fun rv iv wr => (iv = .int .i64 2 ∧ rv = .int .i64 (r : Int) ∧ wr = w.alloc (.cells #[.int .u8 0, .int .u8 0, .int .u8 0] 5)) ∨ (iv = .int .i64 1 ∧ rv = .int .i64 ((r : Int) / 64) ∧ wr = w.alloc (.cells #[.int .u8 0, .int .u8 0, .int .u8 (128 + (r : Int) % 64)] 5)) ∨ (iv = .int .i64 0 ∧ rv = .int .i64 ((r : Int) / 4096) ∧ wr = w.alloc (.cells #[.int .u8 0, .int .u8 (128 + ((r : Int) / 64) % 64), .int .u8 (128 + (r : Int) % 64)] 5))) (fun _ iv _ => (intOf iv).toNat)
  case atStart => exact .inl ⟨rfl, rfl, rfl⟩
  case round =>
    rcases hrel with ⟨rfl, rfl, rfl⟩ | ⟨rfl, rfl, rfl⟩ | ⟨rfl, rfl, rfl⟩
    · go_wp2
      go_roundw
      case rel => exact .inr (.inl ⟨rfl, congrArg (Value.int .i64) (by omega), (by first | rfl | trivial)⟩)
      case measure => simp [intOf]
    · go_wp2
      go_roundw
      case rel => exact .inr (.inr (⟨rfl, congrArg (Value.int .i64) (by omega), (by first | rfl | trivial)⟩))
      case measure => simp [intOf]
    · go_wp2_with (go_at_call 108; refine (leadMark_three _).mono ?_; rintro e w' ⟨rfl, rfl⟩)
      exact bodyPost_ret (v := .tuple #[.string ⟨([u8 (224 + r / 4096), u8 (128 + r / 64 % 64), u8 (128 + r % 64)] : List UInt8).toArray⟩, .int .i64 0]) (by simp [results, Tryd.results104, go_sem]) rfl ⟨rfl, (Below.refl _ _).alloc (Nat.le_refl _) _⟩
set_option maxHeartbeats 1000000 in
theorem uput_four (r : Nat) (h1 : 65536 ≤ r) (h2 : r ≤ 1114111) (w : World) : Calls Tryd.prog 104 #[.int .i64 r] w fun e w' => e = .returned (.tuple #[.string ⟨([u8 (240 + r / 262144), u8 (128 + r / 4096 % 64), u8 (128 + r / 64 % 64), u8 (128 + r % 64)] : List UInt8).toArray⟩, .int .i64 0]) ∧ Below w.heap.size w w' := by
  have e : sz r = 4 := by rw [sz_four]; omega
  have T := Lib.hid (sizeOf_any r)
  rw [e] at T
  clear e
  have e1_0 : bits .and .i64 (r : Int) 63 = (r : Int) % 64 := i64_lo6 r (by omega)
  have e2_0 : bits .or .u8 128 ((r : Int) % 64) = 128 + (r : Int) % 64 := u8_or_join 6 128 (r % 64) (by omega) (by omega) (by omega) (by omega)
  have e1_1 : bits .and .i64 ((r : Int) / 64) 63 = ((r : Int) / 64) % 64 := i64_lo6 (r / 64) (by omega)
  have e2_1 : bits .or .u8 128 (((r : Int) / 64) % 64) = 128 + ((r : Int) / 64) % 64 := u8_or_join 6 128 ((r / 64) % 64) (by omega) (by omega) (by omega) (by omega)
  have e1_2 : bits .and .i64 ((r : Int) / 4096) 63 = ((r : Int) / 4096) % 64 := i64_lo6 (r / 4096) (by omega)
  have e2_2 : bits .or .u8 128 (((r : Int) / 4096) % 64) = 128 + ((r : Int) / 4096) % 64 := u8_or_join 6 128 ((r / 4096) % 64) (by omega) (by omega) (by omega) (by omega)
  have e3 : bits .or .u8 240 ((r : Int) / 262144) = 240 + ((r : Int) / 262144) := u8_or_join 3 240 (r / 262144) (by omega) (by omega) (by omega) (by omega)
  have hcv := bytes_back w [u8 (240 + r / 262144), u8 (128 + r / 4096 % 64), u8 (128 + r / 64 % 64), u8 (128 + r % 64)] #[.int .u8 (240 + ((r : Int) / 262144)), .int .u8 (128 + ((r : Int) / 4096) % 64), .int .u8 (128 + ((r : Int) / 64) % 64), .int .u8 (128 + (r : Int) % 64)] (congrArg List.toArray (cells_cons (u8_cell _ _ (by omega) (by omega)) (cells_cons (u8_cell _ _ (by omega) (by omega)) (cells_cons (u8_cell _ _ (by omega) (by omega)) (cells_cons (u8_cell _ _ (by omega) (by omega)) rfl))))) 4 rfl
  have hmk : ∀ u : World, (Instr.makeSlice 47 (.int .i64 4) (.int .i64 4)).run Tryd.prog u = .ok (.slice (some ⟨u.heap.size, 0, none⟩) 4 4) (u.alloc (.cells #[.int .u8 0, .int .u8 0, .int .u8 0, .int .u8 0] 5)) := fun _ => by kernel_rfl
  go_enter Tryd.func104, Tryd.ntmps104
  go_wp2_with (go_at_call 102; refine (T.out _).mono ?_; rintro e w' ⟨rfl, rfl⟩)
  go_loopw [0, 6] (fun rv iv wr => (iv = .int .i64 3 ∧ rv = .int .i64 (r : Int) ∧ wr = w.alloc (.cells #[.int .u8 0, .int .u8 0, .int .u8 0, .int .u8 0] 5)) ∨ (iv = .int .i64 2 ∧ rv = .int .i64 ((r : Int) / 64) ∧ wr = w.alloc (.cells #[.int .u8 0, .int .u8 0, .int .u8 0, .int .u8 (128 + (r : Int) % 64)] 5)) ∨ (iv = .int .i64 1 ∧ rv = .int .i64 ((r : Int) / 4096) ∧ wr = w.alloc (.cells #[.int .u8 0, .int .u8 0, .int .u8 (128 + ((r : Int) / 64) % 64), .int .u8 (128 + (r : Int) % 64)] 5)) ∨ (iv = .int .i64 0 ∧ rv = .int .i64 ((r : Int) / 262144) ∧ wr = w.alloc (.cells #[.int .u8 0, .int .u8 (128 + ((r : Int) / 4096) % 64), .int .u8 (128 + ((r : Int) / 64) % 64), .int .u8 (128 + (r : Int) % 64)] 5))) (fun _ iv _ => (intOf iv).toNat)
  case atStart => exact .inl ⟨rfl, rfl, rfl⟩
  case round =>
    rcases hrel with ⟨rfl, rfl, rfl⟩ | ⟨rfl, rfl, rfl⟩ | ⟨rfl, rfl, rfl⟩ | ⟨rfl, rfl, rfl⟩
    · go_wp2
      go_roundw
      case rel => exact .inr (.inl ⟨rfl, congrArg (Value.int .i64) (by omega), (by first | rfl | trivial)⟩)
      case measure => simp [intOf]
    · go_wp2
      go_roundw
      case rel => exact .inr (.inr (.inl ⟨rfl, congrArg (Value.int .i64) (by omega), (by first | rfl | trivial)⟩))
      case measure => simp [intOf]
    · go_wp2
      go_roundw
      case rel => exact .inr (.inr (.inr (⟨rfl, congrArg (Value.int .i64) (by omega), (by first | rfl | trivial)⟩)))
      case measure => simp [intOf]
    · go_wp2_with (go_at_call 108; refine (leadMark_four _).mono ?_; rintro e w' ⟨rfl, rfl⟩)
      exact bodyPost_ret (v := .tuple #[.string ⟨([u8 (240 + r / 262144), u8 (128 + r / 4096 % 64), u8 (128 + r / 64 % 64), u8 (128 + r % 64)] : List UInt8).toArray⟩, .int .i64 0]) (by simp [results, Tryd.results104, go_sem]) rfl ⟨rfl, (Below.refl _ _).alloc (Nat.le_refl _) _⟩
theorem uput_yes (r : Nat) (h : isRune r = true) (w : World) : Calls Tryd.prog 104 #[.int .i64 r] w fun e w' => e = .returned (.tuple #[.string ⟨(enc r).toArray⟩, .int .i64 0]) ∧ Below w.heap.size w w' := by
  rw [isRune_iff] at h
  unfold enc
  by_cases h1 : r < 128
  · rw [if_pos h1]; exact uput_one r (by omega) (by omega) w
  rw [if_neg h1]
  by_cases h2 : r < 2048
  · rw [if_pos h2]; exact uput_two r (by omega) (by omega) w
  rw [if_neg h2]
  by_cases h3 : r < 65536
  · rw [if_pos h3]; exact uput_three r (by omega) (by omega) (by omega) w
  rw [if_neg h3]; exact uput_four r (by omega) (by omega) w
end Go.Proofs.YtcobadgpelhcoaaDoor
