/- A sum's four bytes, as text. -/
import Derived.Test.YtchgicgekfbdeaaRef
import Derived.Test.YtchgicgekfbdeaaBytes
import Derived.Test.YtchgicgekfbdeaaBits
namespace Go.Proofs.Ytchgicgekfbdeaa
open Go.RowKit
set_option linter.unusedVariables false

def textB (l : List UInt8) : ByteArray := ⟨l.toArray⟩
theorem textB_back (w : World) (l : List UInt8) (C : Array Value) (hC : (byteCells l).toArray = C) (n : Nat) (hn : l.length = n) :
    (convert 32 9 (.slice (some ⟨w.heap.size, 0, none⟩) n n)).run Try.prog (w.alloc (.cells C 5)) = .ok (.string (textB l)) (w.alloc (.cells C 5)) := bytes_back w l C hC n hn
set_option maxRecDepth 100000 in
set_option maxHeartbeats 1000000 in
theorem cform_any (n : Nat) (h : n < 4294967296) (w : World) : Calls Try.prog 14 #[.int .i64 (n : Int)] w fun e w' => e = .returned (.string (textB (fourB n))) ∧ Below w.heap.size w w' := by
  have b4 : ∀ (k : Nat) (x : Int), ((k % 256 : Nat) : Int) = x → Value.int .u8 ((UInt8.ofNat k).toNat : Int) = .int .u8 x := fun k x e => by rw [← e]; simp
  have hcv := textB_back w (fourB n) #[.int .u8 ((n : Int) / 16777216), .int .u8 ((n : Int) / 65536 % 256), .int .u8 ((n : Int) / 256 % 256), .int .u8 ((n : Int) % 256)]
    (congrArg List.toArray (cells_cons (b4 _ _ (by omega)) (cells_cons (b4 _ _ (by omega)) (cells_cons (b4 _ _ (by omega)) (cells_cons (b4 _ _ (by omega)) rfl))))) 4 rfl
  go_enter Try.func14, Try.ntmps14
  go_wp2
  go_ret
  exact ⟨rfl, (Below.refl _ _).alloc (Nat.le_refl _) _⟩
theorem i64_lo8 (r : Nat) (h : r < 9223372036854775808) : bits .and .i64 (r : Int) 255 = ((r % 256 : Nat) : Int) := by
  show IntKind.i64.wrap ((BitVec.ofInt 64 (r : Int) &&& BitVec.ofInt 64 ((255 : Nat) : Int)).toNat : Int) = _
  rw [BitVec.toNat_and, ofInt_u64 _ (by omega), ofInt_u64 255 (by omega), show (255 : Nat) = 2 ^ 8 - 1 from rfl, Nat.and_two_pow_sub_one_eq_mod]
  exact wrap_i64_nat _ (by omega)
/-- A text and its sum's four bytes. -/
def sealB (s : ByteArray) : ByteArray := s ++ textB (fourB (crcN s.data.toList))
theorem sealB_size (s : ByteArray) : (sealB s).size = s.size + 4 := by
  unfold sealB
  rw [ByteArray.size_append]
  rfl
set_option maxRecDepth 100000 in
set_option maxHeartbeats 1000000 in
theorem rseal_any (s : ByteArray) (hs : s.size ≤ 281474976710648) (w : World) : Calls Try.prog 11 #[.string s] w fun e w' => e = .returned (.string (sealB s)) ∧ Below w.heap.size w w' := by
  have T := Lib.hid (rcrc_any s (by omega))
  have hn := crcN_lt s.data.toList
  unfold sealB
  generalize crcN s.data.toList = n at *
  have e1 : bits .and .i64 ((n : Int) / 65536) 255 = ((n : Int) / 65536) % 256 := i64_lo8 (n / 65536) (by omega)
  have e2 : bits .and .i64 ((n : Int) / 256) 255 = ((n : Int) / 256) % 256 := i64_lo8 (n / 256) (by omega)
  have e3 : bits .and .i64 (n : Int) 255 = (n : Int) % 256 := i64_lo8 n (by omega)
  have b4 : ∀ (k : Nat) (x : Int), ((k % 256 : Nat) : Int) = x → Value.int .u8 ((UInt8.ofNat k).toNat : Int) = .int .u8 x := fun k x e => by rw [← e]; simp
  have hcv := textB_back w (fourB n) #[.int .u8 ((n : Int) / 16777216), .int .u8 ((n : Int) / 65536 % 256), .int .u8 ((n : Int) / 256 % 256), .int .u8 ((n : Int) % 256)]
    (congrArg List.toArray (cells_cons (b4 _ _ (by omega)) (cells_cons (b4 _ _ (by omega)) (cells_cons (b4 _ _ (by omega)) (cells_cons (b4 _ _ (by omega)) rfl))))) 4 rfl
  have hz : (textB (fourB n)).size = 4 := rfl
  generalize textB (fourB n) = t at *
  clear b4
  go_enter Try.func11, Try.ntmps11
  go_wp2_with (go_at_call 9; refine (T.out _).mono ?_; rintro e w' ⟨rfl, rfl⟩)
  go_ret
  exact ⟨rfl, (Below.refl _ _).alloc (Nat.le_refl _) _⟩
end Go.Proofs.Ytchgicgekfbdeaa
