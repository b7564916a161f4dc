/- A byte more is eight steps of the rule: the walk of the law. -/
import Derived.Test.YtchgicgekfbdeaaCAwake
namespace Go.Proofs.Ytchgicgekfbdeaa
open Go.RowKit
set_option linter.unusedVariables false

theorem i64_xor_nat (a b : Nat) (ha : a < 4294967296) (hb : b < 4294967296) : bits .xor .i64 (a : Int) (b : Int) = ((a ^^^ b : Nat) : Int) := by
  have hx : a ^^^ b < 4294967296 := xor_lt ha hb
  show IntKind.i64.wrap ((BitVec.ofInt 64 (a : Int) ^^^ BitVec.ofInt 64 (b : Int)).toNat : Int) = _
  rw [BitVec.toNat_xor, ofInt_u64 _ (by omega), ofInt_u64 _ (by omega)]
  exact wrap_i64_nat _ (by omega)
theorem i64_and1 (y : Nat) (h : y < 4294967296) : bits .and .i64 (y : Int) 1 = ((y % 2 : Nat) : Int) := by
  show IntKind.i64.wrap ((BitVec.ofInt 64 (y : Int) &&& BitVec.ofInt 64 ((1 : Nat) : Int)).toNat : Int) = _
  rw [BitVec.toNat_and, ofInt_u64 _ (by omega), ofInt_u64 1 (by omega), Nat.and_one_is_mod]
  exact wrap_i64_nat _ (by omega)
/-- A number's lowest byte. -/
theorem lowByte (c : Int) : ∃ b : UInt8, bits .and .i64 c 255 = (b.toNat : Int) ∧ c % 256 = (b.toNat : Int) := by
  have h0 : 0 ≤ c % 256 ∧ c % 256 < 256 := by omega
  have hb : (UInt8.ofNat (c % 256).toNat).toNat = (c % 256).toNat := UInt8.toNat_ofNat_of_lt' (by show _ < 256; omega)
  refine ⟨UInt8.ofNat (c % 256).toNat, ?_, by rw [hb]; omega⟩
  rw [hb]
  have e : (BitVec.ofInt 64 c).toNat &&& (BitVec.ofInt 64 255).toNat = (c % 256).toNat := by
    rw [show (BitVec.ofInt 64 255).toNat = 2 ^ 8 - 1 from rfl, Nat.and_two_pow_sub_one_eq_mod, BitVec.toNat_ofInt]
    omega
  show IntKind.i64.wrap ((BitVec.ofInt 64 c &&& BitVec.ofInt 64 255).toNat : Int) = _
  rw [BitVec.toNat_and, e]
  exact wrap_i64_nat _ (by omega)

set_option maxHeartbeats 1000000 in
set_option maxRecDepth 100000 in
theorem crcsteps_walk (s : ByteArray) (c : Int) (hs : s.size ≤ 140737488351232) (w : World) : Calls Try.prog 5 #[.string s, .int .i64 c] w fun e w' => e = .returned (.bool true) ∧ Below w.heap.size w w' := by
  obtain ⟨b, eb1, eb2⟩ := lowByte c
  have hb := u8n_lt b
  have TO := Lib.hid (cof_any s (by omega))
  have TO2 := Lib.hid (cof_any (s ++ textB [b]) (by rw [ByteArray.size_append]; show s.size + 1 ≤ _; omega))
  have TO3 := Lib.hid (cof_any ByteArray.empty (by show 0 ≤ _; omega))
  rw [show crcN ByteArray.empty.data.toList = 0 by decide +kernel] at TO3
  have hn : crcN s.data.toList < 4294967296 := crcN_lt _
  have hc2 : crcN (s ++ textB [b]).data.toList = stn 8 (crcN s.data.toList ^^^ 4294967295 ^^^ b.toNat) ^^^ 4294967295 := by
    rw [ByteArray.data_append, Array.toList_append]
    show sumL _ (s.data.toList ++ [b]) ^^^ 4294967295 = _
    rw [sumL_append]
    unfold crcN
    rw [Nat.xor_assoc (sumL _ _), Nat.xor_self, Nat.xor_zero]
    rfl
  rw [hc2] at TO2
  clear hc2
  generalize crcN s.data.toList = n at *
  have e1 : bits .xor .i64 (n : Int) 4294967295 = ((n ^^^ 4294967295 : Nat) : Int) := i64_xor_nat n 4294967295 hn (by omega)
  have h1 := xor_lt hn (show 4294967295 < 4294967296 by omega)
  generalize n ^^^ 4294967295 = m at *
  have e2 := i64_xor_nat m b.toNat h1 hb
  have h2 := xor_lt h1 hb
  generalize m ^^^ b.toNat = x at *
  have h3 := stn_lt 8 h2
  have e3 : bits .xor .i64 ((stn 8 x : Nat) : Int) 4294967295 = ((stn 8 x ^^^ 4294967295 : Nat) : Int) := i64_xor_nat (stn 8 x) 4294967295 h3 (by omega)
  have hcv : ∀ w : World, (convert 32 9 (.slice (some ⟨w.heap.size, 0, none⟩) 1 1)).run Try.prog (w.alloc (.cells #[.int .u8 (b.toNat : Int)] 5)) = .ok (.string (textB [b])) (w.alloc (.cells #[.int .u8 (b.toNat : Int)] 5)) := fun w => textB_back w [b] _ rfl 1 rfl
  have hz : (textB [b]).size = 1 := rfl
  generalize textB [b] = t at *
  go_enter Try.func5, Try.ntmps5
  go_wp2_with (first
    | (go_at_call 13; refine (cawake_any _).mono ?_; rintro e w1 ⟨rfl, hb1⟩; have HB1 := Lib.hid hb1; clear hb1)
    | (go_at_call 8; refine (TO.out _).mono ?_; rintro e w2 ⟨rfl, hb2⟩; have HB2 := Lib.hid hb2; clear hb2))
  go_loop [5, 6] (fun xv iv => ∃ n y : Nat, n ≤ 8 ∧ y < 4294967296 ∧ iv = .int .i64 (8 - n) ∧ xv = .int .i64 y ∧ stn n y = stn 8 x) (fun _ iv => (8 - intOf iv).toNat)
  case atStart => exact ⟨8, x, by omega, h2, rfl, rfl, rfl⟩
  case round =>
    obtain ⟨n, y, hn, hy, rfl, rfl, e⟩ := hrel
    have e6 := i64_and1 y hy
    by_cases c : n = 0
    · subst c
      have e : y = stn 8 x := e
      rw [← e] at e3 TO2
      clear e
      generalize y ^^^ 4294967295 = r at *
      go_wp2_with (first
        | (go_at_call 8; have hx := HB3.out; clear hx; refine (TO3.out _).mono ?_; rintro e w4 ⟨rfl, hb4⟩; have HB4 := Lib.hid hb4; clear hb4)
        | (go_at_call 8; refine (TO2.out _).mono ?_; rintro e w3 ⟨rfl, hb3⟩; have HB3 := Lib.hid hb3; clear hb3)
        | (go_at_call 12; refine (num_any _ _).mono ?_; rintro e w' ⟨rfl, rfl⟩))
      go_ret
      have b2 := HB1.out.trans (HB2.out.mono HB1.out.size)
      have b3 := (b2.alloc b2.size (.cells #[.int .u8 (b.toNat : Int)] 5)).trans (HB3.out.mono (by have := b2.size; simp; omega))
      exact ⟨rfl, b3.trans (HB4.out.mono b3.size)⟩
    · obtain ⟨n, rfl⟩ : ∃ m, n = m + 1 := ⟨n - 1, by omega⟩
      by_cases c1 : y % 2 = 1
      · have hs : st y = y / 2 ^^^ 3988292384 := by unfold st; rw [if_pos c1]
        have e7 : bits .xor .i64 ((y : Int) / 2) 3988292384 = ((y / 2 ^^^ 3988292384 : Nat) : Int) := i64_xor_nat (y / 2) 3988292384 (by omega) (by omega)
        rw [c1] at e6
        go_wp2
        go_round
        case rel => exact ⟨n, st y, by omega, st_lt hy, by congr 1; omega, by rw [hs, ← e7], e⟩
        case measure => simp [intOf]; omega
      · have hs : st y = y / 2 := by unfold st; rw [if_neg c1]
        rw [show y % 2 = 0 by omega] at e6
        go_wp2
        go_round
        case rel => exact ⟨n, st y, by omega, st_lt hy, by congr 1; omega, by rw [hs]; rfl, e⟩
        case measure => simp [intOf]; omega
end Go.Proofs.Ytchgicgekfbdeaa
