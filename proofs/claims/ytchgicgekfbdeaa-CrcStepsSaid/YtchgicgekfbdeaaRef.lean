/- The document's sum: Crc. -/
import Derived.Test.YtchgicgekfbdeaaOut
namespace Go.Proofs.Ytchgicgekfbdeaa
open Go.RowKit
set_option linter.unusedVariables false

theorem take_sum (s : ByteArray) (a : Nat) (h : a < s.size) : s.data.toList.drop a = s[a] :: s.data.toList.drop (a + 1) := by
  rw [List.drop_eq_getElem_cons (by simpa using h)]
  rfl
theorem xorB (x : Nat) (h : x < 4294967296) (b : UInt8) : bits .xor .u32 (x : Int) ((b.toNat : Int) % 4294967296) = ((x ^^^ b.toNat : Nat) : Int) := by
  have hb := u8n_lt b
  rw [Int.emod_eq_of_lt (by omega) (by omega)]
  exact u32_xor_nat x b.toNat h hb
theorem xorF (x : Nat) (h : x < 4294967296) : bits .xor .u32 (x : Int) 4294967295 = ((x ^^^ 4294967295 : Nat) : Int) := u32_xor_nat x 4294967295 h (by omega)

set_option maxRecDepth 100000 in
set_option maxHeartbeats 1000000 in
theorem rcrc_any (s : ByteArray) (hs : s.size ≤ 281474976710656) (w : World) : Calls Try.prog 9 #[.string s] w fun e w' => e = .returned (.int .i64 (crcN s.data.toList : Nat)) ∧ w = w' := by
  obtain ⟨R, hR⟩ : ∃ R, R = crcN s.data.toList := ⟨_, rfl⟩
  rw [← hR]
  have hl : R < 4294967296 := hR ▸ crcN_lt s.data.toList
  go_enter Try.func9, Try.ntmps9
  go_wp2
  go_loop [3, 4] (fun c i => ∃ a x : Nat, a ≤ s.size ∧ x < 4294967296 ∧ i = .int .i64 a ∧ c = .int .u32 x ∧ sumL x (s.data.toList.drop a) = sumL 4294967295 s.data.toList) (fun _ i => s.size - (intOf i).toNat)
  case atStart => exact ⟨0, 4294967295, by omega, by omega, rfl, rfl, rfl⟩
  case round =>
    obtain ⟨a, x, ha, hx, rfl, rfl, e⟩ := hrel
    by_cases c : a < s.size
    · rw [take_sum s a c] at e
      have e1 := xorB x hx s[a]
      have e : sumL (stn 8 (x ^^^ s[a].toNat)) (s.data.toList.drop (a + 1)) = sumL 4294967295 s.data.toList := e
      have hy := xor_lt hx (u8n_lt s[a])
      generalize hz : x ^^^ s[a].toNat = z at *
      go_wp2
      go_loop [3, 5] (fun c i => ∃ n y : Nat, n ≤ 8 ∧ y < 4294967296 ∧ i = .int .i64 (8 - n) ∧ c = .int .u32 y ∧ stn n y = stn 8 z) (fun _ i => (8 - intOf i).toNat)
      case atStart => exact ⟨8, z, by omega, hy, rfl, rfl, rfl⟩
      case round =>
        obtain ⟨n, y, hn, hy, rfl, rfl, e3⟩ := hrel
        have e1 := and1 y hy
        by_cases c : n = 0
        · subst c
          go_wp2
          go_round
          case rel => exact ⟨a + 1, y, by omega, hy, by go_num, rfl, by rw [← e, ← e3]; rfl⟩
          case measure => simp [intOf]; omega
        · obtain ⟨n, rfl⟩ : ∃ m, n = m + 1 := ⟨n - 1, by omega⟩
          by_cases c1 : y % 2 = 1
          · have hs : st y = y / 2 ^^^ 3988292384 := by unfold st; rw [if_pos c1]
            have e2 : bits .xor .u32 ((y : Int) / 2) 3988292384 = ((y / 2 ^^^ 3988292384 : Nat) : Int) := xorD (y / 2) (by omega)
            rw [c1] at e1
            go_wp2
            go_round
            case rel => exact ⟨n, st y, by omega, st_lt hy, by congr 1; omega, by rw [hs, ← e2], e3⟩
            case measure => simp [intOf]; omega
          · have hs : st y = y / 2 := by unfold st; rw [if_neg c1]
            rw [show y % 2 = 0 by omega] at e1
            go_wp2
            go_round
            case rel => exact ⟨n, st y, by omega, st_lt hy, by congr 1; omega, by rw [hs]; rfl, e3⟩
            case measure => simp [intOf]; omega
    · have hd : s.data.toList.drop a = [] := List.drop_eq_nil_of_le (by simpa using Nat.le_of_not_lt c)
      rw [hd] at e
      have e : x = sumL 4294967295 s.data.toList := e
      have e4 := xorF x hx
      have hc : x ^^^ 4294967295 = R := by rw [hR, e]; rfl
      rw [hc] at e4
      clear hc e hR
      go_wp2
      go_ret
      exact ⟨rfl, rfl⟩
end Go.Proofs.Ytchgicgekfbdeaa
