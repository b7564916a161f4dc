/- Of crc: a text's sum. -/
import Derived.Test.YtchgicgekfbdeaaTab
import Derived.Test.YtchgicgekfbdeaaRef
namespace Go.Proofs.Ytchgicgekfbdeaa
open Go.RowKit
set_option linter.unusedVariables false

theorem and15 (x : Nat) (h : x < 4294967296) : bits .and .u32 (x : Int) 15 = ((x &&& 15 : Nat) : Int) := u32_and_nat x 15 h (by omega)
theorem and15_lt (x : Nat) : x &&& 15 < 16 := by
  rw [show (15 : Nat) = 2 ^ 4 - 1 from rfl, Nat.and_two_pow_sub_one_eq_mod]
  omega
theorem xorT (x : Nat) (h : x < 4294967296) (m : Nat) (hm : m < 16) (e : x &&& 15 = m) : bits .xor .u32 ((x : Int) / 16) ((stn 4 m : Nat) : Int) = ((stn 4 x : Nat) : Int) := by
  rw [stn4 x, e]
  exact u32_xor_nat (x / 16) (stn 4 m) (by omega) (stn_lt 4 (by omega))
theorem notF (x : Nat) (h : x < 4294967296) : bits .xor .u32 IntKind.u32.max (x : Int) = ((x ^^^ 4294967295 : Nat) : Int) := by
  rw [Nat.xor_comm]
  exact u32_xor_nat 4294967295 x (by omega) h

set_option maxRecDepth 100000 in
set_option maxHeartbeats 1000000 in
theorem cof_any (s : ByteArray) (hs : s.size ≤ 281474976710656) (w : World) : Calls Try.prog 8 #[.string s] w fun e w' => e = .returned (.int .i64 (crcN s.data.toList : Nat)) ∧ Below w.heap.size w w' := by
  obtain ⟨R, hR⟩ : ∃ R, R = crcN s.data.toList := ⟨_, rfl⟩
  rw [← hR]
  have hl : R < 4294967296 := hR ▸ crcN_lt s.data.toList
  go_enter Try.func8, Try.ntmps8
  go_wp2_with (first
    | (go_at_call 16; refine (csteps_any _).mono ?_; rintro e w1 ⟨rfl, hb1⟩; have HB1 := Lib.hid hb1; clear hb1)
    | (refine wpList_store_row rfl 38 _ _ rfl w1.heap.size (tabV 16) rfl rfl 38 (tabV 0) (heap_alloc_new _ _) rfl rfl (by decide +kernel) ?_))
  obtain ⟨wt, hwt⟩ : ∃ wt, wt = (w1.alloc (.cells (tabV 0) 38)).setRow w1.heap.size (tabV 16) := ⟨_, rfl⟩
  have hrow : wt.heap[w1.heap.size]? = some (.cells (tabV 16) 38 (0, 0)) := by rw [hwt]; exact setRow_heap _ _ _ _ _ _ (heap_alloc_new _ _)
  have hbw : Below w.heap.size w wt := by
    have hb1 := HB1.out
    have hb2 := hb1.alloc hb1.size (.cells (tabV 0) 38)
    rw [hwt]
    exact ⟨hb2.os, hb2.tape, hb2.output, by rw [setRow_size]; exact hb2.size, fun k hk => (setRow_other _ _ _ _ (by have := hb1.size; omega)).trans (hb2.block k hk)⟩
  rw [tabV_zero] at hwt
  rw [← hwt]
  have HT : ∀ m : Nat, m < 16 → wt.cell? ⟨w1.heap.size, m, none⟩ = some (.int .u32 (stn 4 m : Nat)) := fun m hm => by
    have := (cell_of_row wt w1.heap.size m _ _ _ hrow).trans (tabV_get 16 m hm)
    rwa [if_pos hm] at this
  have HT := Lib.hid HT
  have HBW := Lib.hid hbw
  clear hwt hrow hbw HB1
  generalize w1.heap.size = g at *
  go_loop [4, 9] (fun c i => ∃ a x : Nat, a ≤ s.size ∧ x < 4294967296 ∧ i = .int .i64 a ∧ c = .int .u32 x ∧ sumL x (s.data.toList.drop a) = sumL 4294967295 s.data.toList) (fun _ i => s.size - (intOf i).toNat)
  case atStart => exact ⟨0, 4294967295, by omega, by omega, rfl, rfl, rfl⟩
  case round =>
    obtain ⟨a, x, ha, hx, rfl, rfl, e⟩ := hrel
    by_cases c : a < s.size
    · rw [take_sum s a c] at e
      have e1 := xorB x hx s[a]
      have e : sumL (stn 8 (x ^^^ s[a].toNat)) (s.data.toList.drop (a + 1)) = sumL 4294967295 s.data.toList := e
      have hy := xor_lt hx (u8n_lt s[a])
      generalize hz : x ^^^ s[a].toNat = z at *
      rw [stn8] at e
      have hm1 := and15_lt z
      have e2 := and15 z hy
      obtain ⟨m1, hm⟩ : ∃ m1, z &&& 15 = m1 := ⟨_, rfl⟩
      have e3 := xorT z hy m1 (hm ▸ hm1) hm
      rw [hm] at e2 hm1
      have hc1 := HT.out m1 hm1
      have hy2 := stn_lt 4 hy
      generalize stn 4 z = y at *
      have hm2 := and15_lt y
      have e4 := and15 y hy2
      obtain ⟨m2, hn⟩ : ∃ m2, y &&& 15 = m2 := ⟨_, rfl⟩
      have e5 := xorT y hy2 m2 (hn ▸ hm2) hn
      rw [hn] at e4 hm2
      have hc2 := HT.out m2 hm2
      have hy3 := stn_lt 4 hy2
      generalize stn 4 y = u at *
      clear hz hm hn
      go_wp2
      go_round
      case rel => exact ⟨a + 1, u, by omega, hy3, by go_num, rfl, e⟩
      case measure => simp [intOf]; omega
    · have hd : s.data.toList.drop a = [] := List.drop_eq_nil_of_le (by simpa using Nat.le_of_not_lt c)
      rw [hd] at e
      have e : x = sumL 4294967295 s.data.toList := e
      have e4 := notF x hx
      have hc : x ^^^ 4294967295 = R := by rw [hR, e]; rfl
      rw [hc] at e4
      clear hc e hR
      go_wp2
      go_ret
      exact ⟨by rw [show wrap64 (R : Int) = R from by unfold wrap64; omega]; rfl, HBW.out⟩
end Go.Proofs.Ytchgicgekfbdeaa
