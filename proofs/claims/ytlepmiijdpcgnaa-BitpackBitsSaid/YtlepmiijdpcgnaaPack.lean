/- Pack, the program's. -/
import Derived.Test.YtlepmiijdpcgnaaPackM
import Derived.Deep.LoopGhost
import Derived.Deep.Cut
namespace Go.Proofs.Ytlepmiijdpcgnaa
open Go.Conc Go.RowKit
set_option linter.unusedVariables false

/-- Bits on their way: S's first c bytes are in the builder, the m bits behind in the window. -/
structure Way (B b g S c m N : Nat) (w0 w : World) : Prop where
  sb : SbAt B b (bytesN c S) w
  win : WinAt w g (S / 256 ^ c) m
  sum : m + 8 * c = N
  bel : Below B w0 w
  big : B ≤ w0.heap.size
  bg : B ≤ g
  ne : b ≠ g
theorem Way.size {B b g S c m N : Nat} {w0 w : World} (h : Way B b g S c m N w0 w) : B ≤ w.heap.size := Nat.le_trans h.big h.bel.size
theorem Way.filled {B b g S c m N : Nat} {w0 w w' : World} (h : Way B b g S c m N w0 w) (y k : Nat) (hw : WinAt w' g (S / 256 ^ c + 2 ^ m * y) (m + k)) (hf : Frm (fun k => k = g) w w') (hs : bytesN c (S + 2 ^ N * y) = bytesN c S) : Way B b g (S + 2 ^ N * y) c (m + k) (N + k) w0 w' := by
  refine ⟨?_, ?_, by have := h.sum; omega, below_frm h.bel h.bg h.big hf, h.big, h.bg, h.ne⟩
  · rw [hs]; exact h.sb.frm h.win (by decide) h.ne hf
  · rw [win_fill S y c m N h.sum]; exact hw
theorem bytes_low : ∀ (c N S y : Nat), 8 * c ≤ N → bytesN c (S + 2 ^ N * y) = bytesN c S
  | 0, N, S, y, h => rfl
  | c + 1, N, S, y, h => by
    obtain ⟨M, rfl⟩ : ∃ M, N = M + 8 := ⟨N - 8, by omega⟩
    have e : S + 2 ^ (M + 8) * y = S + 256 * (2 ^ M * y) := by rw [Nat.pow_add]; rw [Nat.mul_comm (2 ^ M), Nat.mul_assoc]
    rw [bytesN, bytesN, e, Nat.add_mul_mod_self_left, Nat.add_mul_div_left _ _ (by omega), bytes_low c M (S / 256) y (by omega)]
theorem Way.emptied {B b g S c m N : Nat} {w0 w w' w'' : World} (h : Way B b g S c m N w0 w) (h8 : 8 ≤ m) (hw : WinAt w' g (S / 256 ^ c / 2 ^ 8) (m - 8)) (hs : SbAt B b (bytesN c S ++ [u8 (S / 256 ^ c % 2 ^ 8)]) w'') (hf : Frm (fun k => k = g) w w') (hb : Below B w' w'') (hk : SbKept b w' w'') : Way B b g S (c + 1) (m - 8) N w0 w'' := by
  refine ⟨by rw [← bytes_more]; exact hs, ?_, by have := h.sum; omega, (below_frm h.bel h.bg h.big hf).trans hb, h.big, h.bg, h.ne⟩
  rw [← win_empty]
  exact hw.kept hk (fun e => h.ne e.symm)

set_option maxRecDepth 100000 in
set_option maxHeartbeats 4000000 in
theorem kpack_any (w : World) (a : Option Addr) (cap : Nat) (z : Int) (xs : List Int) (ha : IsL w a xs) (hx : xs.length ≤ 17592186044416) (hb : ∀ x ∈ xs, x < 9223372036854775808) :
    Calls Try.prog 7 #[.slice a xs.length cap, .int .i64 z] w fun e w' => e = .returned (.tuple #[.string (packA xs z).1, .int .i64 (packA xs z).2]) ∧ Below w.heap.size w w' := by
  by_cases cz : 0 ≤ z ∧ z ≤ 16
  · obtain ⟨k, rfl⟩ : ∃ k : Nat, z = k := ⟨z.toNat, by omega⟩
    have hk : k ≤ 16 := by omega
    have TI := Lib.hid (kis_any (k : Int) w)
    rw [decide_eq_true cz] at TI
    have TF := Lib.hid (kfit_any w a cap k hk xs ha (by simp only [maxLen]; omega) hb)
    by_cases cf : fits k xs
    · rw [decide_eq_true cf] at TF
      rw [packA_yes hk cf]
      have TB := Lib.hid (kbytes_any xs.length k (by omega) hk)
      have hbf := bytesFor_le xs.length k hk
      have HF := Lib.hid cf
      have HL := Lib.hid (fun n => pk_lt cf n)
      have HSn := Lib.hid (pk_succ k xs)
      have HA := Lib.hid ha
      generalize hnb : bytesFor xs.length k = nb at *
      have hkn : ∀ n, n ≤ xs.length → k * n ≤ 16 * 17592186044416 := fun n hn => Nat.mul_le_mul hk (Nat.le_trans hn hx)
      have HKN := Lib.hid hkn
      have HB0 : Hid (Below w.heap.size w (w.alloc (.cells #[.pointer none, .slice none 0 0] 46))) := (Below.refl _ _).alloc (Nat.le_refl _) _
      have hbk : (w.alloc (.cells #[.pointer none, .slice none 0 0] 46)).heap[w.heap.size]? = some (.cells #[.pointer none, .slice none 0 0] 46 (0, 0)) := heap_alloc_new w _
      have TG := Lib.hid (sbgrow_any w.heap.size w.heap.size nb _ (Nat.le_refl _) hbk HB0.out.size (by omega))
      clear cz cf hb ha hkn hbk hnb
      go_enter Try.func7, Try.ntmps7
      go_upto_region 7 with (first
        | (go_at_call 19; refine TI.out.mono ?_; rintro e w' ⟨rfl, rfl⟩)
        | (go_at_call 20; refine TF.out.mono ?_; rintro e w' ⟨rfl, rfl⟩)
        | (go_at_call 22; refine (TB.out _).mono ?_; rintro e w' ⟨rfl, rfl⟩)
        | (go_at_call 21; refine TG.out.mono ?_; rintro e w1 ⟨rfl, hs, hb1⟩; have HS := Lib.hid hs; have HB1 := Lib.hid (HB0.out.trans hb1); clear hs hb1))
      have hway : Way w.heap.size w.heap.size w1.heap.size 0 0 0 0 w (w1.alloc (.cells #[.int .u32 0, .int .i64 0] 51)) := by
        have h1 := HB1.out.size
        have h2 := HS.out
        refine ⟨h2.alloc _, heap_alloc_new w1 _, rfl, HB1.out.alloc h1 _, Nat.le_refl _, h1, ?_⟩
        rcases h2 with h2 | h2 <;> exact Nat.ne_of_lt h2.lt
      have HW := Lib.hid hway
      clear hway HS HB1 TI TF TB TG
      go_upto_region 8 with (fail)
      generalize w1.alloc (.cells #[.int .u32 0, .int .i64 0] 51) = w2 at *
      generalize hg : w1.heap.size = g at *
      clear hg
      go_wp2
      go_loopw [24] (fun iv wr => ∃ n c m : Nat, n ≤ xs.length ∧ m < 8 ∧ iv = .int .i64 n ∧ Hid (Way w.heap.size w.heap.size g (pk k xs n) c m (k * n) w wr)) (fun iv _ => xs.length - (intOf iv).toNat)
      case atStart => exact ⟨0, 0, 0, Nat.zero_le _, by omega, rfl, by rw [pk_zero, Nat.mul_zero]; exact HW.out⟩
      case round =>
        clear HW
        obtain ⟨n, c, m, hle, hm, rfl, HW⟩ := hrel
        by_cases cn : n < xs.length
        · rcases HA.out with h | ⟨ab, off, rfl, h⟩
          · subst h; simp at cn
          have hcell := (HW.out.bel.cell (p := ⟨ab, off + n, none⟩) (World.block_lt_of_cell? w _ (h n cn))).trans (h n cn)
          have hm1 : xs[n] ∈ xs := List.getElem_mem cn
          obtain ⟨h0, h1⟩ := HF.out _ hm1
          have hp : (2 : Int) ^ k = ((2 ^ k : Nat) : Int) := by simp
          have hp2 : 2 ^ k ≤ 2 ^ 16 := Nat.pow_le_pow_right (by omega) hk
          rw [hp] at h1
          obtain ⟨y, hy⟩ : ∃ y : Nat, xs[n] = (y : Int) := ⟨xs[n].toNat, by omega⟩
          have hS := HSn.out n cn
          rw [hy, Int.toNat_natCast] at hS
          rw [hy] at hcell h1
          have hy16 : y < 65536 := by omega
          have ey : (y : Int) % 4294967296 = (y : Int) := by omega
          have hS2 := HL.out (n + 1) cn
          have hN := HKN.out (n + 1) cn
          have eN : k * (n + 1) = k * n + k := Nat.mul_succ k n
          have hB := win_lt (HL.out n hle) HW.out.sum
          have HHS := Lib.hid hS
          have HS2 := Lib.hid hS2
          have HEN := Lib.hid eN
          have hbl : bytesN c (pk k xs n + 2 ^ (k * n) * y) = bytesN c (pk k xs n) := bytes_low c (k * n) _ y (by have := HW.out.sum; omega)
          have HBL := Lib.hid hbl
          clear hS hS2 hp2 hp h h0 h1 hy hm1 eN hbl
          go_upto_region 12 with (go_at_call 23; refine (kfill_any _ g (pk k xs n / 256 ^ c) m y k HW.out.win hB (by omega) hy16 hk).mono ?_; rintro e w3 ⟨rfl, hw3, hf3⟩; have HW3 := Lib.hid (HW.out.filled y k hw3 hf3 HBL.out); clear hw3 hf3)
          rw [← HHS.out, ← HEN.out] at HW3
          clear HW HHS HEN HBL hB hcell ey hy16 HA HF HSn
          obtain ⟨wo, hwo⟩ : ∃ wo : World, wo = wr := ⟨_, rfl⟩
          clear hwo
          go_loopg [] (m + k + 1) (fun q wr => ∃ c m : Nat, m < q ∧ q ≤ 25 ∧ Hid (Way w.heap.size w.heap.size g (pk k xs (n + 1)) c m (k * (n + 1)) w wr))
          case atStart => exact ⟨c, m + k, by omega, by omega, HW3⟩
          case round =>
            clear HW3
            obtain ⟨c, m, hq, hq2, HW⟩ := hrel
            have d1 : wr.cell? ⟨g, 1, none⟩ = some (.int .i64 (m : Int)) := cell_of_row wr g 1 _ _ _ HW.out.win
            by_cases c8 : 8 ≤ m
            · have hB := win_lt HS2.out HW.out.sum
              have hB2 : 2 ^ m ≤ 2 ^ 24 := Nat.pow_le_pow_right (by omega) (by omega)
              have hB3 : pk k xs (n + 1) / 256 ^ c < 4294967296 := by omega
              have hsum := HW.out.sum
              have hz : pk k xs (n + 1) / 256 ^ c % 2 ^ 8 < 256 := Nat.mod_lt _ (by omega)
              obtain ⟨z, hzz⟩ : ∃ z, z = pk k xs (n + 1) / 256 ^ c % 2 ^ 8 := ⟨_, rfl⟩
              rw [← hzz] at hz
              have TE := Lib.hid (kempty_any wr g _ m 8 HW.out.win hB3 (by omega) (by omega) c8)
              rw [← hzz] at TE
              have TB := Lib.hid (fun W (h : SbAt w.heap.size w.heap.size (bytesN c (pk k xs (n + 1))) W) (h2 : w.heap.size ≤ W.heap.size) => sbbyte_any w.heap.size w.heap.size _ z hz W h (by rw [bytesN_length]; omega) h2)
              have ez : (z : Int) % 256 = (z : Int) := by omega
              have c9 : (8 : Int) ≤ (m : Int) := by omega
              have HZ := Lib.hid hzz
              clear hB hB2 hB3 hzz
              go_wp2_with (first
                | (go_at_call 25; refine TE.out.mono ?_; rintro e w4 ⟨rfl, hw4, hf4⟩; have HW4 := Lib.hid hw4; have HF4 := Lib.hid hf4; have HS4 := Lib.hid (HW.out.sb.frm HW.out.win (by decide) HW.out.ne hf4); clear hw4 hf4)
                | (go_at_call 24; refine (TB.out _ HS4.out (Nat.le_trans HW.out.size HF4.out.size)).mono ?_; rintro e w5 ⟨rfl, hs5, hb5, hk5⟩; rw [HZ.out] at hs5; have HW5 := Lib.hid (HW.out.emptied c8 HW4.out hs5 HF4.out hb5 hk5); clear hs5 hb5 hk5))
              go_roundg (m - 8 + 1)
              case rel => exact ⟨c + 1, m - 8, by omega, by omega, HW5⟩
              case measure => omega
            · have hm9 : m < 8 := by omega
              have c9 : ¬ (8 : Int) ≤ (m : Int) := by omega
              clear c8
              go_wp2
              go_roundw
              case rel => exact ⟨n + 1, c, m, by omega, hm9, by go_num, HW⟩
              case measure => simp [intOf]; omega
        · obtain rfl : n = xs.length := by omega
          have hS := HL.out xs.length (Nat.le_refl _)
          have hN := HKN.out xs.length (Nat.le_refl _)
          clear HL HKN HSn HA HF HB0 cn
          generalize hN0 : k * xs.length = N at *
          generalize hS0 : pk k xs xs.length = S at *
          have HN0 := Lib.hid hN0
          have HS0 := Lib.hid hS0
          clear hN0 hS0
          have d1 : wr.cell? ⟨g, 1, none⟩ = some (.int .i64 (m : Int)) := cell_of_row wr g 1 _ _ _ HW.out.win
          have hsum := HW.out.sum
          by_cases c0 : m = 0
          · have hl := bytes_full (S := S) hsum c0
            have c1 : ¬ (0 : Int) < (m : Int) := by omega
            have TS := Lib.hid (sbstring_any w.heap.size w.heap.size _ wr HW.out.sb HW.out.size)
            rw [hl] at TS
            have HT : Hid (∀ l : List UInt8, (⟨l.toArray⟩ : ByteArray) = textB l) := fun _ => rfl
            rw [HT.out] at TS
            clear hl c0
            go_wp2_with (go_at_call 26; refine TS.out.mono ?_; rintro e w6 ⟨rfl, hb6, hk6⟩; have HB6 := Lib.hid (HW.out.bel.trans hb6); clear hb6 hk6)
            go_ret2
            exact ⟨by rw [HN0.out, HS0.out]; rfl, HB6.out⟩
          · have hB := win_lt hS hsum
            have hB2 : 2 ^ m ≤ 2 ^ 8 := Nat.pow_le_pow_right (by omega) (by omega)
            have hB3 : S / 256 ^ c < 4294967296 := by omega
            have hz : S / 256 ^ c % 2 ^ m < 256 := by have := Nat.mod_le (S / 256 ^ c) (2 ^ m); omega
            have hl := bytes_last hS hsum hm (by omega)
            obtain ⟨z, hzz⟩ : ∃ z, z = S / 256 ^ c % 2 ^ m := ⟨_, rfl⟩
            rw [← hzz] at hz hl
            have TE := Lib.hid (kempty_any wr g _ m m HW.out.win hB3 (by omega) (by omega) (Nat.le_refl _))
            rw [← hzz] at TE
            have TB := Lib.hid (fun W (h : SbAt w.heap.size w.heap.size (bytesN c S) W) (h2 : w.heap.size ≤ W.heap.size) => sbbyte_any w.heap.size w.heap.size _ z hz W h (by rw [bytesN_length]; omega) h2)
            rw [hl] at TB
            have TS := Lib.hid (fun W (h : SbAt w.heap.size w.heap.size (bytesN ((N + 7) / 8) S) W) (h2 : w.heap.size ≤ W.heap.size) => sbstring_any w.heap.size w.heap.size _ W h h2)
            have HT : Hid (∀ l : List UInt8, (⟨l.toArray⟩ : ByteArray) = textB l) := fun _ => rfl
            rw [HT.out] at TS
            have ez : (z : Int) % 256 = (z : Int) := by omega
            have c1 : (0 : Int) < (m : Int) := by omega
            clear hB hB2 hB3 hzz hl hS
            go_wp2_with (first
              | (go_at_call 25; refine TE.out.mono ?_; rintro e w4 ⟨rfl, hw4, hf4⟩; have HF4 := Lib.hid (below_frm HW.out.bel HW.out.bg (Nat.le_refl _) hf4); have HS4 := Lib.hid (HW.out.sb.frm HW.out.win (by decide) HW.out.ne hf4); clear hw4 hf4)
              | (go_at_call 24; refine (TB.out _ HS4.out HF4.out.size).mono ?_; rintro e w5 ⟨rfl, hs5, hb5, hk5⟩; have HS5 := Lib.hid hs5; have HB5 := Lib.hid (HF4.out.trans hb5); clear hs5 hb5 hk5)
              | (go_at_call 26; refine (TS.out _ HS5.out HB5.out.size).mono ?_; rintro e w6 ⟨rfl, hb6, hk6⟩; have HB6 := Lib.hid (HB5.out.trans hb6); clear hb6 hk6))
            go_ret2
            exact ⟨by rw [HN0.out, HS0.out]; rfl, HB6.out⟩
    · rw [decide_eq_false cf] at TF
      rw [packA_range hk cf]
      go_enter Try.func7, Try.ntmps7
      go_wp2_with (first
        | (go_at_call 19; refine TI.out.mono ?_; rintro e w' ⟨rfl, rfl⟩)
        | (go_at_call 20; refine TF.out.mono ?_; rintro e w' ⟨rfl, rfl⟩))
      go_ret2
      exact ⟨rfl, Below.refl _ _⟩
  · have TI := Lib.hid (kis_any z w)
    rw [decide_eq_false cz] at TI
    rw [packA_width cz]
    go_enter Try.func7, Try.ntmps7
    go_wp2_with (go_at_call 19; refine TI.out.mono ?_; rintro e w' ⟨rfl, rfl⟩)
    go_ret2
    exact ⟨rfl, Below.refl _ _⟩
end Go.Proofs.Ytlepmiijdpcgnaa
