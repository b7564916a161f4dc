/- Unpack, the program's. -/
import Derived.Test.YtlepmiijdpcgnaaUnpackM
import Derived.Deep.LoopGhost
import Derived.Deep.Cut
namespace Go.Proofs.Ytlepmiijdpcgnaa
open Go.Conc Go.RowKit
set_option linter.unusedVariables false

theorem infoIntRow : (Try.prog.info? 3).map (fun i => (i.zero, i.size, i.bytes)) = some (some (.int .i64 0), 1, 8) := by kernel_rfl
/-- make([]int, n). -/
theorem make_ints (f : Nat → Int) (w : World) (n : Nat) (h : n ≤ 65536) : (Instr.makeSlice 22 (.int .i64 (n : Int)) (.int .i64 (n : Int))).run Try.prog w = .ok (.slice (some ⟨w.heap.size, 0, none⟩) n n) (w.alloc (.cells (rowI f n 0) 3)) := by
  obtain ⟨i0, hi, hz0, hz1, hz2⟩ := info_parts infoIntRow
  have hr := run_make (P := Try.prog) w 22 3 i0 _ Try.underlying22 hi hz0 .i64 .i64 (n : Int) (n : Int) (by omega) (Int.le_refl _) (by rw [hz2]; omega) (by omega)
  rw [Int.toNat_natCast, hz1, Nat.mul_one, rowI_made f n] at hr
  exact hr

/-- Where the reading stands: i numbers out, a bytes in, m bits in the window. -/
structure Red (B x g k S n : Nat) (i a m : Nat) (w0 w : World) : Prop where
  row : w.heap[x]? = some (.cells (rowI (fun j => (dig k S j : Int)) n i) 3 (0, 0))
  win : WinAt w g (wst k S a i) m
  sum : m + k * i = 8 * a
  bel : Below B w0 w
  big : B ≤ w0.heap.size
  bx : B ≤ x
  bg : B ≤ g
  ne : x ≠ g
theorem Red.filled {B x g k S n i a m : Nat} {w0 w w' : World} (h : Red B x g k S n i a m w0 w) (hw : WinAt w' g (wst k S a i + 2 ^ m * (S / 256 ^ a % 256)) (m + 8)) (hf : Frm (fun k => k = g) w w') : Red B x g k S n i (a + 1) (m + 8) w0 w' := by
  rw [wst_fill h.sum] at hw
  exact ⟨(hf.block x (Array.getElem?_eq_some_iff.1 h.row).1 h.ne).trans h.row, hw, by have := h.sum; omega, below_frm h.bel h.bg h.big hf, h.big, h.bx, h.bg, h.ne⟩
theorem Red.taken {B x g k S n i a m : Nat} {w0 w w' : World} (h : Red B x g k S n i a m w0 w) (hi : i < n) (hk : k ≤ m) (hw : WinAt w' g (wst k S a i / 2 ^ k) (m - k)) (hf : Frm (fun k => k = g) w w') : Red B x g k S n (i + 1) a (m - k) w0 (w'.setCell ⟨x, i, none⟩ (.int .i64 (dig k S i : Nat))) := by
  rw [wst_empty] at hw
  have hr := (hf.block x (Array.getElem?_eq_some_iff.1 h.row).1 h.ne).trans h.row
  refine ⟨?_, ?_, by have := h.sum; rw [Nat.mul_succ]; omega, (below_frm h.bel h.bg h.big hf).setCell (p := ⟨x, i, none⟩) h.bx _, h.big, h.bx, h.bg, h.ne⟩
  · rw [← rowI_step _ n i hi]
    exact heap_setCell_same _ _ _ _ _ _ hr
  · unfold WinAt
    rw [heap_setCell_other _ _ _ _ (fun e => h.ne e.symm)]
    exact hw

set_option maxRecDepth 100000 in
set_option maxHeartbeats 4000000 in
theorem kunpack_any (w : World) (s : ByteArray) (hs : s.size ≤ 281474976710648) (many z : Int) :
    Calls Try.prog 9 #[.string s, .int .i64 many, .int .i64 z] w fun e w' => ∃ a cap, e = .returned (.tuple #[.slice a (unpackA s many z).1.length cap, .int .i64 (unpackA s many z).2]) ∧ OwnI w.heap.size w' a cap (unpackA s many z).1 ∧ Below w.heap.size w w' := by
  by_cases cz : 0 ≤ z ∧ z ≤ 16
  · obtain ⟨k, rfl⟩ : ∃ k : Nat, z = k := ⟨z.toNat, by omega⟩
    have hk : k ≤ 16 := by omega
    have TI := Lib.hid (kis_any (k : Int) w)
    rw [decide_eq_true cz] at TI
    clear cz
    by_cases cm : 0 ≤ many ∧ many ≤ 65536
    · obtain ⟨n, rfl⟩ : ∃ n : Nat, many = n := ⟨many.toNat, by omega⟩
      have hn : n ≤ 65536 := by omega
      have TB := Lib.hid (kbytes_any n k (by omega) hk)
      have m1 : ¬ (n : Int) < 0 := by omega
      have m2 : decide ((65536 : Int) < (n : Int)) = false := decide_eq_false (by omega)
      have m3 : decide ((n : Int) < 0) = false := decide_eq_false (by omega)
      clear cm
      by_cases cs : s.size = bytesFor n k
      · rw [← cs] at TB
        have hkn : k * n ≤ 16 * 65536 := Nat.mul_le_mul hk hn
        have h8 : k * n ≤ 8 * s.size ∧ 8 * s.size ≤ k * n + 7 := by rw [cs, bytesFor, Nat.mul_comm n k]; omega
        have HA : Hid ((numT s / 2 ^ (k * n) = 0 → unpackA s n k = ((List.range n).map (fun i => (dig k (numT s) i : Int)), 0)) ∧ (numT s / 2 ^ (k * n) ≠ 0 → unpackA s n k = ([], 602))) := ⟨fun h => unpackA_yes hk hn ⟨cs, h⟩, fun h => unpackA_cut hk hn (fun x => h x.2)⟩
        have HL := Lib.hid (numT_lt s)
        have HY := Lib.hid (numT_byte s)
        generalize hR : unpackA s n k = R at *
        generalize hS : numT s = S at *
        have hmk := make_ints (fun j => (dig k S j : Int)) w n hn
        have HBX := Lib.hid ((Below.refl w.heap.size w).alloc (Nat.le_refl _) (.cells (rowI (fun j => (dig k S j : Int)) n 0) 3))
        have HRX := Lib.hid (heap_alloc_new w (.cells (rowI (fun j => (dig k S j : Int)) n 0) 3))
        have hxs : (w.alloc (.cells (rowI (fun j => (dig k S j : Int)) n 0) 3)).heap.size = w.heap.size + 1 := by simp
        clear hR hS cs
        go_enter Try.func9, Try.ntmps9
        go_upto_region 8 with (first
          | (go_at_call 19; refine TI.out.mono ?_; rintro e w' ⟨rfl, rfl⟩)
          | (go_at_call 22; refine (TB.out _).mono ?_; rintro e w' ⟨rfl, rfl⟩))
        have hred : Red w.heap.size w.heap.size (w.heap.size + 1) k S n 0 0 0 w ((w.alloc (.cells (rowI (fun j => (dig k S j : Int)) n 0) 3)).alloc (.cells #[.int .u32 0, .int .i64 0] 51)) := by
          refine ⟨(Below.heap_alloc _ _ _ (by rw [hxs]; omega)).trans HRX.out, ?_, rfl, HBX.out.alloc HBX.out.size _, Nat.le_refl _, Nat.le_refl _, by omega, by omega⟩
          rw [wst_zero, ← hxs]
          exact heap_alloc_new _ _
        have HW := Lib.hid hred
        clear hred HBX HRX hmk TI TB
        go_upto_region 9 with (fail)
        generalize (w.alloc (.cells (rowI (fun j => (dig k S j : Int)) n 0) 3)).alloc (.cells #[.int .u32 0, .int .i64 0] 51) = w2 at *
        generalize hg : w.heap.size + 1 = g at *
        generalize hx : w.heap.size = x at *
        have HX := Lib.hid hx
        clear hg hxs hx
        go_wp2
        go_loopw [10, 31] (fun av iv wr => ∃ i a m : Nat, i ≤ n ∧ m ≤ 23 ∧ a ≤ s.size ∧ iv = .int .i64 i ∧ av = .int .i64 a ∧ Hid (Red x x g k S n i a m w wr)) (fun _ iv _ => n - (intOf iv).toNat)
        case atStart => exact ⟨0, 0, 0, Nat.zero_le _, by omega, Nat.zero_le _, rfl, rfl, HW⟩
        case round =>
          clear HW
          obtain ⟨i, a, m, hi, hm, ha, rfl, rfl, HW⟩ := hrel
          by_cases ci : i < n
          · have hki : k * (i + 1) ≤ k * n := Nat.mul_le_mul_left _ ci
            rw [Nat.mul_succ] at hki
            go_upto_region 13 with (fail)
            go_loopw [10] (fun av wr => ∃ a m : Nat, m ≤ 23 ∧ a ≤ s.size ∧ av = .int .i64 a ∧ Hid (Red x x g k S n i a m w wr)) (fun av _ => s.size - (intOf av).toNat)
            case atStart => exact ⟨a, m, hm, ha, rfl, HW⟩
            case round =>
              clear HW
              obtain ⟨a, m, hm, ha, rfl, HW⟩ := hrel
              have hsum := HW.out.sum
              have d1 : wr.cell? ⟨g, 1, none⟩ = some (.int .i64 (m : Int)) := cell_of_row wr g 1 _ _ _ HW.out.win
              have hlt := wst_lt (S := S) hsum
              by_cases c : m < k
              · have hal : a < s.size := by omega
                have hy := HY.out a hal
                have hb := (s[a]'hal).toNat_lt
                have hb : (s[a]'hal).toNat < 256 := hb
                have ey : ((s[a]'hal).toNat : Int) % 4294967296 = ((s[a]'hal).toNat : Int) := by omega
                have TF := Lib.hid (kfill_any wr g _ m (s[a]'hal).toNat 8 HW.out.win hlt (by omega) (by omega) (by omega))
                have HYa := Lib.hid hy
                clear hy hlt hsum
                go_wp2_with (go_at_call 23; refine TF.out.mono ?_; rintro e w3 ⟨rfl, hw3, hf3⟩; rw [HYa.out] at hw3; have HW3 := Lib.hid (HW.out.filled hw3 hf3); clear hw3 hf3)
                go_roundw
                case rel => exact ⟨a + 1, m + 8, by omega, hal, by go_num, HW3⟩
                case measure => simp [intOf]; omega
              · have c2 : k ≤ m := by omega
                have c3 : ¬ (m : Int) < (k : Int) := by omega
                have hm2 : 2 ^ m ≤ 2 ^ 23 := Nat.pow_le_pow_right (by omega) hm
                have TE := Lib.hid (kempty_any wr g _ m k HW.out.win (by omega) (by omega) hk c2)
                rw [wst_digit hsum c2] at TE
                have hd := dig_lt k S i
                have hp2 : 2 ^ k ≤ 2 ^ 16 := Nat.pow_le_pow_right (by omega) hk
                have HTK := Lib.hid (fun w' hw hf => HW.out.taken (w' := w') ci c2 hw hf)
                have hrow : ∀ w', Frm (fun k => k = g) wr w' → w'.heap[x]? = some (.cells (rowI (fun j => (dig k S j : Int)) n i) 3 (0, 0)) := fun w' hf => (hf.block x (Array.getElem?_eq_some_iff.1 HW.out.row).1 HW.out.ne).trans HW.out.row
                have HROW := Lib.hid hrow
                have hgi := Lib.hid (rowI_get (fun j => (dig k S j : Int)) n i i ci)
                clear hlt hsum c hm2 hrow
                generalize dig k S i = dg at *
                have ed : (dg : Int) % 18446744073709551616 = (dg : Int) := by omega
                go_wp2_with (go_at_call 25; refine TE.out.mono ?_; rintro e w4 ⟨rfl, hw4, hf4⟩; have hr4 := HROW.out w4 hf4; have hc4 := (cell_of_row w4 x i _ _ _ hr4).trans hgi.out; have hfz := frozen_of_row w4 x i _ _ hr4; have HW4 := Lib.hid (HTK.out w4 hw4 hf4); clear hw4 hf4 hr4)
                go_roundw
                case rel => exact ⟨i + 1, a, m - k, by omega, by omega, ha, by go_num, rfl, HW4⟩
                case measure => simp [intOf]; omega
          · obtain rfl : i = n := by omega
            have hsum := HW.out.sum
            have hae : a = s.size := by omega
            subst hae
            have d0 : wr.cell? ⟨g, 0, none⟩ = some (.int .u32 (wst k S s.size i : Nat)) := cell_of_row wr g 0 _ _ _ HW.out.win
            rw [wst_end HL.out] at d0
            have HRW := HW.out.row
            have HRW := Lib.hid HRW
            clear hsum ci hkn h8
            by_cases c0 : S / 2 ^ (k * i) = 0
            · have hR := HA.out.1 c0
              have HRR := Lib.hid hR
              rw [c0] at d0
              clear hR c0
              go_wp2
              go_ret2
              have hX := HX.out
              refine ⟨some ⟨x, 0, none⟩, i, by rw [HRR.out]; simp, ?_, ?_⟩
              · rw [HRR.out]
                exact own_row HRW.out (Nat.le_of_eq hX) (by simp only [maxLen]; omega) rfl
              · have := HW.out.bel
                rw [← hX] at this
                exact this
            · have HRR := Lib.hid (HA.out.2 c0)
              have c1 : ((S / 2 ^ (k * i) : Nat) : Int) ≠ 0 := by omega
              have c2 : (((S / 2 ^ (k * i) : Nat) : Int) != 0) = true := by simpa using c1
              generalize S / 2 ^ (k * i) = q at *
              clear c0 c1
              go_wp2
              go_ret2
              have hX := HX.out
              refine ⟨none, 0, by rw [HRR.out]; rfl, by rw [HRR.out]; exact OwnI.nil _ _, ?_⟩
              have := HW.out.bel
              rw [← hX] at this
              exact this
      · have HA := Lib.hid (unpackA_cut (s := s) hk hn (fun x => cs x.1))
        generalize hR : unpackA s n k = R at *
        have hne : ((s.size : Int) != (bytesFor n k : Int)) = true := by simp; omega
        generalize bytesFor n k = nb at *
        clear hR cs
        go_enter Try.func9, Try.ntmps9
        go_wp2_with (first
          | (go_at_call 19; refine TI.out.mono ?_; rintro e w' ⟨rfl, rfl⟩)
          | (go_at_call 22; refine (TB.out _).mono ?_; rintro e w' ⟨rfl, rfl⟩))
        go_ret2
        exact ⟨none, 0, by rw [HA.out]; rfl, by rw [HA.out]; exact OwnI.nil _ _, Below.refl _ _⟩
    · have HA := Lib.hid (unpackA_many (s := s) hk cm)
      generalize hR : unpackA s many k = R at *
      clear hR
      by_cases c1 : many < 0
      · go_enter Try.func9, Try.ntmps9
        go_wp2_with (go_at_call 19; refine TI.out.mono ?_; rintro e w' ⟨rfl, rfl⟩)
        go_ret2
        exact ⟨none, 0, by rw [HA.out]; rfl, by rw [HA.out]; exact OwnI.nil _ _, Below.refl _ _⟩
      · have c2 : 65536 < many := by omega
        clear cm
        go_enter Try.func9, Try.ntmps9
        go_wp2_with (go_at_call 19; refine TI.out.mono ?_; rintro e w' ⟨rfl, rfl⟩)
        go_ret2
        exact ⟨none, 0, by rw [HA.out]; rfl, by rw [HA.out]; exact OwnI.nil _ _, Below.refl _ _⟩
  · have TI := Lib.hid (kis_any z w)
    rw [decide_eq_false cz] at TI
    have HA := Lib.hid (unpackA_width (s := s) (many := many) cz)
    generalize hR : unpackA s many z = R at *
    clear hR cz
    go_enter Try.func9, Try.ntmps9
    go_wp2_with (go_at_call 19; refine TI.out.mono ?_; rintro e w' ⟨rfl, rfl⟩)
    go_ret2
    exact ⟨none, 0, by rw [HA.out]; rfl, by rw [HA.out]; exact OwnI.nil _ _, Below.refl _ _⟩
end Go.Proofs.Ytlepmiijdpcgnaa
