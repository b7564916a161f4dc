/- Numbers one behind the other are read one behind the other: the walk of the law. -/
import Derived.Test.YtllekjmmmalblaaLVarintSizes
namespace Go.Proofs.Ytllekjmmmalblaa
open Go.RowKit
set_option linter.unusedVariables false

/-- A slice of numbers that came in. -/
def IsInts (w : World) (a : Option Addr) (len : Nat) (zs : Nat → Int) : Prop :=
  len = 0 ∨ ∃ b off, a = some ⟨b, off, none⟩ ∧ ∀ i, i < len → w.cell? ⟨b, off + i, none⟩ = some (.int .i64 (zs i))
/-- A number's low twenty bits. -/
def lo (z : Int) : Nat := (z % 1048576).toNat
theorem lo_lt (z : Int) : lo z < 1048576 := by unfold lo; omega
/-- The first n numbers, one behind the other, each as two. -/
def rowL (zs : Nat → Int) : Nat → List UInt8
  | 0 => []
  | n + 1 => rowL zs n ++ vp (lo (zs n)) ++ vp (zz (zs n))
theorem rowL_le (zs : Nat → Int) : ∀ n, (rowL zs n).length ≤ 20 * n
  | 0 => Nat.le_refl _
  | n + 1 => by
    have h1 := rowL_le zs n
    have h2 := vp_le (lo (zs n))
    have h3 := vp_le (zz (zs n))
    rw [rowL, List.length_append, List.length_append]
    omega
theorem rowL_more (zs : Nat → Int) (j : Nat) : ∀ n, j ≤ n → ∃ r, rowL zs n = rowL zs j ++ r
  | 0, h => ⟨[], by rw [show j = 0 by omega]; rfl⟩
  | n + 1, h => by
    by_cases c : j = n + 1
    · exact ⟨[], by rw [c, List.append_nil]⟩
    · obtain ⟨r, hr⟩ := rowL_more zs j n (by omega)
      exact ⟨r ++ vp (lo (zs n)) ++ vp (zz (zs n)), by rw [rowL, hr]; simp only [List.append_assoc]⟩
theorem textB_app (a b : List UInt8) : textB a ++ textB b = textB (a ++ b) := by
  unfold textB
  apply ByteArray.ext
  simp
theorem lowm (z : Int) : bits .and .i64 z 1048575 = (lo z : Int) := lowBits 20 (by omega) z
/-- What is read at the j-th number's place. -/
theorem row_get (zs : Nat → Int) (j N : Nat) (h : j < N) : getA (readN (rowL zs N) ((rowL zs j).length : Nat)) = (((lo (zs j) : Nat) : Int), (((rowL zs j ++ vp (lo (zs j))).length : Nat) : Int), 0) := by
  obtain ⟨r, hr⟩ := rowL_more zs (j + 1) N h
  have hl := lo_lt (zs j)
  have e := readN_vp (rowL zs j) (vp (zz (zs j)) ++ r) (lo (zs j)) (by omega)
  have hs : rowL zs j ++ vp (lo (zs j)) ++ (vp (zz (zs j)) ++ r) = rowL zs N := by rw [hr, rowL, List.append_assoc, List.append_assoc, List.append_assoc]
  rw [hs] at e
  rw [e]
  unfold getA
  rw [if_pos rfl, if_neg (by show ¬ 9223372036854775807 < lo (zs j); omega), List.length_append]
  rfl
theorem row_zag (zs : Nat → Int) (j N : Nat) (h : j < N) (h0 : -9223372036854775808 ≤ zs j) (h1 : zs j < 9223372036854775808) : zagA (readN (rowL zs N) ((rowL zs j ++ vp (lo (zs j))).length : Nat)) = (zs j, (((rowL zs (j + 1)).length : Nat) : Int), 0) := by
  obtain ⟨r, hr⟩ := rowL_more zs (j + 1) N h
  have e := readN_vp (rowL zs j ++ vp (lo (zs j))) r (zz (zs j)) (zz_lt h0 (by omega))
  have hs : rowL zs j ++ vp (lo (zs j)) ++ vp (zz (zs j)) ++ r = rowL zs N := by rw [hr, rowL]
  rw [hs] at e
  rw [e]
  unfold zagA
  have e1 : (rowL zs (j + 1)).length = (rowL zs j ++ vp (lo (zs j))).length + (vp (zz (zs j))).length := by rw [rowL, List.length_append]
  rw [if_pos rfl, unzz_zz, e1]
  rfl
theorem row_end (zs : Nat → Int) (N : Nat) : getA (readN (rowL zs N) ((rowL zs N).length : Nat)) = (0, 0, 500) := by
  rw [readN_cut (by rw [List.drop_length]; rfl)]
  rfl

set_option maxHeartbeats 400000 in
set_option maxRecDepth 100000 in
theorem varintrow_walk (a : Option Addr) (len cap : Nat) (zs : Nat → Int) (w : World) (hzs : IsInts w a len zs) (hlen : len ≤ maxLen) (hzb : ∀ i, i < len → -9223372036854775808 ≤ zs i ∧ zs i < 9223372036854775808) :
    Calls Try.prog 6 #[.slice a len cap] w fun e w' => e = .returned (.bool true) ∧ Below w.heap.size w w' := by
  unfold maxLen at hlen
  obtain ⟨N, hN1, hN2, hN3⟩ : ∃ N, N ≤ len ∧ N ≤ 40 ∧ (¬ N < len ∨ (N < len ∧ ¬ N < 40)) := by
    by_cases c : len < 40
    · exact ⟨len, Nat.le_refl _, by omega, .inl (by omega)⟩
    · by_cases c2 : len = 40
      · exact ⟨40, by omega, Nat.le_refl _, .inl (by omega)⟩
      · exact ⟨40, by omega, Nat.le_refl _, .inr ⟨by omega, by omega⟩⟩
  have HZ := Lib.hid hzb
  have HC := Lib.hid hzs
  have H3 := Lib.hid hN3
  have HB : Hid (Below w.heap.size w w) := Below.refl _ _
  clear hzb hzs hN3
  go_enter Try.func6, Try.ntmps6
  go_wp2_with (go_at_call 16; refine (vawake_any _).mono ?_; rintro e w1 ⟨rfl, hb⟩; replace HB := Lib.hid (HB.out.trans (hb.mono HB.out.size)); clear hb)
  go_loopw [3, 4] (fun sv iv wr => ∃ n : Nat, n ≤ N ∧ iv = .int .i64 n ∧ sv = .string (textB (rowL zs n)) ∧ Hid (Below w.heap.size w wr)) (fun _ iv _ => N - (intOf iv).toNat)
  case atStart => exact ⟨0, Nat.zero_le _, rfl, rfl, HB⟩
  case round =>
    obtain ⟨n, hn, rfl, rfl, HB2⟩ := hrel
    have hz := rowL_le zs n
    by_cases c : n < N
    · have hlt : n < len := by omega
      have h40 : n < 40 := by omega
      rcases HC.out with h | ⟨bb, off, rfl, hcells⟩
      · omega
      have hb0 : bb < w.heap.size := World.block_lt_of_cell? w ⟨bb, off + n, none⟩ (hcells n hlt)
      have c0 := (HB2.out.cell (p := ⟨bb, off + n, none⟩) hb0).trans (hcells n hlt)
      obtain ⟨z0, z1⟩ := HZ.out n hlt
      have em := lowm (zs n)
      have hm := lo_lt (zs n)
      have TP := Lib.hid (vput_yes (lo (zs n)) (by omega))
      have TZ := Lib.hid (vzig_any (zs n) z0 z1)
      have HK := Lib.hid (hcells n hlt)
      have y1 := vp_le (lo (zs n))
      have y2 := vp_le (zz (zs n))
      have er : textB (rowL zs (n + 1)) = textB (rowL zs n) ++ textB (vp (lo (zs n))) ++ textB (vp (zz (zs n))) := by rw [textB_app, textB_app]; rfl
      have s0 : (textB (rowL zs n)).size ≤ 800 := by rw [textB_size]; omega
      have s1 : (textB (vp (lo (zs n)))).size ≤ 10 := y1
      have s2 : (textB (vp (zz (zs n)))).size ≤ 10 := y2
      clear hcells y1 y2 hz z0 z1 hm
      generalize textB (vp (lo (zs n))) = p at *
      generalize textB (vp (zz (zs n))) = q at *
      generalize textB (rowL zs n) = s at *
      generalize lo (zs n) = m at *
      generalize zs n = x at *
      go_wp2_with (first
        | (go_at_call 7; refine (TP.out _).mono ?_; rintro e w2 ⟨rfl, hb⟩; replace HB2 := Lib.hid (HB2.out.trans (hb.mono HB2.out.size)); clear hb; have c1 := (HB2.out.cell (p := ⟨bb, off + n, none⟩) hb0).trans HK.out)
        | (go_at_call 14; refine (TZ.out _).mono ?_; rintro e w3 ⟨rfl, hb⟩; replace HB2 := Lib.hid (HB2.out.trans (hb.mono HB2.out.size)); clear hb)
        | (go_at_call 13; refine (num_any _ _).mono ?_; rintro e w' ⟨rfl, rfl⟩))
      go_roundw
      case rel => exact ⟨n + 1, by omega, by go_num, by rw [er], HB2⟩
      case measure => simp [intOf]; omega
    · obtain rfl : n = N := by omega
      have hsz : (textB (rowL zs n)).size = (rowL zs n).length := textB_size _
      have hsb : (textB (rowL zs n)).size ≤ 281474976710648 := by omega
      have TG : Hid (∀ j, j < n → ∀ w, Calls Try.prog 9 #[.string (textB (rowL zs n)), .int .i64 ((rowL zs j).length : Nat)] w fun e w' => e = .returned (.tuple #[.int .i64 (lo (zs j) : Nat), .int .i64 ((rowL zs j ++ vp (lo (zs j))).length : Nat), .int .i64 0]) ∧ w = w') := fun j hj w => by
        have := vget_any (textB (rowL zs n)) hsb ((rowL zs j).length : Nat) w
        rw [textB_list, row_get zs j n hj] at this
        exact this
      have TA : Hid (∀ j, j < n → ∀ w, Calls Try.prog 11 #[.string (textB (rowL zs n)), .int .i64 ((rowL zs j ++ vp (lo (zs j))).length : Nat)] w fun e w' => e = .returned (.tuple #[.int .i64 (zs j), .int .i64 ((rowL zs (j + 1)).length : Nat), .int .i64 0]) ∧ w = w') := fun j hj w => by
        obtain ⟨z0, z1⟩ := HZ.out j (by omega)
        have := vzag_any (textB (rowL zs n)) hsb ((rowL zs j ++ vp (lo (zs j))).length : Nat) w
        rw [textB_list, row_zag zs j n hj z0 z1] at this
        exact this
      have TE : Hid (∀ w, Calls Try.prog 9 #[.string (textB (rowL zs n)), .int .i64 ((rowL zs n).length : Nat)] w fun e w' => e = .returned (.tuple #[.int .i64 0, .int .i64 0, .int .i64 500]) ∧ w = w') := fun w => by
        have := vget_any (textB (rowL zs n)) hsb ((rowL zs n).length : Nat) w
        rw [textB_list, row_end zs n] at this
        exact this
      generalize textB (rowL zs n) = S at *
      have HS := Lib.hid hsz
      clear hsz hsb hz c hn
      rcases H3.out with h3 | ⟨h3, h4⟩
      all_goals
        go_wp2
        go_loop [7, 8] (fun av iv => ∃ j : Nat, j ≤ n ∧ iv = .int .i64 j ∧ av = .int .i64 ((rowL zs j).length : Nat)) (fun _ iv => n - (intOf iv).toNat)
        case atStart => exact ⟨0, Nat.zero_le _, rfl, rfl⟩
        case round =>
          obtain ⟨j, hj, rfl, rfl⟩ := hrel
          by_cases cj : j < n
          · have hlt : j < len := by omega
            have h40 : j < 40 := by omega
            rcases HC.out with h | ⟨bb, off, rfl, hcells⟩
            · omega
            have hb0 : bb < w.heap.size := World.block_lt_of_cell? w ⟨bb, off + j, none⟩ (hcells j hlt)
            have c0 := (HB2.out.cell (p := ⟨bb, off + j, none⟩) hb0).trans (hcells j hlt)
            have em := lowm (zs j)
            have TGj := Lib.hid (TG.out j cj)
            have TAj := Lib.hid (TA.out j cj)
            clear hcells
            have ha := rowL_le zs j
            generalize hA2 : (rowL zs (j + 1)).length = A2 at *
            have HA2 := Lib.hid hA2
            clear hA2
            generalize (rowL zs j ++ vp (lo (zs j))).length = A1 at *
            generalize (rowL zs j).length = A0 at *
            generalize lo (zs j) = m at *
            generalize zs j = x at *
            go_wp2_with (first
              | (go_at_call 9; refine (TGj.out _).mono ?_; rintro e w' ⟨rfl, rfl⟩)
              | (go_at_call 11; refine (TAj.out _).mono ?_; rintro e w' ⟨rfl, rfl⟩)
              | (go_at_call 13; refine (num_any _ _).mono ?_; rintro e w' ⟨rfl, rfl⟩))
            go_round
            case rel => exact ⟨j + 1, by omega, by go_num, by rw [HA2.out]⟩
            case measure => simp [intOf]; omega
          · obtain rfl : j = n := by omega
            have TEj := Lib.hid TE.out
            rw [← HS.out] at TEj ⊢
            clear TG TA TE HS
            go_wp2_with (first
              | (go_at_call 9; refine (TEj.out _).mono ?_; rintro e w' ⟨rfl, rfl⟩)
              | (go_at_call 13; refine (num_any _ _).mono ?_; rintro e w' ⟨rfl, rfl⟩))
            go_ret
            exact ⟨rfl, HB2.out⟩
end Go.Proofs.Ytllekjmmmalblaa
