/- Numbers come back from as few bits as the greatest needs, and from more: the walk of the law. -/
import Derived.Test.YtlepmiijdpcgnaaKAwake
import Derived.Test.YtlepmiijdpcgnaaIntApp
import Derived.Test.YtlepmiijdpcgnaaLow
import Derived.Deep.Cut
namespace Go.Proofs.Ytlepmiijdpcgnaa
open Go.Conc Go.RowKit
set_option linter.unusedVariables false

/-- A number's low ten bits. -/
def low10 (z : Int) : Nat := (z % 1024).toNat
theorem low10_lt (z : Int) : low10 z < 1024 := by unfold low10; omega
theorem low10_and (z : Int) : bits .and .i64 z 1023 = (low10 z : Int) := lowBits 10 (by omega) z
/-- The list, and its greatest. -/
def ys10 (xs : List Int) (n : Nat) : List Int := (xs.take n).map fun z => ((low10 z : Nat) : Int)
def top10 (xs : List Int) : Nat → Nat
  | 0 => 0
  | n + 1 => max (top10 xs n) (low10 (xs.getD n 0))
theorem ys10_succ (xs : List Int) (n : Nat) (h : n < xs.length) : ys10 xs (n + 1) = ys10 xs n ++ [((low10 xs[n] : Nat) : Int)] := by
  unfold ys10
  rw [← List.take_append_getElem h, List.map_append]; rfl
theorem ys10_length (xs : List Int) (n : Nat) (h : n ≤ xs.length) : (ys10 xs n).length = n := by
  unfold ys10; rw [List.length_map, List.length_take, Nat.min_eq_left h]
theorem top10_succ (xs : List Int) (n : Nat) (h : n < xs.length) : top10 xs (n + 1) = max (top10 xs n) (low10 xs[n]) := by
  rw [top10, List.getD_eq_getElem?_getD, List.getElem?_eq_getElem h]; rfl
theorem top10_lt (xs : List Int) : ∀ n, top10 xs n < 1024
  | 0 => by show 0 < 1024; omega
  | n + 1 => by have := top10_lt xs n; have := low10_lt (xs.getD n 0); rw [top10]; omega
theorem top10_all (xs : List Int) : ∀ n, n ≤ xs.length → ∀ y ∈ ys10 xs n, 0 ≤ y ∧ y ≤ (top10 xs n : Int)
  | 0, _ => fun y hy => by simp [ys10] at hy
  | n + 1, h => fun y hy => by
    rw [ys10_succ xs n h] at hy
    rw [top10_succ xs n h]
    rcases List.mem_append.1 hy with hy | hy
    · have := top10_all xs n (by omega) y hy; omega
    · simp at hy; omega
theorem top10_in (xs : List Int) : ∀ n, n ≤ xs.length → top10 xs n = 0 ∨ ((top10 xs n : Nat) : Int) ∈ ys10 xs n
  | 0, _ => .inl rfl
  | n + 1, h => by
    rw [ys10_succ xs n h, top10_succ xs n h]
    rcases Nat.le_total (low10 xs[n]) (top10 xs n) with c | c
    · rw [Nat.max_eq_left c]
      rcases top10_in xs n (by omega) with e | e
      · exact .inl e
      · exact .inr (List.mem_append_left _ e)
    · rw [Nat.max_eq_right c]
      exact .inr (List.mem_append_right _ (by simp))
/-- There and back. -/
theorem pack_there (ys : List Int) (m : Nat) (hm : m ≤ 16) (hl : ys.length ≤ 65536) (h : fits m ys) : ∃ t : ByteArray, packA ys m = (t, 0) ∧ t.size = bytesFor ys.length m ∧ unpackA t ys.length m = (ys, 0) := by
  refine ⟨_, packA_yes hm h, by rw [textB_size, bytesN_length, bytesFor, Nat.mul_comm], ?_⟩
  have hlt := pk_lt h ys.length (Nat.le_refl _)
  have hc : pk m ys ys.length < 256 ^ ((m * ys.length + 7) / 8) := by
    rw [p256]
    exact Nat.lt_of_lt_of_le hlt (Nat.pow_le_pow_right (by omega) (by omega))
  have hn : numT (textB (bytesN ((m * ys.length + 7) / 8) (pk m ys ys.length))) = pk m ys ys.length := by
    unfold numT
    rw [textB_list, numB_bytesN _ _ hc]
  rw [unpackA_yes hm hl ⟨by rw [textB_size, bytesN_length, bytesFor, Nat.mul_comm], by rw [hn]; exact Nat.div_eq_of_lt hlt⟩, hn, pk_all]
  have hu := unpack_pack m (nats ys) (fits_lt h)
  rw [nats_length, unpack_range] at hu
  have e : (List.range ys.length).map (fun i => (dig m (packN m (nats ys)) i : Int)) = ((List.range ys.length).map (dig m (packN m (nats ys)))).map Int.ofNat := by
    rw [List.map_map]; rfl
  rw [e, hu]
  congr 1
  unfold nats
  rw [List.map_map]
  conv => rhs; rw [← List.map_id ys]
  apply List.map_congr_left
  intro y hy
  show ((y.toNat : Nat) : Int) = y
  have := (h y hy).1
  omega
/-- With a bit less it does not go. -/
theorem pack_less (xs : List Int) (n : Nat) (h : n ≤ xs.length) : (packA (ys10 xs n) ((wid (top10 xs n) : Int) - 1)).2 ≠ 0 := by
  by_cases c : top10 xs n = 0
  · rw [c, wid_zero]
    rw [packA_width (by omega)]
    show (600 : Int) ≠ 0
    omega
  · have hw : 0 < wid (top10 xs n) := by rw [wid_pos (by omega)]; omega
    have hb : wid (top10 xs n) ≤ 10 := (wid_le 10 _).2 (top10_lt xs n)
    rw [show (wid (top10 xs n) : Int) - 1 = ((wid (top10 xs n) - 1 : Nat) : Int) by omega]
    rw [packA_range (by omega) ?_]
    · show (601 : Int) ≠ 0
      omega
    · rcases top10_in xs n h with e | e
      · exact absurd e c
      · refine not_fits e (.inr ?_)
        rw [Int.toNat_natCast]
        omega
theorem fits10 (xs : List Int) (n : Nat) (h : n ≤ xs.length) (m : Nat) (hm : wid (top10 xs n) ≤ m) : fits m (ys10 xs n) := by
  intro y hy
  obtain ⟨h0, h1⟩ := top10_all xs n h y hy
  have h2 := (wid_le m _).1 hm
  have h3 : ((2 : Int) ^ m) = ((2 ^ m : Nat) : Int) := by simp
  rw [h3]
  omega

theorem wraps_len (L : Nat) (h : L ≤ 2600) : wrap64 ((L : Int) + 7) = (L : Int) + 7 ∧ wrap64 (((L : Int) + 7).tdiv 8) = ((L : Int) + 7) / 8 := by
  rw [Int.tdiv_eq_ediv_of_nonneg (by omega)]
  unfold wrap64
  omega
set_option maxRecDepth 100000 in
set_option maxHeartbeats 4000000 in
theorem bitpackback_walk (a : Option Addr) (cap : Nat) (xs : List Int) (more : Int) {w : World} (ha : IsL w a xs) (_hn : a = none → xs.length = 0 ∧ cap = 0) (hx1 : xs.length * 8 ≤ 140737488351232) (_hb1 : ∀ x ∈ xs, -9223372036854775808 ≤ x ∧ x < 9223372036854775808) :
    Calls Try.prog 4 #[.slice a xs.length cap, .int .i64 more] w fun e w' => e = .returned (.bool true) ∧ Below w.heap.size w w' := by
  obtain ⟨N, hN1, hN2, hN3⟩ : ∃ N, N ≤ xs.length ∧ N ≤ 200 ∧ (¬ N < xs.length ∨ (N < xs.length ∧ ¬ N < 200)) := by
    by_cases c : xs.length < 200
    · exact ⟨xs.length, Nat.le_refl _, by omega, .inl (by omega)⟩
    · by_cases c2 : xs.length = 200
      · exact ⟨200, by omega, Nat.le_refl _, .inl (by omega)⟩
      · exact ⟨200, by omega, Nat.le_refl _, .inr ⟨by omega, by omega⟩⟩
  have HA := Lib.hid ha
  have H3 := Lib.hid hN3
  have HB : Hid (Below w.heap.size w w) := Below.refl _ _
  clear ha hN3 _hn _hb1
  go_enter Try.func4, Try.ntmps4
  go_wp2_with (go_at_call 17; refine (kawake_any _).mono ?_; rintro e w1 ⟨rfl, hb⟩; replace HB := Lib.hid (HB.out.trans (hb.mono HB.out.size)); clear hb)
  go_loopw [5, 6, 7] (fun tv yv iv wr => ∃ (n : Nat) (ad : Option Addr) (cp : Nat), n ≤ N ∧ iv = .int .i64 n ∧ tv = .int .i64 (top10 xs n : Nat) ∧ yv = .slice ad (ys10 xs n).length cp ∧ Hid (OwnI w.heap.size wr ad cp (ys10 xs n)) ∧ Hid (Below w.heap.size w wr)) (fun _ _ iv _ => N - (intOf iv).toNat)
  case atStart => exact ⟨0, none, 0, Nat.zero_le _, rfl, rfl, rfl, OwnI.nil _ _, HB⟩
  case round =>
    obtain ⟨n, ad, cp, hn, rfl, rfl, rfl, HO, HB2⟩ := hrel
    by_cases c : n < N
    · have hlt : n < xs.length := by omega
      have h200 : n < 200 := by omega
      rcases HA.out with h | ⟨bb, off, rfl, hcells⟩
      · subst h; simp at hlt
      have c0 := (HB2.out.cell (p := ⟨bb, off + n, none⟩) (World.block_lt_of_cell? w _ (hcells n hlt))).trans (hcells n hlt)
      have hy := ys10_succ xs n hlt
      have ht := top10_succ xs n hlt
      have hl := ys10_length xs n (by omega)
      have em := low10_and xs[n]
      have hlo := low10_lt xs[n]
      have HYS := Lib.hid hy
      have HTS := Lib.hid ht
      have HLN := Lib.hid (show (ys10 xs n).length ≤ 17592186044000 by omega)
      clear hcells hy ht hl
      generalize low10 xs[n] = y at *
      generalize xs[n] = x at *
      generalize top10 xs n = tp at *
      generalize ys10 xs n = ys at *
      have emx : max (tp : Int) (y : Int) = ((max tp y : Nat) : Int) := by omega
      go_wp2_with (at_builtin; refine wp_int HO.out HB2.out HLN.out rfl _ _ rfl (y : Int) rfl rfl ?_; intro ad2 cp2 w2 ho2 hb2; have HO2 := Lib.hid ho2; have HBB := Lib.hid hb2; clear ho2 hb2)
      go_roundw
      case rel =>
        refine ⟨n + 1, ad2, cp2, c, by go_num, ?_, ?_, ?_, HBB⟩
        · rw [HTS.out]
        · rw [HYS.out, List.length_append]; rfl
        · rw [HYS.out]; exact HO2.out
      case measure => simp [intOf]; omega
    · obtain rfl : n = N := by omega
      have hl := ys10_length xs n hN1
      have hW : wid (top10 xs n) ≤ 10 := (wid_le 10 _).2 (top10_lt xs n)
      have hWt := (wid_le (wid (top10 xs n)) (top10 xs n)).1 (Nat.le_refl _)
      have hless := pack_less xs n hN1
      have hfit := fits10 xs n hN1
      have em : bits .and .i64 more 3 = ((more % 4).toNat : Int) := lowBits 2 (by omega) more
      have hr : (more % 4).toNat ≤ 3 := by omega
      generalize (more % 4).toNat = r at *
      have T1 := Lib.hid (fun u => kwidth_any (top10 xs n : Nat) (by have := top10_lt xs n; omega) u)
      rw [Int.toNat_natCast] at T1
      have hyb : ∀ y ∈ ys10 xs n, y < 9223372036854775808 := fun y hy => by
        have := (top10_all xs n hN1 y hy).2
        have := top10_lt xs n
        omega
      have htl := top10_lt xs n
      generalize wid (top10 xs n) = W at *
      generalize ys10 xs n = ys at *
      generalize top10 xs n = tp at *
      obtain ⟨t, ht, hts, htu⟩ := pack_there ys (W + r) (by omega) (by omega) (hfit (W + r) (by omega))
      have T2 : Hid (∀ u c (h : IsL u ad ys), Calls Try.prog 7 #[.slice ad ys.length c, .int .i64 ((W : Int) + (r : Int))] u fun e w' => e = .returned (.tuple #[.string t, .int .i64 0]) ∧ Below u.heap.size u w') := fun u c h => by
        have h2 := kpack_any u ad c ((W + r : Nat) : Int) ys h (by omega) hyb
        rw [ht] at h2
        exact h2
      have T3 : Hid (∀ u, Calls Try.prog 9 #[.string t, .int .i64 (ys.length : Int), .int .i64 ((W : Int) + (r : Int))] u fun e w' => ∃ a cap, e = .returned (.tuple #[.slice a ys.length cap, .int .i64 0]) ∧ OwnI u.heap.size w' a cap ys ∧ Below u.heap.size u w') := fun u => by
        have h2 := kunpack_any u t (by have := bytesFor_le ys.length (W + r) (by omega); omega) (ys.length : Nat) ((W + r : Nat) : Int)
        rw [htu] at h2
        exact h2
      have T4 : Hid (∃ (tx : ByteArray) (ex : Int), ex ≠ 0 ∧ ∀ u c (h : IsL u ad ys), Calls Try.prog 7 #[.slice ad ys.length c, .int .i64 ((W : Int) - 1)] u fun e w' => e = .returned (.tuple #[.string tx, .int .i64 ex]) ∧ Below u.heap.size u w') :=
        ⟨_, _, hless, fun u c h => kpack_any u ad c ((W : Int) - 1) ys h (by omega) hyb⟩
      obtain ⟨tx, ex, hex, T4⟩ := T4
      have T4 := Lib.hid T4
      have T5 : Hid (∀ u a2 b2 c2 d2 (h : IsL u a2 ys) (h2 : IsL u b2 ys), Calls Try.prog 12 #[.slice a2 ys.length c2, .slice b2 ys.length d2] u fun e w' => e = .returned (.bool true) ∧ Below u.heap.size u w') := fun u a2 b2 c2 d2 h h2 => by
        have h3 := sameints_any u a2 b2 c2 d2 _ _ h h2 (by simp only [maxLen]; omega)
        rw [decide_eq_true rfl] at h3
        exact h3
      have emin : min (16 : Int) ((W : Int) + (r : Int)) = (W : Int) + (r : Int) := by clear hWt; omega
      have hex2 : (ex != 0) = true := by simpa using hex
      have hlm : ys.length * (W + r) ≤ 200 * 13 := Nat.mul_le_mul (by omega) (by omega)
      have hlm2 : (ys.length : Int) * ((W : Int) + (r : Int)) = ((ys.length * (W + r) : Nat) : Int) := by rw [Int.natCast_mul, Int.natCast_add]
      unfold bytesFor at hts
      generalize ys.length * (W + r) = L at *
      have hlm3 : wrap64 ((ys.length : Int) * ((W : Int) + (r : Int))) = (L : Int) := by rw [hlm2]; clear hlm2; unfold wrap64; omega
      clear hlm2
      have hsz : (t.size : Int) = ((L : Int) + 7) / 8 := by rw [hts]; clear hlm3; omega
      obtain ⟨hlm4, hlm5⟩ := wraps_len L hlm
      have HL3 := Lib.hid hlm3
      clear hlm3
      have hpw : 2 ^ W ≤ 2 ^ 10 := Nat.pow_le_pow_right (by omega) hW
      have hp1 : (2 : Int) ^ W = ((2 ^ W : Nat) : Int) := by simp
      have hp2 : wrap64 ((2 : Int) ^ W) = ((2 ^ W : Nat) : Int) := by rw [hp1]; unfold wrap64; omega
      have HOI := Lib.hid HO.out.isL
      clear hl hless hfit hyb ht htu hts hlm hex hp1
      generalize 2 ^ W = pw at *
      have hlm3 := HL3.out
      clear HL3
      rcases H3.out with h3 | ⟨h3, h4⟩
      all_goals
        go_upto_region 13 with (go_at_call 14; refine (T1.out _).mono ?_; rintro e w' ⟨rfl, rfl⟩)
        clear T1 emin em hr htl hN2 hn c h3
        go_upto_region 14 with (go_at_call 7; refine (T2.out _ _ HOI.out).mono ?_; rintro e w2 ⟨rfl, hb⟩; replace HB2 := Lib.hid (HB2.out.trans (hb.mono HB2.out.size)); replace HOI := Lib.hid (HOI.out.below hb); clear hb)
        go_upto_region 15 with (go_at_call 9; refine (T3.out _).mono ?_; rintro e w3 ⟨az, cz, rfl, hoz, hb⟩; replace HB2 := Lib.hid (HB2.out.trans (hb.mono HB2.out.size)); replace HOI := Lib.hid (HOI.out.below hb); have HZ := Lib.hid (OwnI.isL hoz); clear hb hoz)
        go_upto_region 16 with (go_at_call 7; refine (T4.out _ _ HOI.out).mono ?_; rintro e w4 ⟨rfl, hb⟩; replace HB2 := Lib.hid (HB2.out.trans (hb.mono HB2.out.size)); replace HOI := Lib.hid (HOI.out.below hb); replace HZ := Lib.hid (HZ.out.below hb); clear hb)
        go_wp2_with (first
          | (go_at_call 11; refine (num_any _ _).mono ?_; rintro e w' ⟨rfl, rfl⟩)
          | (go_at_call 12; refine (T5.out _ _ _ _ _ HZ.out HOI.out).mono ?_; rintro e w5 ⟨rfl, hb⟩; replace HB2 := Lib.hid (HB2.out.trans (hb.mono HB2.out.size)); clear hb))
        go_ret
        exact ⟨rfl, HB2.out⟩
end Go.Proofs.Ytlepmiijdpcgnaa
