/- Each number's bits stand where they must: the walk of the law. -/
import Derived.Test.YtlepmiijdpcgnaaLBitpackBack
import Derived.StillTailTactics
namespace Go.Proofs.Ytlepmiijdpcgnaa
open Go.Conc Go.RowKit
set_option linter.unusedVariables false

/-- A number's low w bits. -/
def lowW (w : Nat) (z : Int) : Nat := (z % ((2 ^ w : Nat) : Int)).toNat
theorem lowW_lt (w : Nat) (z : Int) : lowW w z < 2 ^ w := by
  have h := Int.emod_lt_of_pos z (show (0 : Int) < ((2 ^ w : Nat) : Int) by have := Nat.two_pow_pos w; omega)
  have h2 := Int.emod_nonneg z (show ((2 ^ w : Nat) : Int) ≠ 0 by have := Nat.two_pow_pos w; omega)
  unfold lowW; omega
theorem lowW_rem (w : Nat) (hw : w ≤ 16) (z : Int) : (IntKind.u64.wrap z).tmod ((2 ^ w : Nat) : Int) = (lowW w z : Int) := by
  have h0 : 0 ≤ IntKind.u64.wrap z := by rw [IntKind.wrap_u64]; omega
  rw [Int.tmod_eq_emod_of_nonneg h0, IntKind.wrap_u64]
  have hd : ((2 ^ w : Nat) : Int) ∣ 18446744073709551616 := by
    have : (2 ^ w : Nat) ∣ 2 ^ 64 := Nat.pow_dvd_pow 2 (by omega)
    exact Int.natCast_dvd_natCast.2 this
  have h2 := Int.emod_nonneg z (show ((2 ^ w : Nat) : Int) ≠ 0 by have := Nat.two_pow_pos w; omega)
  rw [Int.emod_emod_of_dvd z hd]
  unfold lowW
  omega
def ysW (w : Nat) (xs : List Int) (n : Nat) : List Int := (xs.take n).map fun z => ((lowW w z : Nat) : Int)
theorem ysW_succ (w : Nat) (xs : List Int) (n : Nat) (h : n < xs.length) : ysW w xs (n + 1) = ysW w xs n ++ [((lowW w xs[n] : Nat) : Int)] := by
  unfold ysW
  rw [← List.take_append_getElem h, List.map_append]; rfl
theorem ysW_length (w : Nat) (xs : List Int) (n : Nat) (h : n ≤ xs.length) : (ysW w xs n).length = n := by
  unfold ysW; rw [List.length_map, List.length_take, Nat.min_eq_left h]
theorem ysW_fits (w : Nat) (xs : List Int) (n : Nat) : fits w (ysW w xs n) := by
  intro y hy
  unfold ysW at hy
  obtain ⟨z, _, rfl⟩ := List.mem_map.1 hy
  have h := lowW_lt w z
  have h3 : ((2 : Int) ^ w) = ((2 ^ w : Nat) : Int) := by simp
  rw [h3]
  omega
/-- What is packed, bit by bit. -/
theorem pack_bits (ys : List Int) (w : Nat) (hw : w ≤ 16) (h : fits w ys) : ∃ t : ByteArray, packA ys w = (t, 0) ∧ t.size = (w * ys.length + 7) / 8 ∧ (ys = [] → t = textB []) ∧
    ∀ (i k y b : Nat) (hi : i < ys.length) (hk : k < w) (hy : ys[i] = (y : Int)) (eb : b = w * i + k) (hb : b / 8 < t.size), (t[b / 8]'hb).toNat / 2 ^ (b % 8) % 2 = y / 2 ^ k % 2 := by
  refine ⟨_, packA_yes hw h, by rw [textB_size, bytesN_length], fun e => by subst e; rw [List.length_nil, Nat.mul_zero]; rfl, fun i k y b hi hk hy eb hb => ?_⟩
  have hlt := pk_lt h ys.length (Nat.le_refl _)
  have hc : pk w ys ys.length < 256 ^ ((w * ys.length + 7) / 8) := by
    rw [p256]
    exact Nat.lt_of_lt_of_le hlt (Nat.pow_le_pow_right (by omega) (by omega))
  have h1 := byte_bit (bytesN ((w * ys.length + 7) / 8) (pk w ys ys.length)) b (by rw [bytesN_length]; rw [textB_size, bytesN_length] at hb; exact hb)
  rw [numB_bytesN _ _ hc] at h1
  have h2 := pack_bit w (nats ys) (fits_lt h) i k (by rw [nats_length]; exact hi) hk
  rw [← pk_all, ← eb] at h2
  have h3 : (nats ys)[i]'(by rw [nats_length]; exact hi) = y := by simp [nats, hy]
  rw [h3] at h2
  rw [← h2, h1]
  rfl
theorem isl_at {w : World} {a : Option Addr} {xs : List Int} (h : IsL w a xs) (i : Nat) (hi : i < xs.length) : ∃ b off, a = some ⟨b, off, none⟩ ∧ w.cell? ⟨b, off + i, none⟩ = some (.int .i64 xs[i]) := by
  rcases h with h | ⟨b, off, e, h⟩
  · subst h; simp at hi
  · exact ⟨b, off, e, h i hi⟩
theorem make3 (w : World) : (Instr.makeSlice 41 (.int .i64 3) (.int .i64 3)).run Try.prog w = .ok (.slice (some ⟨w.heap.size, 0, none⟩) 3 3) (w.alloc (.cells #[.int .u8 0, .int .u8 0, .int .u8 0] 5)) := by kernel_rfl
theorem text3 (w : World) : (convert 41 9 (.slice (some ⟨w.heap.size, 0, none⟩) 3 3)).run Try.prog (w.alloc (.cells #[.int .u8 0, .int .u8 0, .int .u8 0] 5)) = .ok (.string (textB [0, 0, 0])) (w.alloc (.cells #[.int .u8 0, .int .u8 0, .int .u8 0] 5)) := bytes_back w [0, 0, 0] _ rfl 3 rfl
theorem mulW (a b : Nat) (h : a * b ≤ 100000) : wrap64 ((a : Int) * (b : Int)) = ((a * b : Nat) : Int) := by
  rw [← Int.natCast_mul]; unfold wrap64; omega
/-- One bit more. -/
theorem low_more (y k v : Nat) (hv : v = y / 2 ^ k % 2) : y % 2 ^ (k + 1) = y % 2 ^ k + 2 ^ k * v := by rw [hv, mod_succ_pow]
theorem zeros1 : unpackA (textB [0, 0, 0]) 24 1 = (List.replicate 24 0, 0) := by kernel_rfl
theorem zeros2 : unpackA ByteArray.empty 50 0 = (List.replicate 50 0, 0) := by kernel_rfl

/-- Where a number's bits stand. -/
theorem bit_plan (ys : List Int) (W : Nat) (hW : W ≤ 16) (h : fits W ys) (t : ByteArray) (hts : t.size = (ys.length * W + 7) / 8) (hl : ys.length ≤ 100)
    (htb : ∀ (i k y b : Nat) (hi : i < ys.length) (hk : k < W) (hy : ys[i] = (y : Int)) (eb : b = W * i + k) (hb : b / 8 < t.size), (t[b / 8]'hb).toNat / 2 ^ (b % 8) % 2 = y / 2 ^ k % 2) (i0 : Nat) (hi0 : i0 < ys.length) :
    ∃ y I : Nat, ys[i0] = (y : Int) ∧ y < 2 ^ W ∧ y < 65536 ∧ wrap64 ((i0 : Int) * (W : Int)) = (I : Int) ∧ I ≤ 1600 ∧
      ∀ k, k < W → ∃ (b d8 r8 v : Nat) (hd : d8 < t.size), (I : Int) + (k : Int) = (b : Int) ∧ b ≤ 1700 ∧ (b : Int).tdiv 8 = (d8 : Int) ∧ (b : Int) / 8 = (d8 : Int) ∧ (b : Int).tmod 8 = (r8 : Int) ∧ (b : Int) % 8 = (r8 : Int) ∧ r8 ≤ 7 ∧ v = y / 2 ^ k % 2 ∧ bits .and .u8 (((t[d8]'hd).toNat : Int) / 2 ^ r8) 1 = (v : Int) := by
  obtain ⟨h0, h1⟩ := h _ (List.getElem_mem hi0)
  obtain ⟨y, hy⟩ : ∃ y : Nat, ys[i0] = (y : Int) := ⟨ys[i0].toNat, by omega⟩
  have h3 : ((2 : Int) ^ W) = ((2 ^ W : Nat) : Int) := by simp
  rw [hy, h3] at h1
  have hyW : y < 2 ^ W := by omega
  have hpw : 2 ^ W ≤ 2 ^ 16 := Nat.pow_le_pow_right (by omega) hW
  have hIW : (i0 + 1) * W ≤ ys.length * W := Nat.mul_le_mul_right _ hi0
  rw [Nat.succ_mul] at hIW
  have hLW : ys.length * W ≤ 100 * 16 := Nat.mul_le_mul hl hW
  refine ⟨y, i0 * W, hy, hyW, by omega, mulW i0 W (by omega), by omega, fun k hk => ?_⟩
  have hd : (i0 * W + k) / 8 < t.size := by rw [hts]; omega
  have hb := htb i0 k y (i0 * W + k) hi0 hk hy (by rw [Nat.mul_comm]) hd
  have hx : (t[(i0 * W + k) / 8]'hd).toNat < 256 := (t[(i0 * W + k) / 8]'hd).toNat_lt
  have ha := u8_and1 ((t[(i0 * W + k) / 8]'hd).toNat / 2 ^ ((i0 * W + k) % 8)) (Nat.lt_of_le_of_lt (Nat.div_le_self _ _) hx)
  rw [hb, Int.natCast_ediv, Int.natCast_pow, show ((2 : Nat) : Int) = 2 from rfl] at ha
  clear hb hx hpw hyW h1 h3 htb
  exact ⟨i0 * W + k, (i0 * W + k) / 8, (i0 * W + k) % 8, y / 2 ^ k % 2, hd, by rw [Int.natCast_add], by omega, by rw [Int.tdiv_eq_ediv_of_nonneg (by omega)]; omega, by omega, by rw [Int.tmod_eq_emod_of_nonneg (by omega)]; omega, by omega, by omega, rfl, ha⟩
/-- A bit more. -/
theorem bit_step (y k x v : Nat) (hx : x = y % 2 ^ k) (hk : k ≤ 15) (hvv : v = y / 2 ^ k % 2) : ∃ q : Nat, wrap64 ((v : Int) * 2 ^ k) = (q : Int) ∧ bits .or .i64 (x : Int) (q : Int) = ((x + q : Nat) : Int) ∧ x + q = y % 2 ^ (k + 1) ∧ x < 65536 ∧ q ≤ 65536 ∧ v ≤ 1 := by
  have hv : v ≤ 1 := by rw [hvv]; exact Nat.le_of_lt_succ (Nat.mod_lt _ (by decide))
  have hx2 : x < 2 ^ k := by rw [hx]; exact Nat.mod_lt _ (Nat.two_pow_pos k)
  have h2r : 2 ^ k ≤ 2 ^ 15 := Nat.pow_le_pow_right (by omega) hk
  have h3r : 2 ^ k * v ≤ 2 ^ k * 1 := Nat.mul_le_mul_left _ hv
  have hsh : (v : Int) * 2 ^ k = ((2 ^ k * v : Nat) : Int) := by rw [Int.natCast_mul, Int.mul_comm]; simp
  refine ⟨2 ^ k * v, ?_, i64_or_bit k x v (by omega) hx2 hv, by rw [low_more y k v hvv, hx], by omega, by omega, hv⟩
  rw [hsh]
  have hq : 2 ^ k * v ≤ 65536 := by omega
  clear hsh h3r hx2 h2r hx hvv
  generalize 2 ^ k * v = q at *
  unfold wrap64
  omega
set_option maxRecDepth 100000 in
set_option maxHeartbeats 4000000 in
theorem bitpackbits_walk (a : Option Addr) (cap : Nat) (xs : List Int) (width at_ : Int) {w : World} (ha : IsL w a xs) (_hn : a = none → xs.length = 0 ∧ cap = 0) (hx1 : xs.length * 8 ≤ 140737488351232) (_hb1 : ∀ x ∈ xs, -9223372036854775808 ≤ x ∧ x < 9223372036854775808) :
    Calls Try.prog 5 #[.slice a xs.length cap, .int .i64 width, .int .i64 at_] w fun e w' => e = .returned (.bool true) ∧ Below w.heap.size w w' := by
  obtain ⟨N, hN1, hN2, hN3⟩ : ∃ N, N ≤ xs.length ∧ N ≤ 100 ∧ (¬ N < xs.length ∨ (N < xs.length ∧ ¬ N < 100)) := by
    by_cases c : xs.length < 100
    · exact ⟨xs.length, Nat.le_refl _, by omega, .inl (by omega)⟩
    · by_cases c2 : xs.length = 100
      · exact ⟨100, by omega, Nat.le_refl _, .inl (by omega)⟩
      · exact ⟨100, by omega, Nat.le_refl _, .inr ⟨by omega, by omega⟩⟩
  obtain ⟨k0, ek0, hk0⟩ := modN width 16 (by omega) (by omega)
  have ek0 : wrap64 ((IntKind.u64.wrap width).tmod 16) = (k0 : Int) := ek0
  have HA := Lib.hid ha
  have H3 := Lib.hid hN3
  have HB : Hid (Below w.heap.size w w) := Below.refl _ _
  clear ha hN3 _hn _hb1
  go_enter Try.func5, Try.ntmps5
  go_upto_region 4 with (go_at_call 17; refine (kawake_any _).mono ?_; rintro e w1 ⟨rfl, hb⟩; replace HB := Lib.hid (HB.out.trans (hb.mono HB.out.size)); clear hb)
  have eW : (1 : Int) + (k0 : Int) = ((k0 + 1 : Nat) : Int) := by omega
  rw [eW]
  have hW : k0 + 1 ≤ 16 := by omega
  have hW0 : 0 < k0 + 1 := by omega
  clear ek0 eW hk0
  generalize k0 + 1 = W at *
  have HF := Lib.hid (ysW_fits W xs)
  go_wp2
  go_loopw [8, 9] (fun yv iv wr => ∃ (n : Nat) (ad : Option Addr) (cp : Nat), n ≤ N ∧ iv = .int .i64 n ∧ yv = .slice ad (ysW W xs n).length cp ∧ Hid (OwnI w.heap.size wr ad cp (ysW W xs n)) ∧ Hid (Below w.heap.size w wr)) (fun _ iv _ => N - (intOf iv).toNat)
  case atStart => exact ⟨0, none, 0, Nat.zero_le _, rfl, rfl, OwnI.nil _ _, HB⟩
  case round =>
    obtain ⟨n, ad, cp, hn, rfl, rfl, HO, HB2⟩ := hrel
    by_cases c : n < N
    · have hlt : n < xs.length := by omega
      have h100 : n < 100 := by omega
      rcases HA.out with h | ⟨bb, off, rfl, hcells⟩
      · subst h; simp at hlt
      have c0 := (HB2.out.cell (p := ⟨bb, off + n, none⟩) (World.block_lt_of_cell? w _ (hcells n hlt))).trans (hcells n hlt)
      have hy := ysW_succ W xs n hlt
      have hl := ysW_length W xs n (by omega)
      have hlo := lowW_lt W xs[n]
      have er := lowW_rem W hW xs[n]
      have hpw : 2 ^ W ≤ 2 ^ 16 := Nat.pow_le_pow_right (by omega) hW
      have hp0 := Nat.two_pow_pos W
      have hp1 : (2 : Int) ^ W = ((2 ^ W : Nat) : Int) := by simp
      have hlo2 : lowW W xs[n] < 65536 := by omega
      have HYS := Lib.hid hy
      have HLN := Lib.hid (show (ysW W xs n).length ≤ 17592186044000 by omega)
      clear hcells hy hl hlo
      generalize lowW W xs[n] = y at *
      generalize xs[n] = x at *
      generalize ysW W xs n = ys at *
      generalize hpp : 2 ^ W = p at *
      have hp2 : (2 : Int) ^ W % 18446744073709551616 = (p : Int) := by rw [hp1]; omega
      have hp3 : ¬ (p : Int) = 0 := by omega
      have hp4 : ¬ p = 0 := by omega
      have ey : IntKind.i64.wrap (y : Int) = (y : Int) := wrap_i64_nat _ (by omega)
      clear hpw hp0 hpp
      go_upto_region 8 with (fail)
      have HOv : Hid (OwnI w.heap.size wr.drew ad cp ys) := HO.out
      have HBv := Lib.hid (HB2.out.drew)
      have hp5 : IntKind.u64.wrap (p : Int) = (p : Int) := by rw [IntKind.wrap_u64]; omega
      have er2 : (IntKind.u64.wrap x).tmod (p : Int) = (y : Int) := er
      go_region_law (refine step_int HOv.out HBv.out HLN.out rfl _ _ rfl (y : Int) (by simp [Act.eval]) (by simp [Act.eval]) ?_; intro ad2 cp2 w2 ho2 hb2; have HO2 := Lib.hid ho2; have HBB := Lib.hid hb2; clear ho2 hb2)
      simp only [List.getElem_toArray, List.getElem_cons_succ, List.getElem_cons_zero, Go.Act.put]
      clear er er2 ey hp1 hp2 hp3 hp4 hp5 HOv HBv HO HB2 c0 hlo2
      go_wp2
      go_roundw
      case rel =>
        refine ⟨n + 1, ad2, cp2, c, by go_num, ?_, ?_, HBB⟩
        · rw [HYS.out, List.length_append]; rfl
        · rw [HYS.out]; exact HO2.out
      case measure => simp [intOf]; omega
    · obtain rfl : n = N := by omega
      have hl := ysW_length W xs n hN1
      have hyb : ∀ y ∈ ysW W xs n, y < 9223372036854775808 := fun y hy => by
        have h1 := (HF.out n y hy).2
        have h2 : 2 ^ W ≤ 2 ^ 16 := Nat.pow_le_pow_right (by omega) hW
        have h3 : ((2 : Int) ^ W) = ((2 ^ W : Nat) : Int) := by simp
        rw [h3] at h1
        omega
      obtain ⟨t, ht, hts, ht0, htb⟩ := pack_bits (ysW W xs n) W hW (HF.out n)
      have hfit := Lib.hid (HF.out n)
      generalize ysW W xs n = ys at *
      have hLB : ys.length * W ≤ 100 * 16 := Nat.mul_le_mul (by omega) hW
      have hLB2 := mulW ys.length W (by omega)
      rw [Nat.mul_comm W] at hts
      have HTB := Lib.hid htb
      have T2 : Hid (∀ u c (h : IsL u ad ys), Calls Try.prog 7 #[.slice ad ys.length c, .int .i64 (W : Int)] u fun e w' => e = .returned (.tuple #[.string t, .int .i64 0]) ∧ Below u.heap.size u w') := fun u c h => by
        have h2 := kpack_any u ad c (W : Int) ys h (by clear hLB2; omega) hyb
        rw [ht] at h2
        exact h2
      generalize hLL : ys.length * W = L at *
      have HLL := Lib.hid hLL
      obtain ⟨hw1, hw2⟩ := wraps_len L (by clear hLB2; omega)
      have hsz : (t.size : Int) = ((L : Int) + 7) / 8 := by rw [hts]; clear hLB2 hw1 hw2; omega
      have HOI := Lib.hid HO.out.isL
      have HTS := Lib.hid hts
      have HLE := Lib.hid (show ys.length ≤ 100 by omega)
      clear hyb ht htb hLL hts hl
      rcases H3.out with h3 | ⟨h3, h4⟩
      all_goals
        go_upto_region 9 with (fail)
        clear hn hN2 h3
        go_upto_region 12 with (first
          | (go_at_call 7; refine (T2.out _ _ HOI.out).mono ?_; rintro e w2 ⟨rfl, hb⟩; replace HB2 := Lib.hid (HB2.out.trans (hb.mono HB2.out.size)); replace HOI := Lib.hid (HOI.out.below hb); clear hb)
          | (go_at_call 11; refine (num_any _ _).mono ?_; rintro e w' ⟨rfl, rfl⟩))
        clear T2 hw1 hw2 hsz hLB2 c
        by_cases cl : ys.length = 0
        · have e0 := List.eq_nil_of_length_eq_zero cl
          have et := ht0 e0
          have e1 : t.toList.isEmpty = true := by rw [et, ByteArray.toList_eq]; rfl
          have e2 : t.toList = [] := by rw [et, ByteArray.toList_eq]; rfl
          have e3 : ((ys.length : Int) == 0) = true := by simp [cl]
          clear ht0 HTB hfit HOI HTS HLL et e0 HO
          go_wp2
          go_ret
          exact ⟨rfl, HB2.out⟩
        · obtain ⟨i0, ei0, hi0⟩ := modN at_ ys.length (by omega) (by have := HLE.out; omega)
          have e3 : ((ys.length : Int) == 0) = false := by rw [beq_eq_false_iff_ne]; omega
          have e5 : ¬ (ys.length : Int) = 0 := by omega
          have e6 : IntKind.u64.wrap (ys.length : Int) = (ys.length : Int) := by rw [IntKind.wrap_u64]; have := HLE.out; omega
          go_upto_region 15 with (fail)
          rw [ei0]
          obtain ⟨y, I, hy, hyW, hyl, hIW2, hI16, hplan⟩ := bit_plan ys W hW hfit.out t (by rw [HLL.out]; exact HTS.out) HLE.out HTB.out i0 hi0
          have HYW := Lib.hid hyW
          have HPL := Lib.hid hplan
          have HY := Lib.hid hy
          clear ei0 hyW hplan hy e3 e5 e6 ht0 HTB hfit HTS HLL cl
          go_wp2
          go_loop [13, 14] (fun xv kv => ∃ k x : Nat, k ≤ W ∧ kv = .int .i64 k ∧ xv = .int .i64 x ∧ Hid (x = y % 2 ^ k)) (fun _ kv => W - (intOf kv).toNat)
          case atStart => exact ⟨0, 0, Nat.zero_le _, rfl, rfl, Lib.hid (by rw [Nat.pow_zero, Nat.mod_one])⟩
          case round =>
            obtain ⟨k, x, hk, rfl, rfl, HX⟩ := hrel
            by_cases ck : k < W
            · obtain ⟨b, d8, r8, v, hd8, eb, hbl, e8a, e8b, e8c, e8d, hr8, hvv, ha1⟩ := HPL.out k ck
              obtain ⟨q, hsh2, hor, hxq, hx16, hq16, hv1⟩ := bit_step y k x v HX.out (by clear hIW2; omega) hvv
              have HXQ := Lib.hid hxq
              clear hvv hxq
              go_wp2
              go_round
              case rel => exact ⟨k + 1, x + q, ck, by go_num, by first | rfl | (congr 1), HXQ⟩
              case measure => simp [intOf]; clear hIW2; omega
            · obtain rfl : k = W := by clear hIW2; omega
              have hxy : x = y := by rw [HX.out, Nat.mod_eq_of_lt HYW.out]
              subst hxy
              have TZ : Hid (∀ u : World, Calls Try.prog 9 #[.string (textB [0, 0, 0]), .int .i64 24, .int .i64 1] u fun e w' => ∃ a cap, e = .returned (.tuple #[.slice a 24 cap, .int .i64 0]) ∧ Below u.heap.size u w') := fun u => by
                have h := kunpack_any u (textB [0, 0, 0]) (by decide) 24 1
                rw [zeros1] at h
                exact h.mono fun e w' ⟨a, c, h1, h2, h3⟩ => ⟨a, c, h1, h3⟩
              have TO : Hid (∀ u : World, Calls Try.prog 9 #[.string ByteArray.empty, .int .i64 50, .int .i64 0] u fun e w' => ∃ a cap, e = .returned (.tuple #[.slice a 50 cap, .int .i64 0]) ∧ Below u.heap.size u w') := fun u => by
                have h := kunpack_any u ByteArray.empty (by decide) 50 0
                rw [zeros2] at h
                exact h.mono fun e w' ⟨a, c, h1, h2, h3⟩ => ⟨a, c, h1, h3⟩
              have hmk := make3
              have htx := text3
              generalize textB [0, 0, 0] = t3 at *
              clear HPL hIW2 ck hk HX
              go_upto_region 21 with (fail)
              have HA3 := Lib.hid ((HB2.out.alloc HB2.out.size (.cells #[.int .u8 0, .int .u8 0, .int .u8 0] 5)))
              have HO3 := Lib.hid (HOI.out.below ((Below.refl w2.heap.size w2).alloc (Nat.le_refl _) (.cells #[.int .u8 0, .int .u8 0, .int .u8 0] 5)))
              go_upto_region 22 with (go_at_call 9; refine (TZ.out _).mono ?_; rintro e w3 ⟨a3, c3, rfl, hb⟩; replace HB2 := Lib.hid (HA3.out.trans (hb.mono HA3.out.size)); replace HOI := Lib.hid (HO3.out.below hb); clear hb)
              clear HA3 HO3 hmk htx TZ
              go_upto_region 23 with (go_at_call 9; refine (TO.out _).mono ?_; rintro e w4 ⟨a4, c4, rfl, hb⟩; replace HB2 := Lib.hid (HB2.out.trans (hb.mono HB2.out.size)); replace HOI := Lib.hid (HOI.out.below hb); clear hb)
              obtain ⟨bb, off, rfl, hcell⟩ := isl_at HOI.out i0 hi0
              rw [HY.out] at hcell
              clear TO
              go_wp2_with (go_at_call 11; refine (num_any _ _).mono ?_; rintro e w' ⟨rfl, rfl⟩)
              go_ret
              exact ⟨rfl, HB2.out⟩
end Go.Proofs.Ytlepmiijdpcgnaa
