/- Unpack, the document's. -/
import Derived.Test.YtlepmiijdpcgnaaRPackM
import Derived.Test.YtlepmiijdpcgnaaUnpack
import Derived.StillTailTactics
import Derived.Deep.Cut
namespace Go.Proofs.Ytlepmiijdpcgnaa
open Go.Conc Go.RowKit
set_option linter.unusedVariables false

/-- Numbers of k bits, as cells. -/
def rowD (k n X : Nat) : Array Value := (intCells ((unpackN k n X).map Int.ofNat)).toArray
theorem rowD_size (k n X : Nat) : (rowD k n X).size = n := by simp [rowD, intCells, unpackN_length]
theorem rowD_at (k S t n : Nat) (hk : 0 < k) (ht : t < k * n) : (rowD k n (S % 2 ^ t))[t / k]? = some (.int .i64 (part k S t : Nat)) := by
  have h := digit_at k S t n hk ht
  simp only [rowD, intCells, List.getElem?_toArray, List.getElem?_map, h, Option.map_some]
  rfl
theorem rowD_step (k S t n : Nat) (hk : 0 < k) (ht : t < k * n) : (rowD k n (S % 2 ^ t)).setIfInBounds (t / k) (.int .i64 (part k S t + 2 ^ (t % k) * (S / 2 ^ t % 2) : Nat)) = rowD k n (S % 2 ^ (t + 1)) := by
  unfold rowD
  rw [digit_step k S t n hk ht, List.setIfInBounds_toArray]
  congr 1
  simp only [intCells, List.map_set]
  rfl
theorem rowD_none (k S n : Nat) (f : Nat → Int) : rowI f n 0 = rowD k n (S % 2 ^ 0) := by
  unfold rowD
  rw [digits_none]
  apply Array.ext_getElem?
  intro j
  by_cases hj : j < n
  · rw [rowI_get f n 0 j hj]
    simp [intCells, hj]
  · rw [rowI_none f n 0 j hj]
    simp [intCells, hj]
theorem rowD_full (k S n : Nat) : rowD k n S = rowI (fun j => (dig k S j : Int)) n n := by
  unfold rowD
  rw [unpack_range]
  apply Array.ext_getElem?
  intro j
  by_cases hj : j < n
  · rw [rowI_get _ n n j hj]
    simp [intCells, hj]
  · rw [rowI_none _ n n j hj]
    simp [intCells, hj]
theorem u8_and1 (q : Nat) (h : q < 256) : bits .and .u8 (q : Int) 1 = ((q % 2 : Nat) : Int) := by
  have := u8_and_nat q 1 h (by omega)
  rw [Nat.and_one_is_mod] at this
  exact this
theorem i64_or_bit (r p v : Nat) (hr : r ≤ 16) (hp : p < 2 ^ r) (hv : v ≤ 1) : bits .or .i64 (p : Int) ((2 ^ r * v : Nat) : Int) = ((p + 2 ^ r * v : Nat) : Int) := by
  have h2 : 2 ^ r ≤ 2 ^ 16 := Nat.pow_le_pow_right (by omega) hr
  have h3 : 2 ^ r * v ≤ 2 ^ r * 1 := Nat.mul_le_mul_left _ hv
  show IntKind.i64.wrap ((BitVec.ofInt 64 (p : Int) ||| BitVec.ofInt 64 ((2 ^ r * v : Nat) : Int)).toNat : Int) = _
  rw [BitVec.toNat_or, ofInt_u64 _ (by omega), ofInt_u64 _ (by omega), Nat.or_comm, nat_join r (2 ^ r * v) p (Nat.mul_mod_right _ _) hp, Nat.add_comm]
  exact wrap_i64_nat _ (by omega)
theorem bit_zero {S t : Nat} (h : S / 2 ^ t % 2 = 0) : S % 2 ^ (t + 1) = S % 2 ^ t := by rw [mod_succ_pow, h, Nat.mul_zero, Nat.add_zero]
theorem bit_big {S t N : Nat} (h : S / 2 ^ t % 2 = 1) (hN : N ≤ t) : S / 2 ^ N ≠ 0 := by
  intro e
  have h1 : S < 2 ^ N := by
    rcases Nat.lt_or_ge S (2 ^ N) with h | h
    · exact h
    · have := Nat.div_pos h (Nat.two_pow_pos N); omega
  have h2 : 2 ^ N ≤ 2 ^ t := Nat.pow_le_pow_right (by omega) hN
  rw [Nat.div_eq_of_lt (by omega)] at h
  omega

set_option maxRecDepth 100000 in
set_option maxHeartbeats 4000000 in
theorem runpack_any (w : World) (s : ByteArray) (hs : s.size ≤ 281474976710648) (many z : Int) :
    Calls Try.prog 10 #[.string s, .int .i64 many, .int .i64 z] w fun e w' => ∃ a cap, e = .returned (.tuple #[.slice a (unpackA s many z).1.length cap, .int .i64 (unpackA s many z).2]) ∧ OwnI w.heap.size w' a cap (unpackA s many z).1 ∧ Below w.heap.size w w' := by
  by_cases cz : 0 ≤ z ∧ z ≤ 16
  · obtain ⟨k, rfl⟩ : ∃ k : Nat, z = k := ⟨z.toNat, by omega⟩
    have hk : k ≤ 16 := by omega
    have k1 : ¬ (k : Int) < 0 := by omega
    have k2 : decide ((16 : Int) < (k : Int)) = false := decide_eq_false (by omega)
    have k3 : decide ((k : Int) < 0) = false := decide_eq_false (by omega)
    clear cz
    by_cases cm : 0 ≤ many ∧ many ≤ 65536
    · obtain ⟨n, rfl⟩ : ∃ n : Nat, many = n := ⟨many.toNat, by omega⟩
      have hn : n ≤ 65536 := by omega
      have m1 : ¬ (n : Int) < 0 := by omega
      have m2 : decide ((65536 : Int) < (n : Int)) = false := decide_eq_false (by omega)
      have m3 : decide ((n : Int) < 0) = false := decide_eq_false (by omega)
      have hkn : k * n ≤ 16 * 65536 := Nat.mul_le_mul hk hn
      have hm0 : (n : Int) * (k : Int) = ((k * n : Nat) : Int) := by rw [Int.natCast_mul, Int.mul_comm]
      have hm1 : wrap64 ((n : Int) * (k : Int)) = ((k * n : Nat) : Int) := by rw [hm0]; unfold wrap64; omega
      have hm2 : (((k * n : Nat) : Int) + 7) / 8 = (bytesFor n k : Nat) := by unfold bytesFor; rw [Nat.mul_comm k]; omega
      clear cm hm0
      by_cases cs : s.size = bytesFor n k
      · have h8 : k * n ≤ 8 * s.size ∧ 8 * s.size ≤ k * n + 7 := by rw [cs, bytesFor, Nat.mul_comm n k]; omega
        rw [← cs] at hm2
        have HA : Hid ((numT s / 2 ^ (k * n) = 0 → unpackA s n k = ((List.range n).map (fun i => (dig k (numT s) i : Int)), 0)) ∧ (numT s / 2 ^ (k * n) ≠ 0 → unpackA s n k = ([], 602))) := ⟨fun h => unpackA_yes hk hn ⟨cs, h⟩, fun h => unpackA_cut hk hn (fun x => h x.2)⟩
        have HL := Lib.hid (numT_lt s)
        have HY : Hid (∀ t (h : t / 8 < s.size), numT s / 2 ^ t % 2 = (s[t / 8]'h).toNat / 2 ^ (t % 8) % 2) := fun t h => byte_bit s.data.toList t h
        generalize hR : unpackA s n k = R at *
        generalize hS : numT s = S at *
        have hmk := make_ints (fun j => (dig k S j : Int)) w n hn
        rw [rowD_none k S n] at hmk
        have HBEL := Lib.hid ((Below.refl w.heap.size w).alloc (Nat.le_refl _) (.cells (rowD k n (S % 2 ^ 0)) 3))
        have HROW := Lib.hid (heap_alloc_new w (.cells (rowD k n (S % 2 ^ 0)) 3))
        clear hR hS cs
        generalize hN : k * n = N at *
        have HN := Lib.hid hN
        clear hN
        go_enter Try.func10, Try.ntmps10
        go_upto_region 8 with (fail)
        generalize w.alloc (.cells (rowD k n (S % 2 ^ 0)) 3) = w2 at *
        generalize hg : w.heap.size = g at *
        have HG := Lib.hid hg
        clear hg hmk
        go_wp2
        go_loopw [9] (fun tv wr => ∃ t : Nat, t ≤ 8 * s.size ∧ tv = .int .i64 t ∧ Hid (S % 2 ^ t < 2 ^ N) ∧ Hid (Below g w wr) ∧ Hid (wr.heap[g]? = some (.cells (rowD k n (S % 2 ^ t)) 3 (0, 0)))) (fun tv _ => 8 * s.size - (intOf tv).toNat)
        case atStart => exact ⟨0, Nat.zero_le _, rfl, Lib.hid (by rw [Nat.pow_zero, Nat.mod_one]; exact Nat.two_pow_pos _), HBEL, HROW⟩
        case round =>
          clear HROW HBEL
          obtain ⟨t, ht, rfl, HX, HBEL, HROW⟩ := hrel
          by_cases ct : t < 8 * s.size
          · have hd8 : t / 8 < s.size := by omega
            have hy := HY.out t hd8
            have hxb : (s[t / 8]'hd8).toNat < 256 := (s[t / 8]'hd8).toNat_lt
            have e8a : (t : Int).tdiv 8 = ((t / 8 : Nat) : Int) := by rw [Int.tdiv_eq_ediv_of_nonneg (by omega)]; omega
            have e8b : (t : Int) / 8 = ((t / 8 : Nat) : Int) := by omega
            have e8c : (t : Int).tmod 8 = ((t % 8 : Nat) : Int) := by rw [Int.tmod_eq_emod_of_nonneg (by omega)]; omega
            have e8d : (t : Int) % 8 = ((t % 8 : Nat) : Int) := by omega
            have hr8 : t % 8 ≤ 7 := by omega
            generalize t / 8 = d8 at *
            generalize t % 8 = r8 at *
            have ha1 := u8_and1 ((s[d8]'hd8).toNat / 2 ^ r8) (Nat.lt_of_le_of_lt (Nat.div_le_self _ _) hxb)
            rw [← hy, Int.natCast_ediv, Int.natCast_pow, show ((2 : Nat) : Int) = 2 from rfl] at ha1
            have hv : S / 2 ^ t % 2 ≤ 1 := by omega
            have HV := Lib.hid (rfl : S / 2 ^ t % 2 = S / 2 ^ t % 2)
            clear hy
            obtain ⟨v, hvv⟩ : ∃ v, v = S / 2 ^ t % 2 := ⟨_, rfl⟩
            rw [← hvv] at ha1 hv
            have HVV := Lib.hid hvv
            clear hvv HV
            by_cases cN : N ≤ t
            · have cN2 : (N : Int) ≤ (t : Int) := by omega
              by_cases v1 : v = 1
              · subst v1
                have HRR := Lib.hid (HA.out.2 (bit_big HVV.out.symm cN))
                go_wp2
                go_ret2
                exact ⟨none, 0, by rw [HRR.out]; rfl, by rw [HRR.out]; exact OwnI.nil _ _, by rw [HG.out]; exact HBEL.out⟩
              · obtain rfl : v = 0 := by omega
                have hb := Lib.hid (bit_zero HVV.out.symm)
                have HX1 : Hid (S % 2 ^ (t + 1) < 2 ^ N) := by rw [hb.out]; exact HX.out
                have HROW1 : Hid (wr.heap[g]? = some (.cells (rowD k n (S % 2 ^ (t + 1))) 3 (0, 0))) := by rw [hb.out]; exact HROW.out
                have cv : (((0 : Nat) : Int) == 1) = false := rfl
                clear HX HROW hb
                go_wp2
                go_roundw
                case rel => exact ⟨t + 1, ct, by go_num, HX1, HBEL, HROW1⟩
                case measure => simp [intOf]; omega
            · have cN2 : ¬ (N : Int) ≤ (t : Int) := by omega
              have cN3 : t < N := by omega
              have hk0 : 0 < k := by
                rcases Nat.eq_zero_or_pos k with h | h
                · have := HN.out; rw [h, Nat.zero_mul] at this; omega
                · exact h
              have ht8 : t < k * n := by rw [HN.out]; exact cN3
              have hdn : t / k < n := Nat.div_lt_of_lt_mul ht8
              have hrk : t % k < k := Nat.mod_lt _ hk0
              have hc0 := (cell_of_row wr g (t / k) _ _ _ HROW.out).trans (rowD_at k S t n hk0 ht8)
              have hfz := frozen_of_row wr g (t / k) _ _ HROW.out
              have hst := Lib.hid (rowD_step k S t n hk0 ht8)
              rw [← HVV.out] at hst
              have hp := part_lt k S t
              have HX1 : Hid (S % 2 ^ (t + 1) < 2 ^ N) := by
                have h1 := Nat.mod_lt S (Nat.two_pow_pos (t + 1))
                exact Nat.lt_of_lt_of_le h1 (Nat.pow_le_pow_right (by omega) cN3)
              have hor := i64_or_bit (t % k) (part k S t) v (by omega) hp hv
              have h2r : 2 ^ (t % k) ≤ 2 ^ 16 := Nat.pow_le_pow_right (by omega) (by omega)
              have h3r : 2 ^ (t % k) * v ≤ 2 ^ (t % k) * 1 := Nat.mul_le_mul_left _ hv
              have hsh : (v : Int) * 2 ^ (t % k) = ((2 ^ (t % k) * v : Nat) : Int) := by rw [Int.natCast_mul, Int.mul_comm]; simp
              have hsh2 : IntKind.i64.wrap ((v : Int) * 2 ^ (t % k)) = ((2 ^ (t % k) * v : Nat) : Int) := by rw [hsh]; exact wrap_i64_nat _ (by omega)
              have ed1 : (t : Int).tdiv (k : Int) = ((t / k : Nat) : Int) := by rw [Int.tdiv_eq_ediv_of_nonneg (by omega), Int.natCast_ediv]
              have ed2 : (t : Int) / (k : Int) = ((t / k : Nat) : Int) := by rw [Int.natCast_ediv]
              have er1 : (t : Int).tmod (k : Int) = ((t % k : Nat) : Int) := by rw [Int.tmod_eq_emod_of_nonneg (by omega), Int.natCast_emod]
              have er2 : (t : Int) % (k : Int) = ((t % k : Nat) : Int) := by rw [Int.natCast_emod]
              have ew1 : IntKind.i64.wrap ((t / k : Nat) : Int) = ((t / k : Nat) : Int) := wrap_i64_nat _ (by omega)
              have ew2 : IntKind.i64.wrap ((t % k : Nat) : Int) = ((t % k : Nat) : Int) := wrap_i64_nat _ (by omega)
              have ek0 : ((k : Int) == 0) = false := by rw [beq_eq_false_iff_ne]; omega
              have ek1 : ¬ (k : Int) = 0 := by omega
              have ek2 : ¬ k = 0 := by omega
              have hdi : ((t / k : Nat) : Int) < (n : Int) := by omega
              clear h2r h3r hsh hp ht8 HVV
              generalize part k S t = p at *
              generalize 2 ^ (t % k) * v = q at *
              generalize t / k = d at *
              generalize t % k = r at *
              go_upto_region 15 with (fail)
              go_still_tail 17, (by kernel_rfl)
              have HOR := Lib.hid hor
              clear hor hsh2 ed1 ed2 er1 er2 ew1 ew2 ek0 ek1 ek2 hrk hk0 cN2 cN3 ha1 hxb hr8 e8a e8b e8c e8d m1 m2 m3 k1 k2 k3 hm1 hm2 hkn h8 hv cN
              change wpList _ _ _ _ _ wr.drew
              go_upto_region 10 with (fail)
              rw [show ((p : Int) + (q : Int)) = ((p + q : Nat) : Int) from (Int.natCast_add p q).symm]
              have hrow1 : ((wr.setCell ⟨g, d, none⟩ (.int .i64 ((p + q : Nat) : Int))).drew).heap[g]? = some (.cells (rowD k n (S % 2 ^ (t + 1))) 3 (0, 0)) := by
                rw [← hst.out]
                exact heap_setCell_same _ _ _ _ _ _ HROW.out
              have HBEL1 := Lib.hid ((HBEL.out.setCell (p := ⟨g, d, none⟩) (Nat.le_refl _) (.int .i64 ((p + q : Nat) : Int))).drew)
              have HROW1 := Lib.hid hrow1
              clear hrow1 HOR HROW HBEL hc0 hfz
              generalize (wr.setCell ⟨g, d, none⟩ (.int .i64 ((p + q : Nat) : Int))).drew = wn at *
              go_wp2
              go_roundw
              case rel => exact ⟨t + 1, ct, by go_num, HX1, HBEL1, HROW1⟩
              case measure => simp [intOf]; omega
          · obtain rfl : t = 8 * s.size := by omega
            have hX := HX.out
            have e256 : 2 ^ (8 * s.size) = 256 ^ s.size := (p256 _).symm
            rw [e256, Nat.mod_eq_of_lt HL.out] at hX
            have hrow := HROW.out
            rw [e256, Nat.mod_eq_of_lt HL.out, rowD_full] at hrow
            have HRR := Lib.hid (HA.out.1 (Nat.div_eq_of_lt hX))
            have HRW := Lib.hid hrow
            clear hX hrow HROW HX HL HY e256
            go_wp2
            go_ret2
            refine ⟨some ⟨g, 0, none⟩, n, by rw [HRR.out]; simp, ?_, by rw [HG.out]; exact HBEL.out⟩
            rw [HRR.out]
            exact own_row HRW.out (Nat.le_of_eq HG.out) (by simp only [maxLen]; omega) rfl
      · have HA := Lib.hid (unpackA_cut (s := s) hk hn (fun x => cs x.1))
        generalize hR : unpackA s n k = R at *
        have hne : ((s.size : Int) != (bytesFor n k : Int)) = true := by simp; omega
        generalize bytesFor n k = nb at *
        generalize k * n = N at *
        clear hR cs
        go_enter Try.func10, Try.ntmps10
        go_wp2
        go_ret2
        exact ⟨none, 0, by rw [HA.out]; rfl, by rw [HA.out]; exact OwnI.nil _ _, Below.refl _ _⟩
    · have HA := Lib.hid (unpackA_many (s := s) hk cm)
      generalize hR : unpackA s many k = R at *
      clear hR
      by_cases c1 : many < 0
      · go_enter Try.func10, Try.ntmps10
        go_wp2
        go_ret2
        exact ⟨none, 0, by rw [HA.out]; rfl, by rw [HA.out]; exact OwnI.nil _ _, Below.refl _ _⟩
      · have c2 : 65536 < many := by omega
        clear cm
        go_enter Try.func10, Try.ntmps10
        go_wp2
        go_ret2
        exact ⟨none, 0, by rw [HA.out]; rfl, by rw [HA.out]; exact OwnI.nil _ _, Below.refl _ _⟩
  · have HA := Lib.hid (unpackA_width (s := s) (many := many) cz)
    generalize hR : unpackA s many z = R at *
    clear hR
    by_cases c0 : z < 0
    · go_enter Try.func10, Try.ntmps10
      go_wp2
      go_ret2
      exact ⟨none, 0, by rw [HA.out]; rfl, by rw [HA.out]; exact OwnI.nil _ _, Below.refl _ _⟩
    · have c1 : (16 : Int) < z := by omega
      clear cz
      go_enter Try.func10, Try.ntmps10
      go_wp2
      go_ret2
      exact ⟨none, 0, by rw [HA.out]; rfl, by rw [HA.out]; exact OwnI.nil _ _, Below.refl _ _⟩
end Go.Proofs.Ytlepmiijdpcgnaa
