/- Many like values take few bytes, nulls a bit each: the walk of the law. -/
import Derived.Test.YtfbmlefhjoblbaaGreatLVecBack
import Derived.Test.YtfbmlefhjoblbaaGreatYmath
import Derived.Test.YtfbmlefhjoblbaaGreatBits
namespace Go.Proofs.YtfbmlefhjoblbaaGreat
open Go.Conc Go.RowKit
set_option linter.unusedVariables false
set_option linter.unusedSimpArgs false

/-- So many of the one, then of the other. -/
def likeV (v : V) (n j : Nat) : List V := List.replicate j v ++ List.replicate (n - j) zeroV
theorem like_len (v : V) (n j : Nat) (h : j ≤ n) : (likeV v n j).length = n := by
  unfold likeV; rw [List.length_append, List.length_replicate, List.length_replicate]; omega
theorem like_next (v : V) (n j : Nat) (h : j < n) : (likeV v n j).set j v = likeV v n (j + 1) := by
  unfold likeV
  rw [List.set_append_right _ _ (by simp), List.length_replicate, Nat.sub_self, show n - j = (n - (j + 1)) + 1 by omega, List.replicate_succ, List.set_cons_zero]
  rw [show List.replicate (j + 1) v = List.replicate j v ++ [v] by rw [List.replicate_succ'], List.append_assoc]
  rfl
theorem like_zero (v : V) (n : Nat) : likeV v n 0 = List.replicate n zeroV := by unfold likeV; simp
theorem like_all (v : V) (n : Nat) : likeV v n n = List.replicate n v := by unfold likeV; simp
theorem sh_sum1 (m n : Nat) (h : n = 64 + m) (hm : m < 1024) : wrap64 (64 + (m : Int)) = (n : Int) := by unfold wrap64; omega
theorem sh_sum2 (m n : Nat) (h : n = 64 + m) (hm : m < 1024) : IntKind.i64.wrap (64 + (m : Int)) = (n : Int) := by
  rw [h, show (64 : Int) + (m : Int) = ((64 + m : Nat) : Int) by omega]; exact wrap_i64_nat _ (by omega)
theorem sh_quo (n A : Nat) (hn : n < 1088) (hA : A < 100) : (n : Int).tdiv 8 = ((n / 8 : Nat) : Int) := by rw [Int.tdiv_eq_ediv_of_nonneg (by omega)]; omega
theorem sh_w1 (n A : Nat) (hn : n < 1088) (hA : A < 100) : wrap64 (((n / 8 : Nat) : Int) + A) = ((n / 8 : Nat) : Int) + A := by unfold wrap64; omega
theorem sh_w2 (n : Nat) (hn : n < 1088) : wrap64 ((n : Int).tdiv 8) = ((n / 8 : Nat) : Int) := by rw [sh_quo n 0 hn (by omega)]; unfold wrap64; omega
theorem sh_w3 (n : Nat) (hn : n < 1088) : wrap64 ((n : Int) / 8) = (n : Int) / 8 := by unfold wrap64; omega
theorem sh_w4 (n A : Nat) (hn : n < 1088) (hA : A < 100) : wrap64 ((n : Int) / 8 + A) = (n : Int) / 8 + A := by unfold wrap64; omega
theorem and1023 (c : Int) : ∃ m : Nat, m < 1024 ∧ bits .and .i64 c 1023 = (m : Int) := by
  have h := lowBits 10 (by omega) c
  refine ⟨(c % (2 ^ 10 : Nat)).toNat, ?_, h⟩
  have h1 := Int.emod_lt_of_pos c (show (0 : Int) < ((2 ^ 10 : Nat) : Int) by omega)
  have h2 := Int.emod_nonneg c (show ((2 ^ 10 : Nat) : Int) ≠ 0 by omega)
  omega

set_option maxRecDepth 100000 in
set_option maxHeartbeats 8000000 in
theorem vecshort_null (x many : Int) (b0 : -9223372036854775808 ≤ x) (b1 : x < 9223372036854775808) (w : World) :
    Calls Tryz.prog 7 #[.int .i64 x, .int .i64 many, .bool true] w fun e w' => e = .returned (.bool true) ∧ Below w.heap.size w w' := by
  obtain ⟨m, hm, hmk⟩ := and1023 many
  obtain ⟨n, hn⟩ : ∃ n, n = 64 + m := ⟨_, rfl⟩
  have HN1 := Lib.hid (sh_sum1 m n hn hm)
  have HN2 := Lib.hid (sh_sum2 m n hn hm)
  have HMK := Lib.hid hmk
  have hn64 : 64 ≤ n ∧ n < 1088 := by omega
  clear hmk hn
  obtain ⟨L, hL⟩ : ∃ L, L = List.replicate n zeroV := ⟨_, rfl⟩
  have hl : L.length = n := by rw [hL, List.length_replicate]
  have hfine : Fine L := by
    intro v hv
    rw [hL] at hv
    rw [(List.mem_replicate.1 hv).2]
    exact ⟨⟨by decide, by decide⟩, Nat.zero_le _⟩
  have hput : (colPut 1 L).2 = (0, 0) ∧ (colPut 1 L).1.size ≤ n / 8 + 9 := by
    have h := nulls_put (k := 1) (by omega) (List.replicate n zeroV) (by rw [List.length_replicate]; omega) (fun v hv => by rw [(List.mem_replicate.1 hv).2]; kernel_rfl)
    rw [List.length_replicate] at h
    rw [← hL] at h
    exact h
  obtain ⟨hp1, hp2⟩ := hput
  have hpl : L.map plainV = L := by rw [hL, List.map_replicate]; rfl
  have hget : colGet 1 (colPut 1 L).1 = (L, 0) := by
    rw [get_put (reads_parse (by omega)) (by rw [hp1]) (fun v hv => (hfine v hv).1), hpl]
  have T1 := Lib.hid (fun (u : World) (p : Option Addr) (c : Nat) (h : IsV u p L) => vecput_any u 1 p c L h (by omega) hfine)
  have T2 := Lib.hid (fun (u : World) (p : Option Addr) (c : Nat) (h : IsV u p L) => vecenc_any u 1 p c L h (by omega) hfine)
  have T3 := Lib.hid (fun (u : World) => vecget_any u 1 (colPut 1 L).1 (by omega))
  have T4 := Lib.hid (fun (u : World) (p q : Option Addr) (c d : Nat) (h : IsV u p L) (h2 : IsV u q L) => samevals_any u p q c d L L h h2 (by unfold maxLen; omega))
  rw [hget] at T3
  rw [hp1] at T1 T2
  simp only [decide_eq_true] at T4
  rw [hl] at T1 T2 T4
  simp only [hl] at T3
  have T0 := Lib.hid vecawake_any
  have hs1 : ((colPut 1 L).1.size : Int) ≤ ((n / 8 : Nat) : Int) + 9 := by omega
  generalize (colPut 1 L).1 = S at *
  have hs2 : (S.size : Int) ≤ (n : Int) / 8 + 9 := by omega
  have HQ := Lib.hid (And.intro (sh_quo n 9 hn64.2 (by omega)) (And.intro (sh_w1 n 9 hn64.2 (by omega)) (And.intro (sh_w2 n hn64.2) (And.intro (sh_w3 n hn64.2) (And.intro (sh_w4 n 9 hn64.2 (by omega)) (And.intro hs1 hs2))))))
  have HLL := Lib.hid hL
  have HNN := Lib.hid (show n ≤ 1087 by omega)
  clear hs1 hs2 hp1 hp2 hget hpl hfine hL hl
  have HB : Hid (Below w.heap.size w w) := Below.refl _ _
  go_enter Tryz.func7, Tryz.ntmps7
  go_upto_region 3 with (go_at_call 21; refine (T0.out _).mono ?_; rintro e w1 ⟨rfl, hb⟩; replace HB := Lib.hid (HB.out.trans (hb.mono HB.out.size)); clear hb)
  have hmk := HMK.out
  have hn1 := HN1.out
  have hn2 := HN2.out
  go_upto_region 4 with fail
  clear hmk hn1 hn2
  obtain ⟨C, hmks, hown⟩ := made_vals_own w1 n (by have := HNN.out; omega)
  have HO := Lib.hid hown
  have HB1 : Hid (Below w.heap.size w (w1.alloc (.cells C 24))) := HB.out.alloc HB.out.size _
  clear hown
  go_upto_region 5 with fail
  obtain ⟨g, hg⟩ : ∃ g, g = w1.heap.size := ⟨_, rfl⟩
  have HG : Hid (w.heap.size ≤ g) := by rw [hg]; exact HB.out.size
  rw [← hg] at HO ⊢
  clear hg hmks HB
  generalize w1.alloc (.cells C 24) = w2 at *
  go_wp2
  go_loopw [9] (fun iv wr => iv = .int .i64 0 ∧ wr = w2) (fun iv _ => 1)
  case atStart => exact ⟨rfl, rfl⟩
  case round =>
    obtain ⟨rfl, rfl⟩ := hrel
    have hnp : (0 : Int) < (n : Int) := by omega
    have HV : Hid (IsV wr (some ⟨g, 0, none⟩) L) := by rw [HLL.out]; exact HO.out.isV
    have HB := HB1

    clear T0 HB1
    go_upto_region 10 with (go_at_call 14; refine (T1.out _ _ _ HV.out).mono ?_; rintro e w3 ⟨rfl, hb⟩; replace HB := Lib.hid (HB.out.trans (hb.mono HB.out.size)); replace HV := Lib.hid (HV.out.below hb); clear hb)
    go_upto_region 11 with (go_at_call 16; refine (T2.out _ _ _ HV.out).mono ?_; rintro e w4 ⟨rfl, hb⟩; replace HB := Lib.hid (HB.out.trans (hb.mono HB.out.size)); replace HV := Lib.hid (HV.out.below hb); clear hb)
    go_upto_region 12 with (go_at_call 23; refine (T3.out _).mono ?_; rintro e w5 ⟨ax, cx, rfl, ho, hb⟩; replace HB := Lib.hid (HB.out.trans (hb.mono HB.out.size)); replace HV := Lib.hid (HV.out.below hb); have HX := Lib.hid ho.isV; clear hb ho)
    obtain ⟨hq1, hq2, hq3, hq4, hq5, hs1, hs2⟩ := HQ.out
    go_wp2_with (first
      | (go_at_call 17; refine (num_any _ _).mono ?_; rintro e w' ⟨rfl, rfl⟩)
      | (go_at_call 25; refine (T4.out _ _ _ _ _ HX.out HV.out).mono ?_; rintro e w6 ⟨rfl, hb⟩; replace HB := Lib.hid (HB.out.trans (hb.mono HB.out.size)); clear hb))
    go_ret
    exact ⟨rfl, HB.out⟩
set_option maxRecDepth 100000 in
set_option maxHeartbeats 8000000 in
theorem vecshort_like (x many : Int) (b0 : -9223372036854775808 ≤ x) (b1 : x < 9223372036854775808) (w : World) :
    Calls Tryz.prog 7 #[.int .i64 x, .int .i64 many, .bool false] w fun e w' => e = .returned (.bool true) ∧ Below w.heap.size w w' := by
  obtain ⟨m, hm, hmk⟩ := and1023 many
  obtain ⟨n, hn⟩ : ∃ n, n = 64 + m := ⟨_, rfl⟩
  have HN1 := Lib.hid (sh_sum1 m n hn hm)
  have HN2 := Lib.hid (sh_sum2 m n hn hm)
  have HMK := Lib.hid hmk
  have hn64 : 64 ≤ n ∧ n < 1088 := by omega
  clear hmk hn
  obtain ⟨L, hL⟩ : ∃ L, L = List.replicate n (⟨1, x, false, ByteArray.empty⟩ : V) := ⟨_, rfl⟩
  have hl : L.length = n := by rw [hL, List.length_replicate]
  have hfine : Fine L := by
    intro v hv
    rw [hL] at hv
    rw [(List.mem_replicate.1 hv).2]
    exact ⟨⟨by exact b0, by show x ≤ _; omega⟩, Nat.zero_le _⟩
  have hput : (colPut 1 L).2 = (2, 0) ∧ (colPut 1 L).1.size ≤ n / 8 + 24 := by
    have h := like_put x b0 (by omega) n (by omega) (by omega)
    rw [← hL] at h
    exact h
  obtain ⟨hp1, hp2⟩ := hput
  have hpl : L.map plainV = L := by rw [hL, List.map_replicate]; rfl
  have hget : colGet 1 (colPut 1 L).1 = (L, 0) := by
    rw [get_put (reads_parse (by omega)) (by rw [hp1]) (fun v hv => (hfine v hv).1), hpl]
  have T1 := Lib.hid (fun (u : World) (p : Option Addr) (c : Nat) (h : IsV u p L) => vecput_any u 1 p c L h (by omega) hfine)
  have T2 := Lib.hid (fun (u : World) (p : Option Addr) (c : Nat) (h : IsV u p L) => vecenc_any u 1 p c L h (by omega) hfine)
  have T3 := Lib.hid (fun (u : World) => vecget_any u 1 (colPut 1 L).1 (by omega))
  have T4 := Lib.hid (fun (u : World) (p q : Option Addr) (c d : Nat) (h : IsV u p L) (h2 : IsV u q L) => samevals_any u p q c d L L h h2 (by unfold maxLen; omega))
  rw [hget] at T3
  rw [hp1] at T1 T2
  simp only [decide_eq_true] at T4
  rw [hl] at T1 T2 T4
  simp only [hl] at T3
  have T0 := Lib.hid vecawake_any
  have hs1 : ((colPut 1 L).1.size : Int) ≤ ((n / 8 : Nat) : Int) + 24 := by omega
  generalize (colPut 1 L).1 = S at *
  have hs2 : (S.size : Int) ≤ (n : Int) / 8 + 24 := by omega
  have HQ := Lib.hid (And.intro (sh_quo n 24 hn64.2 (by omega)) (And.intro (sh_w1 n 24 hn64.2 (by omega)) (And.intro (sh_w2 n hn64.2) (And.intro (sh_w3 n hn64.2) (And.intro (sh_w4 n 24 hn64.2 (by omega)) (And.intro hs1 hs2))))))
  have HLL := Lib.hid hL
  have HNN := Lib.hid (show n ≤ 1087 by omega)
  clear hs1 hs2 hp1 hp2 hget hpl hfine hL hl
  have HB : Hid (Below w.heap.size w w) := Below.refl _ _
  go_enter Tryz.func7, Tryz.ntmps7
  go_upto_region 3 with (go_at_call 21; refine (T0.out _).mono ?_; rintro e w1 ⟨rfl, hb⟩; replace HB := Lib.hid (HB.out.trans (hb.mono HB.out.size)); clear hb)
  have hmk := HMK.out
  have hn1 := HN1.out
  have hn2 := HN2.out
  go_upto_region 4 with fail
  clear hmk hn1 hn2
  obtain ⟨C, hmks, hown⟩ := made_vals_own w1 n (by have := HNN.out; omega)
  have HO := Lib.hid hown
  have HB1 : Hid (Below w.heap.size w (w1.alloc (.cells C 24))) := HB.out.alloc HB.out.size _
  clear hown
  go_upto_region 5 with fail
  obtain ⟨g, hg⟩ : ∃ g, g = w1.heap.size := ⟨_, rfl⟩
  have HG : Hid (w.heap.size ≤ g) := by rw [hg]; exact HB.out.size
  rw [← hg] at HO ⊢
  clear hg hmks HB
  generalize w1.alloc (.cells C 24) = w2 at *
  go_wp2
  go_loopw [9] (fun iv wr => ∃ j : Nat, j ≤ n ∧ iv = .int .i64 j ∧ Hid (OwnV g wr (some ⟨g, 0, none⟩) n (likeV ⟨1, x, false, ⟨#[]⟩⟩ n j)) ∧ Hid (Below w.heap.size w wr)) (fun iv _ => n - (intOf iv).toNat)
  case atStart => exact ⟨0, Nat.zero_le _, rfl, by unfold Hid; rw [like_zero]; exact HO.out, HB1⟩
  case round =>
    obtain ⟨j, hj, rfl, HC, HB⟩ := hrel
    by_cases c : j < n
    · have hll := like_len ⟨1, x, false, ⟨#[]⟩⟩ n j hj
      have hlj : j < (likeV ⟨1, x, false, ⟨#[]⟩⟩ n j).length := by omega
      obtain ⟨m0, m1, m2, m3⟩ := HC.out.get j hlj
      obtain ⟨f0, f1, f2, f3⟩ := HC.out.getF j hlj
      have hst := HC.out.stored j ⟨1, x, false, ⟨#[]⟩⟩ hlj
      rw [like_next _ n j c] at hst
      have HST := Lib.hid hst
      have HBS := Lib.hid (Frm.to_below HB.out (Frm.row (u := wr) (g := g) (j := j) (F := fun k => k = g) rfl ⟨1, x, false, ⟨#[]⟩⟩) (fun k e => by have := HG.out; omega) (Nat.le_refl _))
      have hci : (j : Int) < (n : Int) := by omega
      have hnn : n ≤ 1087 := HNN.out
      clear hst
      go_wp2
      go_roundw
      case rel => exact ⟨j + 1, c, by go_num, HST, HBS⟩
      case measure => simp [intOf]; omega
    obtain rfl : j = n := by omega
    have HV : Hid (IsV wr (some ⟨g, 0, none⟩) L) := by
      have h := HC.out.isV
      rw [like_all] at h
      rw [HLL.out]
      exact h
    clear c
    clear T0 HB1
    go_upto_region 10 with (go_at_call 14; refine (T1.out _ _ _ HV.out).mono ?_; rintro e w3 ⟨rfl, hb⟩; replace HB := Lib.hid (HB.out.trans (hb.mono HB.out.size)); replace HV := Lib.hid (HV.out.below hb); clear hb)
    go_upto_region 11 with (go_at_call 16; refine (T2.out _ _ _ HV.out).mono ?_; rintro e w4 ⟨rfl, hb⟩; replace HB := Lib.hid (HB.out.trans (hb.mono HB.out.size)); replace HV := Lib.hid (HV.out.below hb); clear hb)
    go_upto_region 12 with (go_at_call 23; refine (T3.out _).mono ?_; rintro e w5 ⟨ax, cx, rfl, ho, hb⟩; replace HB := Lib.hid (HB.out.trans (hb.mono HB.out.size)); replace HV := Lib.hid (HV.out.below hb); have HX := Lib.hid ho.isV; clear hb ho)
    obtain ⟨hq1, hq2, hq3, hq4, hq5, hs1, hs2⟩ := HQ.out
    go_wp2_with (first
      | (go_at_call 17; refine (num_any _ _).mono ?_; rintro e w' ⟨rfl, rfl⟩)
      | (go_at_call 25; refine (T4.out _ _ _ _ _ HX.out HV.out).mono ?_; rintro e w6 ⟨rfl, hb⟩; replace HB := Lib.hid (HB.out.trans (hb.mono HB.out.size)); clear hb))
    go_ret
    exact ⟨rfl, HB.out⟩
theorem vecshort_walk (x many : Int) (nl : Bool) (b0 : -9223372036854775808 ≤ x) (b1 : x < 9223372036854775808) (_ : -9223372036854775808 ≤ many) (_ : many < 9223372036854775808) (w : World) :
    Calls Tryz.prog 7 #[.int .i64 x, .int .i64 many, .bool nl] w fun e w' => e = .returned (.bool true) ∧ Below w.heap.size w w' := by
  cases nl with
  | true => exact vecshort_null x many b0 b1 w
  | false => exact vecshort_like x many b0 b1 w
end Go.Proofs.YtfbmlefhjoblbaaGreat
