/- A value more at the end: the walk of the law. -/
import Derived.Test.YtgpnfmkonhaccaaWAwake
import Derived.Test.YtgpnfmkonhaccaaVOrd
import Derived.Test.YtgpnfmkonhaccaaVClean
import Derived.Test.YtgpnfmkonhaccaaBits
import Derived.Test.YtgpnfmkonhaccaaRegion
import Derived.Test.YtgpnfmkonhaccaaRest
namespace Go.Proofs.Ytgpnfmkonhaccaa
open Go.Conc Go.RowKit
set_option linter.unusedVariables false
set_option linter.unusedSimpArgs false

/-- What a value more does to words and places. -/
structure MoreW (vs : List V) (v : V) (K K2 P : Nat) : Prop where
  k : (buildA vs).1.length = K
  k2 : (buildA (vs ++ [v])).1.length = K2
  nums : (buildA (vs ++ [v])).2 = (buildA vs).2 ++ [(P : Int)]
  words : (buildA (vs ++ [v])).1.take K = (buildA vs).1
  kk : K ≤ K2
  pk : P < K2
  le : P ≤ K
  spot : (buildA (vs ++ [v])).1.getD P zeroV = plainV v
  iff : K2 = K ↔ P < K
  before : ∀ i, i < P → (buildA vs).1.getD i zeroV ≠ plainV v
  is : P < K → (buildA vs).1.getD P zeroV = plainV v
theorem more_words (vs : List V) (v : V) : ∃ K K2 P, MoreW vs v K K2 P := by
  obtain ⟨h1, h2⟩ := build_more vs v
  have hb := placeV_before (plainV v) (buildA vs).1
  have hi := placeV_at (plainV v) (buildA vs).1
  rcases h2 with ⟨h2, h3⟩ | ⟨h2, h3⟩
  · refine ⟨(buildA vs).1.length, (buildA vs).1.length + 1, placeV (plainV v) (buildA vs).1, rfl, by rw [h3]; simp, h1, by rw [h3, List.take_left], by omega, by omega, by omega, by rw [h3, h2, getD_end], by omega, hb, hi⟩
  · exact ⟨(buildA vs).1.length, (buildA vs).1.length, placeV (plainV v) (buildA vs).1, rfl, by rw [h3], h1, by rw [h3, List.take_length], by omega, h2, by omega, by rw [h3]; exact hi h2, by omega, hb, hi⟩

set_option maxRecDepth 100000 in
set_option maxHeartbeats 8000000 in
theorem wordsmore_walk (a : Option Addr) (cap : Nat) (vs : List V) (v : V) {w : World} (h0 : IsV w a vs) (n0 : a = none → vs.length = 0 ∧ cap = 0) (x0 : vs.length * 40 ≤ 140737488351232) (s0 : ∀ v ∈ vs, v.s.size ≤ 140737488351232) (s1 : v.s.size ≤ 140737488351232) :
    Calls Try.prog 5 #[.slice a vs.length cap, .agg #[.int .i64 v.k, .int .i64 v.i, .bool v.b, .string v.s]] w fun e w' => e = .returned (.bool true) ∧ Below w.heap.size w w' := by
  have s0' : ∀ v ∈ vs, v.s.size ≤ 281474976710656 := fun v hv => Nat.le_trans (s0 v hv) (by omega)
  have s1' : v.s.size ≤ 281474976710656 := by omega
  have s2' : ∀ u ∈ vs ++ [v], u.s.size ≤ 281474976710656 := fun u hu => by
    rcases List.mem_append.1 hu with h | h
    · exact s0' u h
    · simp at h; rw [h]; exact s1'
  obtain ⟨K, K2, P, hM⟩ := more_words vs v
  have hKv : K ≤ vs.length := by rw [← hM.k]; exact (built vs).le
  have hK2v : K2 ≤ vs.length + 1 := by have := (built (vs ++ [v])).le; rw [hM.k2] at this; simpa using this
  have hNE := (built vs).len
  have hN2 : (buildA (vs ++ [v])).2.length = vs.length + 1 := by rw [(built (vs ++ [v])).len]; simp
  have T1 : Hid (∀ u, IsV u a vs → Calls Try.prog 8 #[.slice a vs.length cap] u fun e w' => ∃ aw cw ai ci, e = .returned (.tuple #[.slice aw K cw, .slice ai vs.length ci]) ∧ OwnV u.heap.size w' aw cw (buildA vs).1 ∧ OwnI u.heap.size w' ai ci (buildA vs).2 ∧ Below u.heap.size u w') := fun u h => by
    have h := wbuild_any u _ cap vs h (by omega) s0'
    rw [hM.k, hNE] at h
    exact h
  have T2 : Hid (∀ u b c, IsV u b (vs ++ [v]) → Calls Try.prog 8 #[.slice b (vs ++ [v]).length c] u fun e w' => ∃ aw cw ai ci, e = .returned (.tuple #[.slice aw K2 cw, .slice ai (vs.length + 1) ci]) ∧ OwnV u.heap.size w' aw cw (buildA (vs ++ [v])).1 ∧ OwnI u.heap.size w' ai ci (buildA (vs ++ [v])).2 ∧ Below u.heap.size u w') := fun u b c h => by
    have h := wbuild_any u _ c (vs ++ [v]) h (by rw [List.length_append]; simp; omega) s2'
    rw [hM.k2, hN2] at h
    exact h
  have hap : ¬ dupV (buildA (vs ++ [v])).1 := built_apart _
  have hsz : ∀ u ∈ (buildA (vs ++ [v])).1, u.s.size ≤ 281474976710656 := fun u hu => by
    obtain ⟨u2, h1, h2⟩ := (built _).size u hu
    exact Nat.le_trans h2 (s2' u2 h1)
  have hsz1 : ∀ u ∈ (buildA vs).1, u.s.size ≤ 281474976710656 := fun u hu => by
    obtain ⟨u2, h1, h2⟩ := (built _).size u hu
    exact Nat.le_trans h2 (s0' u2 h1)
  have HPL : Hid (∀ i, i < K → plainV ((buildA vs).1.getD i zeroV) = (buildA vs).1.getD i zeroV) := fun i hi => (built vs).plain i (by rw [hM.k]; exact hi)
  have T7 : Hid (∀ u b c, IsV u b (buildA (vs ++ [v])).1 → Calls Try.prog 10 #[.slice b K2 c, .slice (some ⟨u.heap.size, 0, none⟩) 1 1] (u.alloc (.cells #[.int .i64 (P : Int)] 3)) fun e w' => ∃ aj cj, e = .returned (.tuple #[.slice aj 1 cj, .int .i64 0]) ∧ IsV w' aj [plainV v] ∧ Below u.heap.size u w') := fun u b c h => by
    have hb : Below u.heap.size u (u.alloc (.cells #[.int .i64 (P : Int)] 3)) := (Below.refl _ u).alloc (Nat.le_refl _) _
    have h := wlook_any _ b (some ⟨u.heap.size, 0, none⟩) c 1 (buildA (vs ++ [v])).1 [(P : Int)] (h.below hb) (isl_new u [(P : Int)] #[.int .i64 (P : Int)] rfl) (by rw [hM.k2]; omega) hsz (by simp)
    rw [hM.k2, lookA_yes hap (fun x hx => by simp at hx; rw [hx, hM.k2]; have := hM.pk; omega)] at h
    simp only [List.map_singleton, Int.toNat_natCast, hM.spot, plainV_twice, List.length_singleton] at h
    exact h.mono fun e w' ⟨aj, cj, h1, h2, h3⟩ => ⟨aj, cj, h1, h2.isV, hb.trans (h3.mono (by simp))⟩
  have HM := Lib.hid hM
  have HNE := Lib.hid hNE
  have HN2 := Lib.hid hN2
  have HSZ := Lib.hid hsz1
  have HV1 := Lib.hid s1'
  have HA := Lib.hid h0
  have HN := Lib.hid n0
  have T3 : Hid (∀ (x y : V), x.s.size ≤ 281474976710656 → y.s.size ≤ 281474976710656 → ∀ u, Calls Try.prog 21 #[.agg #[.int .i64 x.k, .int .i64 x.i, .bool x.b, .string x.s], .agg #[.int .i64 y.k, .int .i64 y.i, .bool y.b, .string y.s]] u fun e w' => e = .returned (.int .i64 (ordV x y)) ∧ Below u.heap.size u w') := fun x y hx hy u => rcmp_any x y (by omega) (by omega) u
  obtain ⟨u1, hu1⟩ : ∃ u1, u1 = w.alloc (.cells #[.int .i64 v.k, .int .i64 v.i, .bool v.b, .string v.s] 41) := ⟨_, rfl⟩
  have H3 : Hid (Slot u1 w.heap.size v) := by rw [hu1]; exact Slot.new w v
  have HB : Hid (Below w.heap.size w u1) := by rw [hu1]; exact (Below.refl _ w).alloc (Nat.le_refl _) _
  have H1 := Lib.hid hM.nums
  have H2 := Lib.hid hM.words
  have HBE := Lib.hid hM.before
  have HIS := Lib.hid hM.is
  have hkk := hM.kk
  have hpk := hM.pk
  have hle := hM.le
  have hiff := hM.iff
  have hk := hM.k
  have hk2 := hM.k2
  have HIF := Lib.hid hiff
  have HK := Lib.hid hk
  have HK2 := Lib.hid hk2
  clear hM HM hiff hk hk2 hap hsz
  generalize (buildA vs).1 = e at *
  generalize (buildA vs).2 = m at *
  generalize (buildA (vs ++ [v])).1 = e2 at *
  generalize (buildA (vs ++ [v])).2 = m2 at *
  have HKK := Lib.hid hkk
  have HPK := Lib.hid hpk
  have HLE := Lib.hid hle
  have HKV := Lib.hid hKv
  have HKV2 := Lib.hid hK2v
  clear h0 n0 s0 s0' s1 s1' s2' hNE hN2 hsz1 hkk hpk hle hKv hK2v
  go_enter Try.func5, Try.ntmps5
  go_upto_region 1 with fail
  rw [← hu1]
  clear hu1
  go_upto_region 3 with (go_at_call 19; refine (wordsawake_any _).mono ?_; rintro e w2 ⟨rfl, hb⟩; replace H3 := Lib.hid (H3.out.below hb); replace HB := Lib.hid (HB.out.trans (hb.mono HB.out.size)); clear hb)
  go_upto_region 4 with (go_at_call 8; refine (T1.out _ (HA.out.below HB.out)).mono ?_; rintro e w3 ⟨ae, ce, am, cm, rfl, he, hm, hb⟩; have HM := Lib.hid hm; have HE := Lib.hid he; have HEL : Hid (∀ k, At ae k → k < w3.heap.size) := fun k hk => (he.at_ge hk).2; have HW0 : Hid (w.heap.size < w3.heap.size) := (H3.out.below hb).lt; replace H3 := Lib.hid (H3.out.below hb); replace HB := Lib.hid (HB.out.trans (hb.mono HB.out.size)); clear hb hm he)
  go_upto_region 5 with (at_builtin; refine wp_copy (HA.out.below HB.out) HN.out (by omega) rfl _ _ rfl rfl rfl ?_; intro gx cx w4 hx hb; have HX := Lib.hid hx; replace HM := Lib.hid (OwnI.below HM.out hb); replace HE := Lib.hid (OwnV.below HE.out hb); replace H3 := Lib.hid (H3.out.below hb); replace HB := Lib.hid (HB.out.trans (hb.mono HB.out.size)); clear hb hx)
  have HGX : Hid (w3.heap.size ≤ gx) := (HX.out.at_ge (k := gx) rfl).1
  have HW3 : Hid (w.heap.size < w3.heap.size ∧ w3.heap.size ≤ w4.heap.size) := by
    have h1 := HX.out.at_ge (k := gx) rfl
    refine ⟨?_, by omega⟩
    exact HW0.out
  have hvb : vs.length ≤ 3518437208882 := by omega
  obtain ⟨⟨b0, b1, b2, b3⟩, _⟩ := H3.out.at
  go_upto_region 6 with (at_builtin; refine wp_val HX.out HW3.out.2 hvb rfl _ _ rfl v rfl rfl ?_; intro ax cx5 w5 hx hf _; have HXX := Lib.hid hx; replace HM := Lib.hid (OwnI.frm HM.out hf fun k hk _ hk2 => apart_iv HM.out HX.out hk hk2); replace HE := Lib.hid (OwnV.frm HE.out hf fun k hk _ hk2 => by have h1 := HEL.out k hk; have h2 := (HX.out.at_ge hk2).1; omega); replace H3 := Lib.hid (H3.out.same (hf.block _ H3.out.lt fun hk => by have h2 := (HX.out.at_ge hk).1; have h3 := HW3.out.1; omega)); replace HB := Lib.hid (Frm.to_below HB.out hf (fun k hk => by have h2 := (HX.out.at_ge hk).1; have h3 := HW3.out.1; omega) (Nat.le_refl _)); clear hx hf)
  rw [show (vs ++ [v]).length = vs.length + 1 by simp] at T2
  clear b0 b1 b2 b3
  go_upto_region 7 with (go_at_call 8; refine (T2.out _ _ _ HXX.out.isV).mono ?_; rintro e w6 ⟨ad, cd, ac, cc, rfl, hd, hc, hb⟩; have HC := Lib.hid hc; have HD := Lib.hid hd; replace HM := Lib.hid (OwnI.below HM.out hb); replace HE := Lib.hid (OwnV.below HE.out hb); replace H3 := Lib.hid (H3.out.below hb); replace HB := Lib.hid (HB.out.trans (hb.mono HB.out.size)); clear hb hc hd)
  clear T1 T2 HXX HX HEL HGX HW3 HW0 HA HN
  have hm20 : m2 ≠ [] := fun h => by have := HN2.out; rw [h] at this; simp at this
  have he20 : e2 ≠ [] := fun h => by have h1 := HK2.out; have h2 := HPK.out; rw [h] at h1; simp at h1; omega
  obtain ⟨gc, rfl⟩ := HC.out.there hm20
  obtain ⟨gd, rfl⟩ := HD.out.there he20
  have hcc := (HC.out.get vs.length (by rw [HN2.out]; omega)).1
  have hm2 : m2[vs.length]'(by rw [HN2.out]; omega) = (P : Int) := by
    have : m2.getD vs.length 0 = (P : Int) := by rw [H1.out, ← HNE.out]; exact getD_end
    rwa [getD_in (by rw [HN2.out]; omega)] at this
  rw [hm2] at hcc
  have HCC := Lib.hid hcc
  have HCT : Hid (IsL w6 (some ⟨gc, 0, none⟩) m) := by
    have h := HC.out.isL.take vs.length
    rw [H1.out, ← HNE.out, List.take_left] at h
    exact h
  have HDT : Hid (IsV w6 (some ⟨gd, 0, none⟩) e) := by
    have h := HD.out.isV.take K
    rw [H2.out] at h
    exact h
  have hcap : (vs.length : Int) ≤ (cc : Int) := by have h1 := HC.out.cap; rw [HN2.out] at h1; omega
  have hcap2 : (K : Int) ≤ (cd : Int) := by have h1 := HD.out.cap; rw [HK2.out] at h1; have h2 := HKK.out; omega
  have hN0 : (0 : Int) ≤ (vs.length : Int) := by omega
  have hK0 : (0 : Int) ≤ (K : Int) := by omega
  have hNw : IntKind.i64.wrap ((vs.length : Int) + 1) = (vs.length : Int) + 1 := wrap_i64_nat (vs.length + 1) (by omega)
  have hNi : (vs.length : Int) < (vs.length : Int) + 1 := by omega
  have hKK2 : ¬ (K2 < K) := by have := HKK.out; omega
  have hKK3 : ¬ ((K2 : Int) < (K : Int)) := by have := HKK.out; omega
  have T6 : Hid (∀ u p q c d, IsL u p m → IsL u q m → Calls Try.prog 13 #[.slice p vs.length c, .slice q vs.length d] u fun e w' => e = .returned (.bool true) ∧ Below u.heap.size u w') := fun u p q c d h h' => by
    have h3 := sameints_any u p q c d _ _ h h' (by rw [HNE.out]; simp only [maxLen]; omega)
    rw [decide_eq_true rfl, HNE.out] at h3
    exact h3
  have T4 : Hid (∀ u p q c d, IsV u p e → IsV u q e → Calls Try.prog 12 #[.slice p K c, .slice q K d] u fun e w' => e = .returned (.bool true) ∧ Below u.heap.size u w') := fun u p q c d h h' => by
    have h3 := samevals_any u p q c d _ _ h h' (by rw [HK.out]; have := HKV.out; simp only [maxLen]; omega)
    rw [decide_eq_true rfl, HK.out] at h3
    exact h3
  clear hm20 he20 hcc hm2
  have HD' := Lib.hid HD.out.isV
  have HMI := Lib.hid HM.out.isL
  have HEI := Lib.hid HE.out.isV
  clear HD HM HE HC
  go_upto_region 9 with (first
    | (go_at_call 13; refine (T6.out _ _ _ _ _ HCT.out HMI.out).mono ?_; rintro e w7 ⟨rfl, hb⟩; replace HDT := Lib.hid (HDT.out.below hb); replace HEI := Lib.hid (HEI.out.below hb); replace HD' := Lib.hid (HD'.out.below hb); replace H3 := Lib.hid (H3.out.below hb); replace HCC := Lib.hid ((hb.cell (p := ⟨gc, vs.length, none⟩) (World.block_lt_of_cell? w6 _ HCC.out)).trans HCC.out); replace HB := Lib.hid (HB.out.trans (hb.mono HB.out.size)); clear hb)
    | (go_at_call 12; refine (T4.out _ _ _ _ _ HDT.out HEI.out).mono ?_; rintro e w8 ⟨rfl, hb⟩; replace HEI := Lib.hid (HEI.out.below hb); replace HD' := Lib.hid (HD'.out.below hb); replace H3 := Lib.hid (H3.out.below hb); replace HCC := Lib.hid ((hb.cell (p := ⟨gc, vs.length, none⟩) (World.block_lt_of_cell? w7 _ HCC.out)).trans HCC.out); replace HB := Lib.hid (HB.out.trans (hb.mono HB.out.size)); clear hb))
  have hcc := HCC.out
  clear hcap hcap2 hKK2 hKK3 HCT HDT T4 T6 HMI
  go_wp2
  clear hcc hNw hNi hN0 hK0
  have HKN : Hid (K ≤ 3518437208882) := Nat.le_trans HKV.out hvb
  go_loopw [11, 12] (fun kv iv wr => ∃ (n : Nat) (kn : Bool), n ≤ K ∧ iv = .int .i64 n ∧ kv = .bool kn ∧ Hid (kn = decide (P < n)) ∧ Hid (Below w8.heap.size w8 wr)) (fun _ iv _ => K - (intOf iv).toNat)
  case atStart => exact ⟨0, false, Nat.zero_le _, rfl, rfl, (decide_eq_false (Nat.not_lt_zero P)).symm, Below.refl _ _⟩
  case round =>
    obtain ⟨n, kn, hn, rfl, rfl, HQ, HBW⟩ := hrel
    by_cases c : n < K
    · have hnw : IntKind.i64.wrap ((n : Int) + 1) = (n : Int) + 1 := by have := HKN.out; exact wrap_i64_nat (n + 1) (by omega)
      cases kn with
      | true =>
        have HQ2 : Hid (true = decide (P < n + 1)) := by
          have h := of_decide_eq_true HQ.out.symm
          exact (decide_eq_true (by omega)).symm
        go_upto_region 14 with fail
        go_quiet (fail)
        have HBW2 := Lib.hid (bel_drewN (n := nq) HBW.out)
        generalize wr.drewN nq = w9 at *
        clear HQ
        go_wp2
        go_roundw
        case rel => exact ⟨n + 1, true, c, by go_num, rfl, HQ2, HBW2⟩
        case measure => simp [intOf]; omega
      | false =>
        have hPn : n ≤ P := by have h := of_decide_eq_false HQ.out.symm; omega
        obtain ⟨be, oe, rfl, hl⟩ := HEI.out.get (n := n) (by rw [HK.out]; exact c)
        have HL := Lib.hid (hl.below HBW.out)
        have HSL := Lib.hid (H3.out.below HBW.out)
        have HLS : Hid ((e.getD n zeroV).s.size ≤ 281474976710656) := by
          have hn2 : n < e.length := by rw [HK.out]; exact c
          unfold Hid
          rw [getD_in hn2]; exact HSZ.out _ (List.getElem_mem _)
        have hz : (ordV (e.getD n zeroV) v == 0) = decide (P < n + 1) := by
          have h := ordV_zero (e.getD n zeroV) v
          rw [HPL.out n c] at h
          by_cases e2 : n = P
          · have h1 := HIS.out (by omega)
            rw [← e2] at h1
            rw [h.2 h1, decide_eq_true (by omega)]; rfl
          · have h1 := HBE.out n (by omega)
            rw [decide_eq_false (by omega)]
            have := fun e3 => h1 (h.1 e3)
            simpa using this
        have HZ := Lib.hid hz
        clear hl hz hPn HQ
        generalize e.getD n zeroV = l at *
        have hni : (n : Int) < (K : Int) := by omega
        go_upto_region 14 with fail
        refine region_class (fun w' => Below wr.heap.size wr w') (by kernel_rfl) (by kernel_rfl) (Below.refl _ _).drew ?_
        repeat (
          refine wpQuiet_step (fun K9 hK => ?_)
          go_simp
          first
          | (refine hK _ ?_; clear hK K9)
          | (apply Exists.intro
             refine ⟨fun w1 hw1 => ?_, hK _ ?_⟩
             (first
               | (exact rfl)
               | (obtain ⟨p0, p1, p2, p3⟩ := HL.out.below hw1; simp only [p0, p1, p2, p3, Result.andThen]; exact ⟨trivial, rfl⟩)
               | (obtain ⟨⟨p0, p1, p2, p3⟩, _⟩ := (HSL.out.below hw1).at; simp only [p0, p1, p2, p3, Result.andThen]; exact ⟨trivial, rfl⟩)
               | (go_at_call 21; exact (T3.out _ _ HLS.out HV1.out _).mono fun e w2 ⟨he, hb⟩ => ⟨he, hw1.trans (hb.mono hw1.size)⟩)
               | (exact ⟨trivial, rfl⟩))
             clear hK K9))
        refine wpQuiet_nil ?_
        intro w9 hw9
        rw [HZ.out]
        have HBW2 := Lib.hid (HBW.out.trans (hw9.mono HBW.out.size))
        have HQ2 : Hid (decide (P < n + 1) = decide (P < n + 1)) := rfl
        generalize hkn : decide (P < n + 1) = kn at *
        have HQ3 : Hid (kn = decide (P < n + 1)) := hkn.symm
        clear hw9 HL HSL HLS HZ HQ2 hkn
        go_wp2
        go_roundw
        case rel => exact ⟨n + 1, kn, c, by go_num, rfl, HQ3, HBW2⟩
        case measure => simp [intOf]; omega
    · obtain rfl : n = K := by omega
      replace HB := Lib.hid (HB.out.trans (HBW.out.mono HB.out.size))
      have HD2 := Lib.hid (HD'.out.below HBW.out)
      replace H3 := Lib.hid (H3.out.below HBW.out)
      have T5 : Hid (∀ u, Calls Try.prog 20 #[.agg #[.int .i64 v.k, .int .i64 v.i, .bool v.b, .string v.s]] u fun e w' => e = .returned (.agg #[.int .i64 (plainV v).k, .int .i64 (plainV v).i, .bool (plainV v).b, .string (plainV v).s]) ∧ Below u.heap.size u w') := fun u => rclean_any v u
      clear c HEI HD' HBW
      go_upto_region 16 with (go_at_call 10; refine (T7.out _ _ _ HD2.out).mono ?_; rintro e w10 ⟨aj, cj, rfl, hj, hb⟩; have HJ := Lib.hid hj; replace HB := Lib.hid (HB.out.trans (hb.mono HB.out.size)); replace H3 := Lib.hid (H3.out.below hb); clear hb hj)
      obtain ⟨bj, oj, rfl, hj⟩ := HJ.out.get (n := 0) (by simp)
      have hj0 : ValAt w10 bj oj (plainV v) := by simpa using hj
      have HJ0 := Lib.hid hj0
      have hpk := HPK.out
      have hpki : (P : Int) < (K2 : Int) := by omega
      have hkn : ((K2 : Int) == (n : Int)) = decide (P < n) := by
        by_cases h : P < n
        · rw [decide_eq_true h, HIF.out.2 h]; simp
        · rw [decide_eq_false h]
          have := fun h2 => h (HIF.out.1 h2)
          simp; omega
      have HKN2 := Lib.hid HQ.out
      rw [← hkn] at HKN2
      clear hj hj0 HQ hkn T7 HD2
      generalize plainV v = p at *
      have hq := run_eql_val p p
      simp only [decide_eq_true] at hq
      have hbb : ∀ b : Bool, (b == b) = true := fun b => by cases b <;> rfl
      rw [HKN2.out]
      clear HKN2
      generalize hke : ((K2 : Int) == (n : Int)) = ke at *
      refine region_class (fun w' => Below w10.heap.size w10 w') (by kernel_rfl) (by kernel_rfl) (Below.refl _ _).drew ?_
      repeat (
        refine wpQuiet_step (fun K9 hK => ?_)
        go_simp
        first
        | (refine hK _ ?_; clear hK K9)
        | (apply Exists.intro
           refine ⟨fun w1 hw1 => ?_, hK _ ?_⟩
           (first
             | (exact rfl)
             | (obtain ⟨p0, p1, p2, p3⟩ := HJ0.out.below hw1; simp only [p0, p1, p2, p3, Result.andThen]; exact ⟨trivial, rfl⟩)
             | (obtain ⟨⟨p0, p1, p2, p3⟩, _⟩ := (H3.out.below hw1).at; simp only [p0, p1, p2, p3, Result.andThen]; exact ⟨trivial, rfl⟩)
             | (go_at_call 14; exact (num_any _ _).mono fun e w2 ⟨he, hb⟩ => ⟨he, by rw [← hb]; exact hw1⟩)
             | (go_at_call 20; exact (T5.out _).mono fun e w2 ⟨he, hb⟩ => ⟨he, hw1.trans (hb.mono hw1.size)⟩)
             | (exact ⟨trivial, rfl⟩))
           clear hK K9))
      refine wpQuiet_nil ?_
      intro w11 hw11
      have HB11 := Lib.hid (HB.out.trans (hw11.mono HB.out.size))
      clear hw11
      go_wp2
      go_ret
      exact ⟨rfl, HB11.out⟩
end Go.Proofs.Ytgpnfmkonhaccaa
