/- A value more at the end: the walk of the law. -/
import Derived.Test.YtpijnnkhokmlbaaRAwake
import Derived.Test.YtpijnnkhokmlbaaBits
namespace Go.Proofs.Ytpijnnkhokmlbaa
open Go.Conc Go.RowKit
set_option linter.unusedVariables false
set_option linter.unusedSimpArgs false

theorem OwnI.cap {base cap : Nat} {w : World} {a : Option Addr} {xs : List Int} (h : OwnI base w a cap xs) : xs.length ≤ cap := by
  rcases h.block with ⟨_, rfl, rfl⟩ | ⟨g, _, _, _, hc, _⟩
  · simp
  · exact hc
theorem more_small (vs : List V) (h : vs.length * 40 ≤ 140737488355328) (x : Int) (i : Nat) (hi : i < (cutA vs).1.length) (hx : x = (cutA vs).1.getD i 0) : 1 ≤ x ∧ x ≤ vs.length := by
  rw [hx]
  exact ⟨(cutd vs).pos i hi, cut_num_le vs i hi⟩

set_option maxRecDepth 100000 in
set_option maxHeartbeats 8000000 in
theorem runsmore_walk (a : Option Addr) (cap : Nat) (vs : List V) (v : V) {w : World} (h0 : IsV w a vs) (n0 : a = none → vs.length = 0 ∧ cap = 0) (x0 : vs.length * 40 ≤ 140737488351232) (s0 : ∀ v ∈ vs, v.s.size ≤ 140737488351232) (s1 : v.s.size ≤ 140737488351232) :
    Calls Try.prog 5 #[.slice a vs.length cap, .agg #[.int .i64 v.k, .int .i64 v.i, .bool v.b, .string v.s]] w fun e w' => e = .returned (.bool true) ∧ Below w.heap.size w w' := by
  have s0' : ∀ v ∈ vs, v.s.size ≤ 281474976710656 := fun v hv => Nat.le_trans (s0 v hv) (by omega)
  have s1' : v.s.size ≤ 281474976710656 := by omega
  have s2' : ∀ u ∈ vs ++ [v], u.s.size ≤ 281474976710656 := fun u hu => by
    rcases List.mem_append.1 hu with h | h
    · exact s0' u h
    · simp at h; rw [h]; exact s1'
  obtain ⟨K, hK⟩ : ∃ K, (cutA vs).1.length = K := ⟨_, rfl⟩
  have hK2 : (cutA vs).2.length = K := by rw [← (cutd vs).len, hK]
  obtain ⟨K2, hL⟩ : ∃ K2, (cutA (vs ++ [v])).1.length = K2 := ⟨_, rfl⟩
  have hL2 : (cutA (vs ++ [v])).2.length = K2 := by rw [← (cutd (vs ++ [v])).len, hL]
  have hKv : K ≤ vs.length := by rw [← hK2]; exact (cutd vs).le
  have T1 : Hid (∀ u, IsV u a vs → Calls Try.prog 8 #[.slice a vs.length cap] u fun e w' => ∃ am cm ae ce, e = .returned (.tuple #[.slice am K cm, .slice ae K ce]) ∧ OwnI u.heap.size w' am cm (cutA vs).1 ∧ OwnV u.heap.size w' ae ce (cutA vs).2 ∧ Below u.heap.size u w') := fun u h => by
    have h := ucut_any u _ cap vs h (by omega) s0'
    rw [hK, hK2] at h
    exact h
  have T2 : Hid (∀ u b c, IsV u b (vs ++ [v]) → Calls Try.prog 8 #[.slice b (vs ++ [v]).length c] u fun e w' => ∃ am cm ae ce, e = .returned (.tuple #[.slice am K2 cm, .slice ae K2 ce]) ∧ OwnI u.heap.size w' am cm (cutA (vs ++ [v])).1 ∧ OwnV u.heap.size w' ae ce (cutA (vs ++ [v])).2 ∧ Below u.heap.size u w') := fun u b c h => by
    have h := ucut_any u _ c (vs ++ [v]) h (by rw [List.length_append]; simp; omega) s2'
    rw [hL, hL2] at h
    exact h
  have hst : ((cutA (vs ++ [v])).1, (cutA (vs ++ [v])).2) = cutStep ((cutA vs).1, (cutA vs).2) v := cutA_snoc vs v
  have hsm : ∀ i, i < K → 1 ≤ (cutA vs).1.getD i 0 ∧ (cutA vs).1.getD i 0 ≤ vs.length := fun i hi => more_small vs (by omega) _ i (by omega) rfl
  have hpl := (cutd vs).plain
  have hsz : ∀ u ∈ (cutA vs).2, u.s.size ≤ 281474976710656 := fun u hu => by
    obtain ⟨u2, h1, h2⟩ := (cutd vs).size u hu
    exact Nat.le_trans h2 (s0' u2 h1)
  have HST := Lib.hid hst
  have HSM := Lib.hid hsm
  have HPL := Lib.hid hpl
  have HSZ := Lib.hid hsz
  have HV1 := Lib.hid s1'
  have HK := Lib.hid hK
  have HK2 := Lib.hid hK2
  have HL := Lib.hid hL
  have HL2 := Lib.hid hL2
  have HA := Lib.hid h0
  have HN := Lib.hid n0
  have T3 : Hid (∀ (x y : V), x.s.size ≤ 281474976710656 → y.s.size ≤ 281474976710656 → ∀ u, Calls Try.prog 21 #[.agg #[.int .i64 x.k, .int .i64 x.i, .bool x.b, .string x.s], .agg #[.int .i64 y.k, .int .i64 y.i, .bool y.b, .string y.s]] u fun e w' => e = .returned (.int .i64 (ordV x y)) ∧ Below u.heap.size u w') := fun x y hx hy u => rcmp_any x y (by omega) (by omega) u
  obtain ⟨u1, hu1⟩ : ∃ u1, u1 = w.alloc (.cells #[.int .i64 v.k, .int .i64 v.i, .bool v.b, .string v.s] 41) := ⟨_, rfl⟩
  have H3 : Hid (Slot u1 w.heap.size v) := by rw [hu1]; exact Slot.new w v
  have HB : Hid (Below w.heap.size w u1) := by rw [hu1]; exact (Below.refl _ w).alloc (Nat.le_refl _) _
  generalize (cutA vs).1 = m at *
  generalize (cutA vs).2 = e at *
  generalize (cutA (vs ++ [v])).1 = m2 at *
  generalize (cutA (vs ++ [v])).2 = e2 at *
  clear h0 n0 s0 s0' s1 s1' s2' hK hK2 hL hL2 hst hsm hpl hsz
  go_enter Try.func5, Try.ntmps5
  go_upto_region 1 with fail
  rw [← hu1]
  clear hu1
  go_upto_region 3 with (go_at_call 19; refine (runsawake_any _).mono ?_; rintro e w2 ⟨rfl, hb⟩; replace H3 := Lib.hid (H3.out.below hb); replace HB := Lib.hid (HB.out.trans (hb.mono HB.out.size)); clear hb)
  go_upto_region 4 with (go_at_call 8; refine (T1.out _ (HA.out.below HB.out)).mono ?_; rintro e w3 ⟨am, cm, ae, ce, rfl, hm, he, hb⟩; have HM := Lib.hid hm; have HE := Lib.hid he; have HEL : Hid (∀ k, At ae k → k < w3.heap.size) := fun k hk => (he.at_ge hk).2; have HW0 : Hid (w.heap.size < w3.heap.size) := (H3.out.below hb).lt; replace H3 := Lib.hid (H3.out.below hb); replace HB := Lib.hid (HB.out.trans (hb.mono HB.out.size)); clear hb hm he)
  go_upto_region 5 with (at_builtin; refine wp_copy (HA.out.below HB.out) HN.out (by omega) rfl _ _ rfl rfl rfl ?_; intro gx cx w4 hx hb; have HX := Lib.hid hx; replace HM := Lib.hid (OwnI.below HM.out hb); replace HE := Lib.hid (OwnV.below HE.out hb); replace H3 := Lib.hid (H3.out.below hb); replace HB := Lib.hid (HB.out.trans (hb.mono HB.out.size)); clear hb hx)
  have HGX : Hid (w3.heap.size ≤ gx) := (HX.out.at_ge (k := gx) rfl).1
  have HW3 : Hid (w.heap.size < w3.heap.size ∧ w3.heap.size ≤ w4.heap.size) := by
    have h1 := HX.out.at_ge (k := gx) rfl
    refine ⟨?_, by omega⟩
    have hb := HB.out.size
    exact Nat.lt_of_lt_of_le HW0.out (Nat.le_refl _)
  have hvb : vs.length ≤ 3518437208882 := by omega
  obtain ⟨⟨b0, b1, b2, b3⟩, _⟩ := H3.out.at
  go_upto_region 6 with (at_builtin; refine wp_val HX.out HW3.out.2 hvb rfl _ _ rfl v rfl rfl ?_; intro ax cx5 w5 hx hf _; have HXX := Lib.hid hx; replace HM := Lib.hid (OwnI.frm HM.out hf fun k hk _ hk2 => apart_iv HM.out HX.out hk hk2); replace HE := Lib.hid (OwnV.frm HE.out hf fun k hk _ hk2 => by have h1 := HEL.out k hk; have h2 := (HX.out.at_ge hk2).1; omega); replace H3 := Lib.hid (H3.out.same (hf.block _ H3.out.lt fun hk => by have h2 := (HX.out.at_ge hk).1; have h3 := HW3.out.1; omega)); replace HB := Lib.hid (Frm.to_below HB.out hf (fun k hk => by have h2 := (HX.out.at_ge hk).1; have h3 := HW3.out.1; omega) (Nat.le_refl _)); clear hx hf)
  rw [show (vs ++ [v]).length = vs.length + 1 by simp] at T2
  clear b0 b1 b2 b3
  go_upto_region 7 with (go_at_call 8; refine (T2.out _ _ _ HXX.out.isV).mono ?_; rintro e w6 ⟨ac, cc, ad, cd, rfl, hc, hd, hb⟩; have HC := Lib.hid hc; have HD := Lib.hid hd; replace HM := Lib.hid (OwnI.below HM.out hb); replace HE := Lib.hid (OwnV.below HE.out hb); replace H3 := Lib.hid (H3.out.below hb); replace HB := Lib.hid (HB.out.trans (hb.mono HB.out.size)); clear hb hc hd)
  obtain ⟨p, hp⟩ : ∃ p, p = plainV v := ⟨_, rfl⟩
  have HP := Lib.hid hp
  have hk1 := HK.out
  have hk2 := HK2.out
  have hl1 := HL.out
  have hl2 := HL2.out
  have hst := HST.out
  unfold cutStep at hst
  simp only [← hp] at hst
  clear hp T1 T2 HXX HX
  by_cases hl : e.getLast? = some p
  · rw [if_pos hl] at hst
    injection hst with h1 h2
    subst h2
    obtain ⟨hpos, hlast⟩ := last_getD (d := zeroV) hl
    obtain ⟨k, hk⟩ : ∃ k, K = k + 1 := ⟨K - 1, by omega⟩
    obtain rfl : K2 = K := by omega
    have hkk : k < K2 := by omega
    have he0 : e2 ≠ [] := fun h => by rw [h] at hpos; simp at hpos
    have hm0 : m ≠ [] := fun h => by rw [h] at hk1; simp at hk1; omega
    have hm20 : m2 ≠ [] := fun h => by rw [h] at hl1; simp at hl1; omega
    obtain ⟨ge, rfl⟩ := HE.out.there he0
    obtain ⟨gm, rfl⟩ := HM.out.there hm0
    obtain ⟨gc, rfl⟩ := HC.out.there hm20
    have hep : e2[k]'(by omega) = p := by rw [← getD_in (d := zeroV), ← hlast]; congr 1; omega
    have HVE := Lib.hid (HE.out.get k (by omega))
    rw [hep] at HVE
    have hcm := (HM.out.get k (by omega)).1
    have hcc := (HC.out.get k (by omega)).1
    obtain ⟨x, hx⟩ : ∃ x, x = m.getD k 0 := ⟨_, rfl⟩
    have hxb := HSM.out k hkk
    rw [← getD_in (d := 0)] at hcm hcc
    rw [← hx] at hcm hxb
    have hm2 : m2.getD k 0 = x + 1 := by
      rw [h1, show m.length - 1 = k by omega, getD_set_same (by omega), ← hx]
    rw [hm2] at hcc
    have hxw : IntKind.i64.wrap (x + 1) = x + 1 := by
      have h2 := wrap_i64_nat (x + 1).toNat (by omega)
      rwa [show (((x + 1).toNat : Nat) : Int) = x + 1 by omega] at h2
    have HVS := H3
    have T4 : Hid (∀ u p q c d, IsV u p e2 → IsV u q e2 → Calls Try.prog 13 #[.slice p K2 c, .slice q K2 d] u fun e w' => e = .returned (.bool true) ∧ Below u.heap.size u w') := fun u p q c d h h' => by
      have h3 := samevals_any u p q c d _ _ h h' (by simp only [maxLen]; omega)
      rw [decide_eq_true rfl, hl2] at h3
      exact h3
    have HCM := Lib.hid hcm
    have HCC := Lib.hid hcc
    have hkw : IntKind.i64.wrap ((K2 : Int) - 1) = (k : Int) := by rw [show (K2 : Int) - 1 = (k : Int) by omega]; exact wrap_i64_nat k (by omega)
    have hki : (k : Int) < (K2 : Int) := by omega
    have hng : (0 : Int) < (K2 : Int) := by omega
    have hng2 : 0 < K2 := by omega
    have hz : (ordV p v == 0) = true := by
      have h := (ordV_zero p v).2 (by rw [HP.out, plainV_twice])
      rw [h]; rfl
    have HZ := Lib.hid hz
    have HPS : Hid (p.s.size ≤ 281474976710656) := by unfold Hid; rw [HP.out]; exact Nat.le_trans (plainV_size v) HV1.out
    have hxb1 := hxb.1
    have hxb2 := hxb.2
    clear hz hk hk1 hk2 hl1 hl2 h1 hl hlast he0 hm0 hm20 hep hcm hcc hx hm2 hpos hxb
    go_upto_region 8 with fail
    refine region_class (fun w' => Below w6.heap.size w6 w') (by kernel_rfl) (by kernel_rfl) (Below.refl _ _).drew ?_
    repeat (
      refine wpQuiet_step (fun K hK => ?_)
      go_simp
      first
      | (refine hK _ ?_; clear hK K)
      | (apply Exists.intro
         refine ⟨fun w1 hw1 => ?_, hK _ ?_⟩
         (first
           | (exact rfl)
           | (obtain ⟨p0, p1, p2, p3⟩ := HVE.out.below hw1; simp only [p0, p1, p2, p3, Result.andThen]; exact ⟨trivial, rfl⟩)
           | (obtain ⟨⟨p0, p1, p2, p3⟩, _⟩ := (HVS.out.below hw1).at; simp only [p0, p1, p2, p3, Result.andThen]; exact ⟨trivial, rfl⟩)
           | (go_at_call 21; exact (T3.out _ _ HPS.out HV1.out _).mono fun e w2 ⟨he, hb⟩ => ⟨he, hw1.trans (hb.mono hw1.size)⟩)
           | (exact ⟨trivial, rfl⟩))
         clear hK K))
    refine wpQuiet_nil ?_
    intro w7 hw7
    have HB7 := Lib.hid (HB.out.trans (hw7.mono HB.out.size))
    have hcm7 := (hw7.cell (p := ⟨gm, k, none⟩) (World.block_lt_of_cell? w6 _ HCM.out)).trans HCM.out
    have hcc7 := (hw7.cell (p := ⟨gc, k, none⟩) (World.block_lt_of_cell? w6 _ HCC.out)).trans HCC.out
    have HM7 := Lib.hid hcm7
    have HC7 := Lib.hid hcc7
    have HE7 := Lib.hid (HE.out.isV.below hw7)
    have HD7 := Lib.hid (HD.out.isV.below hw7)
    clear hw7 hcm7 hcc7
    rw [HZ.out]
    go_upto_region 9 with fail
    refine region_class (fun w' => Below w7.heap.size w7 w') (by kernel_rfl) (by kernel_rfl) (Below.refl _ _).drew ?_
    repeat (
      refine wpQuiet_step (fun K hK => ?_)
      go_simp
      first
      | (refine hK _ ?_; clear hK K)
      | (apply Exists.intro
         refine ⟨fun w1 hw1 => ?_, hK _ ?_⟩
         (first
           | (exact rfl)
           | (have h := hw1.cell (p := ⟨gc, k, none⟩) (World.block_lt_of_cell? w7 _ HC7.out); rw [HC7.out] at h; simp only [h, Result.andThen]; exact ⟨trivial, rfl⟩)
           | (have h := hw1.cell (p := ⟨gm, k, none⟩) (World.block_lt_of_cell? w7 _ HM7.out); rw [HM7.out] at h; simp only [h, Result.andThen]; exact ⟨trivial, rfl⟩)
           | (go_at_call 13; exact (T4.out _ _ _ _ _ (HD7.out.below hw1) (HE7.out.below hw1)).mono fun e w2 ⟨he, hb⟩ => ⟨he, hw1.trans (hb.mono hw1.size)⟩)
           | (exact ⟨trivial, rfl⟩))
         clear hK K))
    refine wpQuiet_nil ?_
    intro w8 hw8
    have HB8 := Lib.hid (HB7.out.trans (hw8.mono HB7.out.size))
    clear hw8
    go_wp2
    go_ret
    exact ⟨rfl, HB8.out⟩
  · rw [if_neg hl] at hst
    injection hst with h1 h2
    obtain rfl : K2 = K + 1 := by rw [← hl1, h1]; simp; exact hk1
    have hm20 : m2 ≠ [] := fun h => by rw [h] at hl1; simp at hl1
    have he20 : e2 ≠ [] := fun h => by rw [h] at hl2; simp at hl2
    obtain ⟨gc, rfl⟩ := HC.out.there hm20
    obtain ⟨gd, rfl⟩ := HD.out.there he20
    have hcc := (HC.out.get K (by omega)).1
    have hdd := HD.out.get K (by omega)
    have hm2 : m2[K]'(by omega) = 1 := by
      have : m2.getD K 0 = 1 := by rw [h1, ← hk1]; exact getD_end
      rwa [getD_in (by omega)] at this
    have he2 : e2[K]'(by omega) = p := by
      have : e2.getD K zeroV = p := by rw [h2, ← hk2]; exact getD_end
      rwa [getD_in (by omega)] at this
    rw [hm2] at hcc
    rw [he2] at hdd
    have HCK := Lib.hid hcc
    have HDK := Lib.hid hdd
    have HCT : Hid (IsL w6 (some ⟨gc, 0, none⟩) m) := by
      have h := HC.out.isL.take K
      rw [h1, ← hk1, List.take_left] at h
      exact h
    have hcap : (K : Int) ≤ (cc : Int) := by have := HC.out.cap; omega
    have T5 : Hid (∀ u, Calls Try.prog 20 #[.agg #[.int .i64 v.k, .int .i64 v.i, .bool v.b, .string v.s]] u fun e w' => e = .returned (.agg #[.int .i64 p.k, .int .i64 p.i, .bool p.b, .string p.s]) ∧ Below u.heap.size u w') := by rw [HP.out]; exact fun u => rclean_any v u
    have T6 : Hid (∀ u p q c d, IsL u p m → IsL u q m → Calls Try.prog 12 #[.slice p K c, .slice q K d] u fun e w' => e = .returned (.bool true) ∧ Below u.heap.size u w') := fun u p q c d h h' => by
      have h3 := sameints_any u p q c d _ _ h h' (by simp only [maxLen]; omega)
      rw [decide_eq_true rfl, hk1] at h3
      exact h3
    have hq := run_eql_val p p
    simp only [decide_eq_true] at hq
    have hKw : IntKind.i64.wrap ((K : Int) + 1) = (K : Int) + 1 := wrap_i64_nat (K + 1) (by omega)
    have hKi : (K : Int) < (K : Int) + 1 := by omega
    have hK0 : (0 : Int) ≤ (K : Int) := by omega
    clear hcc hdd hm20 he20 hm2 he2 h1 h2 hl1 hl2
    by_cases hz0 : K = 0
    · have hng : ¬ (0 < K) := by omega
      clear hz0 hl hk1 hk2
      go_upto_region 8 with fail
      go_quiet (fail)
      have hw7 : Below w6.heap.size w6 (w6.drewN nq) := bel_drewN (Below.refl _ _)
      generalize w6.drewN nq = w7 at *
      have HCK7 := Lib.hid ((hw7.cell (p := ⟨gc, K, none⟩) (World.block_lt_of_cell? w6 _ HCK.out)).trans HCK.out)
      have HDK7 := Lib.hid (HDK.out.below hw7)
      have HM7 := Lib.hid (HM.out.isL.below hw7)
      have HCT7 := Lib.hid (HCT.out.below hw7)
      have H37 := Lib.hid (H3.out.below hw7)
      have HB7 := Lib.hid (HB.out.trans (hw7.mono HB.out.size))
      clear hw7
      go_upto_region 10 with fail
      refine region_class (fun w' => Below w7.heap.size w7 w') (by kernel_rfl) (by kernel_rfl) (Below.refl _ _).drew ?_
      repeat (
        refine wpQuiet_step (fun K9 hK => ?_)
        go_simp
        first
        | (refine hK _ ?_; clear hK K9)
        | (apply Exists.intro
           refine ⟨fun w1 hw1 => ?_, hK _ ?_⟩
           (first
             | (exact rfl)
             | (have h := hw1.cell (p := ⟨gc, K, none⟩) (World.block_lt_of_cell? w7 _ HCK7.out); rw [HCK7.out] at h; simp only [h, Result.andThen]; exact ⟨trivial, rfl⟩)
             | (obtain ⟨p0, p1, p2, p3⟩ := HDK7.out.below hw1; simp only [p0, p1, p2, p3, Result.andThen]; exact ⟨trivial, rfl⟩)
             | (obtain ⟨⟨p0, p1, p2, p3⟩, _⟩ := (H37.out.below hw1).at; simp only [p0, p1, p2, p3, Result.andThen]; exact ⟨trivial, rfl⟩)
             | (go_at_call 20; exact (T5.out _).mono fun e w2 ⟨he, hb⟩ => ⟨he, hw1.trans (hb.mono hw1.size)⟩)
             | (go_at_call 12; exact (T6.out _ _ _ _ _ (HCT7.out.below hw1) (HM7.out.below hw1)).mono fun e w2 ⟨he, hb⟩ => ⟨he, hw1.trans (hb.mono hw1.size)⟩)
             | (exact ⟨trivial, rfl⟩))
           clear hK K9))
      refine wpQuiet_nil ?_
      intro w8 hw8
      have HB8 := Lib.hid (HB7.out.trans (hw8.mono HB7.out.size))
      clear hw8
      go_wp2
      go_ret
      exact ⟨rfl, HB8.out⟩
    · obtain ⟨k, hk⟩ : ∃ k, K = k + 1 := ⟨K - 1, by omega⟩
      have hkk : k < K := by omega
      have he0 : e ≠ [] := fun h => by rw [h] at hk2; simp at hk2; omega
      obtain ⟨ge, rfl⟩ := HE.out.there he0
      have HVE := Lib.hid (HE.out.get k (by omega))
      obtain ⟨l, hll⟩ : ∃ l, l = e[k]'(by omega) := ⟨_, rfl⟩
      rw [← hll] at HVE
      have hlp : plainV l = l := HPL.out l (by rw [hll]; exact List.getElem_mem _)
      have HLS : Hid (l.s.size ≤ 281474976710656) := HSZ.out l (by rw [hll]; exact List.getElem_mem _)
      have hz : (ordV l v == 0) = false := by
        have h := ordV_zero l v
        rw [hlp, ← HP.out] at h
        have hne : ordV l v ≠ 0 := fun e2 => hl (by rw [List.getLast?_eq_getElem?, List.getElem?_eq_getElem (by omega), ← h.1 e2, hll]; congr 2; omega)
        simpa using hne
      have HZ := Lib.hid hz
      have hkw : IntKind.i64.wrap ((K : Int) - 1) = (k : Int) := by rw [show (K : Int) - 1 = (k : Int) by omega]; exact wrap_i64_nat k (by omega)
      have hki : (k : Int) < (K : Int) := by omega
      have hng : (0 : Int) < (K : Int) := by omega
      have hng2 : 0 < K := by omega
      clear hz hz0 hl hk1 hk2 hk he0 hll hlp
      go_upto_region 8 with fail
      refine region_class (fun w' => Below w6.heap.size w6 w') (by kernel_rfl) (by kernel_rfl) (Below.refl _ _).drew ?_
      repeat (
        refine wpQuiet_step (fun K9 hK => ?_)
        go_simp
        first
        | (refine hK _ ?_; clear hK K9)
        | (apply Exists.intro
           refine ⟨fun w1 hw1 => ?_, hK _ ?_⟩
           (first
             | (exact rfl)
             | (obtain ⟨p0, p1, p2, p3⟩ := HVE.out.below hw1; simp only [p0, p1, p2, p3, Result.andThen]; exact ⟨trivial, rfl⟩)
             | (obtain ⟨⟨p0, p1, p2, p3⟩, _⟩ := (H3.out.below hw1).at; simp only [p0, p1, p2, p3, Result.andThen]; exact ⟨trivial, rfl⟩)
             | (go_at_call 21; exact (T3.out _ _ HLS.out HV1.out _).mono fun e w2 ⟨he, hb⟩ => ⟨he, hw1.trans (hb.mono hw1.size)⟩)
             | (exact ⟨trivial, rfl⟩))
           clear hK K9))
      refine wpQuiet_nil ?_
      intro w7 hw7
      rw [HZ.out]
      have HCK7 := Lib.hid ((hw7.cell (p := ⟨gc, K, none⟩) (World.block_lt_of_cell? w6 _ HCK.out)).trans HCK.out)
      have HDK7 := Lib.hid (HDK.out.below hw7)
      have HM7 := Lib.hid (HM.out.isL.below hw7)
      have HCT7 := Lib.hid (HCT.out.below hw7)
      have H37 := Lib.hid (H3.out.below hw7)
      have HB7 := Lib.hid (HB.out.trans (hw7.mono HB.out.size))
      clear hw7
      go_upto_region 10 with fail
      refine region_class (fun w' => Below w7.heap.size w7 w') (by kernel_rfl) (by kernel_rfl) (Below.refl _ _).drew ?_
      repeat (
        refine wpQuiet_step (fun K9 hK => ?_)
        go_simp
        first
        | (refine hK _ ?_; clear hK K9)
        | (apply Exists.intro
           refine ⟨fun w1 hw1 => ?_, hK _ ?_⟩
           (first
             | (exact rfl)
             | (have h := hw1.cell (p := ⟨gc, K, none⟩) (World.block_lt_of_cell? w7 _ HCK7.out); rw [HCK7.out] at h; simp only [h, Result.andThen]; exact ⟨trivial, rfl⟩)
             | (obtain ⟨p0, p1, p2, p3⟩ := HDK7.out.below hw1; simp only [p0, p1, p2, p3, Result.andThen]; exact ⟨trivial, rfl⟩)
             | (obtain ⟨⟨p0, p1, p2, p3⟩, _⟩ := (H37.out.below hw1).at; simp only [p0, p1, p2, p3, Result.andThen]; exact ⟨trivial, rfl⟩)
             | (go_at_call 20; exact (T5.out _).mono fun e w2 ⟨he, hb⟩ => ⟨he, hw1.trans (hb.mono hw1.size)⟩)
             | (go_at_call 12; exact (T6.out _ _ _ _ _ (HCT7.out.below hw1) (HM7.out.below hw1)).mono fun e w2 ⟨he, hb⟩ => ⟨he, hw1.trans (hb.mono hw1.size)⟩)
             | (exact ⟨trivial, rfl⟩))
           clear hK K9))
      refine wpQuiet_nil ?_
      intro w8 hw8
      have HB8 := Lib.hid (HB7.out.trans (hw8.mono HB7.out.size))
      clear hw8
      go_wp2
      go_ret
      exact ⟨rfl, HB8.out⟩
end Go.Proofs.Ytpijnnkhokmlbaa
