/- Places that were built look up what it was: the walk of the law. -/
import Derived.Test.YtgpnfmkonhaccaaWAwake
import Derived.Test.YtgpnfmkonhaccaaVClean
import Derived.Test.YtgpnfmkonhaccaaBits
import Derived.Test.YtgpnfmkonhaccaaRegion
namespace Go.Proofs.Ytgpnfmkonhaccaa
open Go.Conc Go.RowKit
set_option linter.unusedVariables false
set_option linter.unusedSimpArgs false

set_option maxRecDepth 100000 in
set_option maxHeartbeats 8000000 in
theorem wordsback_walk (a : Option Addr) (cap : Nat) (vs : List V) {w : World} (h0 : IsV w a vs) (n0 : a = none → vs.length = 0 ∧ cap = 0) (x0 : vs.length * 40 ≤ 140737488351232) (s0 : ∀ v ∈ vs, v.s.size ≤ 140737488351232) :
    Calls Try.prog 4 #[.slice a vs.length cap] w fun e w' => e = .returned (.bool true) ∧ Below w.heap.size w w' := by
  have s0' : ∀ v ∈ vs, v.s.size ≤ 281474976710656 := fun v hv => Nat.le_trans (s0 v hv) (by omega)
  have hbu := built vs
  obtain ⟨K, hK⟩ : ∃ K, (buildA vs).1.length = K := ⟨_, rfl⟩
  have hN : (buildA vs).2.length = vs.length := hbu.len
  have hKN : K ≤ vs.length := by rw [← hK]; exact hbu.le
  have T1 : Hid (∀ u, IsV u a vs → Calls Try.prog 8 #[.slice a vs.length cap] u fun e w' => ∃ aw cw ai ci, e = .returned (.tuple #[.slice aw K cw, .slice ai vs.length ci]) ∧ OwnV u.heap.size w' aw cw (buildA vs).1 ∧ OwnI u.heap.size w' ai ci (buildA vs).2 ∧ Below u.heap.size u w') := fun u h => by
    have h := wbuild_any u _ cap vs h (by omega) s0'
    rw [hK, hN] at h
    exact h
  have T2 : Hid (∀ u p c q d, IsV u p (buildA vs).1 → IsL u q (buildA vs).2 → Calls Try.prog 10 #[.slice p K c, .slice q vs.length d] u fun e w' => ∃ aj cj, e = .returned (.tuple #[.slice aj vs.length cj, .int .i64 0]) ∧ OwnV u.heap.size w' aj cj (vs.map plainV) ∧ Below u.heap.size u w') := fun u p c q d h h' => by
    have h := wlook_any u p q c d _ _ h h' (by omega) (fun v hv => by obtain ⟨u, hu, hs⟩ := hbu.size v hv; exact Nat.le_trans hs (s0' u hu)) (by omega)
    rw [look_built, hK, hN] at h
    simp only [List.length_map] at h
    exact h
  have HAT : Hid (∀ n (hn : n < vs.length), (buildA vs).2.getD n 0 = ((placeV (plainV vs[n]) (buildA (vs.take n)).1 : Nat) : Int) ∧ placeV (plainV vs[n]) (buildA (vs.take n)).1 ≤ (buildA (vs.take n)).1.length ∧ (buildA (vs.take n)).1.length ≤ n ∧ (buildA (vs.take (n + 1))).1.length = max (buildA (vs.take n)).1.length (placeV (plainV vs[n]) (buildA (vs.take n)).1 + 1)) := fun n hn =>
    ⟨build_at vs n hn, placeV_le _ _, by have := (built (vs.take n)).le; rw [List.length_take] at this; omega, build_len vs n hn⟩
  have HKE : Hid ((buildA (vs.take vs.length)).1.length = K) := by unfold Hid; rw [List.take_length]; exact hK
  have HNL := Lib.hid hN
  have HA := Lib.hid h0
  have HB : Hid (Below w.heap.size w w) := Below.refl _ _
  have T4 := Lib.hid rclean_any
  generalize (buildA vs).1 = ws at *
  generalize (buildA vs).2 = at_ at *
  have hKi : ¬ ((vs.length : Int) < (K : Int)) := by omega
  have hKn : ¬ (vs.length < K) := by omega
  clear h0 n0 s0 s0' hbu hK hN
  go_enter Try.func4, Try.ntmps4
  go_upto_region 3 with (go_at_call 19; refine (wordsawake_any _).mono ?_; rintro e w1 ⟨rfl, hb⟩; replace HB := Lib.hid (HB.out.trans (hb.mono HB.out.size)); clear hb)
  go_upto_region 4 with (go_at_call 8; refine (T1.out _ (HA.out.below HB.out)).mono ?_; rintro e w2 ⟨aw, cw, ai, ci, rfl, hw, hi, hb⟩; have HW := Lib.hid hw.isV; have HI := Lib.hid hi.isL; replace HB := Lib.hid (HB.out.trans (hb.mono HB.out.size)); clear hb hw hi)
  go_upto_region 5 with (go_at_call 10; refine (T2.out _ _ _ _ _ HW.out HI.out).mono ?_; rintro e w3 ⟨aj, cj, rfl, hj, hb⟩; have HJ := Lib.hid hj.isV; replace HI := Lib.hid (HI.out.below hb); replace HB := Lib.hid (HB.out.trans (hb.mono HB.out.size)); clear hb hj)
  clear T1 T2 HW
  go_upto_region 7 with (go_at_call 14; refine (num_any _ _).mono ?_; rintro e w' ⟨rfl, rfl⟩)
  clear hKi hKn
  go_wp2
  go_loopw [7, 8] (fun zv iv wr => ∃ (n : Nat) (z : Int), n ≤ vs.length ∧ iv = .int .i64 n ∧ zv = .int .i64 z ∧ Hid (z = ((buildA (vs.take n)).1.length : Int) - 1) ∧ Hid (Below w3.heap.size w3 wr)) (fun _ iv _ => vs.length - (intOf iv).toNat)
  case atStart => exact ⟨0, -1, Nat.zero_le _, rfl, rfl, rfl, Below.refl _ _⟩
  case round =>
    obtain ⟨n, z, hn, rfl, rfl, HZ, HBW⟩ := hrel
    by_cases c : n < vs.length
    · rcases HA.out with h | ⟨bb, off, rfl, hcells⟩
      · subst h; simp at c
      have HVV := Lib.hid ((hcells n c).below (HB.out.trans (HBW.out.mono HB.out.size)))
      obtain ⟨bj, oj, rfl, hj⟩ := HJ.out.get (n := n) (by rw [List.length_map]; exact c)
      have HJJ := Lib.hid (hj.below HBW.out)
      obtain ⟨bm, om, rfl, hmc⟩ := HI.out.get (n := n) (by rw [HNL.out]; exact c)
      have HMC := Lib.hid ((HBW.out.cell (p := ⟨bm, om + n, none⟩) (World.block_lt_of_cell? w3 _ hmc)).trans hmc)
      have HJE : Hid ((vs.map plainV).getD n zeroV = plainV vs[n]) := by unfold Hid; rw [getD_in (by rw [List.length_map]; exact c), List.getElem_map]
      obtain ⟨q1, q2, q3, q4⟩ := HAT.out n c
      rw [HJE.out] at HJJ
      rw [q1] at HMC
      clear hcells hj hmc q1 HJE
      generalize vs[n] = v at *
      have T5 : Hid (∀ u, Calls Try.prog 20 #[.agg #[.int .i64 v.k, .int .i64 v.i, .bool v.b, .string v.s]] u fun e w' => e = .returned (.agg #[.int .i64 (plainV v).k, .int .i64 (plainV v).i, .bool (plainV v).b, .string (plainV v).s]) ∧ Below u.heap.size u w') := fun u => T4.out v u
      generalize placeV (plainV v) (buildA (vs.take n)).1 = P at *
      generalize plainV v = p at *
      have hz1 : IntKind.i64.wrap (z + 1) = z + 1 := by rw [HZ.out, show ((buildA (vs.take n)).1.length : Int) - 1 + 1 = (((buildA (vs.take n)).1.length : Nat) : Int) by omega]; exact wrap_i64_nat _ (by omega)
      have hz2 : ¬ (z + 1 < (P : Int)) := by rw [HZ.out]; omega
      have HZ2 : Hid ((buildA (vs.take (n + 1))).1.length = max (buildA (vs.take n)).1.length (P + 1)) := q4
      have hq := run_neq_val p p
      simp only [decide_eq_true, Bool.not_true] at hq
      have hni : (n : Int) < (vs.length : Int) := by omega
      clear q2 q3 q4
      go_upto_region 11 with fail
      refine region_class (fun w' => Below wr.heap.size wr w') (by kernel_rfl) (by kernel_rfl) (Below.refl _ _).drew ?_
      repeat (
        refine wpQuiet_step (fun K9 hK => ?_)
        go_simp
        first
        | (refine hK _ ?_; clear hK K9)
        | (apply Exists.intro
           refine ⟨fun w1 hw1 => ?_, hK _ ?_⟩
           (first
             | (exact rfl)
             | (have h := hw1.cell (p := ⟨bm, om + n, none⟩) (World.block_lt_of_cell? wr _ HMC.out); rw [HMC.out] at h; simp only [h, Result.andThen]; exact ⟨trivial, rfl⟩)
             | (obtain ⟨p0, p1, p2, p3⟩ := HJJ.out.below hw1; simp only [p0, p1, p2, p3, Result.andThen]; exact ⟨trivial, rfl⟩)
             | (obtain ⟨p0, p1, p2, p3⟩ := HVV.out.below hw1; simp only [p0, p1, p2, p3, Result.andThen]; exact ⟨trivial, rfl⟩)
             | (go_at_call 20; exact (T5.out _).mono fun e w2 ⟨he, hb⟩ => ⟨he, hw1.trans (hb.mono hw1.size)⟩)
             | (exact ⟨trivial, rfl⟩))
           clear hK K9))
      refine wpQuiet_nil ?_
      intro w8 hw8
      have hmc := (hw8.cell (p := ⟨bm, om + n, none⟩) (World.block_lt_of_cell? wr _ HMC.out)).trans HMC.out
      replace HBW := Lib.hid (HBW.out.trans (hw8.mono HBW.out.size))
      have hnw : IntKind.i64.wrap ((n : Int) + 1) = (n : Int) + 1 := wrap_i64_nat (n + 1) (by omega)
      clear hw8 hq HVV HJJ HMC
      go_wp2
      go_roundw
      case rel => exact ⟨n + 1, max z (P : Int), c, by go_num, by go_num, Lib.hid (by rw [HZ2.out, HZ.out]; omega), HBW⟩
      case measure => simp [intOf]; omega
    · obtain rfl : n = vs.length := by omega
      rw [HKE.out] at HZ
      have hz1 : IntKind.i64.wrap (z + 1) = (K : Int) := by rw [HZ.out, show (K : Int) - 1 + 1 = (K : Int) by omega]; exact wrap_i64_nat K (by omega)
      clear c
      go_wp2
      go_ret
      exact ⟨rfl, HB.out.trans (HBW.out.mono HB.out.size)⟩
end Go.Proofs.Ytgpnfmkonhaccaa
