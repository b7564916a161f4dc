/- Runs that were cut join to what it was: the walk of the law. -/
import Derived.Test.YtpijnnkhokmlbaaRAwake
namespace Go.Proofs.Ytpijnnkhokmlbaa
open Go.Conc Go.RowKit
set_option linter.unusedVariables false
set_option linter.unusedSimpArgs false

theorem cut_small (vs : List V) (h : vs.length * 40 ≤ 140737488355328) : ∀ x ∈ (cutA vs).1, x < 9223372036854775808 := by
  intro x hx
  obtain ⟨i, hi, rfl⟩ := List.getElem_of_mem hx
  have := cut_num_le vs i hi
  rw [getD_in hi] at this
  omega
theorem cut_texts (vs : List V) (n : Nat) (h : ∀ v ∈ vs, v.s.size ≤ n) : ∀ v ∈ (cutA vs).2, v.s.size ≤ n := by
  intro v hv
  obtain ⟨u, hu, hs⟩ := (cutd vs).size v hv
  exact Nat.le_trans hs (h u hu)

set_option maxRecDepth 100000 in
set_option maxHeartbeats 8000000 in
theorem runsback_walk (a : Option Addr) (cap : Nat) (vs : List V) {w : World} (h0 : IsV w a vs) (n0 : a = none → vs.length = 0 ∧ cap = 0) (x0 : vs.length * 40 ≤ 140737488351232) (s0 : ∀ v ∈ vs, v.s.size ≤ 140737488351232) :
    Calls Try.prog 4 #[.slice a vs.length cap] w fun e w' => e = .returned (.bool true) ∧ Below w.heap.size w w' := by
  have s0' : ∀ v ∈ vs, v.s.size ≤ 281474976710656 := fun v hv => Nat.le_trans (s0 v hv) (by omega)
  have T1 : Hid (∀ u, IsV u a vs → Calls Try.prog 8 #[.slice a vs.length cap] u fun e w' => ∃ am cm ae ce, e = .returned (.tuple #[.slice am (cutA vs).1.length cm, .slice ae (cutA vs).2.length ce]) ∧ OwnI u.heap.size w' am cm (cutA vs).1 ∧ OwnV u.heap.size w' ae ce (cutA vs).2 ∧ Below u.heap.size u w') := fun u h => ucut_any u _ cap vs h (by omega) s0'
  have hcl := (cutd vs).len
  have hce := (cutd vs).le
  have T2 : Hid (∀ u p c q d, IsL u p (cutA vs).1 → IsV u q (cutA vs).2 → Calls Try.prog 10 #[.slice p (cutA vs).1.length c, .slice q (cutA vs).2.length d] u fun e w' => ∃ aj cj, e = .returned (.tuple #[.slice aj (joinA (cutA vs).1 (cutA vs).2).1.length cj, .int .i64 (joinA (cutA vs).1 (cutA vs).2).2]) ∧ OwnV u.heap.size w' aj cj (joinA (cutA vs).1 (cutA vs).2).1 ∧ Below u.heap.size u w') :=
    fun u p c q d h h' => ujoin_any u _ _ c d _ _ h h' (by omega) (cut_texts vs _ s0') (cut_small vs (by omega))
  have HJY : Hid (vs.length ≤ 4096 → (joinA (cutA vs).1 (cutA vs).2).1 = vs.map plainV ∧ (joinA (cutA vs).1 (cutA vs).2).2 = 0) := fun h => by rw [join_cut, if_pos h]; exact ⟨rfl, rfl⟩
  have HJN : Hid (¬ vs.length ≤ 4096 → (joinA (cutA vs).1 (cutA vs).2).2 = 700) := fun h => by rw [join_cut, if_neg h]
  generalize (joinA (cutA vs).1 (cutA vs).2).1 = J at *
  generalize (joinA (cutA vs).1 (cutA vs).2).2 = ej at *
  have T3 : Hid (∀ u p q c d, IsV u p (vs.map plainV) → IsV u q (vs.map plainV) → Calls Try.prog 13 #[.slice p vs.length c, .slice q vs.length d] u fun e w' => e = .returned (.bool true) ∧ Below u.heap.size u w') := fun u p q c d h h' => by
    have h3 := samevals_any u p q c d _ _ h h' (by rw [List.length_map]; simp only [maxLen]; omega)
    rw [decide_eq_true rfl, List.length_map] at h3
    exact h3
  have HSUM := Lib.hid (sum_cut vs)
  have HSL : Hid (∀ n, n ≤ (cutA vs).1.length → 0 ≤ sumN (cutA vs).1 n ∧ sumN (cutA vs).1 n ≤ vs.length) := fun n hn => by
    refine ⟨(sumN_le n fun i hi => (cutd vs).pos i (by omega)).1, ?_⟩
    rw [← sum_cut]
    exact sumN_mono (n := (cutA vs).1.length) (cutd vs).pos ((cutA vs).1.length - n) n (by omega)
  have HA := Lib.hid h0
  have HB : Hid (Below w.heap.size w w) := Below.refl _ _
  have T4 := Lib.hid rclean_any
  generalize (cutA vs).1 = m at *
  generalize (cutA vs).2 = e at *
  have HCL := Lib.hid hcl
  have HCE := Lib.hid hce
  have hml : m.length ≤ vs.length := by omega
  clear h0 n0 s0 s0' hcl hce
  go_enter Try.func4, Try.ntmps4
  go_upto_region 3 with (go_at_call 19; refine (runsawake_any _).mono ?_; rintro e w1 ⟨rfl, hb⟩; replace HB := Lib.hid (HB.out.trans (hb.mono HB.out.size)); clear hb)
  go_upto_region 4 with (go_at_call 8; refine (T1.out _ (HA.out.below HB.out)).mono ?_; rintro e w2 ⟨am, cm, ae, ce, rfl, hm, he, hb⟩; have HM := Lib.hid hm.isL; have HE := Lib.hid he.isV; replace HB := Lib.hid (HB.out.trans (hb.mono HB.out.size)); clear hb hm he)
  go_upto_region 5 with (go_at_call 10; refine (T2.out _ _ _ _ _ HM.out HE.out).mono ?_; rintro e w3 ⟨aj, cj, rfl, hj, hb⟩; have HJ := Lib.hid hj.isV; replace HM := Lib.hid (HM.out.below hb); replace HB := Lib.hid (HB.out.trans (hb.mono HB.out.size)); clear hb hj)
  clear T1 T2 HE
  go_upto_region 7 with fail
  go_loopw [7, 8] (fun sv iv wr => ∃ n : Nat, n ≤ m.length ∧ iv = .int .i64 n ∧ sv = .int .i64 (sumN m n) ∧ Hid (Below w3.heap.size w3 wr)) (fun _ iv _ => m.length - (intOf iv).toNat)
  case atStart => exact ⟨0, Nat.zero_le _, rfl, rfl, Below.refl _ _⟩
  case round =>
    obtain ⟨n, hn, rfl, rfl, HBW⟩ := hrel
    by_cases c : n < m.length
    · obtain ⟨bm, om, rfl, hmc0⟩ := HM.out.get c
      have hmc := (HBW.out.cell (p := ⟨bm, om + n, none⟩) (World.block_lt_of_cell? w3 _ hmc0)).trans hmc0
      have h1 := (HSL.out (n + 1) c)
      have h2 := (HSL.out n (by omega))
      have HSS : Hid (sumN m (n + 1) = sumN m n + m.getD n 0) := rfl
      rw [HSS.out] at h1
      have hb1 := h1.1
      have hb2 := h1.2
      clear h1 hmc0
      generalize hS : sumN m n = S at *
      generalize m.getD n 0 = x at *
      clear hS
      go_wp2
      go_roundw
      case rel => exact ⟨n + 1, c, by go_num, by rw [HSS.out], HBW⟩
      case measure => simp [intOf]; omega
    · obtain rfl : n = m.length := by omega
      clear c
      rw [HSUM.out]
      replace HB := Lib.hid (HB.out.trans (HBW.out.mono HB.out.size))
      replace HJ := Lib.hid (HJ.out.below HBW.out)
      by_cases hv : vs.length ≤ 4096
      · obtain ⟨rfl, rfl⟩ := HJY.out hv
        have HB6 : Hid (OwnV wr.heap.size wr none 0 ((vs.take 0).map plainV)) := OwnV.nil _ _
        go_upto_region 14 with fail
        go_loopw [9, 10] (fun wv iv wk => ∃ (n cw : Nat) (aw : Option Addr), n ≤ vs.length ∧ iv = .int .i64 n ∧ wv = .slice aw ((vs.take n).map plainV).length cw ∧ Hid (OwnV wr.heap.size wk aw cw ((vs.take n).map plainV)) ∧ Hid (Below wr.heap.size wr wk)) (fun _ iv _ => vs.length - (intOf iv).toNat)
        case atStart => exact ⟨0, 0, none, Nat.zero_le _, rfl, by simp, HB6, Below.refl _ _⟩
        case round =>
          obtain ⟨n, cw, aw, hn, rfl, rfl, HW, HBW2⟩ := hrel
          by_cases c : n < vs.length
          · rcases HA.out with h | ⟨bb, off, rfl, hcells⟩
            · subst h; simp at c
            obtain ⟨v0, v1, v2, v3⟩ := (hcells n c).below (HB.out.trans (HBW2.out.mono HB.out.size))
            have hL : (vs.take (n + 1)).map plainV = (vs.take n).map plainV ++ [plainV vs[n]] := by rw [← List.take_append_getElem c, List.map_append]; rfl
            have HLL := Lib.hid hL
            have hlen : ((vs.take n).map plainV).length ≤ 3518437208882 := by rw [List.length_map, List.length_take]; omega
            have HLE := Lib.hid hlen
            have hlen2 : ((vs.take n).map plainV).length = n := by rw [List.length_map, List.length_take, Nat.min_eq_left (by omega)]
            clear hL hlen hcells hlen2
            generalize vs[n] = v at *
            have T5 : Hid (∀ u, Calls Try.prog 20 #[.agg #[.int .i64 v.k, .int .i64 v.i, .bool v.b, .string v.s]] u fun e w' => e = .returned (.agg #[.int .i64 (plainV v).k, .int .i64 (plainV v).i, .bool (plainV v).b, .string (plainV v).s]) ∧ Below u.heap.size u w') := fun u => T4.out v u
            generalize plainV v = p at *
            generalize (vs.take n).map plainV = L at *
            go_wp2_with (first
              | (go_at_call 20; refine (T5.out _).mono ?_; rintro e w5 ⟨rfl, hb⟩; replace HW := Lib.hid (OwnV.below HW.out hb); replace HBW2 := Lib.hid (HBW2.out.trans (hb.mono HBW2.out.size)); clear hb)
              | (at_builtin; refine wp_val HW.out HBW2.out.size HLE.out rfl _ _ rfl p rfl rfl ?_; intro aj' cj' u7 ho hf _; replace HBW2 := Lib.hid (Frm.to_below HBW2.out hf (fun k hk => (HW.out.at_ge hk).1) (Nat.le_refl _)); have HW' := Lib.hid ho; clear ho hf))
            go_roundw
            case rel => exact ⟨n + 1, cj', aj', c, by go_num, by rw [HLL.out]; simp, by rw [HLL.out]; exact HW', HBW2⟩
            case measure => simp [intOf]; omega
          · obtain rfl : n = vs.length := by omega
            clear c
            rw [List.take_length] at HW ⊢
            rw [List.length_map]
            have HWV := Lib.hid HW.out.isV
            have HJ2 := Lib.hid (HJ.out.below HBW2.out)
            replace HB := Lib.hid (HB.out.trans (HBW2.out.mono HB.out.size))
            have hcl := HCL.out
            generalize vs.map plainV = L at *
            go_wp2_with (first
              | (go_at_call 14; refine (num_any _ _).mono ?_; rintro e w' ⟨rfl, rfl⟩)
              | (go_at_call 13; refine (T3.out _ _ _ _ _ HJ2.out HWV.out).mono ?_; rintro e w6 ⟨rfl, hb⟩; replace HB := Lib.hid (HB.out.trans (hb.mono HB.out.size)); clear hb))
            go_ret
            exact ⟨rfl, HB.out⟩
      · obtain rfl := HJN.out hv
        go_wp2_with (go_at_call 14; refine (num_any _ _).mono ?_; rintro e w' ⟨rfl, rfl⟩)
        go_ret
        exact ⟨rfl, HB.out⟩
end Go.Proofs.Ytpijnnkhokmlbaa
