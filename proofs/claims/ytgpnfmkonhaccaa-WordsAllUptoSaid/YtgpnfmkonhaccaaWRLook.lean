/- The document's Look. -/
import Derived.Test.YtgpnfmkonhaccaaWLook
import Derived.Test.YtgpnfmkonhaccaaVOrd
import Derived.Test.YtgpnfmkonhaccaaBits
namespace Go.Proofs.Ytgpnfmkonhaccaa
open Go.Conc Go.RowKit
set_option linter.unusedVariables false
set_option linter.unusedSimpArgs false

theorem no_dup {ws : List V} (h : ∀ i j, i < j → j < ws.length → plainV (ws.getD i zeroV) ≠ plainV (ws.getD j zeroV)) : ¬ dupV ws := by
  rintro ⟨i, j, hij, hj, e⟩
  exact h i j hij hj e

set_option maxRecDepth 100000 in
set_option maxHeartbeats 4000000 in
theorem urlook_any (w : World) (a am : Option Addr) (cap cm : Nat) (ws : List V) (at_ : List Int) (ha : IsV w a ws) (hm : IsL w am at_) (hx : ws.length * 40 ≤ 140737488355328) (hs : ∀ v ∈ ws, v.s.size ≤ 281474976710656) (hxm : at_.length ≤ 3518437208882) :
    Calls Try.prog 11 #[.slice a ws.length cap, .slice am at_.length cm] w fun e w' => ∃ aj cj, e = .returned (.tuple #[.slice aj (lookA ws at_).1.length cj, .int .i64 (lookA ws at_).2]) ∧ OwnV w.heap.size w' aj cj (lookA ws at_).1 ∧ Below w.heap.size w w' := by
  obtain ⟨R, hR⟩ : ∃ R, R = lookA ws at_ := ⟨_, rfl⟩
  rw [← hR]
  have HR := Lib.hid hR
  have HA := Lib.hid ha
  have HM := Lib.hid hm
  have HS := Lib.hid hs
  have HXM := Lib.hid hxm
  have HB0 := Lib.hid (Below.refl w.heap.size w)
  have T1 : Hid (∀ (x y : V), x.s.size ≤ 281474976710656 → y.s.size ≤ 281474976710656 → ∀ u, Calls Try.prog 21 #[.agg #[.int .i64 x.k, .int .i64 x.i, .bool x.b, .string x.s], .agg #[.int .i64 y.k, .int .i64 y.i, .bool y.b, .string y.s]] u fun e w' => e = .returned (.int .i64 (ordV x y)) ∧ Below u.heap.size u w') := fun x y hx hy u => rcmp_any x y (by omega) (by omega) u
  have T3 := Lib.hid rclean_any
  have HD0 : Hid (∀ i j, i < j → j < 0 → plainV (ws.getD i zeroV) ≠ plainV (ws.getD j zeroV)) := fun i j _ hj => absurd hj (Nat.not_lt_zero j)
  have hlb : ws.length ≤ 4000000000000 := by omega
  have HLB := Lib.hid hlb
  clear hR ha hm hs hxm hlb hx
  go_enter Try.func11, Try.ntmps11
  go_wp2
  go_loopw [6] (fun iv wr => ∃ n : Nat, n ≤ ws.length ∧ iv = .int .i64 n ∧ Hid (∀ i j, i < j → j < n → plainV (ws.getD i zeroV) ≠ plainV (ws.getD j zeroV)) ∧ Hid (Below w.heap.size w wr)) (fun iv _ => ws.length - (intOf iv).toNat)
  case atStart => exact ⟨0, Nat.zero_le _, rfl, HD0, HB0⟩
  case round =>
    obtain ⟨n, hn, rfl, HD, HC⟩ := hrel
    by_cases c : n < ws.length
    · rcases HA.out with h | ⟨bb, off, rfl, hcells⟩
      · subst h; simp at c
      have HCE := Lib.hid hcells
      have HE0 : Hid (∀ i, i < 0 → plainV (ws.getD i zeroV) ≠ plainV (ws.getD n zeroV)) := fun i hi => absurd hi (Nat.not_lt_zero i)
      have hni : (n : Int) < (ws.length : Int) := by omega
      clear hcells
      go_wp2
      go_loopw [7] (fun kv wr => ∃ k : Nat, k ≤ n ∧ kv = .int .i64 k ∧ Hid (∀ i, i < k → plainV (ws.getD i zeroV) ≠ plainV (ws.getD n zeroV)) ∧ Hid (Below w.heap.size w wr)) (fun kv _ => n - (intOf kv).toNat)
      case atStart => exact ⟨0, Nat.zero_le _, rfl, HE0, HC⟩
      case round =>
        obtain ⟨k, hk, rfl, HE, HI⟩ := hrel
        by_cases c2 : k < n
        · have hkc : k < ws.length := by omega
          have hki : (k : Int) < (ws.length : Int) := by omega
          have HL := Lib.hid ((HCE.out k hkc).below HI.out)
          have HV := Lib.hid ((HCE.out n c).below HI.out)
          have HLS := Lib.hid (HS.out ws[k] (List.getElem_mem _))
          have HVS := Lib.hid (HS.out ws[n] (List.getElem_mem _))
          have HLE : Hid (ws.getD k zeroV = ws[k]) := getD_in hkc
          have HVE : Hid (ws.getD n zeroV = ws[n]) := getD_in c
          generalize ws[k] = l at *
          generalize ws[n] = v at *
          go_upto_region 7 with fail
          obtain ⟨v0, v1, v2, v3⟩ := HV.out
          obtain ⟨l0, l1, l2, l3⟩ := HL.out
          refine region_class (fun w' => Below wr.heap.size wr w') (by kernel_rfl) (by kernel_rfl) (Below.refl _ _).drew ?_
          repeat (
            refine wpQuiet_step (fun K hK => ?_)
            go_simp
            first
            | (refine hK _ ?_; clear hK K)
            | (apply Exists.intro
               refine ⟨fun w1 hw1 => ?_, hK _ ?_⟩
               (first
                 | (exact rfl)
                 | (obtain ⟨p0, p1, p2, p3⟩ := HL.out.below hw1; simp only [p0, p1, p2, p3, Result.andThen]; exact ⟨trivial, rfl⟩)
                 | (obtain ⟨p0, p1, p2, p3⟩ := HV.out.below hw1; simp only [p0, p1, p2, p3, Result.andThen]; exact ⟨trivial, rfl⟩)
                 | (go_at_call 21; exact (T1.out _ _ HLS.out HVS.out _).mono fun e w2 ⟨he, hb⟩ => ⟨he, hw1.trans (hb.mono hw1.size)⟩))
               clear hK K))
          refine wpQuiet_nil ?_
          intro w2 hw2
          replace HI := Lib.hid (HI.out.trans (hw2.mono HI.out.size))
          clear hw2 v0 v1 v2 v3 l0 l1 l2 l3 HL HV HLS HVS
          have hz : (ordV l v == 0) = decide (plainV l = plainV v) := by
            have h := ordV_zero l v
            by_cases e : plainV l = plainV v
            · rw [decide_eq_true e, h.2 e]; rfl
            · rw [decide_eq_false e]
              have := fun e2 => e (h.1 e2)
              simpa using this
          rw [hz]
          clear hz
          by_cases e : plainV l = plainV v
          · rw [decide_eq_true e]
            obtain rfl : R = ([], 800) := by
              rw [HR.out]
              exact lookA_dup ⟨k, n, c2, c, by rw [HLE.out, HVE.out]; exact e⟩
            clear e hki hkc hni
            go_wp2
            go_ret2
            exact ⟨none, 0, rfl, OwnV.nil _ _, HI.out⟩
          · rw [decide_eq_false e]
            have HQ2 : Hid (∀ i, i < k + 1 → plainV (ws.getD i zeroV) ≠ plainV (ws.getD n zeroV)) := fun i hi => by
              by_cases e2 : i < k
              · exact HE.out i e2
              · obtain rfl : i = k := by omega
                rw [HLE.out, HVE.out]; exact e
            have hkw : IntKind.i64.wrap ((k : Int) + 1) = (k : Int) + 1 := by have := HLB.out; exact wrap_i64_nat (k + 1) (by omega)
            clear e HE HLE HVE hki hkc hni hk hn
            go_wp2
            go_roundw
            case rel => exact ⟨k + 1, c2, by go_num, HQ2, HI⟩
            case measure => simp [intOf]; omega
        · have hki : ¬ ((k : Int) < (n : Int)) := by omega
          have HD2 : Hid (∀ i j, i < j → j < n + 1 → plainV (ws.getD i zeroV) ≠ plainV (ws.getD j zeroV)) := fun i j hij hj => by
            by_cases e2 : j < n
            · exact HD.out i j hij e2
            · obtain rfl : j = n := by omega
              exact HE.out i (by omega)
          have hnw : IntKind.i64.wrap ((n : Int) + 1) = (n : Int) + 1 := by have := HLB.out; exact wrap_i64_nat (n + 1) (by omega)
          clear HD HE hni
          go_wp2
          go_roundw
          case rel => exact ⟨n + 1, c, by go_num, HD2, HI⟩
          case measure => simp [intOf]; omega
    · obtain rfl : n = ws.length := by omega
      have HN := Lib.hid (no_dup HD.out)
      have H0 : Hid (LookAt w w (ws.map plainV) at_ 0 none 0 []) := ⟨rfl, fun x hx => by simp at hx, OwnV.nil _ _, Below.refl _ _⟩
      have H1 : Hid (LookAt w wr (ws.map plainV) at_ 0 none 0 []) := ⟨rfl, fun x hx => by simp at hx, OwnV.nil _ _, HC.out⟩
      clear H0 c HD HD0 HB0
      go_wp2
      go_loopw [8, 9] (fun jv iv wr => ∃ (n cj : Nat) (aj : Option Addr) (out : List V), n ≤ at_.length ∧ iv = .int .i64 n ∧ jv = .slice aj out.length cj ∧ Hid (LookAt w wr (ws.map plainV) at_ n aj cj out)) (fun _ iv _ => at_.length - (intOf iv).toNat)
      case atStart => exact ⟨0, 0, none, [], Nat.zero_le _, rfl, rfl, H1⟩
      case round =>
        obtain ⟨n, cj, aj, out, hn, rfl, rfl, HI⟩ := hrel
        by_cases c : n < at_.length
        · obtain ⟨bm, om, rfl, hmc⟩ := HM.out.get (n := n) c
          have hmc := (HI.out.below.cell (p := ⟨bm, om + n, none⟩) (World.block_lt_of_cell? w _ hmc)).trans hmc
          have HXE : Hid (at_.getD n 0 = at_[n]) := getD_in c
          obtain ⟨x, hx'⟩ : ∃ x, x = at_.getD n 0 := ⟨_, rfl⟩
          rw [← hx'] at hmc HXE
          clear hx'
          by_cases x1 : x < 0
          · obtain rfl : R = ([], 800) := by
              rw [HR.out]
              exact lookA_out (x := x) (by rw [HXE.out]; exact List.getElem_mem _) (.inl x1)
            go_wp2
            go_ret2
            exact ⟨none, 0, rfl, OwnV.nil _ _, HI.out.below⟩
          · by_cases x2 : (ws.length : Int) ≤ x
            · obtain rfl : R = ([], 800) := by
                rw [HR.out]
                exact lookA_out (x := x) (by rw [HXE.out]; exact List.getElem_mem _) (.inr x2)
              go_wp2
              go_ret2
              exact ⟨none, 0, rfl, OwnV.nil _ _, HI.out.below⟩
            · obtain ⟨X, rfl⟩ : ∃ X : Nat, x = X := ⟨x.toNat, by omega⟩
              have hXb : X < ws.length := by omega
              rcases HA.out with h | ⟨bb, off, rfl, hcells⟩
              · subst h; simp at hXb
              have HV := Lib.hid ((hcells X hXb).below HI.out.below)
              clear hcells
              obtain ⟨p, hp⟩ : ∃ p, p = plainV ws[X] := ⟨_, rfl⟩
              have T4 := Lib.hid (T3.out ws[X])
              rw [← hp] at T4
              have HXB : Hid (X < (ws.map plainV).length) := by unfold Hid; rw [List.length_map]; exact hXb
              have HP : Hid ((ws.map plainV)[X]'HXB.out = p) := by unfold Hid; rw [List.getElem_map, hp]
              have HOE := Lib.hid (Nat.le_trans HI.out.len (Nat.le_trans hn HXM.out))
              obtain ⟨v0, v1, v2, v3⟩ := HV.out
              generalize ws[X] = v at *
              clear hp x1
              go_upto_region 15 with fail
              have hnw : IntKind.i64.wrap ((n : Int) + 1) = (n : Int) + 1 := by have := HXM.out; exact wrap_i64_nat (n + 1) (by omega)
              go_wp2_with (first
                | (go_at_call 20; refine (T4.out _).mono ?_; rintro e w5 ⟨rfl, hb⟩; replace HI := Lib.hid (LookAt.more HI.out hb); clear hb)
                | (at_builtin; refine wp_val HI.out.vals HI.out.below.size HOE.out rfl _ _ rfl p rfl rfl ?_; intro aj' cj' u7 ho hf _; have HFIN := Lib.hid (HI.out.val c HXE.out.symm HXB.out HP.out ho hf); clear ho hf))
              go_roundw
              case rel => exact ⟨n + 1, cj', aj', out ++ [p], c, by go_num, by simp, HFIN⟩
              case measure => simp [intOf]; omega
        · obtain rfl : n = at_.length := by omega
          have hR : R = (out, 0) := by
            have h1 := HI.out.is
            have h2 := HI.out.ok
            rw [List.take_length] at h1 h2
            rw [List.length_map] at h2
            rw [HR.out, lookA_yes HN.out h2, h1]
            refine Prod.ext ?_ rfl
            refine List.map_congr_left fun x hx => ?_
            have h3 := h2 x hx
            exact (map_getD (by omega)).symm
          subst hR
          clear c
          go_wp2
          go_ret2
          exact ⟨aj, cj, rfl, HI.out.vals, HI.out.below⟩
end Go.Proofs.Ytgpnfmkonhaccaa
