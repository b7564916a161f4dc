/- As many columns as there may be: the walk. -/
import Derived.Test.YthfakpekdjmpjaaSchY
import Derived.Test.YthfakpekdjmpjaaSchVar
import Derived.Test.YthfakpekdjmpjaaSchZ
import Derived.Test.YthfakpekdjmpjaaDec
import Derived.BigQuiet
import Derived.Deep.RegionHeld3
import Derived.Deep.CutRange
namespace Go.Proofs.Ythfakpekdjmpjaa
open Go.Conc Go.RowKit
set_option linter.unusedVariables false
set_option linter.unusedSimpArgs false

theorem rem_small (x : Int) (p : Nat) (hp : 0 < p) (hp2 : p < 1000) : ∃ m : Nat, m < p ∧ (IntKind.u64.wrap x).tmod (p : Int) = (m : Int) := by
  have h0 : 0 ≤ IntKind.u64.wrap x := by rw [IntKind.wrap_u64]; omega
  refine ⟨((IntKind.u64.wrap x).tmod p).toNat, ?_, ?_⟩
  · have := Int.tmod_lt_of_pos (IntKind.u64.wrap x) (show (0 : Int) < (p : Int) by omega)
    have := Int.tmod_nonneg (p : Int) h0
    omega
  · have := Int.tmod_nonneg (p : Int) h0
    omega
theorem chk_len : [1, 2, 3].all (fun k => (List.range 13).all fun n => decide ((fullN k n).cs.length = n)) = true := by kernel_rfl
set_option maxRecDepth 100000 in
set_option maxHeartbeats 8000000 in
theorem schemafull_walk (kind gone : Int) (W : World) : Calls Try.prog 6 #[.int .i64 kind, .int .i64 gone] W fun e w' => e = .returned (.bool true) ∧ Below W.heap.size W w' := by
  have TA := Lib.hid (schawake_any W)
  obtain ⟨m, hm, em⟩ := rem_small kind 3 (by omega) (by omega)
  obtain ⟨j, hj, ej⟩ := rem_small gone 12 (by omega) (by omega)
  replace em : (IntKind.u64.wrap kind).tmod 3 = (m : Int) := em
  replace ej : (IntKind.u64.wrap gone).tmod 12 = (j : Int) := ej
  obtain ⟨k, hkm⟩ : ∃ k, k = 1 + (m : Int) := ⟨_, rfl⟩
  have hk : 1 ≤ k ∧ k ≤ 3 := by omega
  obtain ⟨e1, f1, f2, f3⟩ := full_end hk
  obtain ⟨f4, f5, f6, f7, f8⟩ := full_back hk hj
  have HADD := Lib.hid (fun (n : Nat) (h0 : 0 < n) (hn : n < 12) => full_add hk h0 hn)
  have HCT := Lib.hid (fun (i : Nat) (h : i < 12) => c_text_at h)
  have HJ := Lib.hid hj
  have hc0 : cText 0 = ⟨#[99, 48]⟩ := by kernel_rfl
  rw [hc0] at e1 f1
  have E1 := Lib.hid e1
  have E2 := Lib.hid (show dropA (fullN k 1) ⟨#[99, 48]⟩ = ((dropA (fullN k 1) ⟨#[99, 48]⟩).1, 1203) by rw [← f1])
  have E3 := Lib.hid (show addA (fullN k 12) ⟨#[109, 111, 114, 101]⟩ 1 = ((addA (fullN k 12) ⟨#[109, 111, 114, 101]⟩ 1).1, 1203) by rw [← f2])
  have E4 := Lib.hid (show addA (fullN k 12) ⟨#[120]⟩ 0 = ((addA (fullN k 12) ⟨#[120]⟩ 0).1, 1200) by rw [← f3])
  have E5 := Lib.hid (show dropA (fullN k 12) (cText j) = (dropF k j, 0) by rw [← f4]; rfl)
  have E6 := Lib.hid (show addA (dropF k j) (cText j) 2 = (backF k j, 0) by rw [← f5]; rfl)
  have F6 := Lib.hid f6
  have F7 := Lib.hid f7
  have F8 := Lib.hid f8
  have HKM := Lib.hid hkm
  generalize (dropA (fullN k 1) ⟨#[99, 48]⟩).1 = D0 at E2
  generalize (addA (fullN k 12) ⟨#[109, 111, 114, 101]⟩ 1).1 = M0 at E3
  generalize (addA (fullN k 12) ⟨#[120]⟩ 0).1 = X0 at E4
  generalize dropF k j = DJ at *
  generalize backF k j = BJ at *
  generalize hFN : fullN k = FN at *
  clear hkm e1 f1 f2 f3 f4 f5 f6 f7 f8 hk hj hFN hc0
  go_enter Try.func6, Try.ntmps6
  go_upto_region 3 with (go_at_call 28; refine TA.out.mono ?_; rintro e w1 ⟨rfl, hb⟩; have HB := Lib.hid hb; clear hb)
  clear TA
  obtain ⟨u0, hu0⟩ : ∃ u, u = w1.alloc (.cells #[.string ⟨#[99, 48]⟩] 9) := ⟨_, rfl⟩
  obtain ⟨v0, hv0⟩ : ∃ v, v = u0.alloc (.cells #[.int .i64 1] 3) := ⟨_, rfl⟩
  have b1 : Below w1.heap.size w1 u0 := by rw [hu0]; exact (Below.refl _ _).alloc (Nat.le_refl _) _
  have b2 : Below u0.heap.size u0 v0 := by rw [hv0]; exact (Below.refl _ _).alloc (Nat.le_refl _) _
  have hTx : IsT u0 (some ⟨w1.heap.size, 0, none⟩) [⟨#[99, 48]⟩] := by rw [hu0]; exact one_text _ _
  have hLx : IsL v0 (some ⟨u0.heap.size, 0, none⟩) [1] := by rw [hv0]; exact isl_new u0 [1] _ rfl
  have HTx := Lib.hid (hTx.below b2)
  have HLx := Lib.hid hLx
  have hz : u0.heap.size = w1.heap.size + 1 := by rw [hu0]; simp
  rw [hz] at HLx
  have hb := b1.trans (b2.mono b1.size)
  replace HB := Lib.hid (HB.out.trans (hb.mono HB.out.size))
  clear b1 b2 hTx hLx hz hb
  go_upto_region 4 with (go_at_call 24; (try change Calls _ _ _ ((w1.alloc (.cells #[.string ⟨#[99, 48]⟩] 9)).alloc (.cells #[.int .i64 1] 3)) _); rw [← hu0, ← hv0]; refine (new_var _ _ _ _ _ [⟨#[99, 48]⟩] [1] HTx.out HLx.out (by simp) (by simp) E1.out).mono ?_; rintro e x1 ⟨aS, cS, rfl, ho, hb⟩;  have HO := Lib.hid ho; have HBW := Lib.hid (HB.out.trans (hb.mono HB.out.size)); clear ho hb)
  change Code.wp _ _ _ _ (x1.alloc (.cells #[.int .i64 (FN 1).id, .slice aS (FN 1).cs.length cS, .int .i64 (FN 1).next] 24))
  have hb : Below x1.heap.size x1 (x1.alloc (.cells #[.int .i64 (FN 1).id, .slice aS (FN 1).cs.length cS, .int .i64 (FN 1).next] 24)) := (Below.refl _ _).alloc (Nat.le_refl _) _
  have HVS := Lib.hid (ScV.of HO.out)
  replace HB := Lib.hid (HBW.out.trans (hb.mono HBW.out.size))
  obtain ⟨gS, hgS⟩ : ∃ g, g = x1.heap.size := ⟨_, rfl⟩
  have HGS := Lib.hid (show W.heap.size ≤ gS by rw [hgS]; exact HBW.out.size)
  rw [← hgS] at HVS
  try rw [← hgS]
  generalize x1.alloc (.cells #[.int .i64 (FN 1).id, .slice aS (FN 1).cs.length cS, .int .i64 (FN 1).next] 24) = w1 at *
  clear hb HBW HO hgS
  clear hu0 hv0 HTx HLx
  obtain ⟨pS0, pS1, pS2⟩ := HVS.out.at
  go_upto_region 5 with (go_at_call 14; refine (drop_var HVS.out E2.out).mono ?_; rintro e x2 ⟨aD, cD, rfl, ho, hb⟩; replace HVS := Lib.hid (HVS.out.below hb); have HO := Lib.hid ho; have HBW := Lib.hid (HB.out.trans (hb.mono HB.out.size)); clear ho hb)
  clear pS0 pS1 pS2
  change Code.wp _ _ _ _ (x2.alloc (.cells #[.int .i64 D0.id, .slice aD D0.cs.length cD, .int .i64 D0.next] 24))
  have hb : Below x2.heap.size x2 (x2.alloc (.cells #[.int .i64 D0.id, .slice aD D0.cs.length cD, .int .i64 D0.next] 24)) := (Below.refl _ _).alloc (Nat.le_refl _) _
  have HVD := Lib.hid (ScV.of HO.out)
  replace HVS := Lib.hid (HVS.out.below hb)
  replace HB := Lib.hid (HBW.out.trans (hb.mono HBW.out.size))
  obtain ⟨gD, hgD⟩ : ∃ g, g = x2.heap.size := ⟨_, rfl⟩
  have HGD := Lib.hid (show W.heap.size ≤ gD by rw [hgD]; exact HBW.out.size)
  rw [← hgD] at HVD
  try rw [← hgD]
  generalize x2.alloc (.cells #[.int .i64 D0.id, .slice aD D0.cs.length cD, .int .i64 D0.next] 24) = w2 at *
  clear hb HBW HO hgD
  go_wp2
  go_loopw [9] (fun iv wr => ∃ (n : Nat) (a : Option Addr) (c : Nat), 1 ≤ n ∧ n ≤ 12 ∧ iv = .int .i64 n ∧ Hid (ScV wr gS a c (FN n)) ∧ Hid (Below W.heap.size W wr)) (fun iv _ => 12 - (intOf iv).toNat)
  case atStart => exact ⟨1, _, _, Nat.le_refl _, by omega, rfl, HVS.out, HB.out⟩
  case round =>
    obtain ⟨n, aS, cS, h0, hle, rfl, HVS, HB⟩ := hrel
    by_cases cn : n < 12
    · have he := HADD.out n (by omega) cn
      rw [HKM.out, ← HCT.out n cn] at he
      have HE := Lib.hid he
      clear he
      have HD := Lib.hid (decimal_z (n : Int) (by omega) (by omega))
      have HC := Lib.hid (HCT.out n cn)
      have hbig : ¬ 9223372036854775807 < 1 + (⟨(Lib.itoa (n : Int)).toArray⟩ : ByteArray).size := by
        have := Lib.itoa_length_le (n : Int) (by omega) (by omega)
        show ¬ 9223372036854775807 < 1 + (Lib.itoa (n : Int)).toArray.size
        rw [List.size_toArray]; omega
      have HBIG := Lib.hid hbig
      generalize (⟨(Lib.itoa (n : Int)).toArray⟩ : ByteArray) = t0 at *
      obtain ⟨p0, p1, p2⟩ := HVS.out.at
      go_upto_region 8 with fail
      go_cut [10, 11] from 39 to 52 (fun p q wx => ∃ (g : Nat) (a' : Option Addr) (c' : Nat), p = .pointer (some ⟨g, 0, none⟩) ∧ q = .int .i64 0 ∧ Hid (∀ k, At a' k → wr.heap.size ≤ k) ∧ Hid (ScV wx g a' c' (FN (n + 1))) ∧ Hid (Below wr.heap.size wr wx))
      case first =>

        refine region_glue (fun w' => Below wr.heap.size wr w') 14 10 12 snd2 _ _ [0, 1, 2, 3, 4, 5, 6, 7, 8, 9, 10, 11, 13] [(2, relVal (.string t0)), (9, relSc wr.heap.size (FN (n + 1)) 0), (10, relSc wr.heap.size (FN (n + 1)) 0), (13, relVar wr.heap.size)] [(10, 9)] (by kernel_rfl) (by kernel_rfl) rfl rfl rfl (fun R hR b v hb hu => ?_) (fun _ _ _ _ h => h) (by kernel_rfl) (ok_cons (relVal_ok _) (ok_cons (relSc_ok _ _ _) (ok_cons (relSc_ok _ _ _) (ok_cons (relVar_ok _) ok_nil)))) (Below.refl _ _).drew (fun w1 w2 h1 h2 => h1.trans (h2.mono h1.size)) ?_
        · cases hR
          exact snd_tup _ rfl rfl (by rw [hb]; exact of_decide_eq_true rfl) hu
        refine wpRelG_segL [0, 1] (fun l => (l.take 2).drop 0) rfl (by kernel_rfl) (by kernel_rfl) (by kernel_rfl) ?_
        simp only [List.take_succ_cons, List.take_zero, List.drop_succ_cons, List.drop_zero]
        repeat (
          first
          | go_big_quiet_skip
          | (go_big_quiet_want
             go_big_quiet_op
             first
             | go_big_quiet_on
             | (apply Exists.intro
                refine ⟨fun v1 hv1 => ?_, ?_⟩
                · (first
                  | (exact rfl)
                  | (obtain ⟨b0, b1, b2⟩ := (HVS.out.below hv1).at; simp only [b0, b1, b2, Result.andThen]; exact ⟨trivial, rfl⟩)
                  | (exact ⟨trivial, rfl⟩))
                go_big_quiet_on)))
        refine wpQuiet_nil ?_
        refine wpRelG_rel (k := 2) rfl rfl (by decide) rfl (fun w5 hw5 => ?_) (fun v hv => ?_)
        · go_simp
          refine ⟨rfl, (HD.out w5).mono ?_⟩
          rintro e w6 ⟨rfl, hb⟩
          exact ⟨_, rfl, hw5.1.trans (hb.mono hw5.1.size), hb, rfl, trivial⟩
        obtain rfl : v = .string t0 := hv
        simp only [Act.put, tupSc, snd2_two, List.getElem_toArray, List.getElem_cons_succ, List.getElem_cons_zero, List.setIfInBounds_toArray, List.set_cons_succ, List.set_cons_zero]
        refine wpRelG_segL [3, 4, 5, 6, 7, 8] (fun l => (l.take 9).drop 3) rfl (by kernel_rfl) (by kernel_rfl) (by kernel_rfl) ?_
        simp only [List.take_succ_cons, List.take_zero, List.drop_succ_cons, List.drop_zero]
        repeat (
          first
          | go_big_quiet_skip
          | (go_big_quiet_want
             go_big_quiet_op
             first
             | go_big_quiet_on
             | (apply Exists.intro
                refine ⟨fun v1 hv1 => ?_, ?_⟩
                · (first
                  | (exact rfl)
                  | (have hbig2 := HBIG.out; rw [if_neg hbig2]; exact ⟨trivial, rfl⟩)
                  | (exact ⟨trivial, rfl⟩))
                go_big_quiet_on)))
        refine wpQuiet_nil ?_
        refine wpRelG_rel (k := 9) rfl rfl (by decide) rfl (fun w5 hw5 => ?_) (fun v hv => ?_)
        · go_simp
          exact rel_sc hw5.1 (add_var (HVS.out.below hw5.1) HE.out)
        obtain ⟨a5, c5, rfl⟩ := hv
        simp only [Act.put, tupSc, snd2_two, List.getElem_toArray, List.getElem_cons_succ, List.getElem_cons_zero, List.setIfInBounds_toArray, List.set_cons_succ, List.set_cons_zero]
        refine wpRelG_glued (p := 10) rfl rfl rfl (fun w5 hw5 => ?_) (fun v hv => ?_)
        · go_simp
          exact rel_mv hw5.1 (hw5.2 9 rfl)
        obtain ⟨a6, c6, rfl⟩ := hv
        simp only [Act.put, tupSc, snd2_two, List.getElem_toArray, List.getElem_cons_succ, List.getElem_cons_zero, List.setIfInBounds_toArray, List.set_cons_succ, List.set_cons_zero]
        refine wpRelG_segL [11] (fun l => (l.take 12).drop 11) rfl (by kernel_rfl) (by kernel_rfl) (by kernel_rfl) ?_
        simp only [List.take_succ_cons, List.take_zero, List.drop_succ_cons, List.drop_zero]
        repeat (
          first
          | go_big_quiet_skip
          | (go_big_quiet_want
             go_big_quiet_op
             first
             | go_big_quiet_on
             | (apply Exists.intro
                refine ⟨fun v1 hv1 => ?_, ?_⟩
                · (first
                  | (exact rfl)
                  | (exact ⟨trivial, rfl⟩))
                go_big_quiet_on)))
        refine wpQuiet_nil ?_
        refine wpRelG_rel (k := 13) rfl rfl (by decide) rfl (fun w5 hw5 => ?_) (fun v hv => ?_)
        · go_simp
          exact rel_var hw5.1
        obtain ⟨g7, rfl⟩ := hv
        simp only [Act.put, tupSc, snd2_two, List.getElem_toArray, List.getElem_cons_succ, List.getElem_cons_zero, List.setIfInBounds_toArray, List.set_cons_succ, List.set_cons_zero]
        refine wpRelG_nil ?_
        intro w9 hw9 hF
        have ho := (show (relSc wr.heap.size (FN (n + 1)) 0).V (tupSc (FN (n + 1)) 0 a6 c6) w9 from hF 10) a6 c6 rfl
        have hs := (show (relVar wr.heap.size).V (.pointer (some ⟨g7, 0, none⟩)) w9 from hF 13) g7 rfl
        obtain ⟨hv9, hb9⟩ := ScV.fill hw9 hs ho
        have HG9 := Lib.hid hs.1
        have HO9 := Lib.hid ho
        have HV9 := Lib.hid hv9
        have HB9 := Lib.hid hb9
        obtain ⟨z0, z1, z2⟩ := hs.2.at
        obtain ⟨y0, y1, y2⟩ := hs.2.froz
        simp only [zeroSc] at z0 z1 z2
        clear hF ho hs hv9 hb9
        go_wp2
        have HA9 := Lib.hid (fun k (hk : At a6 k) => (HO9.out.at_ge hk).1)
        go_meet
        case rel => exact ⟨g7, a6, c6, rfl, rfl, HA9.out, HV9.out, HB9.out⟩
      case rest =>
        obtain ⟨g9, a9, c9, rfl, rfl, HA9, HV9, HB9⟩ := hcut
        have HVT := Lib.hid (HVS.out.below HB9.out)
        have HVN := Lib.hid (HVT.out.store HV9.out (fun k hk => by have := HA9.out k hk; have := HVS.out.slot.lt; omega))
        have HBN := Lib.hid (Frm.to_below (HB.out.trans (HB9.out.mono HB.out.size)) (putSc_frm (g := gS) (F := fun j => j = gS) rfl wc a9 c9 (FN (n + 1))) (fun k e => by rw [e]; exact HGS.out) (Nat.le_refl _))
        obtain ⟨z0, z1, z2⟩ := HVT.out.at
        obtain ⟨y0, y1, y2⟩ := HVT.out.slot.froz
        obtain ⟨q0, q1, q2⟩ := HV9.out.at
        clear p0 p1 p2
        go_wp2_with (go_at_call 19; refine (num_any _ _).mono ?_; rintro e wn ⟨rfl, rfl⟩)
        go_roundw
        case rel => exact ⟨n + 1, a9, c9, by omega, by omega, by go_num, HVN.out, HBN.out⟩
        case measure => simp [intOf]; omega
    · obtain rfl : n = 12 := by omega
      clear cn hle h0 HADD HVD
      obtain ⟨pS0, pS1, pS2⟩ := HVS.out.at
      go_upto_region 13 with (go_at_call 12; refine (add_var HVS.out E3.out).mono ?_; rintro e x3 ⟨aM, cM, rfl, ho, hb⟩; replace HVS := Lib.hid (HVS.out.below hb); have HO := Lib.hid ho; have HBW := Lib.hid (HB.out.trans (hb.mono HB.out.size)); clear ho hb)
      clear pS0 pS1 pS2
      change Code.wp _ _ _ _ (x3.alloc (.cells #[.int .i64 M0.id, .slice aM M0.cs.length cM, .int .i64 M0.next] 24))
      have hb : Below x3.heap.size x3 (x3.alloc (.cells #[.int .i64 M0.id, .slice aM M0.cs.length cM, .int .i64 M0.next] 24)) := (Below.refl _ _).alloc (Nat.le_refl _) _
      have HVM := Lib.hid (ScV.of HO.out)
      replace HVS := Lib.hid (HVS.out.below hb)
      replace HB := Lib.hid (HBW.out.trans (hb.mono HBW.out.size))
      obtain ⟨gM, hgM⟩ : ∃ g, g = x3.heap.size := ⟨_, rfl⟩
      have HGM := Lib.hid (show W.heap.size ≤ gM by rw [hgM]; exact HBW.out.size)
      rw [← hgM] at HVM
      try rw [← hgM]
      generalize x3.alloc (.cells #[.int .i64 M0.id, .slice aM M0.cs.length cM, .int .i64 M0.next] 24) = w3 at *
      clear hb HBW HO hgM
      have HD := Lib.hid (decimal_z (j : Int) (by have := HJ.out; omega) (by have := HJ.out; omega))
      have hc := HCT.out j HJ.out
      have hbig : ¬ 9223372036854775807 < 1 + (⟨(Lib.itoa (j : Int)).toArray⟩ : ByteArray).size := by
        have := Lib.itoa_length_le (j : Int) (by have := HJ.out; omega) (by have := HJ.out; omega)
        show ¬ 9223372036854775807 < 1 + (Lib.itoa (j : Int)).toArray.size
        rw [List.size_toArray]; omega
      rw [← hc] at E5 E6 F6
      have hjj := HJ.out
      clear hc HCT
      generalize (⟨(Lib.itoa (j : Int)).toArray⟩ : ByteArray) = t0 at *
      go_upto_region 14 with (go_at_call 29; refine (HD.out _).mono ?_; rintro e w4 ⟨rfl, hb⟩; replace HVS := Lib.hid (HVS.out.below hb); replace HVM := Lib.hid (HVM.out.below hb); replace HB := Lib.hid (HB.out.trans (hb.mono HB.out.size)); clear hb)
      clear HD hbig hjj ej
      obtain ⟨pS0, pS1, pS2⟩ := HVS.out.at
      go_upto_region 15 with (go_at_call 14; refine (drop_var HVS.out E5.out).mono ?_; rintro e x5 ⟨aT, cT, rfl, ho, hb⟩; replace HVS := Lib.hid (HVS.out.below hb); replace HVM := Lib.hid (HVM.out.below hb); have HO := Lib.hid ho; have HBW := Lib.hid (HB.out.trans (hb.mono HB.out.size)); clear ho hb)
      clear pS0 pS1 pS2
      change Code.wp _ _ _ _ (x5.alloc (.cells #[.int .i64 DJ.id, .slice aT DJ.cs.length cT, .int .i64 DJ.next] 24))
      have hb : Below x5.heap.size x5 (x5.alloc (.cells #[.int .i64 DJ.id, .slice aT DJ.cs.length cT, .int .i64 DJ.next] 24)) := (Below.refl _ _).alloc (Nat.le_refl _) _
      have HVT := Lib.hid (ScV.of HO.out)
      replace HVS := Lib.hid (HVS.out.below hb)
      replace HVM := Lib.hid (HVM.out.below hb)
      replace HB := Lib.hid (HBW.out.trans (hb.mono HBW.out.size))
      obtain ⟨gT, hgT⟩ : ∃ g, g = x5.heap.size := ⟨_, rfl⟩
      have HGT := Lib.hid (show W.heap.size ≤ gT by rw [hgT]; exact HBW.out.size)
      rw [← hgT] at HVT
      try rw [← hgT]
      generalize x5.alloc (.cells #[.int .i64 DJ.id, .slice aT DJ.cs.length cT, .int .i64 DJ.next] 24) = w5 at *
      clear hb HBW HO hgT
      obtain ⟨pT0, pT1, pT2⟩ := HVT.out.at
      go_upto_region 16 with (go_at_call 12; refine (add_var HVT.out E6.out).mono ?_; rintro e x6 ⟨aU, cU, rfl, ho, hb⟩; replace HVS := Lib.hid (HVS.out.below hb); replace HVM := Lib.hid (HVM.out.below hb); replace HVT := Lib.hid (HVT.out.below hb); have HO := Lib.hid ho; have HBW := Lib.hid (HB.out.trans (hb.mono HB.out.size)); clear ho hb)
      clear pT0 pT1 pT2
      change Code.wp _ _ _ _ (x6.alloc (.cells #[.int .i64 BJ.id, .slice aU BJ.cs.length cU, .int .i64 BJ.next] 24))
      have hb : Below x6.heap.size x6 (x6.alloc (.cells #[.int .i64 BJ.id, .slice aU BJ.cs.length cU, .int .i64 BJ.next] 24)) := (Below.refl _ _).alloc (Nat.le_refl _) _
      have HVU := Lib.hid (ScV.of HO.out)
      replace HVS := Lib.hid (HVS.out.below hb)
      replace HVM := Lib.hid (HVM.out.below hb)
      replace HVT := Lib.hid (HVT.out.below hb)
      replace HB := Lib.hid (HBW.out.trans (hb.mono HBW.out.size))
      obtain ⟨gU, hgU⟩ : ∃ g, g = x6.heap.size := ⟨_, rfl⟩
      have HGU := Lib.hid (show W.heap.size ≤ gU by rw [hgU]; exact HBW.out.size)
      rw [← hgU] at HVU
      try rw [← hgU]
      generalize x6.alloc (.cells #[.int .i64 BJ.id, .slice aU BJ.cs.length cU, .int .i64 BJ.next] 24) = w6 at *
      clear hb HBW HO hgU
      obtain ⟨pU0, pU1, pU2⟩ := HVU.out.at
      go_upto_region 17 with (go_at_call 26; refine (find_var HVU.out F6.out).mono ?_; rintro e w7 ⟨rfl, hb⟩; replace HVS := Lib.hid (HVS.out.below hb); replace HVM := Lib.hid (HVM.out.below hb); replace HVT := Lib.hid (HVT.out.below hb); replace HVU := Lib.hid (HVU.out.below hb); replace HB := Lib.hid (HB.out.trans (hb.mono HB.out.size)); clear hb)
      clear pU0 pU1 pU2
      obtain ⟨pS0, pS1, pS2⟩ := HVS.out.at
      go_upto_region 18 with (go_at_call 12; refine (add_var HVS.out E4.out).mono ?_; rintro e x8 ⟨aX, cX, rfl, ho, hb⟩; replace HVS := Lib.hid (HVS.out.below hb); replace HVM := Lib.hid (HVM.out.below hb); replace HVT := Lib.hid (HVT.out.below hb); replace HVU := Lib.hid (HVU.out.below hb); have HO := Lib.hid ho; have HBW := Lib.hid (HB.out.trans (hb.mono HB.out.size)); clear ho hb)
      clear pS0 pS1 pS2
      change Code.wp _ _ _ _ (x8.alloc (.cells #[.int .i64 X0.id, .slice aX X0.cs.length cX, .int .i64 X0.next] 24))
      have hb : Below x8.heap.size x8 (x8.alloc (.cells #[.int .i64 X0.id, .slice aX X0.cs.length cX, .int .i64 X0.next] 24)) := (Below.refl _ _).alloc (Nat.le_refl _) _
      have HVX := Lib.hid (ScV.of HO.out)
      replace HVS := Lib.hid (HVS.out.below hb)
      replace HVM := Lib.hid (HVM.out.below hb)
      replace HVT := Lib.hid (HVT.out.below hb)
      replace HVU := Lib.hid (HVU.out.below hb)
      replace HB := Lib.hid (HBW.out.trans (hb.mono HBW.out.size))
      obtain ⟨gX, hgX⟩ : ∃ g, g = x8.heap.size := ⟨_, rfl⟩
      have HGX := Lib.hid (show W.heap.size ≤ gX by rw [hgX]; exact HBW.out.size)
      rw [← hgX] at HVX
      try rw [← hgX]
      generalize x8.alloc (.cells #[.int .i64 X0.id, .slice aX X0.cs.length cX, .int .i64 X0.next] 24) = w8 at *
      clear hb HBW HO hgX
      rcases HVU.out.is with e | ⟨b, off, rfl, hcs⟩
      · have := F7.out; rw [e] at this; simp at this
      have hlen := F7.out
      have h11 : (11 : Int) < (BJ.cs.length : Int) := by rw [hlen]; decide
      have hcell := (hcs 11 (by omega)).c0
      have h13 : BJ.cs[11].id = 13 := by have := F8.out; rwa [getD_in (by omega)] at this
      rw [h13] at hcell
      obtain ⟨pU0, pU1, pU2⟩ := HVU.out.at
      clear hcs hlen h13 E1 E2 E3 E4 E5 E6 F6 F7 F8 HVS HVM HVT HVX
      go_wp2_with (go_at_call 19; refine (num_any _ _).mono ?_; rintro e wn ⟨rfl, rfl⟩)
      go_ret
      exact ⟨rfl, HB.out⟩
end Go.Proofs.Ythfakpekdjmpjaa
