/- By changes no Id is given twice: the walk. -/
import Derived.Test.YthfakpekdjmpjaaSchY
import Derived.Test.YthfakpekdjmpjaaSchW2
import Derived.Test.YthfakpekdjmpjaaBits
import Derived.Test.YthfakpekdjmpjaaIntL
import Derived.BigQuiet
import Derived.Deep.CutRange
namespace Go.Proofs.Ythfakpekdjmpjaa
open Go.Conc Go.RowKit
set_option linter.unusedVariables false
set_option linter.unusedSimpArgs false

set_option maxRecDepth 100000 in
set_option maxHeartbeats 16000000 in
theorem schemawalks_walk (ap : Option Addr) (cp : Nat) (xs : List Int) {W : World} (hp : IsL W ap xs) (hpn : ap = none → xs.length = 0 ∧ cp = 0) (hpl : xs.length * 8 ≤ 140737488351232) (hpb : ∀ x ∈ xs, -9223372036854775808 ≤ x ∧ x < 9223372036854775808) :
    Calls Try.prog 4 #[.slice ap xs.length cp] W fun e w' => e = .returned (.bool true) ∧ Below W.heap.size W w' := by
  have TA := Lib.hid (schawake_any W)
  obtain ⟨S1, e1, m1, x1⟩ : ∃ S1, newA [⟨#[97]⟩] [1] = (S1, 0) ∧ maySc S1 = true ∧ S1.next = 2 := ⟨sc1 ⟨#[97]⟩, by rw [new_sc1, if_pos (by kernel_rfl)], by kernel_rfl, rfl⟩
  have E1 := Lib.hid e1
  have M1 := Lib.hid m1
  have X1 := Lib.hid x1
  have HP := Lib.hid hp
  have HPB := Lib.hid hpb
  clear e1 m1 x1 hp hpb hpn
  go_enter Try.func4, Try.ntmps4
  go_upto_region 3 with (go_at_call 28; refine TA.out.mono ?_; rintro e w1 ⟨rfl, hb⟩; have HB := Lib.hid hb; clear hb)
  clear TA
  obtain ⟨u0, hu0⟩ : ∃ u, u = w1.alloc (.cells #[.string ⟨#[97]⟩] 9) := ⟨_, rfl⟩
  obtain ⟨v0, hv0⟩ : ∃ v, v = u0.alloc (.cells #[.int .i64 1] 3) := ⟨_, rfl⟩
  have b1 : Below w1.heap.size w1 u0 := by rw [hu0]; exact (Below.refl _ _).alloc (Nat.le_refl _) _
  have b2 : Below u0.heap.size u0 v0 := by rw [hv0]; exact (Below.refl _ _).alloc (Nat.le_refl _) _
  have hTx : IsT u0 (some ⟨w1.heap.size, 0, none⟩) [⟨#[97]⟩] := by rw [hu0]; exact one_text _ _
  have hLx : IsL v0 (some ⟨u0.heap.size, 0, none⟩) [1] := by rw [hv0]; exact isl_new u0 [1] _ rfl
  have HTx := Lib.hid (hTx.below b2)
  have HLx := Lib.hid hLx
  have hz : u0.heap.size = w1.heap.size + 1 := by rw [hu0]; simp
  rw [hz] at HLx
  have hb := b1.trans (b2.mono b1.size)
  replace HB := Lib.hid (HB.out.trans (hb.mono HB.out.size))
  clear b1 b2 hTx hLx hz hb
  go_upto_region 4 with (go_at_call 24; (try change Calls _ _ _ ((w1.alloc (.cells #[.string ⟨#[97]⟩] 9)).alloc (.cells #[.int .i64 1] 3)) _); rw [← hu0, ← hv0]; refine (new_var _ _ _ _ _ [⟨#[97]⟩] [1] HTx.out HLx.out (by simp) (by simp) E1.out).mono ?_; rintro e x1 ⟨aS, cS, rfl, ho, hb⟩;  have HO := Lib.hid ho; have HAS := Lib.hid (fun k (hk : At aS k) => (ho.at_ge hk).1); have HBW := Lib.hid (HB.out.trans (hb.mono HB.out.size)); clear ho hb)
  change Code.wp _ _ _ _ (x1.alloc (.cells #[.int .i64 S1.id, .slice aS S1.cs.length cS, .int .i64 S1.next] 24))
  have hb : Below x1.heap.size x1 (x1.alloc (.cells #[.int .i64 S1.id, .slice aS S1.cs.length cS, .int .i64 S1.next] 24)) := (Below.refl _ _).alloc (Nat.le_refl _) _
  have HVS := Lib.hid (ScV.of HO.out)
  have HLS := Lib.hid (fun k (hk : At aS k) => Nat.lt_of_lt_of_le (HO.out.at_ge hk).2 hb.size)
  replace HB := Lib.hid (HBW.out.trans (hb.mono HBW.out.size))
  obtain ⟨gS, hgS⟩ : ∃ g, g = x1.heap.size := ⟨_, rfl⟩
  have HGS := Lib.hid (show W.heap.size ≤ gS by rw [hgS]; exact HBW.out.size)
  rw [← hgS] at HVS
  try rw [← hgS]
  generalize x1.alloc (.cells #[.int .i64 S1.id, .slice aS S1.cs.length cS, .int .i64 S1.next] 24) = w1 at *
  clear hb HBW HO hgS
  clear hu0 hv0 HTx HLx
  go_upto_region 6 with fail
  obtain ⟨bn, hbn⟩ : ∃ b, b = w1.heap.size := ⟨_, rfl⟩
  have ha1 : Below w1.heap.size w1 (w1.alloc (.cells cells5 9)) := (Below.refl _ _).alloc (Nat.le_refl _) _
  have hn0 : (w1.alloc (.cells cells5 9)).heap[bn]? = some (.cells cells5 9 (0, 0)) := by rw [hbn]; exact heap_alloc_new _ _
  have hs0 := OwnB.new (w1.alloc (.cells cells5 9)) (base := W.heap.size) (HB.out.trans (ha1.mono HB.out.size)).size
  have ha2 : Below (w1.alloc (.cells cells5 9)).heap.size (w1.alloc (.cells cells5 9)) ((w1.alloc (.cells cells5 9)).alloc (.cells #[.bool false, .bool true] 4)) := (Below.refl _ _).alloc (Nat.le_refl _) _
  have hz1 : (w1.alloc (.cells cells5 9)).heap.size = w1.heap.size + 1 := by simp
  rw [hz1] at hs0
  change Code.wp _ _ _ _ ((w1.alloc (.cells cells5 9)).alloc (.cells #[.bool false, .bool true] 4))
  rw [← hbn] at hs0 ⊢
  obtain ⟨wq, hwq⟩ : ∃ wq, wq = ((w1.alloc (.cells cells5 9)).alloc (.cells #[.bool false, .bool true] 4)) := ⟨_, rfl⟩
  rw [← hwq] at hs0 ha2 ⊢
  have hb := ha1.trans (ha2.mono ha1.size)
  have HNA0 : Hid (∀ k, At aS k → ¬ At (some ⟨bn + 1, 0, none⟩) k) := fun k hk hk2 => by
    have h1 := HLS.out k hk
    simp [At] at hk2
    omega
  have HN0 := Lib.hid ((ha2.block bn (Array.getElem?_eq_some_iff.1 hn0).1).trans hn0)
  have HQ0 := Lib.hid hs0
  have HV0 := Lib.hid (HVS.out.below hb)
  have HB0 := Lib.hid (HB.out.trans (hb.mono HB.out.size))
  have HGB := Lib.hid (show W.heap.size ≤ bn by rw [hbn]; exact HB.out.size)
  clear hbn ha1 hn0 hs0 ha2 hz1 hwq hb HVS HB
  go_wp2
  go_loopw [7, 6] (fun iv sv wr => ∃ (n : Nat) (s : Sc) (aS : Option Addr) (cS : Nat) (aB : Option Addr) (cB m : Nat) (L : List Value), n ≤ xs.length ∧ iv = .int .i64 n ∧ sv = .slice aB m cB ∧ Hid (maySc s = true) ∧ Hid ((m : Int) = s.next) ∧ Hid (OwnB W.heap.size wr aB cB m L) ∧ Hid (ScV wr gS aS cS s) ∧ Hid (wr.heap[bn]? = some (.cells cells5 9 (0, 0))) ∧ Hid (Below W.heap.size W wr) ∧ Hid (∀ k, At aS k → ¬ At aB k)) (fun iv _ _ => xs.length - (intOf iv).toNat)
  case atStart => exact ⟨0, S1, aS, cS, _, _, 2, _, Nat.zero_le _, rfl, rfl, M1.out, by unfold Hid; rw [X1.out]; rfl, HQ0.out, HV0.out, HN0.out, HB0.out, HNA0.out⟩
  case round =>
    clear HQ0 HV0 HN0 HB0 E1 M1 X1
    obtain ⟨n, s, aS, cS, aB, cB, m, L, hle, rfl, rfl, HM, HX, HQ, HVS, HN, HB, HNA⟩ := hrel
    by_cases cn : n < xs.length
    · by_cases c6 : n < 60
      · obtain ⟨j1, j2, hj1, hj2, f1, f2⟩ := rem5 xs[n]
        rcases HP.out.below HB.out with e | ⟨bp, op, rfl, hpc⟩
        · rw [e] at cn; simp at cn
        have hpx := hpc n cn
        have HPX := Lib.hid (fun (v : World) (hv : Below wr.heap.size wr v) => (World.cell?_of_block (hv.block bp (World.block_lt_of_cell? wr ⟨bp, op + n, none⟩ hpx))).trans hpx)
        have HNX := Lib.hid (fun (v : World) (hv : Below wr.heap.size wr v) (j : Nat) (hj : j < 5) => (cell_of_row v bn j _ _ _ ((hv.block bn (Array.getElem?_eq_some_iff.1 HN.out).1).trans HN.out)).trans (cells5_at hj))
        have HPV := Lib.hid (HPB.out xs[n] (List.getElem_mem cn))
        clear hpc hpx
        generalize xs[n] = p at *
        go_upto_region 9 with fail
        refine region_class (fun w' => Below wr.heap.size wr w') (by kernel_rfl) (by kernel_rfl) (Below.refl _ _).drew ?_
        repeat (
          first
          | go_big_quiet_skip
          | (go_big_quiet_want
             go_big_quiet_op
             first
             | go_big_quiet_on
             | (apply Exists.intro
                refine ⟨fun v1 hv1 => ?_, ?_⟩
                · (first
                  | (exact rfl)
                  | (have q := HPX.out v1 hv1; simp only [q, Result.andThen]; exact ⟨trivial, rfl⟩)
                  | (have q := HNX.out v1 hv1 _ hj1; simp only [q, Result.andThen]; exact ⟨trivial, rfl⟩)
                  | (have q := HNX.out v1 hv1 _ hj2; simp only [q, Result.andThen]; exact ⟨trivial, rfl⟩)
                  | (exact ⟨trivial, rfl⟩))
                go_big_quiet_on)))
        refine wpQuiet_nil ?_
        intro w9 hb
        clear HNX f1 f2
        generalize nm5 j1 = X at *
        generalize nm5 j2 = Y at *
        clear hj1 hj2
        replace HVS := Lib.hid (HVS.out.below hb)
        replace HQ := Lib.hid (HQ.out.below hb)
        replace HPX := Lib.hid (all_below HPX.out hb)
        replace HN := Lib.hid ((hb.block bn (Array.getElem?_eq_some_iff.1 HN.out).1).trans HN.out)
        replace HB := Lib.hid (HB.out.trans (hb.mono HB.out.size))
        clear hb

        obtain ⟨pS0, pS1, pS2⟩ := HVS.out.at
        go_upto_region 11 with fail
        clear pS0 pS1 pS2
        have hb : Below w9.heap.size w9 (w9.alloc (.cells #[.int .i64 s.id, .slice aS s.cs.length cS, .int .i64 s.next] 24)) := (Below.refl _ _).alloc (Nat.le_refl _) _
        have HVO := Lib.hid (ScV.copy HVS.out)
        obtain ⟨gO, hgO⟩ : ∃ g, g = w9.heap.size := ⟨_, rfl⟩
        have HDOS := Lib.hid (show gO ≠ gS by have := HVS.out.slot.lt; omega)
        have HDSO := Lib.hid (show gS ≠ gO by have := HVS.out.slot.lt; omega)
        have HGO := Lib.hid (show W.heap.size ≤ gO by rw [hgO]; exact HB.out.size)
        rw [← hgO] at HVO
        try rw [← hgO]
        replace HVS := Lib.hid (HVS.out.below hb)
        replace HQ := Lib.hid (HQ.out.below hb)
        replace HPX := Lib.hid (all_below HPX.out hb)
        replace HN := Lib.hid ((hb.block bn (Array.getElem?_eq_some_iff.1 HN.out).1).trans HN.out)
        replace HB := Lib.hid (HB.out.trans (hb.mono HB.out.size))
        change Code.wp _ _ _ _ (w9.alloc (.cells #[.int .i64 s.id, .slice aS s.cs.length cS, .int .i64 s.next] 24))
        generalize w9.alloc (.cells #[.int .i64 s.id, .slice aS s.cs.length cS, .int .i64 s.next] 24) = w21 at *
        clear hb hgO
        obtain ⟨pS0, pS1, pS2⟩ := HVS.out.at
        go_upto_region 12 with fail
        clear pS0 pS1 pS2
        have hb : Below w21.heap.size w21 (w21.alloc (.cells #[.int .i64 s.id, .slice aS s.cs.length cS, .int .i64 s.next] 24)) := (Below.refl _ _).alloc (Nat.le_refl _) _
        have HVT := Lib.hid (ScV.copy HVS.out)
        obtain ⟨gT, hgT⟩ : ∃ g, g = w21.heap.size := ⟨_, rfl⟩
        have HDTS := Lib.hid (show gT ≠ gS by have := HVS.out.slot.lt; omega)
        have HDST := Lib.hid (show gS ≠ gT by have := HVS.out.slot.lt; omega)
        have HDTO := Lib.hid (show gT ≠ gO by have := HVO.out.slot.lt; omega)
        have HDOT := Lib.hid (show gO ≠ gT by have := HVO.out.slot.lt; omega)
        have HGT := Lib.hid (show W.heap.size ≤ gT by rw [hgT]; exact HB.out.size)
        rw [← hgT] at HVT
        try rw [← hgT]
        replace HVS := Lib.hid (HVS.out.below hb)
        replace HVO := Lib.hid (HVO.out.below hb)
        replace HQ := Lib.hid (HQ.out.below hb)
        replace HPX := Lib.hid (all_below HPX.out hb)
        replace HN := Lib.hid ((hb.block bn (Array.getElem?_eq_some_iff.1 HN.out).1).trans HN.out)
        replace HB := Lib.hid (HB.out.trans (hb.mono HB.out.size))
        change Code.wp _ _ _ _ (w21.alloc (.cells #[.int .i64 s.id, .slice aS s.cs.length cS, .int .i64 s.next] 24))
        generalize w21.alloc (.cells #[.int .i64 s.id, .slice aS s.cs.length cS, .int .i64 s.next] 24) = w22 at *
        clear hb hgT
        obtain ⟨q, hq, eq⟩ : ∃ q : Nat, q < 4 ∧ bits .and .i64 (wrap64 (p.tdiv 32)) 3 = (q : Int) := ⟨_, by have := Int.emod_lt_of_pos (wrap64 (p.tdiv 32)) (show (0 : Int) < (2 ^ 2 : Nat) by decide); have := Int.emod_nonneg (wrap64 (p.tdiv 32)) (show ((2 ^ 2 : Nat) : Int) ≠ 0 by decide); show (wrap64 (p.tdiv 32) % (2 ^ 2 : Nat)).toNat < 4; omega, lowBits 2 (by omega) (wrap64 (p.tdiv 32))⟩
        have hpx := HPX.out _ (Below.refl _ _)
        rcases (show q = 0 ∨ q = 1 ∨ q = 2 ∨ q = 3 by omega) with rfl | rfl | rfl | rfl
        · replace eq : bits .and .i64 (wrap64 (p.tdiv 32)) 3 = 0 := eq
          obtain ⟨d, hd, ed⟩ : ∃ d : Nat, d < 2 ∧ bits .and .i64 p 1 = (d : Int) := ⟨_, by have := Int.emod_lt_of_pos p (show (0 : Int) < (2 ^ 1 : Nat) by decide); have := Int.emod_nonneg p (show ((2 ^ 1 : Nat) : Int) ≠ 0 by decide); show (p % (2 ^ 1 : Nat)).toNat < 2; omega, lowBits 1 (by omega) p⟩
          obtain ⟨t2, z, ea⟩ : ∃ t2 z, addA s X (1 + (d : Int)) = (t2, z) := ⟨_, _, rfl⟩
          have EA := Lib.hid ea
          clear ea
          go_upto_region 19 with fail
          clear hpx eq hq
          refine region_glue (fun w' => Below w22.heap.size w22 w') 13 9 11 snd2 _ _ [0, 1, 2, 3, 4, 5, 6, 7, 8, 9, 10, 12] [(8, relSc w22.heap.size t2 z), (9, relSc w22.heap.size t2 z), (12, relVar w22.heap.size)] [(9, 8)] (by kernel_rfl) (by kernel_rfl) rfl rfl rfl (fun R hR b v hb hu => ?_) (fun _ _ _ _ h => h) (by kernel_rfl) (ok_cons (relSc_ok _ _ _) (ok_cons (relSc_ok _ _ _) (ok_cons (relVar_ok _) ok_nil))) (Below.refl _ _).drew (fun w1 w2 h1 h2 => h1.trans (h2.mono h1.size)) ?_
          · cases hR
            exact snd_tup _ rfl rfl (by rw [hb]; exact of_decide_eq_true rfl) hu
          refine wpRelG_segL [0, 1, 2, 3, 4, 5, 6, 7] (fun l => (l.take 8).drop 0) rfl (by kernel_rfl) (by kernel_rfl) (by kernel_rfl) ?_
          simp only [List.take_succ_cons, List.take_zero, List.drop_succ_cons, List.drop_zero]
          repeat (
            first
            | go_big_quiet_skip
            | (go_big_quiet_want
               go_big_quiet_op
               first
               | go_big_quiet_on
               | (apply Exists.intro
                  refine ⟨fun v1 hv1 => ?_, ?_⟩
                  · (first
                    | (exact rfl)
                    | (obtain ⟨b0, b1, b2⟩ := (HVS.out.below hv1).at; simp only [b0, b1, b2, Result.andThen]; exact ⟨trivial, rfl⟩)
                    | (have q := HPX.out v1 hv1; simp only [q, Result.andThen]; exact ⟨trivial, rfl⟩)
                    | (exact ⟨trivial, rfl⟩))
                  go_big_quiet_on)))
          refine wpQuiet_nil ?_
          refine wpRelG_rel (k := 8) rfl rfl (by decide) rfl (fun w5 hw5 => ?_) (fun v hv => ?_)
          · go_simp
            exact rel_sc hw5.1 (add_var (HVS.out.below hw5.1) EA.out)
          obtain ⟨a5, c5, rfl⟩ := hv
          simp only [Act.put, tupSc, snd2_two, List.getElem_toArray, List.getElem_cons_succ, List.getElem_cons_zero, List.setIfInBounds_toArray, List.set_cons_succ, List.set_cons_zero]
          refine wpRelG_glued (p := 9) rfl rfl rfl (fun w5 hw5 => ?_) (fun v hv => ?_)
          · go_simp
            exact rel_mv hw5.1 (hw5.2 8 rfl)
          obtain ⟨a6, c6, rfl⟩ := hv
          simp only [Act.put, tupSc, snd2_two, List.getElem_toArray, List.getElem_cons_succ, List.getElem_cons_zero, List.setIfInBounds_toArray, List.set_cons_succ, List.set_cons_zero]
          refine wpRelG_segL [10] (fun l => (l.take 11).drop 10) rfl (by kernel_rfl) (by kernel_rfl) (by kernel_rfl) ?_
          simp only [List.take_succ_cons, List.take_zero, List.drop_succ_cons, List.drop_zero]
          repeat (
            first
            | go_big_quiet_skip
            | (go_big_quiet_want
               go_big_quiet_op
               first
               | go_big_quiet_on
               | (apply Exists.intro
                  refine ⟨fun v1 hv1 => ?_, ?_⟩
                  · (first
                    | (exact rfl)
                    | (exact ⟨trivial, rfl⟩))
                  go_big_quiet_on)))
          refine wpQuiet_nil ?_
          refine wpRelG_rel (k := 12) rfl rfl (by decide) rfl (fun w5 hw5 => ?_) (fun v hv => ?_)
          · go_simp
            exact rel_var hw5.1
          obtain ⟨g7, rfl⟩ := hv
          simp only [Act.put, tupSc, snd2_two, List.getElem_toArray, List.getElem_cons_succ, List.getElem_cons_zero, List.setIfInBounds_toArray, List.set_cons_succ, List.set_cons_zero]
          refine wpRelG_nil ?_
          intro w9 hw9 hF
          have ho := (show (relSc w22.heap.size t2 z).V (tupSc t2 z a6 c6) w9 from hF 9) a6 c6 rfl
          have hs := (show (relVar w22.heap.size).V (.pointer (some ⟨g7, 0, none⟩)) w9 from hF 12) g7 rfl
          obtain ⟨hv9, hb9⟩ := ScV.fill hw9 hs ho
          have HG9 := Lib.hid hs.1
          have HO9 := Lib.hid ho
          have HV9 := Lib.hid hv9
          have HB9 := Lib.hid hb9
          obtain ⟨z0, z1, z2⟩ := hs.2.at
          obtain ⟨y0, y1, y2⟩ := hs.2.froz
          simp only [zeroSc] at z0 z1 z2
          clear hF ho hs hv9 hb9
          go_upto_region 20 with fail
          have HDNS := Lib.hid (show g7 ≠ gS by have := HVS.out.slot.lt; have := HG9.out; omega)
          have HDSN := Lib.hid (show gS ≠ g7 by have := HVS.out.slot.lt; have := HG9.out; omega)
          have HDNO := Lib.hid (show g7 ≠ gO by have := HVO.out.slot.lt; have := HG9.out; omega)
          have HDON := Lib.hid (show gO ≠ g7 by have := HVO.out.slot.lt; have := HG9.out; omega)
          have HDNT := Lib.hid (show g7 ≠ gT by have := HVT.out.slot.lt; have := HG9.out; omega)
          have HDTN := Lib.hid (show gT ≠ g7 by have := HVT.out.slot.lt; have := HG9.out; omega)
          have HNA2 : Hid (∀ k, At a6 k → ¬ At aB k) := (fun k hk hk2 => absurd (HQ.out.lt hk2) (Nat.not_lt.2 (HO9.out.at_ge hk).1))
          change Code.wp _ _ _ _ (putSc w9 g7 a6 c6 t2)
          have hb := HB9.out
          clear hw9 z0 z1 z2 y0 y1 y2
          replace HVS := Lib.hid (HVS.out.below hb)
          replace HVO := Lib.hid (HVO.out.below hb)
          replace HVT := Lib.hid (HVT.out.below hb)
          replace HQ := Lib.hid (HQ.out.below hb)
          replace HPX := Lib.hid (all_below HPX.out hb)
          replace HN := Lib.hid ((hb.block bn (Array.getElem?_eq_some_iff.1 HN.out).1).trans HN.out)
          replace HB := Lib.hid (HB.out.trans (hb.mono HB.out.size))
          have HVN := HV9
          clear hb HV9 HB9 HO9
          generalize putSc w9 g7 a6 c6 t2 = w40 at *
          refine region_known (fun w' => Below w40.heap.size w40 w') 3 [0, 1, 2] [(2, relVal (.int .i64 z))] [] (by kernel_rfl) (by kernel_rfl) (by kernel_rfl) (ok_cons (relVal_ok _) ok_nil) (Below.refl _ _).drew (fun w1 w2 h1 h2 => h1.trans (h2.mono h1.size)) ?_
          refine wpRel_segL [0, 1] (fun l => (l.take 2).drop 0) rfl (by kernel_rfl) (by kernel_rfl) (by kernel_rfl) ?_
          simp only [List.take_succ_cons, List.take_zero, List.drop_succ_cons, List.drop_zero]
          repeat (
            first
            | go_big_quiet_skip
            | (go_big_quiet_want
               go_big_quiet_op
               first
               | go_big_quiet_on
               | (apply Exists.intro
                  refine ⟨fun v1 hv1 => ?_, ?_⟩
                  · (first
                    | (exact rfl)
                    | (obtain ⟨b0, b1, b2⟩ := (HVN.out.below hv1).at; simp only [b0, b1, b2, Result.andThen]; exact ⟨trivial, rfl⟩)
                    | (exact ⟨trivial, rfl⟩))
                  go_big_quiet_on)))
          refine wpQuiet_nil ?_
          refine wpRel_rel (k := 2) rfl rfl rfl (fun w5 hw5 => ?_) (fun v hv => ?_)
          · go_simp
            refine ⟨rfl, (num_any _ _).mono ?_⟩
            rintro e w6 ⟨rfl, rfl⟩
            exact ⟨_, rfl, hw5.1, Below.refl _ _, rfl, trivial⟩
          obtain rfl : v = .int .i64 z := hv
          simp only [Act.put, tupSc, snd2_two, List.getElem_toArray, List.getElem_cons_succ, List.getElem_cons_zero, List.setIfInBounds_toArray, List.set_cons_succ, List.set_cons_zero]
          refine wpRel_nil ?_
          intro w41 hb hF
          clear hF
          replace HVS := Lib.hid (HVS.out.below hb)
          replace HVO := Lib.hid (HVO.out.below hb)
          replace HVT := Lib.hid (HVT.out.below hb)
          replace HVN := Lib.hid (HVN.out.below hb)
          replace HQ := Lib.hid (HQ.out.below hb)
          replace HPX := Lib.hid (all_below HPX.out hb)
          replace HN := Lib.hid ((hb.block bn (Array.getElem?_eq_some_iff.1 HN.out).1).trans HN.out)
          replace HB := Lib.hid (HB.out.trans (hb.mono HB.out.size))
          clear hb
          obtain ⟨z0, z1, z2⟩ := HVT.out.at
          obtain ⟨y0, y1, y2⟩ := HVT.out.slot.froz
          go_upto_region 21 with fail
          change Code.wp _ _ _ _ (putSc w41 gT a6 c6 t2)
          have hf := putSc_frm (g := gT) (F := fun j => j = gT) rfl w41 a6 c6 t2
          have hv9 := Lib.hid (HVT.out.store HVN.out)
          replace HQ := Lib.hid (HQ.out.off HVT.out.slot hf)
          replace HN := Lib.hid ((hf.block bn (Array.getElem?_eq_some_iff.1 HN.out).1 (fun e => by subst e; have := HVT.out.slot.b; rw [HN.out] at this; simp only [Option.some.injEq, Obj.cells.injEq] at this; exact absurd this.2.1 (by decide))).trans HN.out)
          replace HVS := Lib.hid (HVS.out.off HVT.out.slot (by have := HDST.out; omega) hf)
          replace HVO := Lib.hid (HVO.out.off HVT.out.slot (by have := HDOT.out; omega) hf)
          replace HVN := Lib.hid (HVN.out.off HVT.out.slot (by have := HDNT.out; omega) hf)
          replace HB := Lib.hid (Frm.to_below HB.out hf (fun k e => by rw [e]; exact HGT.out) (Nat.le_refl _))
          replace HVT := hv9
          clear hv9 hf
          generalize putSc w41 gT a6 c6 t2 = w42 at *
          clear z0 z1 z2 y0 y1 y2
          clear HPX
          by_cases hz : z = 0
          · subst hz
            have hg := addA_good (s := s) (nm := X) (k := 1 + (d : Int)) (by rw [EA.out])
            rw [EA.out] at hg
            obtain ⟨_, hm2, ht2⟩ := hg
            simp only at hm2 ht2
            have HM2 := Lib.hid hm2
            have HI2 := Lib.hid (show t2.id = s.id + 1 by rw [ht2])
            have HX2 : Hid (((m + 1 : Nat) : Int) = t2.next) := by unfold Hid; rw [ht2]; simp only; rw [← HX.out]; omega
            have hlen : t2.cs.length = s.cs.length + 1 := by rw [ht2]; simp
            have hlast : ∀ h, (t2.cs[s.cs.length]'h).id = (m : Int) := fun h => by simp only [ht2]; rw [List.getElem_append_right (Nat.le_refl _)]; simp [HX.out]
            have hmx : m ≤ 2147483647 := by have h1 := (may_iff _).1 HM.out |>.1; have h2 := HX.out; omega
            have hk12 : s.cs.length ≤ 12 := ((may_iff _).1 HM.out).1.2.2.2.2
            rcases HVT.out.is with e0 | ⟨bT, oT, rfl, hcT⟩
            · rw [e0] at hlen; simp at hlen
            have hcell := (hcT s.cs.length (by omega)).c0
            rw [hlast] at hcell
            obtain ⟨pT0, pT1, pT2⟩ := HVT.out.at
            rw [hlen] at pT1
            have hw1 : IntKind.i64.wrap (((s.cs.length + 1 : Nat) : Int) - 1) = (s.cs.length : Int) := wrap_in2 hk12
            have HLN := Lib.hid hlen
            obtain ⟨aB2, cB2, w95, hr, hq2, hf, hk2⟩ := HQ.out.more HB.out.size (by omega)
            have HR := Lib.hid hr
            have HQ2 := Lib.hid hq2
            have HF := Lib.hid hf
            have HK2 := Lib.hid hk2
            clear hr hq2 hf hk2 hm2 ht2 hlast hcT
            generalize s.cs.length = k0 at *
            go_upto_region 28 with (at_builtin; refine wpList_append_eq _ rfl (.tmp 129) (.tmp 130) 46 46 rfl _ _ rfl rfl (HR.out _) ?_)
            have HLB := Lib.hid (World.block_lt_of_cell? w42 ⟨bT, oT + k0 * 3, none⟩ hcell)
            clear pT0 pT1 pT2 hcell hw1 hlen hmx hk12 HR HVN
            replace HVT := Lib.hid (HVT.out.off2 (Frm.off_b HQ.out HVT.out.slot) HNA2.out HF.out)
            replace HVS := Lib.hid (HVS.out.off2 (Frm.off_b HQ.out HVS.out.slot) HNA.out HF.out)
            replace HVO := Lib.hid (HVO.out.off2 (Frm.off_b HQ.out HVO.out.slot) HNA.out HF.out)
            replace HN := Lib.hid (HQ.out.off_s HN.out HF.out)
            replace HB := Lib.hid (Frm.to_below HB.out HF.out (fun k hk => HQ.out.at_ge hk) (Nat.le_refl _))
            replace HNA2 : Hid (∀ k, At (some ⟨bT, oT, none⟩) k → ¬ At aB2 k) := fun k h1 h2 => (HK2.out k h2).elim (HNA2.out k h1) (fun h3 => by simp [At] at h1; subst h1; have := HLB.out; simp only at this; omega)
            clear HQ HF HK2 HLB
            have HQ := HQ2
            clear HQ2
            have hbd := (may_iff _).1 HM2.out |>.1
            have hbs := (may_iff _).1 HM.out |>.1
            rw [HI2.out] at hbd
            have hwr : IntKind.i64.wrap (s.id + 1) = s.id + 1 := wrap_in (by omega) (by omega)
            clear hbd hbs
            obtain ⟨pT0, pT1, pT2⟩ := HVT.out.at
            go_upto_region 31 with (go_at_call 20; refine (may_var HVT.out HM2.out).mono ?_; rintro e w90 ⟨rfl, hb⟩; replace HVS := Lib.hid (HVS.out.below hb); replace HVO := Lib.hid (HVO.out.below hb); replace HVT := Lib.hid (HVT.out.below hb); replace HQ := Lib.hid (HQ.out.below hb); replace HN := Lib.hid ((hb.block bn (Array.getElem?_eq_some_iff.1 HN.out).1).trans HN.out); replace HB := Lib.hid (HB.out.trans (hb.mono HB.out.size)); clear hb pT0 pT1 pT2; obtain ⟨pT0, pT1, pT2⟩ := HVT.out.at; obtain ⟨pO0, pO1, pO2⟩ := HVO.out.at; rw [HI2.out] at pT0)
            clear pO0 pO1 pO2 hwr
            rw [← HI2.out] at pT0
            obtain ⟨z0, z1, z2⟩ := HVS.out.at
            obtain ⟨y0, y1, y2⟩ := HVS.out.slot.froz
            have hf := putSc_frm (g := gS) (F := fun j => j = gS) rfl w90 (some ⟨bT, oT, none⟩) c6 t2
            have hv9 := Lib.hid (HVS.out.store HVT.out)
            replace HQ := Lib.hid (HQ.out.off HVS.out.slot hf)
            replace HN := Lib.hid ((hf.block bn (Array.getElem?_eq_some_iff.1 HN.out).1 (fun e => by subst e; have := HVS.out.slot.b; rw [HN.out] at this; simp only [Option.some.injEq, Obj.cells.injEq] at this; exact absurd this.2.1 (by decide))).trans HN.out)
            replace HB := Lib.hid (Frm.to_below HB.out hf (fun k e => by rw [e]; exact HGS.out) (Nat.le_refl _))
            clear hf
            go_wp2
            go_roundw
            case rel => exact ⟨n + 1, t2, (some ⟨bT, oT, none⟩), c6, aB2, cB2, (m + 1), _, by omega, by go_num, rfl, HM2.out, HX2.out, HQ.out, hv9.out, HN.out, HB.out, HNA2.out⟩
            case measure => simp [intOf]; omega
          · have hz1 : (z == 0) = false := by simpa using hz
            have hz2 : (z != 0) = true := by simpa using hz
            clear hz
            go_wp2
            go_roundw
            case rel => exact ⟨n + 1, s, aS, cS, aB, cB, m, L, by omega, by go_num, rfl, HM.out, HX.out, HQ.out, HVS.out, HN.out, HB.out, HNA.out⟩
            case measure => simp [intOf]; omega
        · replace eq : bits .and .i64 (wrap64 (p.tdiv 32)) 3 = 1 := eq
          obtain ⟨d, hd, ed⟩ : ∃ d : Nat, d < 2 ∧ bits .and .i64 p 1 = (d : Int) := ⟨_, by have := Int.emod_lt_of_pos p (show (0 : Int) < (2 ^ 1 : Nat) by decide); have := Int.emod_nonneg p (show ((2 ^ 1 : Nat) : Int) ≠ 0 by decide); show (p % (2 ^ 1 : Nat)).toNat < 2; omega, lowBits 1 (by omega) p⟩
          obtain ⟨t2, z, ea⟩ : ∃ t2 z, addA s X (1 + (d : Int)) = (t2, z) := ⟨_, _, rfl⟩
          have EA := Lib.hid ea
          clear ea
          go_upto_region 19 with fail
          clear hpx eq hq
          refine region_glue (fun w' => Below w22.heap.size w22 w') 13 9 11 snd2 _ _ [0, 1, 2, 3, 4, 5, 6, 7, 8, 9, 10, 12] [(8, relSc w22.heap.size t2 z), (9, relSc w22.heap.size t2 z), (12, relVar w22.heap.size)] [(9, 8)] (by kernel_rfl) (by kernel_rfl) rfl rfl rfl (fun R hR b v hb hu => ?_) (fun _ _ _ _ h => h) (by kernel_rfl) (ok_cons (relSc_ok _ _ _) (ok_cons (relSc_ok _ _ _) (ok_cons (relVar_ok _) ok_nil))) (Below.refl _ _).drew (fun w1 w2 h1 h2 => h1.trans (h2.mono h1.size)) ?_
          · cases hR
            exact snd_tup _ rfl rfl (by rw [hb]; exact of_decide_eq_true rfl) hu
          refine wpRelG_segL [0, 1, 2, 3, 4, 5, 6, 7] (fun l => (l.take 8).drop 0) rfl (by kernel_rfl) (by kernel_rfl) (by kernel_rfl) ?_
          simp only [List.take_succ_cons, List.take_zero, List.drop_succ_cons, List.drop_zero]
          repeat (
            first
            | go_big_quiet_skip
            | (go_big_quiet_want
               go_big_quiet_op
               first
               | go_big_quiet_on
               | (apply Exists.intro
                  refine ⟨fun v1 hv1 => ?_, ?_⟩
                  · (first
                    | (exact rfl)
                    | (obtain ⟨b0, b1, b2⟩ := (HVS.out.below hv1).at; simp only [b0, b1, b2, Result.andThen]; exact ⟨trivial, rfl⟩)
                    | (have q := HPX.out v1 hv1; simp only [q, Result.andThen]; exact ⟨trivial, rfl⟩)
                    | (exact ⟨trivial, rfl⟩))
                  go_big_quiet_on)))
          refine wpQuiet_nil ?_
          refine wpRelG_rel (k := 8) rfl rfl (by decide) rfl (fun w5 hw5 => ?_) (fun v hv => ?_)
          · go_simp
            exact rel_sc hw5.1 (add_var (HVS.out.below hw5.1) EA.out)
          obtain ⟨a5, c5, rfl⟩ := hv
          simp only [Act.put, tupSc, snd2_two, List.getElem_toArray, List.getElem_cons_succ, List.getElem_cons_zero, List.setIfInBounds_toArray, List.set_cons_succ, List.set_cons_zero]
          refine wpRelG_glued (p := 9) rfl rfl rfl (fun w5 hw5 => ?_) (fun v hv => ?_)
          · go_simp
            exact rel_mv hw5.1 (hw5.2 8 rfl)
          obtain ⟨a6, c6, rfl⟩ := hv
          simp only [Act.put, tupSc, snd2_two, List.getElem_toArray, List.getElem_cons_succ, List.getElem_cons_zero, List.setIfInBounds_toArray, List.set_cons_succ, List.set_cons_zero]
          refine wpRelG_segL [10] (fun l => (l.take 11).drop 10) rfl (by kernel_rfl) (by kernel_rfl) (by kernel_rfl) ?_
          simp only [List.take_succ_cons, List.take_zero, List.drop_succ_cons, List.drop_zero]
          repeat (
            first
            | go_big_quiet_skip
            | (go_big_quiet_want
               go_big_quiet_op
               first
               | go_big_quiet_on
               | (apply Exists.intro
                  refine ⟨fun v1 hv1 => ?_, ?_⟩
                  · (first
                    | (exact rfl)
                    | (exact ⟨trivial, rfl⟩))
                  go_big_quiet_on)))
          refine wpQuiet_nil ?_
          refine wpRelG_rel (k := 12) rfl rfl (by decide) rfl (fun w5 hw5 => ?_) (fun v hv => ?_)
          · go_simp
            exact rel_var hw5.1
          obtain ⟨g7, rfl⟩ := hv
          simp only [Act.put, tupSc, snd2_two, List.getElem_toArray, List.getElem_cons_succ, List.getElem_cons_zero, List.setIfInBounds_toArray, List.set_cons_succ, List.set_cons_zero]
          refine wpRelG_nil ?_
          intro w9 hw9 hF
          have ho := (show (relSc w22.heap.size t2 z).V (tupSc t2 z a6 c6) w9 from hF 9) a6 c6 rfl
          have hs := (show (relVar w22.heap.size).V (.pointer (some ⟨g7, 0, none⟩)) w9 from hF 12) g7 rfl
          obtain ⟨hv9, hb9⟩ := ScV.fill hw9 hs ho
          have HG9 := Lib.hid hs.1
          have HO9 := Lib.hid ho
          have HV9 := Lib.hid hv9
          have HB9 := Lib.hid hb9
          obtain ⟨z0, z1, z2⟩ := hs.2.at
          obtain ⟨y0, y1, y2⟩ := hs.2.froz
          simp only [zeroSc] at z0 z1 z2
          clear hF ho hs hv9 hb9
          go_upto_region 20 with fail
          have HDNS := Lib.hid (show g7 ≠ gS by have := HVS.out.slot.lt; have := HG9.out; omega)
          have HDSN := Lib.hid (show gS ≠ g7 by have := HVS.out.slot.lt; have := HG9.out; omega)
          have HDNO := Lib.hid (show g7 ≠ gO by have := HVO.out.slot.lt; have := HG9.out; omega)
          have HDON := Lib.hid (show gO ≠ g7 by have := HVO.out.slot.lt; have := HG9.out; omega)
          have HDNT := Lib.hid (show g7 ≠ gT by have := HVT.out.slot.lt; have := HG9.out; omega)
          have HDTN := Lib.hid (show gT ≠ g7 by have := HVT.out.slot.lt; have := HG9.out; omega)
          have HNA2 : Hid (∀ k, At a6 k → ¬ At aB k) := (fun k hk hk2 => absurd (HQ.out.lt hk2) (Nat.not_lt.2 (HO9.out.at_ge hk).1))
          change Code.wp _ _ _ _ (putSc w9 g7 a6 c6 t2)
          have hb := HB9.out
          clear hw9 z0 z1 z2 y0 y1 y2
          replace HVS := Lib.hid (HVS.out.below hb)
          replace HVO := Lib.hid (HVO.out.below hb)
          replace HVT := Lib.hid (HVT.out.below hb)
          replace HQ := Lib.hid (HQ.out.below hb)
          replace HPX := Lib.hid (all_below HPX.out hb)
          replace HN := Lib.hid ((hb.block bn (Array.getElem?_eq_some_iff.1 HN.out).1).trans HN.out)
          replace HB := Lib.hid (HB.out.trans (hb.mono HB.out.size))
          have HVN := HV9
          clear hb HV9 HB9 HO9
          generalize putSc w9 g7 a6 c6 t2 = w40 at *
          refine region_known (fun w' => Below w40.heap.size w40 w') 3 [0, 1, 2] [(2, relVal (.int .i64 z))] [] (by kernel_rfl) (by kernel_rfl) (by kernel_rfl) (ok_cons (relVal_ok _) ok_nil) (Below.refl _ _).drew (fun w1 w2 h1 h2 => h1.trans (h2.mono h1.size)) ?_
          refine wpRel_segL [0, 1] (fun l => (l.take 2).drop 0) rfl (by kernel_rfl) (by kernel_rfl) (by kernel_rfl) ?_
          simp only [List.take_succ_cons, List.take_zero, List.drop_succ_cons, List.drop_zero]
          repeat (
            first
            | go_big_quiet_skip
            | (go_big_quiet_want
               go_big_quiet_op
               first
               | go_big_quiet_on
               | (apply Exists.intro
                  refine ⟨fun v1 hv1 => ?_, ?_⟩
                  · (first
                    | (exact rfl)
                    | (obtain ⟨b0, b1, b2⟩ := (HVN.out.below hv1).at; simp only [b0, b1, b2, Result.andThen]; exact ⟨trivial, rfl⟩)
                    | (exact ⟨trivial, rfl⟩))
                  go_big_quiet_on)))
          refine wpQuiet_nil ?_
          refine wpRel_rel (k := 2) rfl rfl rfl (fun w5 hw5 => ?_) (fun v hv => ?_)
          · go_simp
            refine ⟨rfl, (num_any _ _).mono ?_⟩
            rintro e w6 ⟨rfl, rfl⟩
            exact ⟨_, rfl, hw5.1, Below.refl _ _, rfl, trivial⟩
          obtain rfl : v = .int .i64 z := hv
          simp only [Act.put, tupSc, snd2_two, List.getElem_toArray, List.getElem_cons_succ, List.getElem_cons_zero, List.setIfInBounds_toArray, List.set_cons_succ, List.set_cons_zero]
          refine wpRel_nil ?_
          intro w41 hb hF
          clear hF
          replace HVS := Lib.hid (HVS.out.below hb)
          replace HVO := Lib.hid (HVO.out.below hb)
          replace HVT := Lib.hid (HVT.out.below hb)
          replace HVN := Lib.hid (HVN.out.below hb)
          replace HQ := Lib.hid (HQ.out.below hb)
          replace HPX := Lib.hid (all_below HPX.out hb)
          replace HN := Lib.hid ((hb.block bn (Array.getElem?_eq_some_iff.1 HN.out).1).trans HN.out)
          replace HB := Lib.hid (HB.out.trans (hb.mono HB.out.size))
          clear hb
          obtain ⟨z0, z1, z2⟩ := HVT.out.at
          obtain ⟨y0, y1, y2⟩ := HVT.out.slot.froz
          go_upto_region 21 with fail
          change Code.wp _ _ _ _ (putSc w41 gT a6 c6 t2)
          have hf := putSc_frm (g := gT) (F := fun j => j = gT) rfl w41 a6 c6 t2
          have hv9 := Lib.hid (HVT.out.store HVN.out)
          replace HQ := Lib.hid (HQ.out.off HVT.out.slot hf)
          replace HN := Lib.hid ((hf.block bn (Array.getElem?_eq_some_iff.1 HN.out).1 (fun e => by subst e; have := HVT.out.slot.b; rw [HN.out] at this; simp only [Option.some.injEq, Obj.cells.injEq] at this; exact absurd this.2.1 (by decide))).trans HN.out)
          replace HVS := Lib.hid (HVS.out.off HVT.out.slot (by have := HDST.out; omega) hf)
          replace HVO := Lib.hid (HVO.out.off HVT.out.slot (by have := HDOT.out; omega) hf)
          replace HVN := Lib.hid (HVN.out.off HVT.out.slot (by have := HDNT.out; omega) hf)
          replace HB := Lib.hid (Frm.to_below HB.out hf (fun k e => by rw [e]; exact HGT.out) (Nat.le_refl _))
          replace HVT := hv9
          clear hv9 hf
          generalize putSc w41 gT a6 c6 t2 = w42 at *
          clear z0 z1 z2 y0 y1 y2
          clear HPX
          by_cases hz : z = 0
          · subst hz
            have hg := addA_good (s := s) (nm := X) (k := 1 + (d : Int)) (by rw [EA.out])
            rw [EA.out] at hg
            obtain ⟨_, hm2, ht2⟩ := hg
            simp only at hm2 ht2
            have HM2 := Lib.hid hm2
            have HI2 := Lib.hid (show t2.id = s.id + 1 by rw [ht2])
            have HX2 : Hid (((m + 1 : Nat) : Int) = t2.next) := by unfold Hid; rw [ht2]; simp only; rw [← HX.out]; omega
            have hlen : t2.cs.length = s.cs.length + 1 := by rw [ht2]; simp
            have hlast : ∀ h, (t2.cs[s.cs.length]'h).id = (m : Int) := fun h => by simp only [ht2]; rw [List.getElem_append_right (Nat.le_refl _)]; simp [HX.out]
            have hmx : m ≤ 2147483647 := by have h1 := (may_iff _).1 HM.out |>.1; have h2 := HX.out; omega
            have hk12 : s.cs.length ≤ 12 := ((may_iff _).1 HM.out).1.2.2.2.2
            rcases HVT.out.is with e0 | ⟨bT, oT, rfl, hcT⟩
            · rw [e0] at hlen; simp at hlen
            have hcell := (hcT s.cs.length (by omega)).c0
            rw [hlast] at hcell
            obtain ⟨pT0, pT1, pT2⟩ := HVT.out.at
            rw [hlen] at pT1
            have hw1 : IntKind.i64.wrap (((s.cs.length + 1 : Nat) : Int) - 1) = (s.cs.length : Int) := wrap_in2 hk12
            have HLN := Lib.hid hlen
            obtain ⟨aB2, cB2, w95, hr, hq2, hf, hk2⟩ := HQ.out.more HB.out.size (by omega)
            have HR := Lib.hid hr
            have HQ2 := Lib.hid hq2
            have HF := Lib.hid hf
            have HK2 := Lib.hid hk2
            clear hr hq2 hf hk2 hm2 ht2 hlast hcT
            generalize s.cs.length = k0 at *
            go_upto_region 28 with (at_builtin; refine wpList_append_eq _ rfl (.tmp 129) (.tmp 130) 46 46 rfl _ _ rfl rfl (HR.out _) ?_)
            have HLB := Lib.hid (World.block_lt_of_cell? w42 ⟨bT, oT + k0 * 3, none⟩ hcell)
            clear pT0 pT1 pT2 hcell hw1 hlen hmx hk12 HR HVN
            replace HVT := Lib.hid (HVT.out.off2 (Frm.off_b HQ.out HVT.out.slot) HNA2.out HF.out)
            replace HVS := Lib.hid (HVS.out.off2 (Frm.off_b HQ.out HVS.out.slot) HNA.out HF.out)
            replace HVO := Lib.hid (HVO.out.off2 (Frm.off_b HQ.out HVO.out.slot) HNA.out HF.out)
            replace HN := Lib.hid (HQ.out.off_s HN.out HF.out)
            replace HB := Lib.hid (Frm.to_below HB.out HF.out (fun k hk => HQ.out.at_ge hk) (Nat.le_refl _))
            replace HNA2 : Hid (∀ k, At (some ⟨bT, oT, none⟩) k → ¬ At aB2 k) := fun k h1 h2 => (HK2.out k h2).elim (HNA2.out k h1) (fun h3 => by simp [At] at h1; subst h1; have := HLB.out; simp only at this; omega)
            clear HQ HF HK2 HLB
            have HQ := HQ2
            clear HQ2
            have hbd := (may_iff _).1 HM2.out |>.1
            have hbs := (may_iff _).1 HM.out |>.1
            rw [HI2.out] at hbd
            have hwr : IntKind.i64.wrap (s.id + 1) = s.id + 1 := wrap_in (by omega) (by omega)
            clear hbd hbs
            obtain ⟨pT0, pT1, pT2⟩ := HVT.out.at
            go_upto_region 31 with (go_at_call 20; refine (may_var HVT.out HM2.out).mono ?_; rintro e w90 ⟨rfl, hb⟩; replace HVS := Lib.hid (HVS.out.below hb); replace HVO := Lib.hid (HVO.out.below hb); replace HVT := Lib.hid (HVT.out.below hb); replace HQ := Lib.hid (HQ.out.below hb); replace HN := Lib.hid ((hb.block bn (Array.getElem?_eq_some_iff.1 HN.out).1).trans HN.out); replace HB := Lib.hid (HB.out.trans (hb.mono HB.out.size)); clear hb pT0 pT1 pT2; obtain ⟨pT0, pT1, pT2⟩ := HVT.out.at; obtain ⟨pO0, pO1, pO2⟩ := HVO.out.at; rw [HI2.out] at pT0)
            clear pO0 pO1 pO2 hwr
            rw [← HI2.out] at pT0
            obtain ⟨z0, z1, z2⟩ := HVS.out.at
            obtain ⟨y0, y1, y2⟩ := HVS.out.slot.froz
            have hf := putSc_frm (g := gS) (F := fun j => j = gS) rfl w90 (some ⟨bT, oT, none⟩) c6 t2
            have hv9 := Lib.hid (HVS.out.store HVT.out)
            replace HQ := Lib.hid (HQ.out.off HVS.out.slot hf)
            replace HN := Lib.hid ((hf.block bn (Array.getElem?_eq_some_iff.1 HN.out).1 (fun e => by subst e; have := HVS.out.slot.b; rw [HN.out] at this; simp only [Option.some.injEq, Obj.cells.injEq] at this; exact absurd this.2.1 (by decide))).trans HN.out)
            replace HB := Lib.hid (Frm.to_below HB.out hf (fun k e => by rw [e]; exact HGS.out) (Nat.le_refl _))
            clear hf
            go_wp2
            go_roundw
            case rel => exact ⟨n + 1, t2, (some ⟨bT, oT, none⟩), c6, aB2, cB2, (m + 1), _, by omega, by go_num, rfl, HM2.out, HX2.out, HQ.out, hv9.out, HN.out, HB.out, HNA2.out⟩
            case measure => simp [intOf]; omega
          · have hz1 : (z == 0) = false := by simpa using hz
            have hz2 : (z != 0) = true := by simpa using hz
            clear hz
            go_wp2
            go_roundw
            case rel => exact ⟨n + 1, s, aS, cS, aB, cB, m, L, by omega, by go_num, rfl, HM.out, HX.out, HQ.out, HVS.out, HN.out, HB.out, HNA.out⟩
            case measure => simp [intOf]; omega
        · replace eq : bits .and .i64 (wrap64 (p.tdiv 32)) 3 = 2 := eq
          obtain ⟨t2, z, ea⟩ : ∃ t2 z, dropA s X = (t2, z) := ⟨_, _, rfl⟩
          have EA := Lib.hid ea
          clear ea
          have HQL := Lib.hid (fun k (hk : At aB k) => HQ.out.lt hk)
          go_upto_region 26 with fail
          clear hpx eq hq
          obtain ⟨pS0, pS1, pS2⟩ := HVS.out.at
          go_upto_region 27 with (go_at_call 14; refine (drop_var HVS.out EA.out).mono ?_; rintro e x23 ⟨aN, cN, rfl, ho, hb⟩; replace HVS := Lib.hid (HVS.out.below hb); replace HVO := Lib.hid (HVO.out.below hb); replace HVT := Lib.hid (HVT.out.below hb); replace HQ := Lib.hid (HQ.out.below hb); replace HPX := Lib.hid (all_below HPX.out hb); replace HN := Lib.hid ((hb.block bn (Array.getElem?_eq_some_iff.1 HN.out).1).trans HN.out); have HO := Lib.hid ho; have HAN := Lib.hid (fun k (hk : At aN k) => (ho.at_ge hk).1); have HBW := Lib.hid (HB.out.trans (hb.mono HB.out.size)); clear ho hb)
          clear pS0 pS1 pS2
          change Code.wp _ _ _ _ (x23.alloc (.cells #[.int .i64 t2.id, .slice aN t2.cs.length cN, .int .i64 t2.next] 24))
          have hb : Below x23.heap.size x23 (x23.alloc (.cells #[.int .i64 t2.id, .slice aN t2.cs.length cN, .int .i64 t2.next] 24)) := (Below.refl _ _).alloc (Nat.le_refl _) _
          have HVN := Lib.hid (ScV.of HO.out)
          have HLN := Lib.hid (fun k (hk : At aN k) => Nat.lt_of_lt_of_le (HO.out.at_ge hk).2 hb.size)
          have HDNS := Lib.hid (show x23.heap.size ≠ gS by have := HVS.out.slot.lt; omega)
          have HDSN := Lib.hid (show gS ≠ x23.heap.size by have := HVS.out.slot.lt; omega)
          have HDNO := Lib.hid (show x23.heap.size ≠ gO by have := HVO.out.slot.lt; omega)
          have HDON := Lib.hid (show gO ≠ x23.heap.size by have := HVO.out.slot.lt; omega)
          have HDNT := Lib.hid (show x23.heap.size ≠ gT by have := HVT.out.slot.lt; omega)
          have HDTN := Lib.hid (show gT ≠ x23.heap.size by have := HVT.out.slot.lt; omega)
          replace HVS := Lib.hid (HVS.out.below hb)
          replace HVO := Lib.hid (HVO.out.below hb)
          replace HVT := Lib.hid (HVT.out.below hb)
          replace HQ := Lib.hid (HQ.out.below hb)
          replace HPX := Lib.hid (all_below HPX.out hb)
          replace HN := Lib.hid ((hb.block bn (Array.getElem?_eq_some_iff.1 HN.out).1).trans HN.out)
          replace HB := Lib.hid (HBW.out.trans (hb.mono HBW.out.size))
          obtain ⟨gN, hgN⟩ : ∃ g, g = x23.heap.size := ⟨_, rfl⟩
          have HGN := Lib.hid (show W.heap.size ≤ gN by rw [hgN]; exact HBW.out.size)
          rw [← hgN] at HVN HDNS HDSN HDNO HDON HDNT HDTN
          try rw [← hgN]
          generalize x23.alloc (.cells #[.int .i64 t2.id, .slice aN t2.cs.length cN, .int .i64 t2.next] 24) = w23 at *
          clear hb HBW HO hgN
          have HNA2 : Hid (∀ k, At aN k → ¬ At aB k) := fun k hk hk2 => absurd (HQL.out k hk2) (Nat.not_lt.2 (HAN.out k hk))
          clear HQL HAN
          refine region_known (fun w' => Below w23.heap.size w23 w') 3 [0, 1, 2] [(2, relVal (.int .i64 z))] [] (by kernel_rfl) (by kernel_rfl) (by kernel_rfl) (ok_cons (relVal_ok _) ok_nil) (Below.refl _ _).drew (fun w1 w2 h1 h2 => h1.trans (h2.mono h1.size)) ?_
          refine wpRel_segL [0, 1] (fun l => (l.take 2).drop 0) rfl (by kernel_rfl) (by kernel_rfl) (by kernel_rfl) ?_
          simp only [List.take_succ_cons, List.take_zero, List.drop_succ_cons, List.drop_zero]
          repeat (
            first
            | go_big_quiet_skip
            | (go_big_quiet_want
               go_big_quiet_op
               first
               | go_big_quiet_on
               | (apply Exists.intro
                  refine ⟨fun v1 hv1 => ?_, ?_⟩
                  · (first
                    | (exact rfl)
                    | (obtain ⟨b0, b1, b2⟩ := (HVN.out.below hv1).at; simp only [b0, b1, b2, Result.andThen]; exact ⟨trivial, rfl⟩)
                    | (exact ⟨trivial, rfl⟩))
                  go_big_quiet_on)))
          refine wpQuiet_nil ?_
          refine wpRel_rel (k := 2) rfl rfl rfl (fun w5 hw5 => ?_) (fun v hv => ?_)
          · go_simp
            refine ⟨rfl, (num_any _ _).mono ?_⟩
            rintro e w6 ⟨rfl, rfl⟩
            exact ⟨_, rfl, hw5.1, Below.refl _ _, rfl, trivial⟩
          obtain rfl : v = .int .i64 z := hv
          simp only [Act.put, tupSc, snd2_two, List.getElem_toArray, List.getElem_cons_succ, List.getElem_cons_zero, List.setIfInBounds_toArray, List.set_cons_succ, List.set_cons_zero]
          refine wpRel_nil ?_
          intro w41 hb hF
          clear hF
          replace HVS := Lib.hid (HVS.out.below hb)
          replace HVO := Lib.hid (HVO.out.below hb)
          replace HVT := Lib.hid (HVT.out.below hb)
          replace HVN := Lib.hid (HVN.out.below hb)
          replace HQ := Lib.hid (HQ.out.below hb)
          replace HPX := Lib.hid (all_below HPX.out hb)
          replace HN := Lib.hid ((hb.block bn (Array.getElem?_eq_some_iff.1 HN.out).1).trans HN.out)
          replace HB := Lib.hid (HB.out.trans (hb.mono HB.out.size))
          clear hb
          obtain ⟨z0, z1, z2⟩ := HVT.out.at
          obtain ⟨y0, y1, y2⟩ := HVT.out.slot.froz
          go_upto_region 28 with fail
          change Code.wp _ _ _ _ (putSc w41 gT aN cN t2)
          have hf := putSc_frm (g := gT) (F := fun j => j = gT) rfl w41 aN cN t2
          have hv9 := Lib.hid (HVT.out.store HVN.out)
          replace HQ := Lib.hid (HQ.out.off HVT.out.slot hf)
          replace HN := Lib.hid ((hf.block bn (Array.getElem?_eq_some_iff.1 HN.out).1 (fun e => by subst e; have := HVT.out.slot.b; rw [HN.out] at this; simp only [Option.some.injEq, Obj.cells.injEq] at this; exact absurd this.2.1 (by decide))).trans HN.out)
          replace HVS := Lib.hid (HVS.out.off HVT.out.slot (by have := HDST.out; omega) hf)
          replace HVO := Lib.hid (HVO.out.off HVT.out.slot (by have := HDOT.out; omega) hf)
          replace HVN := Lib.hid (HVN.out.off HVT.out.slot (by have := HDNT.out; omega) hf)
          replace HB := Lib.hid (Frm.to_below HB.out hf (fun k e => by rw [e]; exact HGT.out) (Nat.le_refl _))
          replace HVT := hv9
          clear hv9 hf
          generalize putSc w41 gT aN cN t2 = w42 at *
          clear z0 z1 z2 y0 y1 y2
          clear HPX
          by_cases hz : z = 0
          · subst hz
            have hg := dropA_good (s := s) (nm := X) (by rw [EA.out])
            rw [EA.out] at hg
            obtain ⟨_, hm2, hi2, hx2⟩ := hg
            simp only at hm2 hi2 hx2
            have HM2 := Lib.hid hm2
            have HI2 := Lib.hid hi2
            have HX2 : Hid ((m : Int) = t2.next) := HX.out.trans hx2.symm
            clear hm2 hi2 hx2
            have hbd := (may_iff _).1 HM2.out |>.1
            have hbs := (may_iff _).1 HM.out |>.1
            rw [HI2.out] at hbd
            have hwr : IntKind.i64.wrap (s.id + 1) = s.id + 1 := wrap_in (by omega) (by omega)
            clear hbd hbs
            obtain ⟨pT0, pT1, pT2⟩ := HVT.out.at
            go_upto_region 31 with (go_at_call 20; refine (may_var HVT.out HM2.out).mono ?_; rintro e w90 ⟨rfl, hb⟩; replace HVS := Lib.hid (HVS.out.below hb); replace HVO := Lib.hid (HVO.out.below hb); replace HVT := Lib.hid (HVT.out.below hb); replace HVN := Lib.hid (HVN.out.below hb); replace HQ := Lib.hid (HQ.out.below hb); replace HN := Lib.hid ((hb.block bn (Array.getElem?_eq_some_iff.1 HN.out).1).trans HN.out); replace HB := Lib.hid (HB.out.trans (hb.mono HB.out.size)); clear hb pT0 pT1 pT2; obtain ⟨pT0, pT1, pT2⟩ := HVT.out.at; obtain ⟨pO0, pO1, pO2⟩ := HVO.out.at; rw [HI2.out] at pT0)
            clear pO0 pO1 pO2 hwr
            rw [← HI2.out] at pT0
            obtain ⟨z0, z1, z2⟩ := HVS.out.at
            obtain ⟨y0, y1, y2⟩ := HVS.out.slot.froz
            have hf := putSc_frm (g := gS) (F := fun j => j = gS) rfl w90 aN cN t2
            have hv9 := Lib.hid (HVS.out.store HVT.out)
            replace HQ := Lib.hid (HQ.out.off HVS.out.slot hf)
            replace HN := Lib.hid ((hf.block bn (Array.getElem?_eq_some_iff.1 HN.out).1 (fun e => by subst e; have := HVS.out.slot.b; rw [HN.out] at this; simp only [Option.some.injEq, Obj.cells.injEq] at this; exact absurd this.2.1 (by decide))).trans HN.out)
            replace HB := Lib.hid (Frm.to_below HB.out hf (fun k e => by rw [e]; exact HGS.out) (Nat.le_refl _))
            clear hf
            go_wp2
            go_roundw
            case rel => exact ⟨n + 1, t2, aN, cN, aB, cB, m, L, by omega, by go_num, rfl, HM2.out, HX2.out, HQ.out, hv9.out, HN.out, HB.out, HNA2.out⟩
            case measure => simp [intOf]; omega
          · have hz1 : (z == 0) = false := by simpa using hz
            have hz2 : (z != 0) = true := by simpa using hz
            clear hz
            go_wp2
            go_roundw
            case rel => exact ⟨n + 1, s, aS, cS, aB, cB, m, L, by omega, by go_num, rfl, HM.out, HX.out, HQ.out, HVS.out, HN.out, HB.out, HNA.out⟩
            case measure => simp [intOf]; omega
        · replace eq : bits .and .i64 (wrap64 (p.tdiv 32)) 3 = 3 := eq
          obtain ⟨t2, z, ea⟩ : ∃ t2 z, renA s X Y = (t2, z) := ⟨_, _, rfl⟩
          have EA := Lib.hid ea
          clear ea
          have HQL := Lib.hid (fun k (hk : At aB k) => HQ.out.lt hk)
          go_upto_region 13 with fail
          clear hpx eq hq
          obtain ⟨pS0, pS1, pS2⟩ := HVS.out.at
          go_upto_region 14 with (go_at_call 16; refine (ren_var HVS.out EA.out).mono ?_; rintro e x23 ⟨aN, cN, rfl, ho, hb⟩; replace HVS := Lib.hid (HVS.out.below hb); replace HVO := Lib.hid (HVO.out.below hb); replace HVT := Lib.hid (HVT.out.below hb); replace HQ := Lib.hid (HQ.out.below hb); replace HPX := Lib.hid (all_below HPX.out hb); replace HN := Lib.hid ((hb.block bn (Array.getElem?_eq_some_iff.1 HN.out).1).trans HN.out); have HO := Lib.hid ho; have HAN := Lib.hid (fun k (hk : At aN k) => (ho.at_ge hk).1); have HBW := Lib.hid (HB.out.trans (hb.mono HB.out.size)); clear ho hb)
          clear pS0 pS1 pS2
          change Code.wp _ _ _ _ (x23.alloc (.cells #[.int .i64 t2.id, .slice aN t2.cs.length cN, .int .i64 t2.next] 24))
          have hb : Below x23.heap.size x23 (x23.alloc (.cells #[.int .i64 t2.id, .slice aN t2.cs.length cN, .int .i64 t2.next] 24)) := (Below.refl _ _).alloc (Nat.le_refl _) _
          have HVN := Lib.hid (ScV.of HO.out)
          have HLN := Lib.hid (fun k (hk : At aN k) => Nat.lt_of_lt_of_le (HO.out.at_ge hk).2 hb.size)
          have HDNS := Lib.hid (show x23.heap.size ≠ gS by have := HVS.out.slot.lt; omega)
          have HDSN := Lib.hid (show gS ≠ x23.heap.size by have := HVS.out.slot.lt; omega)
          have HDNO := Lib.hid (show x23.heap.size ≠ gO by have := HVO.out.slot.lt; omega)
          have HDON := Lib.hid (show gO ≠ x23.heap.size by have := HVO.out.slot.lt; omega)
          have HDNT := Lib.hid (show x23.heap.size ≠ gT by have := HVT.out.slot.lt; omega)
          have HDTN := Lib.hid (show gT ≠ x23.heap.size by have := HVT.out.slot.lt; omega)
          replace HVS := Lib.hid (HVS.out.below hb)
          replace HVO := Lib.hid (HVO.out.below hb)
          replace HVT := Lib.hid (HVT.out.below hb)
          replace HQ := Lib.hid (HQ.out.below hb)
          replace HPX := Lib.hid (all_below HPX.out hb)
          replace HN := Lib.hid ((hb.block bn (Array.getElem?_eq_some_iff.1 HN.out).1).trans HN.out)
          replace HB := Lib.hid (HBW.out.trans (hb.mono HBW.out.size))
          obtain ⟨gN, hgN⟩ : ∃ g, g = x23.heap.size := ⟨_, rfl⟩
          have HGN := Lib.hid (show W.heap.size ≤ gN by rw [hgN]; exact HBW.out.size)
          rw [← hgN] at HVN HDNS HDSN HDNO HDON HDNT HDTN
          try rw [← hgN]
          generalize x23.alloc (.cells #[.int .i64 t2.id, .slice aN t2.cs.length cN, .int .i64 t2.next] 24) = w23 at *
          clear hb HBW HO hgN
          have HNA2 : Hid (∀ k, At aN k → ¬ At aB k) := fun k hk hk2 => absurd (HQL.out k hk2) (Nat.not_lt.2 (HAN.out k hk))
          clear HQL HAN
          refine region_known (fun w' => Below w23.heap.size w23 w') 3 [0, 1, 2] [(2, relVal (.int .i64 z))] [] (by kernel_rfl) (by kernel_rfl) (by kernel_rfl) (ok_cons (relVal_ok _) ok_nil) (Below.refl _ _).drew (fun w1 w2 h1 h2 => h1.trans (h2.mono h1.size)) ?_
          refine wpRel_segL [0, 1] (fun l => (l.take 2).drop 0) rfl (by kernel_rfl) (by kernel_rfl) (by kernel_rfl) ?_
          simp only [List.take_succ_cons, List.take_zero, List.drop_succ_cons, List.drop_zero]
          repeat (
            first
            | go_big_quiet_skip
            | (go_big_quiet_want
               go_big_quiet_op
               first
               | go_big_quiet_on
               | (apply Exists.intro
                  refine ⟨fun v1 hv1 => ?_, ?_⟩
                  · (first
                    | (exact rfl)
                    | (obtain ⟨b0, b1, b2⟩ := (HVN.out.below hv1).at; simp only [b0, b1, b2, Result.andThen]; exact ⟨trivial, rfl⟩)
                    | (exact ⟨trivial, rfl⟩))
                  go_big_quiet_on)))
          refine wpQuiet_nil ?_
          refine wpRel_rel (k := 2) rfl rfl rfl (fun w5 hw5 => ?_) (fun v hv => ?_)
          · go_simp
            refine ⟨rfl, (num_any _ _).mono ?_⟩
            rintro e w6 ⟨rfl, rfl⟩
            exact ⟨_, rfl, hw5.1, Below.refl _ _, rfl, trivial⟩
          obtain rfl : v = .int .i64 z := hv
          simp only [Act.put, tupSc, snd2_two, List.getElem_toArray, List.getElem_cons_succ, List.getElem_cons_zero, List.setIfInBounds_toArray, List.set_cons_succ, List.set_cons_zero]
          refine wpRel_nil ?_
          intro w41 hb hF
          clear hF
          replace HVS := Lib.hid (HVS.out.below hb)
          replace HVO := Lib.hid (HVO.out.below hb)
          replace HVT := Lib.hid (HVT.out.below hb)
          replace HVN := Lib.hid (HVN.out.below hb)
          replace HQ := Lib.hid (HQ.out.below hb)
          replace HPX := Lib.hid (all_below HPX.out hb)
          replace HN := Lib.hid ((hb.block bn (Array.getElem?_eq_some_iff.1 HN.out).1).trans HN.out)
          replace HB := Lib.hid (HB.out.trans (hb.mono HB.out.size))
          clear hb
          obtain ⟨z0, z1, z2⟩ := HVT.out.at
          obtain ⟨y0, y1, y2⟩ := HVT.out.slot.froz
          go_upto_region 15 with fail
          change Code.wp _ _ _ _ (putSc w41 gT aN cN t2)
          have hf := putSc_frm (g := gT) (F := fun j => j = gT) rfl w41 aN cN t2
          have hv9 := Lib.hid (HVT.out.store HVN.out)
          replace HQ := Lib.hid (HQ.out.off HVT.out.slot hf)
          replace HN := Lib.hid ((hf.block bn (Array.getElem?_eq_some_iff.1 HN.out).1 (fun e => by subst e; have := HVT.out.slot.b; rw [HN.out] at this; simp only [Option.some.injEq, Obj.cells.injEq] at this; exact absurd this.2.1 (by decide))).trans HN.out)
          replace HVS := Lib.hid (HVS.out.off HVT.out.slot (by have := HDST.out; omega) hf)
          replace HVO := Lib.hid (HVO.out.off HVT.out.slot (by have := HDOT.out; omega) hf)
          replace HVN := Lib.hid (HVN.out.off HVT.out.slot (by have := HDNT.out; omega) hf)
          replace HB := Lib.hid (Frm.to_below HB.out hf (fun k e => by rw [e]; exact HGT.out) (Nat.le_refl _))
          replace HVT := hv9
          clear hv9 hf
          generalize putSc w41 gT aN cN t2 = w42 at *
          clear z0 z1 z2 y0 y1 y2
          clear HPX
          by_cases hz : z = 0
          · subst hz
            have hg := @renA_good s X Y (by rw [EA.out])
            rw [EA.out] at hg
            obtain ⟨_, hm2, hi2, hx2, hfl, hfa, hcs, hf2⟩ := hg
            simp only at hm2 hi2 hx2 hcs hf2
            have HM2 := Lib.hid hm2
            have HI2 := Lib.hid hi2
            have HX2 : Hid ((m : Int) = t2.next) := HX.out.trans hx2.symm
            have FA := Lib.hid hfa
            have FB := Lib.hid hf2
            have hlt : t2.cs.length = s.cs.length := by rw [hcs, List.length_set]
            have hfl2 : findN s.cs X < t2.cs.length := by rw [hlt]; exact hfl
            have hid : t2.cs[findN s.cs X].id = s.cs[findN s.cs X].id := by simp only [hcs]; rw [List.getElem_set_self, getD_in hfl]; rfl
            rcases HVT.out.is with e0 | ⟨bT, oT, hbT, hcT⟩
            · rw [e0] at hfl2; simp at hfl2
            rcases HVO.out.is with e0 | ⟨bO, oO, hbO, hcO⟩
            · rw [e0] at hfl; simp at hfl
            have h1 := (hcT _ hfl2).c0
            have h2 := (hcO _ hfl).c0
            rw [hid] at h1
            obtain ⟨I, hI⟩ : ∃ I, I = s.cs[findN s.cs X].id := ⟨_, rfl⟩
            rw [← hI] at h1 h2
            clear hI
            have HC1 := Lib.hid (fun (v : World) (hv : Below w42.heap.size w42 v) => (World.cell?_of_block (hv.block bT (World.block_lt_of_cell? w42 ⟨bT, _, none⟩ h1))).trans h1)
            have HC2 := Lib.hid (fun (v : World) (hv : Below w42.heap.size w42 v) => (World.cell?_of_block (hv.block bO (World.block_lt_of_cell? w42 ⟨bO, _, none⟩ h2))).trans h2)
            have b1 : (findN s.cs X : Int) < (t2.cs.length : Int) := by omega
            have b2 : (findN s.cs X : Int) < (s.cs.length : Int) := by omega
            have HBT := Lib.hid hbT
            have HBO := Lib.hid hbO
            clear hm2 hi2 hx2 hfl hfa hcs hf2 hlt hfl2 hid hcT hcO h1 h2 hbT hbO
            generalize hfn : findN s.cs X = fi at *
            clear hfn
            refine region_class (fun w' => Below w42.heap.size w42 w') (by kernel_rfl) (by kernel_rfl) (Below.refl _ _).drew ?_
            repeat (
              first
              | go_big_quiet_skip
              | (go_big_quiet_want
                 go_big_quiet_op
                 first
                 | go_big_quiet_on
                 | (apply Exists.intro
                    refine ⟨fun v1 hv1 => ?_, ?_⟩
                    · (first
                      | (exact rfl)
                      | (obtain ⟨b0, b1, b2⟩ := (HVT.out.below hv1).at; rw [HBT.out] at b1; simp only [b0, b1, b2, Result.andThen]; exact ⟨trivial, rfl⟩)
                      | (obtain ⟨b0, b1, b2⟩ := (HVO.out.below hv1).at; rw [HBO.out] at b1; simp only [b0, b1, b2, Result.andThen]; exact ⟨trivial, rfl⟩)
                      | (have q := HC1.out v1 hv1; simp only [q, Result.andThen]; exact ⟨trivial, rfl⟩)
                      | (have q := HC2.out v1 hv1; simp only [q, Result.andThen]; exact ⟨trivial, rfl⟩)
                      | (go_at_call 26; have h9 := find_var (HVT.out.below hv1) FB.out; rw [HBT.out] at h9; exact h9.mono fun e w2 ⟨he, hb⟩ => ⟨he, hv1.trans (hb.mono hv1.size)⟩)
                      | (go_at_call 26; have h9 := find_var (HVO.out.below hv1) FA.out; rw [HBO.out] at h9; exact h9.mono fun e w2 ⟨he, hb⟩ => ⟨he, hv1.trans (hb.mono hv1.size)⟩)
                      | (exact ⟨trivial, rfl⟩))
                    go_big_quiet_on)))
            refine wpQuiet_nil ?_
            intro w43 hb
            clear HC1 HC2 b1 b2 FA FB
            replace HVS := Lib.hid (HVS.out.below hb)
            replace HVO := Lib.hid (HVO.out.below hb)
            replace HVT := Lib.hid (HVT.out.below hb)
            replace HVN := Lib.hid (HVN.out.below hb)
            replace HQ := Lib.hid (HQ.out.below hb)
            replace HN := Lib.hid ((hb.block bn (Array.getElem?_eq_some_iff.1 HN.out).1).trans HN.out)
            replace HB := Lib.hid (HB.out.trans (hb.mono HB.out.size))
            clear hb
            have hbd := (may_iff _).1 HM2.out |>.1
            have hbs := (may_iff _).1 HM.out |>.1
            rw [HI2.out] at hbd
            have hwr : IntKind.i64.wrap (s.id + 1) = s.id + 1 := wrap_in (by omega) (by omega)
            clear hbd hbs
            obtain ⟨pT0, pT1, pT2⟩ := HVT.out.at
            go_upto_region 31 with (go_at_call 20; refine (may_var HVT.out HM2.out).mono ?_; rintro e w90 ⟨rfl, hb⟩; replace HVS := Lib.hid (HVS.out.below hb); replace HVO := Lib.hid (HVO.out.below hb); replace HVT := Lib.hid (HVT.out.below hb); replace HVN := Lib.hid (HVN.out.below hb); replace HQ := Lib.hid (HQ.out.below hb); replace HN := Lib.hid ((hb.block bn (Array.getElem?_eq_some_iff.1 HN.out).1).trans HN.out); replace HB := Lib.hid (HB.out.trans (hb.mono HB.out.size)); clear hb pT0 pT1 pT2; obtain ⟨pT0, pT1, pT2⟩ := HVT.out.at; obtain ⟨pO0, pO1, pO2⟩ := HVO.out.at; rw [HI2.out] at pT0)
            clear pO0 pO1 pO2 hwr
            rw [← HI2.out] at pT0
            obtain ⟨z0, z1, z2⟩ := HVS.out.at
            obtain ⟨y0, y1, y2⟩ := HVS.out.slot.froz
            have hf := putSc_frm (g := gS) (F := fun j => j = gS) rfl w90 aN cN t2
            have hv9 := Lib.hid (HVS.out.store HVT.out)
            replace HQ := Lib.hid (HQ.out.off HVS.out.slot hf)
            replace HN := Lib.hid ((hf.block bn (Array.getElem?_eq_some_iff.1 HN.out).1 (fun e => by subst e; have := HVS.out.slot.b; rw [HN.out] at this; simp only [Option.some.injEq, Obj.cells.injEq] at this; exact absurd this.2.1 (by decide))).trans HN.out)
            replace HB := Lib.hid (Frm.to_below HB.out hf (fun k e => by rw [e]; exact HGS.out) (Nat.le_refl _))
            clear hf
            go_wp2
            go_roundw
            case rel => exact ⟨n + 1, t2, aN, cN, aB, cB, m, L, by omega, by go_num, rfl, HM2.out, HX2.out, HQ.out, hv9.out, HN.out, HB.out, HNA2.out⟩
            case measure => simp [intOf]; omega
          · have hz1 : (z == 0) = false := by simpa using hz
            have hz2 : (z != 0) = true := by simpa using hz
            clear hz
            refine region_class (fun w' => Below w42.heap.size w42 w') (by kernel_rfl) (by kernel_rfl) (Below.refl _ _).drew ?_
            repeat (
              first
              | go_big_quiet_skip
              | (go_big_quiet_want
                 go_big_quiet_op
                 first
                 | go_big_quiet_on
                 | (apply Exists.intro
                    refine ⟨fun v1 hv1 => ?_, ?_⟩
                    · (first
                      | (exact rfl)
                      | (exact ⟨trivial, rfl⟩))
                    go_big_quiet_on)))
            refine wpQuiet_nil ?_
            intro w43 hb
            replace HVS := Lib.hid (HVS.out.below hb)
            replace HVO := Lib.hid (HVO.out.below hb)
            replace HVT := Lib.hid (HVT.out.below hb)
            replace HVN := Lib.hid (HVN.out.below hb)
            replace HQ := Lib.hid (HQ.out.below hb)
            replace HN := Lib.hid ((hb.block bn (Array.getElem?_eq_some_iff.1 HN.out).1).trans HN.out)
            replace HB := Lib.hid (HB.out.trans (hb.mono HB.out.size))
            clear hb
            go_wp2
            go_roundw
            case rel => exact ⟨n + 1, s, aS, cS, aB, cB, m, L, by omega, by go_num, rfl, HM.out, HX.out, HQ.out, HVS.out, HN.out, HB.out, HNA.out⟩
            case measure => simp [intOf]; omega
      · go_wp2_with (go_at_call 19; refine (num_any _ _).mono ?_; rintro e wn ⟨rfl, rfl⟩)
        go_ret
        exact ⟨rfl, HB.out⟩
    · go_wp2_with (go_at_call 19; refine (num_any _ _).mono ?_; rintro e wn ⟨rfl, rfl⟩)
      go_ret
      exact ⟨rfl, HB.out⟩
end Go.Proofs.Ythfakpekdjmpjaa
