/- Which names a column may have: the walk. -/
import Derived.Test.YthfakpekdjmpjaaSchY
import Derived.Test.YthfakpekdjmpjaaSchVar
import Derived.Test.YthfakpekdjmpjaaQRow
import Derived.Test.YthfakpekdjmpjaaBits
import Derived.BigQuiet
namespace Go.Proofs.Ythfakpekdjmpjaa
open Go.Conc Go.RowKit
set_option linter.unusedVariables false
set_option linter.unusedSimpArgs false

set_option maxRecDepth 100000 in
set_option maxHeartbeats 8000000 in
theorem schemanames_walk (c many : Int) (W : World) : Calls Try.prog 5 #[.int .i64 c, .int .i64 many] W fun e w' => e = .returned (.bool true) ∧ Below W.heap.size W w' := by
  have TA := Lib.hid (schawake_any W)
  obtain ⟨k, hk, ek⟩ : ∃ k : Nat, k < 32 ∧ bits .and .i64 many 31 = (k : Int) := ⟨_, by have := Int.emod_lt_of_pos many (show (0 : Int) < (2 ^ 5 : Nat) by decide); have := Int.emod_nonneg many (show ((2 ^ 5 : Nat) : Int) ≠ 0 by decide); show (many % (2 ^ 5 : Nat)).toNat < 32; omega, lowBits 5 (by omega) many⟩
  obtain ⟨x, hx⟩ := mask_q c
  have hmk := make_q k (by omega)
  have HMK := Lib.hid hmk
  clear hmk
  obtain ⟨F, hF⟩ : ∃ F, F = nameB (textB (qList x k)) := ⟨_, rfl⟩
  have HF := Lib.hid hF
  have HFD := Lib.hid (hF.trans (name_q x k))
  clear hF
  go_enter Try.func5, Try.ntmps5
  go_upto_region 4 with (go_at_call 28; refine TA.out.mono ?_; rintro e w1 ⟨rfl, hb⟩; have HB := Lib.hid hb; clear hb)
  have hmk := HMK.out w1
  go_upto_region 5 with fail
  clear hmk ek HMK
  obtain ⟨b, hb0⟩ : ∃ b, b = w1.heap.size := ⟨_, rfl⟩
  have HK0 : Hid ((w1.alloc (.cells (byteCells (bsN k 0)).toArray 5)).heap[b]? = some (.cells (byteCells (bsN k 0)).toArray 5 (0, 0))) := by rw [hb0]; exact heap_alloc_new w1 _
  have hbW : W.heap.size ≤ b := by rw [hb0]; exact HB.out.size
  have HBb := Lib.hid hbW
  have HB0 := Lib.hid (HB.out.alloc HB.out.size (.cells (byteCells (bsN k 0)).toArray 5))
  change Code.wp _ _ _ _ (w1.alloc (.cells (byteCells (bsN k 0)).toArray 5))
  rw [← hb0]
  generalize w1.alloc (.cells (byteCells (bsN k 0)).toArray 5) = w2 at *
  clear hb0 hbW HB TA
  go_wp2
  go_loopw [7] (fun iv wr => ∃ n : Nat, n ≤ k ∧ iv = .int .i64 n ∧ Hid (wr.heap[b]? = some (.cells (byteCells (bsN k n)).toArray 5 (0, 0))) ∧ Hid (Below W.heap.size W wr)) (fun iv _ => k - (intOf iv).toNat)
  case atStart => exact ⟨0, Nat.zero_le _, rfl, HK0, HB0⟩
  case round =>
    obtain ⟨n, hle, rfl, HK, HB⟩ := hrel
    by_cases cn : n < k
    · have hln := bsN_length (k := k) (n := n) hle
      obtain ⟨y, hc⟩ : ∃ y, wr.cell? ⟨b, n, none⟩ = some (.int .u8 y) := ⟨_, (cell_of_row wr b n _ _ _ HK.out).trans (bytes_get (bsN k n) n (by rw [hln]; exact cn))⟩
      have hz := frozen_of_row wr b n _ _ HK.out
      clear hln
      go_wp2
      go_roundw
      case rel =>
        refine ⟨n + 1, by omega, by go_num, ?_, HB.out.setCell HBb.out _⟩
        rw [← bsN_step cn, ← bytes_set]
        exact heap_setCell_same _ _ _ _ _ _ HK.out
      case measure => simp [intOf]; omega
    · obtain rfl : n = k := by omega
      clear cn hle
      by_cases c0 : 0 < n
      · have HL := Lib.hid (bsN_length (k := n) (n := n) (Nat.le_refl n))
        obtain ⟨y, hc⟩ : ∃ y, wr.cell? ⟨b, 0, none⟩ = some (.int .u8 y) := ⟨_, (cell_of_row wr b 0 _ _ _ HK.out).trans (bytes_get (bsN n n) 0 (by rw [HL.out]; exact c0))⟩
        have hz := frozen_of_row wr b 0 _ _ HK.out
        have hx2 := hx
        have HK2 : Hid ((wr.setCell ⟨b, 0, none⟩ (.int .u8 (x.toNat : Int))).heap[b]? = some (.cells (byteCells (qList x n)).toArray 5 (0, 0))) := by
          rw [← bsN_first x c0, ← bytes_set]
          exact heap_setCell_same _ _ _ _ _ _ HK.out
        have HB2 := Lib.hid (HB.out.setCell HBb.out (p := ⟨b, 0, none⟩) (.int .u8 (x.toNat : Int)))
        go_upto_region 12 with fail
        change Code.wp _ _ _ _ (wr.setCell ⟨b, 0, none⟩ (.int .u8 (x.toNat : Int)))
        generalize wr.setCell ⟨b, 0, none⟩ (.int .u8 (x.toNat : Int)) = wq at *
        clear hc hz HB HK HL
        have HK := HK2
        have HB := HB2
        have HLt := Lib.hid (Array.getElem?_eq_some_iff.1 HK.out).1
        clear HK2 HB2 HK0 HB0
        go_cut [9] from 40 (fun s wx => s = .bool F ∧ wx = wq)
        case first =>
          by_cases h0 : 1 ≤ n
          · have d0 : decide ((1 : Int) ≤ (n : Int)) = true := decide_eq_true (by omega)
            by_cases h1 : n ≤ 16
            · have d1 : decide ((n : Int) ≤ 16) = true := decide_eq_true (by omega)
              by_cases h2 : 97 ≤ x.toNat
              · have d2 : decide ((97 : Int) ≤ (x.toNat : Int)) = true := decide_eq_true (by omega)
                by_cases h3 : x.toNat ≤ 122
                · have d3 : decide ((x.toNat : Int) ≤ 122) = true := decide_eq_true (by omega)
                  obtain rfl : F = true := by rw [HFD.out]; unfold signB; simp [h0, h1, h2, h3]
                  clear h0 h1 h2 h3
                  go_wp2
                  go_meet
                  case rel => exact ⟨rfl, rfl⟩
                · have d3 : decide ((x.toNat : Int) ≤ 122) = false := decide_eq_false (by omega)
                  by_cases h4 : 48 ≤ x.toNat
                  · have d4 : decide ((48 : Int) ≤ (x.toNat : Int)) = true := decide_eq_true (by omega)
                    by_cases h5 : x.toNat ≤ 57
                    · have d5 : decide ((x.toNat : Int) ≤ 57) = true := decide_eq_true (by omega)
                      obtain rfl : F = true := by rw [HFD.out]; unfold signB; simp [h0, h1, h2, h3, h4, h5]
                      clear h0 h1 h2 h3 h4 h5
                      go_wp2
                      go_meet
                      case rel => exact ⟨rfl, rfl⟩
                    · have d5 : decide ((x.toNat : Int) ≤ 57) = false := decide_eq_false (by omega)
                      by_cases h6 : x.toNat = 95
                      · have d6 : ((x.toNat : Int) == 95) = true := by simpa using (by omega : (x.toNat : Int) = 95)
                        obtain rfl : F = true := by rw [HFD.out]; unfold signB; simp [h0, h1, h2, h3, h4, h5, h6]
                        clear h0 h1 h2 h3 h4 h5 h6
                        go_wp2
                        go_meet
                        case rel => exact ⟨rfl, rfl⟩
                      · have d6 : ((x.toNat : Int) == 95) = false := by simpa using (by omega : ¬ (x.toNat : Int) = 95)
                        obtain rfl : F = false := by rw [HFD.out]; unfold signB; simp [h0, h1, h2, h3, h4, h5, h6]
                        clear h0 h1 h2 h3 h4 h5 h6
                        go_wp2
                        go_meet
                        case rel => exact ⟨rfl, rfl⟩
                  · have d4 : decide ((48 : Int) ≤ (x.toNat : Int)) = false := decide_eq_false (by omega)
                    by_cases h6 : x.toNat = 95
                    · have d6 : ((x.toNat : Int) == 95) = true := by simpa using (by omega : (x.toNat : Int) = 95)
                      obtain rfl : F = true := by rw [HFD.out]; unfold signB; simp [h0, h1, h2, h3, h4, h6]
                      clear h0 h1 h2 h3 h4 h6
                      go_wp2
                      go_meet
                      case rel => exact ⟨rfl, rfl⟩
                    · have d6 : ((x.toNat : Int) == 95) = false := by simpa using (by omega : ¬ (x.toNat : Int) = 95)
                      obtain rfl : F = false := by rw [HFD.out]; unfold signB; simp [h0, h1, h2, h3, h4, h6]
                      clear h0 h1 h2 h3 h4 h6
                      go_wp2
                      go_meet
                      case rel => exact ⟨rfl, rfl⟩
              · have d2 : decide ((97 : Int) ≤ (x.toNat : Int)) = false := decide_eq_false (by omega)
                by_cases h4 : 48 ≤ x.toNat
                · have d4 : decide ((48 : Int) ≤ (x.toNat : Int)) = true := decide_eq_true (by omega)
                  by_cases h5 : x.toNat ≤ 57
                  · have d5 : decide ((x.toNat : Int) ≤ 57) = true := decide_eq_true (by omega)
                    obtain rfl : F = true := by rw [HFD.out]; unfold signB; simp [h0, h1, h2, h4, h5]
                    clear h0 h1 h2 h4 h5
                    go_wp2
                    go_meet
                    case rel => exact ⟨rfl, rfl⟩
                  · have d5 : decide ((x.toNat : Int) ≤ 57) = false := decide_eq_false (by omega)
                    by_cases h6 : x.toNat = 95
                    · have d6 : ((x.toNat : Int) == 95) = true := by simpa using (by omega : (x.toNat : Int) = 95)
                      obtain rfl : F = true := by rw [HFD.out]; unfold signB; simp [h0, h1, h2, h4, h5, h6]
                      clear h0 h1 h2 h4 h5 h6
                      go_wp2
                      go_meet
                      case rel => exact ⟨rfl, rfl⟩
                    · have d6 : ((x.toNat : Int) == 95) = false := by simpa using (by omega : ¬ (x.toNat : Int) = 95)
                      obtain rfl : F = false := by rw [HFD.out]; unfold signB; simp [h0, h1, h2, h4, h5, h6]
                      clear h0 h1 h2 h4 h5 h6
                      go_wp2
                      go_meet
                      case rel => exact ⟨rfl, rfl⟩
                · have d4 : decide ((48 : Int) ≤ (x.toNat : Int)) = false := decide_eq_false (by omega)
                  by_cases h6 : x.toNat = 95
                  · have d6 : ((x.toNat : Int) == 95) = true := by simpa using (by omega : (x.toNat : Int) = 95)
                    obtain rfl : F = true := by rw [HFD.out]; unfold signB; simp [h0, h1, h2, h4, h6]
                    clear h0 h1 h2 h4 h6
                    go_wp2
                    go_meet
                    case rel => exact ⟨rfl, rfl⟩
                  · have d6 : ((x.toNat : Int) == 95) = false := by simpa using (by omega : ¬ (x.toNat : Int) = 95)
                    obtain rfl : F = false := by rw [HFD.out]; unfold signB; simp [h0, h1, h2, h4, h6]
                    clear h0 h1 h2 h4 h6
                    go_wp2
                    go_meet
                    case rel => exact ⟨rfl, rfl⟩
            · have d1 : decide ((n : Int) ≤ 16) = false := decide_eq_false (by omega)
              obtain rfl : F = false := by rw [HFD.out]; unfold signB; simp [h0, h1]
              clear h0 h1
              go_wp2
              go_meet
              case rel => exact ⟨rfl, rfl⟩
          · have d0 : decide ((1 : Int) ≤ (n : Int)) = false := decide_eq_false (by omega)
            obtain rfl : F = false := by rw [HFD.out]; unfold signB; simp [h0]
            clear h0
            go_wp2
            go_meet
            case rel => exact ⟨rfl, rfl⟩
        case rest =>
          obtain ⟨rfl, rfl⟩ := hcut
          obtain ⟨T, hT⟩ : ∃ T, T = textB (qList x n) := ⟨_, rfl⟩
          rw [← hT] at HF
          have HT := Lib.hid hT
          obtain ⟨S1, z1, S2, S3, z3, S4, z4, e1, e2, e3, e4, f1, f2, f3, f4⟩ := names_all T ⟨#[97]⟩ (by kernel_rfl)
          have E1 := Lib.hid e1
          have E2 := Lib.hid e2
          have E3 := Lib.hid e3
          have E4 := Lib.hid e4
          rw [← HF.out] at f1 f2 f3 f4
          have F2 := Lib.hid f2
          obtain ⟨K, hK⟩ : ∃ K, K = decide (T = ⟨#[97]⟩) := ⟨_, rfl⟩
          rw [← hK] at f3
          have HKD := Lib.hid hK
          clear e1 e2 e3 e4 f2 hT hK
          have hwc := HB.out
          generalize wc = wd at *
          clear hwc
          have hcv : (convert 51 9 (.slice (some ⟨b, 0, none⟩) n n)).run Try.prog wd = .ok (.string T) wd := by rw [HT.out]; exact convert_q wd b n (qList x n) n (qList_length x n) HK.out
          obtain ⟨u0, hu0⟩ : ∃ u, u = wd.alloc (.cells #[.string T] 9) := ⟨_, rfl⟩
          obtain ⟨v0, hv0⟩ : ∃ v, v = u0.alloc (.cells #[.int .i64 1] 3) := ⟨_, rfl⟩
          have b1 : Below wd.heap.size wd u0 := by rw [hu0]; exact (Below.refl _ _).alloc (Nat.le_refl _) _
          have b2 : Below u0.heap.size u0 v0 := by rw [hv0]; exact (Below.refl _ _).alloc (Nat.le_refl _) _
          have hTx : IsT u0 (some ⟨wd.heap.size, 0, none⟩) [T] := by rw [hu0]; exact one_text _ _
          have hLx : IsL v0 (some ⟨u0.heap.size, 0, none⟩) [1] := by rw [hv0]; exact isl_new u0 [1] _ rfl
          have HTx := Lib.hid (hTx.below b2)
          have HLx := Lib.hid hLx
          have hz : u0.heap.size = wd.heap.size + 1 := by rw [hu0]; simp
          rw [hz] at HLx
          have hb := b1.trans (b2.mono b1.size)
          replace HK := Lib.hid ((hb.block b HLt.out).trans HK.out)
          replace HLt := Lib.hid (Nat.lt_of_lt_of_le HLt.out hb.size)
          replace HB := Lib.hid (HB.out.trans (hb.mono HB.out.size))
          clear b1 b2 hTx hLx hz hb
          go_upto_region 14 with (go_at_call 24; (try change Calls _ _ _ ((wd.alloc (.cells #[.string T] 9)).alloc (.cells #[.int .i64 1] 3)) _); rw [← hu0, ← hv0]; refine (new_var _ _ _ _ _ [T] [1] HTx.out HLx.out (by simp) (by simp) E1.out).mono ?_; rintro e x1 ⟨aA, cA, rfl, ho, hb⟩; replace HK := Lib.hid ((hb.block b HLt.out).trans HK.out); replace HLt := Lib.hid (Nat.lt_of_lt_of_le HLt.out hb.size); have HO := Lib.hid ho; have HBW := Lib.hid (HB.out.trans (hb.mono HB.out.size)); clear ho hb)
          change Code.wp _ _ _ _ (x1.alloc (.cells #[.int .i64 S1.id, .slice aA S1.cs.length cA, .int .i64 S1.next] 24))
          have hb : Below x1.heap.size x1 (x1.alloc (.cells #[.int .i64 S1.id, .slice aA S1.cs.length cA, .int .i64 S1.next] 24)) := (Below.refl _ _).alloc (Nat.le_refl _) _
          have HVA := Lib.hid (ScV.of HO.out)
          replace HK := Lib.hid ((hb.block b HLt.out).trans HK.out)
          replace HLt := Lib.hid (Nat.lt_of_lt_of_le HLt.out hb.size)
          replace HB := Lib.hid (HBW.out.trans (hb.mono HBW.out.size))
          obtain ⟨gA, hgA⟩ : ∃ g, g = x1.heap.size := ⟨_, rfl⟩
          rw [← hgA] at HVA
          try rw [← hgA]
          generalize x1.alloc (.cells #[.int .i64 S1.id, .slice aA S1.cs.length cA, .int .i64 S1.next] 24) = w1 at *
          clear hb HBW HO hgA
          clear hu0 hv0 HTx HLx hcv
          obtain ⟨u1, hu1⟩ : ∃ u, u = w1.alloc (.cells #[.string ⟨#[97]⟩] 9) := ⟨_, rfl⟩
          obtain ⟨v1, hv1⟩ : ∃ v, v = u1.alloc (.cells #[.int .i64 1] 3) := ⟨_, rfl⟩
          have b1 : Below w1.heap.size w1 u1 := by rw [hu1]; exact (Below.refl _ _).alloc (Nat.le_refl _) _
          have b2 : Below u1.heap.size u1 v1 := by rw [hv1]; exact (Below.refl _ _).alloc (Nat.le_refl _) _
          have hTx : IsT u1 (some ⟨w1.heap.size, 0, none⟩) [⟨#[97]⟩] := by rw [hu1]; exact one_text _ _
          have hLx : IsL v1 (some ⟨u1.heap.size, 0, none⟩) [1] := by rw [hv1]; exact isl_new u1 [1] _ rfl
          have HTx := Lib.hid (hTx.below b2)
          have HLx := Lib.hid hLx
          have hz : u1.heap.size = w1.heap.size + 1 := by rw [hu1]; simp
          rw [hz] at HLx
          have hb := b1.trans (b2.mono b1.size)
          replace HVA := Lib.hid (HVA.out.below hb)
          replace HK := Lib.hid ((hb.block b HLt.out).trans HK.out)
          replace HLt := Lib.hid (Nat.lt_of_lt_of_le HLt.out hb.size)
          replace HB := Lib.hid (HB.out.trans (hb.mono HB.out.size))
          clear b1 b2 hTx hLx hz hb
          go_upto_region 15 with (go_at_call 24; (try change Calls _ _ _ ((w1.alloc (.cells #[.string ⟨#[97]⟩] 9)).alloc (.cells #[.int .i64 1] 3)) _); rw [← hu1, ← hv1]; refine (new_var _ _ _ _ _ [⟨#[97]⟩] [1] HTx.out HLx.out (by simp) (by simp) E2.out).mono ?_; rintro e x2 ⟨aB, cB, rfl, ho, hb⟩; replace HVA := Lib.hid (HVA.out.below hb); replace HK := Lib.hid ((hb.block b HLt.out).trans HK.out); replace HLt := Lib.hid (Nat.lt_of_lt_of_le HLt.out hb.size); have HO := Lib.hid ho; have HBW := Lib.hid (HB.out.trans (hb.mono HB.out.size)); clear ho hb)
          change Code.wp _ _ _ _ (x2.alloc (.cells #[.int .i64 S2.id, .slice aB S2.cs.length cB, .int .i64 S2.next] 24))
          have hb : Below x2.heap.size x2 (x2.alloc (.cells #[.int .i64 S2.id, .slice aB S2.cs.length cB, .int .i64 S2.next] 24)) := (Below.refl _ _).alloc (Nat.le_refl _) _
          have HVB := Lib.hid (ScV.of HO.out)
          replace HVA := Lib.hid (HVA.out.below hb)
          replace HK := Lib.hid ((hb.block b HLt.out).trans HK.out)
          replace HLt := Lib.hid (Nat.lt_of_lt_of_le HLt.out hb.size)
          replace HB := Lib.hid (HBW.out.trans (hb.mono HBW.out.size))
          obtain ⟨gB, hgB⟩ : ∃ g, g = x2.heap.size := ⟨_, rfl⟩
          rw [← hgB] at HVB
          try rw [← hgB]
          generalize x2.alloc (.cells #[.int .i64 S2.id, .slice aB S2.cs.length cB, .int .i64 S2.next] 24) = w2 at *
          clear hb HBW HO hgB
          clear hu1 hv1 HTx HLx
          have hcv : (convert 51 9 (.slice (some ⟨b, 0, none⟩) n n)).run Try.prog w2 = .ok (.string T) w2 := by rw [HT.out]; exact convert_q w2 b n (qList x n) n (qList_length x n) HK.out
          obtain ⟨pB0, pB1, pB2⟩ := HVB.out.at
          go_upto_region 16 with (go_at_call 12; refine (add_var HVB.out E3.out).mono ?_; rintro e x3 ⟨aC, cC, rfl, ho, hb⟩; replace HVA := Lib.hid (HVA.out.below hb); replace HVB := Lib.hid (HVB.out.below hb); replace HK := Lib.hid ((hb.block b HLt.out).trans HK.out); replace HLt := Lib.hid (Nat.lt_of_lt_of_le HLt.out hb.size); have HO := Lib.hid ho; have HBW := Lib.hid (HB.out.trans (hb.mono HB.out.size)); clear ho hb)
          clear pB0 pB1 pB2
          change Code.wp _ _ _ _ (x3.alloc (.cells #[.int .i64 S3.id, .slice aC S3.cs.length cC, .int .i64 S3.next] 24))
          have hb : Below x3.heap.size x3 (x3.alloc (.cells #[.int .i64 S3.id, .slice aC S3.cs.length cC, .int .i64 S3.next] 24)) := (Below.refl _ _).alloc (Nat.le_refl _) _
          have HVC := Lib.hid (ScV.of HO.out)
          replace HVA := Lib.hid (HVA.out.below hb)
          replace HVB := Lib.hid (HVB.out.below hb)
          replace HK := Lib.hid ((hb.block b HLt.out).trans HK.out)
          replace HLt := Lib.hid (Nat.lt_of_lt_of_le HLt.out hb.size)
          replace HB := Lib.hid (HBW.out.trans (hb.mono HBW.out.size))
          obtain ⟨gC, hgC⟩ : ∃ g, g = x3.heap.size := ⟨_, rfl⟩
          rw [← hgC] at HVC
          try rw [← hgC]
          generalize x3.alloc (.cells #[.int .i64 S3.id, .slice aC S3.cs.length cC, .int .i64 S3.next] 24) = w3 at *
          clear hb HBW HO hgC
          clear hcv
          have hcv : (convert 51 9 (.slice (some ⟨b, 0, none⟩) n n)).run Try.prog w3 = .ok (.string T) w3 := by rw [HT.out]; exact convert_q w3 b n (qList x n) n (qList_length x n) HK.out
          obtain ⟨pB0, pB1, pB2⟩ := HVB.out.at
          go_upto_region 17 with (go_at_call 16; refine (ren_var HVB.out E4.out).mono ?_; rintro e x4 ⟨aD, cD, rfl, ho, hb⟩; replace HVA := Lib.hid (HVA.out.below hb); replace HVB := Lib.hid (HVB.out.below hb); replace HVC := Lib.hid (HVC.out.below hb); replace HK := Lib.hid ((hb.block b HLt.out).trans HK.out); replace HLt := Lib.hid (Nat.lt_of_lt_of_le HLt.out hb.size); have HO := Lib.hid ho; have HBW := Lib.hid (HB.out.trans (hb.mono HB.out.size)); clear ho hb)
          clear pB0 pB1 pB2
          change Code.wp _ _ _ _ (x4.alloc (.cells #[.int .i64 S4.id, .slice aD S4.cs.length cD, .int .i64 S4.next] 24))
          have hb : Below x4.heap.size x4 (x4.alloc (.cells #[.int .i64 S4.id, .slice aD S4.cs.length cD, .int .i64 S4.next] 24)) := (Below.refl _ _).alloc (Nat.le_refl _) _
          have HVD := Lib.hid (ScV.of HO.out)
          replace HVA := Lib.hid (HVA.out.below hb)
          replace HVB := Lib.hid (HVB.out.below hb)
          replace HVC := Lib.hid (HVC.out.below hb)
          replace HK := Lib.hid ((hb.block b HLt.out).trans HK.out)
          replace HLt := Lib.hid (Nat.lt_of_lt_of_le HLt.out hb.size)
          replace HB := Lib.hid (HBW.out.trans (hb.mono HBW.out.size))
          obtain ⟨gD, hgD⟩ : ∃ g, g = x4.heap.size := ⟨_, rfl⟩
          rw [← hgD] at HVD
          try rw [← hgD]
          generalize x4.alloc (.cells #[.int .i64 S4.id, .slice aD S4.cs.length cD, .int .i64 S4.next] 24) = w4 at *
          clear hb HBW HO hgD
          clear hcv
          have hcv : (convert 51 9 (.slice (some ⟨b, 0, none⟩) n n)).run Try.prog w4 = .ok (.string T) w4 := by rw [HT.out]; exact convert_q w4 b n (qList x n) n (qList_length x n) HK.out
          have TM := Lib.hid (may_var HVA.out F2.out)
          obtain ⟨pA0, pA1, pA2⟩ := HVA.out.at
          try clear hx2
          clear hx hk HFD HF HT HK HLt E1 E2 E3 E4 F2 HVA HVB HVC HVD
          cases F <;> cases K <;> (
            first
              | (have hE : (T.toList == [97]) = true := (by rw [of_decide_eq_true HKD.out.symm]; kernel_rfl))
              | (have hE : (T.toList == [97]) = false := beq_eq_false_iff_ne.2 fun e => (of_decide_eq_false HKD.out.symm) (text_inj (e.trans (by kernel_rfl))))
            clear HKD
            simp only [Bool.true_and, Bool.false_and, Bool.not_true, Bool.not_false] at f3
            go_wp2_with (first
              | (go_at_call 19; refine (num_any _ _).mono ?_; rintro e wn ⟨rfl, rfl⟩)
              | (go_at_call 20; refine TM.out.mono ?_; rintro e y1 ⟨rfl, hb⟩; replace HB := Lib.hid (HB.out.trans (hb.mono HB.out.size)); clear hb))
            go_ret
            exact ⟨rfl, HB.out⟩)
      · obtain rfl : n = 0 := by omega
        have HLt := Lib.hid (Array.getElem?_eq_some_iff.1 HK.out).1
        replace HK : Hid (wr.heap[b]? = some (.cells (byteCells (qList x 0)).toArray 5 (0, 0))) := HK.out
        clear HK0 HB0
        go_upto_region 12 with fail
        generalize wr = wq at *
        go_cut [9] from 40 (fun s wx => s = .bool F ∧ wx = wq)
        case first =>
          obtain rfl : F = false := by rw [HFD.out]; rfl
          go_wp2
          go_meet
          case rel => exact ⟨rfl, rfl⟩
        case rest =>
          obtain ⟨rfl, rfl⟩ := hcut
          obtain ⟨T, hT⟩ : ∃ T, T = textB (qList x 0) := ⟨_, rfl⟩
          rw [← hT] at HF
          have HT := Lib.hid hT
          obtain ⟨S1, z1, S2, S3, z3, S4, z4, e1, e2, e3, e4, f1, f2, f3, f4⟩ := names_all T ⟨#[97]⟩ (by kernel_rfl)
          have E1 := Lib.hid e1
          have E2 := Lib.hid e2
          have E3 := Lib.hid e3
          have E4 := Lib.hid e4
          rw [← HF.out] at f1 f2 f3 f4
          have F2 := Lib.hid f2
          obtain ⟨K, hK⟩ : ∃ K, K = decide (T = ⟨#[97]⟩) := ⟨_, rfl⟩
          rw [← hK] at f3
          have HKD := Lib.hid hK
          clear e1 e2 e3 e4 f2 hT hK
          have hwc := HB.out
          generalize wc = wd at *
          clear hwc
          have hcv : (convert 51 9 (.slice (some ⟨b, 0, none⟩) 0 0)).run Try.prog wd = .ok (.string T) wd := by rw [HT.out]; exact convert_q wd b 0 (qList x 0) 0 (qList_length x 0) HK.out
          obtain ⟨u0, hu0⟩ : ∃ u, u = wd.alloc (.cells #[.string T] 9) := ⟨_, rfl⟩
          obtain ⟨v0, hv0⟩ : ∃ v, v = u0.alloc (.cells #[.int .i64 1] 3) := ⟨_, rfl⟩
          have b1 : Below wd.heap.size wd u0 := by rw [hu0]; exact (Below.refl _ _).alloc (Nat.le_refl _) _
          have b2 : Below u0.heap.size u0 v0 := by rw [hv0]; exact (Below.refl _ _).alloc (Nat.le_refl _) _
          have hTx : IsT u0 (some ⟨wd.heap.size, 0, none⟩) [T] := by rw [hu0]; exact one_text _ _
          have hLx : IsL v0 (some ⟨u0.heap.size, 0, none⟩) [1] := by rw [hv0]; exact isl_new u0 [1] _ rfl
          have HTx := Lib.hid (hTx.below b2)
          have HLx := Lib.hid hLx
          have hz : u0.heap.size = wd.heap.size + 1 := by rw [hu0]; simp
          rw [hz] at HLx
          have hb := b1.trans (b2.mono b1.size)
          replace HK := Lib.hid ((hb.block b HLt.out).trans HK.out)
          replace HLt := Lib.hid (Nat.lt_of_lt_of_le HLt.out hb.size)
          replace HB := Lib.hid (HB.out.trans (hb.mono HB.out.size))
          clear b1 b2 hTx hLx hz hb
          go_upto_region 14 with (go_at_call 24; (try change Calls _ _ _ ((wd.alloc (.cells #[.string T] 9)).alloc (.cells #[.int .i64 1] 3)) _); rw [← hu0, ← hv0]; refine (new_var _ _ _ _ _ [T] [1] HTx.out HLx.out (by simp) (by simp) E1.out).mono ?_; rintro e x1 ⟨aA, cA, rfl, ho, hb⟩; replace HK := Lib.hid ((hb.block b HLt.out).trans HK.out); replace HLt := Lib.hid (Nat.lt_of_lt_of_le HLt.out hb.size); have HO := Lib.hid ho; have HBW := Lib.hid (HB.out.trans (hb.mono HB.out.size)); clear ho hb)
          change Code.wp _ _ _ _ (x1.alloc (.cells #[.int .i64 S1.id, .slice aA S1.cs.length cA, .int .i64 S1.next] 24))
          have hb : Below x1.heap.size x1 (x1.alloc (.cells #[.int .i64 S1.id, .slice aA S1.cs.length cA, .int .i64 S1.next] 24)) := (Below.refl _ _).alloc (Nat.le_refl _) _
          have HVA := Lib.hid (ScV.of HO.out)
          replace HK := Lib.hid ((hb.block b HLt.out).trans HK.out)
          replace HLt := Lib.hid (Nat.lt_of_lt_of_le HLt.out hb.size)
          replace HB := Lib.hid (HBW.out.trans (hb.mono HBW.out.size))
          obtain ⟨gA, hgA⟩ : ∃ g, g = x1.heap.size := ⟨_, rfl⟩
          rw [← hgA] at HVA
          try rw [← hgA]
          generalize x1.alloc (.cells #[.int .i64 S1.id, .slice aA S1.cs.length cA, .int .i64 S1.next] 24) = w1 at *
          clear hb HBW HO hgA
          clear hu0 hv0 HTx HLx hcv
          obtain ⟨u1, hu1⟩ : ∃ u, u = w1.alloc (.cells #[.string ⟨#[97]⟩] 9) := ⟨_, rfl⟩
          obtain ⟨v1, hv1⟩ : ∃ v, v = u1.alloc (.cells #[.int .i64 1] 3) := ⟨_, rfl⟩
          have b1 : Below w1.heap.size w1 u1 := by rw [hu1]; exact (Below.refl _ _).alloc (Nat.le_refl _) _
          have b2 : Below u1.heap.size u1 v1 := by rw [hv1]; exact (Below.refl _ _).alloc (Nat.le_refl _) _
          have hTx : IsT u1 (some ⟨w1.heap.size, 0, none⟩) [⟨#[97]⟩] := by rw [hu1]; exact one_text _ _
          have hLx : IsL v1 (some ⟨u1.heap.size, 0, none⟩) [1] := by rw [hv1]; exact isl_new u1 [1] _ rfl
          have HTx := Lib.hid (hTx.below b2)
          have HLx := Lib.hid hLx
          have hz : u1.heap.size = w1.heap.size + 1 := by rw [hu1]; simp
          rw [hz] at HLx
          have hb := b1.trans (b2.mono b1.size)
          replace HVA := Lib.hid (HVA.out.below hb)
          replace HK := Lib.hid ((hb.block b HLt.out).trans HK.out)
          replace HLt := Lib.hid (Nat.lt_of_lt_of_le HLt.out hb.size)
          replace HB := Lib.hid (HB.out.trans (hb.mono HB.out.size))
          clear b1 b2 hTx hLx hz hb
          go_upto_region 15 with (go_at_call 24; (try change Calls _ _ _ ((w1.alloc (.cells #[.string ⟨#[97]⟩] 9)).alloc (.cells #[.int .i64 1] 3)) _); rw [← hu1, ← hv1]; refine (new_var _ _ _ _ _ [⟨#[97]⟩] [1] HTx.out HLx.out (by simp) (by simp) E2.out).mono ?_; rintro e x2 ⟨aB, cB, rfl, ho, hb⟩; replace HVA := Lib.hid (HVA.out.below hb); replace HK := Lib.hid ((hb.block b HLt.out).trans HK.out); replace HLt := Lib.hid (Nat.lt_of_lt_of_le HLt.out hb.size); have HO := Lib.hid ho; have HBW := Lib.hid (HB.out.trans (hb.mono HB.out.size)); clear ho hb)
          change Code.wp _ _ _ _ (x2.alloc (.cells #[.int .i64 S2.id, .slice aB S2.cs.length cB, .int .i64 S2.next] 24))
          have hb : Below x2.heap.size x2 (x2.alloc (.cells #[.int .i64 S2.id, .slice aB S2.cs.length cB, .int .i64 S2.next] 24)) := (Below.refl _ _).alloc (Nat.le_refl _) _
          have HVB := Lib.hid (ScV.of HO.out)
          replace HVA := Lib.hid (HVA.out.below hb)
          replace HK := Lib.hid ((hb.block b HLt.out).trans HK.out)
          replace HLt := Lib.hid (Nat.lt_of_lt_of_le HLt.out hb.size)
          replace HB := Lib.hid (HBW.out.trans (hb.mono HBW.out.size))
          obtain ⟨gB, hgB⟩ : ∃ g, g = x2.heap.size := ⟨_, rfl⟩
          rw [← hgB] at HVB
          try rw [← hgB]
          generalize x2.alloc (.cells #[.int .i64 S2.id, .slice aB S2.cs.length cB, .int .i64 S2.next] 24) = w2 at *
          clear hb HBW HO hgB
          clear hu1 hv1 HTx HLx
          have hcv : (convert 51 9 (.slice (some ⟨b, 0, none⟩) 0 0)).run Try.prog w2 = .ok (.string T) w2 := by rw [HT.out]; exact convert_q w2 b 0 (qList x 0) 0 (qList_length x 0) HK.out
          obtain ⟨pB0, pB1, pB2⟩ := HVB.out.at
          go_upto_region 16 with (go_at_call 12; refine (add_var HVB.out E3.out).mono ?_; rintro e x3 ⟨aC, cC, rfl, ho, hb⟩; replace HVA := Lib.hid (HVA.out.below hb); replace HVB := Lib.hid (HVB.out.below hb); replace HK := Lib.hid ((hb.block b HLt.out).trans HK.out); replace HLt := Lib.hid (Nat.lt_of_lt_of_le HLt.out hb.size); have HO := Lib.hid ho; have HBW := Lib.hid (HB.out.trans (hb.mono HB.out.size)); clear ho hb)
          clear pB0 pB1 pB2
          change Code.wp _ _ _ _ (x3.alloc (.cells #[.int .i64 S3.id, .slice aC S3.cs.length cC, .int .i64 S3.next] 24))
          have hb : Below x3.heap.size x3 (x3.alloc (.cells #[.int .i64 S3.id, .slice aC S3.cs.length cC, .int .i64 S3.next] 24)) := (Below.refl _ _).alloc (Nat.le_refl _) _
          have HVC := Lib.hid (ScV.of HO.out)
          replace HVA := Lib.hid (HVA.out.below hb)
          replace HVB := Lib.hid (HVB.out.below hb)
          replace HK := Lib.hid ((hb.block b HLt.out).trans HK.out)
          replace HLt := Lib.hid (Nat.lt_of_lt_of_le HLt.out hb.size)
          replace HB := Lib.hid (HBW.out.trans (hb.mono HBW.out.size))
          obtain ⟨gC, hgC⟩ : ∃ g, g = x3.heap.size := ⟨_, rfl⟩
          rw [← hgC] at HVC
          try rw [← hgC]
          generalize x3.alloc (.cells #[.int .i64 S3.id, .slice aC S3.cs.length cC, .int .i64 S3.next] 24) = w3 at *
          clear hb HBW HO hgC
          clear hcv
          have hcv : (convert 51 9 (.slice (some ⟨b, 0, none⟩) 0 0)).run Try.prog w3 = .ok (.string T) w3 := by rw [HT.out]; exact convert_q w3 b 0 (qList x 0) 0 (qList_length x 0) HK.out
          obtain ⟨pB0, pB1, pB2⟩ := HVB.out.at
          go_upto_region 17 with (go_at_call 16; refine (ren_var HVB.out E4.out).mono ?_; rintro e x4 ⟨aD, cD, rfl, ho, hb⟩; replace HVA := Lib.hid (HVA.out.below hb); replace HVB := Lib.hid (HVB.out.below hb); replace HVC := Lib.hid (HVC.out.below hb); replace HK := Lib.hid ((hb.block b HLt.out).trans HK.out); replace HLt := Lib.hid (Nat.lt_of_lt_of_le HLt.out hb.size); have HO := Lib.hid ho; have HBW := Lib.hid (HB.out.trans (hb.mono HB.out.size)); clear ho hb)
          clear pB0 pB1 pB2
          change Code.wp _ _ _ _ (x4.alloc (.cells #[.int .i64 S4.id, .slice aD S4.cs.length cD, .int .i64 S4.next] 24))
          have hb : Below x4.heap.size x4 (x4.alloc (.cells #[.int .i64 S4.id, .slice aD S4.cs.length cD, .int .i64 S4.next] 24)) := (Below.refl _ _).alloc (Nat.le_refl _) _
          have HVD := Lib.hid (ScV.of HO.out)
          replace HVA := Lib.hid (HVA.out.below hb)
          replace HVB := Lib.hid (HVB.out.below hb)
          replace HVC := Lib.hid (HVC.out.below hb)
          replace HK := Lib.hid ((hb.block b HLt.out).trans HK.out)
          replace HLt := Lib.hid (Nat.lt_of_lt_of_le HLt.out hb.size)
          replace HB := Lib.hid (HBW.out.trans (hb.mono HBW.out.size))
          obtain ⟨gD, hgD⟩ : ∃ g, g = x4.heap.size := ⟨_, rfl⟩
          rw [← hgD] at HVD
          try rw [← hgD]
          generalize x4.alloc (.cells #[.int .i64 S4.id, .slice aD S4.cs.length cD, .int .i64 S4.next] 24) = w4 at *
          clear hb HBW HO hgD
          clear hcv
          have hcv : (convert 51 9 (.slice (some ⟨b, 0, none⟩) 0 0)).run Try.prog w4 = .ok (.string T) w4 := by rw [HT.out]; exact convert_q w4 b 0 (qList x 0) 0 (qList_length x 0) HK.out
          have TM := Lib.hid (may_var HVA.out F2.out)
          obtain ⟨pA0, pA1, pA2⟩ := HVA.out.at
          try clear hx2
          clear hx hk HFD HF HT HK HLt E1 E2 E3 E4 F2 HVA HVB HVC HVD
          cases F <;> cases K <;> (
            first
              | (have hE : (T.toList == [97]) = true := (by rw [of_decide_eq_true HKD.out.symm]; kernel_rfl))
              | (have hE : (T.toList == [97]) = false := beq_eq_false_iff_ne.2 fun e => (of_decide_eq_false HKD.out.symm) (text_inj (e.trans (by kernel_rfl))))
            clear HKD
            simp only [Bool.true_and, Bool.false_and, Bool.not_true, Bool.not_false] at f3
            go_wp2_with (first
              | (go_at_call 19; refine (num_any _ _).mono ?_; rintro e wn ⟨rfl, rfl⟩)
              | (go_at_call 20; refine TM.out.mono ?_; rintro e y1 ⟨rfl, hb⟩; replace HB := Lib.hid (HB.out.trans (hb.mono HB.out.size)); clear hb))
            go_ret
            exact ⟨rfl, HB.out⟩)
end Go.Proofs.Ythfakpekdjmpjaa
