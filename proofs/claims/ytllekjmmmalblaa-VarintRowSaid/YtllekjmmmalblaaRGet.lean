/- The number at a place: the document's way. -/
import Derived.Test.YtllekjmmmalblaaRParts
namespace Go.Proofs.Ytllekjmmmalblaa
open Go.RowKit
set_option linter.unusedVariables false

/-- What is read, up to a greatest number. -/
def capR (most : Nat) (r : Nat × Int × Int) : Nat × Int × Int := if r.2.2 = 0 ∧ most < r.1 then (0, 0, 501) else r
theorem seg_step (s : ByteArray) (k q j : Nat) (hq : k + q < s.size) (hj : j ≤ q) (hr : run (s.data.toList.drop k) = q) :
    vval ((seg (s.data.toList.drop k)).drop j) = (s[k + j]'(by omega)).toNat % 128 + 128 * vval ((seg (s.data.toList.drop k)).drop (j + 1)) := by
  have hl : run (s.data.toList.drop k) < (s.data.toList.drop k).length := by rw [hr, drop_len]; omega
  rw [vval_drop _ j (by rw [seg_length hl]; omega), seg_get hl j (by omega), drop_get s k j (by omega)]
theorem seg_end (s : ByteArray) (k q : Nat) (hq : k + q < s.size) (hr : run (s.data.toList.drop k) = q) : vval ((seg (s.data.toList.drop k)).drop (q + 1)) = 0 := by
  have hl : run (s.data.toList.drop k) < (s.data.toList.drop k).length := by rw [hr, drop_len]; omega
  rw [List.drop_of_length_le (by rw [seg_length hl]; omega)]; rfl
theorem top_at (s : ByteArray) (k q : Nat) (hq : k + q < s.size) (hr : run (s.data.toList.drop k) = q) : top (s.data.toList.drop k) = (s[k + q]'(by omega)).toNat := by
  have hl : run (s.data.toList.drop k) < (s.data.toList.drop k).length := by rw [hr, drop_len]; omega
  rw [top_get hl]
  simp only [hr]
  rw [drop_get s k q hq]

theorem rem7 (b : UInt8) : (IntKind.u64.wrap (b.toNat : Int)).tmod 128 = (b.toNat : Int) % 128 := by
  have := b.toNat_lt
  rw [IntKind.wrap_u64, Int.tmod_eq_emod_of_nonneg (by omega)]
  omega

set_option maxRecDepth 100000 in
set_option maxHeartbeats 4000000 in
theorem rvget_any (s : ByteArray) (hs : s.size ≤ 281474976710648) (a : Int) (most : Nat) (hm : most < 18446744073709551616) (w : World) : Calls Try.prog 20 #[.string s, .int .i64 a, .int .u64 (most : Int)] w fun e w' =>
    e = .returned (.tuple #[.int .u64 ((capR most (readN s.data.toList a)).1 : Int), .int .i64 (capR most (readN s.data.toList a)).2.1, .int .i64 (capR most (readN s.data.toList a)).2.2]) ∧ w = w' := by
  by_cases c0 : a < 0
  · have hr : readN s.data.toList a = (0, 0, 500) := readN_out (.inl c0)
    rw [hr]
    clear hr
    go_enter Try.func20, Try.ntmps20
    go_wp2
    go_ret3
    exact ⟨rfl, rfl⟩
  by_cases c1 : (s.size : Int) < a
  · have hr : readN s.data.toList a = (0, 0, 500) := readN_out (.inr (by rw [← size_list]; exact c1))
    rw [hr]
    clear hr
    go_enter Try.func20, Try.ntmps20
    go_wp2
    go_ret3
    exact ⟨rfl, rfl⟩
  obtain ⟨k, rfl⟩ : ∃ k : Nat, a = k := ⟨a.toNat, by omega⟩
  have hk : k ≤ s.size := by omega
  clear c0 c1
  go_enter Try.func20, Try.ntmps20
  go_wp2
  go_loop [9] (fun qv => ∃ q : Nat, k + q ≤ s.size ∧ qv = .int .i64 q ∧ Hid (∀ i (h : i < k + q) (h2 : i < s.size), k ≤ i → 128 ≤ s[i].toNat)) (fun qv => s.size - (intOf qv).toNat)
  case atStart => exact ⟨0, hk, rfl, fun i h _ h2 => by omega⟩
  case round =>
    obtain ⟨q, hq, rfl, hall⟩ := hrel
    obtain ⟨p, hp⟩ : ∃ p : Nat, p = k + q := ⟨_, rfl⟩
    have ep : (k : Int) + (q : Int) = (p : Int) := by omega
    rw [← hp] at hq hall
    by_cases c : p < s.size
    · by_cases cb : s[p].toNat < 128
      · have hr := run_span s k p (by omega) c cb (fun i h h2 => hall.out i h (by omega) h2)
        rw [show p - k = q by omega] at hr
        have hl : run (s.data.toList.drop k) < (s.data.toList.drop k).length := by rw [hr, drop_len]; omega
        have hbad := bad_iff hl
        have ht : top (s.data.toList.drop k) = s[p].toNat := by
          have := top_at s k q (by omega) hr
          simp only [← hp] at this
          exact this
        have hbad : bad (s.data.toList.drop k) ↔ 9 < q ∨ (q = 9 ∧ 1 < s[p].toNat) ∨ (0 < q ∧ s[p].toNat = 0) := by rw [hbad, hr, ht]
        have hk2 : k ≤ s.data.toList.length := by rw [← size_list]; omega
        have HB := Lib.hid hbad
        have HN := Lib.hid (fun hb => readN_bad hk2 hl (hbad.2 hb))
        have HY : Hid (¬ bad (s.data.toList.drop k) → readN s.data.toList k = (vval (seg (s.data.toList.drop k)), (p : Int) + 1, 0)) := fun hb => by
          rw [readN_yes hk2 hl hb, hr]
          refine Prod.ext rfl (Prod.ext ?_ rfl)
          show (k : Int) + (q : Int) + 1 = (p : Int) + 1
          omega
        have HS : Hid (∀ (j z : Nat) (hz : z < s.size), j ≤ q → z = k + j → vval ((seg (s.data.toList.drop k)).drop j) = s[z].toNat % 128 + 128 * vval ((seg (s.data.toList.drop k)).drop (j + 1))) := fun j z hz hj ez => by
          subst ez
          exact seg_step s k q j (by omega) hj hr
        have HE := Lib.hid (seg_end s k q (by omega) hr)
        have HL := Lib.hid (vval_drop_le (seg (s.data.toList.drop k)))
        have HP := Lib.hid hp
        clear hall hbad ht hk2 hl hr hp
        by_cases q9 : 9 < q
        · have f1 : (9 : Int) < q := by omega
          have h2 := HN.out (by omega)
          have h3 : capR most (readN s.data.toList k) = (0, 0, 501) := by rw [h2]; exact if_neg (fun x => absurd x.1 (by decide))
          clear HB HN HY HS HE HL h2
          go_wp2
          go_ret3
          exact ⟨by first | rfl | (rw [h3]; rfl), rfl⟩
        by_cases qe : q = 9
        · subst qe
          replace ep : (k : Int) + 9 = (p : Int) := by omega
          by_cases t1 : 1 < s[p].toNat
          · have f2 : (1 : Int) < s[p].toNat := by omega
            have h2 := HN.out (by omega)
            have h3 : capR most (readN s.data.toList k) = (0, 0, 501) := by rw [h2]; exact if_neg (fun x => absurd x.1 (by decide))
            clear HB HN HY HS HE HL h2
            go_wp2
            go_ret3
            exact ⟨by first | rfl | (rw [h3]; rfl), rfl⟩
          by_cases t0 : s[p].toNat = 0
          · have h2 := HN.out (by omega)
            have h3 : capR most (readN s.data.toList k) = (0, 0, 501) := by rw [h2]; exact if_neg (fun x => absurd x.1 (by decide))
            clear HB HN HY HS HE HL h2
            go_wp2
            go_ret3
            exact ⟨by first | rfl | (rw [h3]; rfl), rfl⟩
          · have tv : s[p].toNat = 1 := by omega
            have hnb : ¬ bad (s.data.toList.drop k) := fun x => by have := HB.out.1 x; omega
            have h2 := HY.out hnb
            have hV : vval (seg (s.data.toList.drop k)) < 18446744073709551616 := by unfold bad at hnb; omega
            clear HB HN HY hnb
            generalize seg (s.data.toList.drop k) = D at *
            have H2 := Lib.hid h2
            clear h2
            go_wp2
            go_loop [10, 11] (fun yv iv => ∃ j v : Nat, j ≤ 9 + 1 ∧ iv = .int .i64 ((j : Int) - 1) ∧ yv = .int .u64 v ∧ v = vval (D.drop j)) (fun _ iv => (intOf iv + 1).toNat)
            case atStart => exact ⟨9 + 1, 0, by omega, by first | rfl | (congr 1; omega), rfl, HE.out.symm⟩
            case round =>
              obtain ⟨j, v, hj, rfl, rfl, e⟩ := hrel
              by_cases cj : j = 0
              · subst cj
                replace e : v = vval D := e
                rw [← e] at hV
                by_cases cm : most < v
                · have h3 : capR most (readN s.data.toList k) = (0, 0, 501) := by rw [H2.out, ← e]; exact if_pos ⟨rfl, cm⟩
                  clear HS HE HL H2 e
                  go_wp2
                  go_ret3
                  exact ⟨by first | rfl | (rw [h3]; rfl), rfl⟩
                · have h3 : capR most (readN s.data.toList k) = (v, (p : Int) + 1, 0) := by rw [H2.out, ← e]; exact if_neg (fun x => cm x.2)
                  clear HS HE HL H2 e
                  go_wp2
                  go_ret3
                  exact ⟨by first | rfl | (rw [h3]; rfl), rfl⟩
              · obtain ⟨j, rfl⟩ : ∃ m, j = m + 1 := ⟨j - 1, by omega⟩
                have ej : (((j + 1 : Nat) : Int)) - 1 = (j : Int) := by omega
                rw [ej]
                obtain ⟨z, hz⟩ : ∃ z : Nat, z = k + j := ⟨_, rfl⟩
                have hp := HP.out
                have hzs : z < s.size := by omega
                have ez : (k : Int) + (j : Int) = (z : Int) := by omega
                have ed := HS.out j z hzs (by omega) hz
                rw [← e] at ed
                have hle := HL.out j
                have cv : v < 144115188075855872 := by omega
                have e2 := join7 v s[z].toNat cv
                have e3 := rem7 s[z]
                clear e hle HS HE HL H2 hz hp
                go_wp2
                go_round
                case rel => exact ⟨j, s[z].toNat % 128 + 128 * v, by omega, rfl, rfl, ed.symm⟩
                case measure => simp [intOf]
        by_cases q0 : q = 0
        · subst q0
          clear ep
          obtain rfl : k = p := by have := HP.out; omega
          have hnb : ¬ bad (s.data.toList.drop k) := fun x => by have := HB.out.1 x; omega
          have h2 := HY.out hnb
          have hV : vval (seg (s.data.toList.drop k)) < 18446744073709551616 := by unfold bad at hnb; omega
          clear HB HN HY hnb
          generalize seg (s.data.toList.drop k) = D at *
          have H2 := Lib.hid h2
          clear h2
          go_wp2
          go_loop [10, 11] (fun yv iv => ∃ j v : Nat, j ≤ 0 + 1 ∧ iv = .int .i64 ((j : Int) - 1) ∧ yv = .int .u64 v ∧ v = vval (D.drop j)) (fun _ iv => (intOf iv + 1).toNat)
          case atStart => exact ⟨0 + 1, 0, by omega, by first | rfl | (congr 1; omega), rfl, HE.out.symm⟩
          case round =>
            obtain ⟨j, v, hj, rfl, rfl, e⟩ := hrel
            by_cases cj : j = 0
            · subst cj
              replace e : v = vval D := e
              rw [← e] at hV
              by_cases cm : most < v
              · have h3 : capR most (readN s.data.toList k) = (0, 0, 501) := by rw [H2.out, ← e]; exact if_pos ⟨rfl, cm⟩
                clear HS HE HL H2 e
                go_wp2
                go_ret3
                exact ⟨by first | rfl | (rw [h3]; rfl), rfl⟩
              · have h3 : capR most (readN s.data.toList k) = (v, (k : Int) + 1, 0) := by rw [H2.out, ← e]; exact if_neg (fun x => cm x.2)
                clear HS HE HL H2 e
                go_wp2
                go_ret3
                exact ⟨by first | rfl | (rw [h3]; rfl), rfl⟩
            · obtain ⟨j, rfl⟩ : ∃ m, j = m + 1 := ⟨j - 1, by omega⟩
              have ej : (((j + 1 : Nat) : Int)) - 1 = (j : Int) := by omega
              rw [ej]
              obtain ⟨z, hz⟩ : ∃ z : Nat, z = k + j := ⟨_, rfl⟩
              have hp := HP.out
              have hzs : z < s.size := by omega
              have ez : (k : Int) + (j : Int) = (z : Int) := by omega
              have ed := HS.out j z hzs (by omega) hz
              rw [← e] at ed
              have hle := HL.out j
              have cv : v < 144115188075855872 := by omega
              have e2 := join7 v s[z].toNat cv
              have e3 := rem7 s[z]
              clear e hle HS HE HL H2 hz hp
              go_wp2
              go_round
              case rel => exact ⟨j, s[z].toNat % 128 + 128 * v, by omega, rfl, rfl, ed.symm⟩
              case measure => simp [intOf]
        have f1 : (0 : Int) < q := by omega
        have f2 : ¬ (9 : Int) < q := by omega
        have f3 : ((q : Int) == 9) = false := by rw [beq_eq_false_iff_ne]; omega
        by_cases t0 : s[p].toNat = 0
        · have h2 := HN.out (by omega)
          have h3 : capR most (readN s.data.toList k) = (0, 0, 501) := by rw [h2]; exact if_neg (fun x => absurd x.1 (by decide))
          clear HB HN HY HS HE HL h2
          go_wp2
          go_ret3
          exact ⟨by first | rfl | (rw [h3]; rfl), rfl⟩
        · have f4 : ((s[p].toNat : Int) == 0) = false := by rw [beq_eq_false_iff_ne]; omega
          have hnb : ¬ bad (s.data.toList.drop k) := fun x => by have := HB.out.1 x; omega
          have h2 := HY.out hnb
          have hV : vval (seg (s.data.toList.drop k)) < 18446744073709551616 := by unfold bad at hnb; omega
          clear HB HN HY hnb
          generalize seg (s.data.toList.drop k) = D at *
          have H2 := Lib.hid h2
          clear h2
          go_wp2
          go_loop [10, 11] (fun yv iv => ∃ j v : Nat, j ≤ q + 1 ∧ iv = .int .i64 ((j : Int) - 1) ∧ yv = .int .u64 v ∧ v = vval (D.drop j)) (fun _ iv => (intOf iv + 1).toNat)
          case atStart => exact ⟨q + 1, 0, by omega, by first | rfl | (congr 1; omega), rfl, HE.out.symm⟩
          case round =>
            obtain ⟨j, v, hj, rfl, rfl, e⟩ := hrel
            by_cases cj : j = 0
            · subst cj
              replace e : v = vval D := e
              rw [← e] at hV
              by_cases cm : most < v
              · have h3 : capR most (readN s.data.toList k) = (0, 0, 501) := by rw [H2.out, ← e]; exact if_pos ⟨rfl, cm⟩
                clear HS HE HL H2 e
                go_wp2
                go_ret3
                exact ⟨by first | rfl | (rw [h3]; rfl), rfl⟩
              · have h3 : capR most (readN s.data.toList k) = (v, (p : Int) + 1, 0) := by rw [H2.out, ← e]; exact if_neg (fun x => cm x.2)
                clear HS HE HL H2 e
                go_wp2
                go_ret3
                exact ⟨by first | rfl | (rw [h3]; rfl), rfl⟩
            · obtain ⟨j, rfl⟩ : ∃ m, j = m + 1 := ⟨j - 1, by omega⟩
              have ej : (((j + 1 : Nat) : Int)) - 1 = (j : Int) := by omega
              rw [ej]
              obtain ⟨z, hz⟩ : ∃ z : Nat, z = k + j := ⟨_, rfl⟩
              have hp := HP.out
              have hzs : z < s.size := by omega
              have ez : (k : Int) + (j : Int) = (z : Int) := by omega
              have ed := HS.out j z hzs (by omega) hz
              rw [← e] at ed
              have hle := HL.out j
              have cv : v < 144115188075855872 := by omega
              have e2 := join7 v s[z].toNat cv
              have e3 := rem7 s[z]
              clear e hle HS HE HL H2 hz hp
              go_wp2
              go_round
              case rel => exact ⟨j, s[z].toNat % 128 + 128 * v, by omega, rfl, rfl, ed.symm⟩
              case measure => simp [intOf]
      · have hall2 : Hid (∀ i (h : i < k + (q + 1)) (h2 : i < s.size), k ≤ i → 128 ≤ s[i].toNat) := fun i h h2 h3 => by
          by_cases ci : i = p
          · subst ci; omega
          · exact hall.out i (by omega) h2 h3
        have hq2 : k + (q + 1) ≤ s.size := by omega
        clear hall hp
        go_wp2
        go_round
        case rel => exact ⟨q + 1, hq2, by go_num, hall2⟩
        case measure => simp [intOf]; omega
    · obtain rfl : p = s.size := by omega
      have hr := readN_cut (l := s.data.toList) (k := k) (run_none s k hk (fun i h h2 => hall.out i h h h2))
      have h3 : capR most (readN s.data.toList k) = (0, 0, 500) := by rw [hr]; exact if_neg (fun x => absurd x.1 (by decide))
      clear hall hr hp
      go_wp2
      go_ret3
      exact ⟨by first | rfl | (rw [h3]; rfl), rfl⟩
end Go.Proofs.Ytllekjmmmalblaa
