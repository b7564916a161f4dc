/- The document's schemas: which names, kinds, schemas may be; where a column stands; a copy. -/
import Derived.Test.YthfakpekdjmpjaaSchF
namespace Go.Proofs.Ythfakpekdjmpjaa
open Go.Conc Go.RowKit
set_option linter.unusedVariables false
set_option linter.unusedSimpArgs false

set_option maxRecDepth 100000 in
theorem refkind_any (k : Int) (w : World) : Calls Try.prog 56 #[.int .i64 k] w fun e w' => e = .returned (.bool (kindB k)) ∧ w = w' := by
  unfold kindB
  by_cases h1 : 1 ≤ k
  · have e1 : decide ((1 : Int) ≤ k) = true := decide_eq_true h1
    by_cases h2 : k ≤ 3
    · have e2 : decide (k ≤ (3 : Int)) = true := decide_eq_true h2
      rw [decide_eq_true ⟨h1, h2⟩]
      clear h1 h2
      go_enter Try.func56, Try.ntmps56
      go_wp2
      go_ret
      exact ⟨rfl, rfl⟩
    · have e2 : decide (k ≤ (3 : Int)) = false := decide_eq_false h2
      rw [decide_eq_false (fun e => h2 e.2)]
      clear h1 h2
      go_enter Try.func56, Try.ntmps56
      go_wp2
      go_ret
      exact ⟨rfl, rfl⟩
  · have e1 : decide ((1 : Int) ≤ k) = false := decide_eq_false h1
    rw [decide_eq_false (fun e => h1 e.1)]
    clear h1
    go_enter Try.func56, Try.ntmps56
    go_wp2
    go_ret
    exact ⟨rfl, rfl⟩
set_option maxRecDepth 100000 in
set_option maxHeartbeats 1000000 in
theorem refname_any (s : ByteArray) (w : World) : Calls Try.prog 55 #[.string s] w fun e w' => e = .returned (.bool (nameB s)) ∧ w = w' := by
  by_cases h : 1 ≤ s.size ∧ s.size ≤ 16
  · have h1 : decide ((s.size : Int) < 1) = false := decide_eq_false (by omega)
    have h2 : decide ((16 : Int) < (s.size : Int)) = false := decide_eq_false (by omega)
    have HH := Lib.hid h
    have hz : s.size < 17 := by omega
    obtain ⟨R, hR⟩ : ∃ R, R = nameB s := ⟨_, rfl⟩
    rw [← hR]
    have HR := Lib.hid hR
    clear h hR
    go_enter Try.func55, Try.ntmps55
    go_wp2
    go_loop [3] (fun iv => ∃ n : Nat, n ≤ s.size ∧ iv = .int .i64 n ∧ Hid (∀ k (hk : k < s.size), k < n → signB s[k] = true)) (fun iv => s.size - (intOf iv).toNat)
    case atStart => exact ⟨0, Nat.zero_le _, rfl, fun k _ hk => absurd hk (Nat.not_lt_zero k)⟩
    case round =>
      obtain ⟨n, hle, rfl, HA⟩ := hrel
      by_cases cn : n < s.size
      · have HCN := Lib.hid cn
        have hsg : signB s[n] = ((decide ((97 : Int) ≤ (s[n].toNat : Int)) && decide ((s[n].toNat : Int) ≤ 122)) || ((decide ((48 : Int) ≤ (s[n].toNat : Int)) && decide ((s[n].toNat : Int) ≤ 57)) || ((s[n].toNat : Int) == 95))) := by
          unfold signB
          generalize s[n].toNat = x
          have e1 : decide ((97 : Int) ≤ (x : Int)) = decide (97 ≤ x) := by rw [Bool.eq_iff_iff, decide_eq_true_eq, decide_eq_true_eq]; omega
          have e2 : decide ((x : Int) ≤ 122) = decide (x ≤ 122) := by rw [Bool.eq_iff_iff, decide_eq_true_eq, decide_eq_true_eq]; omega
          have e3 : decide ((48 : Int) ≤ (x : Int)) = decide (48 ≤ x) := by rw [Bool.eq_iff_iff, decide_eq_true_eq, decide_eq_true_eq]; omega
          have e4 : decide ((x : Int) ≤ 57) = decide (x ≤ 57) := by rw [Bool.eq_iff_iff, decide_eq_true_eq, decide_eq_true_eq]; omega
          have e5 : ((x : Int) == 95) = decide (x = 95) := by rw [Bool.eq_iff_iff, decide_eq_true_eq, beq_iff_eq]; omega
          rw [e1, e2, e3, e4, e5]
        obtain ⟨b1, h1⟩ : ∃ b, decide ((97 : Int) ≤ (s[n].toNat : Int)) = b := ⟨_, rfl⟩
        obtain ⟨b2, h2⟩ : ∃ b, decide ((s[n].toNat : Int) ≤ 122) = b := ⟨_, rfl⟩
        obtain ⟨b3, h3⟩ : ∃ b, decide ((48 : Int) ≤ (s[n].toNat : Int)) = b := ⟨_, rfl⟩
        obtain ⟨b4, h4⟩ : ∃ b, decide ((s[n].toNat : Int) ≤ 57) = b := ⟨_, rfl⟩
        obtain ⟨b5, h5⟩ : ∃ b, ((s[n].toNat : Int) == 95) = b := ⟨_, rfl⟩
        rw [h1, h2, h3, h4, h5] at hsg
        have HSG := Lib.hid hsg
        clear hsg
        go_upto_region 7 with fail
        have HSG2 : Hid (∀ v : Bool, ((b1 && b2) || ((b3 && b4) || b5)) = v → signB s[n] = v) := fun v e => HSG.out.trans e
        clear HSG
        generalize s[n].toNat = x at *
        cases b1 with
        | true =>
          cases b2 with
          | true =>
            have HSX : Hid (signB s[n] = true) := HSG2.out true rfl
            clear HSG2
            go_wp2
            go_round
            case rel => exact ⟨n + 1, by have := HCN.out; omega, by go_num, fun k hk hkn => by
              rcases Nat.lt_or_ge k n with h | h
              · exact HA.out k hk h
              · obtain rfl : k = n := by omega
                exact HSX.out⟩
            case measure => have := HCN.out; simp [intOf]; omega
          | false =>
            cases b3 with
            | true =>
              cases b4 with
              | true =>
                have HSX : Hid (signB s[n] = true) := HSG2.out true rfl
                clear HSG2
                go_wp2
                go_round
                case rel => exact ⟨n + 1, by have := HCN.out; omega, by go_num, fun k hk hkn => by
                  rcases Nat.lt_or_ge k n with h | h
                  · exact HA.out k hk h
                  · obtain rfl : k = n := by omega
                    exact HSX.out⟩
                case measure => have := HCN.out; simp [intOf]; omega
              | false =>
                cases b5 with
                | true =>
                  have HSX : Hid (signB s[n] = true) := HSG2.out true rfl
                  clear HSG2
                  go_wp2
                  go_round
                  case rel => exact ⟨n + 1, by have := HCN.out; omega, by go_num, fun k hk hkn => by
                    rcases Nat.lt_or_ge k n with h | h
                    · exact HA.out k hk h
                    · obtain rfl : k = n := by omega
                      exact HSX.out⟩
                  case measure => have := HCN.out; simp [intOf]; omega
                | false =>
                  obtain rfl : R = false := HR.out.trans (name_bad HCN.out (HSG2.out false rfl))
                  clear HR HSG2
                  go_wp2
                  go_ret
                  exact ⟨rfl, rfl⟩
            | false =>
              cases b5 with
              | true =>
                have HSX : Hid (signB s[n] = true) := HSG2.out true rfl
                clear HSG2
                go_wp2
                go_round
                case rel => exact ⟨n + 1, by have := HCN.out; omega, by go_num, fun k hk hkn => by
                  rcases Nat.lt_or_ge k n with h | h
                  · exact HA.out k hk h
                  · obtain rfl : k = n := by omega
                    exact HSX.out⟩
                case measure => have := HCN.out; simp [intOf]; omega
              | false =>
                obtain rfl : R = false := HR.out.trans (name_bad HCN.out (HSG2.out false rfl))
                clear HR HSG2
                go_wp2
                go_ret
                exact ⟨rfl, rfl⟩
        | false =>
          cases b3 with
          | true =>
            cases b4 with
            | true =>
              have HSX : Hid (signB s[n] = true) := HSG2.out true rfl
              clear HSG2
              go_wp2
              go_round
              case rel => exact ⟨n + 1, by have := HCN.out; omega, by go_num, fun k hk hkn => by
                rcases Nat.lt_or_ge k n with h | h
                · exact HA.out k hk h
                · obtain rfl : k = n := by omega
                  exact HSX.out⟩
              case measure => have := HCN.out; simp [intOf]; omega
            | false =>
              cases b5 with
              | true =>
                have HSX : Hid (signB s[n] = true) := HSG2.out true rfl
                clear HSG2
                go_wp2
                go_round
                case rel => exact ⟨n + 1, by have := HCN.out; omega, by go_num, fun k hk hkn => by
                  rcases Nat.lt_or_ge k n with h | h
                  · exact HA.out k hk h
                  · obtain rfl : k = n := by omega
                    exact HSX.out⟩
                case measure => have := HCN.out; simp [intOf]; omega
              | false =>
                obtain rfl : R = false := HR.out.trans (name_bad HCN.out (HSG2.out false rfl))
                clear HR HSG2
                go_wp2
                go_ret
                exact ⟨rfl, rfl⟩
          | false =>
            cases b5 with
            | true =>
              have HSX : Hid (signB s[n] = true) := HSG2.out true rfl
              clear HSG2
              go_wp2
              go_round
              case rel => exact ⟨n + 1, by have := HCN.out; omega, by go_num, fun k hk hkn => by
                rcases Nat.lt_or_ge k n with h | h
                · exact HA.out k hk h
                · obtain rfl : k = n := by omega
                  exact HSX.out⟩
              case measure => have := HCN.out; simp [intOf]; omega
            | false =>
              obtain rfl : R = false := HR.out.trans (name_bad HCN.out (HSG2.out false rfl))
              clear HR HSG2
              go_wp2
              go_ret
              exact ⟨rfl, rfl⟩
      · obtain rfl : n = s.size := by omega
        obtain rfl : R = true := HR.out.trans (name_good HH.out fun k hk => HA.out k hk hk)
        clear cn HR
        go_wp2
        go_ret
        exact ⟨rfl, rfl⟩
  · rw [name_short h]
    by_cases h1 : s.size < 1
    · have e1 : decide ((s.size : Int) < 1) = true := decide_eq_true (by omega)
      clear h h1
      go_enter Try.func55, Try.ntmps55
      go_wp2
      go_ret
      exact ⟨rfl, rfl⟩
    · have e1 : decide ((s.size : Int) < 1) = false := decide_eq_false (by omega)
      have e2 : decide ((16 : Int) < (s.size : Int)) = true := decide_eq_true (by omega)
      clear h h1
      go_enter Try.func55, Try.ntmps55
      go_wp2
      go_ret
      exact ⟨rfl, rfl⟩
set_option maxRecDepth 100000 in
theorem refschfind_any (w : World) (a : Option Addr) (cap : Nat) (s : Sc) (nm : ByteArray) (ha : IsCo w a s.cs) (hl : s.cs.length ≤ maxLen) :
    Calls Try.prog 27 #[.agg #[.int .i64 s.id, .slice a s.cs.length cap, .int .i64 s.next], .string nm] w fun e w' => e = .returned (.int .i64 (findA s.cs nm)) ∧ Below w.heap.size w w' := by
  unfold maxLen at hl
  obtain ⟨R, hR⟩ : ∃ R, R = findA s.cs nm := ⟨_, rfl⟩
  rw [← hR]
  rw [findA_idx] at hR
  have HR := Lib.hid hR
  clear hR
  obtain ⟨u, hu⟩ : ∃ u, u = w.alloc (.cells #[.int .i64 s.id, .slice a s.cs.length cap, .int .i64 s.next] 24) := ⟨_, rfl⟩
  have HS : Hid (ScSlot u w.heap.size a cap s) := by rw [hu]; exact ScSlot.new w a cap s
  have HB : Hid (Below w.heap.size w u) := by rw [hu]; exact (Below.refl _ _).alloc (Nat.le_refl _) _
  have HA := Lib.hid (ha.below HB.out)
  obtain ⟨b0, b1, b2⟩ := HS.out.at
  clear ha
  go_enter Try.func27, Try.ntmps27
  go_upto_region 1 with fail
  rw [← hu]
  clear hu
  go_wp2
  go_loop [5] (fun iv => ∃ n : Nat, n ≤ s.cs.length ∧ iv = .int .i64 n ∧ Hid (∀ k (hk : k < s.cs.length), k < n → (fun c : Co => decide (c.nm = nm)) s.cs[k] = false)) (fun iv => s.cs.length - (intOf iv).toNat)
  case atStart => exact ⟨0, Nat.zero_le _, rfl, fun k _ hk => absurd hk (Nat.not_lt_zero k)⟩
  case round =>
    obtain ⟨n, hle, rfl, HN⟩ := hrel
    by_cases cn : n < s.cs.length
    · rcases HA.out with e | ⟨b, off, rfl, hcc⟩
      · rw [e] at cn; simp at cn
      obtain ⟨p0, p1, p2⟩ := hcc n cn
      have HCN := Lib.hid cn
      have hni : (n : Int) < (s.cs.length : Int) := by omega
      clear hcc
      by_cases hx : s.cs[n].nm = nm
      · have he : (s.cs[n].nm.toList == nm.toList) = true := by rw [hx]; exact beq_self_eq_true _
        obtain rfl : R = (n : Int) := HR.out.trans (idx_at HCN.out (decide_eq_true hx) HN.out)
        clear HR hx p0 p2
        generalize s.cs[n].nm = vn at p1 he
        go_wp2
        go_ret
        exact ⟨rfl, HB.out⟩
      · have he : (s.cs[n].nm.toList == nm.toList) = false := by rw [beq_eq_false_iff_ne]; exact fun e => hx (text_inj (by simpa using e))
        have HX := Lib.hid hx
        clear hx p0 p2
        generalize s.cs[n].nm = vn at p1 he
        go_wp2
        go_round
        case rel => exact ⟨n + 1, by have := HCN.out; omega, by go_num, fun k hk hkn => by
          rcases Nat.lt_or_ge k n with h | h
          · exact HN.out k hk h
          · obtain rfl : k = n := by omega
            exact decide_eq_false HX.out⟩
        case measure => have := HCN.out; simp [intOf]; omega
    · obtain rfl : n = s.cs.length := by omega
      obtain rfl : R = -1 := HR.out.trans (idx_none fun k hk => HN.out k hk hk)
      clear cn HR
      go_wp2
      go_ret
      exact ⟨rfl, HB.out⟩
end Go.Proofs.Ythfakpekdjmpjaa
