/- The program's schemas: which names, kinds, columns, schemas may be; where a column stands. -/
import Derived.Test.YthfakpekdjmpjaaScm
import Derived.Laws.MakeOwn
import Derived.Deep.Cut
namespace Go.Proofs.Ythfakpekdjmpjaa
open Go.Conc Go.RowKit
set_option linter.unusedVariables false
set_option linter.unusedSimpArgs false

set_option maxRecDepth 100000 in
theorem sign_any (b : UInt8) (w : World) : Calls Try.prog 88 #[.int .u8 (b.toNat : Int)] w fun e w' => e = .returned (.bool (signB b)) ∧ w = w' := by
  unfold signB
  generalize b.toNat = x
  have key : ∀ (b1 b2 b3 b4 b5 : Bool), decide ((97 : Int) ≤ (x : Int)) = b1 → decide ((x : Int) ≤ 122) = b2 → decide ((48 : Int) ≤ (x : Int)) = b3 → decide ((x : Int) ≤ 57) = b4 → ((x : Int) == 95) = b5 →
      Calls Try.prog 88 #[.int .u8 (x : Int)] w fun e w' => e = .returned (.bool ((b1 && b2) || ((b3 && b4) || b5))) ∧ w = w' := by
    intro b1 b2 b3 b4 b5 h1 h2 h3 h4 h5
    cases b1 <;> cases b2 <;> cases b3 <;> cases b4 <;> cases b5 <;> (go_enter Try.func88, Try.ntmps88; go_wp2; go_ret; exact ⟨rfl, rfl⟩)
  have h := key _ _ _ _ _ rfl rfl rfl rfl rfl
  have e1 : decide ((97 : Int) ≤ (x : Int)) = decide (97 ≤ x) := by rw [Bool.eq_iff_iff, decide_eq_true_eq, decide_eq_true_eq]; omega
  have e2 : decide ((x : Int) ≤ 122) = decide (x ≤ 122) := by rw [Bool.eq_iff_iff, decide_eq_true_eq, decide_eq_true_eq]; omega
  have e3 : decide ((48 : Int) ≤ (x : Int)) = decide (48 ≤ x) := by rw [Bool.eq_iff_iff, decide_eq_true_eq, decide_eq_true_eq]; omega
  have e4 : decide ((x : Int) ≤ 57) = decide (x ≤ 57) := by rw [Bool.eq_iff_iff, decide_eq_true_eq, decide_eq_true_eq]; omega
  have e5 : ((x : Int) == 95) = decide (x = 95) := by rw [Bool.eq_iff_iff, decide_eq_true_eq, beq_iff_eq]; omega
  rw [e1, e2, e3, e4, e5] at h
  exact h
set_option maxRecDepth 100000 in
theorem kind_any (k : Int) (w : World) : Calls Try.prog 53 #[.int .i64 k] w fun e w' => e = .returned (.bool (kindB k)) ∧ w = w' := by
  unfold kindB
  by_cases h1 : k = 1
  · subst h1
    go_enter Try.func53, Try.ntmps53
    go_wp2
    go_ret
    exact ⟨rfl, rfl⟩
  by_cases h2 : k = 2
  · subst h2
    go_enter Try.func53, Try.ntmps53
    go_wp2
    go_ret
    exact ⟨rfl, rfl⟩
  by_cases h3 : k = 3
  · subst h3
    go_enter Try.func53, Try.ntmps53
    go_wp2
    go_ret
    exact ⟨rfl, rfl⟩
  · rw [decide_eq_false (by omega)]
    have e1 : (k == 1) = false := by simpa using h1
    have e2 : (k == 2) = false := by simpa using h2
    have e3 : (k == 3) = false := by simpa using h3
    clear h1 h2 h3
    go_enter Try.func53, Try.ntmps53
    go_wp2
    go_ret
    exact ⟨rfl, rfl⟩
theorem name_short {s : ByteArray} (h : ¬ (1 ≤ s.size ∧ s.size ≤ 16)) : nameB s = false := by
  unfold nameB
  by_cases h1 : 1 ≤ s.size
  · rw [decide_eq_false (p := s.size ≤ 16) (by omega)]; simp
  · rw [decide_eq_false h1]; rfl
theorem name_bad {s : ByteArray} {n : Nat} (hn : n < s.size) (h : signB s[n] = false) : nameB s = false := by
  unfold nameB
  have : s.data.toList.all signB = false := by
    rw [List.all_eq_false]
    exact ⟨s[n], by rw [Array.mem_toList_iff]; exact Array.getElem_mem _, by rw [h]; simp⟩
  rw [this]; simp
theorem name_good {s : ByteArray} (h : 1 ≤ s.size ∧ s.size ≤ 16) (ha : ∀ n (hn : n < s.size), signB s[n] = true) : nameB s = true := by
  unfold nameB
  rw [decide_eq_true h.1, decide_eq_true h.2]
  show s.data.toList.all signB = true
  rw [List.all_eq_true]
  intro x hx
  rw [Array.mem_toList_iff] at hx
  obtain ⟨i, hi, rfl⟩ := Array.getElem_of_mem hx
  exact ha i hi
set_option maxRecDepth 100000 in
theorem name_any (s : ByteArray) (w : World) : Calls Try.prog 52 #[.string s] w fun e w' => e = .returned (.bool (nameB s)) ∧ w = w' := by
  by_cases h : 1 ≤ s.size ∧ s.size ≤ 16
  · have h1 : decide ((s.size : Int) < 1) = false := decide_eq_false (by omega)
    have h2 : decide ((16 : Int) < (s.size : Int)) = false := decide_eq_false (by omega)
    have HH := Lib.hid h
    have hz : s.size < 17 := by omega
    obtain ⟨R, hR⟩ : ∃ R, R = nameB s := ⟨_, rfl⟩
    rw [← hR]
    have HR := Lib.hid hR
    clear h hR
    go_enter Try.func52, Try.ntmps52
    go_wp2
    go_loop [14] (fun iv => ∃ n : Nat, n ≤ s.size ∧ iv = .int .i64 n ∧ Hid (∀ k (hk : k < s.size), k < n → signB s[k] = true)) (fun iv => s.size - (intOf iv).toNat)
    case atStart => exact ⟨0, Nat.zero_le _, rfl, fun k _ hk => absurd hk (Nat.not_lt_zero k)⟩
    case round =>
      obtain ⟨n, hle, rfl, HA⟩ := hrel
      by_cases cn : n < s.size
      · have T := Lib.hid (fun v => sign_any s[n] v)
        cases hs : signB s[n]
        · rw [hs] at T
          obtain rfl : R = false := HR.out.trans (name_bad cn hs)
          clear hs HR
          go_wp2_with (go_at_call 88; refine (T.out _).mono ?_; rintro e w' ⟨rfl, rfl⟩)
          go_ret
          exact ⟨rfl, rfl⟩
        · rw [hs] at T
          have HS := Lib.hid hs
          clear hs
          go_wp2_with (go_at_call 88; refine (T.out _).mono ?_; rintro e w' ⟨rfl, rfl⟩)
          go_round
          case rel => exact ⟨n + 1, by omega, by go_num, fun k hk hkn => by
            rcases Nat.lt_or_ge k n with h | h
            · exact HA.out k hk h
            · obtain rfl : k = n := by omega
              exact HS.out⟩
          case measure => simp [intOf]; omega
      · obtain rfl : n = s.size := by omega
        obtain rfl : R = true := HR.out.trans (name_good HH.out fun k hk => HA.out k hk hk)
        clear cn HR
        go_wp2
        go_ret
        exact ⟨rfl, rfl⟩
  · rw [name_short h]
    by_cases h1 : s.size < 1
    · have e1 : decide ((s.size : Int) < 1) = true := decide_eq_true (by omega)
      clear h h1
      go_enter Try.func52, Try.ntmps52
      go_wp2
      go_ret
      exact ⟨rfl, rfl⟩
    · have e1 : decide ((s.size : Int) < 1) = false := decide_eq_false (by omega)
      have e2 : decide ((16 : Int) < (s.size : Int)) = true := decide_eq_true (by omega)
      clear h h1
      go_enter Try.func52, Try.ntmps52
      go_wp2
      go_ret
      exact ⟨rfl, rfl⟩
theorem CoAt.new (w : World) (c : Co) : CoAt (w.alloc (.cells #[.int .i64 c.id, .string c.nm, .int .i64 c.kd] 49)) w.heap.size 0 c := by
  have h := heap_alloc_new w (.cells #[.int .i64 c.id, .string c.nm, .int .i64 c.kd] 49)
  exact ⟨cell_of_row _ _ _ _ _ _ h, cell_of_row _ _ _ _ _ _ h, cell_of_row _ _ _ _ _ _ h⟩
set_option maxRecDepth 100000 in
theorem stand_any (c : Co) (next : Int) (w : World) : Calls Try.prog 62 #[.agg #[.int .i64 c.id, .string c.nm, .int .i64 c.kd], .int .i64 next] w fun e w' => e = .returned (.bool (okCol next c)) ∧ Below w.heap.size w w' := by
  unfold okCol
  have T1 := Lib.hid (fun v => name_any c.nm v)
  have T2 := Lib.hid (fun v => kind_any c.kd v)
  obtain ⟨u, hu⟩ : ∃ u, u = w.alloc (.cells #[.int .i64 c.id, .string c.nm, .int .i64 c.kd] 49) := ⟨_, rfl⟩
  have hc : CoAt u w.heap.size 0 c := by rw [hu]; exact CoAt.new w c
  have HB : Hid (Below w.heap.size w u) := by rw [hu]; exact (Below.refl _ _).alloc (Nat.le_refl _) _
  obtain ⟨c0, c1, c2⟩ := hc
  generalize nameB c.nm = b3 at *
  generalize kindB c.kd = b4 at *
  obtain ⟨id, nm, kd⟩ := c
  simp only at *
  have e1 : ∀ b : Bool, decide (1 ≤ id) = b → decide ((1 : Int) ≤ id) = b := fun b h => h
  cases h1 : decide (1 ≤ id) <;> cases h2 : decide (id < next) <;> cases b3 <;> cases b4 <;> (
    go_enter Try.func62, Try.ntmps62
    go_upto_region 1 with fail
    rw [← hu]
    clear hu
    go_wp2_with (first
      | (go_at_call 52; refine (T1.out _).mono ?_; rintro e w' ⟨rfl, rfl⟩)
      | (go_at_call 53; refine (T2.out _).mono ?_; rintro e w' ⟨rfl, rfl⟩))
    go_ret
    exact ⟨rfl, HB.out⟩)
end Go.Proofs.Ythfakpekdjmpjaa
