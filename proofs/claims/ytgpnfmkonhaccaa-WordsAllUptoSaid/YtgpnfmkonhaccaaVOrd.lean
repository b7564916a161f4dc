/- The document's order of values. -/
import Derived.Test.YtgpnfmkonhaccaaVClean
import Derived.Test.YtgpnfmkonhaccaaRBelow
import Derived.Test.YtgpnfmkonhaccaaRegion
namespace Go.Proofs.Ytgpnfmkonhaccaa
open Go.Conc Go.RowKit
set_option linter.unusedVariables false
set_option linter.unusedSimpArgs false

/-- The document's order of values. -/
def ordV (a b : V) : Int :=
  if kindV a < kindV b then -1 else if kindV b < kindV a then 1 else
  if kindV a = 1 then (if a.i < b.i then -1 else if b.i < a.i then 1 else 0)
  else if kindV a = 2 then (if (!a.b && b.b) = true then -1 else if (a.b && !b.b) = true then 1 else 0)
  else if kindV a = 3 then (if cmpK a.s b.s < 0 then -1 else if cmpK b.s a.s < 0 then 1 else 0) else 0

set_option maxRecDepth 100000 in
set_option maxHeartbeats 4000000 in
theorem rcmp_any (a b : V) (ha : a.s.size ≤ 9223372036854775807) (hb : b.s.size ≤ 9223372036854775807) (w : World) : Calls Try.prog 21 #[.agg #[.int .i64 a.k, .int .i64 a.i, .bool a.b, .string a.s], .agg #[.int .i64 b.k, .int .i64 b.i, .bool b.b, .string b.s]] w fun e w' => e = .returned (.int .i64 (ordV a b)) ∧ Below w.heap.size w w' := by
  obtain ⟨R, hR⟩ : ∃ R, R = ordV a b := ⟨_, rfl⟩
  rw [← hR]
  have HR := Lib.hid hR
  clear hR
  have T1 := Lib.hid rkind_any
  have T3 : Hid (∀ (x y : ByteArray), y.size ≤ 9223372036854775807 → ∀ u, Calls Try.prog 27 #[.string x, .string y] u fun e w' => e = .returned (.bool (decide (cmpK x y < 0))) ∧ Below u.heap.size u w') := fun x y h u => rbelow_any x y u h
  obtain ⟨u, hu⟩ : ∃ u, u = ((w.alloc (.cells #[.int .i64 a.k, .int .i64 a.i, .bool a.b, .string a.s] 41)).alloc (.cells #[.int .i64 b.k, .int .i64 b.i, .bool b.b, .string b.s] 41)) := ⟨_, rfl⟩
  have hs0 : Slot u w.heap.size a := by rw [hu]; exact (Slot.new w a).alloc _
  have hs1 : Slot u (w.heap.size + 1) b := by
    have := Slot.new (w.alloc (.cells #[.int .i64 a.k, .int .i64 a.i, .bool a.b, .string a.s] 41)) b
    rw [hu]; simpa using this
  have hb0 : Below w.heap.size w u := by rw [hu]; exact (((Below.refl _ _).alloc (Nat.le_refl _) _).alloc (by simp) _)
  have HS0 := Lib.hid hs0
  have HS1 := Lib.hid hs1
  have HB0 := Lib.hid hb0
  clear hs0 hs1 hb0
  go_enter Try.func21, Try.ntmps21
  go_upto_region 1 with fail
  rw [← hu]
  clear hu
  refine region_class (fun w' => Below u.heap.size u w') (by kernel_rfl) (by kernel_rfl) (Below.refl _ _).drew ?_
  repeat (
    refine wpQuiet_step (fun K hK => ?_)
    go_simp
    first
    | (refine hK _ ?_; clear hK K)
    | (apply Exists.intro
       refine ⟨fun w1 hw1 => ?_, hK _ ?_⟩
       (first
         | (obtain ⟨⟨p0, p1, p2, p3⟩, _⟩ := (HS0.out.below hw1).at; simp only [p0, p1, p2, p3, Result.andThen]; exact ⟨trivial, rfl⟩)
         | (obtain ⟨⟨p0, p1, p2, p3⟩, _⟩ := (HS1.out.below hw1).at; simp only [p0, p1, p2, p3, Result.andThen]; exact ⟨trivial, rfl⟩)
         | (go_at_call 26; exact (T1.out _ _).mono fun e w2 ⟨he, hb⟩ => ⟨he, hw1.trans (hb.mono hw1.size)⟩)
         | (exact rfl))
       clear hK K))
  refine wpQuiet_nil ?_
  intro w1 hw1
  have HS0' := Lib.hid (HS0.out.below hw1)
  have HS1' := Lib.hid (HS1.out.below hw1)
  have HB1 := Lib.hid (HB0.out.trans (hw1.mono HB0.out.size))
  clear HS0 HS1 HB0 hw1 T1
  have hka := kindV_range a
  have hkb := kindV_range b
  have hR := HR.out
  clear HR
  unfold ordV at hR
  generalize kindV a = ka at *
  generalize kindV b = kb at *
  obtain ⟨⟨p0, p1, p2, p3⟩, _⟩ := HS0'.out.at
  obtain ⟨⟨q0, q1, q2, q3⟩, _⟩ := HS1'.out.at
  by_cases hlt : ka < kb
  · rw [if_pos hlt] at hR
    subst hR
    have hne : (ka != kb) = true := by simp; omega
    clear p0 p1 p2 p3 q0 q1 q2 q3
    go_wp2
    go_ret
    exact ⟨rfl, HB1.out⟩
  rw [if_neg hlt] at hR
  by_cases hgt : kb < ka
  · rw [if_pos hgt] at hR
    subst hR
    have hne : (ka != kb) = true := by simp; omega
    clear p0 p1 p2 p3 q0 q1 q2 q3
    go_wp2
    go_ret
    exact ⟨rfl, HB1.out⟩
  rw [if_neg hgt] at hR
  obtain rfl : ka = kb := by omega
  clear hlt hgt hkb
  by_cases h1 : ka = 1
  · rw [if_pos h1] at hR
    subst h1
    clear p0 p2 p3 q0 q2 q3 hka
    by_cases hlt : a.i < b.i
    · rw [if_pos hlt] at hR
      subst hR
      have hng : ¬ b.i < a.i := by omega
      go_wp2
      go_quiet (fail)
      go_wp2
      go_ret
      exact ⟨rfl, bel_drewN HB1.out⟩
    rw [if_neg hlt] at hR
    by_cases hgt : b.i < a.i
    · rw [if_pos hgt] at hR
      subst hR
      go_wp2
      go_quiet (fail)
      go_wp2
      go_ret
      exact ⟨rfl, bel_drewN HB1.out⟩
    · rw [if_neg hgt] at hR
      subst hR
      go_wp2
      go_quiet (fail)
      go_wp2
      go_ret
      exact ⟨rfl, bel_drewN HB1.out⟩
  rw [if_neg h1] at hR
  by_cases h2 : ka = 2
  · rw [if_pos h2] at hR
    subst h2
    clear p0 p1 p3 q0 q1 q3 hka h1
    generalize a.b = x at *
    generalize b.b = y at *
    cases x <;> cases y
    all_goals
      simp at hR
      subst hR
      go_wp2
      go_quiet (fail)
      go_wp2
      go_ret
      exact ⟨rfl, bel_drewN HB1.out⟩
  rw [if_neg h2] at hR
  by_cases h3 : ka = 3
  · rw [if_pos h3] at hR
    subst h3
    clear p0 p1 p2 p3 q0 q1 q2 q3 hka h1 h2
    go_upto_region 13 with fail
    refine region_class (fun w' => Below w1.heap.size w1 w') (by kernel_rfl) (by kernel_rfl) (Below.refl _ _).drew ?_
    repeat (
      refine wpQuiet_step (fun K hK => ?_)
      go_simp
      first
      | (refine hK _ ?_; clear hK K)
      | (apply Exists.intro
         refine ⟨fun w2 hw2 => ?_, hK _ ?_⟩
         (first
           | (obtain ⟨⟨p0, p1, p2, p3⟩, _⟩ := (HS0'.out.below hw2).at; simp only [p3, Result.andThen]; exact ⟨trivial, rfl⟩)
           | (obtain ⟨⟨p0, p1, p2, p3⟩, _⟩ := (HS1'.out.below hw2).at; simp only [p3, Result.andThen]; exact ⟨trivial, rfl⟩)
           | (go_at_call 27; exact (T3.out _ _ (by assumption) _).mono fun e w3 ⟨he, hb⟩ => ⟨he, hw2.trans (hb.mono hw2.size)⟩)
           | (exact rfl))
         clear hK K))
    refine wpQuiet_nil ?_
    intro w2 hw2
    have HB2 := Lib.hid (HB1.out.trans (hw2.mono HB1.out.size))
    clear HS0' HS1' hw2 T3 HB1 ha hb
    by_cases c1 : cmpK a.s b.s < 0
    · rw [if_pos c1] at hR
      subst hR
      have e1 : decide (cmpK a.s b.s < 0) = true := decide_eq_true c1
      generalize decide (cmpK a.s b.s < 0) = x1 at *
      generalize decide (cmpK b.s a.s < 0) = x2 at *
      subst e1
      clear c1
      go_wp2
      go_ret
      exact ⟨rfl, HB2.out⟩
    rw [if_neg c1] at hR
    have e1 : decide (cmpK a.s b.s < 0) = false := decide_eq_false c1
    by_cases c2 : cmpK b.s a.s < 0
    · rw [if_pos c2] at hR
      subst hR
      have e2 : decide (cmpK b.s a.s < 0) = true := decide_eq_true c2
      generalize decide (cmpK a.s b.s < 0) = x1 at *
      generalize decide (cmpK b.s a.s < 0) = x2 at *
      subst e1 e2
      clear c1 c2
      go_wp2
      go_ret
      exact ⟨rfl, HB2.out⟩
    · rw [if_neg c2] at hR
      subst hR
      have e2 : decide (cmpK b.s a.s < 0) = false := decide_eq_false c2
      generalize decide (cmpK a.s b.s < 0) = x1 at *
      generalize decide (cmpK b.s a.s < 0) = x2 at *
      subst e1 e2
      clear c1 c2
      go_wp2
      go_ret
      exact ⟨rfl, HB2.out⟩
  rw [if_neg h3] at hR
  obtain rfl : ka = 0 := by omega
  clear p0 p1 p2 p3 q0 q1 q2 q3 hka h1 h2 h3
  subst hR
  go_wp2
  go_ret
  exact ⟨rfl, HB1.out⟩
theorem cmpK_zero {a b : ByteArray} (h1 : ¬ cmpK a b < 0) (h2 : ¬ cmpK b a < 0) : a = b := by
  have h3 := cmpK_swap a b
  exact cmpK_eq a b (by omega)
/-- Values are one just where the order does not part them. -/
theorem ordV_zero (a b : V) : ordV a b = 0 ↔ plainV a = plainV b := by
  by_cases hk : kindV a = kindV b
  · unfold ordV
    rw [if_neg (by omega), if_neg (by omega)]
    by_cases h1 : kindV a = 1
    · rw [if_pos h1, plainV_int (kind_one.1 h1), plainV_int (kind_one.1 (hk ▸ h1))]
      constructor
      · intro h
        split at h
        · omega
        · split at h
          · omega
          · have : a.i = b.i := by omega
            rw [this]
      · intro h
        injection h with _ h2 _ _
        rw [h2, if_neg (by omega), if_neg (by omega)]
    rw [if_neg h1]
    by_cases h2 : kindV a = 2
    · rw [if_pos h2, plainV_bool (kind_two.1 h2), plainV_bool (kind_two.1 (hk ▸ h2))]
      generalize a.b = x
      generalize b.b = y
      cases x <;> cases y <;> simp
    rw [if_neg h2]
    by_cases h3 : kindV a = 3
    · rw [if_pos h3, plainV_text (kind_three.1 h3), plainV_text (kind_three.1 (hk ▸ h3))]
      constructor
      · intro h
        split at h
        · omega
        · split at h
          · omega
          · rename_i c1 c2
            rw [cmpK_zero c1 c2]
      · intro h
        injection h with _ _ _ h4
        rw [h4, cmpK_refl, if_neg (by omega), if_neg (by omega)]
    · rw [if_neg h3]
      have n1 : ¬ a.k = 1 := fun e => h1 (kind_one.2 e)
      have n2 : ¬ a.k = 2 := fun e => h2 (kind_two.2 e)
      have n3 : ¬ a.k = 3 := fun e => h3 (kind_three.2 e)
      have m1 : ¬ b.k = 1 := fun e => h1 (hk ▸ kind_one.2 e)
      have m2 : ¬ b.k = 2 := fun e => h2 (hk ▸ kind_two.2 e)
      have m3 : ¬ b.k = 3 := fun e => h3 (hk ▸ kind_three.2 e)
      rw [plainV_null n1 n2 n3, plainV_null m1 m2 m3]
      simp
  · constructor
    · intro h
      exfalso
      unfold ordV at h
      split at h
      · omega
      · split at h
        · omega
        · omega
    · intro h
      exact absurd (by rw [← plainV_kind, ← plainV_kind, h]) hk

end Go.Proofs.Ytgpnfmkonhaccaa
