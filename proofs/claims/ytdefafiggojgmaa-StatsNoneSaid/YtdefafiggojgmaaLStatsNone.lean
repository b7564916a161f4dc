/- Of nulls alone there are no bounds: the walk of the law. -/
import Derived.Test.YtdefafiggojgmaaSAwake
import Derived.Test.YtdefafiggojgmaaWmath
import Derived.Test.YtdefafiggojgmaaBits
namespace Go.Proofs.Ytdefafiggojgmaa
open Go.Conc Go.RowKit
set_option linter.unusedVariables false
set_option linter.unusedSimpArgs false

theorem of_zeros (c : Int) (k : Nat) : ofA c (List.replicate k zeroV) = ⟨c, k, zeroV, zeroV⟩ := by
  induction k with
  | zero => rfl
  | succ k ih =>
    rw [List.replicate_succ', of_null c _ kind_zeroV]
    unfold ofA at ih
    injection ih with _ h2 h3 h4
    rw [h2, h3, h4]
    rfl
def nS (c n : Int) : S := ⟨c, n, ⟨0, 0, false, ⟨#[]⟩⟩, ⟨0, 0, false, ⟨#[]⟩⟩⟩
set_option maxRecDepth 100000 in
set_option maxHeartbeats 4000000 in
theorem statsnone_walk (c m : Int) (x : S) {w : World} (sx : x.lo.s.size ≤ 140737488351232 ∧ x.hi.s.size ≤ 140737488351232) (_ : -9223372036854775808 ≤ x.c ∧ x.c < 9223372036854775808) (hxn : -9223372036854775808 ≤ x.n ∧ x.n < 9223372036854775808) :
    Calls Try.prog 5 #[.int .i64 c, .int .i64 m, .agg #[.int .i64 x.c, .int .i64 x.n, .int .i64 x.lo.k, .int .i64 x.lo.i, .bool x.lo.b, .string x.lo.s, .int .i64 x.hi.k, .int .i64 x.hi.i, .bool x.hi.b, .string x.hi.s]] w fun e w' => e = .returned (.bool true) ∧ Below w.heap.size w w' := by
  have em : bits .and .i64 m 63 = ((m % 64).toNat : Int) := lowBits 6 (by omega) m
  have hk : (m % 64).toNat < 64 := by omega
  generalize (m % 64).toNat = k at *
  have hkz : ∀ v ∈ List.replicate k zeroV, v.s.size ≤ 140737488351232 := fun v hv => by rw [List.eq_of_mem_replicate hv]; exact Nat.zero_le _
  have T2 : Hid (∀ (u : World) (p : Option Addr), IsV u p (List.replicate k zeroV) → Calls Try.prog 7 #[.int .i64 c, .slice p k k] u fun e w' => e = .returned (.agg #[.int .i64 c, .int .i64 k, .int .i64 0, .int .i64 0, .bool false, .string ⟨#[]⟩, .int .i64 0, .int .i64 0, .bool false, .string ⟨#[]⟩]) ∧ Below u.heap.size u w') := fun u p h => by
    have h := statof_any c p k (List.replicate k zeroV) u h (by rw [List.length_replicate]; omega) hkz
    rw [List.length_replicate, of_zeros] at h
    exact h
  have T3 : Hid (∀ (u : World), Calls Try.prog 7 #[.int .i64 c, .slice none 0 0] u fun e w' => e = .returned (.agg #[.int .i64 c, .int .i64 0, .int .i64 0, .int .i64 0, .bool false, .string ⟨#[]⟩, .int .i64 0, .int .i64 0, .bool false, .string ⟨#[]⟩]) ∧ Below u.heap.size u w') := fun u => by
    have h := statof_any c none 0 [] u (.inl rfl) (by decide) (fun v hv => by simp at hv)
    exact h
  have hz : ∀ n : Int, (⟨c, n, zeroV, zeroV⟩ : S).lo.s.size ≤ 140737488351232 ∧ (⟨c, n, zeroV, zeroV⟩ : S).hi.s.size ≤ 140737488351232 := fun n => ⟨Nat.zero_le _, Nat.zero_le _⟩
  have T4 : Hid (∀ (u : World), Calls Try.prog 9 #[.agg #[.int .i64 c, .int .i64 0, .int .i64 0, .int .i64 0, .bool false, .string ⟨#[]⟩, .int .i64 0, .int .i64 0, .bool false, .string ⟨#[]⟩], .agg #[.int .i64 c, .int .i64 k, .int .i64 0, .int .i64 0, .bool false, .string ⟨#[]⟩, .int .i64 0, .int .i64 0, .bool false, .string ⟨#[]⟩]] u fun e w' => e = .returned (.agg #[.int .i64 c, .int .i64 k, .int .i64 0, .int .i64 0, .bool false, .string ⟨#[]⟩, .int .i64 0, .int .i64 0, .bool false, .string ⟨#[]⟩]) ∧ Below u.heap.size u w') := fun u => by
    have h := statjoin_any ⟨c, 0, zeroV, zeroV⟩ ⟨c, k, zeroV, zeroV⟩ (hz _) (hz _) u
    have hj : joinS ⟨c, 0, zeroV, zeroV⟩ ⟨c, k, zeroV, zeroV⟩ = ⟨c, k, zeroV, zeroV⟩ := by
      have h2 := join_of c c [] (List.replicate k zeroV) (by rw [List.length_replicate]; simp; omega)
      rw [List.nil_append, of_zeros] at h2
      exact h2
    rw [hj] at h
    exact h
  have T5 : Hid (∀ (u : World), Calls Try.prog 9 #[.agg #[.int .i64 c, .int .i64 k, .int .i64 0, .int .i64 0, .bool false, .string ⟨#[]⟩, .int .i64 0, .int .i64 0, .bool false, .string ⟨#[]⟩], .agg #[.int .i64 c, .int .i64 0, .int .i64 0, .int .i64 0, .bool false, .string ⟨#[]⟩, .int .i64 0, .int .i64 0, .bool false, .string ⟨#[]⟩]] u fun e w' => e = .returned (.agg #[.int .i64 c, .int .i64 k, .int .i64 0, .int .i64 0, .bool false, .string ⟨#[]⟩, .int .i64 0, .int .i64 0, .bool false, .string ⟨#[]⟩]) ∧ Below u.heap.size u w') := fun u => by
    have h := statjoin_any ⟨c, k, zeroV, zeroV⟩ ⟨c, 0, zeroV, zeroV⟩ (hz _) (hz _) u
    have hj : joinS ⟨c, k, zeroV, zeroV⟩ ⟨c, 0, zeroV, zeroV⟩ = ⟨c, k, zeroV, zeroV⟩ := by
      have h2 := join_of c c (List.replicate k zeroV) [] (by rw [List.length_replicate]; simp; omega)
      rw [List.append_nil, of_zeros] at h2
      exact h2
    rw [hj] at h
    exact h
  obtain ⟨lo, hlo⟩ : ∃ lo, lo = (joinS x ⟨c, 0, zeroV, zeroV⟩).lo := ⟨_, rfl⟩
  obtain ⟨hi, hhi⟩ : ∃ hi, hi = (joinS x ⟨c, 0, zeroV, zeroV⟩).hi := ⟨_, rfl⟩
  have hj : joinS x ⟨c, 0, zeroV, zeroV⟩ = ⟨x.c, x.n, lo, hi⟩ := by
    rw [hlo, hhi]
    unfold joinS
    simp only [S.mk.injEq, and_true, true_and]
    rw [show wrap64 (x.n + 0) = x.n by unfold wrap64; omega]
  have T6 : Hid (∀ (u : World), Calls Try.prog 9 #[.agg #[.int .i64 x.c, .int .i64 x.n, .int .i64 x.lo.k, .int .i64 x.lo.i, .bool x.lo.b, .string x.lo.s, .int .i64 x.hi.k, .int .i64 x.hi.i, .bool x.hi.b, .string x.hi.s], .agg #[.int .i64 c, .int .i64 0, .int .i64 0, .int .i64 0, .bool false, .string ⟨#[]⟩, .int .i64 0, .int .i64 0, .bool false, .string ⟨#[]⟩]] u fun e w' => e = .returned (.agg #[.int .i64 x.c, .int .i64 x.n, .int .i64 lo.k, .int .i64 lo.i, .bool lo.b, .string lo.s, .int .i64 hi.k, .int .i64 hi.i, .bool hi.b, .string hi.s]) ∧ Below u.heap.size u w') := fun u => by
    have h := statjoin_any x ⟨c, 0, zeroV, zeroV⟩ sx (hz _) u
    rw [hj] at h
    exact h
  have T8 := Lib.hid statawake_any
  have hq1 : ∀ w, (binOp .eql 26 (.agg #[.int .i64 c, .int .i64 k, .int .i64 0, .int .i64 0, .bool false, .string ⟨#[]⟩, .int .i64 0, .int .i64 0, .bool false, .string ⟨#[]⟩]) (.agg #[.int .i64 c, .int .i64 k, .int .i64 0, .int .i64 0, .bool false, .string ⟨#[]⟩, .int .i64 0, .int .i64 0, .bool false, .string ⟨#[]⟩])).run Try.prog w = .ok (.bool true) w := fun w => by
    have h := run_eql_stat ⟨c, k, zeroV, zeroV⟩ ⟨c, k, zeroV, zeroV⟩ w
    rw [decide_eq_true rfl] at h
    exact h
  have hq2 : ∀ w, (binOp .eql 26 (.agg #[.int .i64 c, .int .i64 0, .int .i64 0, .int .i64 0, .bool false, .string ⟨#[]⟩, .int .i64 0, .int .i64 0, .bool false, .string ⟨#[]⟩]) (.agg #[.int .i64 c, .int .i64 0, .int .i64 0, .int .i64 0, .bool false, .string ⟨#[]⟩, .int .i64 0, .int .i64 0, .bool false, .string ⟨#[]⟩])).run Try.prog w = .ok (.bool true) w := fun w => by
    have h := run_eql_stat ⟨c, 0, zeroV, zeroV⟩ ⟨c, 0, zeroV, zeroV⟩ w
    rw [decide_eq_true rfl] at h
    exact h
  have hfd : ∀ w : World, (Instr.field 26 (.agg #[.int .i64 x.c, .int .i64 x.n, .int .i64 lo.k, .int .i64 lo.i, .bool lo.b, .string lo.s, .int .i64 hi.k, .int .i64 hi.i, .bool hi.b, .string hi.s]) 1).run Try.prog w = .ok (.int .i64 x.n) w := fun _ => by kernel_rfl
  obtain ⟨u1, hu1⟩ : ∃ u1, u1 = w.alloc (.cells #[.int .i64 x.c, .int .i64 x.n, .int .i64 x.lo.k, .int .i64 x.lo.i, .bool x.lo.b, .string x.lo.s, .int .i64 x.hi.k, .int .i64 x.hi.i, .bool x.hi.b, .string x.hi.s] 26) := ⟨_, rfl⟩
  have hb1 : Below w.heap.size w u1 := by rw [hu1]; exact (Below.refl _ w).alloc (Nat.le_refl _) _
  have h1 : SSlot u1 w.heap.size x := by rw [hu1]; exact SSlot.new w x
  have HB := Lib.hid hb1
  have H1 := Lib.hid h1
  clear hb1 h1 sx hxn hz hj hlo hhi hkz
  go_enter Try.func5, Try.ntmps5
  go_upto_region 1 with fail
  rw [← hu1]
  clear hu1
  go_upto_region 4 with (go_at_call 12; refine (T8.out _).mono ?_; rintro e w2 ⟨rfl, hb⟩; replace HB := Lib.hid (HB.out.trans (hb.mono HB.out.size)); replace H1 := Lib.hid (H1.out.below hb); clear hb T8)
  obtain ⟨C, hm, ho⟩ := made_vals_own w2 k (by omega)
  have HV := Lib.hid ho.isV
  have hbm : Below w2.heap.size w2 (w2.alloc (.cells C 24)) := (Below.refl _ _).alloc (Nat.le_refl _) _
  have HBM := Lib.hid hbm
  clear ho hbm em
  go_upto_region 5 with (go_at_call 7; refine (T2.out _ _ HV.out).mono ?_; rintro e w3 ⟨rfl, hb⟩; replace hb := HBM.out.trans (hb.mono HBM.out.size); replace HB := Lib.hid (HB.out.trans (hb.mono HB.out.size)); replace H1 := Lib.hid (H1.out.below hb); clear hb)
  obtain ⟨u3, hu3⟩ : ∃ u3, u3 = w3.alloc (.cells #[.int .i64 c, .int .i64 k, .int .i64 0, .int .i64 0, .bool false, .string ⟨#[]⟩, .int .i64 0, .int .i64 0, .bool false, .string ⟨#[]⟩] 26) := ⟨_, rfl⟩
  rw [← hu3]
  have h2 : SSlot u3 w3.heap.size (nS c k) := by rw [hu3]; exact SSlot.new w3 (nS c k)
  have h1 : SSlot u3 w.heap.size x := by rw [hu3]; exact H1.out.alloc _
  have hb : Below w.heap.size w u3 := by rw [hu3]; exact HB.out.alloc HB.out.size _
  have H2 := Lib.hid h2
  replace H1 := Lib.hid h1
  replace HB := Lib.hid hb
  clear hu3 h1 h2 hb HV HBM hm T2
  generalize w3.heap.size = gs at *
  go_upto_region 6 with (go_at_call 7; refine (T3.out _).mono ?_; rintro e w4 ⟨rfl, hb⟩; replace HB := Lib.hid (HB.out.trans (hb.mono HB.out.size)); replace H1 := Lib.hid (H1.out.below hb); replace H2 := Lib.hid (H2.out.below hb); clear hb T3)
  obtain ⟨u4, hu4⟩ : ∃ u4, u4 = w4.alloc (.cells #[.int .i64 c, .int .i64 0, .int .i64 0, .int .i64 0, .bool false, .string ⟨#[]⟩, .int .i64 0, .int .i64 0, .bool false, .string ⟨#[]⟩] 26) := ⟨_, rfl⟩
  rw [← hu4]
  have h3 : SSlot u4 w4.heap.size (nS c 0) := by rw [hu4]; exact SSlot.new w4 (nS c 0)
  have h2 : SSlot u4 gs (nS c k) := by rw [hu4]; exact H2.out.alloc _
  have h1 : SSlot u4 w.heap.size x := by rw [hu4]; exact H1.out.alloc _
  have hb : Below w.heap.size w u4 := by rw [hu4]; exact HB.out.alloc HB.out.size _
  have H3 := Lib.hid h3
  replace H2 := Lib.hid h2
  replace H1 := Lib.hid h1
  replace HB := Lib.hid hb
  clear hu4 h1 h2 h3 hb
  generalize w4.heap.size = gt at *
  obtain ⟨⟨z0, z1, z2, z3, z4, z5, z6, z7, z8, z9⟩, _⟩ := H2.out.at
  obtain ⟨⟨x0, x1, x2, x3, x4, x5, x6, x7, x8, x9⟩, _⟩ := H3.out.at
  simp only [nS] at z0 z1 z2 z3 z4 z5 z6 z7 z8 z9 x0 x1 x2 x3 x4 x5 x6 x7 x8 x9
  go_upto_region 7 with (go_at_call 9; refine (T4.out _).mono ?_; rintro e w5 ⟨rfl, hb⟩; replace HB := Lib.hid (HB.out.trans (hb.mono HB.out.size)); replace H1 := Lib.hid (H1.out.below hb); replace H2 := Lib.hid (H2.out.below hb); replace H3 := Lib.hid (H3.out.below hb); clear hb T4 z0 z1 z2 z3 z4 z5 z6 z7 z8 z9 x0 x1 x2 x3 x4 x5 x6 x7 x8 x9)
  obtain ⟨u5, hu5⟩ : ∃ u5, u5 = w5.alloc (.cells #[.int .i64 c, .int .i64 k, .int .i64 0, .int .i64 0, .bool false, .string ⟨#[]⟩, .int .i64 0, .int .i64 0, .bool false, .string ⟨#[]⟩] 26) := ⟨_, rfl⟩
  rw [← hu5]
  have h4 : SSlot u5 w5.heap.size (nS c k) := by rw [hu5]; exact SSlot.new w5 (nS c k)
  have h3 : SSlot u5 gt (nS c 0) := by rw [hu5]; exact H3.out.alloc _
  have h2 : SSlot u5 gs (nS c k) := by rw [hu5]; exact H2.out.alloc _
  have h1 : SSlot u5 w.heap.size x := by rw [hu5]; exact H1.out.alloc _
  have hb : Below w.heap.size w u5 := by rw [hu5]; exact HB.out.alloc HB.out.size _
  have H4 := Lib.hid h4
  replace H3 := Lib.hid h3
  replace H2 := Lib.hid h2
  replace H1 := Lib.hid h1
  replace HB := Lib.hid hb
  clear hu5 h1 h2 h3 h4 hb
  generalize w5.heap.size = gj at *
  obtain ⟨⟨z0, z1, z2, z3, z4, z5, z6, z7, z8, z9⟩, _⟩ := H2.out.at
  obtain ⟨⟨x0, x1, x2, x3, x4, x5, x6, x7, x8, x9⟩, _⟩ := H3.out.at
  simp only [nS] at z0 z1 z2 z3 z4 z5 z6 z7 z8 z9 x0 x1 x2 x3 x4 x5 x6 x7 x8 x9
  go_upto_region 8 with (go_at_call 9; refine (T5.out _).mono ?_; rintro e w6 ⟨rfl, hb⟩; replace HB := Lib.hid (HB.out.trans (hb.mono HB.out.size)); replace H1 := Lib.hid (H1.out.below hb); replace H2 := Lib.hid (H2.out.below hb); replace H3 := Lib.hid (H3.out.below hb); replace H4 := Lib.hid (H4.out.below hb); clear hb T5 z0 z1 z2 z3 z4 z5 z6 z7 z8 z9 x0 x1 x2 x3 x4 x5 x6 x7 x8 x9)
  obtain ⟨u6, hu6⟩ : ∃ u6, u6 = w6.alloc (.cells #[.int .i64 c, .int .i64 k, .int .i64 0, .int .i64 0, .bool false, .string ⟨#[]⟩, .int .i64 0, .int .i64 0, .bool false, .string ⟨#[]⟩] 26) := ⟨_, rfl⟩
  rw [← hu6]
  have h5 : SSlot u6 w6.heap.size (nS c k) := by rw [hu6]; exact SSlot.new w6 (nS c k)
  have h4 : SSlot u6 gj (nS c k) := by rw [hu6]; exact H4.out.alloc _
  have h3 : SSlot u6 gt (nS c 0) := by rw [hu6]; exact H3.out.alloc _
  have h2 : SSlot u6 gs (nS c k) := by rw [hu6]; exact H2.out.alloc _
  have h1 : SSlot u6 w.heap.size x := by rw [hu6]; exact H1.out.alloc _
  have hb : Below w.heap.size w u6 := by rw [hu6]; exact HB.out.alloc HB.out.size _
  have H5 := Lib.hid h5
  replace H4 := Lib.hid h4
  replace H3 := Lib.hid h3
  replace H2 := Lib.hid h2
  replace H1 := Lib.hid h1
  replace HB := Lib.hid hb
  clear hu6 h1 h2 h3 h4 h5 hb
  generalize w6.heap.size = go at *
  refine region_class (fun w' => Below u6.heap.size u6 w') (by kernel_rfl) (by kernel_rfl) (Below.refl _ _).drew ?_
  repeat (
    refine wpQuiet_step (fun K9 hK => ?_)
    go_simp
    first
    | (refine hK _ ?_; clear hK K9)
    | (apply Exists.intro
       refine ⟨fun w1 hw1 => ?_, hK _ ?_⟩
       (first
         | (exact rfl)
         | (go_at_call 15; exact (num_any _ _).mono fun e w2 ⟨he, hw⟩ => ⟨he, hw ▸ hw1⟩)
         | (go_at_call 9; exact (T6.out _).mono fun e w2 ⟨he, hb⟩ => ⟨he, hw1.trans (hb.mono hw1.size)⟩)
         | (simp only [hq1, Result.andThen]; exact ⟨trivial, rfl⟩)
         | (simp only [hq2, Result.andThen]; exact ⟨trivial, rfl⟩)
         | (simp only [hfd, Result.andThen]; exact ⟨trivial, rfl⟩)
         | (obtain ⟨⟨z0, z1, z2, z3, z4, z5, z6, z7, z8, z9⟩, _⟩ := (H1.out.below hw1).at; (try simp only [nS] at z0 z1 z2 z3 z4 z5 z6 z7 z8 z9); simp only [z0, z1, z2, z3, z4, z5, z6, z7, z8, z9, Result.andThen]; exact ⟨trivial, rfl⟩)
         | (obtain ⟨⟨z0, z1, z2, z3, z4, z5, z6, z7, z8, z9⟩, _⟩ := (H2.out.below hw1).at; (try simp only [nS] at z0 z1 z2 z3 z4 z5 z6 z7 z8 z9); simp only [z0, z1, z2, z3, z4, z5, z6, z7, z8, z9, Result.andThen]; exact ⟨trivial, rfl⟩)
         | (obtain ⟨⟨z0, z1, z2, z3, z4, z5, z6, z7, z8, z9⟩, _⟩ := (H3.out.below hw1).at; (try simp only [nS] at z0 z1 z2 z3 z4 z5 z6 z7 z8 z9); simp only [z0, z1, z2, z3, z4, z5, z6, z7, z8, z9, Result.andThen]; exact ⟨trivial, rfl⟩)
         | (obtain ⟨⟨z0, z1, z2, z3, z4, z5, z6, z7, z8, z9⟩, _⟩ := (H4.out.below hw1).at; (try simp only [nS] at z0 z1 z2 z3 z4 z5 z6 z7 z8 z9); simp only [z0, z1, z2, z3, z4, z5, z6, z7, z8, z9, Result.andThen]; exact ⟨trivial, rfl⟩)
         | (obtain ⟨⟨z0, z1, z2, z3, z4, z5, z6, z7, z8, z9⟩, _⟩ := (H5.out.below hw1).at; (try simp only [nS] at z0 z1 z2 z3 z4 z5 z6 z7 z8 z9); simp only [z0, z1, z2, z3, z4, z5, z6, z7, z8, z9, Result.andThen]; exact ⟨trivial, rfl⟩)
         | (exact ⟨trivial, rfl⟩))
       clear hK K9))
  refine wpQuiet_nil ?_
  intro w8 hw8
  go_wp2
  go_ret
  exact ⟨rfl, HB.out.trans (hw8.mono HB.out.size)⟩
end Go.Proofs.Ytdefafiggojgmaa
