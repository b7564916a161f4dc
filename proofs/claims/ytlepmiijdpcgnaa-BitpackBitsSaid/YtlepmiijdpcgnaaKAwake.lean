/- What every program answers that is one. -/
import Derived.Test.YtlepmiijdpcgnaaPack
import Derived.Test.YtlepmiijdpcgnaaUnpack
import Derived.Test.YtlepmiijdpcgnaaRPack
import Derived.Test.YtlepmiijdpcgnaaRUnpack
namespace Go.Proofs.Ytlepmiijdpcgnaa
open Go.Conc Go.RowKit
set_option linter.unusedVariables false

theorem num_any (n : Int) (w : World) : Calls Try.prog 11 #[.int .i64 n] w fun e w' => e = .returned (.int .i64 n) ∧ w = w' := by
  go_enter Try.func11, Try.ntmps11
  go_wp2
  go_ret
  exact ⟨rfl, rfl⟩
/-- A new list, written out. -/
theorem isl_new (w : World) (L : List Int) (C : Array Value) (hC : (intCells L).toArray = C) : IsL (w.alloc (.cells C 3)) (some ⟨w.heap.size, 0, none⟩) L := by
  subst hC
  by_cases c : L = []
  · exact .inl c
  · refine .inr ⟨w.heap.size, 0, rfl, fun i hi => ?_⟩
    rw [Nat.zero_add, cell_of_row _ _ _ _ _ _ (heap_alloc_new w (.cells (intCells L).toArray 3))]
    simp [intCells, hi]
theorem aw1 : ∃ t : ByteArray, packA [1, 2, 3] 2 = (t, 0) ∧ t.toList = [57] ∧ t.size = 1 ∧ unpackA t 3 2 = ([1, 2, 3], 0) ∧ unpackA t 9 2 = ([], 602) :=
  ⟨⟨#[57]⟩, by kernel_rfl, by rw [ByteArray.toList_eq], rfl, by kernel_rfl, by kernel_rfl⟩
theorem aw2 : packA [4] 2 = (ByteArray.empty, 601) := by kernel_rfl
theorem aw3 : packA [] 17 = (ByteArray.empty, 600) := by kernel_rfl

set_option maxRecDepth 100000 in
set_option maxHeartbeats 4000000 in
theorem kawake_any (w : World) : Calls Try.prog 17 #[] w fun e w' => e = .returned (.bool true) ∧ Below w.heap.size w w' := by
  obtain ⟨t, h1, ht, hts, h2, h3⟩ := aw1
  have T1 : Hid (∀ u : World, Calls Try.prog 7 #[.slice (some ⟨u.heap.size, 0, none⟩) 3 3, .int .i64 2] (u.alloc (.cells #[.int .i64 1, .int .i64 2, .int .i64 3] 3)) fun e w' => e = .returned (.tuple #[.string t, .int .i64 0]) ∧ Below u.heap.size u w') := fun u => by
    have h := kpack_any _ _ 3 2 [1, 2, 3] (isl_new u [1, 2, 3] #[.int .i64 1, .int .i64 2, .int .i64 3] rfl) (by decide) (by decide)
    rw [h1] at h
    exact h.mono fun e w' h => ⟨h.1, ((Below.refl _ u).alloc (Nat.le_refl _) _).trans (h.2.mono (by simp))⟩
  have T2 : Hid (∀ u : World, Calls Try.prog 9 #[.string t, .int .i64 3, .int .i64 2] u fun e w' => ∃ a cap, e = .returned (.tuple #[.slice a 3 cap, .int .i64 0]) ∧ OwnI u.heap.size w' a cap [1, 2, 3] ∧ Below u.heap.size u w') := fun u => by
    have h := kunpack_any u t (by omega) 3 2
    rw [h2] at h
    exact h
  have T3 : Hid (∀ u : World, Calls Try.prog 7 #[.slice (some ⟨u.heap.size, 0, none⟩) 1 1, .int .i64 2] (u.alloc (.cells #[.int .i64 4] 3)) fun e w' => e = .returned (.tuple #[.string ByteArray.empty, .int .i64 601]) ∧ Below u.heap.size u w') := fun u => by
    have h := kpack_any _ _ 1 2 [4] (isl_new u [4] #[.int .i64 4] rfl) (by decide) (by decide)
    rw [aw2] at h
    exact h.mono fun e w' h => ⟨h.1, ((Below.refl _ u).alloc (Nat.le_refl _) _).trans (h.2.mono (by simp))⟩
  have T4 : Hid (∀ u : World, Calls Try.prog 9 #[.string t, .int .i64 9, .int .i64 2] u fun e w' => ∃ a cap, e = .returned (.tuple #[.slice a 0 cap, .int .i64 602]) ∧ Below u.heap.size u w') := fun u => by
    have h := kunpack_any u t (by omega) 9 2
    rw [h3] at h
    exact h.mono fun e w' ⟨a, c, h1, h2, h3⟩ => ⟨a, c, h1, h3⟩
  have T5 : Hid (∀ u : World, Calls Try.prog 7 #[.slice none 0 0, .int .i64 17] u fun e w' => e = .returned (.tuple #[.string ByteArray.empty, .int .i64 600]) ∧ Below u.heap.size u w') := fun u => by
    have h := kpack_any u none 0 17 [] (.inl rfl) (by decide) (by decide)
    rw [aw3] at h
    exact h
  have T6 : Hid (∀ (u : World) (a : Option Addr) (c : Nat) (h : IsL u a [1, 2, 3]), Calls Try.prog 12 #[.slice a 3 c, .slice (some ⟨u.heap.size, 0, none⟩) 3 3] (u.alloc (.cells #[.int .i64 1, .int .i64 2, .int .i64 3] 3)) fun e w' => e = .returned (.bool true) ∧ Below u.heap.size u w') := fun u a c h => by
    have hb : Below u.heap.size u (u.alloc (.cells #[.int .i64 1, .int .i64 2, .int .i64 3] 3)) := (Below.refl _ u).alloc (Nat.le_refl _) _
    have h := sameints_any _ a (some ⟨u.heap.size, 0, none⟩) c 3 [1, 2, 3] [1, 2, 3] (h.below hb) (isl_new u [1, 2, 3] #[.int .i64 1, .int .i64 2, .int .i64 3] rfl) (by decide)
    exact h.mono fun e w' h => ⟨h.1, hb.trans (h.2.mono (by simp))⟩
  have T7 := Lib.hid (fun u => kwidth_any 8 (by omega) u)
  rw [show wid (8 : Int).toNat = 4 by kernel_rfl] at T7
  have HB : Hid (Below w.heap.size w w) := Below.refl _ _
  clear h1 h2 h3
  go_enter Try.func17, Try.ntmps17
  go_upto_region 2 with (go_at_call 7; refine (T1.out _).mono ?_; rintro e w1 ⟨rfl, hb⟩; replace HB := Lib.hid (HB.out.trans (hb.mono HB.out.size)); clear hb)
  go_upto_region 3 with (go_at_call 9; refine (T2.out _).mono ?_; rintro e w2 ⟨a2, c2, rfl, ho, hb⟩; replace HB := Lib.hid (HB.out.trans (hb.mono HB.out.size)); have HO := Lib.hid (OwnI.isL ho); clear hb ho)
  go_upto_region 4 with (go_at_call 7; refine (T3.out _).mono ?_; rintro e w3 ⟨rfl, hb⟩; replace HB := Lib.hid (HB.out.trans (hb.mono HB.out.size)); replace HO := Lib.hid (HO.out.below hb); clear hb)
  go_upto_region 5 with (go_at_call 9; refine (T4.out _).mono ?_; rintro e w4 ⟨a4, c4, rfl, hb⟩; replace HB := Lib.hid (HB.out.trans (hb.mono HB.out.size)); replace HO := Lib.hid (HO.out.below hb); clear hb)
  go_upto_region 6 with (go_at_call 7; refine (T5.out _).mono ?_; rintro e w5 ⟨rfl, hb⟩; replace HB := Lib.hid (HB.out.trans (hb.mono HB.out.size)); replace HO := Lib.hid (HO.out.below hb); clear hb)
  clear T1 T2 T3 T4 T5
  go_wp2_with (first
    | (go_at_call 11; refine (num_any _ _).mono ?_; rintro e w' ⟨rfl, rfl⟩)
    | (go_at_call 12; refine (T6.out _ _ _ HO.out).mono ?_; rintro e w6 ⟨rfl, hb⟩; replace HB := Lib.hid (HB.out.trans (hb.mono HB.out.size)); clear hb)
    | (go_at_call 14; refine (T7.out _).mono ?_; rintro e w' ⟨rfl, rfl⟩))
  go_ret
  exact ⟨rfl, HB.out⟩
end Go.Proofs.Ytlepmiijdpcgnaa
