/- What every program answers that is one. -/
import Derived.Test.YtpijnnkhokmlbaaUJoin
import Derived.Test.YtpijnnkhokmlbaaURJoin
import Derived.Test.YtpijnnkhokmlbaaURCut
import Derived.Test.YtpijnnkhokmlbaaValC
namespace Go.Proofs.Ytpijnnkhokmlbaa
open Go.Conc Go.RowKit
set_option linter.unusedVariables false
set_option linter.unusedSimpArgs false

theorem num_any (n : Int) (w : World) : Calls Try.prog 14 #[.int .i64 n] w fun e w' => e = .returned (.int .i64 n) ∧ w = w' := by
  go_enter Try.func14, Try.ntmps14
  go_wp2
  go_ret
  exact ⟨rfl, rfl⟩
/-- A new list, written out. -/
theorem isl_new (w : World) (L : List Int) (C : Array Value) (hC : (intCells L).toArray = C) : IsL (w.alloc (.cells C 3)) (some ⟨w.heap.size, 0, none⟩) L := by
  subst hC
  by_cases c : L = []
  · exact .inl c
  · refine .inr ⟨w.heap.size, 0, rfl, fun i hi => ?_⟩
    rw [Nat.zero_add, cell_of_row _ _ _ _ _ _ (heap_alloc_new w (.cells (intCells L).toArray 3))]
    simp [intCells, hi]
theorem isv_new (w : World) (L : List V) (C : Array Value) (hC : (rowV L).toArray = C) : IsV (w.alloc (.cells C 41)) (some ⟨w.heap.size, 0, none⟩) L := by
  subst hC
  by_cases c : L = []
  · exact .inl c
  · refine .inr ⟨w.heap.size, 0, rfl, IsV.of_cells fun j u hj => ?_⟩
    rw [addr_off, Nat.zero_add, cell_of_row _ _ _ _ _ _ (heap_alloc_new w (.cells (rowV L).toArray 41))]
    simpa using hj
def oneV : V := ⟨1, 1, false, ⟨#[]⟩⟩
def twoV : V := ⟨3, 0, false, ⟨#[97]⟩⟩
theorem aw1 : cutA [oneV, oneV, twoV] = ([2, 1], [oneV, twoV]) := by kernel_rfl
theorem aw2 : joinA [2, 1] [oneV, twoV] = ([oneV, oneV, twoV], 0) := by kernel_rfl
theorem aw3 : joinA [0] [oneV] = ([], 700) := by kernel_rfl
set_option maxRecDepth 100000 in
set_option maxHeartbeats 4000000 in
theorem runsawake_any (w : World) : Calls Try.prog 19 #[] w fun e w' => e = .returned (.bool true) ∧ Below w.heap.size w w' := by
  have T1 : Hid (∀ u : World, Calls Try.prog 8 #[.slice (some ⟨u.heap.size, 0, none⟩) 3 3] (u.alloc (.cells #[.int .i64 1, .int .i64 1, .bool false, .string ⟨#[]⟩, .int .i64 1, .int .i64 1, .bool false, .string ⟨#[]⟩, .int .i64 3, .int .i64 0, .bool false, .string ⟨#[97]⟩] 41)) fun e w' => ∃ am cm ae ce, e = .returned (.tuple #[.slice am 2 cm, .slice ae 2 ce]) ∧ IsL w' am [2, 1] ∧ IsV w' ae [oneV, twoV] ∧ Below u.heap.size u w') := fun u => by
    have hb : Below u.heap.size u (u.alloc (.cells #[.int .i64 1, .int .i64 1, .bool false, .string ⟨#[]⟩, .int .i64 1, .int .i64 1, .bool false, .string ⟨#[]⟩, .int .i64 3, .int .i64 0, .bool false, .string ⟨#[97]⟩] 41)) := (Below.refl _ u).alloc (Nat.le_refl _) _
    have h := ucut_any _ _ 3 [oneV, oneV, twoV] (isv_new u [oneV, oneV, twoV] #[.int .i64 1, .int .i64 1, .bool false, .string ⟨#[]⟩, .int .i64 1, .int .i64 1, .bool false, .string ⟨#[]⟩, .int .i64 3, .int .i64 0, .bool false, .string ⟨#[97]⟩] rfl) (by decide) (by decide)
    rw [aw1] at h
    exact h.mono fun e w' ⟨am, cm, ae, ce, h1, h2, h3, h4⟩ => ⟨am, cm, ae, ce, h1, h2.isL, h3.isV, hb.trans (h4.mono (by simp))⟩
  have T2 : Hid (∀ u : World, Calls Try.prog 10 #[.slice (some ⟨u.heap.size, 0, none⟩) 2 2, .slice (some ⟨u.heap.size + 1, 0, none⟩) 2 2] ((u.alloc (.cells #[.int .i64 2, .int .i64 1] 3)).alloc (.cells #[.int .i64 1, .int .i64 1, .bool false, .string ⟨#[]⟩, .int .i64 3, .int .i64 0, .bool false, .string ⟨#[97]⟩] 41)) fun e w' => ∃ aj cj, e = .returned (.tuple #[.slice aj 3 cj, .int .i64 0]) ∧ IsV w' aj [oneV, oneV, twoV] ∧ Below u.heap.size u w') := fun u => by
    have hb : Below u.heap.size u ((u.alloc (.cells #[.int .i64 2, .int .i64 1] 3)).alloc (.cells #[.int .i64 1, .int .i64 1, .bool false, .string ⟨#[]⟩, .int .i64 3, .int .i64 0, .bool false, .string ⟨#[97]⟩] 41)) := ((Below.refl _ u).alloc (Nat.le_refl _) _).alloc (by simp) _
    have hl := (isl_new u [2, 1] #[.int .i64 2, .int .i64 1] rfl).below ((Below.refl _ (u.alloc (.cells #[.int .i64 2, .int .i64 1] 3))).alloc (Nat.le_refl _) (.cells #[.int .i64 1, .int .i64 1, .bool false, .string ⟨#[]⟩, .int .i64 3, .int .i64 0, .bool false, .string ⟨#[97]⟩] 41))
    have hv := isv_new (u.alloc (.cells #[.int .i64 2, .int .i64 1] 3)) [oneV, twoV] #[.int .i64 1, .int .i64 1, .bool false, .string ⟨#[]⟩, .int .i64 3, .int .i64 0, .bool false, .string ⟨#[97]⟩] rfl
    rw [show (u.alloc (.cells #[.int .i64 2, .int .i64 1] 3)).heap.size = u.heap.size + 1 by simp] at hv
    have h := ujoin_any _ _ _ 2 2 [2, 1] [oneV, twoV] hl hv (by decide) (by decide) (by decide)
    rw [aw2] at h
    exact h.mono fun e w' ⟨am, cm, h1, h2, h4⟩ => ⟨am, cm, h1, h2.isV, hb.trans (h4.mono (by simp; omega))⟩
  have T3 : Hid (∀ u : World, Calls Try.prog 10 #[.slice (some ⟨u.heap.size, 0, none⟩) 1 1, .slice (some ⟨u.heap.size + 1, 0, none⟩) 1 1] ((u.alloc (.cells #[.int .i64 0] 3)).alloc (.cells #[.int .i64 1, .int .i64 1, .bool false, .string ⟨#[]⟩] 41)) fun e w' => ∃ aj cj, e = .returned (.tuple #[.slice aj 0 cj, .int .i64 700]) ∧ Below u.heap.size u w') := fun u => by
    have hb : Below u.heap.size u ((u.alloc (.cells #[.int .i64 0] 3)).alloc (.cells #[.int .i64 1, .int .i64 1, .bool false, .string ⟨#[]⟩] 41)) := ((Below.refl _ u).alloc (Nat.le_refl _) _).alloc (by simp) _
    have hl := (isl_new u [0] #[.int .i64 0] rfl).below ((Below.refl _ (u.alloc (.cells #[.int .i64 0] 3))).alloc (Nat.le_refl _) (.cells #[.int .i64 1, .int .i64 1, .bool false, .string ⟨#[]⟩] 41))
    have hv := isv_new (u.alloc (.cells #[.int .i64 0] 3)) [oneV] #[.int .i64 1, .int .i64 1, .bool false, .string ⟨#[]⟩] rfl
    rw [show (u.alloc (.cells #[.int .i64 0] 3)).heap.size = u.heap.size + 1 by simp] at hv
    have h := ujoin_any _ _ _ 1 1 [0] [oneV] hl hv (by decide) (by decide) (by decide)
    rw [aw3] at h
    exact h.mono fun e w' ⟨am, cm, h1, h2, h4⟩ => ⟨am, cm, h1, hb.trans (h4.mono (by simp; omega))⟩
  have T4 : Hid (∀ (u : World) (a : Option Addr) (c : Nat) (h : IsL u a [2, 1]), Calls Try.prog 12 #[.slice a 2 c, .slice (some ⟨u.heap.size, 0, none⟩) 2 2] (u.alloc (.cells #[.int .i64 2, .int .i64 1] 3)) fun e w' => e = .returned (.bool true) ∧ Below u.heap.size u w') := fun u a c h => by
    have hb : Below u.heap.size u (u.alloc (.cells #[.int .i64 2, .int .i64 1] 3)) := (Below.refl _ u).alloc (Nat.le_refl _) _
    have h := sameints_any _ a (some ⟨u.heap.size, 0, none⟩) c 2 [2, 1] [2, 1] (h.below hb) (isl_new u [2, 1] #[.int .i64 2, .int .i64 1] rfl) (by decide)
    exact h.mono fun e w' h => ⟨h.1, hb.trans (h.2.mono (by simp))⟩
  have T5 : Hid (∀ (u : World) (a : Option Addr) (c : Nat) (h : IsV u a [oneV, twoV]), Calls Try.prog 13 #[.slice a 2 c, .slice (some ⟨u.heap.size, 0, none⟩) 2 2] (u.alloc (.cells #[.int .i64 1, .int .i64 1, .bool false, .string ⟨#[]⟩, .int .i64 3, .int .i64 0, .bool false, .string ⟨#[97]⟩] 41)) fun e w' => e = .returned (.bool true) ∧ Below u.heap.size u w') := fun u a c h => by
    have hb : Below u.heap.size u (u.alloc (.cells #[.int .i64 1, .int .i64 1, .bool false, .string ⟨#[]⟩, .int .i64 3, .int .i64 0, .bool false, .string ⟨#[97]⟩] 41)) := (Below.refl _ u).alloc (Nat.le_refl _) _
    have h := samevals_any _ a (some ⟨u.heap.size, 0, none⟩) c 2 [oneV, twoV] [oneV, twoV] (h.below hb) (isv_new u [oneV, twoV] #[.int .i64 1, .int .i64 1, .bool false, .string ⟨#[]⟩, .int .i64 3, .int .i64 0, .bool false, .string ⟨#[97]⟩] rfl) (by decide)
    rw [decide_eq_true rfl] at h
    exact h.mono fun e w' h => ⟨h.1, hb.trans (h.2.mono (by simp))⟩
  have T6 : Hid (∀ (u : World) (a : Option Addr) (c : Nat) (h : IsV u a [oneV, oneV, twoV]), Calls Try.prog 13 #[.slice a 3 c, .slice (some ⟨u.heap.size, 0, none⟩) 3 3] (u.alloc (.cells #[.int .i64 1, .int .i64 1, .bool false, .string ⟨#[]⟩, .int .i64 1, .int .i64 1, .bool false, .string ⟨#[]⟩, .int .i64 3, .int .i64 0, .bool false, .string ⟨#[97]⟩] 41)) fun e w' => e = .returned (.bool true) ∧ Below u.heap.size u w') := fun u a c h => by
    have hb : Below u.heap.size u (u.alloc (.cells #[.int .i64 1, .int .i64 1, .bool false, .string ⟨#[]⟩, .int .i64 1, .int .i64 1, .bool false, .string ⟨#[]⟩, .int .i64 3, .int .i64 0, .bool false, .string ⟨#[97]⟩] 41)) := (Below.refl _ u).alloc (Nat.le_refl _) _
    have h := samevals_any _ a (some ⟨u.heap.size, 0, none⟩) c 3 [oneV, oneV, twoV] [oneV, oneV, twoV] (h.below hb) (isv_new u [oneV, oneV, twoV] #[.int .i64 1, .int .i64 1, .bool false, .string ⟨#[]⟩, .int .i64 1, .int .i64 1, .bool false, .string ⟨#[]⟩, .int .i64 3, .int .i64 0, .bool false, .string ⟨#[97]⟩] rfl) (by decide)
    rw [decide_eq_true rfl] at h
    exact h.mono fun e w' h => ⟨h.1, hb.trans (h.2.mono (by simp))⟩
  obtain ⟨u1, hu1⟩ : ∃ u1, u1 = ((w.alloc (.cells #[.int .i64 1, .int .i64 1, .bool false, .string ⟨#[]⟩] 41)).alloc (.cells #[.int .i64 3, .int .i64 0, .bool false, .string ⟨#[97]⟩] 41)) := ⟨_, rfl⟩
  have hb1 : Below w.heap.size w u1 := by rw [hu1]; exact ((Below.refl _ w).alloc (Nat.le_refl _) _).alloc (by simp) _
  have h1 : Slot u1 w.heap.size oneV := by rw [hu1]; exact (Slot.new w oneV).alloc _
  have h2 : Slot u1 (w.heap.size + 1) twoV := by
    have := Slot.new (w.alloc (.cells #[.int .i64 1, .int .i64 1, .bool false, .string ⟨#[]⟩] 41)) twoV
    rw [show (w.alloc (.cells #[.int .i64 1, .int .i64 1, .bool false, .string ⟨#[]⟩] 41)).heap.size = w.heap.size + 1 by simp] at this
    rw [hu1]; exact this
  have HB := Lib.hid hb1
  have H1 := Lib.hid h1
  have H2 := Lib.hid h2
  clear hb1 h1 h2
  go_enter Try.func19, Try.ntmps19
  go_upto_region 2 with fail
  rw [← hu1]
  clear hu1
  obtain ⟨⟨a0, a1, a2, a3⟩, _⟩ := H1.out.at
  obtain ⟨⟨b0, b1, b2, b3⟩, _⟩ := H2.out.at
  simp only [oneV, twoV] at a0 a1 a2 a3 b0 b1 b2 b3
  go_upto_region 3 with (go_at_call 8; refine (T1.out _).mono ?_; rintro e w2 ⟨am, cm, ae, ce, rfl, hm, he, hb⟩; replace HB := Lib.hid (HB.out.trans (hb.mono HB.out.size)); replace H1 := Lib.hid (H1.out.below hb); replace H2 := Lib.hid (H2.out.below hb); have HM := Lib.hid hm; have HE := Lib.hid he; clear hm he hb)
  clear a0 a1 a2 a3 b0 b1 b2 b3 T1
  obtain ⟨⟨a0, a1, a2, a3⟩, _⟩ := (H1.out.alloc (.cells #[.int .i64 2, .int .i64 1] 3)).at
  obtain ⟨⟨b0, b1, b2, b3⟩, _⟩ := (H2.out.alloc (.cells #[.int .i64 2, .int .i64 1] 3)).at
  simp only [oneV, twoV] at a0 a1 a2 a3 b0 b1 b2 b3
  go_upto_region 4 with (go_at_call 10; refine (T2.out _).mono ?_; rintro e w3 ⟨aj, cj, rfl, hj, hb⟩; replace HB := Lib.hid (HB.out.trans (hb.mono HB.out.size)); replace H1 := Lib.hid (H1.out.below hb); replace H2 := Lib.hid (H2.out.below hb); replace HM := Lib.hid (HM.out.below hb); replace HE := Lib.hid (HE.out.below hb); have HJ := Lib.hid hj; clear hj hb)
  clear a0 a1 a2 a3 b0 b1 b2 b3 T2
  obtain ⟨⟨a0, a1, a2, a3⟩, _⟩ := (H1.out.alloc (.cells #[.int .i64 0] 3)).at
  simp only [oneV] at a0 a1 a2 a3
  go_upto_region 5 with (go_at_call 10; refine (T3.out _).mono ?_; rintro e w4 ⟨aq, cq, rfl, hb⟩; replace HB := Lib.hid (HB.out.trans (hb.mono HB.out.size)); replace H1 := Lib.hid (H1.out.below hb); replace H2 := Lib.hid (H2.out.below hb); replace HM := Lib.hid (HM.out.below hb); replace HE := Lib.hid (HE.out.below hb); replace HJ := Lib.hid (HJ.out.below hb); clear hb)
  clear a0 a1 a2 a3 T3
  go_wp2_with (first
    | (go_at_call 14; refine (num_any _ _).mono ?_; rintro e w' ⟨rfl, rfl⟩)
    | (go_at_call 12; refine (T4.out _ _ _ HM.out).mono ?_; rintro e w5 ⟨rfl, hb⟩; replace HB := Lib.hid (HB.out.trans (hb.mono HB.out.size)); replace H1 := Lib.hid (H1.out.below hb); replace H2 := Lib.hid (H2.out.below hb); replace HE := Lib.hid (HE.out.below hb); replace HJ := Lib.hid (HJ.out.below hb); obtain ⟨⟨a0, a1, a2, a3⟩, _⟩ := H1.out.at; obtain ⟨⟨b0, b1, b2, b3⟩, _⟩ := H2.out.at; simp only [oneV, twoV] at a0 a1 a2 a3 b0 b1 b2 b3; clear hb T4)
    | (go_at_call 13; refine (T5.out _ _ _ HE.out).mono ?_; rintro e w6 ⟨rfl, hb⟩; replace HB := Lib.hid (HB.out.trans (hb.mono HB.out.size)); replace H1 := Lib.hid (H1.out.below hb); replace H2 := Lib.hid (H2.out.below hb); replace HJ := Lib.hid (HJ.out.below hb); clear a0 a1 a2 a3 b0 b1 b2 b3; obtain ⟨⟨a0, a1, a2, a3⟩, _⟩ := H1.out.at; obtain ⟨⟨b0, b1, b2, b3⟩, _⟩ := H2.out.at; simp only [oneV, twoV] at a0 a1 a2 a3 b0 b1 b2 b3; clear hb T5)
    | (go_at_call 13; refine (T6.out _ _ _ HJ.out).mono ?_; rintro e w7 ⟨rfl, hb⟩; replace HB := Lib.hid (HB.out.trans (hb.mono HB.out.size)); clear hb a0 a1 a2 a3 b0 b1 b2 b3))
  go_ret
  exact ⟨rfl, HB.out⟩
end Go.Proofs.Ytpijnnkhokmlbaa
