/- What every program answers that is one. -/
import Derived.Test.YtgpnfmkonhaccaaNew
import Derived.Test.YtgpnfmkonhaccaaWLook
import Derived.Test.YtgpnfmkonhaccaaValC
namespace Go.Proofs.Ytgpnfmkonhaccaa
open Go.Conc Go.RowKit
set_option linter.unusedVariables false
set_option linter.unusedSimpArgs false

def wordA : V := ⟨1, 1, false, ⟨#[]⟩⟩
def wordB : V := ⟨2, 0, true, ⟨#[]⟩⟩
theorem wa1 : buildA [wordA, wordB, wordA] = ([wordA, wordB], [0, 1, 0]) := by kernel_rfl
theorem wa2 : lookA [wordA, wordB] [0, 1, 0] = ([wordA, wordB, wordA], 0) := by
  have h := look_built [wordA, wordB, wordA]
  rw [wa1] at h
  exact h.trans (by kernel_rfl)
theorem wa3 : lookA [wordA, wordB] [2] = ([], 800) := lookA_out (x := 2) (by simp) (.inr (by simp))
set_option maxRecDepth 100000 in
set_option maxHeartbeats 4000000 in
theorem wordsawake_any (w : World) : Calls Try.prog 19 #[] w fun e w' => e = .returned (.bool true) ∧ Below w.heap.size w w' := by
  have T1 : Hid (∀ u : World, Calls Try.prog 8 #[.slice (some ⟨u.heap.size, 0, none⟩) 3 3] (u.alloc (.cells #[.int .i64 1, .int .i64 1, .bool false, .string ⟨#[]⟩, .int .i64 2, .int .i64 0, .bool true, .string ⟨#[]⟩, .int .i64 1, .int .i64 1, .bool false, .string ⟨#[]⟩] 41)) fun e w' => ∃ aw cw ai ci, e = .returned (.tuple #[.slice aw 2 cw, .slice ai 3 ci]) ∧ IsV w' aw [wordA, wordB] ∧ IsL w' ai [0, 1, 0] ∧ Below u.heap.size u w') := fun u => by
    have hb : Below u.heap.size u (u.alloc (.cells #[.int .i64 1, .int .i64 1, .bool false, .string ⟨#[]⟩, .int .i64 2, .int .i64 0, .bool true, .string ⟨#[]⟩, .int .i64 1, .int .i64 1, .bool false, .string ⟨#[]⟩] 41)) := (Below.refl _ u).alloc (Nat.le_refl _) _
    have h := wbuild_any _ _ 3 [wordA, wordB, wordA] (isv_new u [wordA, wordB, wordA] #[.int .i64 1, .int .i64 1, .bool false, .string ⟨#[]⟩, .int .i64 2, .int .i64 0, .bool true, .string ⟨#[]⟩, .int .i64 1, .int .i64 1, .bool false, .string ⟨#[]⟩] rfl) (by decide) (by decide)
    rw [wa1] at h
    exact h.mono fun e w' ⟨aw, cw, ai, ci, h1, h2, h3, h4⟩ => ⟨aw, cw, ai, ci, h1, h2.isV, h3.isL, hb.trans (h4.mono (by simp))⟩
  have T2 : Hid (∀ (u : World) (a am : Option Addr) (c cm : Nat) (h : IsV u a [wordA, wordB]) (hm : IsL u am [0, 1, 0]), Calls Try.prog 10 #[.slice a 2 c, .slice am 3 cm] u fun e w' => ∃ aj cj, e = .returned (.tuple #[.slice aj 3 cj, .int .i64 0]) ∧ IsV w' aj [wordA, wordB, wordA] ∧ Below u.heap.size u w') := fun u a am c cm h hm => by
    have h := wlook_any u a am c cm [wordA, wordB] [0, 1, 0] h hm (by decide) (by decide) (by decide)
    rw [wa2] at h
    exact h.mono fun e w' ⟨aj, cj, h1, h2, h4⟩ => ⟨aj, cj, h1, h2.isV, h4⟩
  have T3 : Hid (∀ (u : World) (a : Option Addr) (c : Nat) (h : IsV u a [wordA, wordB]), Calls Try.prog 10 #[.slice a 2 c, .slice (some ⟨u.heap.size, 0, none⟩) 1 1] (u.alloc (.cells #[.int .i64 2] 3)) fun e w' => ∃ aj cj, e = .returned (.tuple #[.slice aj 0 cj, .int .i64 800]) ∧ Below u.heap.size u w') := fun u a c h => by
    have hb : Below u.heap.size u (u.alloc (.cells #[.int .i64 2] 3)) := (Below.refl _ u).alloc (Nat.le_refl _) _
    have h := wlook_any _ a _ c 1 [wordA, wordB] [2] (h.below hb) (isl_new u [2] #[.int .i64 2] rfl) (by decide) (by decide) (by decide)
    rw [wa3] at h
    exact h.mono fun e w' ⟨aj, cj, h1, h2, h4⟩ => ⟨aj, cj, h1, hb.trans (h4.mono (by simp))⟩
  have T4 : Hid (∀ (u : World) (a : Option Addr) (c : Nat) (h : IsL u a [0, 1, 0]), Calls Try.prog 13 #[.slice a 3 c, .slice (some ⟨u.heap.size, 0, none⟩) 3 3] (u.alloc (.cells #[.int .i64 0, .int .i64 1, .int .i64 0] 3)) fun e w' => e = .returned (.bool true) ∧ Below u.heap.size u w') := fun u a c h => by
    have hb : Below u.heap.size u (u.alloc (.cells #[.int .i64 0, .int .i64 1, .int .i64 0] 3)) := (Below.refl _ u).alloc (Nat.le_refl _) _
    have h := sameints_any _ a (some ⟨u.heap.size, 0, none⟩) c 3 [0, 1, 0] [0, 1, 0] (h.below hb) (isl_new u [0, 1, 0] #[.int .i64 0, .int .i64 1, .int .i64 0] rfl) (by decide)
    exact h.mono fun e w' h => ⟨h.1, hb.trans (h.2.mono (by simp))⟩
  have T5 : Hid (∀ (u : World) (a : Option Addr) (c : Nat) (h : IsV u a [wordA, wordB]), Calls Try.prog 12 #[.slice a 2 c, .slice (some ⟨u.heap.size, 0, none⟩) 2 2] (u.alloc (.cells #[.int .i64 1, .int .i64 1, .bool false, .string ⟨#[]⟩, .int .i64 2, .int .i64 0, .bool true, .string ⟨#[]⟩] 41)) fun e w' => e = .returned (.bool true) ∧ Below u.heap.size u w') := fun u a c h => by
    have hb : Below u.heap.size u (u.alloc (.cells #[.int .i64 1, .int .i64 1, .bool false, .string ⟨#[]⟩, .int .i64 2, .int .i64 0, .bool true, .string ⟨#[]⟩] 41)) := (Below.refl _ u).alloc (Nat.le_refl _) _
    have h := samevals_any _ a (some ⟨u.heap.size, 0, none⟩) c 2 [wordA, wordB] [wordA, wordB] (h.below hb) (isv_new u [wordA, wordB] #[.int .i64 1, .int .i64 1, .bool false, .string ⟨#[]⟩, .int .i64 2, .int .i64 0, .bool true, .string ⟨#[]⟩] rfl) (by decide)
    rw [decide_eq_true rfl] at h
    exact h.mono fun e w' h => ⟨h.1, hb.trans (h.2.mono (by simp))⟩
  have T6 : Hid (∀ (u : World) (a : Option Addr) (c : Nat) (h : IsV u a [wordA, wordB, wordA]), Calls Try.prog 12 #[.slice a 3 c, .slice (some ⟨u.heap.size, 0, none⟩) 3 3] (u.alloc (.cells #[.int .i64 1, .int .i64 1, .bool false, .string ⟨#[]⟩, .int .i64 2, .int .i64 0, .bool true, .string ⟨#[]⟩, .int .i64 1, .int .i64 1, .bool false, .string ⟨#[]⟩] 41)) fun e w' => e = .returned (.bool true) ∧ Below u.heap.size u w') := fun u a c h => by
    have hb : Below u.heap.size u (u.alloc (.cells #[.int .i64 1, .int .i64 1, .bool false, .string ⟨#[]⟩, .int .i64 2, .int .i64 0, .bool true, .string ⟨#[]⟩, .int .i64 1, .int .i64 1, .bool false, .string ⟨#[]⟩] 41)) := (Below.refl _ u).alloc (Nat.le_refl _) _
    have h := samevals_any _ a (some ⟨u.heap.size, 0, none⟩) c 3 [wordA, wordB, wordA] [wordA, wordB, wordA] (h.below hb) (isv_new u [wordA, wordB, wordA] #[.int .i64 1, .int .i64 1, .bool false, .string ⟨#[]⟩, .int .i64 2, .int .i64 0, .bool true, .string ⟨#[]⟩, .int .i64 1, .int .i64 1, .bool false, .string ⟨#[]⟩] rfl) (by decide)
    rw [decide_eq_true rfl] at h
    exact h.mono fun e w' h => ⟨h.1, hb.trans (h.2.mono (by simp))⟩
  obtain ⟨u1, hu1⟩ : ∃ u1, u1 = ((w.alloc (.cells #[.int .i64 1, .int .i64 1, .bool false, .string ⟨#[]⟩] 41)).alloc (.cells #[.int .i64 2, .int .i64 0, .bool true, .string ⟨#[]⟩] 41)) := ⟨_, rfl⟩
  have hb1 : Below w.heap.size w u1 := by rw [hu1]; exact ((Below.refl _ w).alloc (Nat.le_refl _) _).alloc (by simp) _
  have h1 : Slot u1 w.heap.size wordA := by rw [hu1]; exact (Slot.new w wordA).alloc _
  have h2 : Slot u1 (w.heap.size + 1) wordB := by
    have := Slot.new (w.alloc (.cells #[.int .i64 1, .int .i64 1, .bool false, .string ⟨#[]⟩] 41)) wordB
    rw [show (w.alloc (.cells #[.int .i64 1, .int .i64 1, .bool false, .string ⟨#[]⟩] 41)).heap.size = w.heap.size + 1 by simp] at this
    rw [hu1]; exact this
  have HB := Lib.hid hb1
  have H1 := Lib.hid h1
  have H2 := Lib.hid h2
  clear hb1 h1 h2
  go_enter Try.func19, Try.ntmps19
  go_upto_region 2 with fail
  rw [← hu1]
  clear hu1
  obtain ⟨⟨a0, a1, a2, a3⟩, _⟩ := H1.out.at
  obtain ⟨⟨b0, b1, b2, b3⟩, _⟩ := H2.out.at
  simp only [wordA, wordB] at a0 a1 a2 a3 b0 b1 b2 b3
  go_upto_region 3 with (go_at_call 8; refine (T1.out _).mono ?_; rintro e w2 ⟨aw, cw, ai, ci, rfl, hw, hi, hb⟩; replace HB := Lib.hid (HB.out.trans (hb.mono HB.out.size)); replace H1 := Lib.hid (H1.out.below hb); replace H2 := Lib.hid (H2.out.below hb); have HW := Lib.hid hw; have HI := Lib.hid hi; clear hw hi hb)
  clear a0 a1 a2 a3 b0 b1 b2 b3 T1
  go_upto_region 4 with (go_at_call 10; refine (T2.out _ _ _ _ _ HW.out HI.out).mono ?_; rintro e w3 ⟨aj, cj, rfl, hj, hb⟩; replace HB := Lib.hid (HB.out.trans (hb.mono HB.out.size)); replace H1 := Lib.hid (H1.out.below hb); replace H2 := Lib.hid (H2.out.below hb); replace HW := Lib.hid (HW.out.below hb); replace HI := Lib.hid (HI.out.below hb); have HJ := Lib.hid hj; clear hj hb)
  clear T2
  go_upto_region 5 with (go_at_call 10; refine (T3.out _ _ _ HW.out).mono ?_; rintro e w4 ⟨aq, cq, rfl, hb⟩; replace HB := Lib.hid (HB.out.trans (hb.mono HB.out.size)); replace H1 := Lib.hid (H1.out.below hb); replace H2 := Lib.hid (H2.out.below hb); replace HW := Lib.hid (HW.out.below hb); replace HI := Lib.hid (HI.out.below hb); replace HJ := Lib.hid (HJ.out.below hb); clear hb)
  clear T3
  obtain ⟨⟨a0, a1, a2, a3⟩, _⟩ := H1.out.at
  obtain ⟨⟨b0, b1, b2, b3⟩, _⟩ := H2.out.at
  simp only [wordA, wordB] at a0 a1 a2 a3 b0 b1 b2 b3
  go_wp2_with (first
    | (go_at_call 14; refine (num_any _ _).mono ?_; rintro e w' ⟨rfl, rfl⟩)
    | (go_at_call 12; refine (T5.out _ _ _ HW.out).mono ?_; rintro e w6 ⟨rfl, hb⟩; replace HB := Lib.hid (HB.out.trans (hb.mono HB.out.size)); replace H1 := Lib.hid (H1.out.below hb); replace H2 := Lib.hid (H2.out.below hb); replace HI := Lib.hid (HI.out.below hb); replace HJ := Lib.hid (HJ.out.below hb); clear a0 a1 a2 a3 b0 b1 b2 b3; obtain ⟨⟨a0, a1, a2, a3⟩, _⟩ := H1.out.at; obtain ⟨⟨b0, b1, b2, b3⟩, _⟩ := H2.out.at; simp only [wordA, wordB] at a0 a1 a2 a3 b0 b1 b2 b3; clear hb T5)
    | (go_at_call 13; refine (T4.out _ _ _ HI.out).mono ?_; rintro e w5 ⟨rfl, hb⟩; replace HB := Lib.hid (HB.out.trans (hb.mono HB.out.size)); replace H1 := Lib.hid (H1.out.below hb); replace H2 := Lib.hid (H2.out.below hb); replace HJ := Lib.hid (HJ.out.below hb); clear a0 a1 a2 a3 b0 b1 b2 b3; obtain ⟨⟨a0, a1, a2, a3⟩, _⟩ := H1.out.at; obtain ⟨⟨b0, b1, b2, b3⟩, _⟩ := H2.out.at; simp only [wordA, wordB] at a0 a1 a2 a3 b0 b1 b2 b3; clear hb T4)
    | (go_at_call 12; refine (T6.out _ _ _ HJ.out).mono ?_; rintro e w7 ⟨rfl, hb⟩; replace HB := Lib.hid (HB.out.trans (hb.mono HB.out.size)); clear hb a0 a1 a2 a3 b0 b1 b2 b3))
  go_ret
  exact ⟨rfl, HB.out⟩
end Go.Proofs.Ytgpnfmkonhaccaa
