/- The document's schemas: Rename. -/
import Derived.Test.YthfakpekdjmpjaaSchU
namespace Go.Proofs.Ythfakpekdjmpjaa
open Go.Conc Go.RowKit
set_option linter.unusedVariables false
set_option linter.unusedSimpArgs false

set_option maxRecDepth 100000 in
set_option maxHeartbeats 4000000 in
theorem refschren_any (w : World) (a : Option Addr) (c : Nat) (s : Sc) (nm to : ByteArray) (ha : IsCo w a s.cs) (hn : a = none → s.cs.length = 0 ∧ c = 0) (hl : s.cs.length ≤ maxLen) :
    Calls Try.prog 17 #[.agg #[.int .i64 s.id, .slice a s.cs.length c, .int .i64 s.next], .string nm, .string to] w (ScPost w (renA s nm to)) := by
  obtain ⟨R, hR⟩ : ∃ R, R = renA s nm to := ⟨_, rfl⟩
  rw [← hR]
  obtain ⟨u, hu⟩ : ∃ u, u = (w.alloc (.cells #[.int .i64 s.id, .slice a s.cs.length c, .int .i64 s.next] 24)).alloc (.cells #[.int .i64 0, .slice none 0 0, .int .i64 0] 24) := ⟨_, rfl⟩
  have hsz : (w.alloc (.cells #[.int .i64 s.id, .slice a s.cs.length c, .int .i64 s.next] 24)).heap.size = w.heap.size + 1 := by simp
  have hbu : Below w.heap.size w u := by rw [hu]; exact ((Below.refl _ _).alloc (Nat.le_refl _) _).alloc (by simp) _
  have HS1 := Lib.hid (show ScSlot u w.heap.size a c s by rw [hu]; exact (ScSlot.new w a c s).same (Below.heap_alloc _ _ _ (by simp)))
  have HR1 := Lib.hid (show ScSlot u (w.heap.size + 1) none 0 zeroSc by rw [hu, ← hsz]; exact ScSlot.new _ none 0 zeroSc)
  have HU1 : Hid (Below u.heap.size u u) := Below.refl _ _
  have HB := Lib.hid hbu
  have HA := Lib.hid (ha.below hbu)
  have HNN := Lib.hid hn
  have HML := Lib.hid (fun (h : maySc s = true) => ((may_iff s).1 h).1)
  have TM := Lib.hid (fun (v : World) (hv : Below u.heap.size u v) => refschmay_any v a c s (HA.out.below hv) hl)
  have TC := Lib.hid (fun (v : World) (hv : Below u.heap.size u v) (h : maySc s = true) => refschcopy_any v a c s (HA.out.below hv) HNN.out (by have := HML.out h; omega) (by have := HML.out h; omega))
  clear hsz hbu ha hn
  unfold renA at hR
  have TF := Lib.hid (fun (v : World) (hv : Below u.heap.size u v) (x : ByteArray) => refschfind_any v a c s x (HA.out.below hv) hl)
  have TN := Lib.hid (fun v => refname_any to v)
  have hpos := fun hh => findA_pos (cs := s.cs) (nm := nm) hh
  clear hl HA HNN
  generalize findA s.cs = FA at *
  generalize nameB to = N at *
  generalize maySc s = M at *
  cases M with
  | false =>
    clear hpos
    obtain rfl : R = (zeroSc, 1200) := by rw [hR, if_pos rfl]
    clear hR
    go_enter Try.func17, Try.ntmps17
    go_upto_region 1 with fail
    rw [← hu]
    clear hu
    obtain ⟨b0, b1, b2⟩ := HS1.out.at
    go_wp2_with (first
      | (go_at_call 21; refine (TM.out _ HU1.out).mono ?_; rintro e w2 ⟨rfl, hb⟩; have HU2 := Lib.hid (HU1.out.trans (hb.mono HU1.out.size)); have HR2 := Lib.hid (HR1.out.below hb); have HS2 := Lib.hid (HS1.out.below hb); clear hb; obtain ⟨z0, z1, z2⟩ := HR2.out.at; obtain ⟨y0, y1, y2⟩ := HR2.out.froz; simp only [zeroSc] at z0 z1 z2; obtain ⟨b0, b1, b2⟩ := HS2.out.at))
    change bodyPost _ _ _ _ _ (putSc w2 (w.heap.size + 1) none 0 zeroSc)
    have hp := HR2.out.put none 0 zeroSc
    have hpf := putSc_frm (g := w.heap.size + 1) (F := fun j => j = w.heap.size + 1) rfl w2 none 0 zeroSc
    generalize putSc w2 (w.heap.size + 1) none 0 zeroSc = w99 at *
    obtain ⟨b0, b1, b2⟩ := hp.at
    simp only [zeroSc] at b0 b1 b2
    clear z0 z1 z2 y0 y1 y2
    refine bodyPost_ret (v := .tuple #[.agg #[.int .i64 0, .slice none 0 0, .int .i64 0], .int .i64 1200]) (by simp [results, Try.results17, go_sem, b0, b1, b2]) rfl ?_
    exact ⟨none, 0, rfl, OwnCo.nil _ _, Frm.to_below (HB.out.trans (HU2.out.mono HB.out.size)) hpf (fun k e => by omega) (Nat.le_refl _)⟩
  | true =>
    rw [if_neg (by simp)] at hR
    by_cases h1 : FA nm < 0
    · have d1 : decide (FA nm < 0) = true := decide_eq_true h1
      clear hpos
      obtain rfl : R = (zeroSc, 1202) := by rw [hR, if_pos h1]
      clear hR h1
      go_enter Try.func17, Try.ntmps17
      go_upto_region 1 with fail
      rw [← hu]
      clear hu
      obtain ⟨b0, b1, b2⟩ := HS1.out.at
      go_wp2_with (first
        | (go_at_call 21; refine (TM.out _ HU1.out).mono ?_; rintro e w2 ⟨rfl, hb⟩; have HU2 := Lib.hid (HU1.out.trans (hb.mono HU1.out.size)); have HR2 := Lib.hid (HR1.out.below hb); have HS2 := Lib.hid (HS1.out.below hb); clear hb; obtain ⟨z0, z1, z2⟩ := HR2.out.at; obtain ⟨y0, y1, y2⟩ := HR2.out.froz; simp only [zeroSc] at z0 z1 z2; obtain ⟨b0, b1, b2⟩ := HS2.out.at)
        | (go_at_call 27; refine (TF.out _ HU2.out _).mono ?_; rintro e w3 ⟨rfl, hb⟩; have HU3 := Lib.hid (HU2.out.trans (hb.mono HU2.out.size)); have HR3 := Lib.hid (HR2.out.below hb); have HS3 := Lib.hid (HS2.out.below hb); clear hb; obtain ⟨z0, z1, z2⟩ := HR3.out.at; obtain ⟨y0, y1, y2⟩ := HR3.out.froz; simp only [zeroSc] at z0 z1 z2; obtain ⟨b0, b1, b2⟩ := HS3.out.at)
        | (go_at_call 27; refine (TF.out _ HU3.out _).mono ?_; rintro e w4 ⟨rfl, hb⟩; have HU4 := Lib.hid (HU3.out.trans (hb.mono HU3.out.size)); have HR4 := Lib.hid (HR3.out.below hb); have HS4 := Lib.hid (HS3.out.below hb); clear hb; obtain ⟨z0, z1, z2⟩ := HR4.out.at; obtain ⟨y0, y1, y2⟩ := HR4.out.froz; simp only [zeroSc] at z0 z1 z2; obtain ⟨b0, b1, b2⟩ := HS4.out.at))
      change bodyPost _ _ _ _ _ (putSc w4 (w.heap.size + 1) none 0 zeroSc)
      have hp := HR4.out.put none 0 zeroSc
      have hpf := putSc_frm (g := w.heap.size + 1) (F := fun j => j = w.heap.size + 1) rfl w4 none 0 zeroSc
      generalize putSc w4 (w.heap.size + 1) none 0 zeroSc = w99 at *
      obtain ⟨b0, b1, b2⟩ := hp.at
      simp only [zeroSc] at b0 b1 b2
      clear z0 z1 z2 y0 y1 y2
      refine bodyPost_ret (v := .tuple #[.agg #[.int .i64 0, .slice none 0 0, .int .i64 0], .int .i64 1202]) (by simp [results, Try.results17, go_sem, b0, b1, b2]) rfl ?_
      exact ⟨none, 0, rfl, OwnCo.nil _ _, Frm.to_below (HB.out.trans (HU4.out.mono HB.out.size)) hpf (fun k e => by omega) (Nat.le_refl _)⟩
    rw [if_neg h1] at hR
    have d1 : decide (FA nm < 0) = false := decide_eq_false h1
    obtain ⟨hlt, hFi, hr9⟩ := hpos (Int.not_lt.1 h1)
    rw [getD_in hlt] at hR
    have HFI := Lib.hid hFi
    have HLT := Lib.hid hlt
    clear h1 hpos hFi hr9
    cases N with
    | false =>
      obtain rfl : R = (zeroSc, 1201) := by rw [hR, if_pos (.inl rfl)]
      clear hR hlt
      go_enter Try.func17, Try.ntmps17
      go_upto_region 1 with fail
      rw [← hu]
      clear hu
      obtain ⟨b0, b1, b2⟩ := HS1.out.at
      go_wp2_with (first
        | (go_at_call 21; refine (TM.out _ HU1.out).mono ?_; rintro e w2 ⟨rfl, hb⟩; have HU2 := Lib.hid (HU1.out.trans (hb.mono HU1.out.size)); have HR2 := Lib.hid (HR1.out.below hb); have HS2 := Lib.hid (HS1.out.below hb); clear hb; obtain ⟨z0, z1, z2⟩ := HR2.out.at; obtain ⟨y0, y1, y2⟩ := HR2.out.froz; simp only [zeroSc] at z0 z1 z2; obtain ⟨b0, b1, b2⟩ := HS2.out.at)
        | (go_at_call 27; refine (TF.out _ HU2.out _).mono ?_; rintro e w3 ⟨rfl, hb⟩; have HU3 := Lib.hid (HU2.out.trans (hb.mono HU2.out.size)); have HR3 := Lib.hid (HR2.out.below hb); have HS3 := Lib.hid (HS2.out.below hb); clear hb; obtain ⟨z0, z1, z2⟩ := HR3.out.at; obtain ⟨y0, y1, y2⟩ := HR3.out.froz; simp only [zeroSc] at z0 z1 z2; obtain ⟨b0, b1, b2⟩ := HS3.out.at)
        | (go_at_call 27; refine (TF.out _ HU3.out _).mono ?_; rintro e w4 ⟨rfl, hb⟩; have HU4 := Lib.hid (HU3.out.trans (hb.mono HU3.out.size)); have HR4 := Lib.hid (HR3.out.below hb); have HS4 := Lib.hid (HS3.out.below hb); clear hb; obtain ⟨z0, z1, z2⟩ := HR4.out.at; obtain ⟨y0, y1, y2⟩ := HR4.out.froz; simp only [zeroSc] at z0 z1 z2; obtain ⟨b0, b1, b2⟩ := HS4.out.at)
        | (go_at_call 55; refine (TN.out _).mono ?_; rintro e wk ⟨rfl, rfl⟩))
      change bodyPost _ _ _ _ _ (putSc w4 (w.heap.size + 1) none 0 zeroSc)
      have hp := HR4.out.put none 0 zeroSc
      have hpf := putSc_frm (g := w.heap.size + 1) (F := fun j => j = w.heap.size + 1) rfl w4 none 0 zeroSc
      generalize putSc w4 (w.heap.size + 1) none 0 zeroSc = w99 at *
      obtain ⟨b0, b1, b2⟩ := hp.at
      simp only [zeroSc] at b0 b1 b2
      clear z0 z1 z2 y0 y1 y2
      refine bodyPost_ret (v := .tuple #[.agg #[.int .i64 0, .slice none 0 0, .int .i64 0], .int .i64 1201]) (by simp [results, Try.results17, go_sem, b0, b1, b2]) rfl ?_
      exact ⟨none, 0, rfl, OwnCo.nil _ _, Frm.to_below (HB.out.trans (HU4.out.mono HB.out.size)) hpf (fun k e => by omega) (Nat.le_refl _)⟩
    | true =>
      by_cases h5 : 0 ≤ FA to
      · have d4 : decide (0 ≤ FA to) = true := decide_eq_true h5
        by_cases h6 : FA to = FA nm
        · have d5 : (FA to != FA nm) = false := by rw [h6]; exact bne_self_eq_false _
          rw [if_neg (by rintro (h | h); · cases h
                         exact h.2 h6)] at hR
          clear h5 h6
          by_cases hi : 2147483647 ≤ s.id
          · have d3 : decide ((2147483647 : Int) ≤ s.id) = true := decide_eq_true hi
            obtain rfl : R = (zeroSc, 1200) := by rw [hR, if_pos hi]
            clear hR hi hlt
            go_enter Try.func17, Try.ntmps17
            go_upto_region 1 with fail
            rw [← hu]
            clear hu
            obtain ⟨b0, b1, b2⟩ := HS1.out.at
            go_wp2_with (first
              | (go_at_call 21; refine (TM.out _ HU1.out).mono ?_; rintro e w2 ⟨rfl, hb⟩; have HU2 := Lib.hid (HU1.out.trans (hb.mono HU1.out.size)); have HR2 := Lib.hid (HR1.out.below hb); have HS2 := Lib.hid (HS1.out.below hb); clear hb; obtain ⟨z0, z1, z2⟩ := HR2.out.at; obtain ⟨y0, y1, y2⟩ := HR2.out.froz; simp only [zeroSc] at z0 z1 z2; obtain ⟨b0, b1, b2⟩ := HS2.out.at)
              | (go_at_call 27; refine (TF.out _ HU2.out _).mono ?_; rintro e w3 ⟨rfl, hb⟩; have HU3 := Lib.hid (HU2.out.trans (hb.mono HU2.out.size)); have HR3 := Lib.hid (HR2.out.below hb); have HS3 := Lib.hid (HS2.out.below hb); clear hb; obtain ⟨z0, z1, z2⟩ := HR3.out.at; obtain ⟨y0, y1, y2⟩ := HR3.out.froz; simp only [zeroSc] at z0 z1 z2; obtain ⟨b0, b1, b2⟩ := HS3.out.at)
              | (go_at_call 27; refine (TF.out _ HU3.out _).mono ?_; rintro e w4 ⟨rfl, hb⟩; have HU4 := Lib.hid (HU3.out.trans (hb.mono HU3.out.size)); have HR4 := Lib.hid (HR3.out.below hb); have HS4 := Lib.hid (HS3.out.below hb); clear hb; obtain ⟨z0, z1, z2⟩ := HR4.out.at; obtain ⟨y0, y1, y2⟩ := HR4.out.froz; simp only [zeroSc] at z0 z1 z2; obtain ⟨b0, b1, b2⟩ := HS4.out.at)
              | (go_at_call 55; refine (TN.out _).mono ?_; rintro e wk ⟨rfl, rfl⟩))
            change bodyPost _ _ _ _ _ (putSc w4 (w.heap.size + 1) none 0 zeroSc)
            have hp := HR4.out.put none 0 zeroSc
            have hpf := putSc_frm (g := w.heap.size + 1) (F := fun j => j = w.heap.size + 1) rfl w4 none 0 zeroSc
            generalize putSc w4 (w.heap.size + 1) none 0 zeroSc = w99 at *
            obtain ⟨b0, b1, b2⟩ := hp.at
            simp only [zeroSc] at b0 b1 b2
            clear z0 z1 z2 y0 y1 y2
            refine bodyPost_ret (v := .tuple #[.agg #[.int .i64 0, .slice none 0 0, .int .i64 0], .int .i64 1200]) (by simp [results, Try.results17, go_sem, b0, b1, b2]) rfl ?_
            exact ⟨none, 0, rfl, OwnCo.nil _ _, Frm.to_below (HB.out.trans (HU4.out.mono HB.out.size)) hpf (fun k e => by omega) (Nat.le_refl _)⟩
          have d3 : decide ((2147483647 : Int) ≤ s.id) = false := decide_eq_false hi
          rw [if_neg hi] at hR
          have HBD := Lib.hid (show 0 ≤ s.id ∧ s.id < 2147483647 by have := HML.out (by simp); omega)
          have HRR := Lib.hid hR
          clear hR hi
          generalize findN s.cs nm = i at *
          have hii : (i : Int) < (s.cs.length : Int) := by omega
          have hi0 : (0 : Int) ≤ (i : Int) := by omega
          generalize hv9 : s.cs[i] = v9 at *
          have HV9 := Lib.hid hv9
          clear hv9 hlt
          go_enter Try.func17, Try.ntmps17
          go_upto_region 1 with fail
          rw [← hu]
          clear hu
          obtain ⟨b0, b1, b2⟩ := HS1.out.at
          go_upto_region 11 with (first
            | (go_at_call 21; refine (TM.out _ HU1.out).mono ?_; rintro e w2 ⟨rfl, hb⟩; have HU2 := Lib.hid (HU1.out.trans (hb.mono HU1.out.size)); have HR2 := Lib.hid (HR1.out.below hb); have HS2 := Lib.hid (HS1.out.below hb); clear hb; obtain ⟨z0, z1, z2⟩ := HR2.out.at; obtain ⟨y0, y1, y2⟩ := HR2.out.froz; simp only [zeroSc] at z0 z1 z2; obtain ⟨b0, b1, b2⟩ := HS2.out.at)
            | (go_at_call 27; refine (TF.out _ HU2.out _).mono ?_; rintro e w3 ⟨rfl, hb⟩; have HU3 := Lib.hid (HU2.out.trans (hb.mono HU2.out.size)); have HR3 := Lib.hid (HR2.out.below hb); have HS3 := Lib.hid (HS2.out.below hb); clear hb; obtain ⟨z0, z1, z2⟩ := HR3.out.at; obtain ⟨y0, y1, y2⟩ := HR3.out.froz; simp only [zeroSc] at z0 z1 z2; obtain ⟨b0, b1, b2⟩ := HS3.out.at)
            | (go_at_call 27; refine (TF.out _ HU3.out _).mono ?_; rintro e w4 ⟨rfl, hb⟩; have HU4 := Lib.hid (HU3.out.trans (hb.mono HU3.out.size)); have HR4 := Lib.hid (HR3.out.below hb); have HS4 := Lib.hid (HS3.out.below hb); clear hb; obtain ⟨z0, z1, z2⟩ := HR4.out.at; obtain ⟨y0, y1, y2⟩ := HR4.out.froz; simp only [zeroSc] at z0 z1 z2; obtain ⟨b0, b1, b2⟩ := HS4.out.at)
            | (go_at_call 55; refine (TN.out _).mono ?_; rintro e wk ⟨rfl, rfl⟩))
          go_upto_region 12 with (go_at_call 57; refine (TC.out _ HU4.out (by simp)).mono ?_; rintro e w5 ⟨a4, c4, rfl, ho, hb⟩; have HO4 := Lib.hid ho; have HSZ := Lib.hid hb.size; have HU5 := Lib.hid (HU4.out.trans (hb.mono HU4.out.size)); have HR5 := Lib.hid (HR4.out.below hb); clear ho hb)
          change Code.wp _ _ _ _ (w5.alloc (.cells #[.int .i64 s.id, .slice a4 s.cs.length c4, .int .i64 s.next] 24))
          obtain ⟨u5, hu5⟩ : ∃ u5, u5 = w5.alloc (.cells #[.int .i64 s.id, .slice a4 s.cs.length c4, .int .i64 s.next] 24) := ⟨_, rfl⟩
          have hb5 : Below w5.heap.size w5 u5 := by rw [hu5]; exact (Below.refl _ _).alloc (Nat.le_refl _) _
          have HD6 := Lib.hid (show ScSlot u5 w5.heap.size a4 c4 s by rw [hu5]; exact ScSlot.new w5 a4 c4 s)
          have HO6 := Lib.hid (HO4.out.below hb5)
          have HU6 := Lib.hid (HU5.out.trans (hb5.mono HU5.out.size))
          have HR6 := Lib.hid (HR5.out.below hb5)
          have HAT := Lib.hid (show (∀ j, At a4 j → w4.heap.size ≤ j ∧ j < w5.heap.size) ∧ w.heap.size + 1 < w4.heap.size ∧ u.heap.size ≤ w4.heap.size from ⟨fun j hj => HO4.out.at_ge hj, HR4.out.lt, HU4.out.size⟩)
          rw [← hu5]
          clear hu5 hb5 HO4 HU5 HR5 b0 b1 b2 z0 z1 z2 y0 y1 y2
          obtain ⟨gA, hgA⟩ := HO6.out.there (by intro e; have := HLT.out; rw [e] at this; simp at this)
          subst hgA
          obtain ⟨cur, hcur⟩ := own_tyS HO6.out (k := gA) rfl
          have x0 := (HO6.out.get i HLT.out).c1
          have x1 := frozen_of_row u5 gA (i * 3 + 1) _ _ hcur
          obtain ⟨b0, b1, b2⟩ := HD6.out.at
          clear hcur
          rw [HFI.out]
          go_upto_region 13 with fail
          obtain ⟨w7, hw7⟩ : ∃ w7, w7 = u5.setCell ⟨gA, i * 3 + 1, none⟩ (.string to) := ⟨_, rfl⟩
          have HO7 := Lib.hid (show OwnCo w4.heap.size w7 (some ⟨gA, 0, none⟩) c4 (s.cs.set i (named v9 to)) by rw [hw7, ← HV9.out]; exact HO6.out.named i HLT.out to)
          have hf7 : Frm (At (some ⟨gA, 0, none⟩)) u5 w7 := by rw [hw7]; exact (Frm.refl (At (some ⟨gA, 0, none⟩)) u5).setCell (p := ⟨gA, i * 3 + 1, none⟩) rfl _
          have HD7 := Lib.hid (HD6.out.frm hf7 (fun e => by have := (HAT.out.1 _ e).2; omega))
          have HR7 := Lib.hid (HR6.out.frm hf7 (fun e => by have := (HAT.out.1 _ e).1; have := HAT.out.2.1; omega))
          have HF7 := Lib.hid hf7
          change Code.wp _ _ _ _ (u5.setCell ⟨gA, i * 3 + 1, none⟩ (.string to))
          rw [← hw7]
          clear hw7 hf7 b0 b1 b2 x0 x1
          have hwi : IntKind.i64.wrap (s.id + 1) = s.id + 1 := by rw [IntKind.wrap_i64]; have := HBD.out; omega
          have hwi2 : wrap64 (s.id + 1) = s.id + 1 := by unfold wrap64; have := HBD.out; omega
          have hln : (s.cs.set i (named v9 to)).length = s.cs.length := List.length_set
          generalize hcs : s.cs.set i (named v9 to) = cs at *
          have HLN := Lib.hid hln
          clear hcs hln
          obtain ⟨b0, b1, b2⟩ := HD7.out.at
          obtain ⟨y0, y1, y2⟩ := HD7.out.froz
          go_upto_region 14 with fail
          obtain ⟨w8, hw8⟩ : ∃ w8, w8 = w7.setCell ⟨w5.heap.size, 0, none⟩ (.int .i64 (s.id + 1)) := ⟨_, rfl⟩
          have HD8 := Lib.hid (show ScSlot w8 w5.heap.size (some ⟨gA, 0, none⟩) c4 ⟨s.id + 1, s.next, s.cs⟩ by rw [hw8]; exact HD7.out.setI _)
          have HF8 := Lib.hid (show Frm (fun j => j = w5.heap.size) w7 w8 by rw [hw8]; exact (Frm.refl (fun j => j = w5.heap.size) w7).setCell (p := ⟨w5.heap.size, 0, none⟩) rfl _)
          change Code.wp _ _ _ _ (w7.setCell ⟨w5.heap.size, 0, none⟩ (.int .i64 (s.id + 1)))
          rw [← hw8]
          clear hw8 b0 b1 b2 y0 y1 y2 hwi hwi2
          have HR8 := Lib.hid (HR7.out.frm HF8.out (by have h1 := HAT.out.2.1; have h2 := HSZ.out; omega))
          have HO8 := Lib.hid (own_off HO7.out HD7.out HF8.out)
          obtain ⟨b0, b1, b2⟩ := HD8.out.at
          obtain ⟨z0, z1, z2⟩ := HR8.out.at
          obtain ⟨y0, y1, y2⟩ := HR8.out.froz
          simp only at b0 b1 b2
          simp only [zeroSc] at z0 z1 z2
          go_wp2
          rw [← HLN.out]
          change bodyPost _ _ _ _ _ (putSc w8 (w.heap.size + 1) (some ⟨gA, 0, none⟩) c4 ⟨s.id + 1, s.next, cs⟩)
          have hp := HR8.out.put (some ⟨gA, 0, none⟩) c4 ⟨s.id + 1, s.next, cs⟩
          have hpf := putSc_frm (g := w.heap.size + 1) (F := fun j => j = w.heap.size + 1) rfl w8 (some ⟨gA, 0, none⟩) c4 ⟨s.id + 1, s.next, cs⟩
          generalize putSc w8 (w.heap.size + 1) (some ⟨gA, 0, none⟩) c4 ⟨s.id + 1, s.next, cs⟩ = w99 at *
          clear z0 z1 z2 y0 y1 y2 b0 b1 b2
          obtain ⟨b0, b1, b2⟩ := hp.at
          simp only at b0 b1 b2
          have hrr := HRR.out
          subst hrr
          refine bodyPost_ret (v := .tuple #[.agg #[.int .i64 (s.id + 1), .slice (some ⟨gA, 0, none⟩) cs.length c4, .int .i64 s.next], .int .i64 0]) (by simp [results, Try.results17, go_sem, b0, b1, b2]) rfl ?_
          have hB8 : Below w.heap.size w w8 := Frm.to_below (Frm.to_below (HB.out.trans (HU6.out.mono HB.out.size)) HF7.out (fun j hj => by have h1 := (HAT.out.1 j hj).1; have h2 := HAT.out.2.1; omega) (Nat.le_refl _)) HF8.out (fun j e => by have h1 := HSZ.out; have h2 := HAT.out.2.1; omega) (Nat.le_refl _)
          exact ⟨some ⟨gA, 0, none⟩, c4, rfl, (own_off HO8.out HR8.out hpf).lower (by have h1 := HAT.out.2.1; omega), Frm.to_below hB8 hpf (fun k e => by omega) (Nat.le_refl _)⟩
        · have d5 : (FA to != FA nm) = true := by simpa using h6
          obtain rfl : R = (zeroSc, 1201) := by rw [hR, if_pos (.inr ⟨h5, h6⟩)]
          clear hR h5 h6 hlt
          go_enter Try.func17, Try.ntmps17
          go_upto_region 1 with fail
          rw [← hu]
          clear hu
          obtain ⟨b0, b1, b2⟩ := HS1.out.at
          go_wp2_with (first
            | (go_at_call 21; refine (TM.out _ HU1.out).mono ?_; rintro e w2 ⟨rfl, hb⟩; have HU2 := Lib.hid (HU1.out.trans (hb.mono HU1.out.size)); have HR2 := Lib.hid (HR1.out.below hb); have HS2 := Lib.hid (HS1.out.below hb); clear hb; obtain ⟨z0, z1, z2⟩ := HR2.out.at; obtain ⟨y0, y1, y2⟩ := HR2.out.froz; simp only [zeroSc] at z0 z1 z2; obtain ⟨b0, b1, b2⟩ := HS2.out.at)
            | (go_at_call 27; refine (TF.out _ HU2.out _).mono ?_; rintro e w3 ⟨rfl, hb⟩; have HU3 := Lib.hid (HU2.out.trans (hb.mono HU2.out.size)); have HR3 := Lib.hid (HR2.out.below hb); have HS3 := Lib.hid (HS2.out.below hb); clear hb; obtain ⟨z0, z1, z2⟩ := HR3.out.at; obtain ⟨y0, y1, y2⟩ := HR3.out.froz; simp only [zeroSc] at z0 z1 z2; obtain ⟨b0, b1, b2⟩ := HS3.out.at)
            | (go_at_call 27; refine (TF.out _ HU3.out _).mono ?_; rintro e w4 ⟨rfl, hb⟩; have HU4 := Lib.hid (HU3.out.trans (hb.mono HU3.out.size)); have HR4 := Lib.hid (HR3.out.below hb); have HS4 := Lib.hid (HS3.out.below hb); clear hb; obtain ⟨z0, z1, z2⟩ := HR4.out.at; obtain ⟨y0, y1, y2⟩ := HR4.out.froz; simp only [zeroSc] at z0 z1 z2; obtain ⟨b0, b1, b2⟩ := HS4.out.at)
            | (go_at_call 55; refine (TN.out _).mono ?_; rintro e wk ⟨rfl, rfl⟩))
          change bodyPost _ _ _ _ _ (putSc w4 (w.heap.size + 1) none 0 zeroSc)
          have hp := HR4.out.put none 0 zeroSc
          have hpf := putSc_frm (g := w.heap.size + 1) (F := fun j => j = w.heap.size + 1) rfl w4 none 0 zeroSc
          generalize putSc w4 (w.heap.size + 1) none 0 zeroSc = w99 at *
          obtain ⟨b0, b1, b2⟩ := hp.at
          simp only [zeroSc] at b0 b1 b2
          clear z0 z1 z2 y0 y1 y2
          refine bodyPost_ret (v := .tuple #[.agg #[.int .i64 0, .slice none 0 0, .int .i64 0], .int .i64 1201]) (by simp [results, Try.results17, go_sem, b0, b1, b2]) rfl ?_
          exact ⟨none, 0, rfl, OwnCo.nil _ _, Frm.to_below (HB.out.trans (HU4.out.mono HB.out.size)) hpf (fun k e => by omega) (Nat.le_refl _)⟩
      · have d4 : decide (0 ≤ FA to) = false := decide_eq_false h5
        rw [if_neg (by rintro (h | h); · cases h
                       exact h5 h.1)] at hR
        clear h5
        by_cases hi : 2147483647 ≤ s.id
        · have d3 : decide ((2147483647 : Int) ≤ s.id) = true := decide_eq_true hi
          obtain rfl : R = (zeroSc, 1200) := by rw [hR, if_pos hi]
          clear hR hi hlt
          go_enter Try.func17, Try.ntmps17
          go_upto_region 1 with fail
          rw [← hu]
          clear hu
          obtain ⟨b0, b1, b2⟩ := HS1.out.at
          go_wp2_with (first
            | (go_at_call 21; refine (TM.out _ HU1.out).mono ?_; rintro e w2 ⟨rfl, hb⟩; have HU2 := Lib.hid (HU1.out.trans (hb.mono HU1.out.size)); have HR2 := Lib.hid (HR1.out.below hb); have HS2 := Lib.hid (HS1.out.below hb); clear hb; obtain ⟨z0, z1, z2⟩ := HR2.out.at; obtain ⟨y0, y1, y2⟩ := HR2.out.froz; simp only [zeroSc] at z0 z1 z2; obtain ⟨b0, b1, b2⟩ := HS2.out.at)
            | (go_at_call 27; refine (TF.out _ HU2.out _).mono ?_; rintro e w3 ⟨rfl, hb⟩; have HU3 := Lib.hid (HU2.out.trans (hb.mono HU2.out.size)); have HR3 := Lib.hid (HR2.out.below hb); have HS3 := Lib.hid (HS2.out.below hb); clear hb; obtain ⟨z0, z1, z2⟩ := HR3.out.at; obtain ⟨y0, y1, y2⟩ := HR3.out.froz; simp only [zeroSc] at z0 z1 z2; obtain ⟨b0, b1, b2⟩ := HS3.out.at)
            | (go_at_call 27; refine (TF.out _ HU3.out _).mono ?_; rintro e w4 ⟨rfl, hb⟩; have HU4 := Lib.hid (HU3.out.trans (hb.mono HU3.out.size)); have HR4 := Lib.hid (HR3.out.below hb); have HS4 := Lib.hid (HS3.out.below hb); clear hb; obtain ⟨z0, z1, z2⟩ := HR4.out.at; obtain ⟨y0, y1, y2⟩ := HR4.out.froz; simp only [zeroSc] at z0 z1 z2; obtain ⟨b0, b1, b2⟩ := HS4.out.at)
            | (go_at_call 55; refine (TN.out _).mono ?_; rintro e wk ⟨rfl, rfl⟩))
          change bodyPost _ _ _ _ _ (putSc w4 (w.heap.size + 1) none 0 zeroSc)
          have hp := HR4.out.put none 0 zeroSc
          have hpf := putSc_frm (g := w.heap.size + 1) (F := fun j => j = w.heap.size + 1) rfl w4 none 0 zeroSc
          generalize putSc w4 (w.heap.size + 1) none 0 zeroSc = w99 at *
          obtain ⟨b0, b1, b2⟩ := hp.at
          simp only [zeroSc] at b0 b1 b2
          clear z0 z1 z2 y0 y1 y2
          refine bodyPost_ret (v := .tuple #[.agg #[.int .i64 0, .slice none 0 0, .int .i64 0], .int .i64 1200]) (by simp [results, Try.results17, go_sem, b0, b1, b2]) rfl ?_
          exact ⟨none, 0, rfl, OwnCo.nil _ _, Frm.to_below (HB.out.trans (HU4.out.mono HB.out.size)) hpf (fun k e => by omega) (Nat.le_refl _)⟩
        have d3 : decide ((2147483647 : Int) ≤ s.id) = false := decide_eq_false hi
        rw [if_neg hi] at hR
        have HBD := Lib.hid (show 0 ≤ s.id ∧ s.id < 2147483647 by have := HML.out (by simp); omega)
        have HRR := Lib.hid hR
        clear hR hi
        generalize findN s.cs nm = i at *
        have hii : (i : Int) < (s.cs.length : Int) := by omega
        have hi0 : (0 : Int) ≤ (i : Int) := by omega
        generalize hv9 : s.cs[i] = v9 at *
        have HV9 := Lib.hid hv9
        clear hv9 hlt
        go_enter Try.func17, Try.ntmps17
        go_upto_region 1 with fail
        rw [← hu]
        clear hu
        obtain ⟨b0, b1, b2⟩ := HS1.out.at
        go_upto_region 11 with (first
          | (go_at_call 21; refine (TM.out _ HU1.out).mono ?_; rintro e w2 ⟨rfl, hb⟩; have HU2 := Lib.hid (HU1.out.trans (hb.mono HU1.out.size)); have HR2 := Lib.hid (HR1.out.below hb); have HS2 := Lib.hid (HS1.out.below hb); clear hb; obtain ⟨z0, z1, z2⟩ := HR2.out.at; obtain ⟨y0, y1, y2⟩ := HR2.out.froz; simp only [zeroSc] at z0 z1 z2; obtain ⟨b0, b1, b2⟩ := HS2.out.at)
          | (go_at_call 27; refine (TF.out _ HU2.out _).mono ?_; rintro e w3 ⟨rfl, hb⟩; have HU3 := Lib.hid (HU2.out.trans (hb.mono HU2.out.size)); have HR3 := Lib.hid (HR2.out.below hb); have HS3 := Lib.hid (HS2.out.below hb); clear hb; obtain ⟨z0, z1, z2⟩ := HR3.out.at; obtain ⟨y0, y1, y2⟩ := HR3.out.froz; simp only [zeroSc] at z0 z1 z2; obtain ⟨b0, b1, b2⟩ := HS3.out.at)
          | (go_at_call 27; refine (TF.out _ HU3.out _).mono ?_; rintro e w4 ⟨rfl, hb⟩; have HU4 := Lib.hid (HU3.out.trans (hb.mono HU3.out.size)); have HR4 := Lib.hid (HR3.out.below hb); have HS4 := Lib.hid (HS3.out.below hb); clear hb; obtain ⟨z0, z1, z2⟩ := HR4.out.at; obtain ⟨y0, y1, y2⟩ := HR4.out.froz; simp only [zeroSc] at z0 z1 z2; obtain ⟨b0, b1, b2⟩ := HS4.out.at)
          | (go_at_call 55; refine (TN.out _).mono ?_; rintro e wk ⟨rfl, rfl⟩))
        go_upto_region 12 with (go_at_call 57; refine (TC.out _ HU4.out (by simp)).mono ?_; rintro e w5 ⟨a4, c4, rfl, ho, hb⟩; have HO4 := Lib.hid ho; have HSZ := Lib.hid hb.size; have HU5 := Lib.hid (HU4.out.trans (hb.mono HU4.out.size)); have HR5 := Lib.hid (HR4.out.below hb); clear ho hb)
        change Code.wp _ _ _ _ (w5.alloc (.cells #[.int .i64 s.id, .slice a4 s.cs.length c4, .int .i64 s.next] 24))
        obtain ⟨u5, hu5⟩ : ∃ u5, u5 = w5.alloc (.cells #[.int .i64 s.id, .slice a4 s.cs.length c4, .int .i64 s.next] 24) := ⟨_, rfl⟩
        have hb5 : Below w5.heap.size w5 u5 := by rw [hu5]; exact (Below.refl _ _).alloc (Nat.le_refl _) _
        have HD6 := Lib.hid (show ScSlot u5 w5.heap.size a4 c4 s by rw [hu5]; exact ScSlot.new w5 a4 c4 s)
        have HO6 := Lib.hid (HO4.out.below hb5)
        have HU6 := Lib.hid (HU5.out.trans (hb5.mono HU5.out.size))
        have HR6 := Lib.hid (HR5.out.below hb5)
        have HAT := Lib.hid (show (∀ j, At a4 j → w4.heap.size ≤ j ∧ j < w5.heap.size) ∧ w.heap.size + 1 < w4.heap.size ∧ u.heap.size ≤ w4.heap.size from ⟨fun j hj => HO4.out.at_ge hj, HR4.out.lt, HU4.out.size⟩)
        rw [← hu5]
        clear hu5 hb5 HO4 HU5 HR5 b0 b1 b2 z0 z1 z2 y0 y1 y2
        obtain ⟨gA, hgA⟩ := HO6.out.there (by intro e; have := HLT.out; rw [e] at this; simp at this)
        subst hgA
        obtain ⟨cur, hcur⟩ := own_tyS HO6.out (k := gA) rfl
        have x0 := (HO6.out.get i HLT.out).c1
        have x1 := frozen_of_row u5 gA (i * 3 + 1) _ _ hcur
        obtain ⟨b0, b1, b2⟩ := HD6.out.at
        clear hcur
        rw [HFI.out]
        go_upto_region 13 with fail
        obtain ⟨w7, hw7⟩ : ∃ w7, w7 = u5.setCell ⟨gA, i * 3 + 1, none⟩ (.string to) := ⟨_, rfl⟩
        have HO7 := Lib.hid (show OwnCo w4.heap.size w7 (some ⟨gA, 0, none⟩) c4 (s.cs.set i (named v9 to)) by rw [hw7, ← HV9.out]; exact HO6.out.named i HLT.out to)
        have hf7 : Frm (At (some ⟨gA, 0, none⟩)) u5 w7 := by rw [hw7]; exact (Frm.refl (At (some ⟨gA, 0, none⟩)) u5).setCell (p := ⟨gA, i * 3 + 1, none⟩) rfl _
        have HD7 := Lib.hid (HD6.out.frm hf7 (fun e => by have := (HAT.out.1 _ e).2; omega))
        have HR7 := Lib.hid (HR6.out.frm hf7 (fun e => by have := (HAT.out.1 _ e).1; have := HAT.out.2.1; omega))
        have HF7 := Lib.hid hf7
        change Code.wp _ _ _ _ (u5.setCell ⟨gA, i * 3 + 1, none⟩ (.string to))
        rw [← hw7]
        clear hw7 hf7 b0 b1 b2 x0 x1
        have hwi : IntKind.i64.wrap (s.id + 1) = s.id + 1 := by rw [IntKind.wrap_i64]; have := HBD.out; omega
        have hwi2 : wrap64 (s.id + 1) = s.id + 1 := by unfold wrap64; have := HBD.out; omega
        have hln : (s.cs.set i (named v9 to)).length = s.cs.length := List.length_set
        generalize hcs : s.cs.set i (named v9 to) = cs at *
        have HLN := Lib.hid hln
        clear hcs hln
        obtain ⟨b0, b1, b2⟩ := HD7.out.at
        obtain ⟨y0, y1, y2⟩ := HD7.out.froz
        go_upto_region 14 with fail
        obtain ⟨w8, hw8⟩ : ∃ w8, w8 = w7.setCell ⟨w5.heap.size, 0, none⟩ (.int .i64 (s.id + 1)) := ⟨_, rfl⟩
        have HD8 := Lib.hid (show ScSlot w8 w5.heap.size (some ⟨gA, 0, none⟩) c4 ⟨s.id + 1, s.next, s.cs⟩ by rw [hw8]; exact HD7.out.setI _)
        have HF8 := Lib.hid (show Frm (fun j => j = w5.heap.size) w7 w8 by rw [hw8]; exact (Frm.refl (fun j => j = w5.heap.size) w7).setCell (p := ⟨w5.heap.size, 0, none⟩) rfl _)
        change Code.wp _ _ _ _ (w7.setCell ⟨w5.heap.size, 0, none⟩ (.int .i64 (s.id + 1)))
        rw [← hw8]
        clear hw8 b0 b1 b2 y0 y1 y2 hwi hwi2
        have HR8 := Lib.hid (HR7.out.frm HF8.out (by have h1 := HAT.out.2.1; have h2 := HSZ.out; omega))
        have HO8 := Lib.hid (own_off HO7.out HD7.out HF8.out)
        obtain ⟨b0, b1, b2⟩ := HD8.out.at
        obtain ⟨z0, z1, z2⟩ := HR8.out.at
        obtain ⟨y0, y1, y2⟩ := HR8.out.froz
        simp only at b0 b1 b2
        simp only [zeroSc] at z0 z1 z2
        go_wp2
        rw [← HLN.out]
        change bodyPost _ _ _ _ _ (putSc w8 (w.heap.size + 1) (some ⟨gA, 0, none⟩) c4 ⟨s.id + 1, s.next, cs⟩)
        have hp := HR8.out.put (some ⟨gA, 0, none⟩) c4 ⟨s.id + 1, s.next, cs⟩
        have hpf := putSc_frm (g := w.heap.size + 1) (F := fun j => j = w.heap.size + 1) rfl w8 (some ⟨gA, 0, none⟩) c4 ⟨s.id + 1, s.next, cs⟩
        generalize putSc w8 (w.heap.size + 1) (some ⟨gA, 0, none⟩) c4 ⟨s.id + 1, s.next, cs⟩ = w99 at *
        clear z0 z1 z2 y0 y1 y2 b0 b1 b2
        obtain ⟨b0, b1, b2⟩ := hp.at
        simp only at b0 b1 b2
        have hrr := HRR.out
        subst hrr
        refine bodyPost_ret (v := .tuple #[.agg #[.int .i64 (s.id + 1), .slice (some ⟨gA, 0, none⟩) cs.length c4, .int .i64 s.next], .int .i64 0]) (by simp [results, Try.results17, go_sem, b0, b1, b2]) rfl ?_
        have hB8 : Below w.heap.size w w8 := Frm.to_below (Frm.to_below (HB.out.trans (HU6.out.mono HB.out.size)) HF7.out (fun j hj => by have h1 := (HAT.out.1 j hj).1; have h2 := HAT.out.2.1; omega) (Nat.le_refl _)) HF8.out (fun j e => by have h1 := HSZ.out; have h2 := HAT.out.2.1; omega) (Nat.le_refl _)
        exact ⟨some ⟨gA, 0, none⟩, c4, rfl, (own_off HO8.out HR8.out hpf).lower (by have h1 := HAT.out.2.1; omega), Frm.to_below hB8 hpf (fun k e => by omega) (Nat.le_refl _)⟩
end Go.Proofs.Ythfakpekdjmpjaa
