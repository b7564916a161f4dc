/- The document's schemas: Add. -/
import Derived.Test.YthfakpekdjmpjaaSchT
namespace Go.Proofs.Ythfakpekdjmpjaa
open Go.Conc Go.RowKit
set_option linter.unusedVariables false
set_option linter.unusedSimpArgs false

theorem may_next {s : Sc} (h : maySc s = true) : 2 ≤ s.next := by
  obtain ⟨h1, h2, _⟩ := (may_iff s).1 h
  have hl : 0 < s.cs.length := by omega
  have := h2 _ (List.getElem_mem hl)
  unfold okCol at this
  simp only [Bool.and_eq_true, decide_eq_true_eq] at this
  omega

set_option maxRecDepth 100000 in
set_option maxHeartbeats 2000000 in
theorem refschadd_any (w : World) (a : Option Addr) (c : Nat) (s : Sc) (nm : ByteArray) (k : Int) (ha : IsCo w a s.cs) (hn : a = none → s.cs.length = 0 ∧ c = 0) (hl : s.cs.length ≤ maxLen) :
    Calls Try.prog 13 #[.agg #[.int .i64 s.id, .slice a s.cs.length c, .int .i64 s.next], .string nm, .int .i64 k] w (ScPost w (addA s nm k)) := by
  obtain ⟨R, hR⟩ : ∃ R, R = addA s nm k := ⟨_, rfl⟩
  rw [← hR]
  obtain ⟨u, hu⟩ : ∃ u, u = (w.alloc (.cells #[.int .i64 s.id, .slice a s.cs.length c, .int .i64 s.next] 24)).alloc (.cells #[.int .i64 0, .slice none 0 0, .int .i64 0] 24) := ⟨_, rfl⟩
  have hsz : (w.alloc (.cells #[.int .i64 s.id, .slice a s.cs.length c, .int .i64 s.next] 24)).heap.size = w.heap.size + 1 := by simp
  have hbu : Below w.heap.size w u := by rw [hu]; exact ((Below.refl _ _).alloc (Nat.le_refl _) _).alloc (by simp) _
  have HS1 := Lib.hid (show ScSlot u w.heap.size a c s by rw [hu]; exact (ScSlot.new w a c s).same (Below.heap_alloc _ _ _ (by simp)))
  have HR1 := Lib.hid (show ScSlot u (w.heap.size + 1) none 0 zeroSc by rw [hu, ← hsz]; exact ScSlot.new _ none 0 zeroSc)
  have HU1 : Hid (Below u.heap.size u u) := Below.refl _ _
  have HB := Lib.hid hbu
  have HA := Lib.hid (ha.below hbu)
  have HNN := Lib.hid hn
  have HML := Lib.hid (fun (h : maySc s = true) => ((may_iff s).1 h).1)
  have HPOS := Lib.hid (fun (h : maySc s = true) => may_next h)
  have TM := Lib.hid (fun (v : World) (hv : Below u.heap.size u v) => refschmay_any v a c s (HA.out.below hv) hl)
  have TC := Lib.hid (fun (v : World) (hv : Below u.heap.size u v) (h : maySc s = true) => refschcopy_any v a c s (HA.out.below hv) HNN.out (by have := HML.out h; omega) (by have := HML.out h; omega))
  clear hsz hbu ha hn
  unfold addA at hR
  have TF := Lib.hid (fun (v : World) (hv : Below u.heap.size u v) => refschfind_any v a c s nm (HA.out.below hv) hl)
  have TN := Lib.hid (fun v => refname_any nm v)
  have TK := Lib.hid (fun v => refkind_any k v)
  clear hl HA HNN
  generalize findA s.cs nm = F at *
  generalize nameB nm = N at *
  generalize kindB k = K at *
  generalize maySc s = M at *
  cases M with
  | false =>
    obtain rfl : R = (zeroSc, 1200) := by rw [hR, if_pos rfl]
    clear hR
    go_enter Try.func13, Try.ntmps13
    go_upto_region 1 with fail
    rw [← hu]
    clear hu
    obtain ⟨b0, b1, b2⟩ := HS1.out.at
    go_wp2_with (first
      | (go_at_call 21; refine (TM.out _ HU1.out).mono ?_; rintro e w2 ⟨rfl, hb⟩; have HU2 := Lib.hid (HU1.out.trans (hb.mono HU1.out.size)); have HR2 := Lib.hid (HR1.out.below hb); have HS2 := Lib.hid (HS1.out.below hb); clear hb; obtain ⟨z0, z1, z2⟩ := HR2.out.at; obtain ⟨y0, y1, y2⟩ := HR2.out.froz; simp only [zeroSc] at z0 z1 z2; obtain ⟨b0, b1, b2⟩ := HS2.out.at))
    change bodyPost _ _ _ _ _ (putSc w2 (w.heap.size + 1) none 0 zeroSc)
    have hp := HR2.out.put none 0 zeroSc
    have hpf := putSc_frm (g := w.heap.size + 1) (F := fun j => j = w.heap.size + 1) rfl w2 none 0 zeroSc
    generalize putSc w2 (w.heap.size + 1) none 0 zeroSc = w99 at *
    obtain ⟨b0, b1, b2⟩ := hp.at
    simp only [zeroSc] at b0 b1 b2
    clear z0 z1 z2 y0 y1 y2
    refine bodyPost_ret (v := .tuple #[.agg #[.int .i64 0, .slice none 0 0, .int .i64 0], .int .i64 1200]) (by simp [results, Try.results13, go_sem, b0, b1, b2]) rfl ?_
    exact ⟨none, 0, rfl, OwnCo.nil _ _, Frm.to_below (HB.out.trans (HU2.out.mono HB.out.size)) hpf (fun k e => by omega) (Nat.le_refl _)⟩
  | true =>
    rw [if_neg (by simp)] at hR
    cases N with
    | false =>
      obtain rfl : R = (zeroSc, 1201) := by rw [hR, if_pos (.inl rfl)]
      clear hR
      go_enter Try.func13, Try.ntmps13
      go_upto_region 1 with fail
      rw [← hu]
      clear hu
      obtain ⟨b0, b1, b2⟩ := HS1.out.at
      go_wp2_with (first
        | (go_at_call 21; refine (TM.out _ HU1.out).mono ?_; rintro e w2 ⟨rfl, hb⟩; have HU2 := Lib.hid (HU1.out.trans (hb.mono HU1.out.size)); have HR2 := Lib.hid (HR1.out.below hb); have HS2 := Lib.hid (HS1.out.below hb); clear hb; obtain ⟨z0, z1, z2⟩ := HR2.out.at; obtain ⟨y0, y1, y2⟩ := HR2.out.froz; simp only [zeroSc] at z0 z1 z2; obtain ⟨b0, b1, b2⟩ := HS2.out.at)
        | (go_at_call 55; refine (TN.out _).mono ?_; rintro e wk ⟨rfl, rfl⟩))
      change bodyPost _ _ _ _ _ (putSc w2 (w.heap.size + 1) none 0 zeroSc)
      have hp := HR2.out.put none 0 zeroSc
      have hpf := putSc_frm (g := w.heap.size + 1) (F := fun j => j = w.heap.size + 1) rfl w2 none 0 zeroSc
      generalize putSc w2 (w.heap.size + 1) none 0 zeroSc = w99 at *
      obtain ⟨b0, b1, b2⟩ := hp.at
      simp only [zeroSc] at b0 b1 b2
      clear z0 z1 z2 y0 y1 y2
      refine bodyPost_ret (v := .tuple #[.agg #[.int .i64 0, .slice none 0 0, .int .i64 0], .int .i64 1201]) (by simp [results, Try.results13, go_sem, b0, b1, b2]) rfl ?_
      exact ⟨none, 0, rfl, OwnCo.nil _ _, Frm.to_below (HB.out.trans (HU2.out.mono HB.out.size)) hpf (fun k e => by omega) (Nat.le_refl _)⟩
    | true =>
      by_cases hF : 0 ≤ F
      · have d1 : decide (F ≥ 0) = true := decide_eq_true hF
        have d1' : decide (0 ≤ F) = true := decide_eq_true hF
        obtain rfl : R = (zeroSc, 1201) := by rw [hR, if_pos (.inr hF)]
        clear hR
        go_enter Try.func13, Try.ntmps13
        go_upto_region 1 with fail
        rw [← hu]
        clear hu
        obtain ⟨b0, b1, b2⟩ := HS1.out.at
        go_wp2_with (first
          | (go_at_call 21; refine (TM.out _ HU1.out).mono ?_; rintro e w2 ⟨rfl, hb⟩; have HU2 := Lib.hid (HU1.out.trans (hb.mono HU1.out.size)); have HR2 := Lib.hid (HR1.out.below hb); have HS2 := Lib.hid (HS1.out.below hb); clear hb; obtain ⟨z0, z1, z2⟩ := HR2.out.at; obtain ⟨y0, y1, y2⟩ := HR2.out.froz; simp only [zeroSc] at z0 z1 z2; obtain ⟨b0, b1, b2⟩ := HS2.out.at)
          | (go_at_call 55; refine (TN.out _).mono ?_; rintro e wk ⟨rfl, rfl⟩)
          | (go_at_call 27; refine (TF.out _ HU2.out).mono ?_; rintro e w3 ⟨rfl, hb⟩; have HU3 := Lib.hid (HU2.out.trans (hb.mono HU2.out.size)); have HR3 := Lib.hid (HR2.out.below hb); have HS3 := Lib.hid (HS2.out.below hb); clear hb; obtain ⟨z0, z1, z2⟩ := HR3.out.at; obtain ⟨y0, y1, y2⟩ := HR3.out.froz; simp only [zeroSc] at z0 z1 z2; obtain ⟨b0, b1, b2⟩ := HS3.out.at))
        change bodyPost _ _ _ _ _ (putSc w3 (w.heap.size + 1) none 0 zeroSc)
        have hp := HR3.out.put none 0 zeroSc
        have hpf := putSc_frm (g := w.heap.size + 1) (F := fun j => j = w.heap.size + 1) rfl w3 none 0 zeroSc
        generalize putSc w3 (w.heap.size + 1) none 0 zeroSc = w99 at *
        obtain ⟨b0, b1, b2⟩ := hp.at
        simp only [zeroSc] at b0 b1 b2
        clear z0 z1 z2 y0 y1 y2
        refine bodyPost_ret (v := .tuple #[.agg #[.int .i64 0, .slice none 0 0, .int .i64 0], .int .i64 1201]) (by simp [results, Try.results13, go_sem, b0, b1, b2]) rfl ?_
        exact ⟨none, 0, rfl, OwnCo.nil _ _, Frm.to_below (HB.out.trans (HU3.out.mono HB.out.size)) hpf (fun k e => by omega) (Nat.le_refl _)⟩
      rw [if_neg (by simpa using hF)] at hR
      have d1 : decide (0 ≤ F) = false := decide_eq_false hF
      clear hF
      cases K with
      | false =>
        obtain rfl : R = (zeroSc, 1200) := by rw [hR, if_pos rfl]
        clear hR
        go_enter Try.func13, Try.ntmps13
        go_upto_region 1 with fail
        rw [← hu]
        clear hu
        obtain ⟨b0, b1, b2⟩ := HS1.out.at
        go_wp2_with (first
          | (go_at_call 21; refine (TM.out _ HU1.out).mono ?_; rintro e w2 ⟨rfl, hb⟩; have HU2 := Lib.hid (HU1.out.trans (hb.mono HU1.out.size)); have HR2 := Lib.hid (HR1.out.below hb); have HS2 := Lib.hid (HS1.out.below hb); clear hb; obtain ⟨z0, z1, z2⟩ := HR2.out.at; obtain ⟨y0, y1, y2⟩ := HR2.out.froz; simp only [zeroSc] at z0 z1 z2; obtain ⟨b0, b1, b2⟩ := HS2.out.at)
          | (go_at_call 55; refine (TN.out _).mono ?_; rintro e wk ⟨rfl, rfl⟩)
          | (go_at_call 27; refine (TF.out _ HU2.out).mono ?_; rintro e w3 ⟨rfl, hb⟩; have HU3 := Lib.hid (HU2.out.trans (hb.mono HU2.out.size)); have HR3 := Lib.hid (HR2.out.below hb); have HS3 := Lib.hid (HS2.out.below hb); clear hb; obtain ⟨z0, z1, z2⟩ := HR3.out.at; obtain ⟨y0, y1, y2⟩ := HR3.out.froz; simp only [zeroSc] at z0 z1 z2; obtain ⟨b0, b1, b2⟩ := HS3.out.at)
          | (go_at_call 56; refine (TK.out _).mono ?_; rintro e wk ⟨rfl, rfl⟩))
        change bodyPost _ _ _ _ _ (putSc w3 (w.heap.size + 1) none 0 zeroSc)
        have hp := HR3.out.put none 0 zeroSc
        have hpf := putSc_frm (g := w.heap.size + 1) (F := fun j => j = w.heap.size + 1) rfl w3 none 0 zeroSc
        generalize putSc w3 (w.heap.size + 1) none 0 zeroSc = w99 at *
        obtain ⟨b0, b1, b2⟩ := hp.at
        simp only [zeroSc] at b0 b1 b2
        clear z0 z1 z2 y0 y1 y2
        refine bodyPost_ret (v := .tuple #[.agg #[.int .i64 0, .slice none 0 0, .int .i64 0], .int .i64 1200]) (by simp [results, Try.results13, go_sem, b0, b1, b2]) rfl ?_
        exact ⟨none, 0, rfl, OwnCo.nil _ _, Frm.to_below (HB.out.trans (HU3.out.mono HB.out.size)) hpf (fun k e => by omega) (Nat.le_refl _)⟩
      | true =>
        rw [if_neg (by simp)] at hR
        by_cases h12 : 12 ≤ s.cs.length
        · have d2 : decide ((12 : Int) ≤ (s.cs.length : Int)) = true := decide_eq_true (by omega)
          obtain rfl : R = (zeroSc, 1203) := by rw [hR, if_pos h12]
          clear hR h12
          go_enter Try.func13, Try.ntmps13
          go_upto_region 1 with fail
          rw [← hu]
          clear hu
          obtain ⟨b0, b1, b2⟩ := HS1.out.at
          go_wp2_with (first
            | (go_at_call 21; refine (TM.out _ HU1.out).mono ?_; rintro e w2 ⟨rfl, hb⟩; have HU2 := Lib.hid (HU1.out.trans (hb.mono HU1.out.size)); have HR2 := Lib.hid (HR1.out.below hb); have HS2 := Lib.hid (HS1.out.below hb); clear hb; obtain ⟨z0, z1, z2⟩ := HR2.out.at; obtain ⟨y0, y1, y2⟩ := HR2.out.froz; simp only [zeroSc] at z0 z1 z2; obtain ⟨b0, b1, b2⟩ := HS2.out.at)
            | (go_at_call 55; refine (TN.out _).mono ?_; rintro e wk ⟨rfl, rfl⟩)
            | (go_at_call 27; refine (TF.out _ HU2.out).mono ?_; rintro e w3 ⟨rfl, hb⟩; have HU3 := Lib.hid (HU2.out.trans (hb.mono HU2.out.size)); have HR3 := Lib.hid (HR2.out.below hb); have HS3 := Lib.hid (HS2.out.below hb); clear hb; obtain ⟨z0, z1, z2⟩ := HR3.out.at; obtain ⟨y0, y1, y2⟩ := HR3.out.froz; simp only [zeroSc] at z0 z1 z2; obtain ⟨b0, b1, b2⟩ := HS3.out.at)
            | (go_at_call 56; refine (TK.out _).mono ?_; rintro e wk ⟨rfl, rfl⟩))
          change bodyPost _ _ _ _ _ (putSc w3 (w.heap.size + 1) none 0 zeroSc)
          have hp := HR3.out.put none 0 zeroSc
          have hpf := putSc_frm (g := w.heap.size + 1) (F := fun j => j = w.heap.size + 1) rfl w3 none 0 zeroSc
          generalize putSc w3 (w.heap.size + 1) none 0 zeroSc = w99 at *
          obtain ⟨b0, b1, b2⟩ := hp.at
          simp only [zeroSc] at b0 b1 b2
          clear z0 z1 z2 y0 y1 y2
          refine bodyPost_ret (v := .tuple #[.agg #[.int .i64 0, .slice none 0 0, .int .i64 0], .int .i64 1203]) (by simp [results, Try.results13, go_sem, b0, b1, b2]) rfl ?_
          exact ⟨none, 0, rfl, OwnCo.nil _ _, Frm.to_below (HB.out.trans (HU3.out.mono HB.out.size)) hpf (fun k e => by omega) (Nat.le_refl _)⟩
        rw [if_neg h12] at hR
        have d2 : decide ((12 : Int) ≤ (s.cs.length : Int)) = false := decide_eq_false (by omega)
        have H12 := Lib.hid h12
        clear h12
        by_cases hi : 2147483647 ≤ s.id
        · have d3 : decide ((2147483647 : Int) ≤ s.id) = true := decide_eq_true hi
          obtain rfl : R = (zeroSc, 1200) := by rw [hR, if_pos (.inl hi)]
          clear hR hi
          go_enter Try.func13, Try.ntmps13
          go_upto_region 1 with fail
          rw [← hu]
          clear hu
          obtain ⟨b0, b1, b2⟩ := HS1.out.at
          go_wp2_with (first
            | (go_at_call 21; refine (TM.out _ HU1.out).mono ?_; rintro e w2 ⟨rfl, hb⟩; have HU2 := Lib.hid (HU1.out.trans (hb.mono HU1.out.size)); have HR2 := Lib.hid (HR1.out.below hb); have HS2 := Lib.hid (HS1.out.below hb); clear hb; obtain ⟨z0, z1, z2⟩ := HR2.out.at; obtain ⟨y0, y1, y2⟩ := HR2.out.froz; simp only [zeroSc] at z0 z1 z2; obtain ⟨b0, b1, b2⟩ := HS2.out.at)
            | (go_at_call 55; refine (TN.out _).mono ?_; rintro e wk ⟨rfl, rfl⟩)
            | (go_at_call 27; refine (TF.out _ HU2.out).mono ?_; rintro e w3 ⟨rfl, hb⟩; have HU3 := Lib.hid (HU2.out.trans (hb.mono HU2.out.size)); have HR3 := Lib.hid (HR2.out.below hb); have HS3 := Lib.hid (HS2.out.below hb); clear hb; obtain ⟨z0, z1, z2⟩ := HR3.out.at; obtain ⟨y0, y1, y2⟩ := HR3.out.froz; simp only [zeroSc] at z0 z1 z2; obtain ⟨b0, b1, b2⟩ := HS3.out.at)
            | (go_at_call 56; refine (TK.out _).mono ?_; rintro e wk ⟨rfl, rfl⟩))
          change bodyPost _ _ _ _ _ (putSc w3 (w.heap.size + 1) none 0 zeroSc)
          have hp := HR3.out.put none 0 zeroSc
          have hpf := putSc_frm (g := w.heap.size + 1) (F := fun j => j = w.heap.size + 1) rfl w3 none 0 zeroSc
          generalize putSc w3 (w.heap.size + 1) none 0 zeroSc = w99 at *
          obtain ⟨b0, b1, b2⟩ := hp.at
          simp only [zeroSc] at b0 b1 b2
          clear z0 z1 z2 y0 y1 y2
          refine bodyPost_ret (v := .tuple #[.agg #[.int .i64 0, .slice none 0 0, .int .i64 0], .int .i64 1200]) (by simp [results, Try.results13, go_sem, b0, b1, b2]) rfl ?_
          exact ⟨none, 0, rfl, OwnCo.nil _ _, Frm.to_below (HB.out.trans (HU3.out.mono HB.out.size)) hpf (fun k e => by omega) (Nat.le_refl _)⟩
        have d3 : decide ((2147483647 : Int) ≤ s.id) = false := decide_eq_false hi
        by_cases hx : 2147483647 ≤ s.next
        · have d4 : decide ((2147483647 : Int) ≤ s.next) = true := decide_eq_true hx
          obtain rfl : R = (zeroSc, 1200) := by rw [hR, if_pos (.inr hx)]
          clear hR hi hx
          go_enter Try.func13, Try.ntmps13
          go_upto_region 1 with fail
          rw [← hu]
          clear hu
          obtain ⟨b0, b1, b2⟩ := HS1.out.at
          go_wp2_with (first
            | (go_at_call 21; refine (TM.out _ HU1.out).mono ?_; rintro e w2 ⟨rfl, hb⟩; have HU2 := Lib.hid (HU1.out.trans (hb.mono HU1.out.size)); have HR2 := Lib.hid (HR1.out.below hb); have HS2 := Lib.hid (HS1.out.below hb); clear hb; obtain ⟨z0, z1, z2⟩ := HR2.out.at; obtain ⟨y0, y1, y2⟩ := HR2.out.froz; simp only [zeroSc] at z0 z1 z2; obtain ⟨b0, b1, b2⟩ := HS2.out.at)
            | (go_at_call 55; refine (TN.out _).mono ?_; rintro e wk ⟨rfl, rfl⟩)
            | (go_at_call 27; refine (TF.out _ HU2.out).mono ?_; rintro e w3 ⟨rfl, hb⟩; have HU3 := Lib.hid (HU2.out.trans (hb.mono HU2.out.size)); have HR3 := Lib.hid (HR2.out.below hb); have HS3 := Lib.hid (HS2.out.below hb); clear hb; obtain ⟨z0, z1, z2⟩ := HR3.out.at; obtain ⟨y0, y1, y2⟩ := HR3.out.froz; simp only [zeroSc] at z0 z1 z2; obtain ⟨b0, b1, b2⟩ := HS3.out.at)
            | (go_at_call 56; refine (TK.out _).mono ?_; rintro e wk ⟨rfl, rfl⟩))
          change bodyPost _ _ _ _ _ (putSc w3 (w.heap.size + 1) none 0 zeroSc)
          have hp := HR3.out.put none 0 zeroSc
          have hpf := putSc_frm (g := w.heap.size + 1) (F := fun j => j = w.heap.size + 1) rfl w3 none 0 zeroSc
          generalize putSc w3 (w.heap.size + 1) none 0 zeroSc = w99 at *
          obtain ⟨b0, b1, b2⟩ := hp.at
          simp only [zeroSc] at b0 b1 b2
          clear z0 z1 z2 y0 y1 y2
          refine bodyPost_ret (v := .tuple #[.agg #[.int .i64 0, .slice none 0 0, .int .i64 0], .int .i64 1200]) (by simp [results, Try.results13, go_sem, b0, b1, b2]) rfl ?_
          exact ⟨none, 0, rfl, OwnCo.nil _ _, Frm.to_below (HB.out.trans (HU3.out.mono HB.out.size)) hpf (fun k e => by omega) (Nat.le_refl _)⟩
        have d4 : decide ((2147483647 : Int) ≤ s.next) = false := decide_eq_false hx
        rw [if_neg (by simp only [not_or]; exact ⟨hi, hx⟩)] at hR
        have HNX := Lib.hid (HPOS.out (by simp))
        have HRR := Lib.hid hR
        have HBD := Lib.hid (show (0 ≤ s.id ∧ s.id < 2147483647) ∧ s.next < 2147483647 by have := HML.out rfl; omega)
        clear hR hi hx
        go_enter Try.func13, Try.ntmps13
        go_upto_region 1 with fail
        rw [← hu]
        clear hu
        obtain ⟨b0, b1, b2⟩ := HS1.out.at
        go_upto_region 11 with (first
          | (go_at_call 21; refine (TM.out _ HU1.out).mono ?_; rintro e w2 ⟨rfl, hb⟩; have HU2 := Lib.hid (HU1.out.trans (hb.mono HU1.out.size)); have HR2 := Lib.hid (HR1.out.below hb); have HS2 := Lib.hid (HS1.out.below hb); clear hb; obtain ⟨z0, z1, z2⟩ := HR2.out.at; obtain ⟨y0, y1, y2⟩ := HR2.out.froz; simp only [zeroSc] at z0 z1 z2; obtain ⟨b0, b1, b2⟩ := HS2.out.at)
          | (go_at_call 55; refine (TN.out _).mono ?_; rintro e wk ⟨rfl, rfl⟩)
          | (go_at_call 27; refine (TF.out _ HU2.out).mono ?_; rintro e w3 ⟨rfl, hb⟩; have HU3 := Lib.hid (HU2.out.trans (hb.mono HU2.out.size)); have HR3 := Lib.hid (HR2.out.below hb); have HS3 := Lib.hid (HS2.out.below hb); clear hb; obtain ⟨z0, z1, z2⟩ := HR3.out.at; obtain ⟨y0, y1, y2⟩ := HR3.out.froz; simp only [zeroSc] at z0 z1 z2; obtain ⟨b0, b1, b2⟩ := HS3.out.at)
          | (go_at_call 56; refine (TK.out _).mono ?_; rintro e wk ⟨rfl, rfl⟩))
        go_upto_region 12 with (go_at_call 57; refine (TC.out _ HU3.out (by simp)).mono ?_; rintro e w4 ⟨a4, c4, rfl, ho, hb⟩; have HO4 := Lib.hid ho; have HSZ := Lib.hid hb.size; have HU4 := Lib.hid (HU3.out.trans (hb.mono HU3.out.size)); have HR4 := Lib.hid (HR3.out.below hb); have HS4 := Lib.hid (HS3.out.below hb); clear ho hb)
        change Code.wp _ _ _ _ (w4.alloc (.cells #[.int .i64 s.id, .slice a4 s.cs.length c4, .int .i64 s.next] 24))
        obtain ⟨u4, hu4⟩ : ∃ u4, u4 = w4.alloc (.cells #[.int .i64 s.id, .slice a4 s.cs.length c4, .int .i64 s.next] 24) := ⟨_, rfl⟩
        have hb4 : Below w4.heap.size w4 u4 := by rw [hu4]; exact (Below.refl _ _).alloc (Nat.le_refl _) _
        have HD5 := Lib.hid (show ScSlot u4 w4.heap.size a4 c4 s by rw [hu4]; exact ScSlot.new w4 a4 c4 s)
        have HO5 := Lib.hid (HO4.out.below hb4)
        have HU5 := Lib.hid (HU4.out.trans (hb4.mono HU4.out.size))
        have HR5 := Lib.hid (HR4.out.below hb4)
        have HS5 := Lib.hid (HS4.out.below hb4)
        have HAT := Lib.hid (show (∀ j, At a4 j → w3.heap.size ≤ j ∧ j < w4.heap.size) ∧ w.heap.size + 1 < w3.heap.size ∧ w3.heap.size ≤ u4.heap.size ∧ u.heap.size ≤ w3.heap.size from ⟨fun j hj => HO4.out.at_ge hj, HR3.out.lt, Nat.le_of_lt (Nat.lt_of_le_of_lt HSZ.out HD5.out.lt), HU3.out.size⟩)
        rw [← hu4]
        clear hu4 hb4 HO4 HU4 HR4 HS4 b0 b1 b2 z0 z1 z2 y0 y1 y2
        obtain ⟨x0, x1, x2⟩ := HS5.out.at
        obtain ⟨b0, b1, b2⟩ := HD5.out.at
        obtain ⟨y0, y1, y2⟩ := HD5.out.froz
        have hlc : s.cs.length ≤ 4398046511103 := by have := H12.out; omega
        go_upto_region 13 with (at_builtin; refine wp_co HO5.out HAT.out.2.2.1 hlc rfl _ _ rfl ⟨s.next, nm, k⟩ rfl rfl ?_; intro a' c' w6 hx hf hnew; have HO6 := Lib.hid hx; have HF6 := Lib.hid hf; have hd6 := HD5.out.frm hf (fun hk => by have := (HAT.out.1 _ hk).2; omega); have hr6 := HR5.out.frm hf (fun hk => by have := (HAT.out.1 _ hk).1; have := HAT.out.2.1; omega); clear b0 b1 b2 y0 y1 y2; obtain ⟨b0, b1, b2⟩ := hd6.at; obtain ⟨y0, y1, y2⟩ := hd6.froz; have HD6 := Lib.hid hd6; have HR6 := Lib.hid hr6; clear hx hf hnew hd6 hr6)
        have hlc2 : (s.cs ++ [(⟨s.next, nm, k⟩ : Co)]).length = s.cs.length + 1 := by simp
        obtain ⟨w7, hw7⟩ : ∃ w7, w7 = w6.setCell ⟨w4.heap.size, 1, none⟩ (.slice a' (s.cs ++ [(⟨s.next, nm, k⟩ : Co)]).length c') := ⟨_, rfl⟩
        have HD7 := Lib.hid (show ScSlot w7 w4.heap.size a' c' ⟨s.id, s.next, s.cs ++ [⟨s.next, nm, k⟩]⟩ by rw [hw7]; exact HD6.out.setC a' c' _)
        have hf7 : Frm (fun j => j = w4.heap.size) w6 w7 := by rw [hw7]; exact (Frm.refl (fun j => j = w4.heap.size) w6).setCell (p := ⟨w4.heap.size, 1, none⟩) rfl _
        have HF7 := Lib.hid hf7
        rw [hlc2] at hw7
        change Code.wp _ _ _ _ (w6.setCell ⟨w4.heap.size, 1, none⟩ (.slice a' (s.cs.length + 1 : Nat) c'))
        rw [← hw7]
        clear hw7 hf7 hlc2 b0 b1 b2 y0 y1 y2 x0 x1 x2
        have hwi : IntKind.i64.wrap (s.id + 1) = s.id + 1 := by rw [IntKind.wrap_i64]; have := HBD.out; omega
        have hwi2 : wrap64 (s.id + 1) = s.id + 1 := by unfold wrap64; have := HBD.out; omega
        have hnx : 1 ≤ s.next := by have := HNX.out; omega
        have hwn : IntKind.i64.wrap (s.next + 1) = s.next + 1 := by rw [IntKind.wrap_i64]; have := HBD.out; omega
        have hwn2 : wrap64 (s.next + 1) = s.next + 1 := by unfold wrap64; have := HBD.out; omega
        clear hnx
        generalize hcs : (s.cs ++ [(⟨s.next, nm, k⟩ : Co)]) = cs at *
        have HCS := Lib.hid hcs
        clear hcs
        obtain ⟨b0, b1, b2⟩ := HD7.out.at
        obtain ⟨y0, y1, y2⟩ := HD7.out.froz
        simp only at b0 b1 b2
        go_upto_region 14 with fail
        obtain ⟨w8, hw8⟩ : ∃ w8, w8 = w7.setCell ⟨w4.heap.size, 0, none⟩ (.int .i64 (s.id + 1)) := ⟨_, rfl⟩
        have HD8 := Lib.hid (show ScSlot w8 w4.heap.size a' c' ⟨s.id + 1, s.next, cs⟩ by rw [hw8]; exact HD7.out.setI _)
        have HF8 := Lib.hid (show Frm (fun j => j = w4.heap.size) w6 w8 by rw [hw8]; exact HF7.out.setCell (p := ⟨w4.heap.size, 0, none⟩) rfl _)
        change Code.wp _ _ _ _ (w7.setCell ⟨w4.heap.size, 0, none⟩ (.int .i64 (s.id + 1)))
        rw [← hw8]
        clear hw8 b0 b1 b2 y0 y1 y2 HD7 HF7 hwi hwi2
        obtain ⟨b0, b1, b2⟩ := HD8.out.at
        obtain ⟨y0, y1, y2⟩ := HD8.out.froz
        simp only at b0 b1 b2
        go_upto_region 15 with fail
        obtain ⟨w9, hw9⟩ : ∃ w9, w9 = w8.setCell ⟨w4.heap.size, 2, none⟩ (.int .i64 (s.next + 1)) := ⟨_, rfl⟩
        have HD9 := Lib.hid (show ScSlot w9 w4.heap.size a' c' ⟨s.id + 1, s.next + 1, cs⟩ by rw [hw9]; exact HD8.out.setN _)
        have HF9 := Lib.hid (show Frm (fun j => j = w4.heap.size) w6 w9 by rw [hw9]; exact HF8.out.setCell (p := ⟨w4.heap.size, 2, none⟩) rfl _)
        change Code.wp _ _ _ _ (w8.setCell ⟨w4.heap.size, 2, none⟩ (.int .i64 (s.next + 1)))
        rw [← hw9]
        clear hw9 b0 b1 b2 y0 y1 y2 HD8 HF8 hwn hwn2
        have HR9 := Lib.hid (HR6.out.frm HF9.out (by have h1 := HAT.out.2.1; have h2 := HSZ.out; omega))
        have HO9 := Lib.hid (own_off HO6.out HD6.out HF9.out)
        obtain ⟨b0, b1, b2⟩ := HD9.out.at
        obtain ⟨z0, z1, z2⟩ := HR9.out.at
        obtain ⟨y0, y1, y2⟩ := HR9.out.froz
        simp only at b0 b1 b2
        simp only [zeroSc] at z0 z1 z2
        go_wp2
        change bodyPost _ _ _ _ _ (putSc w9 (w.heap.size + 1) a' c' ⟨s.id + 1, s.next + 1, cs⟩)
        have hp := HR9.out.put a' c' ⟨s.id + 1, s.next + 1, cs⟩
        have hpf := putSc_frm (g := w.heap.size + 1) (F := fun j => j = w.heap.size + 1) rfl w9 a' c' ⟨s.id + 1, s.next + 1, cs⟩
        generalize putSc w9 (w.heap.size + 1) a' c' ⟨s.id + 1, s.next + 1, cs⟩ = w99 at *
        clear z0 z1 z2 y0 y1 y2 b0 b1 b2
        obtain ⟨b0, b1, b2⟩ := hp.at
        simp only at b0 b1 b2
        have hrr := HRR.out
        subst hrr
        refine bodyPost_ret (v := .tuple #[.agg #[.int .i64 (s.id + 1), .slice a' cs.length c', .int .i64 (s.next + 1)], .int .i64 0]) (by simp [results, Try.results13, go_sem, b0, b1, b2]) rfl ?_
        have hB9 : Below w.heap.size w w9 := Frm.to_below (Frm.to_below (HB.out.trans (HU5.out.mono HB.out.size)) HF6.out (fun j hj => by have h1 := (HAT.out.1 j hj).1; have h2 := HAT.out.2.1; omega) (Nat.le_refl _)) HF9.out (fun j e => by have h1 := HSZ.out; have h2 := HAT.out.2.1; omega) (Nat.le_refl _)
        exact ⟨a', c', rfl, (own_off HO9.out HR9.out hpf).lower (by have h1 := HAT.out.2.1; omega), Frm.to_below hB9 hpf (fun k e => by omega) (Nat.le_refl _)⟩
end Go.Proofs.Ythfakpekdjmpjaa
