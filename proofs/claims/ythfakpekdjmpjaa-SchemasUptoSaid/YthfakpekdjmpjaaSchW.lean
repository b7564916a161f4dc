/- The document's schemas: Drop. -/
import Derived.Test.YthfakpekdjmpjaaSchV
namespace Go.Proofs.Ythfakpekdjmpjaa
open Go.Conc Go.RowKit
set_option linter.unusedVariables false
set_option linter.unusedSimpArgs false

/-- A list of columns is put behind one of one's own. -/
theorem wp_joinC {base : Nat} {w : World} {ad0 : Option Addr} {cap : Nat} {xs : List Co} (h : OwnCo base w ad0 cap xs) (hb : base ≤ w.heap.size) (ad : Addr) (m c2 : Nat) (ys : List Co) (hm : ys.length = m) (hc : ∀ j u, (rowCo ys)[j]? = some u → w.cell? (ad.add j) = some u) (hx : (xs.length + m) * 32 ≤ 140737488355328) {ops : Array Oper} {rest : List Oper} {op : Oper} {A : Act} {Q : Exit → Act → World → Prop} (hgd : op.guard = none) (sl x : Operand)
    (ho : op.op = .call { callee := .builtin .append, args := #[sl, x], argTypes := #[22, 22] }) (hs : A.eval sl = .slice ad0 xs.length cap) (hxx : A.eval x = .slice (some ad) m c2)
    (hK : ∀ ad' cap' w', OwnCo base w' ad' cap' (xs ++ ys) → Frm (At ad0) w w' → wpList Try.prog ops Q rest (A.put op.dst (.slice ad' (xs ++ ys).length cap')) w') : wpList Try.prog ops Q (op :: rest) A w := by
  obtain ⟨i0, hi0, hz0, hz1, hz2⟩ := info_parts infoCo
  refine wpList_append_own _ hgd sl x 22 ho base 49 i0 zCoVal 3 32 Try.underlying22 hi0 hz0 hz1 hz2 rfl (by decide) (.slice ad0 xs.length cap) xs.length (rowCo xs) hs h ad m c2 (rowCo ys) hxx (by rw [rowCo_length, hm]) hc (rowCo_cells ys) (by simp only [maxLen]; omega) hx hb ?_
  intro v1 w1 h1 g1 n1
  obtain ⟨ad', cap', rfl⟩ := own_form h1
  have hlen : (xs ++ ys).length = xs.length + m := by rw [List.length_append, hm]
  have ho' : OwnCo base w1 ad' cap' (xs ++ ys) := by
    unfold OwnCo
    rw [hlen, rowCo_append]
    exact h1
  have := hK ad' cap' w1 ho' ((Frm.refl (At ad0) w).grown g1 (fun k hk => by
    rcases own_head h with rfl | ⟨g, rfl⟩
    · simp [Value.ownBlock] at hk
    · simp [Value.ownBlock] at hk; simp [At, hk]))
  rwa [hlen] at this

set_option maxRecDepth 100000 in
set_option maxHeartbeats 4000000 in
theorem refschdrop_any (w : World) (a : Option Addr) (c : Nat) (s : Sc) (nm : ByteArray) (ha : IsCo w a s.cs) (hn : a = none → s.cs.length = 0 ∧ c = 0) (hl : s.cs.length ≤ maxLen) (hcap : s.cs.length ≤ c) :
    Calls Try.prog 15 #[.agg #[.int .i64 s.id, .slice a s.cs.length c, .int .i64 s.next], .string nm] w (ScPost w (dropA s nm)) := by
  obtain ⟨R, hR⟩ : ∃ R, R = dropA s nm := ⟨_, rfl⟩
  rw [← hR]
  obtain ⟨u, hu⟩ : ∃ u, u = (w.alloc (.cells #[.int .i64 s.id, .slice a s.cs.length c, .int .i64 s.next] 24)).alloc (.cells #[.int .i64 0, .slice none 0 0, .int .i64 0] 24) := ⟨_, rfl⟩
  have hsz : (w.alloc (.cells #[.int .i64 s.id, .slice a s.cs.length c, .int .i64 s.next] 24)).heap.size = w.heap.size + 1 := by simp
  have hbu : Below w.heap.size w u := by rw [hu]; exact ((Below.refl _ _).alloc (Nat.le_refl _) _).alloc (by simp) _
  have HS1 := Lib.hid (show ScSlot u w.heap.size a c s by rw [hu]; exact (ScSlot.new w a c s).same (Below.heap_alloc _ _ _ (by simp)))
  have HR1 := Lib.hid (show ScSlot u (w.heap.size + 1) none 0 zeroSc by rw [hu, ← hsz]; exact ScSlot.new _ none 0 zeroSc)
  have HU1 : Hid (Below u.heap.size u u) := Below.refl _ _
  have HB := Lib.hid hbu
  have HA := Lib.hid (ha.below hbu)
  have HNN := Lib.hid hn
  have HML := Lib.hid (fun (h : maySc s = true) => ((may_iff s).1 h).1)
  have TM := Lib.hid (fun (v : World) (hv : Below u.heap.size u v) => refschmay_any v a c s (HA.out.below hv) hl)
  have TC := Lib.hid (fun (v : World) (hv : Below u.heap.size u v) (h : maySc s = true) => refschcopy_any v a c s (HA.out.below hv) HNN.out (by have := HML.out h; omega) (by have := HML.out h; omega))
  clear hsz hbu ha hn
  unfold dropA at hR
  have TF := Lib.hid (fun (v : World) (hv : Below u.heap.size u v) => refschfind_any v a c s nm (HA.out.below hv) hl)
  have hpos := fun hh => findA_pos (cs := s.cs) (nm := nm) hh
  clear hl HNN TC
  generalize findA s.cs nm = F at *
  generalize maySc s = M at *
  cases M with
  | false =>
    clear hpos hcap
    obtain rfl : R = (zeroSc, 1200) := by rw [hR, if_pos rfl]
    clear hR
    go_enter Try.func15, Try.ntmps15
    go_upto_region 1 with fail
    rw [← hu]
    clear hu
    obtain ⟨b0, b1, b2⟩ := HS1.out.at
    go_wp2_with (first
      | (go_at_call 21; refine (TM.out _ HU1.out).mono ?_; rintro e w2 ⟨rfl, hb⟩; have HU2 := Lib.hid (HU1.out.trans (hb.mono HU1.out.size)); have HR2 := Lib.hid (HR1.out.below hb); have HS2 := Lib.hid (HS1.out.below hb); clear hb; obtain ⟨z0, z1, z2⟩ := HR2.out.at; obtain ⟨y0, y1, y2⟩ := HR2.out.froz; simp only [zeroSc] at z0 z1 z2; obtain ⟨b0, b1, b2⟩ := HS2.out.at))
    change bodyPost _ _ _ _ _ (putSc w2 (w.heap.size + 1) none 0 zeroSc)
    have hp := HR2.out.put none 0 zeroSc
    have hpf := putSc_frm (g := w.heap.size + 1) (F := fun j => j = w.heap.size + 1) rfl w2 none 0 zeroSc
    generalize putSc w2 (w.heap.size + 1) none 0 zeroSc = w99 at *
    obtain ⟨b0, b1, b2⟩ := hp.at
    simp only [zeroSc] at b0 b1 b2
    clear z0 z1 z2 y0 y1 y2
    refine bodyPost_ret (v := .tuple #[.agg #[.int .i64 0, .slice none 0 0, .int .i64 0], .int .i64 1200]) (by simp [results, Try.results15, go_sem, b0, b1, b2]) rfl ?_
    exact ⟨none, 0, rfl, OwnCo.nil _ _, Frm.to_below (HB.out.trans (HU2.out.mono HB.out.size)) hpf (fun k e => by omega) (Nat.le_refl _)⟩
  | true =>
    rw [if_neg (by simp)] at hR
    by_cases h1 : F < 0
    · have d1 : decide (F < 0) = true := decide_eq_true h1
      clear hpos hcap
      obtain rfl : R = (zeroSc, 1202) := by rw [hR, if_pos h1]
      clear hR h1
      go_enter Try.func15, Try.ntmps15
      go_upto_region 1 with fail
      rw [← hu]
      clear hu
      obtain ⟨b0, b1, b2⟩ := HS1.out.at
      go_wp2_with (first
        | (go_at_call 21; refine (TM.out _ HU1.out).mono ?_; rintro e w2 ⟨rfl, hb⟩; have HU2 := Lib.hid (HU1.out.trans (hb.mono HU1.out.size)); have HR2 := Lib.hid (HR1.out.below hb); have HS2 := Lib.hid (HS1.out.below hb); clear hb; obtain ⟨z0, z1, z2⟩ := HR2.out.at; obtain ⟨y0, y1, y2⟩ := HR2.out.froz; simp only [zeroSc] at z0 z1 z2; obtain ⟨b0, b1, b2⟩ := HS2.out.at)
        | (go_at_call 27; refine (TF.out _ HU2.out).mono ?_; rintro e w3 ⟨rfl, hb⟩; have HU3 := Lib.hid (HU2.out.trans (hb.mono HU2.out.size)); have HR3 := Lib.hid (HR2.out.below hb); have HS3 := Lib.hid (HS2.out.below hb); clear hb; obtain ⟨z0, z1, z2⟩ := HR3.out.at; obtain ⟨y0, y1, y2⟩ := HR3.out.froz; simp only [zeroSc] at z0 z1 z2; obtain ⟨b0, b1, b2⟩ := HS3.out.at))
      change bodyPost _ _ _ _ _ (putSc w3 (w.heap.size + 1) none 0 zeroSc)
      have hp := HR3.out.put none 0 zeroSc
      have hpf := putSc_frm (g := w.heap.size + 1) (F := fun j => j = w.heap.size + 1) rfl w3 none 0 zeroSc
      generalize putSc w3 (w.heap.size + 1) none 0 zeroSc = w99 at *
      obtain ⟨b0, b1, b2⟩ := hp.at
      simp only [zeroSc] at b0 b1 b2
      clear z0 z1 z2 y0 y1 y2
      refine bodyPost_ret (v := .tuple #[.agg #[.int .i64 0, .slice none 0 0, .int .i64 0], .int .i64 1202]) (by simp [results, Try.results15, go_sem, b0, b1, b2]) rfl ?_
      exact ⟨none, 0, rfl, OwnCo.nil _ _, Frm.to_below (HB.out.trans (HU3.out.mono HB.out.size)) hpf (fun k e => by omega) (Nat.le_refl _)⟩
    rw [if_neg h1] at hR
    have d1 : decide (F < 0) = false := decide_eq_false h1
    obtain ⟨hlt, hFi, hr9⟩ := hpos (Int.not_lt.1 h1)
    have HFI := Lib.hid hFi
    have HLT := Lib.hid hlt
    have HCAP := Lib.hid hcap
    clear h1 hpos hFi hr9 hcap
    by_cases h2 : s.cs.length = 1
    · have d2 : ((s.cs.length : Int) == 1) = true := by rw [h2]; rfl
      clear hlt
      obtain rfl : R = (zeroSc, 1203) := by rw [hR, if_pos h2]
      clear hR h2
      go_enter Try.func15, Try.ntmps15
      go_upto_region 1 with fail
      rw [← hu]
      clear hu
      obtain ⟨b0, b1, b2⟩ := HS1.out.at
      go_wp2_with (first
        | (go_at_call 21; refine (TM.out _ HU1.out).mono ?_; rintro e w2 ⟨rfl, hb⟩; have HU2 := Lib.hid (HU1.out.trans (hb.mono HU1.out.size)); have HR2 := Lib.hid (HR1.out.below hb); have HS2 := Lib.hid (HS1.out.below hb); clear hb; obtain ⟨z0, z1, z2⟩ := HR2.out.at; obtain ⟨y0, y1, y2⟩ := HR2.out.froz; simp only [zeroSc] at z0 z1 z2; obtain ⟨b0, b1, b2⟩ := HS2.out.at)
        | (go_at_call 27; refine (TF.out _ HU2.out).mono ?_; rintro e w3 ⟨rfl, hb⟩; have HU3 := Lib.hid (HU2.out.trans (hb.mono HU2.out.size)); have HR3 := Lib.hid (HR2.out.below hb); have HS3 := Lib.hid (HS2.out.below hb); clear hb; obtain ⟨z0, z1, z2⟩ := HR3.out.at; obtain ⟨y0, y1, y2⟩ := HR3.out.froz; simp only [zeroSc] at z0 z1 z2; obtain ⟨b0, b1, b2⟩ := HS3.out.at))
      change bodyPost _ _ _ _ _ (putSc w3 (w.heap.size + 1) none 0 zeroSc)
      have hp := HR3.out.put none 0 zeroSc
      have hpf := putSc_frm (g := w.heap.size + 1) (F := fun j => j = w.heap.size + 1) rfl w3 none 0 zeroSc
      generalize putSc w3 (w.heap.size + 1) none 0 zeroSc = w99 at *
      obtain ⟨b0, b1, b2⟩ := hp.at
      simp only [zeroSc] at b0 b1 b2
      clear z0 z1 z2 y0 y1 y2
      refine bodyPost_ret (v := .tuple #[.agg #[.int .i64 0, .slice none 0 0, .int .i64 0], .int .i64 1203]) (by simp [results, Try.results15, go_sem, b0, b1, b2]) rfl ?_
      exact ⟨none, 0, rfl, OwnCo.nil _ _, Frm.to_below (HB.out.trans (HU3.out.mono HB.out.size)) hpf (fun k e => by omega) (Nat.le_refl _)⟩
    rw [if_neg h2] at hR
    have d2 : ((s.cs.length : Int) == 1) = false := by rw [beq_eq_false_iff_ne]; omega
    clear h2
    by_cases hi : 2147483647 ≤ s.id
    · have d3 : decide ((2147483647 : Int) ≤ s.id) = true := decide_eq_true hi
      clear hlt
      obtain rfl : R = (zeroSc, 1200) := by rw [hR, if_pos hi]
      clear hR hi
      go_enter Try.func15, Try.ntmps15
      go_upto_region 1 with fail
      rw [← hu]
      clear hu
      obtain ⟨b0, b1, b2⟩ := HS1.out.at
      go_wp2_with (first
        | (go_at_call 21; refine (TM.out _ HU1.out).mono ?_; rintro e w2 ⟨rfl, hb⟩; have HU2 := Lib.hid (HU1.out.trans (hb.mono HU1.out.size)); have HR2 := Lib.hid (HR1.out.below hb); have HS2 := Lib.hid (HS1.out.below hb); clear hb; obtain ⟨z0, z1, z2⟩ := HR2.out.at; obtain ⟨y0, y1, y2⟩ := HR2.out.froz; simp only [zeroSc] at z0 z1 z2; obtain ⟨b0, b1, b2⟩ := HS2.out.at)
        | (go_at_call 27; refine (TF.out _ HU2.out).mono ?_; rintro e w3 ⟨rfl, hb⟩; have HU3 := Lib.hid (HU2.out.trans (hb.mono HU2.out.size)); have HR3 := Lib.hid (HR2.out.below hb); have HS3 := Lib.hid (HS2.out.below hb); clear hb; obtain ⟨z0, z1, z2⟩ := HR3.out.at; obtain ⟨y0, y1, y2⟩ := HR3.out.froz; simp only [zeroSc] at z0 z1 z2; obtain ⟨b0, b1, b2⟩ := HS3.out.at))
      change bodyPost _ _ _ _ _ (putSc w3 (w.heap.size + 1) none 0 zeroSc)
      have hp := HR3.out.put none 0 zeroSc
      have hpf := putSc_frm (g := w.heap.size + 1) (F := fun j => j = w.heap.size + 1) rfl w3 none 0 zeroSc
      generalize putSc w3 (w.heap.size + 1) none 0 zeroSc = w99 at *
      obtain ⟨b0, b1, b2⟩ := hp.at
      simp only [zeroSc] at b0 b1 b2
      clear z0 z1 z2 y0 y1 y2
      refine bodyPost_ret (v := .tuple #[.agg #[.int .i64 0, .slice none 0 0, .int .i64 0], .int .i64 1200]) (by simp [results, Try.results15, go_sem, b0, b1, b2]) rfl ?_
      exact ⟨none, 0, rfl, OwnCo.nil _ _, Frm.to_below (HB.out.trans (HU3.out.mono HB.out.size)) hpf (fun k e => by omega) (Nat.le_refl _)⟩
    have d3 : decide ((2147483647 : Int) ≤ s.id) = false := decide_eq_false hi
    rw [if_neg hi] at hR
    have HBD := Lib.hid (show 0 ≤ s.id ∧ s.id < 2147483647 by have := HML.out (by simp); omega)
    have H12 := Lib.hid (show s.cs.length ≤ 12 by have := HML.out (by simp); omega)
    rw [← delCo_erase] at hR
    unfold delCo at hR
    have HRR := Lib.hid hR
    clear hR hi
    generalize findN s.cs nm = i at *
    have hii : (i : Int) < (s.cs.length : Int) := by omega
    have hi0 : (0 : Int) ≤ (i : Int) := by omega
    rcases HA.out with e | ⟨b, off, rfl, hcc⟩
    · rw [e] at hlt; simp at hlt
    have hcells := IsCo.cells hcc
    have HCE := Lib.hid hcells
    clear hcells hcc
    go_enter Try.func15, Try.ntmps15
    go_upto_region 1 with fail
    rw [← hu]
    clear hu
    obtain ⟨b0, b1, b2⟩ := HS1.out.at
    go_upto_region 10 with (first
      | (go_at_call 21; refine (TM.out _ HU1.out).mono ?_; rintro e w2 ⟨rfl, hb⟩; have HU2 := Lib.hid (HU1.out.trans (hb.mono HU1.out.size)); have HR2 := Lib.hid (HR1.out.below hb); have HS2 := Lib.hid (HS1.out.below hb); clear hb; obtain ⟨z0, z1, z2⟩ := HR2.out.at; obtain ⟨y0, y1, y2⟩ := HR2.out.froz; simp only [zeroSc] at z0 z1 z2; obtain ⟨b0, b1, b2⟩ := HS2.out.at)
      | (go_at_call 27; refine (TF.out _ HU2.out).mono ?_; rintro e w3 ⟨rfl, hb⟩; have HU3 := Lib.hid (HU2.out.trans (hb.mono HU2.out.size)); have HR3 := Lib.hid (HR2.out.below hb); have HS3 := Lib.hid (HS2.out.below hb); clear hb; obtain ⟨z0, z1, z2⟩ := HR3.out.at; obtain ⟨y0, y1, y2⟩ := HR3.out.froz; simp only [zeroSc] at z0 z1 z2; obtain ⟨b0, b1, b2⟩ := HS3.out.at))
    rw [HFI.out]
    have hwi : IntKind.i64.wrap (s.id + 1) = s.id + 1 := by rw [IntKind.wrap_i64]; have := HBD.out; omega
    have hwi2 : wrap64 (s.id + 1) = s.id + 1 := by unfold wrap64; have := HBD.out; omega
    go_upto_region 11 with fail
    change Code.wp _ _ _ _ (w3.alloc (.cells #[.int .i64 (s.id + 1), .slice none 0 0, .int .i64 s.next] 24))
    obtain ⟨u5, hu5⟩ : ∃ u5, u5 = w3.alloc (.cells #[.int .i64 (s.id + 1), .slice none 0 0, .int .i64 s.next] 24) := ⟨_, rfl⟩
    have hb5 : Below w3.heap.size w3 u5 := by rw [hu5]; exact (Below.refl _ _).alloc (Nat.le_refl _) _
    have HD5 := Lib.hid (show ScSlot u5 w3.heap.size none 0 ⟨s.id + 1, s.next, []⟩ by rw [hu5]; exact ScSlot.new w3 none 0 ⟨s.id + 1, s.next, []⟩)
    have HU5 := Lib.hid (HU3.out.trans (hb5.mono HU3.out.size))
    have HR5 := Lib.hid (HR3.out.below hb5)
    have HS5 := Lib.hid (HS3.out.below hb5)
    have HAT := Lib.hid (show w.heap.size + 1 < w3.heap.size ∧ u.heap.size ≤ w3.heap.size ∧ w3.heap.size < u5.heap.size from ⟨HR3.out.lt, HU3.out.size, HD5.out.lt⟩)
    rw [← hu5]
    clear hu5 hb5 HU3 HR3 HS3 HU2 HR2 HS2 b0 b1 b2 z0 z1 z2 y0 y1 y2 hwi hwi2 d1 d2 d3
    have hw1 : (i : Int) ≤ (s.cs.length : Int) := by omega
    have hb2 : ¬ (c = i) := by have := HCAP.out; omega
    have hb3 : (i : Int) + 1 ≤ (s.cs.length : Int) := by omega
    have hb7 : ((i : Int) == (i : Int) + 1) = false := by simp; omega
    have hb8 : ((i : Int) + 1).toNat = i + 1 := by omega
    have hb9 : i ≤ c := by have := HCAP.out; omega
    have hb10 : (0 : Int) ≤ (i : Int) + 1 := by omega
    have hb12 : IntKind.i64.wrap ((i : Int) + 1) = (i : Int) + 1 := by rw [IntKind.wrap_i64]; have := H12.out; omega
    refine region_class_tail (fun w' => Below u5.heap.size u5 w') 6 (by kernel_rfl) (by kernel_rfl) (Below.refl _ _).drew ?_
    simp only [List.take_succ_cons, List.take_zero, List.drop_succ_cons, List.drop_zero]
    repeat (
      refine wpQuiet_step (fun K9 hK => ?_)
      go_simp
      first
      | (refine hK _ ?_; clear hK K9)
      | (apply Exists.intro
         refine ⟨fun v1 hv1 => ?_, hK _ ?_⟩
         (first
           | (exact rfl)
           | (obtain ⟨b0, b1, b2⟩ := (HD5.out.below hv1).at; simp only at b0 b1 b2; simp only [b0, b1, b2, Result.andThen]; exact ⟨trivial, rfl⟩)
           | (obtain ⟨x0, x1, x2⟩ := (HS5.out.below hv1).at; simp only [x0, x1, x2, Result.andThen]; exact ⟨trivial, rfl⟩)
           | (exact ⟨trivial, rfl⟩))
         clear hK K9))
    refine wpQuiet_nil ?_
    intro w7 hw7
    have HS7 := Lib.hid (HS5.out.below hw7)
    have HR7 := Lib.hid (HR5.out.below hw7)
    have HD7 := Lib.hid (HD5.out.below hw7)
    have HU7 := Lib.hid (HU5.out.trans (hw7.mono HU5.out.size))
    have hz7 : w3.heap.size ≤ w7.heap.size := by have := hw7.size; have := HAT.out; omega
    clear hw7
    obtain ⟨L1, hL1⟩ : ∃ L1, L1 = s.cs.take i := ⟨_, rfl⟩
    have hl1 : L1.length = i := by rw [hL1, List.length_take]; omega
    have hc1 : ∀ (v : World), Below u.heap.size u v → ∀ j x, (rowCo L1)[j]? = some x → v.cell? ((⟨b, off, none⟩ : Addr).add j) = some x := fun v hv j x hj => by
      rw [hL1, rowCo_take, List.getElem?_take] at hj
      split at hj
      · have h1 := HCE.out j x hj
        rw [addr_off] at h1 ⊢
        exact (World.cell?_of_block (hv.block b (World.block_lt_of_cell? u ⟨b, off + j, none⟩ h1))).trans h1
      · cases hj
    obtain ⟨L2, hL2⟩ : ∃ L2, L2 = s.cs.drop (i + 1) := ⟨_, rfl⟩
    have hl2 : L2.length = s.cs.length - (i + 1) := by rw [hL2, List.length_drop]
    have hc2 : ∀ (v : World), Below u.heap.size u v → ∀ j x, (rowCo L2)[j]? = some x → v.cell? ((⟨b, off + (i + 1) * 3, none⟩ : Addr).add j) = some x := fun v hv j x hj => by
      rw [hL2, rowCo_drop, List.getElem?_drop] at hj
      have h1 := HCE.out _ x hj
      rw [addr_off] at h1 ⊢
      rw [← Nat.add_assoc] at h1
      exact (World.cell?_of_block (hv.block b (World.block_lt_of_cell? u ⟨b, off + (i + 1) * 3 + j, none⟩ h1))).trans h1
    have HC1 := Lib.hid hc1
    have HC2 := Lib.hid hc2
    have HL1 := Lib.hid hL1
    have HL2 := Lib.hid hL2
    have hx1 : (([] : List Co).length + i) * 32 ≤ 140737488355328 := by have := H12.out; simp; omega
    have HLL1 := Lib.hid hl1
    have HLL2 := Lib.hid hl2
    clear hc1 hc2 hL1 hL2 hl1 hl2
    go_upto_region 12 with (at_builtin; refine wp_joinC (OwnCo.nil w3.heap.size w7) hz7 ⟨b, off, none⟩ i c L1 HLL1.out (HC1.out _ HU7.out) hx1 rfl _ _ rfl rfl rfl ?_; intro a8 c8 w8 ho hf; rw [List.nil_append] at ho ⊢; have HO8 := Lib.hid ho; have HF8 := Lib.hid hf; have hd8 := HD7.out.frm hf (fun hk => by simp [At] at hk); obtain ⟨b0, b1, b2⟩ := hd8.at; obtain ⟨y0, y1, y2⟩ := hd8.froz; simp only at b0 b1 b2; have HD8 := Lib.hid hd8; have HR8 := Lib.hid (HR7.out.frm hf (fun hk => by simp [At] at hk)); have HS8 := Lib.hid (HS7.out.frm hf (fun hk => by simp [At] at hk)); have HU8 := Lib.hid (Frm.to_below HU7.out hf (fun k hk => by simp [At] at hk) (Nat.le_refl _)); clear ho hf hd8)
    have hng : ∀ j, At a8 j → j ≠ w3.heap.size := fun j hj e => by
      obtain ⟨cu, hcu⟩ := own_tyS HO8.out hj
      have hb9 := HD8.out.b
      rw [e] at hcu
      rw [hcu] at hb9
      simp at hb9
    have HNG := Lib.hid hng
    obtain ⟨w9, hw9⟩ : ∃ w9, w9 = w8.setCell ⟨w3.heap.size, 1, none⟩ (.slice a8 L1.length c8) := ⟨_, rfl⟩
    have HD9 := Lib.hid (show ScSlot w9 w3.heap.size a8 c8 ⟨s.id + 1, s.next, L1⟩ by rw [hw9]; exact HD8.out.setC a8 c8 _)
    have HF9 := Lib.hid (show Frm (fun j => j = w3.heap.size) w8 w9 by rw [hw9]; exact (Frm.refl (fun j => j = w3.heap.size) w8).setCell (p := ⟨w3.heap.size, 1, none⟩) rfl _)
    change Code.wp _ _ _ _ (w8.setCell ⟨w3.heap.size, 1, none⟩ (.slice a8 L1.length c8))
    rw [← hw9]
    clear hw9 hng b0 b1 b2 y0 y1 y2 hz7 hx1
    have HO9 := Lib.hid (own_off HO8.out HD8.out HF9.out)
    have HR9 := Lib.hid (HR8.out.frm HF9.out (by have h1 := HAT.out; omega))
    have HS9 := Lib.hid (HS8.out.frm HF9.out (by have h1 := HAT.out; omega))
    have HU9 := Lib.hid (Frm.to_below HU8.out HF9.out (fun k e => by have h1 := HAT.out; omega) (Nat.le_refl _))
    have hx2 : (L1.length + (s.cs.length - (i + 1))) * 32 ≤ 140737488355328 := by have := H12.out; have := HLL1.out; omega
    by_cases hc9 : c = i + 1
    · have HX0 : Hid (L2.length = 0 ∧ (L1.length + 0) * 32 ≤ 140737488355328) := ⟨by rw [HLL2.out]; have := HCAP.out; omega, by have := H12.out; have := HLL1.out; omega⟩
      have HCN : Hid (∀ v : World, ∀ j x, (rowCo L2)[j]? = some x → v.cell? ((⟨b, off, none⟩ : Addr).add j) = some x) := fun v j x hj => by
        rw [List.eq_nil_of_length_eq_zero HX0.out.1] at hj; simp [rowCo] at hj
      subst hc9
      refine region_class_tail (fun w' => Below w9.heap.size w9 w') 7 (by kernel_rfl) (by kernel_rfl) (Below.refl _ _).drew ?_
      simp only [List.take_succ_cons, List.take_zero, List.drop_succ_cons, List.drop_zero]
      repeat (
        refine wpQuiet_step (fun K9 hK => ?_)
        go_simp
        first
        | (refine hK _ ?_; clear hK K9)
        | (apply Exists.intro
           refine ⟨fun v1 hv1 => ?_, hK _ ?_⟩
           (first
             | (exact rfl)
             | (obtain ⟨b0, b1, b2⟩ := (HD9.out.below hv1).at; simp only at b0 b1 b2; simp only [b0, b1, b2, Result.andThen]; exact ⟨trivial, rfl⟩)
             | (obtain ⟨x0, x1, x2⟩ := (HS9.out.below hv1).at; simp only [x0, x1, x2, Result.andThen]; exact ⟨trivial, rfl⟩)
             | (exact ⟨trivial, rfl⟩))
           clear hK K9))
      refine wpQuiet_nil ?_
      intro w10 hw10
      have HO10 := Lib.hid (HO9.out.below hw10)
      have HU10 := Lib.hid (HU9.out.trans (hw10.mono HU9.out.size))
      have HD10 := Lib.hid (HD9.out.below hw10)
      have HR10 := Lib.hid (HR9.out.below hw10)
      have hz10 : w3.heap.size ≤ w10.heap.size := by have := hw10.size; have := HD9.out.lt; omega
      clear hw10
      go_upto_region 13 with (at_builtin; refine wp_joinC HO10.out hz10 ⟨b, off, none⟩ (s.cs.length - (i + 1)) 0 L2 HLL2.out (HCN.out _) hx2 rfl _ _ rfl rfl rfl ?_; intro a11 c11 w11 ho hf; obtain ⟨L12, h12⟩ : ∃ L12, L12 = L1 ++ L2 := ⟨_, rfl⟩; rw [← h12] at ho ⊢; have HL12 := Lib.hid h12; clear h12; have HO11 := Lib.hid ho; have HF11 := Lib.hid hf; have hd11 := HD10.out.frm hf (fun hk => HNG.out _ hk rfl); have hr11 := HR10.out.frm hf (fun hk => by have h1 := (HO9.out.at_ge hk).1; have h2 := HAT.out; omega); obtain ⟨b0, b1, b2⟩ := hd11.at; obtain ⟨y0, y1, y2⟩ := hd11.froz; simp only at b0 b1 b2; have HD11 := Lib.hid hd11; have HR11 := Lib.hid hr11; clear ho hf hd11 hr11 hz10)
      have HRR2 := HRR.out
      rw [← HL1.out, ← HL2.out, ← HL12.out] at HRR2
      obtain ⟨w12, hw12⟩ : ∃ w12, w12 = w11.setCell ⟨w3.heap.size, 1, none⟩ (.slice a11 L12.length c11) := ⟨_, rfl⟩
      have HD12 := Lib.hid (show ScSlot w12 w3.heap.size a11 c11 ⟨s.id + 1, s.next, L12⟩ by rw [hw12]; exact HD11.out.setC a11 c11 _)
      have HF12 := Lib.hid (show Frm (fun j => j = w3.heap.size) w11 w12 by rw [hw12]; exact (Frm.refl (fun j => j = w3.heap.size) w11).setCell (p := ⟨w3.heap.size, 1, none⟩) rfl _)
      change Code.wp _ _ _ _ (w11.setCell ⟨w3.heap.size, 1, none⟩ (.slice a11 L12.length c11))
      rw [← hw12]
      clear hw12 b0 b1 b2 y0 y1 y2
      have HO12 := Lib.hid (own_off HO11.out HD11.out HF12.out)
      have HR12 := Lib.hid (HR11.out.frm HF12.out (by have h1 := HAT.out; omega))
      obtain ⟨b0, b1, b2⟩ := HD12.out.at
      obtain ⟨z0, z1, z2⟩ := HR12.out.at
      obtain ⟨y0, y1, y2⟩ := HR12.out.froz
      simp only at b0 b1 b2
      simp only [zeroSc] at z0 z1 z2
      go_wp2
      change bodyPost _ _ _ _ _ (putSc w12 (w.heap.size + 1) a11 c11 ⟨s.id + 1, s.next, L12⟩)
      have hp := HR12.out.put a11 c11 ⟨s.id + 1, s.next, L12⟩
      have hpf := putSc_frm (g := w.heap.size + 1) (F := fun j => j = w.heap.size + 1) rfl w12 a11 c11 ⟨s.id + 1, s.next, L12⟩
      generalize putSc w12 (w.heap.size + 1) a11 c11 ⟨s.id + 1, s.next, L12⟩ = w99 at *
      clear z0 z1 z2 y0 y1 y2 b0 b1 b2
      obtain ⟨b0, b1, b2⟩ := hp.at
      simp only at b0 b1 b2
      clear HRR
      subst HRR2
      refine bodyPost_ret (v := .tuple #[.agg #[.int .i64 (s.id + 1), .slice a11 L12.length c11, .int .i64 s.next], .int .i64 0]) (by simp [results, Try.results15, go_sem, b0, b1, b2]) rfl ?_
      have hB10 := HB.out.trans (HU10.out.mono HB.out.size)
      have hB12 : Below w.heap.size w w12 := Frm.to_below (Frm.to_below hB10 HF11.out (fun j hj => by have h1 := (HO9.out.at_ge hj).1; have h2 := HAT.out; omega) (Nat.le_refl _)) HF12.out (fun j e => by have h2 := HAT.out; omega) (Nat.le_refl _)
      exact ⟨a11, c11, rfl, (own_off HO12.out HR12.out hpf).lower (by have h1 := HAT.out; omega), Frm.to_below hB12 hpf (fun k e => by omega) (Nat.le_refl _)⟩

    refine region_class_tail (fun w' => Below w9.heap.size w9 w') 7 (by kernel_rfl) (by kernel_rfl) (Below.refl _ _).drew ?_
    simp only [List.take_succ_cons, List.take_zero, List.drop_succ_cons, List.drop_zero]
    repeat (
      refine wpQuiet_step (fun K9 hK => ?_)
      go_simp
      first
      | (refine hK _ ?_; clear hK K9)
      | (apply Exists.intro
         refine ⟨fun v1 hv1 => ?_, hK _ ?_⟩
         (first
           | (exact rfl)
           | (obtain ⟨b0, b1, b2⟩ := (HD9.out.below hv1).at; simp only at b0 b1 b2; simp only [b0, b1, b2, Result.andThen]; exact ⟨trivial, rfl⟩)
           | (obtain ⟨x0, x1, x2⟩ := (HS9.out.below hv1).at; simp only [x0, x1, x2, Result.andThen]; exact ⟨trivial, rfl⟩)
           | (exact ⟨trivial, rfl⟩))
         clear hK K9))
    refine wpQuiet_nil ?_
    intro w10 hw10
    have HO10 := Lib.hid (HO9.out.below hw10)
    have HU10 := Lib.hid (HU9.out.trans (hw10.mono HU9.out.size))
    have HD10 := Lib.hid (HD9.out.below hw10)
    have HR10 := Lib.hid (HR9.out.below hw10)
    have hz10 : w3.heap.size ≤ w10.heap.size := by have := hw10.size; have := HD9.out.lt; omega
    clear hw10
    go_upto_region 13 with (at_builtin; refine wp_joinC HO10.out hz10 ⟨b, off + (i + 1) * 3, none⟩ (s.cs.length - (i + 1)) (c - (i + 1)) L2 HLL2.out (HC2.out _ HU10.out) hx2 rfl _ _ rfl rfl rfl ?_; intro a11 c11 w11 ho hf; obtain ⟨L12, h12⟩ : ∃ L12, L12 = L1 ++ L2 := ⟨_, rfl⟩; rw [← h12] at ho ⊢; have HL12 := Lib.hid h12; clear h12; have HO11 := Lib.hid ho; have HF11 := Lib.hid hf; have hd11 := HD10.out.frm hf (fun hk => HNG.out _ hk rfl); have hr11 := HR10.out.frm hf (fun hk => by have h1 := (HO9.out.at_ge hk).1; have h2 := HAT.out; omega); obtain ⟨b0, b1, b2⟩ := hd11.at; obtain ⟨y0, y1, y2⟩ := hd11.froz; simp only at b0 b1 b2; have HD11 := Lib.hid hd11; have HR11 := Lib.hid hr11; clear ho hf hd11 hr11 hz10)
    have HRR2 := HRR.out
    rw [← HL1.out, ← HL2.out, ← HL12.out] at HRR2
    obtain ⟨w12, hw12⟩ : ∃ w12, w12 = w11.setCell ⟨w3.heap.size, 1, none⟩ (.slice a11 L12.length c11) := ⟨_, rfl⟩
    have HD12 := Lib.hid (show ScSlot w12 w3.heap.size a11 c11 ⟨s.id + 1, s.next, L12⟩ by rw [hw12]; exact HD11.out.setC a11 c11 _)
    have HF12 := Lib.hid (show Frm (fun j => j = w3.heap.size) w11 w12 by rw [hw12]; exact (Frm.refl (fun j => j = w3.heap.size) w11).setCell (p := ⟨w3.heap.size, 1, none⟩) rfl _)
    change Code.wp _ _ _ _ (w11.setCell ⟨w3.heap.size, 1, none⟩ (.slice a11 L12.length c11))
    rw [← hw12]
    clear hw12 b0 b1 b2 y0 y1 y2
    have HO12 := Lib.hid (own_off HO11.out HD11.out HF12.out)
    have HR12 := Lib.hid (HR11.out.frm HF12.out (by have h1 := HAT.out; omega))
    obtain ⟨b0, b1, b2⟩ := HD12.out.at
    obtain ⟨z0, z1, z2⟩ := HR12.out.at
    obtain ⟨y0, y1, y2⟩ := HR12.out.froz
    simp only at b0 b1 b2
    simp only [zeroSc] at z0 z1 z2
    go_wp2
    change bodyPost _ _ _ _ _ (putSc w12 (w.heap.size + 1) a11 c11 ⟨s.id + 1, s.next, L12⟩)
    have hp := HR12.out.put a11 c11 ⟨s.id + 1, s.next, L12⟩
    have hpf := putSc_frm (g := w.heap.size + 1) (F := fun j => j = w.heap.size + 1) rfl w12 a11 c11 ⟨s.id + 1, s.next, L12⟩
    generalize putSc w12 (w.heap.size + 1) a11 c11 ⟨s.id + 1, s.next, L12⟩ = w99 at *
    clear z0 z1 z2 y0 y1 y2 b0 b1 b2
    obtain ⟨b0, b1, b2⟩ := hp.at
    simp only at b0 b1 b2
    clear HRR
    subst HRR2
    refine bodyPost_ret (v := .tuple #[.agg #[.int .i64 (s.id + 1), .slice a11 L12.length c11, .int .i64 s.next], .int .i64 0]) (by simp [results, Try.results15, go_sem, b0, b1, b2]) rfl ?_
    have hB10 := HB.out.trans (HU10.out.mono HB.out.size)
    have hB12 : Below w.heap.size w w12 := Frm.to_below (Frm.to_below hB10 HF11.out (fun j hj => by have h1 := (HO9.out.at_ge hj).1; have h2 := HAT.out; omega) (Nat.le_refl _)) HF12.out (fun j e => by have h2 := HAT.out; omega) (Nat.le_refl _)
    exact ⟨a11, c11, rfl, (own_off HO12.out HR12.out hpf).lower (by have h1 := HAT.out; omega), Frm.to_below hB12 hpf (fun k e => by omega) (Nat.le_refl _)⟩
end Go.Proofs.Ythfakpekdjmpjaa
