/- The document's schemas: a copy; which schemas may be. -/
import Derived.BigQuiet
import Derived.Test.YthfakpekdjmpjaaSchR
namespace Go.Proofs.Ythfakpekdjmpjaa
open Go.Conc Go.RowKit
set_option linter.unusedVariables false
set_option linter.unusedSimpArgs false

set_option maxRecDepth 100000 in
set_option maxHeartbeats 1000000 in
theorem refschcopy_any (w : World) (a : Option Addr) (c : Nat) (s : Sc) (ha : IsCo w a s.cs) (hn : a = none → s.cs.length = 0 ∧ c = 0) (hx : s.cs.length * 32 ≤ 140737488355328) (hpos : 1 ≤ s.cs.length) :
    Calls Try.prog 57 #[.agg #[.int .i64 s.id, .slice a s.cs.length c, .int .i64 s.next]] w fun e w' => ∃ a' c', e = .returned (.agg #[.int .i64 s.id, .slice a' s.cs.length c', .int .i64 s.next]) ∧ OwnCo w.heap.size w' a' c' s.cs ∧ Below w.heap.size w w' := by
  obtain ⟨i0, hi0, hz0, hz1, hz2⟩ := info_parts infoCo
  obtain ⟨u, hu⟩ : ∃ u, u = (w.alloc (.cells #[.int .i64 s.id, .slice a s.cs.length c, .int .i64 s.next] 24)).alloc (.cells #[.int .i64 0, .slice none 0 0, .int .i64 0] 24) := ⟨_, rfl⟩
  have hsz : (w.alloc (.cells #[.int .i64 s.id, .slice a s.cs.length c, .int .i64 s.next] 24)).heap.size = w.heap.size + 1 := by simp
  have hbu : Below w.heap.size w u := by rw [hu]; exact ((Below.refl _ _).alloc (Nat.le_refl _) _).alloc (by simp) _
  have HS := Lib.hid (show ScSlot u w.heap.size a c s by rw [hu]; exact (ScSlot.new w a c s).same (Below.heap_alloc _ _ _ (by simp)))
  have HR := Lib.hid (show ScSlot u (w.heap.size + 1) none 0 zeroSc by rw [hu, ← hsz]; exact ScSlot.new _ none 0 zeroSc)
  have HB := Lib.hid hbu
  have hO : (u.alloc (.cells #[] 49)).ownsRow u.heap.size 49 3 (.slice (some ⟨u.heap.size, 0, none⟩) 0 0) 0 [] := World.ownsRow_made u #[] 0 (Nat.le_refl _) (Nat.zero_le _) rfl
  have HO := Lib.hid hO
  have HBX : Hid (Below u.heap.size u (u.alloc (.cells #[] 49))) := (Below.refl _ _).alloc (Nat.le_refl _) _
  have HZ := Lib.hid hz0
  have HA := Lib.hid (ha.below hbu)
  obtain ⟨b0, b1, b2⟩ := (HS.out.below HBX.out).at
  obtain ⟨y0, y1, y2⟩ := (HS.out.below HBX.out).froz
  clear hz0 hO hbu hsz ha
  cases a with
  | none =>
    have := (hn rfl).1
    omega
  | some ad =>
    have hc : ∀ j u9, (rowCo s.cs)[j]? = some u9 → (u.alloc (.cells #[] 49)).cell? (ad.add j) = some u9 := by
      rcases HA.out.below HBX.out with h | ⟨b, off, e, h⟩
      · intro j u9 hj; rw [h] at hj; simp [rowCo] at hj
      · injection e with e
        subst e
        exact IsCo.cells h
    have HC := Lib.hid hc
    clear hc hn
    have hl := rowCo_length s.cs
    go_enter Try.func57, Try.ntmps57
    go_upto_region 1 with fail
    change Code.wp _ _ _ _ ((w.alloc (.cells #[.int .i64 s.id, .slice (some ad) s.cs.length c, .int .i64 s.next] 24)).alloc (.cells #[.int .i64 0, .slice none 0 0, .int .i64 0] 24))
    rw [← hu]
    clear hu
    go_upto_region 2 with (at_builtin; refine wpList_append_own _ rfl _ _ 22 rfl u.heap.size 49 i0 zCoVal 3 32 Try.underlying22 hi0 HZ.out hz1 hz2 rfl (by decide) (.slice (some ⟨u.heap.size, 0, none⟩) 0 0) 0 [] rfl HO.out ad s.cs.length c (rowCo s.cs) rfl hl HC.out (rowCo_cells s.cs) (by simp only [maxLen]; omega) (by omega) (by simp) ?_; intro v1 w2 h1 g1 n1; rw [Nat.zero_add, List.nil_append] at h1; obtain ⟨ag, cp, rfl⟩ := own_form h1; have HO2 := Lib.hid (show OwnCo u.heap.size w2 ag cp s.cs from h1); have HB2 := Lib.hid (show Below u.heap.size u w2 from ⟨g1.os, g1.tape, g1.output, Nat.le_trans HBX.out.size g1.size, fun k hk => (g1.block k (Nat.lt_of_lt_of_le hk HBX.out.size) (by simp [Value.ownBlock]; omega)).trans (HBX.out.block k hk)⟩); clear h1 g1 n1 b0 b1 b2 y0 y1 y2; have hd2 := HS.out.below HB2.out; obtain ⟨b0, b1, b2⟩ := hd2.at; obtain ⟨y0, y1, y2⟩ := hd2.froz; clear hd2)
    have HD2 := Lib.hid (HS.out.below HB2.out)
    have HR2 := Lib.hid (HR.out.below HB2.out)
    obtain ⟨w3, hw3⟩ : ∃ w3, w3 = w2.setCell ⟨w.heap.size, 1, none⟩ (.slice ag s.cs.length cp) := ⟨_, rfl⟩
    have HD3 := Lib.hid (show ScSlot w3 w.heap.size ag cp s by rw [hw3]; exact HD2.out.setC ag cp s.cs)
    have hf3 : Frm (fun j => j = w.heap.size) w2 w3 := by rw [hw3]; exact (Frm.refl (fun j => j = w.heap.size) w2).setCell (p := ⟨w.heap.size, 1, none⟩) rfl _
    have HR3 := Lib.hid (HR2.out.frm hf3 (by omega))
    have HO3 := Lib.hid (own_off HO2.out HD2.out hf3)
    have HB3 := Lib.hid (Frm.to_below (HB.out.trans (HB2.out.mono HB.out.size)) hf3 (fun k e => by rw [e]; exact Nat.le_refl _) (Nat.le_refl _))
    change Code.wp _ _ _ _ (w2.setCell ⟨w.heap.size, 1, none⟩ (.slice ag s.cs.length cp))
    rw [← hw3]
    clear hw3 hf3 b0 b1 b2 y0 y1 y2 HD2 HR2
    obtain ⟨b0, b1, b2⟩ := HD3.out.at
    obtain ⟨z0, z1, z2⟩ := HR3.out.at
    obtain ⟨y0, y1, y2⟩ := HR3.out.froz
    simp only [zeroSc] at z0 z1 z2
    go_wp2
    change bodyPost _ _ _ _ _ (putSc w3 (w.heap.size + 1) ag cp s)
    have hp := HR3.out.put ag cp s
    have hpf := putSc_frm (g := w.heap.size + 1) (F := fun j => j = w.heap.size + 1) rfl w3 ag cp s
    generalize putSc w3 (w.heap.size + 1) ag cp s = w9 at *
    clear b0 b1 b2 z0 z1 z2 y0 y1 y2
    obtain ⟨b0, b1, b2⟩ := hp.at
    refine bodyPost_ret (v := .agg #[.int .i64 s.id, .slice ag s.cs.length cp, .int .i64 s.next]) (by simp [results, Try.results57, go_sem, b0, b1, b2]) rfl ?_
    exact ⟨_, cp, rfl, (own_off HO3.out HR3.out hpf).lower HB.out.size, Frm.to_below HB3.out hpf (fun k e => by omega) (Nat.le_refl _)⟩
set_option maxRecDepth 100000 in
set_option maxHeartbeats 2000000 in
theorem refschmay_any (w : World) (a : Option Addr) (cap : Nat) (s : Sc) (ha : IsCo w a s.cs) (hl : s.cs.length ≤ maxLen) :
    Calls Try.prog 21 #[.agg #[.int .i64 s.id, .slice a s.cs.length cap, .int .i64 s.next]] w fun e w' => e = .returned (.bool (maySc s)) ∧ Below w.heap.size w w' := by
  unfold maxLen at hl
  obtain ⟨u, hu⟩ : ∃ u, u = w.alloc (.cells #[.int .i64 s.id, .slice a s.cs.length cap, .int .i64 s.next] 24) := ⟨_, rfl⟩
  have HS : Hid (ScSlot u w.heap.size a cap s) := by rw [hu]; exact ScSlot.new w a cap s
  have HB : Hid (Below w.heap.size w u) := by rw [hu]; exact (Below.refl _ _).alloc (Nat.le_refl _) _
  have HA := Lib.hid (ha.below HB.out)
  clear ha
  obtain ⟨b0, b1, b2⟩ := HS.out.at
  obtain ⟨R, hR⟩ : ∃ R, R = maySc s := ⟨_, rfl⟩
  rw [← hR]
  have HR := Lib.hid hR
  clear hR
  by_cases hb : bndSc s = true
  · have hb2 := hb
    unfold bndSc at hb2
    rw [decide_eq_true_eq] at hb2
    have d1 : decide (s.id < 0) = false := decide_eq_false (by omega)
    have d2 : decide (2147483647 < s.id) = false := decide_eq_false (by omega)
    have d3 : decide (2147483647 < s.next) = false := decide_eq_false (by omega)
    have d4 : decide ((s.cs.length : Int) < 1) = false := decide_eq_false (by omega)
    have d5 : decide ((12 : Int) < (s.cs.length : Int)) = false := decide_eq_false (by omega)
    have HBN := Lib.hid hb
    have hl13 : s.cs.length < 13 := by omega
    clear hb hb2 hl
    go_enter Try.func21, Try.ntmps21
    go_upto_region 1 with fail
    rw [← hu]
    clear hu
    go_upto_region 3 with fail
    clear d1 d2 d3 d4 d5
    go_wp2
    go_loopw [3] (fun iv wr => ∃ n : Nat, n ≤ s.cs.length ∧ iv = .int .i64 n ∧ Hid (∀ k, k < n → okAtS s.next s.cs k = true) ∧ Hid (Below u.heap.size u wr)) (fun iv _ => s.cs.length - (intOf iv).toNat)
    case atStart => exact ⟨0, Nat.zero_le _, rfl, fun k hk => absurd hk (Nat.not_lt_zero k), Below.refl _ _⟩
    case round =>
      clear b0 b1 b2
      obtain ⟨n, hle, rfl, HN, HX⟩ := hrel
      obtain ⟨b0, b1, b2⟩ := (HS.out.below HX.out).at
      by_cases cn : n < s.cs.length
      · rcases HA.out with e | ⟨b, off, rfl, hcc⟩
        · rw [e] at cn; simp at cn
        have HCC := Lib.hid hcc
        have hco := (hcc n cn).below HX.out
        obtain ⟨p0, p1, p2⟩ := hco
        have hok : okAtS s.next s.cs n = (okCol s.next (s.cs[n]'cn) && (s.cs.take n).all fun o => decide (Unl o (s.cs[n]'cn))) := by
          unfold okAtS
          rw [getD_in cn]
        have HOK := Lib.hid hok
        obtain ⟨w2, hw2⟩ : ∃ w2, w2 = wr.alloc (.cells #[.int .i64 (s.cs[n]'cn).id, .string (s.cs[n]'cn).nm, .int .i64 (s.cs[n]'cn).kd] 49) := ⟨_, rfl⟩
        have hb2 : Below wr.heap.size wr w2 := by rw [hw2]; exact (Below.refl _ _).alloc (Nat.le_refl _) _
        have HCO := Lib.hid (show CoAt w2 wr.heap.size 0 (s.cs[n]'cn) by rw [hw2]; exact CoAt.new wr (s.cs[n]'cn))
        have HX2 := Lib.hid (HX.out.trans (hb2.mono HX.out.size))
        have HW2 := Lib.hid hb2
        have T1 := Lib.hid (fun v => refname_any (s.cs[n]'cn).nm v)
        have T2 := Lib.hid (fun v => refkind_any (s.cs[n]'cn).kd v)
        have hni : (n : Int) < (s.cs.length : Int) := by omega
        have HCN := Lib.hid cn
        clear hok hcc hb2
        generalize hV : (s.cs[n]'cn) = V at p0 p1 p2 T1 T2 HCO hw2
        have HV : Hid (V = s.cs[n]'cn) := hV.symm
        clear hV
        go_upto_region 7 with fail
        rw [← hw2]
        clear hw2 b0 b1 b2 p0 p1 p2
        generalize wr.heap.size = gc at *
        obtain ⟨q0, q1, q2⟩ := HCO.out
        obtain ⟨b0, b1, b2⟩ := (HS.out.below HX2.out).at
        obtain ⟨vi, vn, vk⟩ := V
        simp only at q0 q1 q2 T1 T2
        have HK := Lib.hid (show ∀ v : Bool, (decide (1 ≤ vi) && (decide (vi < s.next) && (nameB vn && kindB vk))) = v → okCol s.next (s.cs[n]'cn) = v from fun v e => by rw [← HV.out]; exact e)
        by_cases c1 : vi < 1
        · have d1 : decide (vi < 1) = true := decide_eq_true c1
          have hkk := HK.out false (by rw [decide_eq_false (by omega)]; rfl)
          obtain rfl : R = false := HR.out.trans (may_bad12 HCN.out (by rw [HOK.out, hkk]; rfl))
          clear HR c1 hkk HK
          go_wp2_with (first
            | (go_at_call 55; refine (T1.out _).mono ?_; rintro e w' ⟨rfl, rfl⟩)
            | (go_at_call 56; refine (T2.out _).mono ?_; rintro e w' ⟨rfl, rfl⟩))
          go_ret
          exact ⟨rfl, HB.out.trans (HX2.out.mono HB.out.size)⟩
        have d1 : decide (vi < 1) = false := decide_eq_false c1
        by_cases c2 : s.next ≤ vi
        · have d2 : decide (s.next ≤ vi) = true := decide_eq_true c2
          have hkk := HK.out false (by rw [decide_eq_false (p := vi < s.next) (by omega)]; simp)
          obtain rfl : R = false := HR.out.trans (may_bad12 HCN.out (by rw [HOK.out, hkk]; rfl))
          clear HR c1 c2 hkk HK
          go_wp2_with (first
            | (go_at_call 55; refine (T1.out _).mono ?_; rintro e w' ⟨rfl, rfl⟩)
            | (go_at_call 56; refine (T2.out _).mono ?_; rintro e w' ⟨rfl, rfl⟩))
          go_ret
          exact ⟨rfl, HB.out.trans (HX2.out.mono HB.out.size)⟩
        have d2 : decide (s.next ≤ vi) = false := decide_eq_false c2
        have hkt : decide (1 ≤ vi) = true := decide_eq_true (by omega)
        have hnt : decide (vi < s.next) = true := decide_eq_true (by omega)
        rw [hkt, hnt] at HK
        clear c1 c2 hkt hnt
        cases c3 : nameB vn with
        | false =>
          rw [c3] at T1 HK
          have hkk := HK.out false rfl
          obtain rfl : R = false := HR.out.trans (may_bad12 HCN.out (by rw [HOK.out, hkk]; rfl))
          clear HR c3 hkk HK
          go_wp2_with (first
            | (go_at_call 55; refine (T1.out _).mono ?_; rintro e w' ⟨rfl, rfl⟩)
            | (go_at_call 56; refine (T2.out _).mono ?_; rintro e w' ⟨rfl, rfl⟩))
          go_ret
          exact ⟨rfl, HB.out.trans (HX2.out.mono HB.out.size)⟩
        | true =>
          rw [c3] at T1 HK
          clear c3
          cases c4 : kindB vk with
          | false =>
            rw [c4] at T2 HK
            have hkk := HK.out false rfl
            obtain rfl : R = false := HR.out.trans (may_bad12 HCN.out (by rw [HOK.out, hkk]; rfl))
            clear HR c4 hkk HK
            go_wp2_with (first
              | (go_at_call 55; refine (T1.out _).mono ?_; rintro e w' ⟨rfl, rfl⟩)
              | (go_at_call 56; refine (T2.out _).mono ?_; rintro e w' ⟨rfl, rfl⟩))
            go_ret
            exact ⟨rfl, HB.out.trans (HX2.out.mono HB.out.size)⟩
          | true =>
            rw [c4] at T2 HK
            clear c4
            have hkk := HK.out true rfl
            have HOK2 := Lib.hid (show okAtS s.next s.cs n = ((s.cs.take n).all fun o => decide (Unl o (s.cs[n]'cn))) by rw [HOK.out, hkk]; simp)
            clear hkk HK
            go_upto_region 9 with (first
              | (go_at_call 55; refine (T1.out _).mono ?_; rintro e w' ⟨rfl, rfl⟩)
              | (go_at_call 56; refine (T2.out _).mono ?_; rintro e w' ⟨rfl, rfl⟩))
            clear d1 d2 b0 b1 b2 q0 q1 q2
            go_wp2
            go_loopw [5] (fun kv wr => ∃ k : Nat, k ≤ n ∧ kv = .int .i64 k ∧ Hid (∀ j (hj : j < s.cs.length), j < k → Unl s.cs[j] (s.cs[n]'cn)) ∧ Hid (Below w2.heap.size w2 wr)) (fun kv _ => n - (intOf kv).toNat)
            case atStart => exact ⟨0, Nat.zero_le _, rfl, fun j _ hj => absurd hj (Nat.not_lt_zero j), Below.refl _ _⟩
            case round =>
              obtain ⟨k, hkle, rfl, HU, HY⟩ := hrel
              by_cases ck : k < n
              · have hkl : k < s.cs.length := by have := HCN.out; omega
                have hcok := HCC.out k hkl
                have hco9 := hcok.below (HX2.out.trans (HY.out.mono HX2.out.size))
                have hki : (k : Int) < (s.cs.length : Int) := by omega
                have hkn : (k : Int) < (n : Int) := by omega
                generalize hV2 : s.cs[k] = V2 at hco9
                have HV2 : Hid (V2 = s.cs[k]'hkl) := hV2.symm
                have HC9 := Lib.hid hco9
                have HCK := Lib.hid (And.intro ck hkl)
                clear hcok hco9 hV2
                obtain ⟨xi, xn, xk⟩ := V2
                have hun : Unl s.cs[k] (s.cs[n]'cn) ↔ (xi ≠ vi ∧ xn ≠ vn) := by rw [← HV.out, ← HV2.out]; exact Iff.rfl
                have HUN := Lib.hid hun
                have bad : ¬ (xi ≠ vi ∧ xn ≠ vn) → okAtS s.next s.cs n = false := fun hh => by
                  rw [HOK2.out, List.all_eq_false]
                  exact ⟨s.cs[k], List.mem_take_iff_getElem.2 ⟨k, by omega, rfl⟩, by simpa using fun e => hh (HUN.out.1 e)⟩
                have HBAD := Lib.hid bad
                clear hun bad
                have regio : ∀ s1 s2 : Bool, (xi == vi) = s1 → (xn.toList == vn.toList) = s2 → True := fun _ _ _ _ => trivial
                clear regio
                by_cases e1 : xi = vi
                · obtain rfl : R = false := HR.out.trans (may_bad12 HCN.out (HBAD.out fun h => h.1 e1))
                  clear HR HUN HBAD
                  obtain rfl : vi = xi := e1.symm
                  clear e1
                  clear HCC HOK HOK2 HN HU HV HV2 HA T1 T2
                  go_upto_region 12 with fail
                  refine region_class (fun w' => Below wr.heap.size wr w') (by kernel_rfl) (by kernel_rfl) (Below.refl _ _).drew ?_
                  repeat (
                    first
                    | go_big_quiet_skip
                    | (go_big_quiet_want
                       go_big_quiet_op
                       first
                       | go_big_quiet_on
                       | (apply Exists.intro
                          refine ⟨fun v1 hv1 => ?_, ?_⟩
                          · (first
                            | (exact rfl)
                            | (obtain ⟨b0, b1, b2⟩ := ((HS.out.below (HX2.out.trans (HY.out.mono HX2.out.size))).below hv1).at; simp only [b0, b1, b2, Result.andThen]; exact ⟨trivial, rfl⟩)
                            | (obtain ⟨q0, q1, q2⟩ := (HCO.out.below HY.out).below hv1; simp only at q0 q1 q2; simp only [q0, q1, q2, Result.andThen]; exact ⟨trivial, rfl⟩)
                            | (obtain ⟨x0, x1, x2⟩ := HC9.out.below hv1; simp only at x0 x1; simp only [x0, x1, Result.andThen]; exact ⟨trivial, rfl⟩)
                            | (exact ⟨trivial, rfl⟩))
                          go_big_quiet_on)))
                  refine wpQuiet_nil ?_
                  intro w9 hw9
                  have HB9 := Lib.hid (HY.out.trans (hw9.mono HY.out.size))
                  clear hw9
                  go_wp2
                  go_ret
                  exact ⟨rfl, HB.out.trans ((HX2.out.trans (HB9.out.mono HX2.out.size)).mono HB.out.size)⟩
                have f1 : (xi == vi) = false := by simpa using e1
                by_cases e2 : xn = vn
                · obtain rfl : R = false := HR.out.trans (may_bad12 HCN.out (HBAD.out fun h => h.2 e2))
                  clear HR HUN HBAD
                  obtain rfl : vn = xn := e2.symm
                  clear e1 e2
                  clear HCC HOK HOK2 HN HU HV HV2 HA T1 T2
                  go_upto_region 12 with fail
                  refine region_class (fun w' => Below wr.heap.size wr w') (by kernel_rfl) (by kernel_rfl) (Below.refl _ _).drew ?_
                  repeat (
                    first
                    | go_big_quiet_skip
                    | (go_big_quiet_want
                       go_big_quiet_op
                       first
                       | go_big_quiet_on
                       | (apply Exists.intro
                          refine ⟨fun v1 hv1 => ?_, ?_⟩
                          · (first
                            | (exact rfl)
                            | (obtain ⟨b0, b1, b2⟩ := ((HS.out.below (HX2.out.trans (HY.out.mono HX2.out.size))).below hv1).at; simp only [b0, b1, b2, Result.andThen]; exact ⟨trivial, rfl⟩)
                            | (obtain ⟨q0, q1, q2⟩ := (HCO.out.below HY.out).below hv1; simp only at q0 q1 q2; simp only [q0, q1, q2, Result.andThen]; exact ⟨trivial, rfl⟩)
                            | (obtain ⟨x0, x1, x2⟩ := HC9.out.below hv1; simp only at x0 x1; simp only [x0, x1, Result.andThen]; exact ⟨trivial, rfl⟩)
                            | (exact ⟨trivial, rfl⟩))
                          go_big_quiet_on)))
                  refine wpQuiet_nil ?_
                  intro w9 hw9
                  have HB9 := Lib.hid (HY.out.trans (hw9.mono HY.out.size))
                  clear hw9
                  go_wp2
                  go_ret
                  exact ⟨rfl, HB.out.trans ((HX2.out.trans (HB9.out.mono HX2.out.size)).mono HB.out.size)⟩
                have f2 : (xn.toList == vn.toList) = false := by rw [beq_eq_false_iff_ne]; exact fun e => e2 (text_inj (by simpa using e))
                have HUK := Lib.hid (HUN.out.2 ⟨e1, e2⟩)
                clear e1 e2
                go_upto_region 12 with fail
                refine region_class (fun w' => Below wr.heap.size wr w') (by kernel_rfl) (by kernel_rfl) (Below.refl _ _).drew ?_
                repeat (
                  first
                  | go_big_quiet_skip
                  | (go_big_quiet_want
                     go_big_quiet_op
                     first
                     | go_big_quiet_on
                     | (apply Exists.intro
                        refine ⟨fun v1 hv1 => ?_, ?_⟩
                        · (first
                          | (exact rfl)
                          | (obtain ⟨b0, b1, b2⟩ := ((HS.out.below (HX2.out.trans (HY.out.mono HX2.out.size))).below hv1).at; simp only [b0, b1, b2, Result.andThen]; exact ⟨trivial, rfl⟩)
                          | (obtain ⟨q0, q1, q2⟩ := (HCO.out.below HY.out).below hv1; simp only at q0 q1 q2; simp only [q0, q1, q2, Result.andThen]; exact ⟨trivial, rfl⟩)
                          | (obtain ⟨x0, x1, x2⟩ := HC9.out.below hv1; simp only at x0 x1; simp only [x0, x1, Result.andThen]; exact ⟨trivial, rfl⟩)
                          | (exact ⟨trivial, rfl⟩))
                        go_big_quiet_on)))
                refine wpQuiet_nil ?_
                intro w9 hw9
                have HB9 := Lib.hid (HY.out.trans (hw9.mono HY.out.size))
                clear hw9
                go_wp2
                go_roundw
                case rel => exact ⟨k + 1, by have := HCK.out; omega, by go_num, fun j hj hjk => by
                  rcases Nat.lt_or_ge j k with h | h
                  · exact HU.out j hj h
                  · obtain rfl : j = k := by omega
                    exact HUK.out, HB9⟩
                case measure => have := HCK.out; simp [intOf]; omega
              · obtain rfl : k = n := by omega
                have hkf : decide ((k : Int) < (k : Int)) = false := decide_eq_false (by omega)
                clear ck
                go_wp2
                go_roundw
                case rel => exact ⟨k + 1, by have := HCN.out; omega, by go_num, fun j hj => by
                  rcases Nat.lt_or_ge j k with h | h
                  · exact HN.out j h
                  · obtain rfl : j = k := by omega
                    rw [HOK2.out, List.all_eq_true]
                    intro o ho
                    obtain ⟨i, hi, rfl⟩ := List.mem_take_iff_getElem.1 ho
                    exact decide_eq_true (HU.out i (by omega) (by omega)), HX2.out.trans (HY.out.mono HX2.out.size)⟩
                case measure => have := HCN.out; simp [intOf]; omega
      · obtain rfl : n = s.cs.length := by omega
        obtain rfl : R = true := HR.out.trans (may_good12 HBN.out HN.out)
        clear cn HR
        go_wp2
        go_ret
        exact ⟨rfl, HB.out.trans (HX.out.mono HB.out.size)⟩
  · have hb' : bndSc s = false := by simpa using hb
    obtain rfl : R = false := HR.out.trans (may_no12 hb')
    have hn : ¬ (0 ≤ s.id ∧ s.id ≤ 2147483647 ∧ s.next ≤ 2147483647 ∧ 1 ≤ s.cs.length ∧ s.cs.length ≤ 12) := by
      unfold bndSc at hb
      rwa [decide_eq_true_eq] at hb
    have go : ∀ (d1 d2 d3 d4 d5 : Bool), decide (s.id < 0) = d1 → decide (2147483647 < s.id) = d2 → decide (2147483647 < s.next) = d3 → decide ((s.cs.length : Int) < 1) = d4 → decide ((12 : Int) < (s.cs.length : Int)) = d5 → (d1 || d2 || d3 || d4 || d5) = true →
        Calls Try.prog 21 #[.agg #[.int .i64 s.id, .slice a s.cs.length cap, .int .i64 s.next]] w fun e w' => e = .returned (.bool false) ∧ Below w.heap.size w w' := by
      clear hn hb hb' HR HA hl
      intro d1 d2 d3 d4 d5 h1 h2 h3 h4 h5 h
      have HH := Lib.hid h
      clear h
      cases d1 with
      | true => (go_enter Try.func21, Try.ntmps21; go_upto_region 1 with fail; rw [← hu]; clear hu; go_wp2; go_ret; exact ⟨rfl, HB.out⟩)
      | false =>
        cases d2 with
        | true => (go_enter Try.func21, Try.ntmps21; go_upto_region 1 with fail; rw [← hu]; clear hu; go_wp2; go_ret; exact ⟨rfl, HB.out⟩)
        | false =>
          cases d3 with
          | true => (go_enter Try.func21, Try.ntmps21; go_upto_region 1 with fail; rw [← hu]; clear hu; go_wp2; go_ret; exact ⟨rfl, HB.out⟩)
          | false =>
            cases d4 with
            | true => (go_enter Try.func21, Try.ntmps21; go_upto_region 1 with fail; rw [← hu]; clear hu; go_wp2; go_ret; exact ⟨rfl, HB.out⟩)
            | false =>
              cases d5 with
              | true => (go_enter Try.func21, Try.ntmps21; go_upto_region 1 with fail; rw [← hu]; clear hu; go_wp2; go_ret; exact ⟨rfl, HB.out⟩)
              | false => exact absurd HH.out (by decide)
    refine go _ _ _ _ _ rfl rfl rfl rfl rfl ?_
    simp only [Bool.or_eq_true, decide_eq_true_eq]
    omega
end Go.Proofs.Ythfakpekdjmpjaa
