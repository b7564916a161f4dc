/- The document's specs: SpecMay. The document's specs: RowMay, Alike. The document's specs: Part. -/
import Derived.Test.YthfakpekdjmpjaaSpcL
import Derived.Test.YthfakpekdjmpjaaSpcZ
import Derived.Test.YthfakpekdjmpjaaSchS
import Derived.BigQuiet
import Derived.Test.YthfakpekdjmpjaaVOrd
import Derived.Test.YthfakpekdjmpjaaQe
import Derived.Test.YthfakpekdjmpjaaQg
namespace Go.Proofs.Ythfakpekdjmpjaa
open Go.Conc Go.RowKit
set_option linter.unusedVariables false
set_option linter.unusedSimpArgs false

/-- Spec and schema in variables. -/
structure P2 (w u : World) (fa a : Option Addr) (fcap cap : Nat) (p : Sp) (s : Sc) : Prop where
  sp : SpSlot u w.heap.size fa fcap p
  sc : ScSlot u (w.heap.size + 1) a cap s
  below : Below w.heap.size w u
theorem P2.more {w u u' : World} {fa a : Option Addr} {fcap cap : Nat} {p : Sp} {s : Sc} (h : P2 w u fa a fcap cap p s) (hb : Below u.heap.size u u') : P2 w u' fa a fcap cap p s :=
  ⟨h.sp.below hb, h.sc.below hb, h.below.trans (hb.mono h.below.size)⟩
theorem P2.new (w : World) (fa a : Option Addr) (fcap cap : Nat) (p : Sp) (s : Sc) :
    P2 w ((w.alloc (.cells #[.int .i64 p.id, .slice fa p.fs.length fcap] 65)).alloc (.cells #[.int .i64 s.id, .slice a s.cs.length cap, .int .i64 s.next] 24)) fa a fcap cap p s := by
  obtain ⟨u1, h1⟩ : ∃ u, u = w.alloc (.cells #[.int .i64 p.id, .slice fa p.fs.length fcap] 65) := ⟨_, rfl⟩
  obtain ⟨u2, h2⟩ : ∃ u, u = u1.alloc (.cells #[.int .i64 s.id, .slice a s.cs.length cap, .int .i64 s.next] 24) := ⟨_, rfl⟩
  have z1 : u1.heap.size = w.heap.size + 1 := by rw [h1]; simp
  have b1 : Below w.heap.size w u1 := by rw [h1]; exact (Below.refl _ _).alloc (Nat.le_refl _) _
  have b2 : Below u1.heap.size u1 u2 := by rw [h2]; exact (Below.refl _ _).alloc (Nat.le_refl _) _
  have s1 : SpSlot u1 w.heap.size fa fcap p := by rw [h1]; exact SpSlot.new w fa fcap p
  have s2 : ScSlot u2 (w.heap.size + 1) a cap s := by rw [h2, ← z1]; exact ScSlot.new u1 a cap s
  rw [← h1, ← h2]
  exact ⟨s1.below b2, s2, b1.trans (b2.mono b1.size)⟩
theorem okfd_no {cs : List Co} {fs : List Fd} {n : Nat} (cn : n < fs.length) (h : standB fs[n] cs = false) : okFd cs fs n = false := by rw [okfd_at cn, h]; rfl
theorem okfd_like {cs : List Co} {fs : List Fd} {n : Nat} {f : Fd} (cn : n < fs.length) (he : f = fs[n]) (h : (fs.take n).any (likeF f) = true) : okFd cs fs n = false := by subst he; rw [okfd_at cn, h, Bool.not_true, Bool.and_false]
theorem okfd_yes {cs : List Co} {fs : List Fd} {n : Nat} {f : Fd} (cn : n < fs.length) (he : f = fs[n]) (h1 : standB f cs = true) (h : (fs.take n).any (likeF f) = false) : okFd cs fs n = true := by subst he; rw [okfd_at cn, h1, h]; rfl
theorem stand_out {f : Fd} {cs : List Co} (h : placeA cs f.src = -1) : standB f cs = false := by
  unfold standB; rw [h]; rfl
theorem stand_in {f : Fd} {cs : List Co} {j : Nat} (h : placeA cs f.src = (j : Int)) : standB f cs = (fieldB f && !decide (f.tr = 2 ∧ (cs.getD j zeroCo).kd = 2)) := by
  unfold standB kindAt
  rw [h, Int.toNat_natCast, takes_field, decide_eq_true (by omega : (0 : Int) ≤ (j : Int)), Bool.true_and]
theorem likes_snoc {f : Fd} {fs : List Fd} {j : Nat} (hj : j < fs.length) (h : (fs.take j).any (likeF f) = false) (h2 : likeF f fs[j] = false) : (fs.take (j + 1)).any (likeF f) = false := by
  rw [← List.take_append_getElem hj, List.any_append, h]; simp [h2]
theorem likes_yes {f : Fd} {fs : List Fd} {j n : Nat} (hj : j < fs.length) (hn : j < n) (h2 : likeF f fs[j] = true) : (fs.take n).any (likeF f) = true := by
  rw [List.any_eq_true]
  exact ⟨fs[j], by rw [List.mem_take_iff_getElem]; exact ⟨j, by omega, rfl⟩, h2⟩
set_option maxRecDepth 100000 in
set_option maxHeartbeats 4000000 in
theorem refspecmay_any (w : World) (fa a : Option Addr) (fcap cap : Nat) (p : Sp) (s : Sc) (hf : IsFd w fa p.fs) (ha : IsCo w a s.cs) (hl : s.cs.length ≤ maxLen) :
    Calls Try.prog 36 #[.agg #[.int .i64 p.id, .slice fa p.fs.length fcap], .agg #[.int .i64 s.id, .slice a s.cs.length cap, .int .i64 s.next]] w fun e w' => e = .returned (.bool (maySp p s)) ∧ Below w.heap.size w w' := by
  have hP := P2.new w fa a fcap cap p s
  obtain ⟨u, hu⟩ : ∃ u, u = ((w.alloc (.cells #[.int .i64 p.id, .slice fa p.fs.length fcap] 65)).alloc (.cells #[.int .i64 s.id, .slice a s.cs.length cap, .int .i64 s.next] 24)) := ⟨_, rfl⟩
  rw [← hu] at hP
  have HP := Lib.hid hP
  have hw := hu.symm
  have T0 := Lib.hid (refschmay_any u a cap s (ha.below hP.below) hl)
  have T1 := Lib.hid (fun (x : World) (hx : Below w.heap.size w x) (id : Int) => refbyid_any x a cap s id (ha.below hx) hl)
  have HA := Lib.hid ha
  have HF := Lib.hid hf
  obtain ⟨R, hR⟩ : ∃ R, R = maySp p s := ⟨_, rfl⟩
  rw [← hR]
  have HR := Lib.hid hR
  obtain ⟨M, hM⟩ : ∃ M, M = maySc s := ⟨_, rfl⟩
  rw [← hM] at T0
  have HM := Lib.hid hM
  clear hM hR hP hu hf ha hl
  cases M with
  | false =>
    obtain rfl : R = false := HR.out.trans (maysp_no (.inr HM.out.symm))
    obtain ⟨b0, b1, b2⟩ := HP.out.sc.at
    go_enter Try.func36, Try.ntmps36
    go_upto_region 1 with fail
    clear hw
    go_wp2_with (go_at_call 21; refine T0.out.mono ?_; rintro e w1 ⟨rfl, hb⟩; have HP1 := Lib.hid (HP.out.more hb); clear hb)
    go_ret
    exact ⟨rfl, HP1.out.below⟩
  | true =>
    by_cases hb : bndSp p = true
    · have hb2 := hb
      unfold bndSp at hb2
      rw [decide_eq_true_eq] at hb2
      have d1 : decide (p.id < 0) = false := decide_eq_false (by omega)
      have d2 : decide (2147483647 < p.id) = false := decide_eq_false (by omega)
      have d3 : decide ((4 : Int) < (p.fs.length : Int)) = false := decide_eq_false (by omega)
      have HBN := Lib.hid hb
      have HB2 := Lib.hid hb2
      clear hb hb2
      obtain ⟨b0, b1, b2⟩ := HP.out.sc.at
      go_enter Try.func36, Try.ntmps36
      go_upto_region 1 with fail
      clear hw
      go_upto_region 3 with (go_at_call 21; refine T0.out.mono ?_; rintro e w1 ⟨rfl, hb⟩; have HP1 := Lib.hid (HP.out.more hb); clear hb b0 b1 b2; obtain ⟨c0, c1⟩ := HP1.out.sp.at)
      clear d1 d2 d3 c0 c1
      go_upto_region 4 with fail
      go_loopw [5] (fun iv wr => ∃ n : Nat, n ≤ p.fs.length ∧ iv = .int .i64 n ∧ Hid (∀ k, k < n → okFd s.cs p.fs k = true) ∧ Hid (P2 w wr fa a fcap cap p s)) (fun iv _ => p.fs.length - (intOf iv).toNat)
      case atStart => exact ⟨0, Nat.zero_le _, rfl, fun k hk => absurd hk (Nat.not_lt_zero k), HP1⟩
      case round =>
        obtain ⟨n, hle, rfl, HN, HX⟩ := hrel
        obtain ⟨c0, c1⟩ := HX.out.sp.at
        by_cases cn : n < p.fs.length
        · have hfb := HF.out.below HX.out.below
          rcases hfb with e | ⟨b, off, rfl, hcc⟩
          · rw [e] at cn; simp at cn
          obtain ⟨p0, p1, p2⟩ := hcc n cn
          have hni : (n : Int) < (p.fs.length : Int) := by omega
          have hn4 : (n : Int) < 4 := by have := HB2.out; omega
          obtain ⟨f, hfe⟩ : ∃ f, f = p.fs[n] := ⟨_, rfl⟩
          rw [← hfe] at p0 p1 p2
          have HFE := Lib.hid hfe
          have HCN := Lib.hid cn
          obtain ⟨w2, hw2⟩ : ∃ w2, w2 = wr.alloc (.cells #[.int .i64 f.src, .int .i64 f.tr, .int .i64 f.par] 55) := ⟨_, rfl⟩
          have hb2 : Below wr.heap.size wr w2 := by rw [hw2]; exact (Below.refl _ _).alloc (Nat.le_refl _) _
          have HCO := Lib.hid (show FdAt w2 wr.heap.size 0 f by rw [hw2]; exact FdAt.new wr f)
          have HX2 := Lib.hid (HX.out.more hb2)
          have HCC := Lib.hid (fun (x : World) (hx : Below w2.heap.size w2 x) i (h : i < p.fs.length) => ((hcc i h).below hb2).below hx)
          have HNO : Hid (standB f s.cs = false → R = false) := fun h => HR.out.trans (maysp_bad HCN.out (okfd_no HCN.out (by rw [← HFE.out]; exact h)))
          clear hcc hb2 hfe
          go_upto_region 7 with fail
          rw [← hw2]
          clear hw2 p0 p1 p2 c0 c1
          generalize wr.heap.size = gc at *
          obtain ⟨q0, q1, q2⟩ := HCO.out
          obtain ⟨b0, b1, b2⟩ := HX2.out.sc.at
          simp only [Nat.zero_add] at q0 q1 q2
          have T2 := Lib.hid (T1.out w2 HX2.out.below f.src)
          rcases place_range s.cs f.src with hk | ⟨j, hk, hkl⟩
          · obtain rfl : R = false := HNO.out (stand_out hk)
            rw [hk] at T2
            clear HNO
            go_wp2_with (go_at_call 79; refine T2.out.mono ?_; rintro e w3 ⟨rfl, hb⟩; have HX3 := Lib.hid (HX2.out.more hb); clear hb b0 b1 b2 q0 q1 q2)
            go_ret
            exact ⟨rfl, HX3.out.below⟩
          · rw [hk] at T2
            have HK := Lib.hid hk
            have T3 := Lib.hid (fun (x : World) => reffieldmay_any f x)
            have hkd : (j : Int) < (s.cs.length : Int) := by omega
            have hj0 : decide ((j : Int) < 0) = false := decide_eq_false (by omega)
            obtain ⟨cb, coff, rfl, hco⟩ := IsCo.get (HA.out.below HX2.out.below) hkl
            have HST := Lib.hid (stand_in hk)
            obtain ⟨F, hF⟩ : ∃ F, F = fieldB f := ⟨_, rfl⟩
            rw [← hF] at T3 HST
            clear hF hk
            go_upto_region 8 with (go_at_call 79; refine T2.out.mono ?_; rintro e w3 ⟨rfl, hb⟩; have HX3 := Lib.hid (HX2.out.more hb); have HCO3 := Lib.hid (HCO.out.below hb); have HC3 := Lib.hid (hco.below hb); have HBX3 := Lib.hid hb; clear hb b0 b1 b2 q0 q1 q2 hco)
            obtain ⟨q0, q1, q2⟩ := HCO3.out
            simp only [Nat.zero_add] at q0 q1 q2
            obtain ⟨co, hco⟩ : ∃ co, co = s.cs.getD j zeroCo := ⟨_, rfl⟩
            rw [← hco] at HC3 HST
            clear hco
            cases F with
            | false =>
              obtain rfl : R = false := HNO.out (by rw [HST.out]; rfl)
              clear HNO HST
              go_wp2_with (go_at_call 71; refine (T3.out _).mono ?_; rintro e w4 ⟨rfl, hb⟩; have HX4 := Lib.hid (HX3.out.more hb); have HCO4 := Lib.hid (HCO3.out.below hb); have HC4 := Lib.hid (HC3.out.below hb); have HB4 := Lib.hid (HBX3.out.trans (hb.mono HBX3.out.size)); clear hb q0 q1 q2; obtain ⟨q0, q1, q2⟩ := HCO4.out; simp only [Nat.zero_add] at q0 q1 q2; obtain ⟨b0, b1, b2⟩ := HX4.out.sc.at; obtain ⟨k0, k1, k2⟩ := HC4.out)
              go_ret
              exact ⟨rfl, HX4.out.below⟩
            | true =>
              have e3 : (f.tr == 2) = decide (f.tr = 2) := by rw [Bool.eq_iff_iff, decide_eq_true_eq, beq_iff_eq]
              have e4 : (co.kd == 2) = decide (co.kd = 2) := by rw [Bool.eq_iff_iff, decide_eq_true_eq, beq_iff_eq]
              have hst0 : standB f s.cs = !(decide (f.tr = 2) && decide (co.kd = 2)) := by
                rw [HST.out, Bool.true_and]
                congr 1
                rw [Bool.eq_iff_iff]
                simp only [Bool.and_eq_true, decide_eq_true_eq]
              have HS0 := Lib.hid hst0
              clear hst0
              generalize decide (f.tr = 2) = A at *
              generalize decide (co.kd = 2) = K2 at *
              cases A with
              | true =>
                cases K2 with
                | true =>
                  obtain rfl : R = false := HNO.out (by rw [HS0.out]; rfl)
                  clear HNO HST HS0
                  go_wp2_with (go_at_call 71; refine (T3.out _).mono ?_; rintro e w4 ⟨rfl, hb⟩; have HX4 := Lib.hid (HX3.out.more hb); have HCO4 := Lib.hid (HCO3.out.below hb); have HC4 := Lib.hid (HC3.out.below hb); have HB4 := Lib.hid (HBX3.out.trans (hb.mono HBX3.out.size)); clear hb q0 q1 q2; obtain ⟨q0, q1, q2⟩ := HCO4.out; simp only [Nat.zero_add] at q0 q1 q2; obtain ⟨b0, b1, b2⟩ := HX4.out.sc.at; obtain ⟨k0, k1, k2⟩ := HC4.out)
                  go_ret
                  exact ⟨rfl, HX4.out.below⟩
                | false =>
                  have hst : standB f s.cs = true := by rw [HS0.out]; rfl
                  clear HS0
                  go_upto_region 11 with (go_at_call 71; refine (T3.out _).mono ?_; rintro e w4 ⟨rfl, hb⟩; have HX4 := Lib.hid (HX3.out.more hb); have HCO4 := Lib.hid (HCO3.out.below hb); have HC4 := Lib.hid (HC3.out.below hb); have HB4 := Lib.hid (HBX3.out.trans (hb.mono HBX3.out.size)); clear hb q0 q1 q2; obtain ⟨q0, q1, q2⟩ := HCO4.out; simp only [Nat.zero_add] at q0 q1 q2; obtain ⟨b0, b1, b2⟩ := HX4.out.sc.at; obtain ⟨k0, k1, k2⟩ := HC4.out)
                  clear q0 q1 q2 b0 b1 b2 k0 k1 k2 HC4
                  have HSY := Lib.hid hst
                  clear hst HNO HST HK HC3 hkl hkd hj0 T2
                  go_loopw [8] (fun jv wr => ∃ m : Nat, m ≤ n ∧ jv = .int .i64 m ∧ Hid ((p.fs.take m).any (likeF f) = false) ∧ Hid (Below w4.heap.size w4 wr)) (fun jv _ => n - (intOf jv).toNat)
                  case atStart => exact ⟨0, Nat.zero_le _, rfl, rfl, Below.refl _ _⟩
                  case round =>
                    obtain ⟨m, hml, rfl, HM2, HY⟩ := hrel
                    have HYY := Lib.hid (HX4.out.more HY.out)
                    obtain ⟨c0, c1⟩ := HYY.out.sp.at
                    by_cases cm : m < n
                    · have hmi : (m : Int) < (n : Int) := by omega
                      have hmf : m < p.fs.length := by have := HCN.out; omega
                      have hmfi : (m : Int) < (p.fs.length : Int) := by omega
                      have HCM := Lib.hid cm
                      have HGM := Lib.hid (fun (x : World) (hx : Below wr.heap.size wr x) => (HCC.out wr (HB4.out.trans (HY.out.mono HB4.out.size)) m hmf).below hx)
                      have HGF := Lib.hid (fun (x : World) (hx : Below wr.heap.size wr x) => (HCO4.out.below HY.out).below hx)
                      have hlk : likeF f p.fs[m] = (decide (p.fs[m].src = f.src) && decide (p.fs[m].tr = f.tr)) := rfl
                      have HYES : Hid (likeF f p.fs[m] = true → R = false) := fun h => HR.out.trans (maysp_bad HCN.out (okfd_like HCN.out HFE.out (likes_yes hmf HCM.out h)))
                      have HNEXT : Hid (likeF f p.fs[m] = false → (p.fs.take (m + 1)).any (likeF f) = false) := fun h => likes_snoc hmf HM2.out h
                      generalize p.fs[m] = o at *
                      have e1 : (o.src == f.src) = decide (o.src = f.src) := by rw [Bool.eq_iff_iff, decide_eq_true_eq, beq_iff_eq]
                      have e2 : (o.tr == f.tr) = decide (o.tr = f.tr) := by rw [Bool.eq_iff_iff, decide_eq_true_eq, beq_iff_eq]
                      rw [hlk] at HYES HNEXT
                      generalize decide (o.src = f.src) = A1 at *
                      generalize decide (o.tr = f.tr) = A2 at *
                      clear hlk hmf
                      cases A1 with
                      | false =>
                        have HNX := Lib.hid (HNEXT.out rfl)
                        clear HYES HNEXT
                        go_upto_region 13 with fail
                        clear c0 c1
                        refine region_class (fun w' => Below wr.heap.size wr w') (by kernel_rfl) (by kernel_rfl) (Below.refl _ _).drew ?_
                        repeat (first
                          | go_big_quiet_skip
                          | (go_big_quiet_want
                             go_big_quiet_op
                             first
                             | go_big_quiet_on
                             | (apply Exists.intro
                                refine ⟨fun v1 hv1 => ?_, ?_⟩
                                (first
                                  | (exact rfl)
                                  | (obtain ⟨c0, c1⟩ := (HYY.out.more hv1).sp.at; simp only [c0, c1, Result.andThen]; exact ⟨trivial, rfl⟩)
                                  | (obtain ⟨g0, g1, g2⟩ := HGM.out v1 hv1; simp only [g0, g1, g2, Result.andThen]; exact ⟨trivial, rfl⟩)
                                  | (obtain ⟨q0, q1, q2⟩ := HGF.out v1 hv1; simp only [Nat.zero_add] at q0 q1 q2; simp only [q0, q1, q2, Result.andThen]; exact ⟨trivial, rfl⟩)
                                  | (exact ⟨trivial, rfl⟩))
                                go_big_quiet_on)))
                        refine wpQuiet_nil ?_
                        intro w9 hw9
                        have HY9 := Lib.hid (HY.out.trans (hw9.mono HY.out.size))
                        clear hw9
                        go_wp2
                        go_roundw
                        case rel => exact ⟨m + 1, by have := HCM.out; omega, by go_num, HNX, HY9⟩
                        case measure => have := HCM.out; simp [intOf]; omega
                      | true =>
                        cases A2 with
                        | false =>
                          have HNX := Lib.hid (HNEXT.out rfl)
                          clear HYES HNEXT
                          go_upto_region 13 with fail
                          clear c0 c1
                          refine region_class (fun w' => Below wr.heap.size wr w') (by kernel_rfl) (by kernel_rfl) (Below.refl _ _).drew ?_
                          repeat (first
                            | go_big_quiet_skip
                            | (go_big_quiet_want
                               go_big_quiet_op
                               first
                               | go_big_quiet_on
                               | (apply Exists.intro
                                  refine ⟨fun v1 hv1 => ?_, ?_⟩
                                  (first
                                    | (exact rfl)
                                    | (obtain ⟨c0, c1⟩ := (HYY.out.more hv1).sp.at; simp only [c0, c1, Result.andThen]; exact ⟨trivial, rfl⟩)
                                    | (obtain ⟨g0, g1, g2⟩ := HGM.out v1 hv1; simp only [g0, g1, g2, Result.andThen]; exact ⟨trivial, rfl⟩)
                                    | (obtain ⟨q0, q1, q2⟩ := HGF.out v1 hv1; simp only [Nat.zero_add] at q0 q1 q2; simp only [q0, q1, q2, Result.andThen]; exact ⟨trivial, rfl⟩)
                                    | (exact ⟨trivial, rfl⟩))
                                  go_big_quiet_on)))
                          refine wpQuiet_nil ?_
                          intro w9 hw9
                          have HY9 := Lib.hid (HY.out.trans (hw9.mono HY.out.size))
                          clear hw9
                          go_wp2
                          go_roundw
                          case rel => exact ⟨m + 1, by have := HCM.out; omega, by go_num, HNX, HY9⟩
                          case measure => have := HCM.out; simp [intOf]; omega
                        | true =>
                          obtain rfl : R = false := HYES.out rfl
                          clear HYES HNEXT
                          go_upto_region 13 with fail
                          clear c0 c1
                          refine region_class (fun w' => Below wr.heap.size wr w') (by kernel_rfl) (by kernel_rfl) (Below.refl _ _).drew ?_
                          repeat (first
                            | go_big_quiet_skip
                            | (go_big_quiet_want
                               go_big_quiet_op
                               first
                               | go_big_quiet_on
                               | (apply Exists.intro
                                  refine ⟨fun v1 hv1 => ?_, ?_⟩
                                  (first
                                    | (exact rfl)
                                    | (obtain ⟨c0, c1⟩ := (HYY.out.more hv1).sp.at; simp only [c0, c1, Result.andThen]; exact ⟨trivial, rfl⟩)
                                    | (obtain ⟨g0, g1, g2⟩ := HGM.out v1 hv1; simp only [g0, g1, g2, Result.andThen]; exact ⟨trivial, rfl⟩)
                                    | (obtain ⟨q0, q1, q2⟩ := HGF.out v1 hv1; simp only [Nat.zero_add] at q0 q1 q2; simp only [q0, q1, q2, Result.andThen]; exact ⟨trivial, rfl⟩)
                                    | (exact ⟨trivial, rfl⟩))
                                  go_big_quiet_on)))
                          refine wpQuiet_nil ?_
                          intro w9 hw9
                          have HY9 := Lib.hid (HY.out.trans (hw9.mono HY.out.size))
                          clear hw9
                          go_wp2
                          go_ret
                          exact ⟨rfl, (HX4.out.more HY9.out).below⟩
                    · obtain rfl : m = n := by omega
                      clear cm
                      have HFIN : Hid (okFd s.cs p.fs m = true) := okfd_yes HCN.out HFE.out HSY.out HM2.out
                      go_wp2
                      go_roundw
                      case rel => exact ⟨m + 1, HCN.out, by go_num, fun k hk => by
                        rcases Nat.lt_or_ge k m with h | h
                        · exact HN.out k h
                        · obtain rfl : k = m := by omega
                          exact HFIN.out, HYY⟩
                      case measure => have := HCN.out; simp [intOf]; omega
              | false =>
                have hst : standB f s.cs = true := by rw [HS0.out]; rfl
                clear HS0
                go_upto_region 11 with (go_at_call 71; refine (T3.out _).mono ?_; rintro e w4 ⟨rfl, hb⟩; have HX4 := Lib.hid (HX3.out.more hb); have HCO4 := Lib.hid (HCO3.out.below hb); have HC4 := Lib.hid (HC3.out.below hb); have HB4 := Lib.hid (HBX3.out.trans (hb.mono HBX3.out.size)); clear hb q0 q1 q2; obtain ⟨q0, q1, q2⟩ := HCO4.out; simp only [Nat.zero_add] at q0 q1 q2; obtain ⟨b0, b1, b2⟩ := HX4.out.sc.at; obtain ⟨k0, k1, k2⟩ := HC4.out)
                clear q0 q1 q2 b0 b1 b2 k0 k1 k2 HC4
                have HSY := Lib.hid hst
                clear hst HNO HST HK HC3 hkl hkd hj0 T2
                go_loopw [8] (fun jv wr => ∃ m : Nat, m ≤ n ∧ jv = .int .i64 m ∧ Hid ((p.fs.take m).any (likeF f) = false) ∧ Hid (Below w4.heap.size w4 wr)) (fun jv _ => n - (intOf jv).toNat)
                case atStart => exact ⟨0, Nat.zero_le _, rfl, rfl, Below.refl _ _⟩
                case round =>
                  obtain ⟨m, hml, rfl, HM2, HY⟩ := hrel
                  have HYY := Lib.hid (HX4.out.more HY.out)
                  obtain ⟨c0, c1⟩ := HYY.out.sp.at
                  by_cases cm : m < n
                  · have hmi : (m : Int) < (n : Int) := by omega
                    have hmf : m < p.fs.length := by have := HCN.out; omega
                    have hmfi : (m : Int) < (p.fs.length : Int) := by omega
                    have HCM := Lib.hid cm
                    have HGM := Lib.hid (fun (x : World) (hx : Below wr.heap.size wr x) => (HCC.out wr (HB4.out.trans (HY.out.mono HB4.out.size)) m hmf).below hx)
                    have HGF := Lib.hid (fun (x : World) (hx : Below wr.heap.size wr x) => (HCO4.out.below HY.out).below hx)
                    have hlk : likeF f p.fs[m] = (decide (p.fs[m].src = f.src) && decide (p.fs[m].tr = f.tr)) := rfl
                    have HYES : Hid (likeF f p.fs[m] = true → R = false) := fun h => HR.out.trans (maysp_bad HCN.out (okfd_like HCN.out HFE.out (likes_yes hmf HCM.out h)))
                    have HNEXT : Hid (likeF f p.fs[m] = false → (p.fs.take (m + 1)).any (likeF f) = false) := fun h => likes_snoc hmf HM2.out h
                    generalize p.fs[m] = o at *
                    have e1 : (o.src == f.src) = decide (o.src = f.src) := by rw [Bool.eq_iff_iff, decide_eq_true_eq, beq_iff_eq]
                    have e2 : (o.tr == f.tr) = decide (o.tr = f.tr) := by rw [Bool.eq_iff_iff, decide_eq_true_eq, beq_iff_eq]
                    rw [hlk] at HYES HNEXT
                    generalize decide (o.src = f.src) = A1 at *
                    generalize decide (o.tr = f.tr) = A2 at *
                    clear hlk hmf
                    cases A1 with
                    | false =>
                      have HNX := Lib.hid (HNEXT.out rfl)
                      clear HYES HNEXT
                      go_upto_region 13 with fail
                      clear c0 c1
                      refine region_class (fun w' => Below wr.heap.size wr w') (by kernel_rfl) (by kernel_rfl) (Below.refl _ _).drew ?_
                      repeat (first
                        | go_big_quiet_skip
                        | (go_big_quiet_want
                           go_big_quiet_op
                           first
                           | go_big_quiet_on
                           | (apply Exists.intro
                              refine ⟨fun v1 hv1 => ?_, ?_⟩
                              (first
                                | (exact rfl)
                                | (obtain ⟨c0, c1⟩ := (HYY.out.more hv1).sp.at; simp only [c0, c1, Result.andThen]; exact ⟨trivial, rfl⟩)
                                | (obtain ⟨g0, g1, g2⟩ := HGM.out v1 hv1; simp only [g0, g1, g2, Result.andThen]; exact ⟨trivial, rfl⟩)
                                | (obtain ⟨q0, q1, q2⟩ := HGF.out v1 hv1; simp only [Nat.zero_add] at q0 q1 q2; simp only [q0, q1, q2, Result.andThen]; exact ⟨trivial, rfl⟩)
                                | (exact ⟨trivial, rfl⟩))
                              go_big_quiet_on)))
                      refine wpQuiet_nil ?_
                      intro w9 hw9
                      have HY9 := Lib.hid (HY.out.trans (hw9.mono HY.out.size))
                      clear hw9
                      go_wp2
                      go_roundw
                      case rel => exact ⟨m + 1, by have := HCM.out; omega, by go_num, HNX, HY9⟩
                      case measure => have := HCM.out; simp [intOf]; omega
                    | true =>
                      cases A2 with
                      | false =>
                        have HNX := Lib.hid (HNEXT.out rfl)
                        clear HYES HNEXT
                        go_upto_region 13 with fail
                        clear c0 c1
                        refine region_class (fun w' => Below wr.heap.size wr w') (by kernel_rfl) (by kernel_rfl) (Below.refl _ _).drew ?_
                        repeat (first
                          | go_big_quiet_skip
                          | (go_big_quiet_want
                             go_big_quiet_op
                             first
                             | go_big_quiet_on
                             | (apply Exists.intro
                                refine ⟨fun v1 hv1 => ?_, ?_⟩
                                (first
                                  | (exact rfl)
                                  | (obtain ⟨c0, c1⟩ := (HYY.out.more hv1).sp.at; simp only [c0, c1, Result.andThen]; exact ⟨trivial, rfl⟩)
                                  | (obtain ⟨g0, g1, g2⟩ := HGM.out v1 hv1; simp only [g0, g1, g2, Result.andThen]; exact ⟨trivial, rfl⟩)
                                  | (obtain ⟨q0, q1, q2⟩ := HGF.out v1 hv1; simp only [Nat.zero_add] at q0 q1 q2; simp only [q0, q1, q2, Result.andThen]; exact ⟨trivial, rfl⟩)
                                  | (exact ⟨trivial, rfl⟩))
                                go_big_quiet_on)))
                        refine wpQuiet_nil ?_
                        intro w9 hw9
                        have HY9 := Lib.hid (HY.out.trans (hw9.mono HY.out.size))
                        clear hw9
                        go_wp2
                        go_roundw
                        case rel => exact ⟨m + 1, by have := HCM.out; omega, by go_num, HNX, HY9⟩
                        case measure => have := HCM.out; simp [intOf]; omega
                      | true =>
                        obtain rfl : R = false := HYES.out rfl
                        clear HYES HNEXT
                        go_upto_region 13 with fail
                        clear c0 c1
                        refine region_class (fun w' => Below wr.heap.size wr w') (by kernel_rfl) (by kernel_rfl) (Below.refl _ _).drew ?_
                        repeat (first
                          | go_big_quiet_skip
                          | (go_big_quiet_want
                             go_big_quiet_op
                             first
                             | go_big_quiet_on
                             | (apply Exists.intro
                                refine ⟨fun v1 hv1 => ?_, ?_⟩
                                (first
                                  | (exact rfl)
                                  | (obtain ⟨c0, c1⟩ := (HYY.out.more hv1).sp.at; simp only [c0, c1, Result.andThen]; exact ⟨trivial, rfl⟩)
                                  | (obtain ⟨g0, g1, g2⟩ := HGM.out v1 hv1; simp only [g0, g1, g2, Result.andThen]; exact ⟨trivial, rfl⟩)
                                  | (obtain ⟨q0, q1, q2⟩ := HGF.out v1 hv1; simp only [Nat.zero_add] at q0 q1 q2; simp only [q0, q1, q2, Result.andThen]; exact ⟨trivial, rfl⟩)
                                  | (exact ⟨trivial, rfl⟩))
                                go_big_quiet_on)))
                        refine wpQuiet_nil ?_
                        intro w9 hw9
                        have HY9 := Lib.hid (HY.out.trans (hw9.mono HY.out.size))
                        clear hw9
                        go_wp2
                        go_ret
                        exact ⟨rfl, (HX4.out.more HY9.out).below⟩
                  · obtain rfl : m = n := by omega
                    clear cm
                    have HFIN : Hid (okFd s.cs p.fs m = true) := okfd_yes HCN.out HFE.out HSY.out HM2.out
                    go_wp2
                    go_roundw
                    case rel => exact ⟨m + 1, HCN.out, by go_num, fun k hk => by
                      rcases Nat.lt_or_ge k m with h | h
                      · exact HN.out k h
                      · obtain rfl : k = m := by omega
                        exact HFIN.out, HYY⟩
                    case measure => have := HCN.out; simp [intOf]; omega
        · obtain rfl : n = p.fs.length := by omega
          obtain rfl : R = true := HR.out.trans (maysp_good HBN.out HM.out.symm HN.out)
          clear cn HR
          go_wp2
          go_ret
          exact ⟨rfl, HX.out.below⟩
    · have hb' : bndSp p = false := by simpa using hb
      obtain rfl : R = false := HR.out.trans (maysp_no (.inl hb'))
      have hn : ¬ (0 ≤ p.id ∧ p.id ≤ 2147483647 ∧ p.fs.length ≤ 4) := by
        unfold bndSp at hb
        rwa [decide_eq_true_eq] at hb
      have go : ∀ (d1 d2 d3 : Bool), decide (p.id < 0) = d1 → decide (2147483647 < p.id) = d2 → decide ((4 : Int) < (p.fs.length : Int)) = d3 → (d1 || d2 || d3) = true →
          Calls Try.prog 36 #[.agg #[.int .i64 p.id, .slice fa p.fs.length fcap], .agg #[.int .i64 s.id, .slice a s.cs.length cap, .int .i64 s.next]] w fun e w' => e = .returned (.bool false) ∧ Below w.heap.size w w' := by
        clear hn hb hb' HR HA HF HM T1
        intro d1 d2 d3 h1 h2 h3 h
        have HH := Lib.hid h
        clear h
        obtain ⟨b0, b1, b2⟩ := HP.out.sc.at
        cases d1 with
        | true => (go_enter Try.func36, Try.ntmps36; go_upto_region 1 with fail; clear hw; go_wp2_with (go_at_call 21; refine T0.out.mono ?_; rintro e w1 ⟨rfl, hb⟩; have HP1 := Lib.hid (HP.out.more hb); clear hb b0 b1 b2; obtain ⟨c0, c1⟩ := HP1.out.sp.at); go_ret; exact ⟨rfl, HP1.out.below⟩)
        | false =>
          cases d2 with
          | true => (go_enter Try.func36, Try.ntmps36; go_upto_region 1 with fail; clear hw; go_wp2_with (go_at_call 21; refine T0.out.mono ?_; rintro e w1 ⟨rfl, hb⟩; have HP1 := Lib.hid (HP.out.more hb); clear hb b0 b1 b2; obtain ⟨c0, c1⟩ := HP1.out.sp.at); go_ret; exact ⟨rfl, HP1.out.below⟩)
          | false =>
            cases d3 with
            | true => (go_enter Try.func36, Try.ntmps36; go_upto_region 1 with fail; clear hw; go_wp2_with (go_at_call 21; refine T0.out.mono ?_; rintro e w1 ⟨rfl, hb⟩; have HP1 := Lib.hid (HP.out.more hb); clear hb b0 b1 b2; obtain ⟨c0, c1⟩ := HP1.out.sp.at); go_ret; exact ⟨rfl, HP1.out.below⟩)
            | false => exact absurd HH.out (by decide)
      refine go _ _ _ rfl rfl rfl ?_
      simp only [Bool.or_eq_true, decide_eq_true_eq]
      omega
end Go.Proofs.Ythfakpekdjmpjaa

namespace Go.Proofs.Ythfakpekdjmpjaa
open Go.Conc Go.RowKit
set_option linter.unusedVariables false
set_option linter.unusedSimpArgs false

theorem null_kind (v : V) : decide (kindV v = 0) = decide (plainV v = zeroV) := by
  rw [Bool.eq_iff_iff, decide_eq_true_eq, decide_eq_true_eq, ← plainV_kind]
  constructor
  · intro h
    rcases plain_cases v with e | e | e | e <;> rw [e] at h ⊢ <;> first | rfl | (exact absurd h (by decide)) | (exact absurd h (by show ¬ (1 : Int) = 0; decide)) | (exact absurd h (by show ¬ (2 : Int) = 0; decide)) | (exact absurd h (by show ¬ (3 : Int) = 0; decide))
  · intro h; rw [h]; rfl
set_option maxRecDepth 100000 in
theorem rnull13_any (v : V) (w : World) : Calls Try.prog 106 #[.agg #[.int .i64 v.k, .int .i64 v.i, .bool v.b, .string v.s]] w fun e w' => e = .returned (.bool (decide (plainV v = zeroV))) ∧ Below w.heap.size w w' := by
  rw [← null_kind]
  have T := Lib.hid (fun u => rkind_any v u)
  have HB0 := Lib.hid (show Below w.heap.size w (w.alloc (.cells #[.int .i64 v.k, .int .i64 v.i, .bool v.b, .string v.s] 57)) from (Below.refl _ _).alloc (Nat.le_refl _) _)
  generalize kindV v = k at *
  have hq : (k == 0) = decide (k = 0) := by by_cases h : k = 0 <;> simp [h]
  generalize decide (k = 0) = d at *
  cases d
  all_goals (
    go_enter Try.func106, Try.ntmps106
    go_wp2_with (go_at_call 85; refine (T.out _).mono ?_; rintro e w1 ⟨rfl, hb⟩; have HB := Lib.hid (HB0.out.trans (hb.mono HB0.out.size)); clear hb)
    go_ret
    exact ⟨rfl, HB.out⟩)
/-- Schema and row in variables. -/
structure Q2 (w u : World) (a ra : Option Addr) (cap rcap : Nat) (s : Sc) (r : List V) : Prop where
  sc : ScSlot u w.heap.size a cap s
  ro : u.heap[w.heap.size + 1]? = some (.cells #[.slice ra r.length rcap] 74 (0, 0))
  below : Below w.heap.size w u
theorem Q2.row {w u : World} {a ra : Option Addr} {cap rcap : Nat} {s : Sc} {r : List V} (h : Q2 w u a ra cap rcap s r) : u.cell? ⟨w.heap.size + 1, 0, none⟩ = some (.slice ra r.length rcap) := cell_of_row _ _ _ _ _ _ h.ro
theorem Q2.more {w u u' : World} {a ra : Option Addr} {cap rcap : Nat} {s : Sc} {r : List V} (h : Q2 w u a ra cap rcap s r) (hb : Below u.heap.size u u') : Q2 w u' a ra cap rcap s r :=
  ⟨h.sc.below hb, by rw [hb.block _ (Array.getElem?_eq_some_iff.1 h.ro).1]; exact h.ro, h.below.trans (hb.mono h.below.size)⟩
theorem Q2.new (w : World) (a ra : Option Addr) (cap rcap : Nat) (s : Sc) (r : List V) :
    Q2 w ((w.alloc (.cells #[.int .i64 s.id, .slice a s.cs.length cap, .int .i64 s.next] 24)).alloc (.cells #[.slice ra r.length rcap] 74)) a ra cap rcap s r := by
  obtain ⟨u1, h1⟩ : ∃ u, u = w.alloc (.cells #[.int .i64 s.id, .slice a s.cs.length cap, .int .i64 s.next] 24) := ⟨_, rfl⟩
  obtain ⟨u2, h2⟩ : ∃ u, u = u1.alloc (.cells #[.slice ra r.length rcap] 74) := ⟨_, rfl⟩
  have z1 : u1.heap.size = w.heap.size + 1 := by rw [h1]; simp
  have b1 : Below w.heap.size w u1 := by rw [h1]; exact (Below.refl _ _).alloc (Nat.le_refl _) _
  have b2 : Below u1.heap.size u1 u2 := by rw [h2]; exact (Below.refl _ _).alloc (Nat.le_refl _) _
  have s1 : ScSlot u1 w.heap.size a cap s := by rw [h1]; exact ScSlot.new w a cap s
  have s2 : u2.heap[w.heap.size + 1]? = some (.cells #[.slice ra r.length rcap] 74 (0, 0)) := by rw [h2, ← z1]; exact heap_alloc_new _ _
  rw [← h1, ← h2]
  exact ⟨s1.below b2, s2, b1.trans (b2.mono b1.size)⟩
set_option maxRecDepth 100000 in
set_option maxHeartbeats 2000000 in
theorem refrowmay_any (w : World) (ra a : Option Addr) (rcap cap : Nat) (r : List V) (s : Sc) (hr : IsV w ra r) (ha : IsCo w a s.cs) (hrl : r.length ≤ 35184372088832) :
    Calls Try.prog 82 #[.agg #[.int .i64 s.id, .slice a s.cs.length cap, .int .i64 s.next], .agg #[.slice ra r.length rcap]] w fun e w' => e = .returned (.bool (rowB13 s.cs r)) ∧ Below w.heap.size w w' := by
  have hQ := Q2.new w a ra cap rcap s r
  obtain ⟨u, hu⟩ : ∃ u, u = ((w.alloc (.cells #[.int .i64 s.id, .slice a s.cs.length cap, .int .i64 s.next] 24)).alloc (.cells #[.slice ra r.length rcap] 74)) := ⟨_, rfl⟩
  rw [← hu] at hQ
  have HQ := Lib.hid hQ
  have hw := hu.symm
  have HA := Lib.hid ha
  have HF := Lib.hid hr
  obtain ⟨R, hR⟩ : ∃ R, R = rowB13 s.cs r := ⟨_, rfl⟩
  rw [← hR]
  have HR := Lib.hid hR
  clear hQ hu ha hr hR
  obtain ⟨b0, b1, b2⟩ := HQ.out.sc.at
  have d0 := HQ.out.row
  by_cases hb : r.length = s.cs.length
  · have HE := Lib.hid hb
    have d1 : ((r.length : Int) != (s.cs.length : Int)) = false := by rw [hb]; simp
    have HRL := Lib.hid hrl
    clear hb hrl
    go_enter Try.func82, Try.ntmps82
    go_upto_region 1 with fail
    clear hw
    go_upto_region 4 with fail
    clear d1 b0 b1 b2 d0
    go_loopw [5] (fun iv wr => ∃ n : Nat, n ≤ r.length ∧ iv = .int .i64 n ∧ Hid (∀ k, k < n → isOf (r.getD k zeroV) (s.cs.getD k zeroCo).kd = true) ∧ Hid (Q2 w wr a ra cap rcap s r)) (fun iv _ => r.length - (intOf iv).toNat)
    case atStart => exact ⟨0, Nat.zero_le _, rfl, fun k hk => absurd hk (Nat.not_lt_zero k), HQ⟩
    case round =>
      obtain ⟨n, hle, rfl, HN, HX⟩ := hrel
      have d0 := HX.out.row
      by_cases cn : n < r.length
      · have hcn : n < s.cs.length := by rw [← HE.out]; exact cn
        obtain ⟨b, off, rfl, hco⟩ := IsV.get (HF.out.below HX.out.below) cn
        obtain ⟨cb, coff, rfl, hcc⟩ := IsCo.get (HA.out.below HX.out.below) hcn
        obtain ⟨x, hx⟩ : ∃ x, x = r.getD n zeroV := ⟨_, rfl⟩
        obtain ⟨co, hkd⟩ : ∃ co, co = s.cs.getD n zeroCo := ⟨_, rfl⟩
        have HOK : Hid (isOf (r.getD n zeroV) (s.cs.getD n zeroCo).kd = (decide (plainV x = zeroV) || decide (x.k = co.kd))) := by unfold Hid isOf; rw [hx, hkd]
        rw [← hx] at hco
        rw [← hkd] at hcc
        have HVO := Lib.hid hco
        have HCO := Lib.hid hcc
        clear hx hkd hcc hco
        have T1 := Lib.hid (fun (y : World) => rnull13_any x y)
        have hni : (n : Int) < (r.length : Int) := by omega
        have hnc : (n : Int) < (s.cs.length : Int) := by omega
        have hn4 : (n : Int) < 35184372088832 := by have := HRL.out; omega
        have HCN := Lib.hid cn
        have hne : (x.k != co.kd) = !decide (x.k = co.kd) := by by_cases h : x.k = co.kd <;> simp [h]
        have HBAD : Hid ((decide (plainV x = zeroV) || decide (x.k = co.kd)) = false → R = false) := fun h => HR.out.trans (row_bad HCN.out (HOK.out.trans h))
        have HGOOD : Hid ((decide (plainV x = zeroV) || decide (x.k = co.kd)) = true → ∀ k, k < n + 1 → isOf (r.getD k zeroV) (s.cs.getD k zeroCo).kd = true) := fun h k hk => by
          rcases Nat.lt_or_ge k n with h1 | h1
          · exact HN.out k h1
          · obtain rfl : k = n := by omega
            exact HOK.out.trans h
        clear HOK
        generalize decide (plainV x = zeroV) = N0 at *
        generalize decide (x.k = co.kd) = K0 at *
        go_upto_region 6 with fail
        clear d0
        cases N0 with
        | true =>
          have HG := Lib.hid (HGOOD.out rfl)
          clear HBAD HGOOD hne
          refine region_class (fun w' => Below wr.heap.size wr w') (by kernel_rfl) (by kernel_rfl) (Below.refl _ _).drew ?_
          repeat (first
            | go_big_quiet_skip
            | (go_big_quiet_want
               go_big_quiet_op
               first
               | go_big_quiet_on
               | (apply Exists.intro
                  refine ⟨fun v1 hv1 => ?_, ?_⟩
                  (first
                    | (exact rfl)
                    | (go_at_call 106; exact (T1.out v1).mono fun e w3 ⟨he, hb⟩ => ⟨he, hv1.trans (hb.mono hv1.size)⟩)
                    | (obtain ⟨q0, q1, q2, q3⟩ := HVO.out.below hv1; simp only [q0, q1, q2, q3, Result.andThen]; exact ⟨trivial, rfl⟩)
                    | (have d0 := (HX.out.more hv1).row; simp only [d0, Result.andThen]; exact ⟨trivial, rfl⟩)
                    | (obtain ⟨b0, b1, b2⟩ := (HX.out.more hv1).sc.at; simp only [b0, b1, b2, Result.andThen]; exact ⟨trivial, rfl⟩)
                    | (obtain ⟨k0, k1, k2⟩ := HCO.out.below hv1; simp only [k0, k1, k2, Result.andThen]; exact ⟨trivial, rfl⟩)
                    | (exact ⟨trivial, rfl⟩))
                  go_big_quiet_on)))
          refine wpQuiet_nil ?_
          intro w9 hw9
          have HX9 := Lib.hid (HX.out.more hw9)
          clear hw9
          go_wp2
          go_roundw
          case rel => exact ⟨n + 1, by have := HCN.out; omega, by go_num, HG, HX9⟩
          case measure => have := HCN.out; simp [intOf]; omega
        | false =>
          cases K0 with
          | true =>
            have HG := Lib.hid (HGOOD.out rfl)
            clear HBAD HGOOD
            refine region_class (fun w' => Below wr.heap.size wr w') (by kernel_rfl) (by kernel_rfl) (Below.refl _ _).drew ?_
            repeat (first
              | go_big_quiet_skip
              | (go_big_quiet_want
                 go_big_quiet_op
                 first
                 | go_big_quiet_on
                 | (apply Exists.intro
                    refine ⟨fun v1 hv1 => ?_, ?_⟩
                    (first
                      | (exact rfl)
                      | (go_at_call 106; exact (T1.out v1).mono fun e w3 ⟨he, hb⟩ => ⟨he, hv1.trans (hb.mono hv1.size)⟩)
                      | (obtain ⟨q0, q1, q2, q3⟩ := HVO.out.below hv1; simp only [q0, q1, q2, q3, Result.andThen]; exact ⟨trivial, rfl⟩)
                      | (have d0 := (HX.out.more hv1).row; simp only [d0, Result.andThen]; exact ⟨trivial, rfl⟩)
                      | (obtain ⟨b0, b1, b2⟩ := (HX.out.more hv1).sc.at; simp only [b0, b1, b2, Result.andThen]; exact ⟨trivial, rfl⟩)
                      | (obtain ⟨k0, k1, k2⟩ := HCO.out.below hv1; simp only [k0, k1, k2, Result.andThen]; exact ⟨trivial, rfl⟩)
                      | (exact ⟨trivial, rfl⟩))
                    go_big_quiet_on)))
            refine wpQuiet_nil ?_
            intro w9 hw9
            have HX9 := Lib.hid (HX.out.more hw9)
            clear hw9
            go_wp2
            go_roundw
            case rel => exact ⟨n + 1, by have := HCN.out; omega, by go_num, HG, HX9⟩
            case measure => have := HCN.out; simp [intOf]; omega
          | false =>
            obtain rfl : R = false := HBAD.out rfl
            clear HBAD HGOOD
            refine region_class (fun w' => Below wr.heap.size wr w') (by kernel_rfl) (by kernel_rfl) (Below.refl _ _).drew ?_
            repeat (first
              | go_big_quiet_skip
              | (go_big_quiet_want
                 go_big_quiet_op
                 first
                 | go_big_quiet_on
                 | (apply Exists.intro
                    refine ⟨fun v1 hv1 => ?_, ?_⟩
                    (first
                      | (exact rfl)
                      | (go_at_call 106; exact (T1.out v1).mono fun e w3 ⟨he, hb⟩ => ⟨he, hv1.trans (hb.mono hv1.size)⟩)
                      | (obtain ⟨q0, q1, q2, q3⟩ := HVO.out.below hv1; simp only [q0, q1, q2, q3, Result.andThen]; exact ⟨trivial, rfl⟩)
                      | (have d0 := (HX.out.more hv1).row; simp only [d0, Result.andThen]; exact ⟨trivial, rfl⟩)
                      | (obtain ⟨b0, b1, b2⟩ := (HX.out.more hv1).sc.at; simp only [b0, b1, b2, Result.andThen]; exact ⟨trivial, rfl⟩)
                      | (obtain ⟨k0, k1, k2⟩ := HCO.out.below hv1; simp only [k0, k1, k2, Result.andThen]; exact ⟨trivial, rfl⟩)
                      | (exact ⟨trivial, rfl⟩))
                    go_big_quiet_on)))
            refine wpQuiet_nil ?_
            intro w9 hw9
            have HX9 := Lib.hid (HX.out.more hw9)
            clear hw9
            go_wp2
            go_ret
            exact ⟨rfl, HX9.out.below⟩
      · obtain rfl : n = r.length := by omega
        obtain rfl : R = true := HR.out.trans (row_good HE.out HN.out)
        clear cn HR
        go_wp2
        go_ret
        exact ⟨rfl, HX.out.below⟩
  · obtain rfl : R = false := HR.out.trans (row_long hb)
    have d1 : ((r.length : Int) != (s.cs.length : Int)) = true := by rw [bne_iff_ne]; omega
    clear HR hb HA HF
    go_enter Try.func82, Try.ntmps82
    go_upto_region 1 with fail
    clear hw
    go_wp2
    go_ret
    exact ⟨rfl, HQ.out.below⟩
set_option maxRecDepth 100000 in
set_option maxHeartbeats 2000000 in
theorem refalike_any (w : World) (a b : Option Addr) (ca cb : Nat) (xs ys : List V) (ha : IsV w a xs) (hb : IsV w b ys) (hx : xs.length ≤ maxLen) (hpx : ∀ v ∈ xs, plainV v = v ∧ v.s.size ≤ 9223372036854775807) (hpy : ∀ v ∈ ys, plainV v = v ∧ v.s.size ≤ 9223372036854775807) :
    Calls Try.prog 48 #[.slice a xs.length ca, .slice b ys.length cb] w fun e w' => e = .returned (.bool (decide (xs = ys))) ∧ Below w.heap.size w w' := by
  unfold maxLen at hx
  by_cases hn : xs.length = ys.length
  · obtain ⟨R, hR⟩ : ∃ R, R = decide (xs = ys) := ⟨_, rfl⟩
    rw [← hR]
    rw [← hn]
    have HN := Lib.hid hn
    have HR := Lib.hid hR
    have HA := Lib.hid ha
    have HB := Lib.hid hb
    have HPX := Lib.hid hpx
    have HPY := Lib.hid hpy
    clear hn hR ha hb hpx hpy
    go_enter Try.func48, Try.ntmps48
    go_upto_region 4 with fail
    go_loopw [5] (fun iv wr => ∃ n : Nat, n ≤ xs.length ∧ iv = .int .i64 n ∧ Hid (xs.take n = ys.take n) ∧ Hid (Below w.heap.size w wr)) (fun iv _ => xs.length - (intOf iv).toNat)
    case atStart => exact ⟨0, Nat.zero_le _, rfl, rfl, Below.refl _ _⟩
    case round =>
      obtain ⟨n, hle, rfl, HT, HX⟩ := hrel
      by_cases cn : n < xs.length
      · have cy : n < ys.length := by have := HN.out; omega
        obtain ⟨ba, oa, rfl, hva⟩ := IsV.get (HA.out.below HX.out) cn
        obtain ⟨bb, ob, rfl, hvb⟩ := IsV.get (HB.out.below HX.out) cy
        have gx : xs.getD n zeroV = xs[n] := by rw [List.getD_eq_getElem?_getD, List.getElem?_eq_getElem cn]; rfl
        have gy : ys.getD n zeroV = ys[n] := by rw [List.getD_eq_getElem?_getD, List.getElem?_eq_getElem cy]; rfl
        obtain ⟨px, sx⟩ := HPX.out _ (List.getElem_mem cn)
        obtain ⟨py, sy⟩ := HPY.out _ (List.getElem_mem cy)
        rw [gx] at hva
        rw [gy] at hvb
        have HNEXT : Hid (xs[n] = ys[n] → xs.take (n + 1) = ys.take (n + 1)) := fun h => by
          rw [← List.take_append_getElem cn, ← List.take_append_getElem cy, HT.out, h]
        have HBAD : Hid (¬ xs[n] = ys[n] → R = false) := fun h => by
          rw [HR.out]; exact decide_eq_false fun e => h (by subst e; rfl)
        have HZ : Hid (ordV xs[n] ys[n] = 0 ↔ xs[n] = ys[n]) := by unfold Hid; rw [ordV_zero, px, py]
        have T1 := Lib.hid (fun (u : World) => rcmp_any xs[n] ys[n] sx sy u)
        have HVA := Lib.hid hva
        have HVB := Lib.hid hvb
        have HCN := Lib.hid cn
        have hni : (n : Int) < (xs.length : Int) := by omega
        clear gx gy px py sx sy hva hvb
        generalize xs[n] = x at *
        generalize ys[n] = y at *
        generalize ordV x y = O at *
        go_upto_region 6 with fail
        have hO : (O != 0) = !decide (O = 0) := by by_cases h : O = 0 <;> simp [h]
        by_cases hz : O = 0
        · have HG := Lib.hid (HNEXT.out (HZ.out.1 hz))
          have hO2 : (O != 0) = false := by rw [hO, decide_eq_true hz]; rfl
          clear HBAD HNEXT HZ hz hO
          refine region_class (fun w' => Below wr.heap.size wr w') (by kernel_rfl) (by kernel_rfl) (Below.refl _ _).drew ?_
          repeat (first
            | go_big_quiet_skip
            | (go_big_quiet_want
               go_big_quiet_op
               first
               | go_big_quiet_on
               | (apply Exists.intro
                  refine ⟨fun v1 hv1 => ?_, ?_⟩
                  (first
                    | (exact rfl)
                    | (go_at_call 47; exact (T1.out v1).mono fun e w3 ⟨he, hb⟩ => ⟨he, hv1.trans (hb.mono hv1.size)⟩)
                    | (obtain ⟨q0, q1, q2, q3⟩ := HVA.out.below hv1; simp only [q0, q1, q2, q3, Result.andThen]; exact ⟨trivial, rfl⟩)
                    | (obtain ⟨q0, q1, q2, q3⟩ := HVB.out.below hv1; simp only [q0, q1, q2, q3, Result.andThen]; exact ⟨trivial, rfl⟩)
                    | (exact ⟨trivial, rfl⟩))
                  go_big_quiet_on)))
          refine wpQuiet_nil ?_
          intro w9 hw9
          have HX9 := Lib.hid (HX.out.trans (hw9.mono HX.out.size))
          clear hw9
          go_wp2
          go_roundw
          case rel => exact ⟨n + 1, by have := HCN.out; omega, by go_num, HG, HX9⟩
          case measure => have := HCN.out; simp [intOf]; omega
        · obtain rfl : R = false := HBAD.out (fun e => hz (HZ.out.2 e))
          have hO2 : (O != 0) = true := by rw [hO, decide_eq_false hz]; rfl
          clear HBAD HNEXT HZ hz hO
          refine region_class (fun w' => Below wr.heap.size wr w') (by kernel_rfl) (by kernel_rfl) (Below.refl _ _).drew ?_
          repeat (first
            | go_big_quiet_skip
            | (go_big_quiet_want
               go_big_quiet_op
               first
               | go_big_quiet_on
               | (apply Exists.intro
                  refine ⟨fun v1 hv1 => ?_, ?_⟩
                  (first
                    | (exact rfl)
                    | (go_at_call 47; exact (T1.out v1).mono fun e w3 ⟨he, hb⟩ => ⟨he, hv1.trans (hb.mono hv1.size)⟩)
                    | (obtain ⟨q0, q1, q2, q3⟩ := HVA.out.below hv1; simp only [q0, q1, q2, q3, Result.andThen]; exact ⟨trivial, rfl⟩)
                    | (obtain ⟨q0, q1, q2, q3⟩ := HVB.out.below hv1; simp only [q0, q1, q2, q3, Result.andThen]; exact ⟨trivial, rfl⟩)
                    | (exact ⟨trivial, rfl⟩))
                  go_big_quiet_on)))
          refine wpQuiet_nil ?_
          intro w9 hw9
          have HX9 := Lib.hid (HX.out.trans (hw9.mono HX.out.size))
          clear hw9
          go_wp2
          go_ret
          exact ⟨rfl, HX9.out⟩
      · obtain rfl : n = xs.length := by omega
        obtain rfl : R = true := by
          rw [HR.out]
          refine decide_eq_true ?_
          have h := HT.out
          rw [List.take_length] at h
          rw [h]
          rw [HN.out]; exact List.take_length
        clear cn
        go_wp2
        go_ret
        exact ⟨rfl, HX.out⟩
  · rw [decide_eq_false (fun e => hn (by rw [e]))]
    have d1 : ((xs.length : Int) != (ys.length : Int)) = true := by rw [bne_iff_ne]; omega
    go_enter Try.func48, Try.ntmps48
    go_wp2
    go_ret
    exact ⟨rfl, Below.refl _ _⟩
end Go.Proofs.Ythfakpekdjmpjaa

namespace Go.Proofs.Ythfakpekdjmpjaa
open Go.Conc Go.RowKit
set_option linter.unusedVariables false
set_option linter.unusedSimpArgs false

def NewV (N : Nat) (z : V) (v : Value) (w : World) : Prop := ∃ g, v = .pointer (some ⟨g, 0, none⟩) ∧ N ≤ g ∧ Slot w g z
theorem NewV.below {N : Nat} {z : V} (v : Value) (w w' : World) (h : NewV N z v w) (hb : Below w.heap.size w w') : NewV N z v w' := by
  obtain ⟨g, h1, h2, h3⟩ := h
  exact ⟨g, h1, h2, h3.below hb⟩
theorem exec_new_val (o : Oper) (ho : o.op = .alloc 57) (ev : Operand → Value) (w : World) : (execOp ev o).run Try.prog w = .ok (.value (.pointer (some ⟨w.heap.size, 0, none⟩))) (w.alloc (.cells #[.int .i64 0, .int .i64 0, .bool false, .string ⟨#[]⟩] 57)) := by
  unfold execOp
  simp only [ho]
  go_simp

def relNewV (base : Nat) : Rel := ⟨fun v => ∃ g, v = .pointer (some ⟨g, 0, none⟩), fun v w => ∀ g, v = .pointer (some ⟨g, 0, none⟩) → base ≤ g ∧ Slot w g ⟨0, 0, false, ⟨#[]⟩⟩⟩
theorem relNewV_ok (base : Nat) : (relNewV base).Ok := ⟨⟨_, 0, rfl⟩, fun v w w' h hb g e => ⟨(h g e).1, (h g e).2.below hb⟩⟩
theorem rel_newV {u w : World} (hu : Below u.heap.size u w) : relUpon Try.prog (fun w' => Below u.heap.size u w') (relNewV u.heap.size) w (.ok (.value (.pointer (some ⟨w.heap.size, 0, none⟩))) (w.alloc (.cells #[.int .i64 0, .int .i64 0, .bool false, .string ⟨#[]⟩] 57))) :=
  ⟨hu.alloc hu.size _, (Below.refl _ _).alloc (Nat.le_refl _) _, ⟨_, rfl⟩, fun g e => by
    have : w.heap.size = g := by simpa using e
    subst this
    exact ⟨hu.size, Slot.new w ⟨0, 0, false, ⟨#[]⟩⟩⟩⟩
def tup2 (x y : Value) : Value := .tuple #[x, y]
theorem snd_val {P : Program} {ops : Array Oper} {b : Act} {v : Value} {k : Nat} {x y : Value} (o : Oper) (ho : o.op = .extract (.tmp k) 1) (hg : o.guard = none) (hk : k < b.tmps.size) (hv : (relVal (tup2 x y)).U v) : Yields P ops o (snd2 v) (b.put (some k) v) := by
  obtain rfl : v = tup2 x y := hv
  exact yields_snd o ho hg hk
/-- What the document's Part has behind n fields. -/
structure RPL (w v wr : World) (fa a ra : Option Addr) (fcap cap rcap : Nat) (p : Sp) (s : Sc) (r D xs : List V) (n : Nat) (ao : Option Addr) (co : Nat) : Prop where
  is : xs = D.take n
  own : OwnV v.heap.size wr ao co xs
  p3 : P3 w wr fa a ra fcap cap rcap p s r
  low : w.heap.size + 1 + 1 < v.heap.size
  below : Below v.heap.size v wr
section
variable {w v wr w' : World} {fa a ra ao ao' : Option Addr} {fcap cap rcap n co co' : Nat} {p : Sp} {s : Sc} {r D xs : List V}
theorem RPL.more (h : RPL w v wr fa a ra fcap cap rcap p s r D xs n ao co) (hb : Below wr.heap.size wr w') : RPL w v w' fa a ra fcap cap rcap p s r D xs n ao co :=
  ⟨h.is, h.own.below hb, h.p3.more hb, h.low, h.below.trans (hb.mono h.below.size)⟩
theorem P3.frm {F : Nat → Prop} (h : P3 w wr fa a ra fcap cap rcap p s r) (hf : Frm F wr w') {N : Nat} (hN : w.heap.size + 1 + 1 < N) (hF : ∀ k, F k → N ≤ k) : P3 w w' fa a ra fcap cap rcap p s r := by
  have e : ∀ k, k ≤ w.heap.size + 1 + 1 → k < wr.heap.size → w'.heap[k]? = wr.heap[k]? := fun k h1 h2 => hf.block k h2 fun hk => by have := hF k hk; omega
  refine ⟨⟨by rw [e _ (by omega) h.sp.lt]; exact h.sp.b⟩, h.sc.same (e _ (by omega) h.sc.lt), by rw [e _ (by omega) (Array.getElem?_eq_some_iff.1 h.ro).1]; exact h.ro, Frm.to_below h.below hf (fun k hk => by have := hF k hk; omega) (Nat.le_refl _)⟩
/-- A block of its own is written. -/
theorem RPL.frm {F : Nat → Prop} (h : RPL w v wr fa a ra fcap cap rcap p s r D xs n ao co) (hf : Frm F wr w') (hF : ∀ k, F k → v.heap.size ≤ k ∧ ¬ At ao k) : RPL w v w' fa a ra fcap cap rcap p s r D xs n ao co :=
  ⟨h.is, h.own.frm hf fun k hk _ e => (hF k e).2 hk, h.p3.frm hf h.low fun k hk => (hF k hk).1, h.low, Frm.to_below h.below hf (fun k hk => (hF k hk).1) (Nat.le_refl _)⟩
theorem RPL.put (h : RPL w v wr fa a ra fcap cap rcap p s r D xs n ao co) {x : V} (hx : D.take (n + 1) = D.take n ++ [x]) (ho : OwnV v.heap.size w' ao' co' (xs ++ [x])) (hf : Frm (At ao) wr w') : RPL w v w' fa a ra fcap cap rcap p s r D (xs ++ [x]) (n + 1) ao' co' :=
  ⟨by rw [h.is, hx], ho, h.p3.frm hf h.low fun k hk => (h.own.at_ge hk).1, h.low, Frm.to_below h.below hf (fun k hk => (h.own.at_ge hk).1) (Nat.le_refl _)⟩
end
set_option maxRecDepth 100000 in
set_option maxHeartbeats 8000000 in
theorem refpart_any (w : World) (fa a ra : Option Addr) (fcap cap rcap : Nat) (p : Sp) (s : Sc) (r : List V) (hf : IsFd w fa p.fs) (ha : IsCo w a s.cs) (hl : s.cs.length ≤ maxLen) (hr : IsV w ra r) (hrl : r.length ≤ 35184372088832)
    (hv : ∀ v ∈ r, (-9223372036854775808 ≤ v.i ∧ v.i < 9223372036854775808) ∧ v.s.size ≤ 140737488355328) :
    Calls Try.prog 38 #[.agg #[.int .i64 p.id, .slice fa p.fs.length fcap], .agg #[.int .i64 s.id, .slice a s.cs.length cap, .int .i64 s.next], .agg #[.slice ra r.length rcap]] w fun e w' => ∃ ao co, e = .returned (.tuple #[.slice ao (partA p s r).1.length co, .int .i64 (partA p s r).2]) ∧ OwnV w.heap.size w' ao co (partA p s r).1 ∧ Below w.heap.size w w' := by
  have hP := P3.new w fa a ra fcap cap rcap p s r
  obtain ⟨u, hu⟩ : ∃ u, u = (((w.alloc (.cells #[.int .i64 p.id, .slice fa p.fs.length fcap] 65)).alloc (.cells #[.int .i64 s.id, .slice a s.cs.length cap, .int .i64 s.next] 24)).alloc (.cells #[.slice ra r.length rcap] 74)) := ⟨_, rfl⟩
  have hus : w.heap.size + 1 + 1 < u.heap.size := by rw [hu]; simp
  rw [← hu] at hP
  have HP := Lib.hid hP
  have T0 := Lib.hid (refspecmay_any u fa a fcap cap p s (hf.below hP.below) (ha.below hP.below) hl)
  have T1 := Lib.hid (fun (x : World) (hx : Below w.heap.size w x) => refrowmay_any x ra a rcap cap r s (hr.below hx) (ha.below hx) hrl)
  have go : ∀ (M : Bool), maySp p s = M → ∀ (B : Bool), rowB13 s.cs r = B →
    Calls Try.prog 38 #[.agg #[.int .i64 p.id, .slice fa p.fs.length fcap], .agg #[.int .i64 s.id, .slice a s.cs.length cap, .int .i64 s.next], .agg #[.slice ra r.length rcap]] w fun e w' => ∃ ao co, e = .returned (.tuple #[.slice ao (partA p s r).1.length co, .int .i64 (partA p s r).2]) ∧ OwnV w.heap.size w' ao co (partA p s r).1 ∧ Below w.heap.size w w' := by
    intro M hM B hB
    rw [hM] at T0
    rw [hB] at T1
    cases M with
    | false =>
      rw [partA_no (by rw [hM]; rfl)]
      clear hM hB hf ha hl hr hrl hv hP T1 hus
      go_enter Try.func38, Try.ntmps38
      go_upto_region 1 with fail
      change Code.wp _ _ _ _ (((w.alloc (.cells #[.int .i64 p.id, .slice fa p.fs.length fcap] 65)).alloc (.cells #[.int .i64 s.id, .slice a s.cs.length cap, .int .i64 s.next] 24)).alloc (.cells #[.slice ra r.length rcap] 74))
      rw [← hu]
      clear hu
      obtain ⟨c0, c1⟩ := HP.out.sp.at
      obtain ⟨b0, b1, b2⟩ := HP.out.sc.at
      go_wp2_with (go_at_call 36; refine T0.out.mono ?_; rintro e w1 ⟨rfl, hb⟩; have HP1 := Lib.hid (HP.out.more hb); clear hb c0 c1 b0 b1 b2)
      go_ret2
      exact ⟨none, 0, rfl, OwnV.nil _ _, HP1.out.below⟩
    | true =>
      cases B with
      | false =>
        rw [partA_no (by rw [hM, hB]; rfl)]
        clear hM hB hf ha hl hr hrl hv hP hus
        go_enter Try.func38, Try.ntmps38
        go_upto_region 1 with fail
        change Code.wp _ _ _ _ (((w.alloc (.cells #[.int .i64 p.id, .slice fa p.fs.length fcap] 65)).alloc (.cells #[.int .i64 s.id, .slice a s.cs.length cap, .int .i64 s.next] 24)).alloc (.cells #[.slice ra r.length rcap] 74))
        rw [← hu]
        clear hu
        obtain ⟨c0, c1⟩ := HP.out.sp.at
        obtain ⟨b0, b1, b2⟩ := HP.out.sc.at
        go_wp2_with (first
          | (go_at_call 36; refine T0.out.mono ?_; rintro e w1 ⟨rfl, hb⟩; have HP1 := Lib.hid (HP.out.more hb); clear hb c0 c1 b0 b1 b2 T0; obtain ⟨b0, b1, b2⟩ := HP1.out.sc.at; have d0 := HP1.out.row)
          | (go_at_call 82; refine (T1.out _ HP1.out.below).mono ?_; rintro e w2 ⟨rfl, hb⟩; have HP2 := Lib.hid (HP1.out.more hb); clear hb b0 b1 b2 d0))
        go_ret2
        exact ⟨none, 0, rfl, OwnV.nil _ _, HP2.out.below⟩
      | true =>
        obtain ⟨h4, hpre⟩ := part_pre hM hB
        rw [partA_yes hM hB]
        have HPRE := Lib.hid hpre
        have HV := Lib.hid hv
        have HF := Lib.hid hf
        have HA := Lib.hid ha
        have HRW := Lib.hid hr
        have HL := Lib.hid hl
        have HUS := Lib.hid hus
        have H4 := Lib.hid h4
        obtain ⟨D, hD⟩ : ∃ D, D = partL p.fs s.cs r := ⟨_, rfl⟩
        rw [← hD]
        have HD := Lib.hid hD
        have HDL : Hid (D.length = p.fs.length) := by unfold Hid; rw [hD, partL_length]
        clear hM hB hf ha hl hr hrl hv hP h4 hpre hus hD
        go_enter Try.func38, Try.ntmps38
        go_upto_region 1 with fail
        change Code.wp _ _ _ _ (((w.alloc (.cells #[.int .i64 p.id, .slice fa p.fs.length fcap] 65)).alloc (.cells #[.int .i64 s.id, .slice a s.cs.length cap, .int .i64 s.next] 24)).alloc (.cells #[.slice ra r.length rcap] 74))
        rw [← hu]
        clear hu
        obtain ⟨c0, c1⟩ := HP.out.sp.at
        obtain ⟨b0, b1, b2⟩ := HP.out.sc.at
        go_upto_region 3 with (first
          | (go_at_call 36; refine T0.out.mono ?_; rintro e w1 ⟨rfl, hb⟩; have HP1 := Lib.hid (HP.out.more hb); have HS1 := Lib.hid hb.size; clear hb c0 c1 b0 b1 b2 T0; obtain ⟨b0, b1, b2⟩ := HP1.out.sc.at; have d0 := HP1.out.row)
          | (go_at_call 82; refine (T1.out _ HP1.out.below).mono ?_; rintro e v ⟨rfl, hb⟩; have HP2 := Lib.hid (HP1.out.more hb); have HS2 := Lib.hid hb.size; clear hb b0 b1 b2 d0 T1))
        have HPL : Hid (RPL w v v fa a ra fcap cap rcap p s r D [] 0 none 0) := ⟨rfl, OwnV.nil _ _, HP2.out, by have h1 := HUS.out; have h2 := HS1.out; have h3 := HS2.out; omega, Below.refl _ _⟩
        clear HS1 HS2 HUS HP HP1
        go_upto_region 5 with fail
        go_loopw [8, 9] (fun ov iv wr => ∃ (n co : Nat) (ao : Option Addr) (xs : List V), n ≤ p.fs.length ∧ ov = .slice ao xs.length co ∧ iv = .int .i64 n ∧ Hid (RPL w v wr fa a ra fcap cap rcap p s r D xs n ao co)) (fun _ iv _ => p.fs.length - (intOf iv).toNat)
        case atStart => exact ⟨0, 0, none, [], Nat.zero_le _, rfl, rfl, HPL⟩
        case round =>
          obtain ⟨n, co, ao, xs, hle, rfl, rfl, HX⟩ := hrel
          obtain ⟨c0, c1⟩ := HX.out.p3.sp.at
          by_cases cn : n < p.fs.length
          · have hfb := HF.out.below HX.out.p3.below
            rcases hfb with e | ⟨b, off, rfl, hcc⟩
            · rw [e] at cn; simp at cn
            have hfn := hcc n cn
            obtain ⟨j, hj, hjr, htk⟩ := HPRE.out n cn
            obtain ⟨rb, roff, rfl, hval⟩ := IsV.get (HRW.out.below HX.out.p3.below) hjr
            obtain ⟨vi, vs⟩ := HV.out (r.getD j zeroV) (by rw [List.getD_eq_getElem?_getD, List.getElem?_eq_getElem hjr]; exact List.getElem_mem hjr)
            have hDn : D.take (n + 1) = D.take n ++ [madeV p.fs[n] (r.getD j zeroV)] := by
              have hn : n < D.length := by rw [HDL.out]; exact cn
              rw [← List.take_append_getElem hn]
              congr 2
              have e : D[n] = (partL p.fs s.cs r)[n]'(by rw [← HD.out]; exact hn) := by congr 1
              rw [e]
              unfold partL
              simp only [List.getElem_map, hj, Int.toNat_natCast]
            have hap : applyA p.fs[n] (r.getD j zeroV) = (madeV p.fs[n] (r.getD j zeroV), 0) := by unfold applyA; rw [htk, if_neg (by simp)]
            have HDN := Lib.hid hDn
            have HSZ : Hid (xs.length ≤ 3518437208882) := by unfold Hid; rw [HX.out.is, List.length_take]; have := H4.out; omega
            have T2 := Lib.hid (fun (x : World) (hx : Below wr.heap.size wr x) => refbyid_any x a cap s p.fs[n].src (HA.out.below (HX.out.more hx).p3.below) HL.out)
            have T3 := Lib.hid (fun (x : World) => refapply_any p.fs[n] (r.getD j zeroV) vi vs x)
            rw [hj] at T2
            rw [hap] at T3
            have HFN := Lib.hid hfn
            have HVA := Lib.hid hval
            have hni : (n : Int) < (p.fs.length : Int) := by omega
            have hn4 : (n : Int) < 4 := by have := H4.out; omega
            have hji : (j : Int) < (r.length : Int) := by omega
            have HCN := Lib.hid cn
            clear hcc hfn hval hj htk vi vs hDn hap
            generalize madeV p.fs[n] (r.getD j zeroV) = M at *
            generalize r.getD j zeroV = x at *
            generalize p.fs[n] = f at *
            go_upto_region 7 with fail
            clear c0 c1
            have HGE := Lib.hid HX.out.below.size
            refine region_glue (fun w' => Below wr.heap.size wr w') 22 18 20 snd2 _ _ [0, 1, 2, 3, 4, 5, 6, 7, 8, 9, 10, 11, 12, 13, 14, 15, 16, 17, 18, 19, 21] [(14, relVal (.int .i64 (j : Int))), (17, relVal (tup2 (.agg #[.int .i64 M.k, .int .i64 M.i, .bool M.b, .string M.s]) (.int .i64 0))), (18, relVal (tup2 (.agg #[.int .i64 M.k, .int .i64 M.i, .bool M.b, .string M.s]) (.int .i64 0))), (21, relNewV wr.heap.size)] [] (by kernel_rfl) (by kernel_rfl) rfl rfl rfl (fun R hR b v hb hu => ?_) (fun _ _ _ _ h => h) (by kernel_rfl) (ok_cons (relVal_ok _) (ok_cons (relVal_ok _) (ok_cons (relVal_ok _) (ok_cons (relNewV_ok _) ok_nil)))) (Below.refl _ _).drew (fun w1 w2 h1 h2 => h1.trans (h2.mono h1.size)) ?_
            · cases hR
              exact snd_val _ rfl rfl (by rw [hb]; exact of_decide_eq_true rfl) hu
            refine wpRelG_segL [0, 1, 2, 3, 4, 5, 6, 7, 8, 9, 10, 11, 12, 13] (fun l => (l.take 14).drop 0) rfl (by kernel_rfl) (by kernel_rfl) (by kernel_rfl) ?_
            simp only [List.take_succ_cons, List.take_zero, List.drop_succ_cons, List.drop_zero]
            repeat (
              first
              | go_big_quiet_skip
              | (go_big_quiet_want
                 go_big_quiet_op
                 first
                 | go_big_quiet_on
                 | (apply Exists.intro
                    refine ⟨fun v1 hv1 => ?_, ?_⟩
                    · (first
                      | (exact rfl)
                      | (obtain ⟨q0, q1, q2⟩ := HFN.out.below hv1; simp only [q0, q1, q2, Result.andThen]; exact ⟨trivial, rfl⟩)
                      | (obtain ⟨c0, c1⟩ := (HX.out.more hv1).p3.sp.at; simp only [c0, c1, Result.andThen]; exact ⟨trivial, rfl⟩)
                      | (obtain ⟨b0, b1, b2⟩ := (HX.out.more hv1).p3.sc.at; simp only [b0, b1, b2, Result.andThen]; exact ⟨trivial, rfl⟩)
                      | (have d0 := (HX.out.more hv1).p3.row; simp only [d0, Result.andThen]; exact ⟨trivial, rfl⟩)
                      | (obtain ⟨q0, q1, q2, q3⟩ := HVA.out.below hv1; simp only [q0, q1, q2, q3, Result.andThen]; exact ⟨trivial, rfl⟩)
                      | (exact ⟨trivial, rfl⟩))
                    go_big_quiet_on)))
            refine wpQuiet_nil ?_
            refine wpRelG_rel (k := 14) rfl rfl (by decide) rfl (fun w5 hw5 => ?_) (fun v hv => ?_)
            · go_simp
              refine ⟨rfl, (T2.out w5 hw5.1).mono ?_⟩
              rintro e w6 ⟨rfl, hb⟩
              exact ⟨_, rfl, hw5.1.trans (hb.mono hw5.1.size), hb, rfl, trivial⟩
            obtain rfl : v = .int .i64 (j : Int) := hv
            simp only [Act.put, tup2, snd2_two, List.getElem_toArray, List.getElem_cons_succ, List.getElem_cons_zero, List.setIfInBounds_toArray, List.set_cons_succ, List.set_cons_zero]
            refine wpRelG_segL [15, 16] (fun l => (l.take 17).drop 15) rfl (by kernel_rfl) (by kernel_rfl) (by kernel_rfl) ?_
            simp only [List.take_succ_cons, List.take_zero, List.drop_succ_cons, List.drop_zero]
            repeat (
              first
              | go_big_quiet_skip
              | (go_big_quiet_want
                 go_big_quiet_op
                 first
                 | go_big_quiet_on
                 | (apply Exists.intro
                    refine ⟨fun v1 hv1 => ?_, ?_⟩
                    · (first
                      | (exact rfl)
                      | (obtain ⟨q0, q1, q2⟩ := HFN.out.below hv1; simp only [q0, q1, q2, Result.andThen]; exact ⟨trivial, rfl⟩)
                      | (obtain ⟨c0, c1⟩ := (HX.out.more hv1).p3.sp.at; simp only [c0, c1, Result.andThen]; exact ⟨trivial, rfl⟩)
                      | (obtain ⟨b0, b1, b2⟩ := (HX.out.more hv1).p3.sc.at; simp only [b0, b1, b2, Result.andThen]; exact ⟨trivial, rfl⟩)
                      | (have d0 := (HX.out.more hv1).p3.row; simp only [d0, Result.andThen]; exact ⟨trivial, rfl⟩)
                      | (obtain ⟨q0, q1, q2, q3⟩ := HVA.out.below hv1; simp only [q0, q1, q2, q3, Result.andThen]; exact ⟨trivial, rfl⟩)
                      | (exact ⟨trivial, rfl⟩))
                    go_big_quiet_on)))
            refine wpQuiet_nil ?_
            refine wpRelG_rel (k := 17) rfl rfl (by decide) rfl (fun w5 hw5 => ?_) (fun v hv => ?_)
            · go_simp
              refine ⟨rfl, (T3.out w5).mono ?_⟩
              rintro e w6 ⟨rfl, hb⟩
              exact ⟨_, rfl, hw5.1.trans (hb.mono hw5.1.size), hb, rfl, trivial⟩
            obtain rfl : v = tup2 (.agg #[.int .i64 M.k, .int .i64 M.i, .bool M.b, .string M.s]) (.int .i64 0) := hv
            simp only [Act.put, tup2, snd2_two, List.getElem_toArray, List.getElem_cons_succ, List.getElem_cons_zero, List.setIfInBounds_toArray, List.set_cons_succ, List.set_cons_zero]
            refine wpRelG_glued (p := 18) rfl rfl rfl (fun w5 hw5 => ?_) (fun v hv => ?_)
            · go_simp
              exact ⟨hw5.1, Below.refl _ _, rfl, trivial⟩
            obtain rfl : v = tup2 (.agg #[.int .i64 M.k, .int .i64 M.i, .bool M.b, .string M.s]) (.int .i64 0) := hv
            simp only [Act.put, tup2, snd2_two, List.getElem_toArray, List.getElem_cons_succ, List.getElem_cons_zero, List.setIfInBounds_toArray, List.set_cons_succ, List.set_cons_zero]
            refine wpRelG_segL [19] (fun l => (l.take 20).drop 19) rfl (by kernel_rfl) (by kernel_rfl) (by kernel_rfl) ?_
            simp only [List.take_succ_cons, List.take_zero, List.drop_succ_cons, List.drop_zero]
            repeat (
              first
              | go_big_quiet_skip
              | (go_big_quiet_want
                 go_big_quiet_op
                 first
                 | go_big_quiet_on
                 | (apply Exists.intro
                    refine ⟨fun v1 hv1 => ?_, ?_⟩
                    · (first
                      | (exact rfl)
                      | (exact ⟨trivial, rfl⟩))
                    go_big_quiet_on)))
            refine wpQuiet_nil ?_
            refine wpRelG_rel (k := 21) rfl rfl (by decide) rfl (fun w5 hw5 => ?_) (fun v hv => ?_)
            · go_simp
              exact rel_newV hw5.1
            obtain ⟨g, rfl⟩ := hv
            simp only [Act.put, tup2, snd2_two, List.getElem_toArray, List.getElem_cons_succ, List.getElem_cons_zero, List.setIfInBounds_toArray, List.set_cons_succ, List.set_cons_zero]
            refine wpRelG_nil ?_
            intro w1 hw1 hF
            have hgs := (show (relNewV wr.heap.size).V (.pointer (some ⟨g, 0, none⟩)) w1 from hF 21) g rfl
            obtain ⟨hg, hs⟩ := hgs
            clear hF
            have hng : ¬ At ao g := fun hk => by have := (HX.out.own.at_ge hk).2; omega
            have hgv : v.heap.size ≤ g := by have := HGE.out; omega
            have hx1 := (HX.out.more hw1).frm (Frm.chain (u := w1) (F := fun k => k = g) rfl M) (fun k hk => ⟨by omega, by rw [hk]; exact hng⟩)
            have hs3 := hs.store M
            obtain ⟨⟨z0, z1, z2, z3⟩, y0, y1, y2, y3⟩ := hs.at
            simp only at z0 z1 z2 z3
            have HX3 := Lib.hid hx1
            have HS3 := Lib.hid hs3
            have HXP := Lib.hid (fun (wr' w' : World) (ao' : Option Addr) (co' : Nat) (h : RPL w v wr' (some ⟨b, off, none⟩) a (some ⟨rb, roff, none⟩) fcap cap rcap p s r D xs n ao co) ho hf => h.put (w' := w') (ao' := ao') (co' := co') HDN.out ho hf)
            clear hw1 hg hs hng hgv hx1 hs3 HX HFN HVA HGE T2 T3
            go_upto_region 8 with fail
            change Code.wp _ _ _ _ (putV w1 g M)
            change Hid (RPL w v (putV w1 g M) _ _ _ _ _ _ _ _ _ _ _ _ _ _) at HX3
            change Hid (Slot (putV w1 g M) g M) at HS3
            generalize putV w1 g M = w3 at *
            clear z0 z1 z2 z3 y0 y1 y2 y3
            obtain ⟨⟨z0, z1, z2, z3⟩, _⟩ := HS3.out.at
            go_wp2_with (at_builtin; refine wp_val HX3.out.own HX3.out.below.size HSZ.out rfl _ _ rfl M rfl rfl ?_; intro av' cv' u6 ho hf _; have HFIN := Lib.hid (HXP.out _ _ _ _ HX3.out ho hf); clear ho hf)
            refine ⟨⟨n + 1, cv', av', xs ++ [M], by have := HCN.out; omega, by simp, by go_num, HFIN⟩, by have := HCN.out; simp [intOf]; omega⟩
          · obtain rfl : n = p.fs.length := by omega
            have hxD : xs = D := by rw [HX.out.is, ← HDL.out]; exact List.take_length
            subst hxD
            clear cn hle
            go_wp2
            go_ret2
            exact ⟨ao, co, rfl, HX.out.own.lower (by have := HX.out.low; omega), HX.out.p3.below⟩
  exact go _ rfl _ rfl
end Go.Proofs.Ythfakpekdjmpjaa
