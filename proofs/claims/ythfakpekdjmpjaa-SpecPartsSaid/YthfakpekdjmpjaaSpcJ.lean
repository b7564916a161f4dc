/- The program's specs: May. The program's specs: whether a table may hold a row. -/
import Derived.Test.YthfakpekdjmpjaaSpm2
import Derived.BigQuiet
namespace Go.Proofs.Ythfakpekdjmpjaa
open Go.Conc Go.RowKit
set_option linter.unusedVariables false
set_option linter.unusedSimpArgs false

/-- A variable of type Spec. -/
structure SpSlot (w : World) (g : Nat) (a : Option Addr) (c : Nat) (p : Sp) : Prop where
  b : w.heap[g]? = some (.cells #[.int .i64 p.id, .slice a p.fs.length c] 65 (0, 0))
theorem SpSlot.at {w : World} {g : Nat} {a : Option Addr} {c : Nat} {p : Sp} (h : SpSlot w g a c p) : w.cell? ⟨g, 0, none⟩ = some (.int .i64 p.id) ∧ w.cell? ⟨g, 1, none⟩ = some (.slice a p.fs.length c) := by
  refine ⟨?_, ?_⟩ <;> (rw [cell_of_row _ _ _ _ _ _ h.b]; rfl)
theorem SpSlot.lt {w : World} {g : Nat} {a : Option Addr} {c : Nat} {p : Sp} (h : SpSlot w g a c p) : g < w.heap.size := (Array.getElem?_eq_some_iff.1 h.b).1
theorem SpSlot.below {w w' : World} {g : Nat} {a : Option Addr} {c : Nat} {p : Sp} (h : SpSlot w g a c p) (hb : Below w.heap.size w w') : SpSlot w' g a c p := ⟨by rw [hb.block g h.lt]; exact h.b⟩
theorem SpSlot.new (w : World) (a : Option Addr) (c : Nat) (p : Sp) : SpSlot (w.alloc (.cells #[.int .i64 p.id, .slice a p.fs.length c] 65)) w.heap.size a c p := ⟨heap_alloc_new w _⟩
theorem okfd_at {cs : List Co} {fs : List Fd} {n : Nat} (cn : n < fs.length) : okFd cs fs n = (standB fs[n] cs && !((fs.take n).any (likeF fs[n]))) := by
  unfold okFd
  rw [show fs.getD n zeroFd = fs[n] by rw [List.getD_eq_getElem?_getD, List.getElem?_eq_getElem cn]; rfl]
set_option maxRecDepth 100000 in
set_option maxHeartbeats 2000000 in
theorem spmay_any (w : World) (fa a : Option Addr) (fcap cap : Nat) (p : Sp) (s : Sc) (hf : IsFd w fa p.fs) (hfc : p.fs.length ≤ fcap) (ha : IsCo w a s.cs) (hl : s.cs.length ≤ maxLen) (hcap : s.cs.length ≤ cap) :
    Calls Try.prog 35 #[.agg #[.int .i64 p.id, .slice fa p.fs.length fcap], .agg #[.int .i64 s.id, .slice a s.cs.length cap, .int .i64 s.next]] w fun e w' => e = .returned (.bool (maySp p s)) ∧ Below w.heap.size w w' := by
  obtain ⟨u, hu⟩ : ∃ u, u = w.alloc (.cells #[.int .i64 p.id, .slice fa p.fs.length fcap] 65) := ⟨_, rfl⟩
  obtain ⟨v, hv⟩ : ∃ v, v = u.alloc (.cells #[.int .i64 s.id, .slice a s.cs.length cap, .int .i64 s.next] 24) := ⟨_, rfl⟩
  have hb1 : Below w.heap.size w u := by rw [hu]; exact (Below.refl _ _).alloc (Nat.le_refl _) _
  have hb2 : Below u.heap.size u v := by rw [hv]; exact (Below.refl _ _).alloc (Nat.le_refl _) _
  have hsz : u.heap.size = w.heap.size + 1 := by rw [hu]; simp
  have HS : Hid (ScSlot v u.heap.size a cap s) := show ScSlot v u.heap.size a cap s by rw [hv]; exact ScSlot.new u a cap s
  rw [hsz] at HS
  have HP : Hid (SpSlot v w.heap.size fa fcap p) := (show SpSlot u w.heap.size fa fcap p by rw [hu]; exact SpSlot.new w fa fcap p).below hb2
  have HB := Lib.hid (hb1.trans (hb2.mono hb1.size))
  have HA := Lib.hid (ha.below HB.out)
  have HF := Lib.hid (hf.below HB.out)
  have hw : (w.alloc (.cells #[.int .i64 p.id, .slice fa p.fs.length fcap] 65)).alloc (.cells #[.int .i64 s.id, .slice a s.cs.length cap, .int .i64 s.next] 24) = v := by rw [hv, hu]
  have T0 := Lib.hid (schmay_any v a cap s HA.out hl hcap)
  obtain ⟨R, hR⟩ : ∃ R, R = maySp p s := ⟨_, rfl⟩
  rw [← hR]
  have HR := Lib.hid hR
  have HL := Lib.hid hl
  have HFC := Lib.hid hfc
  obtain ⟨b0, b1, b2⟩ := HS.out.at
  obtain ⟨c0, c1⟩ := HP.out.at
  clear hR hu hv hb1 hb2 hsz ha hf hl hcap hfc
  obtain ⟨M, hM⟩ : ∃ M, M = maySc s := ⟨_, rfl⟩
  rw [← hM] at T0
  have HM := Lib.hid hM
  clear hM
  by_cases hb : bndSp p = true
  · have hb2 := hb
    unfold bndSp at hb2
    rw [decide_eq_true_eq] at hb2
    have d1 : decide (p.id < 0) = false := decide_eq_false (by omega)
    have d2 : decide (2147483647 < p.id) = false := decide_eq_false (by omega)
    have d3 : decide ((4 : Int) < (p.fs.length : Int)) = false := decide_eq_false (by omega)
    have HBN := Lib.hid hb
    have HB2 := Lib.hid hb2
    clear hb hb2
    cases M with
    | false =>
      obtain rfl : R = false := HR.out.trans (maysp_no (.inr HM.out.symm))
      clear HR
      go_enter Try.func35, Try.ntmps35
      go_upto_region 1 with fail
      clear hw
      go_wp2_with (go_at_call 20; refine T0.out.mono ?_; rintro e w1 ⟨rfl, hb⟩; have HB1 := Lib.hid (HB.out.trans (hb.mono HB.out.size)); clear hb)
      go_ret
      exact ⟨rfl, HB1.out⟩
    | true =>
      go_enter Try.func35, Try.ntmps35
      go_upto_region 1 with fail
      clear hw
      go_upto_region 3 with (go_at_call 20; refine T0.out.mono ?_; rintro e w1 ⟨rfl, hb⟩; have HX0 := Lib.hid hb; clear hb)
      clear d1 d2 d3 b0 b1 b2 c0 c1 T0
      obtain ⟨b0, b1, b2⟩ := (HS.out.below HX0.out).at
      obtain ⟨c0, c1⟩ := (HP.out.below HX0.out).at
      go_upto_region 4 with fail
      clear b0 b1 b2 c0 c1
      go_loopw [29] (fun iv wr => ∃ n : Nat, n ≤ p.fs.length ∧ iv = .int .i64 n ∧ Hid (∀ k, k < n → okFd s.cs p.fs k = true) ∧ Hid (Below v.heap.size v wr)) (fun iv _ => p.fs.length - (intOf iv).toNat)
      case atStart => exact ⟨0, Nat.zero_le _, rfl, fun k hk => absurd hk (Nat.not_lt_zero k), HX0⟩
      case round =>
        obtain ⟨n, hle, rfl, HN, HX⟩ := hrel
        by_cases cn : n < p.fs.length
        · have hac := HF.out.below HX.out
          have htk := hac.take n
          rcases hac with e | ⟨b, off, rfl, hcc⟩
          · rw [e] at cn; simp at cn
          have hco := hcc n cn
          obtain ⟨p0, p1, p2⟩ := hco
          have hok := okfd_at (cs := s.cs) cn
          have htl : (p.fs.take n).length = n := by rw [List.length_take]; omega
          have HOK := Lib.hid hok
          obtain ⟨w2, hw2⟩ : ∃ w2, w2 = wr.alloc (.cells #[.int .i64 p.fs[n].src, .int .i64 p.fs[n].tr, .int .i64 p.fs[n].par] 55) := ⟨_, rfl⟩
          have hb2 : Below wr.heap.size wr w2 := by rw [hw2]; exact (Below.refl _ _).alloc (Nat.le_refl _) _
          have HCO := Lib.hid (show FdAt w2 wr.heap.size 0 p.fs[n] by rw [hw2]; exact FdAt.new wr p.fs[n])
          have HX2 := Lib.hid (HX.out.trans (hb2.mono HX.out.size))
          have T1 := Lib.hid (fun (x : World) (hx : Below w2.heap.size w2 x) => spstand_any p.fs[n] x a cap s ((HA.out.below HX2.out).below hx) HL.out)
          have T2 := Lib.hid (fun (x : World) (hx : Below w2.heap.size w2 x) => splike_any p.fs[n] x (some ⟨b, off, none⟩) fcap (p.fs.take n) ((htk.below hb2).below hx) (by rw [htl]; have := HB2.out; unfold maxLen; omega))
          rw [htl] at T2
          have hni : (n : Int) < (p.fs.length : Int) := by omega
          have hnc : (n : Int) ≤ (fcap : Int) := by have := HFC.out; omega
          have hnc2 : n ≤ fcap := by have := HFC.out; omega
          have hn4 : (n : Int) < 4 := by have := HB2.out; omega
          have HCN := Lib.hid cn
          clear hok hcc htk htl hb2
          generalize standB p.fs[n] s.cs = K1 at *
          generalize (p.fs.take n).any (likeF p.fs[n]) = K2 at *
          generalize p.fs[n] = f at *
          go_upto_region 6 with fail
          rw [← hw2]
          clear hw2 p0 p1 p2
          generalize wr.heap.size = gc at *
          cases K1 with
          | false =>
            obtain rfl : R = false := HR.out.trans (maysp_bad HCN.out (by rw [HOK.out]; rfl))
            clear HR
            refine region_class (fun w' => Below w2.heap.size w2 w') (by kernel_rfl) (by kernel_rfl) (Below.refl _ _).drew ?_
            repeat (first
              | go_big_quiet_skip
              | (go_big_quiet_want
                 go_big_quiet_op
                 first
                 | go_big_quiet_on
                 | (apply Exists.intro
                    refine ⟨fun v1 hv1 => ?_, ?_⟩
                    (first
                      | (exact rfl)
                      | (go_at_call 77; exact (T1.out v1 hv1).mono fun e w3 ⟨he, hb⟩ => ⟨he, hv1.trans (hb.mono hv1.size)⟩)
                      | (go_at_call 78; exact (T2.out v1 hv1).mono fun e w3 ⟨he, hb⟩ => ⟨he, hv1.trans (hb.mono hv1.size)⟩)
                      | (obtain ⟨q0, q1, q2⟩ := HCO.out.below hv1; simp only [q0, q1, q2, Nat.zero_add, Result.andThen]; exact ⟨trivial, rfl⟩)
                      | (obtain ⟨b0, b1, b2⟩ := (HS.out.below (HX2.out.trans (hv1.mono HX2.out.size))).at; simp only [b0, b1, b2, Result.andThen]; exact ⟨trivial, rfl⟩)
                      | (obtain ⟨c0, c1⟩ := (HP.out.below (HX2.out.trans (hv1.mono HX2.out.size))).at; simp only [c0, c1, Result.andThen]; exact ⟨trivial, rfl⟩)
                      | (exact ⟨trivial, rfl⟩))
                    go_big_quiet_on)))
            refine wpQuiet_nil ?_
            intro w9 hw9
            have HB9 := Lib.hid (HX2.out.trans (hw9.mono HX2.out.size))
            clear hw9
            go_wp2
            go_ret
            exact ⟨rfl, HB.out.trans (HB9.out.mono HB.out.size)⟩
          | true =>
            cases K2 with
            | true =>
              obtain rfl : R = false := HR.out.trans (maysp_bad HCN.out (by rw [HOK.out]; rfl))
              clear HR
              refine region_class (fun w' => Below w2.heap.size w2 w') (by kernel_rfl) (by kernel_rfl) (Below.refl _ _).drew ?_
              repeat (first
                | go_big_quiet_skip
                | (go_big_quiet_want
                   go_big_quiet_op
                   first
                   | go_big_quiet_on
                   | (apply Exists.intro
                      refine ⟨fun v1 hv1 => ?_, ?_⟩
                      (first
                        | (exact rfl)
                        | (go_at_call 77; exact (T1.out v1 hv1).mono fun e w3 ⟨he, hb⟩ => ⟨he, hv1.trans (hb.mono hv1.size)⟩)
                        | (go_at_call 78; exact (T2.out v1 hv1).mono fun e w3 ⟨he, hb⟩ => ⟨he, hv1.trans (hb.mono hv1.size)⟩)
                        | (obtain ⟨q0, q1, q2⟩ := HCO.out.below hv1; simp only [q0, q1, q2, Nat.zero_add, Result.andThen]; exact ⟨trivial, rfl⟩)
                        | (obtain ⟨b0, b1, b2⟩ := (HS.out.below (HX2.out.trans (hv1.mono HX2.out.size))).at; simp only [b0, b1, b2, Result.andThen]; exact ⟨trivial, rfl⟩)
                        | (obtain ⟨c0, c1⟩ := (HP.out.below (HX2.out.trans (hv1.mono HX2.out.size))).at; simp only [c0, c1, Result.andThen]; exact ⟨trivial, rfl⟩)
                        | (exact ⟨trivial, rfl⟩))
                      go_big_quiet_on)))
              refine wpQuiet_nil ?_
              intro w9 hw9
              have HB9 := Lib.hid (HX2.out.trans (hw9.mono HX2.out.size))
              clear hw9
              go_wp2
              go_ret
              exact ⟨rfl, HB.out.trans (HB9.out.mono HB.out.size)⟩
            | false =>
              refine region_class (fun w' => Below w2.heap.size w2 w') (by kernel_rfl) (by kernel_rfl) (Below.refl _ _).drew ?_
              repeat (first
                | go_big_quiet_skip
                | (go_big_quiet_want
                   go_big_quiet_op
                   first
                   | go_big_quiet_on
                   | (apply Exists.intro
                      refine ⟨fun v1 hv1 => ?_, ?_⟩
                      (first
                        | (exact rfl)
                        | (go_at_call 77; exact (T1.out v1 hv1).mono fun e w3 ⟨he, hb⟩ => ⟨he, hv1.trans (hb.mono hv1.size)⟩)
                        | (go_at_call 78; exact (T2.out v1 hv1).mono fun e w3 ⟨he, hb⟩ => ⟨he, hv1.trans (hb.mono hv1.size)⟩)
                        | (obtain ⟨q0, q1, q2⟩ := HCO.out.below hv1; simp only [q0, q1, q2, Nat.zero_add, Result.andThen]; exact ⟨trivial, rfl⟩)
                        | (obtain ⟨b0, b1, b2⟩ := (HS.out.below (HX2.out.trans (hv1.mono HX2.out.size))).at; simp only [b0, b1, b2, Result.andThen]; exact ⟨trivial, rfl⟩)
                        | (obtain ⟨c0, c1⟩ := (HP.out.below (HX2.out.trans (hv1.mono HX2.out.size))).at; simp only [c0, c1, Result.andThen]; exact ⟨trivial, rfl⟩)
                        | (exact ⟨trivial, rfl⟩))
                      go_big_quiet_on)))
              refine wpQuiet_nil ?_
              intro w9 hw9
              have HB9 := Lib.hid (HX2.out.trans (hw9.mono HX2.out.size))
              clear hw9
              go_wp2
              go_roundw
              case rel => exact ⟨n + 1, by have := HCN.out; omega, by go_num, fun k hk => by
                rcases Nat.lt_or_ge k n with h | h
                · exact HN.out k h
                · obtain rfl : k = n := by omega
                  rw [HOK.out]; rfl, HB9⟩
              case measure => have := HCN.out; simp [intOf]; omega
        · obtain rfl : n = p.fs.length := by omega
          obtain rfl : R = true := HR.out.trans (maysp_good HBN.out HM.out.symm HN.out)
          clear cn HR
          go_wp2
          go_ret
          exact ⟨rfl, HB.out.trans (HX.out.mono HB.out.size)⟩
  · have hb' : bndSp p = false := by simpa using hb
    obtain rfl : R = false := HR.out.trans (maysp_no (.inl hb'))
    have hn : ¬ (0 ≤ p.id ∧ p.id ≤ 2147483647 ∧ p.fs.length ≤ 4) := by
      unfold bndSp at hb
      rwa [decide_eq_true_eq] at hb
    have go : ∀ (d1 d2 d3 : Bool), decide (p.id < 0) = d1 → decide (2147483647 < p.id) = d2 → decide ((4 : Int) < (p.fs.length : Int)) = d3 → (d1 || d2 || d3) = true →
        Calls Try.prog 35 #[.agg #[.int .i64 p.id, .slice fa p.fs.length fcap], .agg #[.int .i64 s.id, .slice a s.cs.length cap, .int .i64 s.next]] w fun e w' => e = .returned (.bool false) ∧ Below w.heap.size w w' := by
      clear hn hb hb' HR HA HF HM T0 HL HFC
      intro d1 d2 d3 h1 h2 h3 h
      have HH := Lib.hid h
      clear h
      cases d1 with
      | true => (go_enter Try.func35, Try.ntmps35; go_upto_region 1 with fail; clear hw; go_wp2; go_ret; exact ⟨rfl, HB.out⟩)
      | false =>
        cases d2 with
        | true => (go_enter Try.func35, Try.ntmps35; go_upto_region 1 with fail; clear hw; go_wp2; go_ret; exact ⟨rfl, HB.out⟩)
        | false =>
          cases d3 with
          | true => (go_enter Try.func35, Try.ntmps35; go_upto_region 1 with fail; clear hw; go_wp2; go_ret; exact ⟨rfl, HB.out⟩)
          | false => exact absurd HH.out (by decide)
    refine go _ _ _ rfl rfl rfl ?_
    simp only [Bool.or_eq_true, decide_eq_true_eq]
    omega
end Go.Proofs.Ythfakpekdjmpjaa

namespace Go.Proofs.Ythfakpekdjmpjaa
open Go.Conc Go.RowKit
set_option linter.unusedVariables false
set_option linter.unusedSimpArgs false

theorem row_bad {cs : List Co} {r : List V} {k : Nat} (hk : k < r.length) (h : isOf (r.getD k zeroV) (cs.getD k zeroCo).kd = false) : rowB13 cs r = false := by
  unfold rowB13
  have : (List.range r.length).all (fun k => isOf (r.getD k zeroV) (cs.getD k zeroCo).kd) = false := by
    rw [List.all_eq_false]
    exact ⟨k, List.mem_range.2 hk, by simp only [h]; simp⟩
  rw [this, Bool.and_false]
theorem row_long {cs : List Co} {r : List V} (h : r.length ≠ cs.length) : rowB13 cs r = false := by
  unfold rowB13
  rw [decide_eq_false h, Bool.false_and]
theorem row_good {cs : List Co} {r : List V} (h0 : r.length = cs.length) (h : ∀ k, k < r.length → isOf (r.getD k zeroV) (cs.getD k zeroCo).kd = true) : rowB13 cs r = true := by
  unfold rowB13
  rw [decide_eq_true h0, Bool.true_and, List.all_eq_true]
  exact fun k hk => h k (List.mem_range.1 hk)
set_option maxRecDepth 100000 in
set_option maxHeartbeats 2000000 in
theorem spisrow_any (w : World) (ra a : Option Addr) (rcap cap : Nat) (r : List V) (s : Sc) (hr : IsV w ra r) (ha : IsCo w a s.cs) (hl : s.cs.length ≤ maxLen) (hrl : r.length ≤ 35184372088832) :
    Calls Try.prog 80 #[.agg #[.slice ra r.length rcap], .agg #[.int .i64 s.id, .slice a s.cs.length cap, .int .i64 s.next]] w fun e w' => e = .returned (.bool (rowB13 s.cs r)) ∧ Below w.heap.size w w' := by
  obtain ⟨u, hu⟩ : ∃ u, u = w.alloc (.cells #[.slice ra r.length rcap] 74) := ⟨_, rfl⟩
  obtain ⟨v, hv⟩ : ∃ v, v = u.alloc (.cells #[.int .i64 s.id, .slice a s.cs.length cap, .int .i64 s.next] 24) := ⟨_, rfl⟩
  have hb1 : Below w.heap.size w u := by rw [hu]; exact (Below.refl _ _).alloc (Nat.le_refl _) _
  have hb2 : Below u.heap.size u v := by rw [hv]; exact (Below.refl _ _).alloc (Nat.le_refl _) _
  have hsz : u.heap.size = w.heap.size + 1 := by rw [hu]; simp
  have HS : Hid (ScSlot v u.heap.size a cap s) := show ScSlot v u.heap.size a cap s by rw [hv]; exact ScSlot.new u a cap s
  rw [hsz] at HS
  have HB := Lib.hid (hb1.trans (hb2.mono hb1.size))
  have HA := Lib.hid (ha.below HB.out)
  have HF := Lib.hid (hr.below HB.out)
  have hw : (w.alloc (.cells #[.slice ra r.length rcap] 74)).alloc (.cells #[.int .i64 s.id, .slice a s.cs.length cap, .int .i64 s.next] 24) = v := by rw [hv, hu]
  have hp0 : u.cell? ⟨w.heap.size, 0, none⟩ = some (.slice ra r.length rcap) := by rw [hu]; exact cell_of_row _ _ _ _ _ _ (heap_alloc_new w _)
  have c0 : v.cell? ⟨w.heap.size, 0, none⟩ = some (.slice ra r.length rcap) := (World.cell?_of_block (hb2.block w.heap.size (by rw [hsz]; omega))).trans hp0
  obtain ⟨R, hR⟩ : ∃ R, R = rowB13 s.cs r := ⟨_, rfl⟩
  rw [← hR]
  have HR := Lib.hid hR
  obtain ⟨b0, b1, b2⟩ := HS.out.at
  clear hR hu hv hb1 hb2 hsz hr ha hp0 hl
  by_cases hb : r.length = s.cs.length
  · have HE := Lib.hid hb
    have d1 : ((r.length : Int) != (s.cs.length : Int)) = false := by rw [hb]; simp
    have HRL := Lib.hid hrl
    clear hb hrl
    go_enter Try.func80, Try.ntmps80
    go_upto_region 1 with fail
    clear hw
    go_upto_region 4 with fail
    clear d1 b0 b1 b2 c0
    go_loopw [17] (fun iv wr => ∃ n : Nat, n ≤ r.length ∧ iv = .int .i64 n ∧ Hid (∀ k, k < n → isOf (r.getD k zeroV) (s.cs.getD k zeroCo).kd = true) ∧ Hid (Below v.heap.size v wr)) (fun iv _ => r.length - (intOf iv).toNat)
    case atStart => exact ⟨0, Nat.zero_le _, rfl, fun k hk => absurd hk (Nat.not_lt_zero k), Below.refl _ _⟩
    case round =>
      obtain ⟨n, hle, rfl, HN, HX⟩ := hrel
      by_cases cn : n < r.length
      · have hcn : n < s.cs.length := by rw [← HE.out]; exact cn
        obtain ⟨b, off, rfl, hco⟩ := IsV.get (HF.out.below HX.out) cn
        obtain ⟨cb, coff, rfl, hcc⟩ := IsCo.get HA.out hcn
        obtain ⟨p0, p1, p2, p3⟩ := hco
        have HCO := Lib.hid hcc
        obtain ⟨x, hx⟩ : ∃ x, x = r.getD n zeroV := ⟨_, rfl⟩
        obtain ⟨kd, hkd⟩ : ∃ kd, kd = (s.cs.getD n zeroCo).kd := ⟨_, rfl⟩
        have HKD := Lib.hid hkd.symm
        have HXX := Lib.hid hx
        rw [← hx] at p0 p1 p2 p3
        clear hx hkd hcc
        obtain ⟨w2, hw2⟩ : ∃ w2, w2 = wr.alloc (.cells #[.int .i64 x.k, .int .i64 x.i, .bool x.b, .string x.s] 57) := ⟨_, rfl⟩
        have hb2 : Below wr.heap.size wr w2 := by rw [hw2]; exact (Below.refl _ _).alloc (Nat.le_refl _) _
        have HVO := Lib.hid (show Slot w2 wr.heap.size x by rw [hw2]; exact Slot.new wr x)
        have HX2 := Lib.hid (HX.out.trans (hb2.mono HX.out.size))
        have T1 := Lib.hid (fun (y : World) => isof_any x kd y)
        have hni : (n : Int) < (r.length : Int) := by omega
        have hnc : (n : Int) < (s.cs.length : Int) := by omega
        have hn4 : (n : Int) < 35184372088832 := by have := HRL.out; omega
        have HCN := Lib.hid cn
        have HOK : Hid (isOf (r.getD n zeroV) (s.cs.getD n zeroCo).kd = isOf x kd) := by unfold Hid; rw [HKD.out, HXX.out]
        clear hb2
        generalize isOf x kd = K1 at *
        go_upto_region 6 with fail
        rw [← hw2]
        clear hw2 p0 p1 p2 p3
        generalize wr.heap.size = gc at *
        cases K1 with
        | false =>
          obtain rfl : R = false := HR.out.trans (row_bad HCN.out HOK.out)
          clear HR
          refine region_class (fun w' => Below w2.heap.size w2 w') (by kernel_rfl) (by kernel_rfl) (Below.refl _ _).drew ?_
          repeat (first
            | go_big_quiet_skip
            | (go_big_quiet_want
               go_big_quiet_op
               first
               | go_big_quiet_on
               | (apply Exists.intro
                  refine ⟨fun v1 hv1 => ?_, ?_⟩
                  (first
                    | (exact rfl)
                    | (go_at_call 105; exact (T1.out v1).mono fun e w3 ⟨he, hb⟩ => ⟨he, hv1.trans (hb.mono hv1.size)⟩)
                    | (obtain ⟨⟨q0, q1, q2, q3⟩, _⟩ := (HVO.out.below hv1).at; simp only [q0, q1, q2, q3, Result.andThen]; exact ⟨trivial, rfl⟩)
                    | (obtain ⟨b0, b1, b2⟩ := (HS.out.below (HX2.out.trans (hv1.mono HX2.out.size))).at; simp only [b0, b1, b2, Result.andThen]; exact ⟨trivial, rfl⟩)
                    | (obtain ⟨k0, k1, k2⟩ := HCO.out.below (HX2.out.trans (hv1.mono HX2.out.size)); rw [HKD.out] at k2; simp only [k0, k1, k2, Result.andThen]; exact ⟨trivial, rfl⟩)
                    | (exact ⟨trivial, rfl⟩))
                  go_big_quiet_on)))
          refine wpQuiet_nil ?_
          intro w9 hw9
          have HB9 := Lib.hid (HX2.out.trans (hw9.mono HX2.out.size))
          clear hw9
          go_wp2
          go_ret
          exact ⟨rfl, HB.out.trans (HB9.out.mono HB.out.size)⟩
        | true =>
          refine region_class (fun w' => Below w2.heap.size w2 w') (by kernel_rfl) (by kernel_rfl) (Below.refl _ _).drew ?_
          repeat (first
            | go_big_quiet_skip
            | (go_big_quiet_want
               go_big_quiet_op
               first
               | go_big_quiet_on
               | (apply Exists.intro
                  refine ⟨fun v1 hv1 => ?_, ?_⟩
                  (first
                    | (exact rfl)
                    | (go_at_call 105; exact (T1.out v1).mono fun e w3 ⟨he, hb⟩ => ⟨he, hv1.trans (hb.mono hv1.size)⟩)
                    | (obtain ⟨⟨q0, q1, q2, q3⟩, _⟩ := (HVO.out.below hv1).at; simp only [q0, q1, q2, q3, Result.andThen]; exact ⟨trivial, rfl⟩)
                    | (obtain ⟨b0, b1, b2⟩ := (HS.out.below (HX2.out.trans (hv1.mono HX2.out.size))).at; simp only [b0, b1, b2, Result.andThen]; exact ⟨trivial, rfl⟩)
                    | (obtain ⟨k0, k1, k2⟩ := HCO.out.below (HX2.out.trans (hv1.mono HX2.out.size)); rw [HKD.out] at k2; simp only [k0, k1, k2, Result.andThen]; exact ⟨trivial, rfl⟩)
                    | (exact ⟨trivial, rfl⟩))
                  go_big_quiet_on)))
          refine wpQuiet_nil ?_
          intro w9 hw9
          have HB9 := Lib.hid (HX2.out.trans (hw9.mono HX2.out.size))
          clear hw9
          go_wp2
          go_roundw
          case rel => exact ⟨n + 1, by have := HCN.out; omega, by go_num, fun k hk => by
            rcases Nat.lt_or_ge k n with h | h
            · exact HN.out k h
            · obtain rfl : k = n := by omega
              exact HOK.out, HB9⟩
          case measure => have := HCN.out; simp [intOf]; omega
      · obtain rfl : n = r.length := by omega
        obtain rfl : R = true := HR.out.trans (row_good HE.out HN.out)
        clear cn HR
        go_wp2
        go_ret
        exact ⟨rfl, HB.out.trans (HX.out.mono HB.out.size)⟩
  · obtain rfl : R = false := HR.out.trans (row_long hb)
    have d1 : ((r.length : Int) != (s.cs.length : Int)) = true := by rw [bne_iff_ne]; omega
    clear HR hb HA HF
    go_enter Try.func80, Try.ntmps80
    go_upto_region 1 with fail
    clear hw
    go_wp2
    go_ret
    exact ⟨rfl, HB.out⟩
end Go.Proofs.Ythfakpekdjmpjaa
