/- The program's specs: what each field makes of a row. The program's specs: Part. -/
import Derived.Test.YthfakpekdjmpjaaSpcN
import Derived.Test.YthfakpekdjmpjaaQe
import Derived.BigQuiet
namespace Go.Proofs.Ythfakpekdjmpjaa
open Go.Conc Go.RowKit
set_option linter.unusedVariables false
set_option linter.unusedSimpArgs false

/-- What partOf has at hand: spec, schema, row, its answer, the part so far. -/
structure PoF (w u : World) (fa a ra : Option Addr) (fcap cap rcap : Nat) (p : Sp) (s : Sc) (r l : List V) : Prop where
  sp : SpSlot u w.heap.size fa fcap p
  sc : ScSlot u (w.heap.size + 1) a cap s
  ro : u.heap[w.heap.size + 1 + 1]? = some (.cells #[.slice ra r.length rcap] 74 (0, 0))
  t6 : PSlot u (w.heap.size + 1 + 1 + 1) []
  t7 : PSlot u (w.heap.size + 1 + 1 + 1 + 1) l
  below : Below w.heap.size w u
theorem PoF.row {w u : World} {fa a ra : Option Addr} {fcap cap rcap : Nat} {p : Sp} {s : Sc} {r l : List V} (h : PoF w u fa a ra fcap cap rcap p s r l) : u.cell? ⟨w.heap.size + 1 + 1, 0, none⟩ = some (.slice ra r.length rcap) := cell_of_row _ _ _ _ _ _ h.ro
theorem PoF.more {w u u' : World} {fa a ra : Option Addr} {fcap cap rcap : Nat} {p : Sp} {s : Sc} {r l : List V} (h : PoF w u fa a ra fcap cap rcap p s r l) (hb : Below u.heap.size u u') : PoF w u' fa a ra fcap cap rcap p s r l :=
  ⟨h.sp.below hb, h.sc.below hb, by rw [hb.block _ (Array.getElem?_eq_some_iff.1 h.ro).1]; exact h.ro, h.t6.below hb, h.t7.below hb, h.below.trans (hb.mono h.below.size)⟩
theorem PoF.put {w u : World} {fa a ra : Option Addr} {fcap cap rcap : Nat} {p : Sp} {s : Sc} {r l : List V} (h : PoF w u fa a ra fcap cap rcap p s r l) {n : Nat} (hn : l.length = n) (h4 : n < 4) (v : V) : PoF w (putP u (w.heap.size + 1 + 1 + 1 + 1) n v) fa a ra fcap cap rcap p s r (l ++ [v]) :=
  ⟨⟨by rw [putP_other (by omega)]; exact h.sp.b⟩, h.sc.same (putP_other (by omega) _), by rw [putP_other (by omega)]; exact h.ro, h.t6.same (putP_other (by omega) _), h.t7.put hn h4 v, putP_below h.below (by omega) v⟩
theorem PoF.new (w : World) (fa a ra : Option Addr) (fcap cap rcap : Nat) (p : Sp) (s : Sc) (r : List V) :
    PoF w (((((w.alloc (.cells #[.int .i64 p.id, .slice fa p.fs.length fcap] 65)).alloc (.cells #[.int .i64 s.id, .slice a s.cs.length cap, .int .i64 s.next] 24)).alloc (.cells #[.slice ra r.length rcap] 74)).alloc (.cells (partC []) 115)).alloc (.cells (partC []) 115)) fa a ra fcap cap rcap p s r [] := by
  obtain ⟨u1, h1⟩ : ∃ u, u = w.alloc (.cells #[.int .i64 p.id, .slice fa p.fs.length fcap] 65) := ⟨_, rfl⟩
  obtain ⟨u2, h2⟩ : ∃ u, u = u1.alloc (.cells #[.int .i64 s.id, .slice a s.cs.length cap, .int .i64 s.next] 24) := ⟨_, rfl⟩
  obtain ⟨u3, h3⟩ : ∃ u, u = u2.alloc (.cells #[.slice ra r.length rcap] 74) := ⟨_, rfl⟩
  obtain ⟨u4, h4⟩ : ∃ u, u = u3.alloc (.cells (partC []) 115) := ⟨_, rfl⟩
  obtain ⟨u5, h5⟩ : ∃ u, u = u4.alloc (.cells (partC []) 115) := ⟨_, rfl⟩
  have z1 : u1.heap.size = w.heap.size + 1 := by rw [h1]; simp
  have z2 : u2.heap.size = w.heap.size + 1 + 1 := by rw [h2, ← z1]; simp
  have z3 : u3.heap.size = w.heap.size + 1 + 1 + 1 := by rw [h3, ← z2]; simp
  have z4 : u4.heap.size = w.heap.size + 1 + 1 + 1 + 1 := by rw [h4, ← z3]; simp
  have b1 : Below w.heap.size w u1 := by rw [h1]; exact (Below.refl _ _).alloc (Nat.le_refl _) _
  have b2 : Below u1.heap.size u1 u2 := by rw [h2]; exact (Below.refl _ _).alloc (Nat.le_refl _) _
  have b3 : Below u2.heap.size u2 u3 := by rw [h3]; exact (Below.refl _ _).alloc (Nat.le_refl _) _
  have b4 : Below u3.heap.size u3 u4 := by rw [h4]; exact (Below.refl _ _).alloc (Nat.le_refl _) _
  have b5 : Below u4.heap.size u4 u5 := by rw [h5]; exact (Below.refl _ _).alloc (Nat.le_refl _) _
  have s1 : SpSlot u1 w.heap.size fa fcap p := by rw [h1]; exact SpSlot.new w fa fcap p
  have s2 : ScSlot u2 (w.heap.size + 1) a cap s := by rw [h2, ← z1]; exact ScSlot.new u1 a cap s
  have s3 : u3.heap[w.heap.size + 1 + 1]? = some (.cells #[.slice ra r.length rcap] 74 (0, 0)) := by rw [h3, ← z2]; exact heap_alloc_new _ _
  have s4 : PSlot u4 (w.heap.size + 1 + 1 + 1) [] := by rw [h4, ← z3]; exact PSlot.new u3 []
  have s5 : PSlot u5 (w.heap.size + 1 + 1 + 1 + 1) [] := by rw [h5, ← z4]; exact PSlot.new u4 []
  rw [← h1, ← h2, ← h3, ← h4, ← h5]
  have b35 := b4.trans (b5.mono b4.size)
  have b25 := b3.trans (b35.mono b3.size)
  have b15 := b2.trans (b25.mono b2.size)
  refine ⟨s1.below b15, s2.below b25, ?_, s4.below b5, s5, b1.trans (b15.mono b1.size)⟩
  rw [b35.block _ (by omega)]; exact s3
set_option maxRecDepth 100000 in
set_option maxHeartbeats 2000000 in
theorem partof_any (w : World) (fa a ra : Option Addr) (fcap cap rcap : Nat) (p : Sp) (s : Sc) (r : List V) (hf : IsFd w fa p.fs) (h4 : p.fs.length ≤ 4) (ha : IsCo w a s.cs) (hl : s.cs.length ≤ maxLen) (hr : IsV w ra r)
    (hp : ∀ k (hk : k < p.fs.length), ∃ j : Nat, placeA s.cs p.fs[k].src = (j : Int) ∧ j < r.length ∧ takesB p.fs[k] (r.getD j zeroV).k = true)
    (hv : ∀ v ∈ r, (-9223372036854775808 ≤ v.i ∧ v.i < 9223372036854775808) ∧ v.s.size ≤ 140737488355328) :
    Calls Try.prog 81 #[.agg #[.int .i64 p.id, .slice fa p.fs.length fcap], .agg #[.int .i64 s.id, .slice a s.cs.length cap, .int .i64 s.next], .agg #[.slice ra r.length rcap]] w fun e w' => e = .returned (.agg (partC (partL p.fs s.cs r))) ∧ Below w.heap.size w w' := by
  have hP := PoF.new w fa a ra fcap cap rcap p s r
  obtain ⟨u, hu⟩ : ∃ u, u = (((((w.alloc (.cells #[.int .i64 p.id, .slice fa p.fs.length fcap] 65)).alloc (.cells #[.int .i64 s.id, .slice a s.cs.length cap, .int .i64 s.next] 24)).alloc (.cells #[.slice ra r.length rcap] 74)).alloc (.cells (partC []) 115)).alloc (.cells (partC []) 115)) := ⟨_, rfl⟩
  rw [← hu] at hP
  have HP0 := Lib.hid hP
  have HF := Lib.hid hf
  have HA := Lib.hid ha
  have HR := Lib.hid hr
  have HL := Lib.hid hl
  have HPL := Lib.hid hp
  have HV := Lib.hid hv
  have H4 := Lib.hid h4
  obtain ⟨D, hD⟩ : ∃ D, D = partL p.fs s.cs r := ⟨_, rfl⟩
  have HD := Lib.hid hD
  have HDL : Hid (D.length = p.fs.length) := by unfold Hid; rw [hD, partL_length]
  rw [← hD]
  clear hP hf ha hr hl hp hv h4 hD
  go_enter Try.func81, Try.ntmps81
  go_upto_region 2 with fail
  change Code.wp _ _ _ _ (((((w.alloc (.cells #[.int .i64 p.id, .slice fa p.fs.length fcap] 65)).alloc (.cells #[.int .i64 s.id, .slice a s.cs.length cap, .int .i64 s.next] 24)).alloc (.cells #[.slice ra r.length rcap] 74)).alloc (.cells (partC []) 115)).alloc (.cells (partC []) 115))
  rw [← hu]
  clear hu
  obtain ⟨c0, c1⟩ := HP0.out.sp.at
  go_upto_region 3 with fail
  clear c0 c1
  go_loopw [13] (fun iv wr => ∃ n : Nat, n ≤ p.fs.length ∧ iv = .int .i64 n ∧ Hid (PoF w wr fa a ra fcap cap rcap p s r (D.take n))) (fun iv _ => p.fs.length - (intOf iv).toNat)
  case atStart => exact ⟨0, Nat.zero_le _, rfl, HP0⟩
  case round =>
    obtain ⟨n, hle, rfl, HX⟩ := hrel
    by_cases cn : n < p.fs.length
    · have hfb := HF.out.below HX.out.below
      rcases hfb with e | ⟨b, off, rfl, hcc⟩
      · rw [e] at cn; simp at cn
      obtain ⟨p0, p1, p2⟩ := hcc n cn
      obtain ⟨j, hj, hjr, htk⟩ := HPL.out n cn
      have hrb := IsV.get (HR.out.below HX.out.below) hjr
      obtain ⟨rb, roff, rfl, hval⟩ := hrb
      obtain ⟨vi, vs⟩ := HV.out (r.getD j zeroV) (by rw [List.getD_eq_getElem?_getD, List.getElem?_eq_getElem hjr]; exact List.getElem_mem hjr)
      have hDn : D.take (n + 1) = D.take n ++ [madeV p.fs[n] (r.getD j zeroV)] := by
        have hn : n < D.length := by rw [HDL.out]; exact cn
        rw [← List.take_append_getElem hn]
        congr 2
        have e : D[n] = (partL p.fs s.cs r)[n]'(by rw [← HD.out]; exact hn) := by congr 1
        rw [e]
        unfold partL
        simp only [List.getElem_map, hj, Int.toNat_natCast]
      have HDN := Lib.hid hDn
      have HTN : Hid ((D.take n).length = n) := by unfold Hid; rw [List.length_take, HDL.out]; omega
      obtain ⟨w2, hw2⟩ : ∃ w2, w2 = wr.alloc (.cells #[.int .i64 p.fs[n].src, .int .i64 p.fs[n].tr, .int .i64 p.fs[n].par] 55) := ⟨_, rfl⟩
      have hb2 : Below wr.heap.size wr w2 := by rw [hw2]; exact (Below.refl _ _).alloc (Nat.le_refl _) _
      have HCO := Lib.hid (show FdAt w2 wr.heap.size 0 p.fs[n] by rw [hw2]; exact FdAt.new wr p.fs[n])
      have HX2 := Lib.hid (HX.out.more hb2)
      have HVA := Lib.hid (hval.below hb2)
      have T1 := Lib.hid (fun (x : World) (hx : Below w2.heap.size w2 x) => spplace_any x a cap s p.fs[n].src (HA.out.below (HX2.out.more hx).below) HL.out)
      have T2 := Lib.hid (fun (x : World) => made_any p.fs[n] (r.getD j zeroV) htk vi vs x)
      rw [hj] at T1
      have hni : (n : Int) < (p.fs.length : Int) := by omega
      have hn4 : (n : Int) < 4 := by have := H4.out; omega
      have hn4' : n < 4 := by have := H4.out; omega
      have hji : (j : Int) < (r.length : Int) := by omega
      have HCN := Lib.hid cn
      have HNN := Lib.hid hn4'
      clear hcc hb2 hval hj htk vi vs hDn
      generalize madeV p.fs[n] (r.getD j zeroV) = M at *
      generalize r.getD j zeroV = x at *
      generalize p.fs[n] = f at *
      go_upto_region 5 with fail
      rw [← hw2]
      clear hw2 p0 p1 p2
      generalize wr.heap.size = gc at *
      refine region_class_tail (fun w' => Below w2.heap.size w2 w') 12 (by kernel_rfl) (by kernel_rfl) (Below.refl _ _).drew ?_
      simp only [List.take_succ_cons, List.take_zero, List.drop_succ_cons, List.drop_zero]
      repeat (first
        | go_big_quiet_skip
        | (go_big_quiet_want
           go_big_quiet_op
           first
           | go_big_quiet_on
           | (apply Exists.intro
              refine ⟨fun v1 hv1 => ?_, ?_⟩
              (first
                | (exact rfl)
                | (go_at_call 102; exact (T1.out v1 hv1).mono fun e w3 ⟨he, hb⟩ => ⟨he, hv1.trans (hb.mono hv1.size)⟩)
                | (go_at_call 70; exact (T2.out v1).mono fun e w3 ⟨he, hb⟩ => ⟨he, hv1.trans (hb.mono hv1.size)⟩)
                | (obtain ⟨q0, q1, q2⟩ := HCO.out.below hv1; simp only [q0, q1, q2, Nat.zero_add, Result.andThen]; exact ⟨trivial, rfl⟩)
                | (obtain ⟨b0, b1, b2⟩ := (HX2.out.more hv1).sc.at; simp only [b0, b1, b2, Result.andThen]; exact ⟨trivial, rfl⟩)
                | (have d0 := (HX2.out.more hv1).row; simp only [d0, Result.andThen]; exact ⟨trivial, rfl⟩)
                | (obtain ⟨q0, q1, q2, q3⟩ := HVA.out.below hv1; simp only [q0, q1, q2, q3, Result.andThen]; exact ⟨trivial, rfl⟩)
                | (exact ⟨trivial, rfl⟩))
              go_big_quiet_on)))
      refine wpQuiet_nil ?_
      intro w9 hw9
      have HX9 := Lib.hid (HX2.out.more hw9)
      have y0 := HX9.out.t7.free (n * 4)
      have y1 := HX9.out.t7.free (n * 4 + 1)
      have y2 := HX9.out.t7.free (n * 4 + 2)
      have y3 := HX9.out.t7.free (n * 4 + 3)
      obtain ⟨z0, z1, z2, z3⟩ := HX9.out.t7.val HNN.out
      clear hw9
      go_wp2
      refine ⟨⟨n + 1, by have := HCN.out; omega, by go_num, ?_⟩, by have := HCN.out; simp [intOf]; omega⟩
      have h := HX9.out.put HTN.out HNN.out M
      rw [← HDN.out] at h
      exact h
    · obtain rfl : n = p.fs.length := by omega
      have hDD : D.take p.fs.length = D := by rw [← HDL.out]; exact List.take_length
      rw [hDD] at HX
      obtain ⟨c0, c1, c2, c3, c4, c5, c6, c7, c8, c9, c10, c11, c12, c13, c14, c15⟩ := HX.out.t7.all
      obtain ⟨d0, d1, d2, d3, d4, d5, d6, d7, d8, d9, d10, d11, d12, d13, d14, d15⟩ := HX.out.t6.all
      obtain ⟨y0, y1, y2, y3, y4, y5, y6, y7, y8, y9, y10, y11, y12, y13, y14, y15⟩ := HX.out.t6.frees
      clear cn hDD hle
      go_wp2
      change bodyPost _ _ _ _ _ (putW wr (w.heap.size + 1 + 1 + 1) D)
      have hS9 := HX.out.t6.putW D
      have hB9 := putW_below HX.out.below (by omega : w.heap.size ≤ w.heap.size + 1 + 1 + 1) D
      generalize putW wr (w.heap.size + 1 + 1 + 1) D = w9 at *
      clear c0 c1 c2 c3 c4 c5 c6 c7 c8 c9 c10 c11 c12 c13 c14 c15 d0 d1 d2 d3 d4 d5 d6 d7 d8 d9 d10 d11 d12 d13 d14 d15 y0 y1 y2 y3 y4 y5 y6 y7 y8 y9 y10 y11 y12 y13 y14 y15
      obtain ⟨z0, z1, z2, z3, z4, z5, z6, z7, z8, z9, z10, z11, z12, z13, z14, z15⟩ := hS9.all
      refine bodyPost_ret (v := .agg (partC D)) (by simp [results, Try.results81, go_sem, z0, z1, z2, z3, z4, z5, z6, z7, z8, z9, z10, z11, z12, z13, z14, z15, partC]) rfl ?_
      exact ⟨rfl, hB9⟩
end Go.Proofs.Ythfakpekdjmpjaa

namespace Go.Proofs.Ythfakpekdjmpjaa
open Go.Conc Go.RowKit
set_option linter.unusedVariables false
set_option linter.unusedSimpArgs false

/-- Spec, schema, row in variables. -/
structure P3 (w u : World) (fa a ra : Option Addr) (fcap cap rcap : Nat) (p : Sp) (s : Sc) (r : List V) : Prop where
  sp : SpSlot u w.heap.size fa fcap p
  sc : ScSlot u (w.heap.size + 1) a cap s
  ro : u.heap[w.heap.size + 1 + 1]? = some (.cells #[.slice ra r.length rcap] 74 (0, 0))
  below : Below w.heap.size w u
theorem P3.row {w u : World} {fa a ra : Option Addr} {fcap cap rcap : Nat} {p : Sp} {s : Sc} {r : List V} (h : P3 w u fa a ra fcap cap rcap p s r) : u.cell? ⟨w.heap.size + 1 + 1, 0, none⟩ = some (.slice ra r.length rcap) := cell_of_row _ _ _ _ _ _ h.ro
theorem P3.more {w u u' : World} {fa a ra : Option Addr} {fcap cap rcap : Nat} {p : Sp} {s : Sc} {r : List V} (h : P3 w u fa a ra fcap cap rcap p s r) (hb : Below u.heap.size u u') : P3 w u' fa a ra fcap cap rcap p s r :=
  ⟨h.sp.below hb, h.sc.below hb, by rw [hb.block _ (Array.getElem?_eq_some_iff.1 h.ro).1]; exact h.ro, h.below.trans (hb.mono h.below.size)⟩
theorem P3.new (w : World) (fa a ra : Option Addr) (fcap cap rcap : Nat) (p : Sp) (s : Sc) (r : List V) :
    P3 w (((w.alloc (.cells #[.int .i64 p.id, .slice fa p.fs.length fcap] 65)).alloc (.cells #[.int .i64 s.id, .slice a s.cs.length cap, .int .i64 s.next] 24)).alloc (.cells #[.slice ra r.length rcap] 74)) fa a ra fcap cap rcap p s r := by
  obtain ⟨u1, h1⟩ : ∃ u, u = w.alloc (.cells #[.int .i64 p.id, .slice fa p.fs.length fcap] 65) := ⟨_, rfl⟩
  obtain ⟨u2, h2⟩ : ∃ u, u = u1.alloc (.cells #[.int .i64 s.id, .slice a s.cs.length cap, .int .i64 s.next] 24) := ⟨_, rfl⟩
  obtain ⟨u3, h3⟩ : ∃ u, u = u2.alloc (.cells #[.slice ra r.length rcap] 74) := ⟨_, rfl⟩
  have z1 : u1.heap.size = w.heap.size + 1 := by rw [h1]; simp
  have z2 : u2.heap.size = w.heap.size + 1 + 1 := by rw [h2, ← z1]; simp
  have b1 : Below w.heap.size w u1 := by rw [h1]; exact (Below.refl _ _).alloc (Nat.le_refl _) _
  have b2 : Below u1.heap.size u1 u2 := by rw [h2]; exact (Below.refl _ _).alloc (Nat.le_refl _) _
  have b3 : Below u2.heap.size u2 u3 := by rw [h3]; exact (Below.refl _ _).alloc (Nat.le_refl _) _
  have s1 : SpSlot u1 w.heap.size fa fcap p := by rw [h1]; exact SpSlot.new w fa fcap p
  have s2 : ScSlot u2 (w.heap.size + 1) a cap s := by rw [h2, ← z1]; exact ScSlot.new u1 a cap s
  have s3 : u3.heap[w.heap.size + 1 + 1]? = some (.cells #[.slice ra r.length rcap] 74 (0, 0)) := by rw [h3, ← z2]; exact heap_alloc_new _ _
  rw [← h1, ← h2, ← h3]
  have b13 := b2.trans (b3.mono b2.size)
  exact ⟨s1.below b13, s2.below b3, s3, b1.trans (b13.mono b1.size)⟩
/-- What Part has behind n fields. -/
structure PLoop (v wr : World) (g : Nat) (D xs : List V) (n : Nat) (ao : Option Addr) (co : Nat) : Prop where
  is : xs = D.take n
  own : OwnV v.heap.size wr ao co xs
  all : PSlot wr g D
  below : Below v.heap.size v wr
theorem PLoop.more {v wr w' : World} {g n co : Nat} {D xs : List V} {ao : Option Addr} (h : PLoop v wr g D xs n ao co) (hb : Below wr.heap.size wr w') : PLoop v w' g D xs n ao co :=
  ⟨h.is, h.own.below hb, h.all.below hb, h.below.trans (hb.mono h.below.size)⟩
theorem PLoop.put {v wr w' : World} {g n co co' : Nat} {D xs : List V} {ao ao' : Option Addr} (h : PLoop v wr g D xs n ao co) (hg : g < v.heap.size) (hn : n < D.length) (ho : OwnV v.heap.size w' ao' co' (xs ++ [D.getD n zeroV])) (hf : Frm (At ao) wr w') : PLoop v w' g D (xs ++ [D.getD n zeroV]) (n + 1) ao' co' :=
  ⟨by rw [h.is, ← List.take_append_getElem hn, List.getD_eq_getElem?_getD, List.getElem?_eq_getElem hn]; rfl, ho, h.all.same (hf.block _ h.all.lt fun hk => by have := (h.own.at_ge hk).1; omega), Frm.to_below h.below hf (fun k hk => (h.own.at_ge hk).1) (Nat.le_refl _)⟩
/-- What partOf asks, of a spec that may be and a row that may. -/
theorem part_pre {p : Sp} {s : Sc} {r : List V} (hm : maySp p s = true) (hr : rowB13 s.cs r = true) : p.fs.length ≤ 4 ∧ ∀ k (hk : k < p.fs.length), ∃ j : Nat, placeA s.cs p.fs[k].src = (j : Int) ∧ j < r.length ∧ takesB p.fs[k] (r.getD j zeroV).k = true := by
  obtain ⟨h4, _, hok⟩ := maysp_most hm
  refine ⟨h4, fun k hk => ?_⟩
  unfold rowB13 at hr
  rw [Bool.and_eq_true, decide_eq_true_eq, List.all_eq_true] at hr
  obtain ⟨hl, hr⟩ := hr
  have h := hok k hk
  rw [okfd_at hk, Bool.and_eq_true] at h
  have hst := h.1
  unfold standB at hst
  rw [Bool.and_eq_true, decide_eq_true_eq] at hst
  obtain ⟨h0, ht⟩ := hst
  rcases place_range s.cs p.fs[k].src with e | ⟨j, e, hj⟩
  · rw [e] at h0; omega
  · refine ⟨j, e, by omega, ?_⟩
    unfold kindAt at ht
    rw [e, Int.toNat_natCast] at ht
    exact row_takes ht (hr j (List.mem_range.2 (by omega)))
set_option maxRecDepth 100000 in
set_option maxHeartbeats 2000000 in
theorem sppart_any (w : World) (fa a ra : Option Addr) (fcap cap rcap : Nat) (p : Sp) (s : Sc) (r : List V) (hf : IsFd w fa p.fs) (hfc : p.fs.length ≤ fcap) (ha : IsCo w a s.cs) (hl : s.cs.length ≤ maxLen) (hcap : s.cs.length ≤ cap) (hr : IsV w ra r) (hrl : r.length ≤ 35184372088832)
    (hv : ∀ v ∈ r, (-9223372036854775808 ≤ v.i ∧ v.i < 9223372036854775808) ∧ v.s.size ≤ 140737488355328) :
    Calls Try.prog 37 #[.agg #[.int .i64 p.id, .slice fa p.fs.length fcap], .agg #[.int .i64 s.id, .slice a s.cs.length cap, .int .i64 s.next], .agg #[.slice ra r.length rcap]] w fun e w' => ∃ ao co, e = .returned (.tuple #[.slice ao (partA p s r).1.length co, .int .i64 (partA p s r).2]) ∧ OwnV w.heap.size w' ao co (partA p s r).1 ∧ Below w.heap.size w w' := by
  have hP := P3.new w fa a ra fcap cap rcap p s r
  obtain ⟨u, hu⟩ : ∃ u, u = (((w.alloc (.cells #[.int .i64 p.id, .slice fa p.fs.length fcap] 65)).alloc (.cells #[.int .i64 s.id, .slice a s.cs.length cap, .int .i64 s.next] 24)).alloc (.cells #[.slice ra r.length rcap] 74)) := ⟨_, rfl⟩
  rw [← hu] at hP
  have HP := Lib.hid hP
  have T0 := Lib.hid (spmay_any u fa a fcap cap p s (hf.below hP.below) hfc (ha.below hP.below) hl hcap)
  have T1 := Lib.hid (fun (x : World) (hx : Below w.heap.size w x) => spisrow_any x ra a rcap cap r s (hr.below hx) (ha.below hx) hl hrl)
  have go : ∀ (M : Bool), maySp p s = M → ∀ (B : Bool), rowB13 s.cs r = B →
    Calls Try.prog 37 #[.agg #[.int .i64 p.id, .slice fa p.fs.length fcap], .agg #[.int .i64 s.id, .slice a s.cs.length cap, .int .i64 s.next], .agg #[.slice ra r.length rcap]] w fun e w' => ∃ ao co, e = .returned (.tuple #[.slice ao (partA p s r).1.length co, .int .i64 (partA p s r).2]) ∧ OwnV w.heap.size w' ao co (partA p s r).1 ∧ Below w.heap.size w w' := by
    intro M hM B hB
    rw [hM] at T0
    rw [hB] at T1
    cases M with
    | false =>
      rw [partA_no (by rw [hM]; rfl)]
      clear hM hB hf hfc ha hl hcap hr hrl hv hP T1
      go_enter Try.func37, Try.ntmps37
      go_upto_region 1 with fail
      change Code.wp _ _ _ _ (((w.alloc (.cells #[.int .i64 p.id, .slice fa p.fs.length fcap] 65)).alloc (.cells #[.int .i64 s.id, .slice a s.cs.length cap, .int .i64 s.next] 24)).alloc (.cells #[.slice ra r.length rcap] 74))
      rw [← hu]
      clear hu
      obtain ⟨c0, c1⟩ := HP.out.sp.at
      obtain ⟨b0, b1, b2⟩ := HP.out.sc.at
      go_wp2_with (go_at_call 35; refine T0.out.mono ?_; rintro e w1 ⟨rfl, hb⟩; have HP1 := Lib.hid (HP.out.more hb); clear hb c0 c1 b0 b1 b2)
      go_ret2
      exact ⟨none, 0, rfl, OwnV.nil _ _, HP1.out.below⟩
    | true =>
      cases B with
      | false =>
        rw [partA_no (by rw [hM, hB]; rfl)]
        clear hM hB hf hfc ha hl hcap hr hrl hv hP
        go_enter Try.func37, Try.ntmps37
        go_upto_region 1 with fail
        change Code.wp _ _ _ _ (((w.alloc (.cells #[.int .i64 p.id, .slice fa p.fs.length fcap] 65)).alloc (.cells #[.int .i64 s.id, .slice a s.cs.length cap, .int .i64 s.next] 24)).alloc (.cells #[.slice ra r.length rcap] 74))
        rw [← hu]
        clear hu
        obtain ⟨c0, c1⟩ := HP.out.sp.at
        obtain ⟨b0, b1, b2⟩ := HP.out.sc.at
        go_wp2_with (first
          | (go_at_call 35; refine T0.out.mono ?_; rintro e w1 ⟨rfl, hb⟩; have HP1 := Lib.hid (HP.out.more hb); clear hb c0 c1 b0 b1 b2 T0; obtain ⟨b0, b1, b2⟩ := HP1.out.sc.at; have d0 := HP1.out.row)
          | (go_at_call 80; refine (T1.out _ HP1.out.below).mono ?_; rintro e w2 ⟨rfl, hb⟩; have HP2 := Lib.hid (HP1.out.more hb); clear hb b0 b1 b2 d0))
        go_ret2
        exact ⟨none, 0, rfl, OwnV.nil _ _, HP2.out.below⟩
      | true =>
        obtain ⟨h4, hpre⟩ := part_pre hM hB
        have T2 := Lib.hid (fun (x : World) (hx : Below w.heap.size w x) => partof_any x fa a ra fcap cap rcap p s r (hf.below hx) h4 (ha.below hx) hl (hr.below hx) hpre hv)
        rw [partA_yes hM hB]
        have HDP : Hid (∀ k, k < (partL p.fs s.cs r).length → plainV ((partL p.fs s.cs r).getD k zeroV) = (partL p.fs s.cs r).getD k zeroV ∧ ((partL p.fs s.cs r).getD k zeroV).s.size ≤ 281474976710656) := by
          intro k hk
          have hk' : k < p.fs.length := by rw [partL_length] at hk; exact hk
          have e : (partL p.fs s.cs r).getD k zeroV = madeV p.fs[k] (r.getD (placeA s.cs p.fs[k].src).toNat zeroV) := by
            rw [List.getD_eq_getElem?_getD, List.getElem?_eq_getElem hk]
            simp only [partL, List.getElem_map, Option.getD_some]
          rw [e]
          refine ⟨madeV_plain _ _, Nat.le_trans (madeV_size _ _) ?_⟩
          obtain ⟨j, e2, hj, _⟩ := hpre k hk'
          rw [e2, Int.toNat_natCast]
          have := (hv (r.getD j zeroV) (by rw [List.getD_eq_getElem?_getD, List.getElem?_eq_getElem hj]; exact List.getElem_mem hj)).2
          omega
        have HDL : Hid ((partL p.fs s.cs r).length = p.fs.length) := partL_length _ _ _
        have H4 := Lib.hid h4
        clear hM hB hf hfc ha hl hcap hr hrl hv hP h4 hpre
        generalize partL p.fs s.cs r = D at *
        unfold partC at T2
        go_enter Try.func37, Try.ntmps37
        go_upto_region 1 with fail
        change Code.wp _ _ _ _ (((w.alloc (.cells #[.int .i64 p.id, .slice fa p.fs.length fcap] 65)).alloc (.cells #[.int .i64 s.id, .slice a s.cs.length cap, .int .i64 s.next] 24)).alloc (.cells #[.slice ra r.length rcap] 74))
        rw [← hu]
        clear hu
        obtain ⟨c0, c1⟩ := HP.out.sp.at
        obtain ⟨b0, b1, b2⟩ := HP.out.sc.at
        go_upto_region 3 with (first
          | (go_at_call 35; refine T0.out.mono ?_; rintro e w1 ⟨rfl, hb⟩; have HP1 := Lib.hid (HP.out.more hb); clear hb c0 c1 b0 b1 b2 T0; obtain ⟨b0, b1, b2⟩ := HP1.out.sc.at; have d0 := HP1.out.row)
          | (go_at_call 80; refine (T1.out _ HP1.out.below).mono ?_; rintro e w2 ⟨rfl, hb⟩; have HP2 := Lib.hid (HP1.out.more hb); clear hb b0 b1 b2 d0 T1))
        obtain ⟨c0, c1⟩ := HP2.out.sp.at
        obtain ⟨b0, b1, b2⟩ := HP2.out.sc.at
        have d0 := HP2.out.row
        go_upto_region 4 with (go_at_call 81; refine (T2.out _ HP2.out.below).mono ?_; rintro e w3 ⟨rfl, hb⟩; have HP3 := Lib.hid (HP2.out.more hb); clear hb b0 b1 b2 c0 c1 d0 T2)
        change Code.wp _ _ _ _ (w3.alloc (.cells (partC D) 115))
        obtain ⟨v, hv⟩ : ∃ v, v = w3.alloc (.cells (partC D) 115) := ⟨_, rfl⟩
        rw [← hv]
        have hb3 : Below w3.heap.size w3 v := by rw [hv]; exact (Below.refl _ _).alloc (Nat.le_refl _) _
        have hpl : PLoop v v w3.heap.size D [] 0 none 0 := ⟨rfl, OwnV.nil _ _, by rw [hv]; exact PSlot.new w3 D, Below.refl _ _⟩
        have HG : Hid (w3.heap.size < v.heap.size) := hpl.all.lt
        have HPL := Lib.hid hpl
        replace HP3 := Lib.hid (HP3.out.more hb3)
        clear hv hb3 hpl
        generalize w3.heap.size = g at *
        obtain ⟨c0, c1⟩ := HP3.out.sp.at
        go_upto_region 6 with fail
        clear c0 c1
        go_loopw [9, 28] (fun ov iv wr => ∃ (n co : Nat) (ao : Option Addr) (xs : List V), n ≤ p.fs.length ∧ ov = .slice ao xs.length co ∧ iv = .int .i64 n ∧ Hid (PLoop v wr g D xs n ao co)) (fun _ iv _ => p.fs.length - (intOf iv).toNat)
        case atStart => exact ⟨0, 0, none, [], Nat.zero_le _, rfl, rfl, HPL⟩
        case round =>
          obtain ⟨n, co, ao, xs, hle, rfl, rfl, HX⟩ := hrel
          by_cases cn : n < p.fs.length
          · have hn4 : n < 4 := by have := H4.out; omega
            obtain ⟨z0, z1, z2, z3⟩ := HX.out.all.val hn4
            have hDn : n < D.length := by rw [HDL.out]; exact cn
            obtain ⟨pl, ps⟩ := HDP.out n hDn
            have T3 := Lib.hid (fun (x : World) => vcopy_any (D.getD n zeroV) ps x)
            rw [pl] at T3
            have HPUT := Lib.hid (fun (w' : World) (ao' : Option Addr) (co' : Nat) (wr' : World) (h : PLoop v wr' g D xs n ao co) ho hf => h.put (w' := w') (ao' := ao') (co' := co') HG.out hDn ho hf)
            have HSZ : Hid (xs.length ≤ 3518437208882) := by unfold Hid; rw [HX.out.is, List.length_take]; omega
            have hni : (n : Int) < (p.fs.length : Int) := by omega
            have hn4i : (n : Int) < 4 := by omega
            have HCN := Lib.hid cn
            clear pl ps hDn
            generalize D.getD n zeroV = x at *
            go_wp2_with (first
              | (go_at_call 69; refine (T3.out _).mono ?_; rintro e w4 ⟨rfl, hb4⟩; have HX4 := Lib.hid (HX.out.more hb4); clear hb4)
              | (at_builtin; refine wp_val HX4.out.own HX4.out.below.size HSZ.out rfl _ _ rfl x rfl rfl ?_; intro av' cv' u6 ho hf _; have HFIN := Lib.hid (HPUT.out _ _ _ _ HX4.out ho hf); clear ho hf))
            refine ⟨⟨n + 1, cv', av', xs ++ [x], by have := HCN.out; omega, by simp, by go_num, HFIN⟩, by have := HCN.out; simp [intOf]; omega⟩
          · obtain rfl : n = p.fs.length := by omega
            have hxD : xs = D := by rw [HX.out.is, ← HDL.out]; exact List.take_length
            subst hxD
            clear cn hle
            go_wp2
            go_ret2
            exact ⟨ao, co, rfl, HX.out.own.lower (by have := HP3.out.below.size; omega), HP3.out.below.trans (HX.out.below.mono HP3.out.below.size)⟩
  exact go _ rfl _ rfl
end Go.Proofs.Ythfakpekdjmpjaa
