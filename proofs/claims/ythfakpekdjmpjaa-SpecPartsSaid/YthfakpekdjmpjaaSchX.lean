/- The statements' helpers over schemas: the same, lent, kept. -/
import Derived.Test.YthfakpekdjmpjaaSchF
namespace Go.Proofs.Ythfakpekdjmpjaa
open Go.Conc Go.RowKit
set_option linter.unusedVariables false
set_option linter.unusedSimpArgs false

set_option maxRecDepth 100000 in
set_option maxHeartbeats 1000000 in
theorem sameschema_any (w : World) (a b : Option Addr) (ca cb : Nat) (s : Sc) (ha : IsCo w a s.cs) (hb0 : IsCo w b s.cs) (hl : s.cs.length ≤ maxLen) :
    Calls Try.prog 18 #[.agg #[.int .i64 s.id, .slice a s.cs.length ca, .int .i64 s.next], .agg #[.int .i64 s.id, .slice b s.cs.length cb, .int .i64 s.next]] w fun e w' => e = .returned (.bool true) ∧ Below w.heap.size w w' := by
  obtain ⟨u1, hu1⟩ : ∃ u1, u1 = w.alloc (.cells #[.int .i64 s.id, .slice a s.cs.length ca, .int .i64 s.next] 24) := ⟨_, rfl⟩
  obtain ⟨u, hu⟩ : ∃ u, u = u1.alloc (.cells #[.int .i64 s.id, .slice b s.cs.length cb, .int .i64 s.next] 24) := ⟨_, rfl⟩
  have b1 : Below w.heap.size w u1 := by rw [hu1]; exact (Below.refl _ _).alloc (Nat.le_refl _) _
  have b2 : Below u1.heap.size u1 u := by rw [hu]; exact (Below.refl _ _).alloc (Nat.le_refl _) _
  have HX := Lib.hid ((show ScSlot u1 w.heap.size a ca s by rw [hu1]; exact ScSlot.new w a ca s).below b2)
  have HY := Lib.hid (show ScSlot u u1.heap.size b cb s by rw [hu]; exact ScSlot.new u1 b cb s)
  have hb := b1.trans (b2.mono b1.size)
  have HB := Lib.hid hb
  have T := Lib.hid (show Calls Try.prog 61 #[.slice a s.cs.length ca, .slice b s.cs.length cb] u fun e w' => e = .returned (.bool true) ∧ Below u.heap.size u w' by
    have h := samecols_any u a b ca cb s.cs s.cs (ha.below hb) (hb0.below hb) hl
    rwa [decide_eq_true rfl] at h)
  have hz1 : u1.heap.size = w.heap.size + 1 := by rw [hu1]; simp
  rw [hz1] at HY
  subst hu1
  clear b1 b2 hb hz1
  obtain ⟨x0, x1, x2⟩ := HX.out.at
  obtain ⟨y0, y1, y2⟩ := HY.out.at
  have hq1 : (s.id == s.id) = true := beq_self_eq_true _
  have hq2 : (s.next == s.next) = true := beq_self_eq_true _
  go_enter Try.func18, Try.ntmps18
  go_upto_region 1 with fail
  rw [← hu]
  clear hu
  go_wp2_with (go_at_call 61; refine T.out.mono ?_; rintro e w2 ⟨rfl, hb⟩; have HB2 := Lib.hid (HB.out.trans (hb.mono HB.out.size)); clear hb)
  go_ret
  exact ⟨rfl, HB2.out⟩

set_option maxRecDepth 100000 in
set_option maxHeartbeats 1000000 in
theorem keptschema_any (w : World) (g c : Nat) (b : Option Addr) (cb base : Nat) (s : Sc) (ha : OwnCo base w (some ⟨g, 0, none⟩) c (s.cs ++ [markCo, markCo])) (hb0 : IsCo w b s.cs) (hx : (s.cs.length + 2) * 32 ≤ 140737488355328) :
    Calls Try.prog 22 #[.agg #[.int .i64 s.id, .slice (some ⟨g, 0, none⟩) s.cs.length c, .int .i64 s.next], .agg #[.int .i64 s.id, .slice b s.cs.length cb, .int .i64 s.next]] w fun e w' => e = .returned (.bool true) ∧ Below w.heap.size w w' := by
  obtain ⟨u1, hu1⟩ : ∃ u1, u1 = w.alloc (.cells #[.int .i64 s.id, .slice (some ⟨g, 0, none⟩) s.cs.length c, .int .i64 s.next] 24) := ⟨_, rfl⟩
  obtain ⟨u, hu⟩ : ∃ u, u = u1.alloc (.cells #[.int .i64 s.id, .slice b s.cs.length cb, .int .i64 s.next] 24) := ⟨_, rfl⟩
  have b1 : Below w.heap.size w u1 := by rw [hu1]; exact (Below.refl _ _).alloc (Nat.le_refl _) _
  have b2 : Below u1.heap.size u1 u := by rw [hu]; exact (Below.refl _ _).alloc (Nat.le_refl _) _
  have HX := Lib.hid ((show ScSlot u1 w.heap.size (some ⟨g, 0, none⟩) c s by rw [hu1]; exact ScSlot.new w (some ⟨g, 0, none⟩) c s).below b2)
  have HY := Lib.hid (show ScSlot u u1.heap.size b cb s by rw [hu]; exact ScSlot.new u1 b cb s)
  have hb := b1.trans (b2.mono b1.size)
  have HB := Lib.hid hb
  have T := Lib.hid (keptcols_any u g c b cb base s.cs (ha.below hb) (hb0.below hb) hx)
  have hz1 : u1.heap.size = w.heap.size + 1 := by rw [hu1]; simp
  rw [hz1] at HY
  subst hu1
  clear b1 b2 hb hz1
  obtain ⟨x0, x1, x2⟩ := HX.out.at
  obtain ⟨y0, y1, y2⟩ := HY.out.at
  have hq1 : (s.id == s.id) = true := beq_self_eq_true _
  have hq2 : (s.next == s.next) = true := beq_self_eq_true _
  go_enter Try.func22, Try.ntmps22
  go_upto_region 1 with fail
  rw [← hu]
  clear hu
  go_wp2_with (go_at_call 64; refine T.out.mono ?_; rintro e w2 ⟨rfl, hb⟩; have HB2 := Lib.hid (HB.out.trans (hb.mono HB.out.size)); clear hb)
  go_ret
  exact ⟨rfl, HB2.out⟩

set_option maxRecDepth 100000 in
set_option maxHeartbeats 1000000 in
theorem lendschema_any (w : World) (a : Option Addr) (cap : Nat) (s : Sc) (ha : IsCo w a s.cs) (hn : a = none → s.cs.length = 0 ∧ cap = 0) (hx : (s.cs.length + 2) * 32 ≤ 140737488355328) :
    Calls Try.prog 11 #[.agg #[.int .i64 s.id, .slice a s.cs.length cap, .int .i64 s.next]] w fun e w' => ∃ g c, e = .returned (.agg #[.int .i64 s.id, .slice (some ⟨g, 0, none⟩) s.cs.length c, .int .i64 s.next]) ∧ OwnCo w.heap.size w' (some ⟨g, 0, none⟩) c (s.cs ++ [markCo, markCo]) ∧ Below w.heap.size w w' := by
  obtain ⟨u, hu⟩ : ∃ u, u = (w.alloc (.cells #[.int .i64 s.id, .slice a s.cs.length cap, .int .i64 s.next] 24)).alloc (.cells #[.int .i64 0, .slice none 0 0, .int .i64 0] 24) := ⟨_, rfl⟩
  have hsz : (w.alloc (.cells #[.int .i64 s.id, .slice a s.cs.length cap, .int .i64 s.next] 24)).heap.size = w.heap.size + 1 := by simp
  have hbu : Below w.heap.size w u := by rw [hu]; exact ((Below.refl _ _).alloc (Nat.le_refl _) _).alloc (by simp) _
  have HS := Lib.hid (show ScSlot u w.heap.size a cap s by rw [hu]; exact (ScSlot.new w a cap s).same (Below.heap_alloc _ _ _ (by simp)))
  have HR := Lib.hid (show ScSlot u (w.heap.size + 1) none 0 zeroSc by rw [hu, ← hsz]; exact ScSlot.new _ none 0 zeroSc)
  have HB := Lib.hid hbu
  have T := Lib.hid (lendcols_any u a cap s.cs (ha.below hbu) hn hx)
  clear hsz hbu ha hn hx
  obtain ⟨b0, b1, b2⟩ := HS.out.at
  go_enter Try.func11, Try.ntmps11
  go_upto_region 1 with fail
  rw [← hu]
  clear hu
  go_upto_region 2 with (go_at_call 49; refine T.out.mono ?_; rintro e w2 ⟨g, c, rfl, ho, hb⟩; have HO2 := Lib.hid ho; have HS2 := Lib.hid (HS.out.below hb); have HR2 := Lib.hid (HR.out.below hb); have HB2 := Lib.hid (HB.out.trans (hb.mono HB.out.size)); clear ho hb b0 b1 b2; obtain ⟨b0, b1, b2⟩ := HS2.out.at; obtain ⟨y0, y1, y2⟩ := HS2.out.froz)
  obtain ⟨w3, hw3⟩ : ∃ w3, w3 = w2.setCell ⟨w.heap.size, 1, none⟩ (.slice (some ⟨g, 0, none⟩) s.cs.length c) := ⟨_, rfl⟩
  have HS3 := Lib.hid (show ScSlot w3 w.heap.size (some ⟨g, 0, none⟩) c s by rw [hw3]; exact HS2.out.setC (some ⟨g, 0, none⟩) c s.cs)
  have HF3 := Lib.hid (show Frm (fun j => j = w.heap.size) w2 w3 by rw [hw3]; exact (Frm.refl (fun j => j = w.heap.size) w2).setCell (p := ⟨w.heap.size, 1, none⟩) rfl _)
  change Code.wp _ _ _ _ (w2.setCell ⟨w.heap.size, 1, none⟩ (.slice (some ⟨g, 0, none⟩) s.cs.length c))
  rw [← hw3]
  clear hw3 b0 b1 b2 y0 y1 y2
  have HR3 := Lib.hid (HR2.out.frm HF3.out (by omega))
  have HO3 := Lib.hid (own_off HO2.out HS2.out HF3.out)
  obtain ⟨b0, b1, b2⟩ := HS3.out.at
  obtain ⟨z0, z1, z2⟩ := HR3.out.at
  obtain ⟨y0, y1, y2⟩ := HR3.out.froz
  simp only [zeroSc] at z0 z1 z2
  go_wp2
  change bodyPost _ _ _ _ _ (putSc w3 (w.heap.size + 1) (some ⟨g, 0, none⟩) c s)
  have hp := HR3.out.put (some ⟨g, 0, none⟩) c s
  have hpf := putSc_frm (g := w.heap.size + 1) (F := fun j => j = w.heap.size + 1) rfl w3 (some ⟨g, 0, none⟩) c s
  generalize putSc w3 (w.heap.size + 1) (some ⟨g, 0, none⟩) c s = w99 at *
  clear z0 z1 z2 y0 y1 y2 b0 b1 b2
  obtain ⟨b0, b1, b2⟩ := hp.at
  refine bodyPost_ret (v := .agg #[.int .i64 s.id, .slice (some ⟨g, 0, none⟩) s.cs.length c, .int .i64 s.next]) (by simp [results, Try.results11, go_sem, b0, b1, b2]) rfl ?_
  exact ⟨g, c, rfl, (own_off HO3.out HR3.out hpf).lower HB.out.size, Frm.to_below (Frm.to_below HB2.out HF3.out (fun k e => by omega) (Nat.le_refl _)) hpf (fun k e => by omega) (Nat.le_refl _)⟩
end Go.Proofs.Ythfakpekdjmpjaa
