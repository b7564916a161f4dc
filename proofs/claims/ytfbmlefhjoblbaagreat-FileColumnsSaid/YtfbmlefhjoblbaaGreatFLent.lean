/- The statements' data lent, with marked room behind its lists. -/
import Derived.Test.YtfbmlefhjoblbaaGreatDatA
import Derived.Deep.RegionLaw
namespace Go.Proofs.YtfbmlefhjoblbaaGreat
open Go.Conc Go.RowKit
set_option linter.unusedVariables false
set_option linter.unusedSimpArgs false

/-- Data lent. -/
structure Lent (B : Nat) (w : World) (q : DaAt) (d : Da) (vs : List Value) : Prop where
  ac : ∃ g, q.ac = some ⟨g, 0, none⟩
  ar : ∃ g, q.ar = some ⟨g, 0, none⟩
  co : OwnCo B w q.ac q.kc (d.cs ++ [markCo, markCo])
  ro : OwnR B w q.ar d.rs.length q.kr vs
  ls : LentR B w vs d.rs
theorem Lent.below {B : Nat} {w w' : World} {q : DaAt} {d : Da} {vs : List Value} (h : Lent B w q d vs) (hb : Below w.heap.size w w') : Lent B w' q d vs :=
  ⟨h.ac, h.ar, h.co.below hb, own_same h.ro fun k _ hk => hb.block k hk, h.ls.below hb⟩
theorem own_take {base e size n m cap : Nat} {w : World} {a : Option Addr} {xs ys : List Value} (h : w.ownsRow base e size (.slice a (n + m) cap) (n + m) (xs ++ ys)) (ha : ∃ g, a = some ⟨g, 0, none⟩) (hx : xs.length = n * size) : w.ownsRow base e size (.slice a n cap) n xs := by
  obtain ⟨g, rfl⟩ := ha
  refine ⟨hx, ?_⟩
  rcases h.2 with ⟨hv, _⟩ | ⟨g2, cp, cur, hv, hb, hg, hn, hm, hs, ht⟩
  · injection hv with h1; cases h1
  · injection hv with h1 h2 h3
    injection h1 with h1
    injection h1 with h1
    subst h1 h3
    refine .inr ⟨g, cap, cur, rfl, hb, hg, by omega, hm, hs, ?_⟩
    have := congrArg (List.take (n * size)) ht
    rw [List.take_take, List.take_append_of_le_length (by omega), ← hx, List.take_length] at this
    rw [← this, hx]
    congr 1
    have : n * size ≤ (n + m) * size := Nat.mul_le_mul_right size (by omega)
    omega
theorem Lent.cols {B : Nat} {w : World} {q : DaAt} {d : Da} {vs : List Value} (h : Lent B w q d vs) : OwnCo B w q.ac q.kc d.cs := by
  have hc := h.co
  unfold OwnCo at hc ⊢
  rw [rowCo_append, List.length_append] at hc
  exact own_take hc h.ac (rowCo_length d.cs)
theorem Lent.is {B : Nat} {w : World} {q : DaAt} {d : Da} {vs : List Value} (h : Lent B w q d vs) : DaIs w q d := by
  refine ⟨h.cols.isX, ?_, ?_, ?_⟩
  · obtain ⟨g, hg⟩ := h.ar
    refine .inr ⟨g, 0, hg, fun i hi => ?_⟩
    obtain ⟨gi, ci, h1, h2⟩ := h.ls.2 i hi
    have hro := h.ro
    rw [hg] at hro
    refine ⟨_, by rw [Nat.zero_add]; exact OwnR.read hro i _ h1, some ⟨gi, 0, none⟩, ci, rfl, ?_, fun e => by cases e⟩
    have := h2.isV.take d.rs[i].length
    rwa [List.take_left] at this
  · obtain ⟨g, hg⟩ := h.ac
    rw [hg]; intro e; cases e
  · obtain ⟨g, hg⟩ := h.ar
    rw [hg]; intro e; cases e
/-- What lent answers, as an ending. -/
def LentPost (w : World) (d : Da) (e : Ending) (w' : World) : Prop := ∃ q vs, e = .returned (.agg #[.int .i64 d.n, .slice q.ac d.cs.length q.kc, .slice q.ar d.rs.length q.kr]) ∧ Lent w.heap.size w' q d vs ∧ Below w.heap.size w w'

set_option maxRecDepth 100000 in
set_option maxHeartbeats 1000000 in
theorem filelent_any (w : World) (p : DaAt) (d : Da) (hd : DaIs w p d) (h1 : (d.cs.length + 2) * 32 ≤ 140737488355328) (h2 : (d.rs.length + 1) * 24 ≤ 140737488355328) (h3 : ∀ r ∈ d.rs, (r.length + 2) * 40 ≤ 140737488355328) :
    Calls Tryz.prog 28 #[.agg #[.int .i64 d.n, .slice p.ac d.cs.length p.kc, .slice p.ar d.rs.length p.kr]] w (LentPost w d) := by
  obtain ⟨ac, kc, ar, kr⟩ := p
  simp only at *
  obtain ⟨u, hu⟩ : ∃ u, u = w.alloc (.cells #[.int .i64 d.n, .slice ac d.cs.length kc, .slice ar d.rs.length kr] 55) := ⟨_, rfl⟩
  obtain ⟨v, hv⟩ : ∃ v, v = u.alloc (.cells #[.int .i64 0, .slice none 0 0, .slice none 0 0] 55) := ⟨_, rfl⟩
  have hb0 : Below w.heap.size w u := by rw [hu]; exact (Below.refl _ _).alloc (Nat.le_refl _) _
  have hb1 : Below u.heap.size u v := by rw [hv]; exact (Below.refl _ _).alloc (Nat.le_refl _) _
  have hs0 : DSlot u w.heap.size ⟨ac, kc, ar, kr⟩ d := by rw [hu]; exact DSlot.new w ⟨ac, kc, ar, kr⟩ d
  have HS := Lib.hid (hs0.below hb1)
  have HZ := Lib.hid (show DSlot v u.heap.size ⟨none, 0, none, 0⟩ ⟨0, [], []⟩ by rw [hv]; exact DSlot.new u ⟨none, 0, none, 0⟩ ⟨0, [], []⟩)
  have HB := Lib.hid (hb0.trans (hb1.mono hb0.size))
  have HD := Lib.hid ((hd.below hb0).below hb1)
  have huz : u.heap.size = w.heap.size + 1 := by rw [hu]; simp
  have hvz : v.heap.size = w.heap.size + 1 + 1 := by rw [hv]; simp [huz]
  rw [huz] at HZ
  have hw : (w.alloc (.cells #[.int .i64 d.n, .slice ac d.cs.length kc, .slice ar d.rs.length kr] 55)).alloc (.cells #[.int .i64 0, .slice none 0 0, .slice none 0 0] 55) = v := by rw [hv, hu]
  have TC := Lib.hid (lendcols_any v.drew ac kc d.cs (HD.out.c.keep (w' := v.drew) (fun _ _ => rfl)) HD.out.nc h1)
  have TR := Lib.hid (fun (x : World) (hx : Below v.heap.size v x) => lendrows_any x ar kr d.rs (HD.out.r.below hx) h2 h3)
  have HVZ := Lib.hid hvz
  clear hu hv hb0 hb1 hs0 huz hd h1 h2 h3 hvz HD
  obtain ⟨b0, b1, b2⟩ := HS.out.at
  simp only at b0 b1 b2
  go_enter Tryz.func28, Tryz.ntmps28
  go_upto_region 1 with fail
  clear hw
  go_region_law (first
    | (go_simp; go_at_call 65; refine TC.out.mono ?_; rintro e w5 ⟨g5, c5, rfl, ho5, hb5⟩; have HX5 := Lib.hid (show Below v.heap.size v w5 from ⟨hb5.os, hb5.tape, hb5.output, hb5.size, hb5.block⟩); have HO5 : Hid (OwnCo v.heap.size w5 (some ⟨g5, 0, none⟩) c5 (d.cs ++ [markCo, markCo])) := ho5; obtain ⟨d0, d1, d2⟩ := (HS.out.below HX5.out).at; simp only at d0 d1 d2; obtain ⟨z0, z1, z2⟩ := (HZ.out.below HX5.out).at; clear ho5 hb5)
    | (go_simp; go_at_call 66; refine (TR.out w5 HX5.out).mono ?_; rintro e w6 ⟨g6, c6, vs, rfl, ho6, hl6, hb6⟩; have HX6 := Lib.hid (HX5.out.trans (hb6.mono HX5.out.size)); have HO6 := Lib.hid (HO5.out.below hb6); have HR6 := Lib.hid (own_lower ho6 HX5.out.size); have HL6 := Lib.hid (show LentR v.heap.size w6 vs d.rs from ⟨hl6.1, fun i hi => by obtain ⟨gi, ci, k1, k2⟩ := hl6.2 i hi; exact ⟨gi, ci, k1, OwnV.lower k2 HX5.out.size⟩⟩); have hz6 := HZ.out.below HX6.out; obtain ⟨y0, y1, y2⟩ := hz6.froz; obtain ⟨x0, x1, x2⟩ := hz6.at; simp only at x0 x1 x2; have HZ6 := Lib.hid hz6; obtain ⟨d0, d1, d2⟩ := (HS.out.below HX6.out).at; simp only at d0 d1 d2; clear ho6 hl6 hb6 hz6))
  all_goals (
    go_wp2
    change bodyPost _ _ _ _ _ (putD w6 (w.heap.size + 1) ⟨some ⟨g5, 0, none⟩, c5, some ⟨g6, 0, none⟩, c6⟩ d)
    have hp := HZ6.out.put ⟨some ⟨g5, 0, none⟩, c5, some ⟨g6, 0, none⟩, c6⟩ d
    have hpf := putD_frm (F := fun k => k = w.heap.size + 1) rfl w6 ⟨some ⟨g5, 0, none⟩, c5, some ⟨g6, 0, none⟩, c6⟩ d
    generalize putD w6 (w.heap.size + 1) ⟨some ⟨g5, 0, none⟩, c5, some ⟨g6, 0, none⟩, c6⟩ d = w9 at *
    clear b0 b1 b2 d0 d1 d2 x0 x1 x2 y0 y1 y2
    obtain ⟨b0, b1, b2⟩ := hp.at
    simp only at b0 b1 b2
    refine bodyPost_ret (v := .agg #[.int .i64 d.n, .slice (some ⟨g5, 0, none⟩) d.cs.length c5, .slice (some ⟨g6, 0, none⟩) d.rs.length c6]) (by simp [results, Tryz.results28, go_sem, b0, b1, b2]) rfl ?_
    have hvz := HVZ.out
    refine ⟨⟨some ⟨g5, 0, none⟩, c5, some ⟨g6, 0, none⟩, c6⟩, vs, rfl, ⟨⟨g5, rfl⟩, ⟨g6, rfl⟩, ?_, ?_, ?_⟩, Frm.to_below (HB.out.trans (HX6.out.mono HB.out.size)) hpf (fun k e => by omega) (Nat.le_refl _)⟩
    · exact (HO6.out.frm hpf fun k hk _ e => by have := (HO6.out.at_ge hk).1; omega).lower HB.out.size
    · exact own_lower (own_by HR6.out hpf fun k hk _ e => by have := (own_ge HR6.out hk).1; omega) HB.out.size
    · refine ⟨HL6.out.1, fun i hi => ?_⟩
      obtain ⟨gi, ci, k1, k2⟩ := HL6.out.2 i hi
      exact ⟨gi, ci, k1, OwnV.lower (k2.frm hpf fun k hk _ e => by have := (k2.at_ge hk).1; omega) HB.out.size⟩)
end Go.Proofs.YtfbmlefhjoblbaaGreat
