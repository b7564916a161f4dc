/- Lists of rows that came in, as arguments of a law. Files' data that came in, as an argument of a law. The statements' data lent, with marked room behind its lists. -/
import Derived.Test.YtfbmlefhjoblbaaGreatRowLQ
import Derived.ChangeSame
import Derived.Deep.Slices
import Derived.Deep.Strs
import Derived.Test.YtfbmlefhjoblbaaGreatDatLQ
import Derived.Deep.RegionLaw
namespace Go.Proofs.YtfbmlefhjoblbaaGreat
open Go.ChangeShapes Go.WideShapes Go.ChangeAt Go.RowKit
set_option linter.unusedVariables false
set_option linter.unusedSimpArgs false

theorem bytesRow : Tryz.prog.bytesOf 82 = 24 := by kernel_rfl
theorem cellsRow : Tryz.prog.cellsOf 82 = 1 := by kernel_rfl
theorem cellsVals : Tryz.prog.cellsOf 22 = 1 := by kernel_rfl
/-- What is known of a row that came in. -/
structure InRow (vs : List V) : Prop where
  len : vs.length * 40 ≤ 140737488351232
  txt : ∀ v ∈ vs, v.s.size ≤ 140737488351232
  num : ∀ v ∈ vs, -9223372036854775808 ≤ v.i ∧ v.i < 9223372036854775808
theorem one_weight {H : Type} {d : DataW H} {t : TypeId} (hw : ∀ x ∈ d.weights Tryz.prog t, x ≤ reachBytes) : (DataW.weightsEach Tryz.prog [t] [d]).all (· ≤ reachBytes) = true := by
  rw [List.all_eq_true]
  intro x hx
  simp [DataW.weightsEach] at hx
  simpa using hw x hx
set_option maxRecDepth 100000 in
theorem row_open {H : Type} {enc : TypeId × Value → H} {W : World} {hh : Bool} {n : Nat} {cs : List Value} {d : DataW H} {ps : List MemPlace} (hw : ∀ x ∈ d.weights Tryz.prog 82, x ≤ reachBytes) (ht : DataW.trod enc Tryz.prog W 0 (fun _ => true) hh n 82 cs = some (d, ps)) :
    ∃ u vs, cs = [u] ∧ RowIs W u vs ∧ InRow vs := by
  obtain ⟨y0, m, hx, hl, h0⟩ := trod_struct1 Tryz.underlying82 ht
  rw [cellsRow] at hl
  match cs, hl with
  | [u], _ =>
    simp only [cellsVals, List.drop_zero, List.take_succ_cons, List.take_zero] at h0
    injection hx with hx1 hx2
    subst hx1
    have hwe : ∀ x ∈ y0.1.weights Tryz.prog 22, x ≤ reachBytes := by
      intro x hxm
      refine hw x ?_
      have := DataW.weights_mem_each (P := Tryz.prog) (ts := [22]) (ds := [y0.1]) (j := 0) rfl rfl x hxm
      unfold DataW.weights
      rw [Tryz.underlying82]
      exact this
    have hform : ∃ a len cap, u = .slice a len cap := by
      rcases Deep.open_slice Tryz.underlying22 h0 with ⟨hcs, _⟩ | ⟨x, l, c, _, _, _, _, hcs, _⟩
      · simp at hcs; exact ⟨_, _, _, hcs⟩
      · simp at hcs; exact ⟨_, _, _, hcs⟩
    obtain ⟨a, len, cap, rfl⟩ := hform
    obtain ⟨xs, h1, h2, h3, h4, h5, h6⟩ := vals_argB (a := a) (len := len) (cap := cap) h0 (one_weight hwe) (j := 0) rfl rfl
    subst h1
    exact ⟨_, xs, rfl, ⟨a, cap, rfl, h2, h3⟩, ⟨h4, h5, h6⟩⟩
set_option maxRecDepth 100000 in
theorem rows_arg {H : Type} {enc : TypeId × Value → H} {W : World} {fuel : Nat} {a : Option Addr} {len cap : Nat} {d : DataW H} {p : List MemPlace} {hh : Bool}
    (h : DataW.trod enc Tryz.prog W 0 (fun _ => true) hh fuel 53 (Value.slice a len cap).cells.toList = some (d, p)) (hw : ∀ x ∈ d.weights Tryz.prog 53, x ≤ reachBytes) :
    ∃ rs : List (List V), rs.length = len ∧ IsR W a rs ∧ (a = none → rs.length = 0 ∧ cap = 0) ∧ rs.length * 24 ≤ 140737488351232 ∧ ∀ r ∈ rs, InRow r := by
  rcases Deep.open_slice Tryz.underlying53 h with ⟨hcs, _⟩ | ⟨x, l, c, m, n, D, Pl, hcs, _, hl, hm, hmm, hdd, hel⟩
  · simp [Value.cells] at hcs
    obtain ⟨rfl, rfl, rfl⟩ := hcs
    exact ⟨[], rfl, .inl rfl, fun _ => ⟨rfl, rfl⟩, by simp, fun x hx => by simp at hx⟩
  · simp [Value.cells] at hcs
    obtain ⟨rfl, rfl, rfl⟩ := hcs
    have hmc : m = cap := by simpa using hmm
    subst hmc
    injection hdd with hdd _
    rw [hdd] at hw
    have hw := weighV_slice Tryz.underlying53 hw
    rw [bytesRow, List.length_map, List.length_range] at hw
    have hw1 := hw.1
    simp only [reachBytes] at hw1
    have hx : ∀ i, ∃ vs : List V, i < len → ∃ u, W.cells? 0 (x.add i) 1 = some [u] ∧ RowIs W u vs ∧ InRow vs := by
      intro i
      by_cases hi : i < len
      · obtain ⟨cs', h1, h2⟩ := hel i (by omega)
        rw [cellsRow, Nat.mul_one] at h1
        obtain ⟨u, vs, rfl, h3, h4⟩ := row_open (hw.2 (D i) (List.mem_map.2 ⟨i, List.mem_range.2 hi, rfl⟩)) h2
        exact ⟨vs, fun _ => ⟨u, h1, h3, h4⟩⟩
      · exact ⟨[], fun h => absurd h hi⟩
    obtain ⟨X, hX⟩ := Classical.axiomOfChoice hx
    have hlen : ((List.range len).map X).length = len := by simp
    refine ⟨(List.range len).map X, hlen, ?_, (fun e => by cases e), by rw [hlen]; omega, fun v hv => ?_⟩
    · by_cases h0 : len = 0
      · exact .inl (by rw [h0]; rfl)
      · obtain ⟨b, off, spot⟩ := x
        have hsp : spot = none := by
          obtain ⟨u, h3, _⟩ := hX 0 (by omega)
          have h3 := (World.cells?_some h3).2.2 0 (by omega)
          cases spot with
          | none => rfl
          | some s => simp [Addr.add, World.cell?] at h3; split at h3 <;> simp at h3
        subst hsp
        refine .inr ⟨b, off, rfl, fun i hi => ?_⟩
        rw [hlen] at hi
        obtain ⟨u, h3, h4, _⟩ := hX i hi
        have h3 := (World.cells?_some h3).2.2 0 (by omega)
        have e : ((List.range len).map X)[i]'(by rw [hlen]; exact hi) = X i := by simp
        rw [e]
        simp only [addr_off, Nat.add_zero] at h3
        exact ⟨u, h3, h4⟩
    · obtain ⟨i, hi, rfl⟩ := List.mem_map.1 hv
      obtain ⟨u, _, _, h5⟩ := hX i (List.mem_range.1 hi)
      exact h5

theorem slice_form {H : Type} {enc : TypeId × Value → H} {W : World} {hh : Bool} {n : Nat} {u : Value} {d : DataW H × List MemPlace} {t e : TypeId} (ht : Tryz.prog.underlying t = some (.slice e)) (h : DataW.trod enc Tryz.prog W 0 (fun _ => true) hh n t [u] = some d) : ∃ a len cap, u = .slice a len cap := by
  rcases Deep.open_slice ht h with ⟨hcs, _⟩ | ⟨x, l, c, _, _, _, _, hcs, _⟩
  · simp at hcs; exact ⟨_, _, _, hcs⟩
  · simp at hcs; exact ⟨_, _, _, hcs⟩
end Go.Proofs.YtfbmlefhjoblbaaGreat

namespace Go.Proofs.YtfbmlefhjoblbaaGreat
open Go.ChangeShapes Go.WideShapes Go.ChangeAt Go.RowKit
set_option linter.unusedVariables false
set_option linter.unusedSimpArgs false

theorem cellsData : Tryz.prog.cellsOf 55 = 3 := by kernel_rfl
theorem cellsCols : Tryz.prog.cellsOf 52 = 1 := by kernel_rfl
theorem cellsRows : Tryz.prog.cellsOf 53 = 1 := by kernel_rfl
/-- What is known of data that came in. -/
structure InData (d : Da) : Prop where
  n : -9223372036854775808 ≤ d.n ∧ d.n < 9223372036854775808
  cl : d.cs.length * 32 ≤ 140737488351232
  cs : ∀ c ∈ d.cs, InCo c
  rl : d.rs.length * 24 ≤ 140737488351232
  rs : ∀ r ∈ d.rs, InRow r
def Da.cells (d : Da) (p : DaAt) : List Value := [.int .i64 d.n, .slice p.ac d.cs.length p.kc, .slice p.ar d.rs.length p.kr]
set_option maxRecDepth 100000 in
theorem data_open {H : Type} {enc : TypeId × Value → H} {W : World} {hh : Bool} {n : Nat} {cs : List Value} {d : DataW H} {ps : List MemPlace} (hw : ∀ x ∈ d.weights Tryz.prog 55, x ≤ reachBytes) (ht : DataW.trod enc Tryz.prog W 0 (fun _ => true) hh n 55 cs = some (d, ps)) :
    ∃ (p : DaAt) (x : Da), cs = x.cells p ∧ DaIs W p x ∧ InData x := by
  obtain ⟨y0, y1, y2, m, hx, hl, t0, t1, t2⟩ := Deep.trod_struct3 Tryz.underlying55 ht
  rw [cellsData] at hl
  match cs, hl with
  | [c0, c1, c2], _ =>
    simp only [cellsInt, cellsCols, cellsRows, List.drop_zero, List.drop_succ_cons, List.take_succ_cons, List.take_zero] at t0 t1 t2
    injection hx with hx1 hx2
    subst hx1
    have hwe : ∀ (j : Nat) (t : TypeId) (y : DataW H), [3, 52, 53][j]? = some t → [y0.1, y1.1, y2.1][j]? = some y → ∀ x ∈ y.weights Tryz.prog t, x ≤ reachBytes := by
      intro j t y h1 h2 x hxm
      refine hw x ?_
      have := DataW.weights_mem_each (P := Tryz.prog) (ts := [3, 52, 53]) (ds := [y0.1, y1.1, y2.1]) (j := j) h1 h2 x hxm
      unfold DataW.weights
      rw [Tryz.underlying55]
      exact this
    have m : IntKind.i64.min = -9223372036854775808 := rfl
    obtain ⟨r0, e0, _, wf0⟩ := DataW.trod_int Tryz.underlying3 t0
    simp only [List.cons.injEq, and_true] at e0
    subst e0
    obtain ⟨ac, lc, kc, rfl⟩ := slice_form Tryz.underlying52 t1
    obtain ⟨ar, lr, kr, rfl⟩ := slice_form Tryz.underlying53 t2
    obtain ⟨xc, h1, h2, h3, h4, h5⟩ := cos_arg (a := ac) (len := lc) (cap := kc) t1 (hwe 1 52 y1.1 rfl rfl)
    obtain ⟨xr, g1, g2, g3, g4, g5⟩ := rows_arg (a := ar) (len := lr) (cap := kr) t2 (hwe 2 53 y2.1 rfl rfl)
    subst h1 g1
    exact ⟨⟨ac, kc, ar, kr⟩, ⟨r0, xc, xr⟩, rfl, ⟨h2, g2, h3, g3⟩, ⟨by simp [Lit.wf] at wf0; show -9223372036854775808 ≤ r0 ∧ r0 < 9223372036854775808; omega, h4, h5, g4, g5⟩⟩
end Go.Proofs.YtfbmlefhjoblbaaGreat

namespace Go.Proofs.YtfbmlefhjoblbaaGreat
open Go.Conc Go.RowKit
set_option linter.unusedVariables false
set_option linter.unusedSimpArgs false

/-- Data lent. -/
structure Lent (B : Nat) (w : World) (q : DaAt) (d : Da) (vs : List Value) : Prop where
  ac : ∃ g, q.ac = some ⟨g, 0, none⟩
  ar : ∃ g, q.ar = some ⟨g, 0, none⟩
  co : OwnCo B w q.ac q.kc (d.cs ++ [markCo, markCo])
  ro : OwnR B w q.ar d.rs.length q.kr vs
  ls : LentR B w vs d.rs
theorem Lent.below {B : Nat} {w w' : World} {q : DaAt} {d : Da} {vs : List Value} (h : Lent B w q d vs) (hb : Below w.heap.size w w') : Lent B w' q d vs :=
  ⟨h.ac, h.ar, h.co.below hb, own_same h.ro fun k _ hk => hb.block k hk, h.ls.below hb⟩
theorem own_take {base e size n m cap : Nat} {w : World} {a : Option Addr} {xs ys : List Value} (h : w.ownsRow base e size (.slice a (n + m) cap) (n + m) (xs ++ ys)) (ha : ∃ g, a = some ⟨g, 0, none⟩) (hx : xs.length = n * size) : w.ownsRow base e size (.slice a n cap) n xs := by
  obtain ⟨g, rfl⟩ := ha
  refine ⟨hx, ?_⟩
  rcases h.2 with ⟨hv, _⟩ | ⟨g2, cp, cur, hv, hb, hg, hn, hm, hs, ht⟩
  · injection hv with h1; cases h1
  · injection hv with h1 h2 h3
    injection h1 with h1
    injection h1 with h1
    subst h1 h3
    refine .inr ⟨g, cap, cur, rfl, hb, hg, by omega, hm, hs, ?_⟩
    have := congrArg (List.take (n * size)) ht
    rw [List.take_take, List.take_append_of_le_length (by omega), ← hx, List.take_length] at this
    rw [← this, hx]
    congr 1
    have : n * size ≤ (n + m) * size := Nat.mul_le_mul_right size (by omega)
    omega
theorem Lent.cols {B : Nat} {w : World} {q : DaAt} {d : Da} {vs : List Value} (h : Lent B w q d vs) : OwnCo B w q.ac q.kc d.cs := by
  have hc := h.co
  unfold OwnCo at hc ⊢
  rw [rowCo_append, List.length_append] at hc
  exact own_take hc h.ac (rowCo_length d.cs)
theorem Lent.is {B : Nat} {w : World} {q : DaAt} {d : Da} {vs : List Value} (h : Lent B w q d vs) : DaIs w q d := by
  refine ⟨h.cols.isX, ?_, ?_, ?_⟩
  · obtain ⟨g, hg⟩ := h.ar
    refine .inr ⟨g, 0, hg, fun i hi => ?_⟩
    obtain ⟨gi, ci, h1, h2⟩ := h.ls.2 i hi
    have hro := h.ro
    rw [hg] at hro
    refine ⟨_, by rw [Nat.zero_add]; exact OwnR.read hro i _ h1, some ⟨gi, 0, none⟩, ci, rfl, ?_, fun e => by cases e⟩
    have := h2.isV.take d.rs[i].length
    rwa [List.take_left] at this
  · obtain ⟨g, hg⟩ := h.ac
    rw [hg]; intro e; cases e
  · obtain ⟨g, hg⟩ := h.ar
    rw [hg]; intro e; cases e
/-- What lent answers, as an ending. -/
def LentPost (w : World) (d : Da) (e : Ending) (w' : World) : Prop := ∃ q vs, e = .returned (.agg #[.int .i64 d.n, .slice q.ac d.cs.length q.kc, .slice q.ar d.rs.length q.kr]) ∧ Lent w.heap.size w' q d vs ∧ Below w.heap.size w w'

set_option maxRecDepth 100000 in
set_option maxHeartbeats 1000000 in
theorem filelent_any (w : World) (p : DaAt) (d : Da) (hd : DaIs w p d) (h1 : (d.cs.length + 2) * 32 ≤ 140737488355328) (h2 : (d.rs.length + 1) * 24 ≤ 140737488355328) (h3 : ∀ r ∈ d.rs, (r.length + 2) * 40 ≤ 140737488355328) :
    Calls Tryz.prog 28 #[.agg #[.int .i64 d.n, .slice p.ac d.cs.length p.kc, .slice p.ar d.rs.length p.kr]] w (LentPost w d) := by
  obtain ⟨ac, kc, ar, kr⟩ := p
  simp only at *
  obtain ⟨u, hu⟩ : ∃ u, u = w.alloc (.cells #[.int .i64 d.n, .slice ac d.cs.length kc, .slice ar d.rs.length kr] 55) := ⟨_, rfl⟩
  obtain ⟨v, hv⟩ : ∃ v, v = u.alloc (.cells #[.int .i64 0, .slice none 0 0, .slice none 0 0] 55) := ⟨_, rfl⟩
  have hb0 : Below w.heap.size w u := by rw [hu]; exact (Below.refl _ _).alloc (Nat.le_refl _) _
  have hb1 : Below u.heap.size u v := by rw [hv]; exact (Below.refl _ _).alloc (Nat.le_refl _) _
  have hs0 : DSlot u w.heap.size ⟨ac, kc, ar, kr⟩ d := by rw [hu]; exact DSlot.new w ⟨ac, kc, ar, kr⟩ d
  have HS := Lib.hid (hs0.below hb1)
  have HZ := Lib.hid (show DSlot v u.heap.size ⟨none, 0, none, 0⟩ ⟨0, [], []⟩ by rw [hv]; exact DSlot.new u ⟨none, 0, none, 0⟩ ⟨0, [], []⟩)
  have HB := Lib.hid (hb0.trans (hb1.mono hb0.size))
  have HD := Lib.hid ((hd.below hb0).below hb1)
  have huz : u.heap.size = w.heap.size + 1 := by rw [hu]; simp
  have hvz : v.heap.size = w.heap.size + 1 + 1 := by rw [hv]; simp [huz]
  rw [huz] at HZ
  have hw : (w.alloc (.cells #[.int .i64 d.n, .slice ac d.cs.length kc, .slice ar d.rs.length kr] 55)).alloc (.cells #[.int .i64 0, .slice none 0 0, .slice none 0 0] 55) = v := by rw [hv, hu]
  have TC := Lib.hid (lendcols_any v.drew ac kc d.cs (HD.out.c.keep (w' := v.drew) (fun _ _ => rfl)) HD.out.nc h1)
  have TR := Lib.hid (fun (x : World) (hx : Below v.heap.size v x) => lendrows_any x ar kr d.rs (HD.out.r.below hx) h2 h3)
  have HVZ := Lib.hid hvz
  clear hu hv hb0 hb1 hs0 huz hd h1 h2 h3 hvz HD
  obtain ⟨b0, b1, b2⟩ := HS.out.at
  simp only at b0 b1 b2
  go_enter Tryz.func28, Tryz.ntmps28
  go_upto_region 1 with fail
  clear hw
  go_region_law (first
    | (go_simp; go_at_call 65; refine TC.out.mono ?_; rintro e w5 ⟨g5, c5, rfl, ho5, hb5⟩; have HX5 := Lib.hid (show Below v.heap.size v w5 from ⟨hb5.os, hb5.tape, hb5.output, hb5.size, hb5.block⟩); have HO5 : Hid (OwnCo v.heap.size w5 (some ⟨g5, 0, none⟩) c5 (d.cs ++ [markCo, markCo])) := ho5; obtain ⟨d0, d1, d2⟩ := (HS.out.below HX5.out).at; simp only at d0 d1 d2; obtain ⟨z0, z1, z2⟩ := (HZ.out.below HX5.out).at; clear ho5 hb5)
    | (go_simp; go_at_call 66; refine (TR.out w5 HX5.out).mono ?_; rintro e w6 ⟨g6, c6, vs, rfl, ho6, hl6, hb6⟩; have HX6 := Lib.hid (HX5.out.trans (hb6.mono HX5.out.size)); have HO6 := Lib.hid (HO5.out.below hb6); have HR6 := Lib.hid (own_lower ho6 HX5.out.size); have HL6 := Lib.hid (show LentR v.heap.size w6 vs d.rs from ⟨hl6.1, fun i hi => by obtain ⟨gi, ci, k1, k2⟩ := hl6.2 i hi; exact ⟨gi, ci, k1, OwnV.lower k2 HX5.out.size⟩⟩); have hz6 := HZ.out.below HX6.out; obtain ⟨y0, y1, y2⟩ := hz6.froz; obtain ⟨x0, x1, x2⟩ := hz6.at; simp only at x0 x1 x2; have HZ6 := Lib.hid hz6; obtain ⟨d0, d1, d2⟩ := (HS.out.below HX6.out).at; simp only at d0 d1 d2; clear ho6 hl6 hb6 hz6))
  all_goals (
    go_wp2
    change bodyPost _ _ _ _ _ (putD w6 (w.heap.size + 1) ⟨some ⟨g5, 0, none⟩, c5, some ⟨g6, 0, none⟩, c6⟩ d)
    have hp := HZ6.out.put ⟨some ⟨g5, 0, none⟩, c5, some ⟨g6, 0, none⟩, c6⟩ d
    have hpf := putD_frm (F := fun k => k = w.heap.size + 1) rfl w6 ⟨some ⟨g5, 0, none⟩, c5, some ⟨g6, 0, none⟩, c6⟩ d
    generalize putD w6 (w.heap.size + 1) ⟨some ⟨g5, 0, none⟩, c5, some ⟨g6, 0, none⟩, c6⟩ d = w9 at *
    clear b0 b1 b2 d0 d1 d2 x0 x1 x2 y0 y1 y2
    obtain ⟨b0, b1, b2⟩ := hp.at
    simp only at b0 b1 b2
    refine bodyPost_ret (v := .agg #[.int .i64 d.n, .slice (some ⟨g5, 0, none⟩) d.cs.length c5, .slice (some ⟨g6, 0, none⟩) d.rs.length c6]) (by simp [results, Tryz.results28, go_sem, b0, b1, b2]) rfl ?_
    have hvz := HVZ.out
    refine ⟨⟨some ⟨g5, 0, none⟩, c5, some ⟨g6, 0, none⟩, c6⟩, vs, rfl, ⟨⟨g5, rfl⟩, ⟨g6, rfl⟩, ?_, ?_, ?_⟩, Frm.to_below (HB.out.trans (HX6.out.mono HB.out.size)) hpf (fun k e => by omega) (Nat.le_refl _)⟩
    · exact (HO6.out.frm hpf fun k hk _ e => by have := (HO6.out.at_ge hk).1; omega).lower HB.out.size
    · exact own_lower (own_by HR6.out hpf fun k hk _ e => by have := (own_ge HR6.out hk).1; omega) HB.out.size
    · refine ⟨HL6.out.1, fun i hi => ?_⟩
      obtain ⟨gi, ci, k1, k2⟩ := HL6.out.2 i hi
      exact ⟨gi, ci, k1, OwnV.lower (k2.frm hpf fun k hk _ e => by have := (k2.at_ge hk).1; omega) HB.out.size⟩)
end Go.Proofs.YtfbmlefhjoblbaaGreat
