/- Lists of rows of values in memory: what the statements' helpers do with them. -/
import Derived.Test.YtfbmlefhjoblbaaGreatValLQ
import Derived.Test.YtfbmlefhjoblbaaGreatValCQ
import Derived.Deep.Cut
import Derived.Laws.MakeOwn
namespace Go.Proofs.YtfbmlefhjoblbaaGreat
open Go.Conc Go.RowKit
set_option linter.unusedVariables false
set_option linter.unusedSimpArgs false

/-- A cell that is a row's. -/
def RowIs (w : World) (u : Value) (vs : List V) : Prop := ∃ a c, u = .slice a vs.length c ∧ IsV w a vs ∧ (a = none → vs.length = 0 ∧ c = 0)
theorem RowIs.below {w w' : World} {u : Value} {vs : List V} (h : RowIs w u vs) (hb : Below w.heap.size w w') : RowIs w' u vs := by
  obtain ⟨a, c, h1, h2, h3⟩ := h
  exact ⟨a, c, h1, h2.below hb, h3⟩
/-- A list of rows that can be read. -/
def IsR (w : World) (a : Option Addr) (rs : List (List V)) : Prop :=
  rs = [] ∨ ∃ b off, a = some ⟨b, off, none⟩ ∧ ∀ i (h : i < rs.length), ∃ u, w.cell? ⟨b, off + i, none⟩ = some u ∧ RowIs w u rs[i]
theorem IsR.below {w w' : World} {a : Option Addr} {rs : List (List V)} (h : IsR w a rs) (hb : Below w.heap.size w w') : IsR w' a rs := by
  rcases h with h | ⟨b, off, rfl, h⟩
  · exact .inl h
  · refine .inr ⟨b, off, rfl, fun i hi => ?_⟩
    obtain ⟨u, h1, h2⟩ := h i hi
    exact ⟨u, (World.cell?_of_block (hb.block b (World.block_lt_of_cell? w ⟨b, off + i, none⟩ h1))).trans h1, h2.below hb⟩
theorem IsR.take {w : World} {a : Option Addr} {rs : List (List V)} (h : IsR w a rs) (n : Nat) : IsR w a (rs.take n) := by
  rcases h with rfl | ⟨b, off, rfl, h⟩
  · exact .inl (by simp)
  · refine .inr ⟨b, off, rfl, fun i hi => ?_⟩
    rw [List.length_take] at hi
    rw [List.getElem_take]
    exact h i (by omega)

set_option maxRecDepth 100000 in
set_option maxHeartbeats 1000000 in
theorem samerows_any (w : World) (a b : Option Addr) (ca cb : Nat) (xs ys : List (List V)) (ha : IsR w a xs) (hb : IsR w b ys) (hx : xs.length ≤ maxLen) (hl : ∀ r ∈ xs, r.length ≤ maxLen) :
    Calls Tryz.prog 73 #[.slice a xs.length ca, .slice b ys.length cb] w fun e w' => e = .returned (.bool (decide (xs = ys))) ∧ Below w.heap.size w w' := by
  unfold maxLen at hx
  by_cases hn : xs.length = ys.length
  · have hd : ∀ n, n ≤ xs.length → xs.take n = ys.take n → (xs = ys ↔ xs.drop n = ys.drop n) := fun n _ h => by
      constructor
      · intro e; rw [e]
      · intro e; rw [← List.take_append_drop n xs, ← List.take_append_drop n ys, h, e]
    obtain ⟨R, hR⟩ : ∃ R, R = decide (xs = ys) := ⟨_, rfl⟩
    rw [← hR]
    rw [← hn]
    have HN := Lib.hid hn
    have HR := Lib.hid hR
    have HD := Lib.hid hd
    have HL := Lib.hid hl
    clear hn hR hd hl
    go_enter Tryz.func73, Tryz.ntmps73
    go_wp2
    go_loopw [5] (fun iv wr => ∃ n : Nat, n ≤ xs.length ∧ iv = .int .i64 n ∧ Hid (xs.take n = ys.take n) ∧ Hid (Below w.heap.size w wr)) (fun iv _ => xs.length - (intOf iv).toNat)
    case atStart => exact ⟨0, Nat.zero_le _, rfl, rfl, Below.refl _ _⟩
    case round =>
      obtain ⟨n, hle, rfl, HT, HB⟩ := hrel
      by_cases c : n < xs.length
      · have hne : xs ≠ [] := fun e => by rw [e] at c; simp at c
        have hney : ys ≠ [] := fun e => by have := HN.out; rw [e] at this; simp at this; rw [this] at c; simp at c
        have ha' := ha.below HB.out
        have hb' := hb.below HB.out
        rcases ha' with ha' | ⟨ba, oa, rfl, ha'⟩
        · exact absurd ha' hne
        rcases hb' with hb' | ⟨bb, ob, rfl, hb'⟩
        · exact absurd hb' hney
        have cy : n < ys.length := by have := HN.out; omega
        obtain ⟨u1, p1, ax, kx, rfl, vx, _⟩ := ha' n c
        obtain ⟨u2, p2, ay, ky, rfl, vy, _⟩ := hb' n cy
        have hlx := HL.out _ (List.getElem_mem c)
        have hx1 : xs.drop n = xs[n] :: xs.drop (n + 1) := List.drop_eq_getElem_cons c
        have hy1 : ys.drop n = ys[n] :: ys.drop (n + 1) := List.drop_eq_getElem_cons cy
        have hx2 : xs.take (n + 1) = xs.take n ++ [xs[n]] := (List.take_append_getElem c).symm
        have hy2 : ys.take (n + 1) = ys.take n ++ [ys[n]] := (List.take_append_getElem cy).symm
        have HE := Lib.hid (HD.out n (by omega) HT.out)
        have HX1 := Lib.hid hx1
        have HY1 := Lib.hid hy1
        have HX2 := Lib.hid hx2
        have HY2 := Lib.hid hy2
        have hcy : (n : Int) < (ys.length : Int) := by omega
        have P1 := Lib.hid p1
        have P2 := Lib.hid p2
        clear hx1 hy1 hx2 hy2 ha hb ha' hb' hne hney p1 p2
        generalize xs[n] = x at *
        generalize ys[n] = y at *
        have T := Lib.hid (fun (u : World) (hu : Below wr.heap.size wr u) => samevals_any u ax ay kx ky x y (vx.below hu) (vy.below hu) hlx)
        clear vx vy hlx
        have hpl1 : ∀ u, Below wr.heap.size wr u → u.cell? ⟨ba, oa + n, none⟩ = some (.slice ax x.length kx) := fun u hu => (World.cell?_of_block (hu.block ba (World.block_lt_of_cell? wr ⟨ba, oa + n, none⟩ P1.out))).trans P1.out
        have hpl2 : ∀ u, Below wr.heap.size wr u → u.cell? ⟨bb, ob + n, none⟩ = some (.slice ay y.length ky) := fun u hu => (World.cell?_of_block (hu.block bb (World.block_lt_of_cell? wr ⟨bb, ob + n, none⟩ P2.out))).trans P2.out
        have HP1 := Lib.hid hpl1
        have HP2 := Lib.hid hpl2
        clear hpl1 hpl2 P1 P2
        obtain ⟨D, hD⟩ : ∃ D, D = decide (x = y) := ⟨_, rfl⟩
        rw [← hD] at T
        have HDD := Lib.hid hD
        clear hD
        go_upto_region 6 with fail
        refine region_class (fun w' => Below wr.heap.size wr w') (by kernel_rfl) (by kernel_rfl) (Below.refl _ _).drew ?_
        repeat (
          refine wpQuiet_step (fun K9 hK => ?_)
          go_simp
          first
          | (refine hK _ ?_; clear hK K9)
          | (apply Exists.intro
             refine ⟨fun w1 hw1 => ?_, hK _ ?_⟩
             (first
               | (exact rfl)
               | (go_at_call 25; exact (T.out _ hw1).mono fun e w2 ⟨he, hb⟩ => ⟨he, hw1.trans (hb.mono hw1.size)⟩)
               | (have p1 := HP1.out _ hw1; have p2 := HP2.out _ hw1; simp only [p1, p2, Result.andThen]; exact ⟨trivial, rfl⟩)
               | (exact ⟨trivial, rfl⟩))
             clear hK K9))
        refine wpQuiet_nil ?_
        intro w9 hw9
        have HB9 := Lib.hid (HB.out.trans (hw9.mono HB.out.size))
        clear hw9 T HP1 HP2
        cases D
        · have hf : R = false := by
            rw [HR.out, decide_eq_false_iff_not, HE.out, HX1.out, HY1.out]
            intro k
            injection k with k1 k2
            exact of_decide_eq_false HDD.out.symm k1
          subst hf
          go_wp2
          go_ret
          exact ⟨rfl, HB9.out⟩
        · have hxy : x = y := of_decide_eq_true HDD.out.symm
          have HQE := Lib.hid hxy
          clear hxy
          go_wp2
          go_roundw
          case rel => exact ⟨n + 1, by omega, by go_num, Lib.hid (by rw [HX2.out, HY2.out, HT.out, HQE.out]), HB9⟩
          case measure => simp [intOf]; omega
      · obtain rfl : n = xs.length := by omega
        have ht : R = true := by
          have h1 := HT.out
          rw [List.take_length, HN.out, List.take_length] at h1
          rw [HR.out, h1]; simp
        subst ht
        clear c
        go_wp2
        go_ret
        exact ⟨rfl, HB.out⟩
  · have hne : ((xs.length : Int) != (ys.length : Int)) = true := by simp; omega
    have hf : decide (xs = ys) = false := decide_eq_false fun e => hn (by rw [e])
    rw [hf]
    go_enter Tryz.func73, Tryz.ntmps73
    go_wp2
    go_ret
    exact ⟨rfl, Below.refl _ _⟩

/-- Rows that are lent: each in a place with marked room behind it. -/
def LentR (base : Nat) (w : World) (cs : List Value) (rs : List (List V)) : Prop := cs.length = rs.length ∧ ∀ i (h : i < rs.length), ∃ gi ci, cs[i]? = some (.slice (some ⟨gi, 0, none⟩) rs[i].length ci) ∧ OwnV base w (some ⟨gi, 0, none⟩) ci (rs[i] ++ [markV, markV])
theorem LentR.same {base : Nat} {w w' : World} {cs : List Value} {rs : List (List V)} (h : LentR base w cs rs) (hs : ∀ g c xs, OwnV base w (some ⟨g, 0, none⟩) c xs → OwnV base w' (some ⟨g, 0, none⟩) c xs) : LentR base w' cs rs :=
  ⟨h.1, fun i hi => by obtain ⟨gi, ci, h1, h2⟩ := h.2 i hi; exact ⟨gi, ci, h1, hs _ _ _ h2⟩⟩
theorem LentR.below {base : Nat} {w w' : World} {cs : List Value} {rs : List (List V)} (h : LentR base w cs rs) (hb : Below w.heap.size w w') : LentR base w' cs rs := h.same fun _ _ _ h => h.below hb
theorem LentR.snoc {base : Nat} {w : World} {cs : List Value} {rs : List (List V)} (h : LentR base w cs rs) {g c : Nat} {r : List V} (ho : OwnV base w (some ⟨g, 0, none⟩) c (r ++ [markV, markV])) : LentR base w (cs ++ [.slice (some ⟨g, 0, none⟩) r.length c]) (rs ++ [r]) := by
  refine ⟨by simp [h.1], fun i hi => ?_⟩
  by_cases e : i < rs.length
  · obtain ⟨gi, ci, h1, h2⟩ := h.2 i e
    refine ⟨gi, ci, ?_, ?_⟩
    · rw [List.getElem?_append_left (by rw [h.1]; exact e), List.getElem_append_left e]; exact h1
    · rw [List.getElem_append_left e]; exact h2
  · have e2 : i = rs.length := by simp at hi; omega
    subst e2
    refine ⟨g, c, ?_, ?_⟩
    · rw [List.getElem?_append_right (by rw [h.1]; exact Nat.le_refl _), h.1, Nat.sub_self]; simp
    · simp only [List.getElem_append_right (Nat.le_refl _), Nat.sub_self, List.getElem_singleton]; exact ho
def OwnR (base : Nat) (w : World) (a : Option Addr) (n cap : Nat) (cs : List Value) : Prop := w.ownsRow base 82 1 (.slice a n cap) n cs
def zRowVal : Value := .agg #[.slice none 0 0]
theorem infoRow : (Tryz.prog.info? 82).map (fun i => (i.zero, i.size, i.bytes)) = some (some zRowVal, 1, 24) := by kernel_rfl
theorem rowtypes_apart : (24 : Nat) ≠ 82 := by decide
theorem OwnR.read {base : Nat} {w : World} {g n cap : Nat} {cs : List Value} (h : OwnR base w (some ⟨g, 0, none⟩) n cap cs) (j : Nat) (u : Value) (hj : cs[j]? = some u) : w.cell? ⟨g, j, none⟩ = some u := by
  have := World.ownsRow.cells h (g := g) rfl j u hj
  rwa [addr_off, Nat.zero_add] at this

theorem one_row (w : World) (u : Value) : ∀ j v, [u][j]? = some v → (w.alloc (.cells #[u] 82)).cell? ((⟨w.heap.size, 0, none⟩ : Addr).add j) = some v := by
  intro j v hj
  have hj0 : j = 0 := by have := (List.getElem?_eq_some_iff.1 hj).1; simp at this; omega
  subst hj0
  rw [addr_off, Nat.zero_add, cell_of_row _ _ _ _ _ _ (heap_alloc_new w (.cells #[u] 82))]
  simpa using hj
set_option maxRecDepth 100000 in
set_option maxHeartbeats 2000000 in
theorem lendrows_any (w : World) (a : Option Addr) (cap : Nat) (rs : List (List V)) (ha : IsR w a rs) (hx : (rs.length + 1) * 24 ≤ 140737488355328) (hl : ∀ r ∈ rs, (r.length + 2) * 40 ≤ 140737488355328) :
    Calls Tryz.prog 66 #[.slice a rs.length cap] w fun e w' => ∃ g c cs, e = .returned (.slice (some ⟨g, 0, none⟩) rs.length c) ∧ OwnR w.heap.size w' (some ⟨g, 0, none⟩) rs.length c cs ∧ LentR w.heap.size w' cs rs ∧ Below w.heap.size w w' := by
  obtain ⟨i0, hi0, hz0, hz1, hz2⟩ := info_parts infoRow
  have hr := run_make (P := Tryz.prog) w 53 82 i0 _ Tryz.underlying53 hi0 hz0 .i64 .i64 0 ((rs.length : Int) + 1) (by omega) (by omega) (by rw [hz2]; omega) (by omega)
  have e1 : ((rs.length : Int) + 1).toNat = rs.length + 1 := by omega
  rw [e1, hz1, Nat.mul_one, show Int.toNat 0 = 0 from rfl] at hr
  obtain ⟨C, hC⟩ : ∃ C, C = madeCells zRowVal.cells (rs.length + 1) := ⟨_, rfl⟩
  have hcz : C.size = (rs.length + 1) * 1 := by rw [hC, size_madeCells, Nat.mul_one]
  rw [← hC] at hr
  have hown : OwnR w.heap.size (w.alloc (.cells C 82)) (some ⟨w.heap.size, 0, none⟩) 0 (rs.length + 1) [] := World.ownsRow_made w C (rs.length + 1) (Nat.le_refl _) (by simp only [maxLen]; omega) hcz
  have HO := Lib.hid hown
  have HA := Lib.hid ha
  have HL := Lib.hid hl
  have HZ := Lib.hid hz0
  have HB0 : Hid (Below w.heap.size w (w.alloc (.cells C 82))) := (Below.refl _ _).alloc (Nat.le_refl _) _
  clear hown ha hl hC hcz hz0 e1
  go_enter Tryz.func66, Tryz.ntmps66
  go_upto_region 2 with fail
  generalize w.alloc (.cells C 82) = w0 at *
  go_wp2
  go_loopw [3, 4] (fun ov iv wr => ∃ (n g c : Nat) (cs : List Value), n ≤ rs.length ∧ iv = .int .i64 n ∧ ov = .slice (some ⟨g, 0, none⟩) n c ∧ Hid (OwnR w.heap.size wr (some ⟨g, 0, none⟩) n c cs) ∧ Hid (LentR w.heap.size wr cs (rs.take n)) ∧ Hid (Below w.heap.size w wr)) (fun ov iv _ => rs.length - (intOf iv).toNat)
  case atStart => exact ⟨0, w.heap.size, rs.length + 1, [], Nat.zero_le _, rfl, rfl, HO, ⟨rfl, fun i hi => by simp at hi⟩, HB0⟩
  case round =>
    obtain ⟨n, g, c, cs, hle, rfl, rfl, HW, HE, HB⟩ := hrel
    clear HO HB0
    by_cases cn : n < rs.length
    · have h1 := HA.out.below HB.out
      rcases h1 with h1 | ⟨b, off, rfl, h1⟩
      · subst h1; simp at cn
      obtain ⟨u, p1, ax, kx, rfl, vx, nx⟩ := h1 n cn
      have hlx := HL.out _ (List.getElem_mem cn)
      have htk : rs.take (n + 1) = rs.take n ++ [rs[n]] := (List.take_append_getElem cn).symm
      have HTK := Lib.hid htk
      have hni : (n : Int) < (rs.length : Int) := by omega
      clear h1 htk
      generalize rs[n] = x at *
      have T := Lib.hid (lendvals_any wr ax kx x vx nx hlx)
      have hcl := HW.out.1
      clear vx nx hlx
      go_upto_region 4 with (first
        | (go_at_call 13; refine T.out.mono ?_; rintro e w1 ⟨gx, cx, rfl, ho, hb⟩; have HX := Lib.hid (own_lower ho HB.out.size); have HW1 := Lib.hid (own_same HW.out fun k _ hk => hb.block k hk); have HE1 := Lib.hid (HE.out.below hb); have HB1 := Lib.hid (HB.out.trans (hb.mono HB.out.size)); clear ho hb T p1)
        | (at_builtin; refine wpList_append_own _ rfl _ _ 53 rfl w.heap.size 82 i0 zRowVal 1 24 Tryz.underlying53 hi0 HZ.out hz1 hz2 rfl (by decide) (.slice (some ⟨g, 0, none⟩) n c) n cs rfl (own_same HW1.out fun k _ hk => Below.heap_alloc w1 _ k hk) ⟨w1.heap.size, 0, none⟩ 1 1 [.slice (some ⟨gx, 0, none⟩) x.length cx] rfl rfl (one_row w1 _) (fun u hu => by simp at hu; subst hu; rfl) (by simp only [maxLen]; omega) (by omega) (Nat.le_trans HB1.out.size (by simp)) ?_; intro v2 w2 h2 g2 n2; have hal := own_same HW1.out fun k _ hk => Below.heap_alloc w1 (.cells #[.slice (some ⟨gx, 0, none⟩) x.length cx] 82) k hk; have HE2 := Lib.hid ((HE1.out.same (fun _ _ _ h => h.alloc (.cells #[.slice (some ⟨gx, 0, none⟩) x.length cx] 82))).same fun _ _ _ h => own_apart h hal rowtypes_apart g2); have HX2 := Lib.hid (own_apart (OwnV.alloc HX.out (.cells #[.slice (some ⟨gx, 0, none⟩) x.length cx] 82)) hal rowtypes_apart g2); have HB2 := Lib.hid (grown_below (HB1.out.alloc HB1.out.size (.cells #[.slice (some ⟨gx, 0, none⟩) x.length cx] 82)) (Nat.le_refl _) g2 fun k hk => own_block hal hk.symm); obtain ⟨gg, cp, rfl, hbg, hgl, hcp, hcm⟩ := own_some h2 (by rw [ne_eq, n2]; simp); have HW2 := Lib.hid h2; clear h2 g2 n2 hal HW HE HB HX HW1 HE1 HB1 hbg hgl hcp hcm))
      go_wp2
      go_roundw
      case rel => exact ⟨n + 1, gg, cp, _, by omega, by go_num, rfl, HW2, by rw [HTK.out]; exact LentR.snoc HE2.out HX2.out, HB2⟩
      case measure => simp [intOf]; omega
    · obtain rfl : n = rs.length := by omega
      rw [List.take_length] at HE
      clear cn
      go_wp2
      go_ret
      exact ⟨g, c, cs, rfl, HW.out, HE.out, HB.out⟩
end Go.Proofs.YtfbmlefhjoblbaaGreat
