/- Lists of rows of values in memory: what the statements' helpers do with them. -/
import Derived.Test.YthfakpekdjmpjaaValL
import Derived.Test.YthfakpekdjmpjaaValC
import Derived.Deep.Cut
import Derived.Laws.MakeOwn
namespace Go.Proofs.Ythfakpekdjmpjaa
open Go.Conc Go.RowKit
set_option linter.unusedVariables false
set_option linter.unusedSimpArgs false

/-- A cell that is a row's. -/
def RowIs (w : World) (u : Value) (vs : List V) : Prop := ∃ a c, u = .slice a vs.length c ∧ IsV w a vs ∧ (a = none → vs.length = 0 ∧ c = 0)
theorem RowIs.below {w w' : World} {u : Value} {vs : List V} (h : RowIs w u vs) (hb : Below w.heap.size w w') : RowIs w' u vs := by
  obtain ⟨a, c, h1, h2, h3⟩ := h
  exact ⟨a, c, h1, h2.below hb, h3⟩
/-- A list of rows that can be read. -/
def IsR (w : World) (a : Option Addr) (rs : List (List V)) : Prop :=
  rs = [] ∨ ∃ b off, a = some ⟨b, off, none⟩ ∧ ∀ i (h : i < rs.length), ∃ u, w.cell? ⟨b, off + i, none⟩ = some u ∧ RowIs w u rs[i]
theorem IsR.below {w w' : World} {a : Option Addr} {rs : List (List V)} (h : IsR w a rs) (hb : Below w.heap.size w w') : IsR w' a rs := by
  rcases h with h | ⟨b, off, rfl, h⟩
  · exact .inl h
  · refine .inr ⟨b, off, rfl, fun i hi => ?_⟩
    obtain ⟨u, h1, h2⟩ := h i hi
    exact ⟨u, (World.cell?_of_block (hb.block b (World.block_lt_of_cell? w ⟨b, off + i, none⟩ h1))).trans h1, h2.below hb⟩
theorem IsR.take {w : World} {a : Option Addr} {rs : List (List V)} (h : IsR w a rs) (n : Nat) : IsR w a (rs.take n) := by
  rcases h with rfl | ⟨b, off, rfl, h⟩
  · exact .inl (by simp)
  · refine .inr ⟨b, off, rfl, fun i hi => ?_⟩
    rw [List.length_take] at hi
    rw [List.getElem_take]
    exact h i (by omega)


/-- Rows that are lent: each in a place with marked room behind it. -/
def LentR (base : Nat) (w : World) (cs : List Value) (rs : List (List V)) : Prop := cs.length = rs.length ∧ ∀ i (h : i < rs.length), ∃ gi ci, cs[i]? = some (.slice (some ⟨gi, 0, none⟩) rs[i].length ci) ∧ OwnV base w (some ⟨gi, 0, none⟩) ci (rs[i] ++ [markV, markV])
theorem LentR.same {base : Nat} {w w' : World} {cs : List Value} {rs : List (List V)} (h : LentR base w cs rs) (hs : ∀ g c xs, OwnV base w (some ⟨g, 0, none⟩) c xs → OwnV base w' (some ⟨g, 0, none⟩) c xs) : LentR base w' cs rs :=
  ⟨h.1, fun i hi => by obtain ⟨gi, ci, h1, h2⟩ := h.2 i hi; exact ⟨gi, ci, h1, hs _ _ _ h2⟩⟩
theorem LentR.below {base : Nat} {w w' : World} {cs : List Value} {rs : List (List V)} (h : LentR base w cs rs) (hb : Below w.heap.size w w') : LentR base w' cs rs := h.same fun _ _ _ h => h.below hb
theorem LentR.snoc {base : Nat} {w : World} {cs : List Value} {rs : List (List V)} (h : LentR base w cs rs) {g c : Nat} {r : List V} (ho : OwnV base w (some ⟨g, 0, none⟩) c (r ++ [markV, markV])) : LentR base w (cs ++ [.slice (some ⟨g, 0, none⟩) r.length c]) (rs ++ [r]) := by
  refine ⟨by simp [h.1], fun i hi => ?_⟩
  by_cases e : i < rs.length
  · obtain ⟨gi, ci, h1, h2⟩ := h.2 i e
    refine ⟨gi, ci, ?_, ?_⟩
    · rw [List.getElem?_append_left (by rw [h.1]; exact e), List.getElem_append_left e]; exact h1
    · rw [List.getElem_append_left e]; exact h2
  · have e2 : i = rs.length := by simp at hi; omega
    subst e2
    refine ⟨g, c, ?_, ?_⟩
    · rw [List.getElem?_append_right (by rw [h.1]; exact Nat.le_refl _), h.1, Nat.sub_self]; simp
    · simp only [List.getElem_append_right (Nat.le_refl _), Nat.sub_self, List.getElem_singleton]; exact ho
def OwnR (base : Nat) (w : World) (a : Option Addr) (n cap : Nat) (cs : List Value) : Prop := w.ownsRow base 74 1 (.slice a n cap) n cs
def zRowVal : Value := .agg #[.slice none 0 0]
theorem infoRow : (Try.prog.info? 74).map (fun i => (i.zero, i.size, i.bytes)) = some (some zRowVal, 1, 24) := by kernel_rfl
theorem rowtypes_apart : (57 : Nat) ≠ 74 := by decide
theorem OwnR.read {base : Nat} {w : World} {g n cap : Nat} {cs : List Value} (h : OwnR base w (some ⟨g, 0, none⟩) n cap cs) (j : Nat) (u : Value) (hj : cs[j]? = some u) : w.cell? ⟨g, j, none⟩ = some u := by
  have := World.ownsRow.cells h (g := g) rfl j u hj
  rwa [addr_off, Nat.zero_add] at this

theorem one_row (w : World) (u : Value) : ∀ j v, [u][j]? = some v → (w.alloc (.cells #[u] 74)).cell? ((⟨w.heap.size, 0, none⟩ : Addr).add j) = some v := by
  intro j v hj
  have hj0 : j = 0 := by have := (List.getElem?_eq_some_iff.1 hj).1; simp at this; omega
  subst hj0
  rw [addr_off, Nat.zero_add, cell_of_row _ _ _ _ _ _ (heap_alloc_new w (.cells #[u] 74))]
  simpa using hj
set_option maxRecDepth 100000 in
set_option maxHeartbeats 2000000 in
theorem lendrows_any (w : World) (a : Option Addr) (cap : Nat) (rs : List (List V)) (ha : IsR w a rs) (hx : (rs.length + 1) * 24 ≤ 140737488355328) (hl : ∀ r ∈ rs, (r.length + 2) * 40 ≤ 140737488355328) :
    Calls Try.prog 34 #[.slice a rs.length cap] w fun e w' => ∃ g c cs, e = .returned (.slice (some ⟨g, 0, none⟩) rs.length c) ∧ OwnR w.heap.size w' (some ⟨g, 0, none⟩) rs.length c cs ∧ LentR w.heap.size w' cs rs ∧ Below w.heap.size w w' := by
  obtain ⟨i0, hi0, hz0, hz1, hz2⟩ := info_parts infoRow
  have hr := run_make (P := Try.prog) w 66 74 i0 _ Try.underlying66 hi0 hz0 .i64 .i64 0 ((rs.length : Int) + 1) (by omega) (by omega) (by rw [hz2]; omega) (by omega)
  have e1 : ((rs.length : Int) + 1).toNat = rs.length + 1 := by omega
  rw [e1, hz1, Nat.mul_one, show Int.toNat 0 = 0 from rfl] at hr
  obtain ⟨C, hC⟩ : ∃ C, C = madeCells zRowVal.cells (rs.length + 1) := ⟨_, rfl⟩
  have hcz : C.size = (rs.length + 1) * 1 := by rw [hC, size_madeCells, Nat.mul_one]
  rw [← hC] at hr
  have hown : OwnR w.heap.size (w.alloc (.cells C 74)) (some ⟨w.heap.size, 0, none⟩) 0 (rs.length + 1) [] := World.ownsRow_made w C (rs.length + 1) (Nat.le_refl _) (by simp only [maxLen]; omega) hcz
  have HO := Lib.hid hown
  have HA := Lib.hid ha
  have HL := Lib.hid hl
  have HZ := Lib.hid hz0
  have HB0 : Hid (Below w.heap.size w (w.alloc (.cells C 74))) := (Below.refl _ _).alloc (Nat.le_refl _) _
  clear hown ha hl hC hcz hz0 e1
  go_enter Try.func34, Try.ntmps34
  go_upto_region 2 with fail
  generalize w.alloc (.cells C 74) = w0 at *
  go_wp2
  go_loopw [3, 4] (fun ov iv wr => ∃ (n g c : Nat) (cs : List Value), n ≤ rs.length ∧ iv = .int .i64 n ∧ ov = .slice (some ⟨g, 0, none⟩) n c ∧ Hid (OwnR w.heap.size wr (some ⟨g, 0, none⟩) n c cs) ∧ Hid (LentR w.heap.size wr cs (rs.take n)) ∧ Hid (Below w.heap.size w wr)) (fun ov iv _ => rs.length - (intOf iv).toNat)
  case atStart => exact ⟨0, w.heap.size, rs.length + 1, [], Nat.zero_le _, rfl, rfl, HO, ⟨rfl, fun i hi => by simp at hi⟩, HB0⟩
  case round =>
    obtain ⟨n, g, c, cs, hle, rfl, rfl, HW, HE, HB⟩ := hrel
    clear HO HB0
    by_cases cn : n < rs.length
    · have h1 := HA.out.below HB.out
      rcases h1 with h1 | ⟨b, off, rfl, h1⟩
      · subst h1; simp at cn
      obtain ⟨u, p1, ax, kx, rfl, vx, nx⟩ := h1 n cn
      have hlx := HL.out _ (List.getElem_mem cn)
      have htk : rs.take (n + 1) = rs.take n ++ [rs[n]] := (List.take_append_getElem cn).symm
      have HTK := Lib.hid htk
      have hni : (n : Int) < (rs.length : Int) := by omega
      clear h1 htk
      generalize rs[n] = x at *
      have T := Lib.hid (lendvals_any wr ax kx x vx nx hlx)
      have hcl := HW.out.1
      clear vx nx hlx
      go_upto_region 4 with (first
        | (go_at_call 76; refine T.out.mono ?_; rintro e w1 ⟨gx, cx, rfl, ho, hb⟩; have HX := Lib.hid (own_lower ho HB.out.size); have HW1 := Lib.hid (own_same HW.out fun k _ hk => hb.block k hk); have HE1 := Lib.hid (HE.out.below hb); have HB1 := Lib.hid (HB.out.trans (hb.mono HB.out.size)); clear ho hb T p1)
        | (at_builtin; refine wpList_append_own _ rfl _ _ 66 rfl w.heap.size 74 i0 zRowVal 1 24 Try.underlying66 hi0 HZ.out hz1 hz2 rfl (by decide) (.slice (some ⟨g, 0, none⟩) n c) n cs rfl (own_same HW1.out fun k _ hk => Below.heap_alloc w1 _ k hk) ⟨w1.heap.size, 0, none⟩ 1 1 [.slice (some ⟨gx, 0, none⟩) x.length cx] rfl rfl (one_row w1 _) (fun u hu => by simp at hu; subst hu; rfl) (by simp only [maxLen]; omega) (by omega) (Nat.le_trans HB1.out.size (by simp)) ?_; intro v2 w2 h2 g2 n2; have hal := own_same HW1.out fun k _ hk => Below.heap_alloc w1 (.cells #[.slice (some ⟨gx, 0, none⟩) x.length cx] 74) k hk; have HE2 := Lib.hid ((HE1.out.same (fun _ _ _ h => h.alloc (.cells #[.slice (some ⟨gx, 0, none⟩) x.length cx] 74))).same fun _ _ _ h => own_apart h hal rowtypes_apart g2); have HX2 := Lib.hid (own_apart (OwnV.alloc HX.out (.cells #[.slice (some ⟨gx, 0, none⟩) x.length cx] 74)) hal rowtypes_apart g2); have HB2 := Lib.hid (grown_below (HB1.out.alloc HB1.out.size (.cells #[.slice (some ⟨gx, 0, none⟩) x.length cx] 74)) (Nat.le_refl _) g2 fun k hk => own_block hal hk.symm); obtain ⟨gg, cp, rfl, hbg, hgl, hcp, hcm⟩ := own_some h2 (by rw [ne_eq, n2]; simp); have HW2 := Lib.hid h2; clear h2 g2 n2 hal HW HE HB HX HW1 HE1 HB1 hbg hgl hcp hcm))
      go_wp2
      go_roundw
      case rel => exact ⟨n + 1, gg, cp, _, by omega, by go_num, rfl, HW2, by rw [HTK.out]; exact LentR.snoc HE2.out HX2.out, HB2⟩
      case measure => simp [intOf]; omega
    · obtain rfl : n = rs.length := by omega
      rw [List.take_length] at HE
      clear cn
      go_wp2
      go_ret
      exact ⟨g, c, cs, rfl, HW.out, HE.out, HB.out⟩
end Go.Proofs.Ythfakpekdjmpjaa
