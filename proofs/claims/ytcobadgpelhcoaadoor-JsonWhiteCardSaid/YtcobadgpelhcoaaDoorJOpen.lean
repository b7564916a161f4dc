/- A value of JSON that comes in, opened. -/
import Derived.Test.YtcobadgpelhcoaaDoorRows
import Derived.Test.YtcobadgpelhcoaaDoorEPrint
import Derived.OpenShut
import Derived.Deep.Slices
import Derived.Deep.Strs
import Derived.Lib.SmallJoins
namespace Go.Proofs.YtcobadgpelhcoaaDoor
open Go.ChangeShapes Go.WideShapes Go.ChangeAt Go.RowKit
set_option linter.unusedVariables false
set_option linter.unusedSimpArgs false

/-! ### the bulk of data -/
theorem bulk_one {H : Type} (d : DataW H) : 1 ≤ Rows.uptoBulk d := by
  cases d with
  | lit l => cases l <;> simp [Rows.uptoBulk]
  | _ => simp [Rows.uptoBulk]
theorem bulk_part {H : Type} {d : DataW H} : ∀ {l : List (DataW H)}, d ∈ l → Rows.uptoBulk d ≤ Rows.uptoBulkAll l
  | x :: r, h => by
    simp only [Rows.uptoBulkAll]
    rcases List.mem_cons.1 h with rfl | h
    · omega
    · have := bulk_part h; omega
theorem bulk_length {H : Type} : ∀ (l : List (DataW H)), l.length ≤ Rows.uptoBulkAll l
  | [] => by simp
  | x :: r => by
    have := bulk_one x
    have := bulk_length r
    simp only [Rows.uptoBulkAll, List.length_cons]
    omega
theorem bulk_slice {H : Type} (a b : List (DataW H)) : Rows.uptoBulkAll a < Rows.uptoBulk (.slice a b) := by
  simp only [Rows.uptoBulk]; omega
theorem bulk_agg {H : Type} (a : List (DataW H)) : Rows.uptoBulkAll a < Rows.uptoBulk (.agg a) := by
  simp only [Rows.uptoBulk]; omega
theorem bulk_string {H : Type} (l : List UInt8) : l.length ≤ Rows.uptoBulk (DataW.lit (H := H) (.string l)) := by
  simp [Rows.uptoBulk]

theorem cellsJson : Tryd.prog.cellsOf 25 = 6 := by kernel_rfl
theorem cellsJInt : Tryd.prog.cellsOf 3 = 1 := by kernel_rfl
theorem cellsJBool : Tryd.prog.cellsOf 4 = 1 := by kernel_rfl
theorem cellsJStr : Tryd.prog.cellsOf 9 = 1 := by kernel_rfl
theorem cellsJList : Tryd.prog.cellsOf 22 = 1 := by kernel_rfl
theorem cellsJKeys : Tryd.prog.cellsOf 23 = 1 := by kernel_rfl
theorem addr_none (b o k : Nat) : (⟨b, o, none⟩ : Addr).add k = ⟨b, o + k, none⟩ := by
  unfold Addr.add
  split <;> simp_all
theorem add_zero (a : Addr) : a.add 0 = a := by simp [Addr.add]
theorem spot_of_cell {w : World} {a : Addr} {v : Value} (h : w.cell? a = some v) : a = ⟨a.block, a.off, none⟩ ∧ a.block < w.heap.size := by
  refine ⟨?_, block_lt_of_cell h⟩
  obtain ⟨b, off, spot⟩ := a
  cases spot with
  | some s => simp [World.cell?] at h; split at h <;> simp at h
  | none => rfl

theorem struct6 {P : Program} {H : Type} {enc : TypeId × Value → H} {w : World} {base : Nat} {spare : Nat → Bool} {held : Bool} {t : TypeId} {f0 f1 f2 f3 f4 f5 : Field} {fuel : Nat} {cs : List Value} {x : DataW H × List MemPlace} (ht : P.underlying t = some (.struct #[f0, f1, f2, f3, f4, f5])) (h : DataW.trod enc P w base spare held fuel t cs = some x) :
    ∃ y0 y1 y2 y3 y4 y5 n, x.1 = .agg [y0.1, y1.1, y2.1, y3.1, y4.1, y5.1] ∧ cs.length = P.cellsOf t ∧ DataW.trod enc P w base spare held n f0.type ((cs.drop f0.offset).take (P.cellsOf f0.type)) = some y0 ∧ DataW.trod enc P w base spare held n f1.type ((cs.drop f1.offset).take (P.cellsOf f1.type)) = some y1 ∧ DataW.trod enc P w base spare held n f2.type ((cs.drop f2.offset).take (P.cellsOf f2.type)) = some y2 ∧ DataW.trod enc P w base spare held n f3.type ((cs.drop f3.offset).take (P.cellsOf f3.type)) = some y3 ∧ DataW.trod enc P w base spare held n f4.type ((cs.drop f4.offset).take (P.cellsOf f4.type)) = some y4 ∧ DataW.trod enc P w base spare held n f5.type ((cs.drop f5.offset).take (P.cellsOf f5.type)) = some y5 := by
  obtain ⟨xs, n, _, rfl, hl, hlen, hf⟩ := DataW.trod_struct ht h
  match xs, hlen with
  | [y0, y1, y2, y3, y4, y5], _ => exact ⟨y0, y1, y2, y3, y4, y5, n, rfl, hl, by simpa using hf 0 f0 rfl, by simpa using hf 1 f1 rfl, by simpa using hf 2 f2 rfl, by simpa using hf 3 f3 rfl, by simpa using hf 4 f4 rfl, by simpa using hf 5 f5 rfl⟩

variable {H : Type} {enc : TypeId × Value → H}

/-- A row of values that came in. -/
theorem json_row {W : World} {a : Addr} {len cap : Nat} (Jf : Nat → J) (C : Nat → List Value) (hx : ∀ i, i < len → W.cells? 0 (a.add (i * 6)) 6 = some (C i) ∧ JIn (fun _ => True) W (Jf i) (C i)) :
    RowIn (fun _ => True) W 6 len (.slice (some a) len cap) ((List.range len).map C).flatten := by
  have h6 : ∀ c ∈ (List.range len).map C, c.length = 6 := fun c hc => by
    obtain ⟨i, hi, rfl⟩ := List.mem_map.1 hc
    exact (hx i (List.mem_range.1 hi)).2.length
  have hlen : ((List.range len).map C).flatten.length = len * 6 := by
    have : ∀ (l : List (List Value)), (∀ c ∈ l, c.length = 6) → l.flatten.length = l.length * 6 := by
      intro l hl
      induction l with
      | nil => rfl
      | cons c r ih =>
        rw [List.flatten_cons, List.length_append, hl c (by simp), ih fun x hm => hl x (by simp [hm]), List.length_cons]
        omega
    rw [this _ h6]
    simp
  refine ⟨hlen, some a, cap, rfl, ?_⟩
  by_cases h0 : len = 0
  · exact .inl h0
  have hc : ∀ i, i < len → ∀ r, r < 6 → W.cell? (a.add (i * 6 + r)) = (C i)[r]? := fun i hi r hr => by
    have h1 := (World.cells?_some (hx i hi).1).2.2 r hr
    rw [← h1]
    congr 1
    obtain ⟨b, off, spot⟩ := a
    unfold Addr.add
    cases spot <;> (split <;> split <;> split <;> simp_all <;> omega)
  have hC0 : ∃ v, W.cell? (a.add 0) = some v := by
    have h1 := hc 0 (by omega) 0 (by omega)
    rw [List.getElem?_eq_getElem (by rw [(hx 0 (by omega)).2.length]; omega)] at h1
    exact ⟨_, by simpa using h1⟩
  obtain ⟨v0, hv0⟩ := hC0
  rw [add_zero] at hv0
  obtain ⟨ha, hbl⟩ := spot_of_cell hv0
  refine .inr ⟨a.block, a.off, congrArg some ha, trivial, hbl, fun j u hj => ?_⟩
  have hjl : j < len * 6 := by
    have := (List.getElem?_eq_some_iff.1 hj).1
    rw [hlen] at this
    exact this
  have hi : j / 6 < len := by omega
  have hf := flat6 ((List.range len).map C) (j / 6) (j % 6) h6 (by simpa using hi) (by omega)
  rw [show j / 6 * 6 + j % 6 = j by omega, hj] at hf
  have h2 := hc (j / 6) hi (j % 6) (by omega)
  rw [show j / 6 * 6 + j % 6 = j by omega] at h2
  rw [ha, addr_none] at h2
  rw [h2]
  simpa using hf.symm
theorem keys_row {W : World} {a : Addr} {len cap : Nat} (Sx : Nat → ByteArray) (hx : ∀ i, i < len → W.cell? (a.add i) = some (.string (Sx i))) :
    RowIn (fun _ => True) W 1 len (.slice (some a) len cap) (((List.range len).map Sx).map Value.string) := by
  refine ⟨by simp, some a, cap, rfl, ?_⟩
  by_cases h0 : len = 0
  · exact .inl h0
  have hv0 := hx 0 (by omega)
  rw [add_zero] at hv0
  obtain ⟨ha, hbl⟩ := spot_of_cell hv0
  refine .inr ⟨a.block, a.off, congrArg some ha, trivial, hbl, fun j u hj => ?_⟩
  have hjl : j < len := by
    have := (List.getElem?_eq_some_iff.1 hj).1
    simpa using this
  have h2 := hx j hjl
  rw [ha, addr_none] at h2
  rw [h2]
  simp [hjl] at hj
  rw [← hj]

set_option maxRecDepth 100000 in
/-- A value that came in: what it is, and that it is not too great. -/
theorem json_open {W : World} {hh : Bool} : ∀ (m : Nat) (n : Nat) (cs : List Value) (d : DataW H) (ps : List MemPlace), m ≤ 1048576 → Rows.uptoBulk d ≤ m → DataW.trod enc Tryd.prog W 0 (fun _ => true) hh n 25 cs = some (d, ps) →
    ∃ j, JIn (fun _ => True) W j cs ∧ JSm j := by
  intro m
  induction m with
  | zero => intro n cs d ps hm hb h; have := bulk_one d; omega
  | succ m ih =>
    intro n cs d ps hm hb h
    obtain ⟨y0, y1, y2, y3, y4, y5, n', hx, hl, t0, t1, t2, t3, t4, t5⟩ := struct6 Tryd.underlying25 h
    rw [cellsJson] at hl
    match cs, hl with
    | [c0, c1, c2, c3, c4, c5], _ =>
    simp only [cellsJInt, cellsJBool, cellsJStr, cellsJList, cellsJKeys, List.drop_zero, List.drop_succ_cons, List.take_succ_cons, List.take_zero] at t0 t1 t2 t3 t4 t5
    simp only at hx
    subst hx
    have hag := bulk_agg [y0.1, y1.1, y2.1, y3.1, y4.1, y5.1]
    have hp : ∀ y ∈ [y0.1, y1.1, y2.1, y3.1, y4.1, y5.1], Rows.uptoBulk y ≤ m := fun y hy => by have := bulk_part hy; omega
    obtain ⟨k, e0, _, _⟩ := DataW.trod_int Tryd.underlying3 t0
    obtain ⟨b, e1, _⟩ := DataW.trod_bool Tryd.underlying4 t1
    obtain ⟨nn, e2, _, wf2⟩ := DataW.trod_int Tryd.underlying3 t2
    obtain ⟨s, e3, e3d, z3⟩ := DataW.trod_string Tryd.underlying9 t3
    simp only [List.cons.injEq, and_true] at e0 e1 e2 e3
    subst e0 e1 e2 e3
    have hn : -9223372036854775808 ≤ nn ∧ nn ≤ 9223372036854775807 := by
      have := wf2
      simp only [Lit.wf, Bool.and_eq_true, decide_eq_true_eq] at this
      exact this
    have hs : s.size ≤ 140737488351232 := by
      have h3 := hp y3.1 (by simp)
      rw [e3d] at h3
      dsimp only at h3
      have := bulk_string (H := H) s.data.toList
      rw [Array.length_toList] at this
      have h4 : s.size = s.data.size := rfl
      omega
    have hkeys : ∃ ks : List ByteArray, RowIn (fun _ => True) W 1 ks.length c5 (ks.map Value.string) ∧ ks.length ≤ 9000000000000 ∧ ∀ q ∈ ks, q.size ≤ 140737488351232 := by
      rcases Deep.open_strs Tryd.underlying23 Tryd.underlying9 cellsJStr t5 with ⟨hcs, _⟩ | ⟨a, len, cap, mm, Sx, hcs, _, hlc, _, hmm, hdd, hel⟩
      · simp only [List.cons.injEq, and_true] at hcs
        subst hcs
        exact ⟨[], ⟨rfl, none, 0, rfl, .inl rfl⟩, by simp, fun q hq => by simp at hq⟩
      · simp only [List.cons.injEq, and_true] at hcs
        subst hcs
        have hmc : mm = cap := by simpa using hmm
        subst hmc
        have h5 := hp y5.1 (by simp)
        rw [hdd] at h5
        have hsl := bulk_slice (H := H) ((List.range len).map fun i => .lit (.string (Sx i).data.toList)) ((List.range (mm - len)).map fun j => .lit (.string (Sx (len + j)).data.toList))
        have hll := bulk_length (H := H) ((List.range len).map fun i => .lit (.string (Sx i).data.toList))
        rw [List.length_map, List.length_range] at hll
        refine ⟨(List.range len).map Sx, ?_, by simp; simp only at h5; omega, fun q hq => ?_⟩
        · have := keys_row (W := W) (a := a) (len := len) (cap := mm) Sx (fun i hi => (hel i (by omega)).1)
          simpa using this
        · obtain ⟨i, hi, rfl⟩ := List.mem_map.1 hq
          have h6 := bulk_part (H := H) (d := .lit (.string (Sx i).data.toList)) (l := (List.range len).map fun i => .lit (.string (Sx i).data.toList)) (List.mem_map.2 ⟨i, hi, rfl⟩)
          have h7 := bulk_string (H := H) (Sx i).data.toList
          rw [Array.length_toList] at h7
          have h8 : (Sx i).size = (Sx i).data.size := rfl
          simp only at h5
          omega
    have hlist : ∃ (l : List J) (css : List (List Value)), RowIn (fun _ => True) W 6 l.length c4 css.flatten ∧ css.length = l.length ∧ (∀ (i : Nat) (j : J) (c : List Value), l[i]? = some j → css[i]? = some c → JIn (fun _ => True) W j c) ∧ l.length ≤ 9000000000000 ∧ ∀ x ∈ l, JSm x := by
      rcases Deep.open_slice Tryd.underlying22 t4 with ⟨hcs, _⟩ | ⟨a, len, cap, mm, n2, D, Pl, hcs, _, hlc, _, hmm, hdd, hel⟩
      · simp only [List.cons.injEq, and_true] at hcs
        subst hcs
        exact ⟨[], [], ⟨rfl, none, 0, rfl, .inl rfl⟩, rfl, fun i j c h1 h2 => by simp at h1, by simp, fun x hx => by simp at hx⟩
      · simp only [List.cons.injEq, and_true] at hcs
        subst hcs
        have hmc : mm = cap := by simpa using hmm
        subst hmc
        have h4 := hp y4.1 (by simp)
        rw [hdd] at h4
        have hsl := bulk_slice (H := H) ((List.range len).map D) ((List.range (mm - len)).map fun j => D (len + j))
        have hll := bulk_length (H := H) ((List.range len).map D)
        rw [List.length_map, List.length_range] at hll
        rw [cellsJson] at hel
        have hx : ∀ i, ∃ jc : J × List Value, i < len → (W.cells? 0 (a.add (i * 6)) 6 = some jc.2 ∧ JIn (fun _ => True) W jc.1 jc.2) ∧ JSm jc.1 := by
          intro i
          by_cases hi : i < len
          · obtain ⟨cs', g1, g2⟩ := hel i (by omega)
            have h6 := bulk_part (H := H) (d := D i) (l := (List.range len).map D) (List.mem_map.2 ⟨i, List.mem_range.2 hi, rfl⟩)
            simp only at h4
            obtain ⟨j, h7, h8⟩ := ih n2 cs' (D i) (Pl i) (by omega) (by omega) g2
            exact ⟨(j, cs'), fun _ => ⟨⟨g1, h7⟩, h8⟩⟩
          · exact ⟨(jNull, []), fun h => absurd h hi⟩
        obtain ⟨X, hX⟩ := Classical.axiomOfChoice hx
        refine ⟨(List.range len).map fun i => (X i).1, (List.range len).map fun i => (X i).2, ?_, by simp, fun i j c g1 g2 => ?_, by simp; simp only at h4; omega, fun x hx => ?_⟩
        · have := json_row (W := W) (a := a) (len := len) (cap := mm) (fun i => (X i).1) (fun i => (X i).2) (fun i hi => (hX i hi).1)
          simpa using this
        · have hi : i < len := by
            have := (List.getElem?_eq_some_iff.1 g1).1
            simpa using this
          simp [hi] at g1 g2
          rw [← g1, ← g2]
          exact (hX i hi).1.2
        · obtain ⟨i, hi, rfl⟩ := List.mem_map.1 hx
          exact (hX i (List.mem_range.1 hi)).2
    obtain ⟨ks, hk1, hk2, hk3⟩ := hkeys
    obtain ⟨l, css, hl1, hl2, hl3, hl4, hl5⟩ := hlist
    exact ⟨.mk k b nn s l ks, .mk k b nn s l ks c4 c5 css hl1 hk1 hl2 hl3, .mk k b nn s l ks hn hs hl4 hk2 hk3 hl5⟩
end Go.Proofs.YtcobadgpelhcoaaDoor
