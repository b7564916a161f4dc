/- A value that came in, as great as memory reaches. -/
import Derived.Test.YtcobadgpelhcoaaDoorJOpen
import Derived.SizedLaws
namespace Go.Proofs.YtcobadgpelhcoaaDoor
open Go.Conc Go.RowKit
set_option linter.unusedVariables false

theorem bytesStr : Tryd.prog.bytesOf 9 = 16 := by kernel_rfl
theorem bytesJson : Tryd.prog.bytesOf 25 = 88 := by kernel_rfl
theorem weigh_all {H : Type} {P : Program} {e : TypeId} : ∀ {l : List (DataW H)} {d : DataW H} {x : Nat}, d ∈ l → x ∈ d.weights P e → x ∈ DataW.weightsAll P e l
  | y :: r, d, x, hd, hx => by
    rw [DataW.weightsAll]
    rcases List.mem_cons.1 hd with rfl | h
    · exact List.mem_append_left _ hx
    · exact List.mem_append_right _ (weigh_all h hx)
/-- A list's length and its elements. -/
theorem weigh_slice {H : Type} {P : Program} {t e : TypeId} {a b : List (DataW H)} (ht : P.underlying t = some (.slice e)) (h : ∀ x ∈ (DataW.slice a b).weights P t, x ≤ reachBytes) :
    (a.length) * P.bytesOf e ≤ reachBytes ∧ ∀ d ∈ a, ∀ x ∈ d.weights P e, x ≤ reachBytes := by
  unfold DataW.weights at h
  rw [ht] at h
  refine ⟨Nat.le_trans (Nat.mul_le_mul_right _ (Nat.le_add_right _ _)) (h _ (List.mem_cons_self ..)), fun d hd x hx => h x ?_⟩
  exact List.mem_cons_of_mem _ (List.mem_append_left _ (weigh_all hd hx))
/-- An argument's own weights. -/
theorem weighs_at {H : Type} {P : Program} {ts : List TypeId} {ds : List (DataW H)} (h : (DataW.weightsEach P ts ds).all (· ≤ reachBytes) = true) {j : Nat} {t : TypeId} {d : DataW H} (ht : ts[j]? = some t) (hd : ds[j]? = some d) : ∀ x ∈ d.weights P t, x ≤ reachBytes := fun x hx => by
  have := List.all_eq_true.1 h _ (DataW.weights_mem_each ht hd x hx)
  simpa using this
variable {H : Type} {enc : TypeId × Value → H}

set_option maxRecDepth 100000 in
/-- A value that came in, as great as it may be: what it is, and that it is not too great. -/
theorem json_openW {W : World} {hh : Bool} : ∀ (m : Nat) (n : Nat) (cs : List Value) (d : DataW H) (ps : List MemPlace), (∀ x ∈ d.weights Tryd.prog 25, x ≤ reachBytes) → Rows.uptoBulk d ≤ m → DataW.trod enc Tryd.prog W 0 (fun _ => true) hh n 25 cs = some (d, ps) →
    ∃ j, JIn (fun _ => True) W j cs ∧ JSm j := by
  intro m
  induction m with
  | zero => intro n cs d ps hw hb h; have := bulk_one d; omega
  | succ m ih =>
    intro n cs d ps hw hb h
    obtain ⟨y0, y1, y2, y3, y4, y5, n', hx, hl, t0, t1, t2, t3, t4, t5⟩ := struct6 Tryd.underlying25 h
    rw [cellsJson] at hl
    match cs, hl with
    | [c0, c1, c2, c3, c4, c5], _ =>
    simp only [cellsJInt, cellsJBool, cellsJStr, cellsJList, cellsJKeys, List.drop_zero, List.drop_succ_cons, List.take_succ_cons, List.take_zero] at t0 t1 t2 t3 t4 t5
    simp only at hx
    subst hx
    have hwe : ∀ (k : Nat) (t : TypeId) (y : DataW H), [3, 4, 3, 9, 22, 23][k]? = some t → [y0.1, y1.1, y2.1, y3.1, y4.1, y5.1][k]? = some y → ∀ x ∈ y.weights Tryd.prog t, x ≤ reachBytes := by
      intro k t y ht hy x hxm
      refine hw x ?_
      have := DataW.weights_mem_each (P := Tryd.prog) (ts := [3, 4, 3, 9, 22, 23]) ht hy x hxm
      unfold DataW.weights
      rw [Tryd.underlying25]
      exact this
    have hag := bulk_agg [y0.1, y1.1, y2.1, y3.1, y4.1, y5.1]
    have hp : ∀ y ∈ [y0.1, y1.1, y2.1, y3.1, y4.1, y5.1], Rows.uptoBulk y ≤ m := fun y hy => by have := bulk_part hy; omega
    obtain ⟨k, e0, _, _⟩ := DataW.trod_int Tryd.underlying3 t0
    obtain ⟨b, e1, _⟩ := DataW.trod_bool Tryd.underlying4 t1
    obtain ⟨nn, e2, _, wf2⟩ := DataW.trod_int Tryd.underlying3 t2
    obtain ⟨s, e3, e3d, z3⟩ := DataW.trod_string Tryd.underlying9 t3
    simp only [List.cons.injEq, and_true] at e0 e1 e2 e3
    subst e0 e1 e2 e3
    have hn : -9223372036854775808 ≤ nn ∧ nn ≤ 9223372036854775807 := by
      have := wf2
      simp only [Lit.wf, Bool.and_eq_true, decide_eq_true_eq] at this
      exact this
    have hs : s.size ≤ 140737488351232 := by
      have h3 := hwe 3 9 y3.1 rfl rfl
      rw [e3d] at h3
      have h4 := h3 s.data.toList.length (by simp [DataW.weights])
      rw [Array.length_toList] at h4
      have h5 : s.size = s.data.size := rfl
      simp only [reachBytes] at h4
      omega
    have hkeys : ∃ ks : List ByteArray, RowIn (fun _ => True) W 1 ks.length c5 (ks.map Value.string) ∧ ks.length ≤ 9000000000000 ∧ ∀ q ∈ ks, q.size ≤ 140737488351232 := by
      rcases Deep.open_strs Tryd.underlying23 Tryd.underlying9 cellsJStr t5 with ⟨hcs, _⟩ | ⟨a, len, cap, mm, Sx, hcs, _, hlc, _, hmm, hdd, hel⟩
      · simp only [List.cons.injEq, and_true] at hcs
        subst hcs
        exact ⟨[], ⟨rfl, none, 0, rfl, .inl rfl⟩, by simp, fun q hq => by simp at hq⟩
      · simp only [List.cons.injEq, and_true] at hcs
        subst hcs
        have hmc : mm = cap := by simpa using hmm
        subst hmc
        have h5 := hwe 5 23 y5.1 rfl rfl
        rw [hdd] at h5
        have h5 := weigh_slice Tryd.underlying23 h5
        rw [bytesStr, List.length_map, List.length_range] at h5
        have h50 := h5.1
        simp only [reachBytes] at h50
        refine ⟨(List.range len).map Sx, ?_, by simp; omega, fun q hq => ?_⟩
        · have := keys_row (W := W) (a := a) (len := len) (cap := mm) Sx (fun i hi => (hel i (by omega)).1)
          simpa using this
        · obtain ⟨i, hi, rfl⟩ := List.mem_map.1 hq
          have h6 := h5.2 (.lit (.string (Sx i).data.toList)) (List.mem_map.2 ⟨i, hi, rfl⟩) (Sx i).data.toList.length (by simp [DataW.weights])
          rw [Array.length_toList] at h6
          have h8 : (Sx i).size = (Sx i).data.size := rfl
          simp only [reachBytes] at h6
          omega
    have hlist : ∃ (l : List J) (css : List (List Value)), RowIn (fun _ => True) W 6 l.length c4 css.flatten ∧ css.length = l.length ∧ (∀ (i : Nat) (j : J) (c : List Value), l[i]? = some j → css[i]? = some c → JIn (fun _ => True) W j c) ∧ l.length ≤ 9000000000000 ∧ ∀ x ∈ l, JSm x := by
      rcases Deep.open_slice Tryd.underlying22 t4 with ⟨hcs, _⟩ | ⟨a, len, cap, mm, n2, D, Pl, hcs, _, hlc, _, hmm, hdd, hel⟩
      · simp only [List.cons.injEq, and_true] at hcs
        subst hcs
        exact ⟨[], [], ⟨rfl, none, 0, rfl, .inl rfl⟩, rfl, fun i j c h1 h2 => by simp at h1, by simp, fun x hx => by simp at hx⟩
      · simp only [List.cons.injEq, and_true] at hcs
        subst hcs
        have hmc : mm = cap := by simpa using hmm
        subst hmc
        have h4 := hp y4.1 (by simp)
        rw [hdd] at h4
        have hsl := bulk_slice (H := H) ((List.range len).map D) ((List.range (mm - len)).map fun j => D (len + j))
        have h40 := hwe 4 22 y4.1 rfl rfl
        rw [hdd] at h40
        have h40 := weigh_slice Tryd.underlying22 h40
        rw [bytesJson, List.length_map, List.length_range] at h40
        have h41 := h40.1
        simp only [reachBytes] at h41
        rw [cellsJson] at hel
        have hx : ∀ i, ∃ jc : J × List Value, i < len → (W.cells? 0 (a.add (i * 6)) 6 = some jc.2 ∧ JIn (fun _ => True) W jc.1 jc.2) ∧ JSm jc.1 := by
          intro i
          by_cases hi : i < len
          · obtain ⟨cs', g1, g2⟩ := hel i (by omega)
            have h6 := bulk_part (H := H) (d := D i) (l := (List.range len).map D) (List.mem_map.2 ⟨i, List.mem_range.2 hi, rfl⟩)
            simp only at h4
            obtain ⟨j, h7, h8⟩ := ih n2 cs' (D i) (Pl i) (h40.2 (D i) (List.mem_map.2 ⟨i, List.mem_range.2 hi, rfl⟩)) (by omega) g2
            exact ⟨(j, cs'), fun _ => ⟨⟨g1, h7⟩, h8⟩⟩
          · exact ⟨(jNull, []), fun h => absurd h hi⟩
        obtain ⟨X, hX⟩ := Classical.axiomOfChoice hx
        refine ⟨(List.range len).map fun i => (X i).1, (List.range len).map fun i => (X i).2, ?_, by simp, fun i j c g1 g2 => ?_, by simp; omega, fun x hx => ?_⟩
        · have := json_row (W := W) (a := a) (len := len) (cap := mm) (fun i => (X i).1) (fun i => (X i).2) (fun i hi => (hX i hi).1)
          simpa using this
        · have hi : i < len := by
            have := (List.getElem?_eq_some_iff.1 g1).1
            simpa using this
          simp [hi] at g1 g2
          rw [← g1, ← g2]
          exact (hX i hi).1.2
        · obtain ⟨i, hi, rfl⟩ := List.mem_map.1 hx
          exact (hX i (List.mem_range.1 hi)).2
    obtain ⟨ks, hk1, hk2, hk3⟩ := hkeys
    obtain ⟨l, css, hl1, hl2, hl3, hl4, hl5⟩ := hlist
    exact ⟨.mk k b nn s l ks, .mk k b nn s l ks c4 c5 css hl1 hk1 hl2 hl3, .mk k b nn s l ks hn hs hl4 hk2 hk3 hl5⟩
end Go.Proofs.YtcobadgpelhcoaaDoor
