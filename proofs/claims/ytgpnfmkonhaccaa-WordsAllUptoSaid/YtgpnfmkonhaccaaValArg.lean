/- A value, a list of values that came in, as arguments of a law. -/
import Derived.Test.YtgpnfmkonhaccaaValL
import Derived.Test.YtgpnfmkonhaccaaIntArg
import Derived.ChangeOld
import Derived.OpenShut
import Derived.ShutString
import Derived.SizedLaws
import Derived.Deep.Slices
import Derived.Lib.SmallJoins
namespace Go.Proofs.Ytgpnfmkonhaccaa
open Go.ChangeShapes Go.WideShapes Go.ChangeAt Go.RowKit
set_option linter.unusedVariables false

theorem bytesVal : Try.prog.bytesOf 41 = 40 := by kernel_rfl
theorem cellsVal : Try.prog.cellsOf 41 = 4 := by kernel_rfl
theorem cellsBoolV : Try.prog.cellsOf 4 = 1 := by kernel_rfl
theorem cellsStrV : Try.prog.cellsOf 9 = 1 := by kernel_rfl
theorem weighV_all {H : Type} {P : Program} {e : TypeId} : ∀ {l : List (DataW H)} {d : DataW H} {x : Nat}, d ∈ l → x ∈ d.weights P e → x ∈ DataW.weightsAll P e l
  | y :: r, d, x, hd, hx => by
    rw [DataW.weightsAll]
    rcases List.mem_cons.1 hd with rfl | h
    · exact List.mem_append_left _ hx
    · exact List.mem_append_right _ (weighV_all h hx)
/-- A list's length and its elements. -/
theorem weighV_slice {H : Type} {P : Program} {t e : TypeId} {a b : List (DataW H)} (ht : P.underlying t = some (.slice e)) (h : ∀ x ∈ (DataW.slice a b).weights P t, x ≤ reachBytes) :
    (a.length) * P.bytesOf e ≤ reachBytes ∧ ∀ d ∈ a, ∀ x ∈ d.weights P e, x ≤ reachBytes := by
  unfold DataW.weights at h
  rw [ht] at h
  refine ⟨Nat.le_trans (Nat.mul_le_mul_right _ (Nat.le_add_right _ _)) (h _ (List.mem_cons_self ..)), fun d hd x hx => h x ?_⟩
  exact List.mem_cons_of_mem _ (List.mem_append_left _ (weighV_all hd hx))
/-- An argument's own weights. -/
theorem weighV_at {H : Type} {P : Program} {ts : List TypeId} {ds : List (DataW H)} (h : (DataW.weightsEach P ts ds).all (· ≤ reachBytes) = true) {j : Nat} {t : TypeId} {d : DataW H} (ht : ts[j]? = some t) (hd : ds[j]? = some d) : ∀ x ∈ d.weights P t, x ≤ reachBytes := fun x hx => by
  have := List.all_eq_true.1 h _ (DataW.weights_mem_each ht hd x hx)
  simpa using this

/-- Four cells that read as a value. -/
theorem val_open {H : Type} {enc : TypeId × Value → H} {w : World} {spare : Nat → Bool} {hh : Bool} {n : Nat} {cs : List Value} {d : DataW H} {ps : List MemPlace} (hw : ∀ x ∈ d.weights Try.prog 41, x ≤ reachBytes) (ht : DataW.trod enc Try.prog w 0 spare hh n 41 cs = some (d, ps)) :
    ∃ v : V, cs = v.cells ∧ v.s.size ≤ 140737488351232 ∧ (-9223372036854775808 ≤ v.k ∧ v.k < 9223372036854775808) ∧ (-9223372036854775808 ≤ v.i ∧ v.i < 9223372036854775808) := by
  obtain ⟨y0, y1, y2, y3, m, hx, hl, t0, t1, t2, t3⟩ := Joins.trod_struct4 Try.underlying41 ht
  rw [cellsVal] at hl
  match cs, hl with
  | [c0, c1, c2, c3], _ =>
    simp only [cellsInt, cellsBoolV, cellsStrV, List.drop_zero, List.drop_succ_cons, List.take_succ_cons, List.take_zero] at t0 t1 t2 t3
    injection hx with hx1 hx2
    subst hx1
    have hwe : ∀ x ∈ y3.1.weights Try.prog 9, x ≤ reachBytes := by
      intro x hxm
      refine hw x ?_
      have := DataW.weights_mem_each (P := Try.prog) (ts := [3, 3, 4, 9]) (ds := [y0.1, y1.1, y2.1, y3.1]) (j := 3) rfl rfl x hxm
      unfold DataW.weights
      rw [Try.underlying41]
      exact this
    obtain ⟨k, e0, _, wf0⟩ := DataW.trod_int Try.underlying3 t0
    obtain ⟨i, e1, _, wf1⟩ := DataW.trod_int Try.underlying3 t1
    obtain ⟨b, e2, _⟩ := DataW.trod_bool Try.underlying4 t2
    obtain ⟨s, e3, e3d, z3⟩ := DataW.trod_string Try.underlying9 t3
    simp only [List.cons.injEq, and_true] at e0 e1 e2 e3
    subst e0 e1 e2 e3
    have m : IntKind.i64.min = -9223372036854775808 := rfl
    refine ⟨⟨k, i, b, s⟩, rfl, ?_, by simp [Lit.wf] at wf0; show -9223372036854775808 ≤ k ∧ k < 9223372036854775808; omega, by simp [Lit.wf] at wf1; show -9223372036854775808 ≤ i ∧ i < 9223372036854775808; omega⟩
    rw [e3d] at hwe
    have h4 := hwe s.data.toList.length (by simp [DataW.weights])
    rw [Array.length_toList] at h4
    have h5 : s.size = s.data.size := rfl
    simp only [reachBytes] at h4
    show s.size ≤ _
    omega

theorem vals_arg {H : Type} {enc : TypeId × Value → H} {W : World} {fuel : Nat} {a : Option Addr} {len cap : Nat} {d : DataW H} {p : List MemPlace} {hh : Bool}
    (h : DataW.trod enc Try.prog W 0 (fun _ => true) hh fuel 22 (Value.slice a len cap).cells.toList = some (d, p))
    {ts : List TypeId} {ds : List (DataW H)} (hsz : (DataW.weightsEach Try.prog ts ds).all (· ≤ reachBytes) = true) {j : Nat} (ht : ts[j]? = some 22) (hd : ds[j]? = some d) :
    ∃ xs : List V, xs.length = len ∧ IsV W a xs ∧ (a = none → xs.length = 0 ∧ cap = 0) ∧ xs.length * 40 ≤ 140737488351232 ∧ ∀ v ∈ xs, v.s.size ≤ 140737488351232 := by
  have hw := weighV_at hsz ht hd
  rcases Deep.open_slice Try.underlying22 h with ⟨hcs, _⟩ | ⟨x, l, c, m, n, D, Pl, hcs, _, hl, hm, hmm, hdd, hel⟩
  · simp [Value.cells] at hcs
    obtain ⟨rfl, rfl, rfl⟩ := hcs
    exact ⟨[], rfl, .inl rfl, fun _ => ⟨rfl, rfl⟩, by simp, fun x hx => by simp at hx⟩
  · simp [Value.cells] at hcs
    obtain ⟨rfl, rfl, rfl⟩ := hcs
    have hmc : m = cap := by simpa using hmm
    subst hmc
    injection hdd with hdd _
    rw [hdd] at hw
    have hw := weighV_slice Try.underlying22 hw
    rw [bytesVal, List.length_map, List.length_range] at hw
    have hw1 := hw.1
    simp only [reachBytes] at hw1
    have hx : ∀ i, ∃ v : V, i < len → W.cells? 0 (x.add (i * 4)) 4 = some v.cells ∧ v.s.size ≤ 140737488351232 := by
      intro i
      by_cases hi : i < len
      · obtain ⟨cs', h1, h2⟩ := hel i (by omega)
        rw [cellsVal] at h1
        obtain ⟨v, hv, hs, _⟩ := val_open (hw.2 (D i) (List.mem_map.2 ⟨i, List.mem_range.2 hi, rfl⟩)) h2
        exact ⟨v, fun _ => ⟨by rw [← hv]; exact h1, hs⟩⟩
      · exact ⟨⟨0, 0, false, ByteArray.empty⟩, fun h => absurd h hi⟩
    obtain ⟨X, hX⟩ := Classical.axiomOfChoice hx
    have hlen : ((List.range len).map X).length = len := by simp
    refine ⟨(List.range len).map X, hlen, ?_, (fun e => by cases e), by rw [hlen]; omega, fun v hv => ?_⟩
    · by_cases h0 : len = 0
      · exact .inl (by rw [h0]; rfl)
      · obtain ⟨b, off, spot⟩ := x
        have hsp : spot = none := by
          have h3 := (World.cells?_some (hX 0 (by omega)).1).2.2 0 (by omega)
          cases spot with
          | none => rfl
          | some s => simp [Addr.add, World.cell?, V.cells] at h3; split at h3 <;> simp at h3
        subst hsp
        refine .inr ⟨b, off, rfl, fun i hi => ?_⟩
        rw [hlen] at hi
        have h3 := (World.cells?_some (hX i hi).1).2.2
        have e : ((List.range len).map X)[i]'(by rw [hlen]; exact hi) = X i := by simp
        rw [e]
        have g0 := h3 0 (by omega)
        have g1 := h3 1 (by omega)
        have g2 := h3 2 (by omega)
        have g3 := h3 3 (by omega)
        simp only [addr_off] at g0 g1 g2 g3
        exact ⟨g0, g1, g2, g3⟩
    · obtain ⟨i, hi, rfl⟩ := List.mem_map.1 hv
      exact (hX i (List.mem_range.1 hi)).2
end Go.Proofs.Ytgpnfmkonhaccaa
