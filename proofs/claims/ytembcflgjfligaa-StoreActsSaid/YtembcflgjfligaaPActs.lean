/- Objects by key under any calls, on a copy too that goes its own way: for every number and every list of acts the Go function boathouselaw1.StoreActs returns true and nothing that was there is changed. Conditions: none beside the form's own. -/
import Derived.Test.YtembcflgjfligaaRows
import Derived.Test.YtembcflgjfligaaLActsAll
import Derived.WalkKit
import Derived.ProofKit
import Derived.OpenShut
import Derived.ShutString
import Derived.ChangeOld
import Derived.Deep.Slices
import Derived.Lib.SmallJoins
import Derived.Below
namespace Go.Proofs.Ytembcflgjfligaa.storeActs
open Go.ChangeShapes Go.WideShapes Go.ChangeAt Go.RowKit
set_option linter.unusedVariables false

theorem own : ownKnob Try.prog.godebug = none := by kernel_rfl
theorem laidOut : laidOutB Try.prog = true := by kernel_rfl
theorem cellsAct : Try.prog.cellsOf 36 = 4 := by kernel_rfl
theorem cellsInt : Try.prog.cellsOf 3 = 1 := by kernel_rfl
theorem cellsStr : Try.prog.cellsOf 9 = 1 := by kernel_rfl
theorem add_none (b o k : Nat) : (⟨b, o, none⟩ : Addr).add k = ⟨b, o + k, none⟩ := by
  unfold Addr.add
  split <;> simp_all

theorem walk (most : Int) (a : Option Addr) (len cap : Nat) (xs : Nat → AnAct) (w : World) (hxs : IsActs w a len xs) :
    Calls Try.prog 3 #[.int .i64 most, .slice a len cap] w fun e w' => e = .returned (.bool true) ∧ Below w.heap.size w w' := by
  by_cases h1 : most < 1
  · exact acts_no most (.inl h1) a len cap w
  by_cases h2 : 4096 < most
  · exact acts_no most (.inr h2) a len cap w
  exact acts_yes most (by omega) (by omega) a len cap xs w hxs

/-- Four cells that read as an act. -/
theorem act_cells {H : Type} {enc : TypeId × Value → H} {w : World} {spare held : Nat → Bool} {hh : Bool} {n : Nat} {cs : List Value} {y : DataW H × List MemPlace} (ht : DataW.trod enc Try.prog w 0 spare hh n 36 cs = some y) :
    ∃ x : AnAct, x.ok ∧ cs = [.int .i64 x.kind, .string x.key, .string x.dat, .int .i64 x.num] := by
  obtain ⟨y0, y1, y2, y3, m, _, hl, t0, t1, t2, t3⟩ := Joins.trod_struct4 Try.underlying36 ht
  rw [cellsAct] at hl
  match cs, hl with
  | [c0, c1, c2, c3], _ =>
    simp only [cellsInt, cellsStr, List.drop_zero, List.drop_succ_cons, List.take_succ_cons, List.take_zero] at t0 t1 t2 t3
    obtain ⟨k, e0, _, _⟩ := DataW.trod_int Try.underlying3 t0
    obtain ⟨s1, e1, _, z1⟩ := DataW.trod_string Try.underlying9 t1
    obtain ⟨s2, e2, _, z2⟩ := DataW.trod_string Try.underlying9 t2
    obtain ⟨k3, e3, _, wf3⟩ := DataW.trod_int Try.underlying3 t3
    simp only [List.cons.injEq, and_true] at e0 e1 e2 e3
    subst e0 e1 e2 e3
    refine ⟨⟨k, s1, s2, k3⟩, ⟨z1, z2, ?_⟩, rfl⟩
    have := wf3
    simp [Lit.wf] at this
    exact this.2

theorem acts_open {H : Type} {enc : TypeId × Value → H} {W : World} {a0 : Option Addr} {len0 cap0 : Nat} {d : DataW H} {p : List MemPlace} (h : DataW.Trod enc Try.prog W 0 (fun _ => true) true 22 (.slice a0 len0 cap0) d p) :
    ∃ xs, IsActs W a0 len0 xs := by
  obtain ⟨fuel, hf⟩ := h
  rcases Deep.open_slice Try.underlying22 hf with ⟨hcs, _⟩ | ⟨x, l, c, m, n, D, Pl, hcs, _, hl, hm, hmm, _, hel⟩
  · simp [Value.cells] at hcs
    obtain ⟨rfl, rfl, rfl⟩ := hcs
    exact ⟨fun _ => ⟨0, ByteArray.empty, ByteArray.empty, 0⟩, fun i hi => by omega, .inl rfl⟩
  · simp [Value.cells] at hcs
    obtain ⟨rfl, rfl, rfl⟩ := hcs
    have hmc : m = cap0 := by simpa using hmm
    subst hmc
    by_cases h0 : len0 = 0
    · subst h0
      exact ⟨fun _ => ⟨0, ByteArray.empty, ByteArray.empty, 0⟩, fun i hi => by omega, .inl rfl⟩
    have hx : ∀ i, ∃ x' : AnAct, i < len0 → x'.ok ∧ ∃ cs', W.cells? 0 (x.add (i * 4)) 4 = some cs' ∧ cs' = [.int .i64 x'.kind, .string x'.key, .string x'.dat, .int .i64 x'.num] := by
      intro i
      by_cases hi : i < len0
      · obtain ⟨cs', h1, h2⟩ := hel i (by omega)
        rw [cellsAct] at h1
        obtain ⟨x', hok, hcs⟩ := act_cells (held := fun _ => true) h2
        exact ⟨x', fun _ => ⟨hok, cs', h1, hcs⟩⟩
      · exact ⟨⟨0, ByteArray.empty, ByteArray.empty, 0⟩, fun h => absurd h hi⟩
    obtain ⟨xs, hxs⟩ := Classical.axiomOfChoice hx
    obtain ⟨b, off, spot⟩ := x
    have hsp : spot = none := by
      obtain ⟨_, cs', h1, h2⟩ := hxs 0 (by omega)
      have h3 := (World.cells?_some h1).2.2 0 (by omega)
      rw [h2] at h3
      cases spot with
      | none => rfl
      | some s => simp [Addr.add, World.cell?] at h3; split at h3 <;> simp at h3
    subst hsp
    refine ⟨xs, fun i hi => (hxs i hi).1, .inr ⟨b, off, rfl, fun i hi => ?_⟩⟩
    obtain ⟨_, cs', h1, h2⟩ := hxs i hi
    have h3 := (World.cells?_some h1).2.2
    rw [h2] at h3
    have g0 := h3 0 (by omega)
    have g1 := h3 1 (by omega)
    have g2 := h3 2 (by omega)
    have g3 := h3 3 (by omega)
    simp only [add_none] at g0 g1 g2 g3
    exact ⟨g0, g1, g2, g3⟩

set_option maxRecDepth 100000 in
theorem lifted (os : Os) (started : os.Started) (H : Type) (enc : TypeId × Value → H) :
    ReturnsInHanded {} Try.checked os 3 .any (Rows.storeActsSpec.pre6 enc Try.prog Try.f3 Rows.storeActsRow.domain false) (Rows.storeActsSpec.post enc Try.prog Try.f3 false true false false) := by
  refine returnsInHanded_of_change (C := Try.checked) own started (by kernel_rfl) Try.func3
    (ChangeSpec.witness6 (enc := enc) (C := Try.checked) false ⟨#[], #[.int .i64 0, .slice none 0 0], []⟩ 8 (by kernel_rfl) (by kernel_rfl) (by kernel_rfl) (by kernel_rfl)) ?_
  intro W base args ds gs before hval0 hW hcnd _
  have hval : ∀ (j : Nat) t v, Try.f3.params[j]? = some t → args[j]? = some v → Value.okWide Try.prog W .any base t v := hval0
  have hW' := hW
  obtain ⟨p, q, hA0, hV, rfl, hfz, hnd⟩ := hW
  have hA : DataW.TrodAll enc Try.prog W 0 (fun _ => true) true Try.f3.params.toList args.toList ds p := hA0
  rw [Try.params3] at hA hval
  obtain ⟨v0, vs0, d0, ds0, p0, q0, hargs, rfl, rfl, h0, r0⟩ := trodAll_cons hA
  obtain ⟨v1, vs1, d1, ds1, p1, q1, rfl, rfl, rfl, h1, r1⟩ := trodAll_cons r0
  obtain ⟨rfl, rfl, rfl⟩ := trodAll_nil r1
  obtain rfl : args = #[v0, v1] := by cases args; simp_all
  obtain ⟨rfl, rfl⟩ := trodVars_none hV
  obtain ⟨a0, rfl, rfl, rfl, w0⟩ := open_int Try.underlying3 (hval 0 3 v0 rfl rfl) h0
  obtain ⟨a1, len1, cap1, rfl⟩ := okWide_slice Try.underlying22 (hval 1 22 v1 rfl rfl)
  have k1 := h1
  have lt1 : ∀ x ∈ p1, x.block < W.heap.size := by obtain ⟨m, hm⟩ := k1; exact DataW.trod_lt m _ _ _ hm
  obtain ⟨xs, hxs⟩ := acts_open h1
  clear hA0 hval0
  refine (walk a0 a1 len1 cap1 xs W hxs).mono fun e W' ⟨he, bel⟩ => ?_
  subst he
  exact ⟨_, rfl, _, _, _, [], _, [], hW', trodAll_mk1 (shut_bool Try.underlying4 _), (trodAll_cons_mk (shut_int Try.underlying3 w0) (trodAll_cons_mk (Below.trod laidOut (by kernel_rfl) (of_decide_eq_true (by kernel_rfl)) k1 bel lt1) trodAll_mk0)), rfl, bel.frame _, fun h => by cases h⟩

theorem proved : Rows.StoreActsSaid :=
  OpenClaim.holds_of_wide 3 Try.f3 rfl rfl rfl rfl rfl rfl rfl ⟨rfl, rfl, rfl, rfl, rfl⟩ rfl rfl rfl rfl rfl (by kernel_rfl) Try.func3 (by kernel_rfl)
    (of_decide_eq_true (by kernel_rfl)) (by unfold Func.isWrapper; first | (rw [if_pos (by decide +kernel)]; kernel_rfl) | (rw [if_neg (by decide +kernel)]; exact ⟨rfl, rfl⟩))
    (fun os started H enc _ => lifted os started H enc)
end Go.Proofs.Ytembcflgjfligaa.storeActs
