/- Two stores of the program and two of the reference, of which the second ones are copies. -/
import Derived.Test.YtembcflgjfligaaActL
namespace Go.Proofs.Ytembcflgjfligaa
set_option linter.unusedVariables false
open Go.Conc Go.RowKit

/-- Two pairs that share no block, all from block B on. -/
def Twin (w : World) (B b rb c rc : Nat) (s t : St) : Prop :=
  ∃ E1 E2 : Nat → Prop, Half w E1 b rb s s ∧ Half w E2 c rc t t ∧ (∀ k, E1 k → ¬ E2 k) ∧ (∀ k, E1 k → B ≤ k ∧ k < w.heap.size) ∧ (∀ k, E2 k → B ≤ k ∧ k < w.heap.size)

section
variable {w w' : World} {B b rb c rc : Nat} {s t : St}
theorem Twin.swap (h : Twin w B b rb c rc s t) : Twin w B c rc b rb t s := by
  obtain ⟨E1, E2, h1, h2, h3, h4, h5⟩ := h
  exact ⟨E2, E1, h2, h1, fun k hk hk' => h3 k hk' hk, h5, h4⟩
theorem Twin.new (h : Twin w B b rb c rc s t) (hb : Below w.heap.size w w') : Twin w' B b rb c rc s t := by
  obtain ⟨E1, E2, h1, h2, h3, h4, h5⟩ := h
  exact ⟨E1, E2, h1.new hb, h2.new hb, h3, fun k hk => ⟨(h4 k hk).1, Nat.lt_of_lt_of_le (h4 k hk).2 hb.size⟩, fun k hk => ⟨(h5 k hk).1, Nat.lt_of_lt_of_le (h5 k hk).2 hb.size⟩⟩
theorem Twin.one (h : Twin w B b rb c rc s t) (hB : B ≤ w.heap.size) : ∃ E1 : Nat → Prop, Half w E1 b rb s s ∧ ∀ e w', Acted w E1 b rb s e w' → e = .returned (.bool true) ∧ ∃ s', Step s s' ∧ Twin w' B b rb c rc s' t ∧ Below B w w' := by
  obtain ⟨E1, E2, h1, h2, h3, h4, h5⟩ := h
  refine ⟨E1, h1, ?_⟩
  rintro e w' ⟨he, s', hst, hh, hf⟩
  refine ⟨he, s', hst, ⟨fun k => Up E1 w k ∧ k < w'.heap.size, E2, hh.bounded, h2.frm hf fun k hk hk2 hu => ?_, fun k hk hk2 => ?_, fun k hk => ⟨?_, hk.2⟩, fun k hk => ⟨(h5 k hk).1, Nat.lt_of_lt_of_le (h5 k hk).2 hf.size⟩⟩, ?_⟩
  · rcases hu with hu | hu
    · exact h3 k hu hk2
    · omega
  · rcases hk.1 with hu | hu
    · exact h3 k hu hk2
    · have := (h5 k hk2).2; omega
  · rcases hk.1 with hu | hu
    · exact (h4 k hu).1
    · omega
  · exact Frm.below (hf.mono fun k _ hk => by
      rcases hk with hu | hu
      · exact (h4 k hu).1
      · omega) hB
/-- One pair alone. -/
theorem half_step {E : Nat → Prop} (h : Half w (fun k => B ≤ k) b rb s s) (hB : B ≤ w.heap.size) {e : Ending} (ha : Acted w (fun k => B ≤ k) b rb s e w') : e = .returned (.bool true) ∧ ∃ s', Step s s' ∧ Half w' (fun k => B ≤ k) b rb s' s' ∧ Below B w w' := by
  obtain ⟨he, s', hst, hh, hf⟩ := ha
  have hup : ∀ k, Up (fun k => B ≤ k) w k → B ≤ k := by
    rintro k (hu | hu)
    · exact hu
    · omega
  exact ⟨he, s', hst, hh.mono fun k _ hk => hup k hk, Frm.below (hf.mono fun k _ hk => hup k hk) hB⟩
/-- The copies are made. -/
theorem twin_copy (h : Half w (fun k => B ≤ k) b rb s s) (hB : B ≤ w.heap.size) : ∃ F1 G1 : Nat → Prop, Sto w F1 b s ∧ ∀ e w1, Copied w F1 b s e w1 → ∃ c, e = .returned (.pointer (some ⟨c, 0, none⟩)) ∧ Ref w1 G1 rb s ∧
    ∀ w2, Ref w2 (fun k => w1.heap.size ≤ k ∧ k < w2.heap.size) w1.heap.size s → Below w1.heap.size w1 w2 → Twin w2 B b rb c w1.heap.size s s ∧ Below B w w2 := by
  obtain ⟨F1, G1, h1, h2, h3, h4, h5⟩ := h
  refine ⟨F1, G1, h1, ?_⟩
  rintro e w1 ⟨c, F, G, rfl, ⟨a1, a2, a3, a4, a5⟩, a6, a7, a8⟩
  have r1 : Ref w1 G1 rb s := h2.frm a8 fun k hk hg hu => by
    rcases hu with hu | hu
    · exact h3 k hu hg
    · omega
  have z1 := a8.size
  refine ⟨c, rfl, r1, fun w2 r2 b2 => ⟨⟨fun k => F k ∨ G1 k, fun k => G k ∨ (w1.heap.size ≤ k ∧ k < w2.heap.size), ⟨F, G1, a1.new b2, r1.new b2, fun k hk hg => ?_, fun k hk => ⟨.inl hk, Nat.lt_of_lt_of_le (a3 k hk) b2.size⟩, fun k hk => ⟨.inr hk, ?_⟩⟩, ⟨G, _, a2.new b2, r2, fun k hk hg => ?_, fun k hk => ⟨.inl hk, Nat.lt_of_lt_of_le (a4 k hk) b2.size⟩, fun k hk => ⟨.inr hk, hk.2⟩⟩, fun k hk hg => ?_, fun k hk => ?_, fun k hk => ?_⟩, ?_⟩⟩
  · rcases a6 k hk with hu | hu
    · exact h3 k hu hg
    · have := (h5 k hg).2; omega
  · have := (h5 k hk).2; have := b2.size; omega
  · have := a4 k hk; omega
  · rcases hk with hk | hk
    · rcases hg with hg | hg
      · exact a5 k hk hg
      · have := a3 k hk; omega
    · rcases hg with hg | hg
      · have := (h5 k hk).2; have := a7 k hg; omega
      · have := (h5 k hk).2; omega
  · have zz := b2.size
    rcases hk with hk | hk
    · have := a3 k hk
      rcases a6 k hk with hu | hu
      · exact ⟨(h4 k hu).1, by omega⟩
      · exact ⟨by omega, by omega⟩
    · exact ⟨(h5 k hk).1, by have := (h5 k hk).2; omega⟩
  · have zz := b2.size
    rcases hk with hk | hk
    · have := a4 k hk; have := a7 k hk; exact ⟨by omega, by omega⟩
    · exact ⟨by omega, hk.2⟩
  · have e1 : Below B w w1 := Frm.below (a8.mono fun k _ hk => by
      rcases hk with hu | hu
      · exact (h4 k hu).1
      · omega) hB
    exact e1.trans (b2.mono (by omega))
theorem Half.sto {E : Nat → Prop} (h : Half w E b rb s s) : (∃ F1, Sto w F1 b s) ∧ ∃ G1, Ref w G1 rb s := by
  obtain ⟨F1, G1, h1, h2, _⟩ := h
  exact ⟨⟨F1, h1⟩, ⟨G1, h2⟩⟩
theorem half_owed {E : Nat → Prop} (h : Half w E b rb s s) : s.owed ≤ 9223372036854775807 := h.owed.2.1
end
end Go.Proofs.Ytembcflgjfligaa
