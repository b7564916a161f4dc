/- A store of the program and one of the reference, side by side. -/
import Derived.Test.YtembcflgjfligaaBoth
namespace Go.Proofs.Ytembcflgjfligaa
open Go.Conc Go.RowKit

def Up (F : Nat → Prop) (w : World) : Nat → Prop := fun k => F k ∨ w.heap.size ≤ k
/-- The program's store at b holds s, the reference's at rb holds r; they share no block; all is of F. -/
def Half (w : World) (F : Nat → Prop) (b rb : Nat) (s r : St) : Prop :=
  ∃ F1 G1 : Nat → Prop, Sto w F1 b s ∧ Ref w G1 rb r ∧ (∀ k, F1 k → ¬ G1 k) ∧ (∀ k, F1 k → F k ∧ k < w.heap.size) ∧ (∀ k, G1 k → F k ∧ k < w.heap.size)

section
variable {w w' : World} {F F' : Nat → Prop} {b rb : Nat} {s r : St}
theorem Half.mono (h : Half w F b rb s r) (hF : ∀ k, k < w.heap.size → F k → F' k) : Half w F' b rb s r := by
  obtain ⟨F1, G1, h1, h2, h3, h4, h5⟩ := h
  exact ⟨F1, G1, h1, h2, h3, fun k hk => ⟨hF k (h4 k hk).2 (h4 k hk).1, (h4 k hk).2⟩, fun k hk => ⟨hF k (h5 k hk).2 (h5 k hk).1, (h5 k hk).2⟩⟩
theorem Half.same (h : Half w F b rb s r) (hb : w.heap.size ≤ w'.heap.size) (hs : ∀ k, k < w.heap.size → F k → w'.heap[k]? = w.heap[k]?) : Half w' F b rb s r := by
  obtain ⟨F1, G1, h1, h2, h3, h4, h5⟩ := h
  exact ⟨F1, G1, h1.same fun k hk hf => hs k hk (h4 k hf).1, h2.same fun k hk hf => hs k hk (h5 k hf).1, h3, fun k hk => ⟨(h4 k hk).1, Nat.lt_of_lt_of_le (h4 k hk).2 hb⟩, fun k hk => ⟨(h5 k hk).1, Nat.lt_of_lt_of_le (h5 k hk).2 hb⟩⟩
theorem Half.new (h : Half w F b rb s r) (hb : Below w.heap.size w w') : Half w' F b rb s r := h.same hb.size fun k hk _ => hb.block k hk
theorem Half.frm (h : Half w F b rb s r) {G : Nat → Prop} (hg : Frm G w w') (hd : ∀ k, k < w.heap.size → F k → ¬ G k) : Half w' F b rb s r := h.same hg.size fun k hk hf => hg.block k hk (hd k hk hf)
/-- It is of the blocks that are there. -/
theorem Half.bounded (h : Half w F b rb s r) : Half w (fun k => F k ∧ k < w.heap.size) b rb s r := h.mono fun _ hk hf => ⟨hf, hk⟩
/-- A step of the program's store. -/
theorem Half.one (h : Half w F b rb s r) : ∃ F1 : Nat → Prop, Sto w F1 b s ∧ News F1 w ∧ ∀ w1 s', Sto w1 F1 b s' → Frm F1 w w1 → Half w1 (Up F w) b rb s' r ∧ Frm (Up F w) w w1 := by
  obtain ⟨F1, G1, h1, h2, h3, h4, h5⟩ := h
  refine ⟨Up F1 w, h1.mono fun k _ hk => .inl hk, fun k hk => .inr hk, fun w1 s' hs hf => ⟨⟨fun k => Up F1 w k ∧ k < w1.heap.size, G1, hs.bounded, h2.frm hf fun k hk hg hu => ?_, fun k hk hg => ?_, fun k hk => ⟨?_, hk.2⟩, fun k hk => ⟨.inl (h5 k hk).1, Nat.lt_of_lt_of_le (h5 k hk).2 hf.size⟩⟩, hf.mono fun k _ hk => ?_⟩⟩
  · rcases hu with hu | hu
    · exact h3 k hu hg
    · omega
  · rcases hk.1 with hu | hu
    · exact h3 k hu hg
    · have := (h5 k hg).2; omega
  · rcases hk.1 with hu | hu
    · exact .inl (h4 k hu).1
    · exact .inr hu
  · rcases hk with hu | hu
    · exact .inl (h4 k hu).1
    · exact .inr hu
theorem Ref.bounded (h : Ref w F b s) : Ref w (fun k => F k ∧ k < w.heap.size) b s := h.mono fun _ hk hf => ⟨hf, hk⟩
/-- A step of the reference's store. -/
theorem Half.two (h : Half w F b rb s r) : ∃ G1 : Nat → Prop, Ref w G1 rb r ∧ News G1 w ∧ ∀ w1 r', Ref w1 G1 rb r' → Frm G1 w w1 → Half w1 (Up F w) b rb s r' ∧ Frm (Up F w) w w1 := by
  obtain ⟨F1, G1, h1, h2, h3, h4, h5⟩ := h
  refine ⟨Up G1 w, h2.mono fun k _ hk => .inl hk, fun k hk => .inr hk, fun w1 r' hs hf => ⟨⟨F1, fun k => Up G1 w k ∧ k < w1.heap.size, h1.frm hf fun k hk hg hu => ?_, hs.bounded, fun k hg hk => ?_, fun k hk => ⟨.inl (h4 k hk).1, Nat.lt_of_lt_of_le (h4 k hk).2 hf.size⟩, fun k hk => ⟨?_, hk.2⟩⟩, hf.mono fun k _ hk => ?_⟩⟩
  · rcases hu with hu | hu
    · exact h3 k hg hu
    · omega
  · rcases hk.1 with hu | hu
    · exact h3 k hg hu
    · have := (h4 k hg).2; omega
  · rcases hk.1 with hu | hu
    · exact .inl (h5 k hu).1
    · exact .inr hu
  · rcases hk with hu | hu
    · exact .inl (h5 k hu).1
    · exact .inr hu
theorem Half.owed (h : Half w F b rb s r) : 0 ≤ r.owed ∧ r.owed ≤ 9223372036854775807 ∧ (r.os.length : Int) ≤ 4096 := by
  obtain ⟨F1, G1, h1, ⟨sv, h2⟩, _⟩ := h
  exact ⟨h2.owed_ge, h2.owed_le, by have := h2.len_le; have := h2.most_le; omega⟩
theorem Half.calls (h : Half w F b rb s r) : 0 ≤ r.calls := by
  obtain ⟨F1, G1, h1, ⟨sv, h2⟩, _⟩ := h
  exact h2.calls_ge
end
theorem fail_both (n : Int) (st : St) (hs : Rises (st.os.map Ob.key)) (hn : n ≤ 9223372036854775807) :
    ∃ (c : Int) (st' : St), Step st st' ∧
      (∀ F b w, Sto w F b st → News F w → Calls Try.prog 18 #[.pointer (some ⟨b, 0, none⟩), .int .i64 n] w (Did F b w c st')) ∧
      (∀ F b w, Ref w F b st → News F w → Calls Try.prog 27 #[.pointer (some ⟨b, 0, none⟩), .int .i64 n] w (RDid F b w c st')) := by
  by_cases h0 : n < 0
  · refine ⟨100, st, ⟨hs, by omega, rfl⟩, fun F b w h _ => (fail_no b n h0 w st h).mono ?_, fun F b w h _ => (rfail_no b w n h0).mono ?_⟩
    · rintro e w' ⟨rfl, rfl⟩
      exact ⟨rfl, h, Frm.refl _ _⟩
    · rintro e w' ⟨rfl, rfl⟩
      exact ⟨rfl, h, Frm.refl _ _⟩
  · exact ⟨0, { st with owed := n }, ⟨hs, by show st.calls ≤ st.calls + 1; omega, rfl⟩, fun F b w h hF => fail_yes b n (by omega) hn w st h hF, fun F b w h _ => rfail_yes b w st h n (by omega) hn⟩
end Go.Proofs.Ytembcflgjfligaa
