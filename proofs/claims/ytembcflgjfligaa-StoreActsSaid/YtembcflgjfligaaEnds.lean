/- What stands at the end of StoreActs: a store of the program and one of the reference that hold the same. -/
import Derived.Test.YtembcflgjfligaaTwin
namespace Go.Proofs.Ytembcflgjfligaa
set_option linter.unusedVariables false
open Go.Conc Go.RowKit

structure Ends (v : World) (b rb : Nat) (s : St) (sv : Value) : Prop where
  sto : ∃ F, Sto v F b s
  ref : ∃ G, IsRef v G rb s sv

section
variable {v v' : World} {b rb : Nat} {s : St} {sv : Value}
theorem Ends.new (h : Ends v b rb s sv) (hb : Below v.heap.size v v') : Ends v' b rb s sv := by
  obtain ⟨⟨F, h1⟩, G, h2⟩ := h
  exact ⟨⟨F, h1.new hb⟩, G, h2.same fun k hk _ => hb.block k hk⟩
theorem Ends.c1 (h : Ends v b rb s sv) : v.cell? ⟨rb, 1, none⟩ = some sv := by
  obtain ⟨_, G, h2⟩ := h
  exact h2.c1
theorem Ends.row (h : Ends v b rb s sv) : v.ownsRow 0 56 3 sv s.os.length (rowOf s.os) := by
  obtain ⟨_, G, h2⟩ := h
  exact h2.row
theorem Ends.len (h : Ends v b rb s sv) : s.os.length ≤ 4096 := by
  obtain ⟨_, G, h2⟩ := h
  have := h2.most_le; have := h2.len_le; omega
theorem Ends.all (h : Ends v b rb s sv) : Calls Try.prog 12 #[.pointer (some ⟨b, 0, none⟩)] v fun e w' => ∃ x, e = .returned x ∧ w'.ownsRow v.heap.size 56 3 x s.os.length (rowOf s.os) ∧ Below v.heap.size v w' := by
  obtain ⟨⟨F, h1⟩, _⟩ := h
  exact all_any _ _ _ h1
theorem ends_of_half {E : Nat → Prop} (h : Half v E b rb s s) : ∃ sv, Ends v b rb s sv := by
  obtain ⟨⟨F, h1⟩, G, sv, h2⟩ := h.sto
  exact ⟨sv, ⟨F, h1⟩, G, h2⟩
/-- Both are the same list; the list that was told is told in a new row. -/
theorem Ends.same (h : Ends v' b rb s sv) {B : Nat} {x : Value} (hx : v'.ownsRow B 56 3 x s.os.length (rowOf s.os)) : Calls Try.prog 13 #[x, sv] v' fun e w' => e = .returned (.bool true) ∧ Below v'.heap.size v' w' :=
  same_yes v' x sv s.os (ownsRow_base hx (Nat.zero_le _)) h.row h.len
end
end Go.Proofs.Ytembcflgjfligaa
