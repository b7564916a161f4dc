/- append of a run of objects to a row of ours, as a step of a walk. -/
import Derived.Test.YtembcflgjfligaaRPlace
namespace Go.Proofs.Ytembcflgjfligaa
open Go.Conc Go.RowKit

/-- x is a slice of the objects qs. -/
def IsSrc (w : World) (x : Value) (qs : List Ob) : Prop :=
  (x = .slice none 0 0 ∧ qs = []) ∨ ∃ a c, x = .slice (some a) qs.length c ∧ ∀ j u, (rowOf qs)[j]? = some u → w.cell? (a.add j) = some u
theorem rowOf_one_all (qs : List Ob) : ∀ u ∈ rowOf qs, u.oneCell' = true := fun u hu => rowOf_one' qs u hu

theorem run_append_src (w : World) (base : Nat) (v : Value) (os qs : List Ob) (x : Value) (hown : w.ownsRow base 56 3 v os.length (rowOf os)) (hx : IsSrc w x qs) (hl : os.length + qs.length ≤ 8192) (hb : base ≤ w.heap.size) :
    ∃ a' c' w', (Builtin.append_ #[38, 38] 38 #[v, x]).run Try.prog w = .ok (.slice a' (os.length + qs.length) c') w' ∧ w'.ownsRow base 56 3 (.slice a' (os.length + qs.length) c') (os.length + qs.length) (rowOf (os ++ qs)) ∧ Below base w w' := by
  obtain ⟨i0, hi, hz0, hz1, hz2⟩ := info_parts infoObj
  rcases hx with ⟨rfl, rfl⟩ | ⟨a, c, rfl, hc⟩
  · obtain ⟨a', c', rfl⟩ := row_shape hown
    refine ⟨a', c', w, run_append_owned_none w base 38 38 56 i0 3 Try.underlying38 hi _ _ _ hown, by simpa using hown, Below.refl _ _⟩
  · obtain ⟨v', w', hr, ho, hg, _⟩ := run_append_own (P := Try.prog) w base 38 38 56 i0 zObj 3 _ Try.underlying38 hi hz0 hz1 hz2 rfl (by omega) v os.length (rowOf os) hown a qs.length c (rowOf qs) (rowOf_length qs) hc (rowOf_one_all qs) (by simp only [maxLen]; omega) (by omega) hb
    rw [← rowOf_append] at ho
    obtain ⟨a', c', rfl⟩ := row_shape ho
    refine ⟨a', c', w', hr, ho, hg.os, hg.tape, hg.output, hg.size, fun k hk => hg.block k (by omega) fun e => ?_⟩
    have := hown.lt k e.symm
    omega

section
variable {w : World} {base : Nat} {v x : Value} {ops : Array Oper} {rest : List Oper} {o : Oper} {a : Act} {Q : Exit → Act → World → Prop}
theorem wpList_append_src (os qs rs : List Ob) (n : Nat) (hrs : rs = os ++ qs) (hn : n = rs.length) (hgd : o.guard = none) (d s : Operand) (ho : o.op = .call { callee := .builtin .append, args := #[d, s], argTypes := #[38, 38] }) (hty : o.type = 38)
    (hd : a.eval d = v) (hs : a.eval s = x) (hown : w.ownsRow base 56 3 v os.length (rowOf os)) (hx : IsSrc w x qs) (hl : os.length + qs.length ≤ 8192) (hb : base ≤ w.heap.size)
    (h : ∀ a' c' w', w'.ownsRow base 56 3 (.slice a' n c') rs.length (rowOf rs) → Below base w w' → wpList Try.prog ops Q rest (a.put o.dst (.slice a' n c')) w') :
    wpList Try.prog ops Q (o :: rest) a w := by
  subst hrs
  obtain ⟨a', c', w', hr, h1, h2⟩ := run_append_src w base v os qs x hown hx hl hb
  have e : os.length + qs.length = (os ++ qs).length := by simp
  rw [e, ← hn] at hr h1
  refine wpList_append_eq w hgd d s 38 38 ho v x hd hs (by rw [hty]; exact hr) (h a' c' w' ?_ h2)
  rwa [hn] at h1 ⊢
end
theorem src_none (w : World) : IsSrc w (.slice none 0 0) [] := .inl ⟨rfl, rfl⟩
theorem src_take {w : World} {g n cap : Nat} {os : List Ob} (h : w.ownsRow 0 56 3 (.slice (some ⟨g, 0, none⟩) n cap) n (rowOf os)) (hn : n = os.length) (k c : Nat) (hk : k ≤ n) : IsSrc w (.slice (some ⟨g, 0, none⟩) k c) (os.take k) := by
  refine .inr ⟨_, c, by rw [List.length_take, Nat.min_eq_left (by omega)], fun j u hj => h.cells (g := g) rfl j u ?_⟩
  rw [rowOf_take, List.getElem?_take] at hj
  split at hj
  · exact hj
  · simp at hj
theorem src_drop {w : World} {g n cap : Nat} {os : List Ob} (h : w.ownsRow 0 56 3 (.slice (some ⟨g, 0, none⟩) n cap) n (rowOf os)) (hn : n = os.length) (k m c : Nat) (a : Addr) (hm : m = n - k) (ha : 0 < m → a = ⟨g, k * 3, none⟩) : IsSrc w (.slice (some a) m c) (os.drop k) := by
  refine .inr ⟨a, c, by rw [List.length_drop, hm, hn], fun j u hj => ?_⟩
  rw [rowOf_drop, List.getElem?_drop] at hj
  have hj' := (List.getElem?_eq_some_iff.1 hj).1
  rw [rowOf_length] at hj'
  rw [ha (by omega)]
  have hc := h.cells (g := g) rfl (k * 3 + j) u hj
  have e1 : (⟨g, 0, none⟩ : Addr).add (k * 3 + j) = ⟨g, k * 3 + j, none⟩ := by unfold Addr.add; split <;> simp_all
  have e2 : (⟨g, k * 3, none⟩ : Addr).add j = ⟨g, k * 3 + j, none⟩ := by unfold Addr.add; split <;> simp_all
  rw [e2, ← e1]
  exact hc
theorem src_one (w : World) (k d : ByteArray) (t : Int) : IsSrc (w.alloc (.cells #[.string k, .string d, .int .i64 t] 56)) (.slice (some ⟨w.heap.size, 0, none⟩) 1 1) [⟨k, d, t⟩] := by
  refine .inr ⟨_, 1, rfl, fun j u hj => ?_⟩
  rw [rowOf_one] at hj
  have e1 : (⟨w.heap.size, 0, none⟩ : Addr).add j = ⟨w.heap.size, j, none⟩ := by unfold Addr.add; split <;> simp_all
  rw [e1, cell_of_row _ w.heap.size j _ _ _ (heap_alloc_new w _)]
  simpa [Ob.cells] using hj
end Go.Proofs.Ytembcflgjfligaa
