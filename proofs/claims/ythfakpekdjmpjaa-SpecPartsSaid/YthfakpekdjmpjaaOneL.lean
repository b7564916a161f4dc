/- A row of elements of one cell each: one more at its end. Lists of texts. -/
import Derived.Test.YthfakpekdjmpjaaValL
import Derived.Test.YthfakpekdjmpjaaValC
namespace Go.Proofs.Ythfakpekdjmpjaa
open Go.Conc Go.RowKit
set_option linter.unusedVariables false
set_option linter.unusedSimpArgs false

/-- What a type of one cell must be. -/
structure OneT (e sl : TypeId) (zv : Value) (B : Nat) : Prop where
  info : (Try.prog.info? e).map (fun i => (i.zero, i.size, i.bytes)) = some (some zv, 1, B)
  und : Try.prog.underlying sl = some (.slice e)
  zero : zv.cells.size = 1
  byt : B ≤ 32

/-- One element more at a row's end. -/
theorem run_append_one {e sl : TypeId} {zv : Value} {B : Nat} (O : OneT e sl zv B) (w : World) (base : Nat) (hbase : base ≤ w.heap.size) (v : Value) (n : Nat) (xs p : List Value) (hown : w.ownsRow base e 1 v n xs) (hxl : xs.length = n * 1) (hl : n ≤ 4000000000000) (hp : p.length = 1) (hp1 : ∀ u ∈ p, u.oneCell' = true)
    (a : Addr) (c : Nat) (hnews : ∀ j u, p[j]? = some u → w.cell? (a.add j) = some u) :
    ∃ v' w', (∀ ty, (Builtin.append_ #[sl, sl] ty #[v, .slice (some a) 1 c]).run Try.prog w = .ok v' w') ∧ w'.ownsRow base e 1 v' (n + 1) (xs ++ p) ∧ w.grownBy w' v.ownBlock ∧ (∀ k, v'.ownBlock = some k → v.ownBlock = some k ∨ w.heap.size ≤ k) := by
  obtain ⟨i0, hi, hz0, hz1, hz2⟩ := info_parts O.info
  have hB := O.byt
  have hBn := Nat.mul_le_mul_left (n + 1) O.byt
  have hpl : p.length = 1 * i0.size := by rw [hz1, hp]
  have hpx : (xs ++ p).length = (n + 1) * 1 := by rw [List.length_append, hxl, hp]; omega
  have grown : ∀ (old : Nat), old < n + 1 →
      (w.drew.alloc (.cells (xs.toArray ++ p.toArray ++ Builtin.zeroCells zv.cells (grownCap w (n + 1) old e - (n + 1))) e)).ownsRow base e 1
        (.slice (some ⟨w.heap.size, 0, none⟩) (n + 1) (grownCap w (n + 1) old e)) (n + 1) (xs ++ p) := by
    intro old ho
    have hge := grownCap_ge w (n + 1) old e
    have hcm : grownCap w (n + 1) old e ≤ maxLen := grownCap_le_maxLen w (n + 1) old e (by simp only [maxLen]; omega)
    refine ⟨hpx, .inr ⟨w.heap.size, _, _, rfl, hbase, heap_alloc_new w.drew _, hge, hcm, ?_, ?_⟩⟩
    · simp only [Array.size_append, List.size_toArray, size_zeroCells, hxl, hp]
      rw [O.zero]
      omega
    · simp only [Array.toList_append]
      rw [show (xs ++ p ++ (Builtin.zeroCells zv.cells (grownCap w (n + 1) old e - (n + 1))).toList) = (xs ++ p) ++ (Builtin.zeroCells zv.cells (grownCap w (n + 1) old e - (n + 1))).toList from rfl, ← hpx]
      exact List.take_left
  rcases hown.2 with ⟨rfl, h0⟩ | ⟨g, cap, cur, rfl, hb, hgg, hnc, hcm, hcs, htake⟩
  · have e0 : xs = [] := List.eq_nil_of_length_eq_zero (by omega)
    subst e0 h0
    have gr := grown 0 (by omega)
    refine ⟨_, _, fun ty => run_append_nil w sl ty e i0 zv O.und hi hz0 a 1 c p hpl hnews (by omega) (by omega) (by rw [hz2]; omega), by simpa using gr, ⟨rfl, rfl, rfl, by simp, fun k hk _ => Below.heap_alloc w.drew _ k hk⟩, ?_⟩
    intro k hk
    simp [Value.ownBlock] at hk
    exact .inr (by omega)
  · by_cases hroom : n + 1 ≤ cap
    · have hfit : n * i0.size + p.length ≤ cur.size := by rw [hcs, hz1, hp]; omega
      have hlt : (cur.toList.take (n * 1) ++ p).length = (n + 1) * 1 := by rw [htake]; exact hpx
      refine ⟨_, _, fun ty => run_append_room w sl ty e i0 O.und hi g n cap cur hgg a 1 c p hpl hnews hp1 hroom hfit, ⟨hpx, .inr ⟨g, cap, _, rfl, hb, setRow_heap w g cur _ e _ hgg, by omega, hcm, ?_, ?_⟩⟩, ⟨rfl, rfl, rfl, by simp, fun k _ hk => setRow_other w g k _ (fun e => hk (by rw [e]; rfl))⟩, fun k hk => .inl hk⟩
      · simp only [List.size_toArray, List.length_append, List.length_take, List.length_drop, Array.length_toList]
        omega
      · rw [hz1, ← htake, List.append_assoc]
        rw [← List.append_assoc, ← hlt]
        exact List.take_left
    · have hr := fun ty => run_append_grow (P := Try.prog) w sl ty e i0 zv O.und hi hz0 ⟨g, 0, none⟩ n cap xs (by rw [hz1]; exact hxl) (hown.cells (g := g) rfl) a 1 c p hpl hnews (by omega) (by omega) (growslice_fits (by omega) (by rw [hz2]; omega))
      refine ⟨_, _, hr, grown cap (by omega), ⟨rfl, rfl, rfl, by simp, fun k hk _ => Below.heap_alloc w.drew _ k hk⟩, ?_⟩
      intro k hk
      simp [Value.ownBlock] at hk
      exact .inr (by omega)
theorem one_cells (w : World) (u : Value) (e : TypeId) : ∀ j v, [u][j]? = some v → (w.alloc (.cells #[u] e)).cell? ((⟨w.heap.size, 0, none⟩ : Addr).add j) = some v := by
  intro j v hj
  have hj0 : j = 0 := by have := (List.getElem?_eq_some_iff.1 hj).1; simp at this; omega
  subst hj0
  rw [addr_off, Nat.zero_add, cell_of_row _ _ _ _ _ _ (heap_alloc_new w (.cells #[u] e))]
  simpa using hj
theorem wp_one {e sl : TypeId} {zv : Value} {B : Nat} (O : OneT e sl zv B) {base : Nat} {w : World} {ad : Option Addr} {n cap : Nat} {xs : List Value} (h : w.ownsRow base e 1 (.slice ad n cap) n xs) (hxl : xs.length = n) (hb : base ≤ w.heap.size) (hO : n ≤ 4000000000000)
    {ops : Array Oper} {rest : List Oper} {op : Oper} {A : Act} {Q : Exit → Act → World → Prop} (hgd : op.guard = none) (s x : Operand)
    (ho : op.op = .call { callee := .builtin .append, args := #[s, x], argTypes := #[sl, sl] }) (u : Value) (hu1 : u.oneCell' = true) (hs : A.eval s = .slice ad n cap) (hx : A.eval x = .slice (some ⟨w.heap.size, 0, none⟩) 1 1)
    (hK : ∀ ad' cap' w', w'.ownsRow base e 1 (.slice ad' (n + 1) cap') (n + 1) (xs ++ [u]) → Frm (At ad) w w' → (∀ k, At ad' k → At ad k ∨ w.heap.size < k) → wpList Try.prog ops Q rest (A.put op.dst (.slice ad' (n + 1) cap')) w') :
    wpList Try.prog ops Q (op :: rest) A (w.alloc (.cells #[u] e)) := by
  have ha : (w.alloc (.cells #[u] e)).ownsRow base e 1 (.slice ad n cap) n xs := own_same h fun k _ hk => Below.heap_alloc w _ k hk
  obtain ⟨v', w', hr, hown, hgrow, hnew⟩ := run_append_one O _ base (Nat.le_trans hb (by simp)) (.slice ad n cap) n xs [u] ha (by omega) hO rfl (fun z hz => by rw [List.mem_singleton.1 hz]; exact hu1) ⟨w.heap.size, 0, none⟩ 1 (one_cells w u e)
  obtain ⟨ad', cap', rfl⟩ := own_form hown
  have := hK ad' cap' w' hown (grown_frm _ hgrow (own_head h)) (grown_new _ (own_head h) (own_head hown) hnew)
  exact wpV_append_eq _ hgd s x sl sl ho _ _ hs hx (hr _) this
theorem own_ge {base e size n cap : Nat} {w : World} {a : Option Addr} {xs : List Value} (h : w.ownsRow base e size (.slice a n cap) n xs) {k : Nat} (hk : At a k) : base ≤ k ∧ k < w.heap.size := by
  rcases h.2 with ⟨hv, _⟩ | ⟨g, cp, cur, hv, hb, hg, _⟩
  · injection hv with h1; subst h1; simp [At] at hk
  · injection hv with h1; subst h1; simp [At] at hk; subst hk; exact ⟨hb, (Array.getElem?_eq_some_iff.1 hg).1⟩

/-- Lists of texts. -/
theorem oneText : OneT 9 25 (.string ByteArray.empty) 16 := ⟨by kernel_rfl, Try.underlying25, rfl, by decide⟩
def textCells (xs : List ByteArray) : List Value := xs.map fun s => Value.string s
theorem textCells_length (xs : List ByteArray) : (textCells xs).length = xs.length := by simp [textCells]
theorem textCells_append (a b : List ByteArray) : textCells (a ++ b) = textCells a ++ textCells b := by simp [textCells]
def OwnT (base : Nat) (w : World) (a : Option Addr) (cap : Nat) (xs : List ByteArray) : Prop := w.ownsRow base 9 1 (.slice a xs.length cap) xs.length (textCells xs)
/-- A list of texts that can be read. -/
def IsT (w : World) (a : Option Addr) (xs : List ByteArray) : Prop :=
  xs = [] ∨ ∃ b off, a = some ⟨b, off, none⟩ ∧ ∀ i (h : i < xs.length), w.cell? ⟨b, off + i, none⟩ = some (.string xs[i])
theorem IsT.below {w w' : World} {a : Option Addr} {xs : List ByteArray} (h : IsT w a xs) (hb : Below w.heap.size w w') : IsT w' a xs := by
  rcases h with h | ⟨b, off, rfl, h⟩
  · exact .inl h
  · exact .inr ⟨b, off, rfl, fun i hi => (hb.cell (p := ⟨b, off + i, none⟩) (World.block_lt_of_cell? w ⟨b, off + i, none⟩ (h i hi))).trans (h i hi)⟩
theorem OwnT.isT {base : Nat} {w : World} {a : Option Addr} {cap : Nat} {xs : List ByteArray} (h : OwnT base w a cap xs) : IsT w a xs := by
  by_cases c : xs = []
  · exact .inl c
  · rcases h.2 with ⟨hv, h0⟩ | ⟨g, cp, cur, hv, hb, rest⟩
    · exact absurd (List.eq_nil_of_length_eq_zero h0) c
    · obtain rfl : a = some ⟨g, 0, none⟩ := by injection hv
      refine .inr ⟨g, 0, rfl, fun i hi => ?_⟩
      have := World.ownsRow.cells h (g := g) rfl i (.string xs[i]) (by simp [textCells, hi])
      rwa [addr_off] at this
theorem OwnT.nil (base : Nat) (w : World) : OwnT base w none 0 [] := World.ownsRow_nil _ _ _ _
theorem OwnT.lower {base base' : Nat} {w : World} {a : Option Addr} {cap : Nat} {xs : List ByteArray} (h : OwnT base w a cap xs) (hb : base' ≤ base) : OwnT base' w a cap xs := own_lower h hb
theorem OwnT.at_ge {base cap : Nat} {w : World} {a : Option Addr} {xs : List ByteArray} (h : OwnT base w a cap xs) {k : Nat} (hk : At a k) : base ≤ k ∧ k < w.heap.size := own_ge h hk
theorem OwnT.below {base : Nat} {w w' : World} {a : Option Addr} {cap : Nat} {xs : List ByteArray} (h : OwnT base w a cap xs) (hb : Below w.heap.size w w') : OwnT base w' a cap xs := own_same h fun g _ hg => hb.block g hg
theorem OwnT.frm {base cap : Nat} {w w' : World} {a : Option Addr} {xs : List ByteArray} {F : Nat → Prop} (h : OwnT base w a cap xs) (hf : Frm F w w') (hF : ∀ k, At a k → k < w.heap.size → ¬ F k) : OwnT base w' a cap xs := own_by h hf hF
theorem wp_text {base : Nat} {w : World} {ad : Option Addr} {cap : Nat} {xs : List ByteArray} (h : OwnT base w ad cap xs) (hb : base ≤ w.heap.size) (hO : xs.length ≤ 4000000000000)
    {ops : Array Oper} {rest : List Oper} {op : Oper} {A : Act} {Q : Exit → Act → World → Prop} (hgd : op.guard = none) (s x : Operand)
    (ho : op.op = .call { callee := .builtin .append, args := #[s, x], argTypes := #[25, 25] }) (u : ByteArray) (hs : A.eval s = .slice ad xs.length cap) (hx : A.eval x = .slice (some ⟨w.heap.size, 0, none⟩) 1 1)
    (hK : ∀ ad' cap' w', OwnT base w' ad' cap' (xs ++ [u]) → Frm (At ad) w w' → (∀ k, At ad' k → At ad k ∨ w.heap.size < k) → wpList Try.prog ops Q rest (A.put op.dst (.slice ad' (xs ++ [u]).length cap')) w') :
    wpList Try.prog ops Q (op :: rest) A (w.alloc (.cells #[.string u] 9)) := by
  refine wp_one oneText h (textCells_length xs) hb hO hgd s x ho (.string u) rfl hs hx fun ad' cap' w' hown hf hn => ?_
  have hl : (xs ++ [u]).length = xs.length + 1 := by simp
  have := hK ad' cap' w' (by unfold OwnT; rw [hl, textCells_append]; exact hown) hf hn
  rwa [hl] at this
end Go.Proofs.Ythfakpekdjmpjaa
