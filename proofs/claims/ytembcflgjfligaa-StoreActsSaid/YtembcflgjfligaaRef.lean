/- A store of the reference in memory; call, place, Fail, NewStore of the reference. -/
import Derived.Test.YtembcflgjfligaaRKey
import Derived.Test.YtembcflgjfligaaCopy
namespace Go.Proofs.Ytembcflgjfligaa
open Go.Conc Go.RowKit

/-- The reference's store at block b holds st; all its blocks are of F. -/
structure IsRef (w : World) (F : Nat → Prop) (b : Nat) (st : St) (sv : Value) : Prop where
  blk : w.heap[b]? = some (.cells #[.int .i64 st.most, sv, .int .i64 st.owed, .int .i64 st.calls] 40 (0, 0))
  mine : F b
  row : w.ownsRow 0 56 3 sv st.os.length (rowOf st.os)
  rowF : ∀ k, sv.ownBlock = some k → F k
  most_le : st.most ≤ 4096
  len_le : (st.os.length : Int) ≤ st.most
  calls_ge : 0 ≤ st.calls
  owed_ge : 0 ≤ st.owed
  owed_le : st.owed ≤ 9223372036854775807
def Ref (w : World) (F : Nat → Prop) (b : Nat) (st : St) : Prop := ∃ sv, IsRef w F b st sv

theorem row_ne' {w : World} {sv : Value} {base n : Nat} {xs : List Value} (h : w.ownsRow base 56 3 sv n xs) {k g : Nat} (hg : sv.ownBlock = some g) {cs : Array Value} {fr : Nat × Nat} (hk : w.heap[k]? = some (.cells cs 40 fr)) : g ≠ k := by
  rintro rfl
  rcases h.2 with ⟨rfl, _⟩ | ⟨g', cap, cur, rfl, _, hgg, _⟩
  · simp [Value.ownBlock] at hg
  · simp only [Value.ownBlock, Option.some.injEq] at hg
    subst hg
    rw [hgg] at hk
    simp at hk

section
variable {w w' : World} {F F' : Nat → Prop} {b : Nat} {st : St} {sv : Value}
theorem IsRef.lt (h : IsRef w F b st sv) : b < w.heap.size := (Array.getElem?_eq_some_iff.1 h.blk).1
theorem IsRef.ne_row (h : IsRef w F b st sv) {g : Nat} (hg : sv.ownBlock = some g) : g ≠ b := row_ne' h.row hg h.blk
theorem IsRef.shape (h : IsRef w F b st sv) : ∃ a cap, sv = .slice a st.os.length cap := row_shape h.row
theorem IsRef.same (h : IsRef w F b st sv) (hs : ∀ k, k < w.heap.size → F k → w'.heap[k]? = w.heap[k]?) : IsRef w' F b st sv :=
  ⟨(hs b h.lt h.mine).trans h.blk, h.mine, row_same h.row (fun g hg => hs g (h.row.lt g hg).2 (h.rowF g hg)), h.rowF, h.most_le, h.len_le, h.calls_ge, h.owed_ge, h.owed_le⟩
theorem IsRef.mono (h : IsRef w F b st sv) (hF : ∀ k, k < w.heap.size → F k → F' k) : IsRef w F' b st sv :=
  ⟨h.blk, hF b h.lt h.mine, h.row, fun k hk => hF k (h.row.lt k hk).2 (h.rowF k hk), h.most_le, h.len_le, h.calls_ge, h.owed_ge, h.owed_le⟩
theorem Ref.same (h : Ref w F b st) (hs : ∀ k, k < w.heap.size → F k → w'.heap[k]? = w.heap[k]?) : Ref w' F b st := let ⟨sv, h⟩ := h; ⟨sv, h.same hs⟩
theorem Ref.mono (h : Ref w F b st) (hF : ∀ k, k < w.heap.size → F k → F' k) : Ref w F' b st := let ⟨sv, h⟩ := h; ⟨sv, h.mono hF⟩
theorem Ref.lt (h : Ref w F b st) : b < w.heap.size := let ⟨_, h⟩ := h; h.lt
theorem Ref.frm (h : Ref w F b st) {G : Nat → Prop} (hg : Frm G w w') (hd : ∀ k, k < w.heap.size → F k → ¬ G k) : Ref w' F b st :=
  h.same fun k hk hf => hg.block k hk (hd k hk hf)
theorem Ref.new (h : Ref w F b st) (hg : Below w.heap.size w w') : Ref w' F b st := h.same fun k hk _ => hg.block k hk
theorem IsRef.c0 (h : IsRef w F b st sv) : w.cell? ⟨b, 0, none⟩ = some (.int .i64 st.most) := by rw [cell_of_row w b 0 _ _ _ h.blk]; rfl
theorem IsRef.c1 (h : IsRef w F b st sv) : w.cell? ⟨b, 1, none⟩ = some sv := by rw [cell_of_row w b 1 _ _ _ h.blk]; rfl
theorem IsRef.c2 (h : IsRef w F b st sv) : w.cell? ⟨b, 2, none⟩ = some (.int .i64 st.owed) := by rw [cell_of_row w b 2 _ _ _ h.blk]; rfl
theorem IsRef.c3 (h : IsRef w F b st sv) : w.cell? ⟨b, 3, none⟩ = some (.int .i64 st.calls) := by rw [cell_of_row w b 3 _ _ _ h.blk]; rfl
theorem IsRef.fz (h : IsRef w F b st sv) (i : Nat) : w.frozen? ⟨b, i, none⟩ = false := frozen_of_row w b i _ _ h.blk
theorem IsRef.setCalls (h : IsRef w F b st sv) (n : Int) (hn : 0 ≤ n) : IsRef (w.setCell ⟨b, 3, none⟩ (.int .i64 n)) F b { st with calls := n } sv := by
  have hb := Go.Joins.block_setCell (i := 3) h.blk (.int .i64 n)
  exact ⟨by simpa using hb, h.mine, row_same h.row (fun g hg => Below.heap_setCell _ _ _ _ (h.ne_row hg)), h.rowF, h.most_le, h.len_le, hn, h.owed_ge, h.owed_le⟩
theorem IsRef.setOwed (h : IsRef w F b st sv) (n : Int) (hn : 0 ≤ n) (hm : n ≤ 9223372036854775807) : IsRef (w.setCell ⟨b, 2, none⟩ (.int .i64 n)) F b { st with owed := n } sv := by
  have hb := Go.Joins.block_setCell (i := 2) h.blk (.int .i64 n)
  exact ⟨by simpa using hb, h.mine, row_same h.row (fun g hg => Below.heap_setCell _ _ _ _ (h.ne_row hg)), h.rowF, h.most_le, h.len_le, h.calls_ge, hn, hm⟩
theorem IsRef.setRow (h : IsRef w F b st sv) (os : List Ob) (sv' : Value) (hr : w.ownsRow 0 56 3 sv' os.length (rowOf os)) (hF : ∀ k, sv'.ownBlock = some k → F k) (hl : (os.length : Int) ≤ st.most) :
    IsRef (w.setCell ⟨b, 1, none⟩ sv') F b { st with os := os } sv' := by
  have hb := Go.Joins.block_setCell (i := 1) h.blk sv'
  exact ⟨by simpa using hb, h.mine, row_same hr (fun g hg => Below.heap_setCell _ _ _ _ (row_ne' hr hg h.blk)), hF, h.most_le, hl, h.calls_ge, h.owed_ge, h.owed_le⟩
end

section
variable {F : Nat → Prop} (b : Nat) (w : World) (st : St)
theorem rcall_ok (h : Ref w F b st) (ho : st.owed = 0) (hc : st.calls + 1 ≤ 9223372036854775807) :
    Calls Try.prog 34 #[.pointer (some ⟨b, 0, none⟩)] w fun e w' => e = .returned (.bool true) ∧ Ref w' F b { st with calls := st.calls + 1 } ∧ Frm F w w' := by
  obtain ⟨sv, h⟩ := h
  have h1 := h.setCalls (st.calls + 1) (by have := h.calls_ge; omega)
  have g3 := h.c3
  have z3 := h.fz 3
  have q2 := h1.c2
  have hge := h.calls_ge
  rw [ho] at q2
  have H1 := Lib.hid h1
  have H := Lib.hid h
  clear h h1 ho
  go_enter Try.func34, Try.ntmps34
  go_wp2
  go_ret
  exact ⟨rfl, ⟨_, H1.out⟩, (Frm.refl F w).setCell H.out.mine _⟩

theorem rcall_fails (h : Ref w F b st) (ho : 0 < st.owed) (hc : st.calls + 1 ≤ 9223372036854775807) :
    Calls Try.prog 34 #[.pointer (some ⟨b, 0, none⟩)] w fun e w' => e = .returned (.bool false) ∧ Ref w' F b { st with calls := st.calls + 1, owed := st.owed - 1 } ∧ Frm F w w' := by
  obtain ⟨sv, h⟩ := h
  have h1 := h.setCalls (st.calls + 1) (by have := h.calls_ge; omega)
  have h2 := h1.setOwed (st.owed - 1) (by omega) (by have := h.owed_le; omega)
  have g3 := h.c3
  have z3 := h.fz 3
  have q2 := h1.c2
  have z2 := h1.fz 2
  have hge := h.calls_ge
  have hle := h.owed_le
  have hq2 : (w.setCell ⟨b, 3, none⟩ (.int .i64 (st.calls + 1))).cell? ⟨b, 2, none⟩ = some (.int .i64 st.owed) := q2
  have H2 := Lib.hid h2
  have H := Lib.hid h
  clear h h1 h2 q2
  go_enter Try.func34, Try.ntmps34
  go_wp2
  go_ret
  exact ⟨rfl, ⟨_, H2.out⟩, ((Frm.refl F w).setCell H.out.mine _).setCell H.out.mine _⟩

theorem rfail_no (n : Int) (hn : n < 0) : Calls Try.prog 27 #[.pointer (some ⟨b, 0, none⟩), .int .i64 n] w fun e w' => e = .returned (.int .i64 100) ∧ w = w' := by
  go_enter Try.func27, Try.ntmps27
  go_wp2
  go_ret
  exact ⟨rfl, rfl⟩
theorem rfail_yes (h : Ref w F b st) (n : Int) (hn : 0 ≤ n) (hm : n ≤ 9223372036854775807) : Calls Try.prog 27 #[.pointer (some ⟨b, 0, none⟩), .int .i64 n] w fun e w' => e = .returned (.int .i64 0) ∧ Ref w' F b { st with owed := n } ∧ Frm F w w' := by
  obtain ⟨sv, h⟩ := h
  have h1 := h.setOwed n hn hm
  have g2 := h.c2
  have z2 := h.fz 2
  have H1 := Lib.hid h1
  have H := Lib.hid h
  clear h h1
  go_enter Try.func27, Try.ntmps27
  go_wp2
  go_ret
  exact ⟨rfl, ⟨_, H1.out⟩, (Frm.refl F w).setCell H.out.mine _⟩
theorem rnew_no (n : Int) (hn : n < 1 ∨ 4096 < n) : Calls Try.prog 5 #[.int .i64 n] w fun e w' => e = .returned (.tuple #[.pointer none, .int .i64 100]) ∧ w = w' := by
  by_cases h1 : n < 1
  · go_enter Try.func5, Try.ntmps5
    go_wp2
    go_ret2
    exact ⟨rfl, rfl⟩
  · have h2 : 4096 < n := by omega
    clear hn
    go_enter Try.func5, Try.ntmps5
    go_wp2
    go_ret2
    exact ⟨rfl, rfl⟩
theorem rnew_any (n : Int) (h1 : 1 ≤ n) (h2 : n ≤ 4096) (hF : ∀ k, w.heap.size ≤ k → F k) : Calls Try.prog 5 #[.int .i64 n] w fun e w' => e = .returned (.tuple #[.pointer (some ⟨w.heap.size, 0, none⟩), .int .i64 0]) ∧ Ref w' F w.heap.size ⟨n, [], 0, 0⟩ ∧ Frm F w w' := by
  go_enter Try.func5, Try.ntmps5
  go_wp2
  go_ret2
  refine ⟨rfl, ⟨.slice none 0 0, heap_alloc_new w _, hF _ (Nat.le_refl _), by simpa [rowOf] using World.ownsRow_nil _ _ _ _, by simp [Value.ownBlock], h2, by simp; omega, by simp, by simp, by simp⟩, (Frm.refl F w).alloc _⟩
end
end Go.Proofs.Ytembcflgjfligaa
