/- A store of objstore in memory: its block, the row of its objects, the channel of its owed failures; and what a step may change. -/
import Derived.Test.YtembcflgjfligaaRows
import Derived.Conc.LoneCalls
import Derived.WalkKit
import Derived.WalkSmall
import Derived.Laws.Rows
import Derived.Lib.SmallJoins
import Derived.Lib.Hide
namespace Go.Proofs.Ytembcflgjfligaa
open Go.Conc Go.RowKit

/-- An object of the store. -/
structure Ob where
  key : ByteArray
  data : ByteArray
  time : Int

def Ob.cells (o : Ob) : List Value := [.string o.key, .string o.data, .int .i64 o.time]
def rowOf (os : List Ob) : List Value := os.flatMap Ob.cells

theorem rowOf_length (os : List Ob) : (rowOf os).length = os.length * 3 := by
  induction os with
  | nil => rfl
  | cons o os ih => simp only [rowOf, List.flatMap_cons, List.length_append, List.length_cons, Ob.cells, List.length_nil] at *; omega
theorem rowOf_append (a b : List Ob) : rowOf (a ++ b) = rowOf a ++ rowOf b := by simp [rowOf]
theorem rowOf_one (o : Ob) : rowOf [o] = o.cells := by simp [rowOf]
theorem rowOf_take (os : List Ob) (k : Nat) : rowOf (os.take k) = (rowOf os).take (k * 3) := by
  induction os generalizing k with
  | nil => simp [rowOf]
  | cons o os ih =>
    cases k with
    | zero => simp [rowOf]
    | succ k =>
      have := ih k
      simp only [rowOf, List.take_succ_cons, List.flatMap_cons] at *
      rw [this, Nat.succ_mul, List.take_append]
      simp [Ob.cells, List.take_of_length_le]
theorem rowOf_drop (os : List Ob) (k : Nat) : rowOf (os.drop k) = (rowOf os).drop (k * 3) := by
  induction os generalizing k with
  | nil => simp [rowOf]
  | cons o os ih =>
    cases k with
    | zero => simp [rowOf]
    | succ k =>
      have := ih k
      simp only [rowOf, List.drop_succ_cons, List.flatMap_cons] at *
      rw [this, Nat.succ_mul, List.drop_append]
      simp [Ob.cells]
theorem rowOf_get (os : List Ob) (k : Nat) (o : Ob) (h : os[k]? = some o) : (rowOf os)[k * 3]? = some (.string o.key) ∧ (rowOf os)[k * 3 + 1]? = some (.string o.data) ∧ (rowOf os)[k * 3 + 2]? = some (.int .i64 o.time) := by
  induction os generalizing k with
  | nil => simp at h
  | cons p os ih =>
    cases k with
    | zero =>
      simp only [List.getElem?_cons_zero, Option.some.injEq] at h
      subst h
      simp [rowOf, Ob.cells]
    | succ k =>
      have := ih k (by simpa using h)
      have e : rowOf (p :: os) = p.cells ++ rowOf os := by simp [rowOf]
      have l : p.cells.length = 3 := rfl
      rw [e, List.getElem?_append_right (by omega), List.getElem?_append_right (by omega), List.getElem?_append_right (by omega), l]
      rw [show (k + 1) * 3 - 3 = k * 3 from by omega, show (k + 1) * 3 + 1 - 3 = k * 3 + 1 from by omega, show (k + 1) * 3 + 2 - 3 = k * 3 + 2 from by omega]
      exact this

/-- What a step may change: the blocks of F, and new ones. -/
structure Frm (F : Nat → Prop) (w w' : World) : Prop where
  os : w'.os = w.os
  tape : w'.tape = w.tape
  output : w'.output = w.output
  size : w.heap.size ≤ w'.heap.size
  block : ∀ k, k < w.heap.size → ¬ F k → w'.heap[k]? = w.heap[k]?

section
variable {F : Nat → Prop} {w w' a : World}
theorem Frm.refl (F : Nat → Prop) (w : World) : Frm F w w := ⟨rfl, rfl, rfl, Nat.le_refl _, fun _ _ _ => rfl⟩
theorem Frm.trans (h : Frm F a w) (k : Frm F w w') : Frm F a w' :=
  ⟨k.os.trans h.os, k.tape.trans h.tape, k.output.trans h.output, Nat.le_trans h.size k.size, fun i hi hn => (k.block i (Nat.lt_of_lt_of_le hi h.size) hn).trans (h.block i hi hn)⟩
theorem Frm.mono {F' : Nat → Prop} (h : Frm F w w') (hF : ∀ k, k < w.heap.size → F k → F' k) : Frm F' w w' :=
  ⟨h.os, h.tape, h.output, h.size, fun k hk hn => h.block k hk fun hf => hn (hF k hk hf)⟩
theorem Frm.below {B : Nat} (h : Frm (fun k => B ≤ k) w w') (hB : B ≤ w.heap.size) : Below B w w' :=
  ⟨h.os, h.tape, h.output, h.size, fun k hk => h.block k (by omega) (by omega)⟩
theorem Frm.of_below {B : Nat} (h : Below B w w') : Frm (fun k => B ≤ k) w w' :=
  ⟨h.os, h.tape, h.output, h.size, fun k _ hk => h.block k (by omega)⟩
theorem Frm.of_new (h : Below w.heap.size w w') (F : Nat → Prop) : Frm F w w' :=
  ⟨h.os, h.tape, h.output, h.size, fun k hk _ => h.block k hk⟩
theorem Frm.drew (h : Frm F a w) : Frm F a w.drew := ⟨h.os, h.tape, h.output, h.size, h.block⟩
theorem Frm.same {v : World} (h : Frm F a w) (h1 : v.heap = w.heap) (h2 : v.os = w.os) (h3 : v.tape = w.tape) (h4 : v.output = w.output) : Frm F a v :=
  ⟨h2.trans h.os, h3.trans h.tape, h4.trans h.output, by rw [h1]; exact h.size, by rw [h1]; exact h.block⟩
theorem Frm.alloc (h : Frm F a w) (o : Obj) : Frm F a (w.alloc o) :=
  h.trans ⟨rfl, rfl, rfl, by simp, fun k hk _ => Below.heap_alloc _ _ _ hk⟩
theorem Frm.setCell (h : Frm F a w) {p : Addr} (hp : F p.block) (u : Value) : Frm F a (w.setCell p u) :=
  h.trans ⟨rfl, rfl, rfl, by simp [World.setCell], fun k _ hn => Below.heap_setCell _ _ _ _ (fun e => hn (e ▸ hp))⟩
theorem Frm.setChan (h : Frm F a w) {c : Nat} (hp : F c) (cap : Nat) (buf : Array Value) (cl : Bool) (s r : Nat) (tm : Bool) : Frm F a (w.setChan c cap buf cl s r tm) :=
  h.trans ⟨rfl, rfl, rfl, by simp [World.setChan], fun k _ hn => by
    simp only [World.setChan]; rw [Array.getElem?_setIfInBounds_ne (fun e : c = k => hn (e ▸ hp))]⟩
theorem Frm.grown {row : Option Nat} (h : Frm F a w) (hg : w.grownBy w' row) (hr : ∀ k, row = some k → F k) : Frm F a w' :=
  h.trans ⟨hg.os, hg.tape, hg.output, hg.size, fun k hk hn => hg.block k hk (fun e => hn (hr k e.symm))⟩
end

/-- How many failures the channel owes. -/
def Owes (w : World) (cv : Value) (n : Int) : Prop :=
  (cv = .chan none ∧ n = 0) ∨ ∃ c s r, cv = .chan (some c) ∧ ((n = 0 ∧ w.heap[c]? = some (.chan 1 #[] false s r false)) ∨ (0 < n ∧ n ≤ 9223372036854775807 ∧ w.heap[c]? = some (.chan 1 #[.int .i64 n] false s r false)))

/-- What a store holds. -/
structure St where
  most : Int
  os : List Ob
  calls : Int
  owed : Int

/-- The store at block b holds st; all its blocks are of F. -/
structure IsSto (w : World) (F : Nat → Prop) (b : Nat) (st : St) (sv cv : Value) : Prop where
  blk : w.heap[b]? = some (.cells #[.int .i64 st.most, sv, .int .i64 st.calls, cv] 47 (0, 0))
  mine : F b
  row : w.ownsRow 0 56 3 sv st.os.length (rowOf st.os)
  rowF : ∀ k, sv.ownBlock = some k → F k
  owes : Owes w cv st.owed
  chanF : ∀ c, cv = .chan (some c) → F c
  most_le : st.most ≤ 4096
  len_le : (st.os.length : Int) ≤ st.most
  calls_ge : 0 ≤ st.calls

def Sto (w : World) (F : Nat → Prop) (b : Nat) (st : St) : Prop := ∃ sv cv, IsSto w F b st sv cv

section
variable {w w' : World} {F F' : Nat → Prop} {b : Nat} {st : St} {sv cv : Value}
theorem IsSto.lt (h : IsSto w F b st sv cv) : b < w.heap.size := (Array.getElem?_eq_some_iff.1 h.blk).1
theorem Owes.chan_lt {n : Int} (h : Owes w cv n) {c : Nat} (hc : cv = .chan (some c)) : c < w.heap.size := by
  rcases h with ⟨rfl, _⟩ | ⟨c', s, r, rfl, h⟩
  · simp at hc
  · simp only [Value.chan.injEq, Option.some.injEq] at hc
    subst hc
    rcases h with ⟨_, h⟩ | ⟨_, _, h⟩ <;> exact (Array.getElem?_eq_some_iff.1 h).1
/-- Blocks of other kinds are other blocks. -/
theorem Owes.ne_cells {n : Int} (h : Owes w cv n) {c k : Nat} (hc : cv = .chan (some c)) {cs : Array Value} {t : TypeId} {fr : Nat × Nat} (hk : w.heap[k]? = some (.cells cs t fr)) : c ≠ k := by
  rintro rfl
  rcases h with ⟨rfl, _⟩ | ⟨c', s, r, rfl, h⟩
  · simp at hc
  · simp only [Value.chan.injEq, Option.some.injEq] at hc
    subst hc
    rcases h with ⟨_, h⟩ | ⟨_, _, h⟩ <;> rw [hk] at h <;> simp at h
theorem Owes.same {n : Int} (h : Owes w cv n) (hs : ∀ c, cv = .chan (some c) → w'.heap[c]? = w.heap[c]?) : Owes w' cv n := by
  rcases h with h | ⟨c, s, r, rfl, h⟩
  · exact .inl h
  · exact .inr ⟨c, s, r, rfl, by rw [hs c rfl]; exact h⟩
theorem row_ne {base n : Nat} {xs : List Value} (h : w.ownsRow base 56 3 sv n xs) {k g : Nat} (hg : sv.ownBlock = some g) {cs : Array Value} {fr : Nat × Nat} (hk : w.heap[k]? = some (.cells cs 47 fr)) : g ≠ k := by
  rintro rfl
  rcases h.2 with ⟨rfl, _⟩ | ⟨g', cap, cur, rfl, _, hgg, _⟩
  · simp [Value.ownBlock] at hg
  · simp only [Value.ownBlock, Option.some.injEq] at hg
    subst hg
    rw [hgg] at hk
    simp at hk
theorem row_same {base n : Nat} {xs : List Value} (h : w.ownsRow base 56 3 sv n xs) (hs : ∀ g, sv.ownBlock = some g → w'.heap[g]? = w.heap[g]?) : w'.ownsRow base 56 3 sv n xs := by
  refine ⟨h.1, ?_⟩
  rcases h.2 with hn | ⟨g, cap, cur, rfl, hb, hgg, rest⟩
  · exact .inl hn
  · exact .inr ⟨g, cap, cur, rfl, hb, by rw [hs g rfl]; exact hgg, rest⟩
theorem IsSto.ne_row (h : IsSto w F b st sv cv) {g : Nat} (hg : sv.ownBlock = some g) : g ≠ b := row_ne h.row hg h.blk
theorem IsSto.ne_chan (h : IsSto w F b st sv cv) {c : Nat} (hc : cv = .chan (some c)) : c ≠ b := h.owes.ne_cells hc h.blk
theorem IsSto.chan_ne_row (h : IsSto w F b st sv cv) {c g : Nat} (hc : cv = .chan (some c)) (hg : sv.ownBlock = some g) : c ≠ g := by
  rcases h.row.2 with ⟨rfl, _⟩ | ⟨g', cap, cur, rfl, _, hgg, _⟩
  · simp [Value.ownBlock] at hg
  · simp only [Value.ownBlock, Option.some.injEq] at hg
    subst hg
    exact h.owes.ne_cells hc hgg
/-- A store stands where its blocks stand. -/
theorem IsSto.same (h : IsSto w F b st sv cv) (hs : ∀ k, k < w.heap.size → F k → w'.heap[k]? = w.heap[k]?) : IsSto w' F b st sv cv :=
  ⟨(hs b h.lt h.mine).trans h.blk, h.mine, row_same h.row (fun g hg => hs g (h.row.lt g hg).2 (h.rowF g hg)), h.rowF, h.owes.same (fun c hc => hs c (h.owes.chan_lt hc) (h.chanF c hc)), h.chanF, h.most_le, h.len_le, h.calls_ge⟩
theorem IsSto.mono (h : IsSto w F b st sv cv) (hF : ∀ k, k < w.heap.size → F k → F' k) : IsSto w F' b st sv cv :=
  ⟨h.blk, hF b h.lt h.mine, h.row, fun k hk => hF k (h.row.lt k hk).2 (h.rowF k hk), h.owes, fun c hc => hF c (h.owes.chan_lt hc) (h.chanF c hc), h.most_le, h.len_le, h.calls_ge⟩
theorem Sto.same (h : Sto w F b st) (hs : ∀ k, k < w.heap.size → F k → w'.heap[k]? = w.heap[k]?) : Sto w' F b st :=
  let ⟨sv, cv, h⟩ := h; ⟨sv, cv, h.same hs⟩
theorem Sto.mono (h : Sto w F b st) (hF : ∀ k, k < w.heap.size → F k → F' k) : Sto w F' b st :=
  let ⟨sv, cv, h⟩ := h; ⟨sv, cv, h.mono hF⟩
theorem Sto.lt (h : Sto w F b st) : b < w.heap.size := let ⟨_, _, h⟩ := h; h.lt
/-- Another one's step. -/
theorem Sto.frm (h : Sto w F b st) {G : Nat → Prop} (hg : Frm G w w') (hd : ∀ k, k < w.heap.size → F k → ¬ G k) : Sto w' F b st :=
  h.same fun k hk hf => hg.block k hk (hd k hk hf)
theorem Sto.new (h : Sto w F b st) (hg : Below w.heap.size w w') : Sto w' F b st := h.same fun k hk _ => hg.block k hk
theorem Sto.drew (h : Sto w F b st) : Sto w.drew F b st := h.same fun _ _ _ => rfl
theorem Sto.alloc (h : Sto w F b st) (o : Obj) : Sto (w.alloc o) F b st := h.same fun _ hk _ => Below.heap_alloc _ _ _ hk

theorem IsSto.c0 (h : IsSto w F b st sv cv) : w.cell? ⟨b, 0, none⟩ = some (.int .i64 st.most) := by rw [cell_of_row w b 0 _ _ _ h.blk]; rfl
theorem IsSto.c1 (h : IsSto w F b st sv cv) : w.cell? ⟨b, 1, none⟩ = some sv := by rw [cell_of_row w b 1 _ _ _ h.blk]; rfl
theorem IsSto.c2 (h : IsSto w F b st sv cv) : w.cell? ⟨b, 2, none⟩ = some (.int .i64 st.calls) := by rw [cell_of_row w b 2 _ _ _ h.blk]; rfl
theorem IsSto.c3 (h : IsSto w F b st sv cv) : w.cell? ⟨b, 3, none⟩ = some cv := by rw [cell_of_row w b 3 _ _ _ h.blk]; rfl
theorem IsSto.fz (h : IsSto w F b st sv cv) (i : Nat) : w.frozen? ⟨b, i, none⟩ = false := frozen_of_row w b i _ _ h.blk

/-- The count of calls is written. -/
theorem IsSto.setCalls (h : IsSto w F b st sv cv) (n : Int) (hn : 0 ≤ n) : IsSto (w.setCell ⟨b, 2, none⟩ (.int .i64 n)) F b { st with calls := n } sv cv := by
  have hb := Go.Joins.block_setCell (i := 2) h.blk (.int .i64 n)
  refine ⟨by simpa using hb, h.mine, row_same h.row (fun g hg => Below.heap_setCell _ _ _ _ (h.ne_row hg)), h.rowF, h.owes.same (fun c hc => Below.heap_setCell _ _ _ _ (h.ne_chan hc)), h.chanF, h.most_le, h.len_le, hn⟩
/-- The row is written anew. -/
theorem IsSto.setRow (h : IsSto w F b st sv cv) (os : List Ob) (sv' : Value) (hr : w.ownsRow 0 56 3 sv' os.length (rowOf os)) (hF : ∀ k, sv'.ownBlock = some k → F k) (hl : (os.length : Int) ≤ st.most) :
    IsSto (w.setCell ⟨b, 1, none⟩ sv') F b { st with os := os } sv' cv := by
  have hb := Go.Joins.block_setCell (i := 1) h.blk sv'
  refine ⟨by simpa using hb, h.mine, row_same hr (fun g hg => Below.heap_setCell _ _ _ _ (row_ne hr hg h.blk)), hF, h.owes.same (fun c hc => Below.heap_setCell _ _ _ _ (h.ne_chan hc)), h.chanF, h.most_le, hl, h.calls_ge⟩
/-- The channel is read empty. -/
theorem IsSto.taken (h : IsSto w F b st sv cv) {c s r : Nat} (hc : cv = .chan (some c)) : IsSto (w.setChan c 1 #[] false s r false) F b { st with owed := 0 } sv cv := by
  have hlt := h.owes.chan_lt hc
  have hne : ∀ k, k ≠ c → (w.setChan c 1 #[] false s r false).heap[k]? = w.heap[k]? := fun k hk => by
    simp only [World.setChan]; rw [Array.getElem?_setIfInBounds_ne (fun e => hk e.symm)]
  refine ⟨(hne b (fun e => h.ne_chan hc e.symm)).trans h.blk, h.mine, row_same h.row (fun g hg => hne g (fun e => h.chan_ne_row hc hg e.symm)), h.rowF, ?_, h.chanF, h.most_le, h.len_le, h.calls_ge⟩
  exact .inr ⟨c, s, r, hc, .inl ⟨rfl, heap_setChan w c 1 #[] false s r false hlt⟩⟩
/-- A new channel takes the order. -/
theorem IsSto.given (h : IsSto w F b st sv cv) (hF : ∀ k, w.heap.size ≤ k → F k) :
    IsSto ((w.setCell ⟨b, 3, none⟩ (.chan (some w.heap.size))).alloc (.chan 1 #[] false 0 0 false)) F b { st with owed := 0 } sv (.chan (some w.heap.size)) := by
  have hlt := h.lt
  have hb := Go.Joins.block_setCell (i := 3) h.blk (.chan (some w.heap.size))
  have hsz : (w.setCell ⟨b, 3, none⟩ (.chan (some w.heap.size))).heap.size = w.heap.size := by simp [World.setCell]
  have hold : ∀ k, k < w.heap.size → k ≠ b → ((w.setCell ⟨b, 3, none⟩ (.chan (some w.heap.size))).alloc (.chan 1 #[] false 0 0 false)).heap[k]? = w.heap[k]? := fun k hk hne =>
    (Below.heap_alloc _ _ _ (by omega)).trans (Below.heap_setCell _ _ _ _ hne)
  refine ⟨(Below.heap_alloc _ _ _ (by omega)).trans (by simpa using hb), h.mine, row_same h.row (fun g hg => hold g (h.row.lt g hg).2 (h.ne_row hg)), h.rowF, ?_, ?_, h.most_le, h.len_le, h.calls_ge⟩
  · refine .inr ⟨_, 0, 0, rfl, .inl ⟨rfl, ?_⟩⟩
    have := heap_alloc_new (w.setCell ⟨b, 3, none⟩ (.chan (some w.heap.size))) (.chan 1 #[] false 0 0 false)
    rwa [hsz] at this
  · intro c hc
    simp only [Value.chan.injEq, Option.some.injEq] at hc
    subst hc
    exact hF _ (Nat.le_refl _)
/-- .. and the number is laid in. -/
theorem IsSto.sent (h : IsSto w F b st sv cv) {c s r : Nat} (hc : cv = .chan (some c)) (n : Int) (hn : 0 < n) (hm : n ≤ 9223372036854775807) : IsSto (w.setChan c 1 #[.int .i64 n] false s r false) F b { st with owed := n } sv cv := by
  have hlt := h.owes.chan_lt hc
  have hne : ∀ k, k ≠ c → (w.setChan c 1 #[.int .i64 n] false s r false).heap[k]? = w.heap[k]? := fun k hk => by
    simp only [World.setChan]; rw [Array.getElem?_setIfInBounds_ne (fun e => hk e.symm)]
  refine ⟨(hne b (fun e => h.ne_chan hc e.symm)).trans h.blk, h.mine, row_same h.row (fun g hg => hne g (fun e => h.chan_ne_row hc hg e.symm)), h.rowF, ?_, h.chanF, h.most_le, h.len_le, h.calls_ge⟩
  exact .inr ⟨c, s, r, hc, .inr ⟨hn, hm, heap_setChan w c 1 _ false s r false hlt⟩⟩
end
end Go.Proofs.Ytembcflgjfligaa
