/- What the walk over changes carries besides schemas: a row of truths of one's own, a literal of five texts. -/
import Derived.Test.YthfakpekdjmpjaaSchVar
import Derived.Test.YthfakpekdjmpjaaSchZ
import Derived.Test.YthfakpekdjmpjaaOneL
import Derived.Test.YthfakpekdjmpjaaGrowE
namespace Go.Proofs.Ythfakpekdjmpjaa
open Go.Conc Go.RowKit
set_option linter.unusedVariables false
set_option linter.unusedSimpArgs false

def OwnB (base : Nat) (w : World) (a : Option Addr) (cap n : Nat) (L : List Value) : Prop := w.ownsRow base 4 1 (.slice a n cap) n L ∧ L.length = n
theorem oneBool : OneT 4 46 (.bool false) 1 := ⟨by kernel_rfl, Try.underlying46, rfl, by decide⟩
theorem OwnB.below {base : Nat} {w w' : World} {a : Option Addr} {cap n : Nat} {L : List Value} (h : OwnB base w a cap n L) (hb : Below w.heap.size w w') : OwnB base w' a cap n L := ⟨own_same h.1 fun g _ hg => hb.block g hg, h.2⟩
theorem OwnB.block {base : Nat} {w : World} {a : Option Addr} {cap n : Nat} {L : List Value} (h : OwnB base w a cap n L) : (a = none ∧ n = 0) ∨ ∃ g cur, a = some ⟨g, 0, none⟩ ∧ base ≤ g ∧ w.heap[g]? = some (.cells cur 4 (0, 0)) := by
  rcases h.1.2 with ⟨hv, h0⟩ | ⟨g, cp, cur, hv, hb, hg, hn, hm, hs, ht⟩
  · injection hv with h1 h2 h3
    exact .inl ⟨h1, h0⟩
  · injection hv with h1 h2 h3
    exact .inr ⟨g, cur, h1, hb, hg⟩
theorem OwnB.off {base : Nat} {w w' : World} {a a0 : Option Addr} {cap n g c0 : Nat} {L : List Value} {s0 : Sc} (h : OwnB base w a cap n L) (hs : ScSlot w g a0 c0 s0) (hf : Frm (fun j => j = g) w w') : OwnB base w' a cap n L :=
  ⟨own_by h.1 hf fun k hk _ e => by
    rcases h.block with ⟨rfl, _⟩ | ⟨g', cur, rfl, _, h1⟩
    · simp [At] at hk
    · simp [At] at hk
      subst hk
      have := hs.b
      rw [← e, h1] at this
      simp only [Option.some.injEq, Obj.cells.injEq] at this
      exact absurd this.2.1 (by decide), h.2⟩
theorem OwnB.new (w : World) {base : Nat} (hb : base ≤ w.heap.size) : OwnB base (w.alloc (.cells #[.bool false, .bool true] 4)) (some ⟨w.heap.size, 0, none⟩) 2 2 [.bool false, .bool true] :=
  ⟨⟨rfl, .inr ⟨w.heap.size, 2, _, rfl, hb, heap_alloc_new w _, Nat.le_refl _, by simp [maxLen], rfl, rfl⟩⟩, rfl⟩
/-- One truth more. -/
theorem OwnB.more {base : Nat} {w : World} {a : Option Addr} {cap n : Nat} {L : List Value} (h : OwnB base w a cap n L) (hb : base ≤ w.heap.size) (hn : n ≤ 4000000000000) :
    ∃ a' cap' w', (∀ ty, (Builtin.append_ #[46, 46] ty #[.slice a n cap, .slice (some ⟨w.heap.size, 0, none⟩) 1 1]).run Try.prog (w.alloc (.cells #[.bool true] 4)) = .ok (.slice a' (n + 1) cap') w') ∧ OwnB base w' a' cap' (n + 1) (L ++ [.bool true]) ∧ Frm (At a) w w' ∧ (∀ k, At a' k → At a k ∨ w.heap.size ≤ k) := by
  have h1 : OwnB base (w.alloc (.cells #[.bool true] 4)) a cap n L := h.below ((Below.refl _ _).alloc (Nat.le_refl _) _)
  obtain ⟨v', w', hr, ho, hg, hk9⟩ := run_append_one oneBool (w.alloc (.cells #[.bool true] 4)) base (by simp; omega) _ n L [.bool true] h1.1 (by rw [h.2]; omega) hn rfl (by intro u hu; simp at hu; subst hu; rfl) ⟨w.heap.size, 0, none⟩ 1 (one_cells w _ _)
  have hv : ∃ a' c', v' = .slice a' (n + 1) c' := by
    rcases ho.2 with ⟨_, h0⟩ | ⟨g', cp, cur, rfl, _⟩
    · omega
    · exact ⟨_, _, rfl⟩
  obtain ⟨a', c', rfl⟩ := hv
  refine ⟨a', c', w', hr, ⟨ho, by simp [h.2]⟩, ?_, fun k hk => ?_⟩
  rotate_left
  · have ha : (Value.slice a' (n + 1) c').ownBlock = some k := by
      rcases a' with _ | ⟨b, o, sp⟩
      · simp [At] at hk
      · simp [At] at hk; subst hk
        rcases (show OwnB base w' (some ⟨k, o, sp⟩) c' (n + 1) (L ++ [.bool true]) from ⟨ho, by simp [h.2]⟩).block with ⟨h0, _⟩ | ⟨g, cur, h0, _⟩
        · cases h0
        · simp only [Option.some.injEq, Addr.mk.injEq] at h0; obtain ⟨rfl, rfl, rfl⟩ := h0; rfl
    rcases hk9 k ha with h0 | h0
    · left
      rcases h.block with ⟨rfl, _⟩ | ⟨g', cur, rfl, _, _⟩
      · simp [Value.ownBlock] at h0
      · simp [Value.ownBlock] at h0; subst h0; rfl
    · right; simp at h0; omega
  exact ((Frm.refl (At a) w).alloc _).grown hg (fun k hk => by
    rcases h.block with ⟨rfl, _⟩ | ⟨g', cur, rfl, _, _⟩
    · simp [Value.ownBlock] at hk
    · simp [Value.ownBlock] at hk; subst hk; rfl)
theorem Frm.off_b {base : Nat} {w : World} {a a0 : Option Addr} {cap n g c0 : Nat} {L : List Value} {s0 : Sc} (h : OwnB base w a cap n L) (hs : ScSlot w g a0 c0 s0) : ¬ At a g := fun hk => by
  rcases h.block with ⟨rfl, _⟩ | ⟨g', cur, rfl, _, h1⟩
  · simp [At] at hk
  · simp [At] at hk
    subst hk
    have := hs.b
    rw [h1] at this
    simp only [Option.some.injEq, Obj.cells.injEq] at this
    exact absurd this.2.1 (by decide)
theorem OwnB.at_ge {base : Nat} {w : World} {a : Option Addr} {cap n : Nat} {L : List Value} (h : OwnB base w a cap n L) {k : Nat} (hk : At a k) : base ≤ k := by
  rcases h.block with ⟨rfl, _⟩ | ⟨g', cur, rfl, hb, _⟩
  · simp [At] at hk
  · simp [At] at hk; omega
def nm5 (j : Nat) : ByteArray := ⟨#[UInt8.ofNat (97 + j)]⟩
def cells5 : Array Value := #[.string ⟨#[97]⟩, .string ⟨#[98]⟩, .string ⟨#[99]⟩, .string ⟨#[100]⟩, .string ⟨#[101]⟩]
theorem cells5_at {j : Nat} (h : j < 5) : cells5[j]? = some (.string (nm5 j)) := by
  rcases (show j = 0 ∨ j = 1 ∨ j = 2 ∨ j = 3 ∨ j = 4 by omega) with rfl | rfl | rfl | rfl | rfl <;> rfl
theorem ScV.copy {w : World} {g : Nat} {a : Option Addr} {c : Nat} {s : Sc} (h : ScV w g a c s) : ScV (w.alloc (.cells #[.int .i64 s.id, .slice a s.cs.length c, .int .i64 s.next] 24)) w.heap.size a c s :=
  ⟨ScSlot.new w a c s, h.is.below ((Below.refl _ _).alloc (Nat.le_refl _) _), h.nil, h.cap, h.max⟩
theorem all_below {w w9 : World} {P : World → Prop} (h : ∀ v, Below w.heap.size w v → P v) (hb : Below w.heap.size w w9) : ∀ v, Below w9.heap.size w9 v → P v := fun v hv => h v (hb.trans (hv.mono hb.size))
theorem wrap_in {x : Int} (h1 : -9223372036854775808 ≤ x) (h2 : x < 9223372036854775808) : IntKind.i64.wrap x = x := by rw [IntKind.wrap_i64]; omega
theorem wrap_in2 {k : Nat} (h : k ≤ 12) : IntKind.i64.wrap (((k + 1 : Nat) : Int) - 1) = (k : Int) := by rw [show ((k + 1 : Nat) : Int) - 1 = (k : Int) by omega]; exact wrap_in (by omega) (by omega)
theorem rem5a (x : Int) : ∃ j : Nat, j < 5 ∧ (IntKind.u64.wrap x).tmod 5 = (j : Int) := by
  have h0 : 0 ≤ IntKind.u64.wrap x := by rw [IntKind.wrap_u64]; omega
  have a1 := Int.tmod_lt_of_pos (IntKind.u64.wrap x) (show (0 : Int) < 5 by omega)
  have a2 := Int.tmod_nonneg (5 : Int) h0
  exact ⟨((IntKind.u64.wrap x).tmod 5).toNat, by omega, by omega⟩
theorem rem5 (x : Int) : ∃ j1 j2 : Nat, j1 < 5 ∧ j2 < 5 ∧ (IntKind.u64.wrap x).tmod 5 = (j1 : Int) ∧ (IntKind.u64.wrap ((IntKind.u64.wrap x).tdiv 5)).tmod 5 = (j2 : Int) := by
  obtain ⟨j1, h1, e1⟩ := rem5a x
  obtain ⟨j2, h2, e2⟩ := rem5a ((IntKind.u64.wrap x).tdiv 5)
  exact ⟨j1, j2, h1, h2, e1, e2⟩
theorem OwnB.lt {base : Nat} {w : World} {a : Option Addr} {cap n : Nat} {L : List Value} (h : OwnB base w a cap n L) {k : Nat} (hk : At a k) : k < w.heap.size := by
  rcases h.block with ⟨rfl, _⟩ | ⟨g', cur, rfl, _, h1⟩
  · simp [At] at hk
  · simp [At] at hk; subst hk; exact (Array.getElem?_eq_some_iff.1 h1).1
theorem ScV.off2 {w w' : World} {g : Nat} {a : Option Addr} {c : Nat} {s : Sc} {F : Nat → Prop} (h : ScV w g a c s) (hg : ¬ F g) (ha : ∀ k, At a k → ¬ F k) (hf : Frm F w w') : ScV w' g a c s := by
  refine ⟨h.slot.frm hf hg, ?_, h.nil, h.cap, h.max⟩
  rcases h.is with e | ⟨b, off, rfl, hc⟩
  · exact .inl e
  · exact .inr ⟨b, off, rfl, fun i hi => (hc i hi).block (hf.block b (hc i hi).lt (ha b rfl))⟩
theorem OwnB.off_s {base : Nat} {w w' : World} {a : Option Addr} {cap n bn : Nat} {L : List Value} (h : OwnB base w a cap n L) (hn : w.heap[bn]? = some (.cells cells5 9 (0, 0))) (hf : Frm (At a) w w') : w'.heap[bn]? = some (.cells cells5 9 (0, 0)) :=
  (hf.block bn (Array.getElem?_eq_some_iff.1 hn).1 (fun hk => by
    rcases h.block with ⟨rfl, _⟩ | ⟨g', cur, rfl, _, h1⟩
    · simp [At] at hk
    · simp [At] at hk
      subst hk
      rw [h1] at hn
      simp only [Option.some.injEq, Obj.cells.injEq] at hn
      exact absurd hn.2.1 (by decide))).trans hn
end Go.Proofs.Ythfakpekdjmpjaa
