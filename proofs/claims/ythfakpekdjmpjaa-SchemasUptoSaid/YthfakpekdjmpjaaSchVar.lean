/- A variable that holds a schema, with its columns: what the walks of the statements carry; the program's changes of one. -/
import Derived.Test.YthfakpekdjmpjaaSchN
import Derived.Test.YthfakpekdjmpjaaSchX
import Derived.Test.YthfakpekdjmpjaaQr
import Derived.Test.YthfakpekdjmpjaaQg
namespace Go.Proofs.Ythfakpekdjmpjaa
open Go.Conc Go.RowKit
set_option linter.unusedVariables false
set_option linter.unusedSimpArgs false

/-- A block that holds a schema, whose columns can be read. -/
structure ScV (w : World) (g : Nat) (a : Option Addr) (c : Nat) (s : Sc) : Prop where
  slot : ScSlot w g a c s
  is : IsCo w a s.cs
  nil : a = none → s.cs.length = 0 ∧ c = 0
  cap : s.cs.length ≤ c
  max : s.cs.length ≤ maxLen
theorem ScV.below {w w' : World} {g : Nat} {a : Option Addr} {c : Nat} {s : Sc} (h : ScV w g a c s) (hb : Below w.heap.size w w') : ScV w' g a c s := ⟨h.slot.below hb, h.is.below hb, h.nil, h.cap, h.max⟩
theorem ScV.at {w : World} {g : Nat} {a : Option Addr} {c : Nat} {s : Sc} (h : ScV w g a c s) : w.cell? ⟨g, 0, none⟩ = some (.int .i64 s.id) ∧ w.cell? ⟨g, 1, none⟩ = some (.slice a s.cs.length c) ∧ w.cell? ⟨g, 2, none⟩ = some (.int .i64 s.next) := h.slot.at
theorem ScV.of {base : Nat} {w : World} {a : Option Addr} {c : Nat} {s : Sc} (h : OwnCo base w a c s.cs) : ScV (w.alloc (.cells #[.int .i64 s.id, .slice a s.cs.length c, .int .i64 s.next] 24)) w.heap.size a c s :=
  ⟨ScSlot.new w a c s, h.isX.below ((Below.refl _ _).alloc (Nat.le_refl _) _), own_nil h, h.cap, own_max h⟩
theorem new_var (w : World) (an ak : Option Addr) (cn ck : Nat) (ns : List ByteArray) (ks : List Int) {t : Sc} {z : Int} (hn : IsT w an ns) (hk : IsL w ak ks) (hl1 : ns.length ≤ 140737488355328) (hl2 : ks.length ≤ 140737488355328) (E : newA ns ks = (t, z)) :
    Calls Try.prog 24 #[.slice an ns.length cn, .slice ak ks.length ck] w (ScPost w (t, z)) := by
  have h := schnew_any w an ak cn ck ns ks hn hk hl1 hl2
  rwa [E] at h
theorem add_var {w : World} {g : Nat} {a : Option Addr} {c : Nat} {s t : Sc} {nm : ByteArray} {k z : Int} (h : ScV w g a c s) (E : addA s nm k = (t, z)) :
    Calls Try.prog 12 #[.agg #[.int .i64 s.id, .slice a s.cs.length c, .int .i64 s.next], .string nm, .int .i64 k] w (ScPost w (t, z)) := by
  have e := schadd_any w a c s nm k h.is h.nil h.cap h.max
  rwa [E] at e
theorem drop_var {w : World} {g : Nat} {a : Option Addr} {c : Nat} {s t : Sc} {nm : ByteArray} {z : Int} (h : ScV w g a c s) (E : dropA s nm = (t, z)) :
    Calls Try.prog 14 #[.agg #[.int .i64 s.id, .slice a s.cs.length c, .int .i64 s.next], .string nm] w (ScPost w (t, z)) := by
  have e := schdrop_any w a c s nm h.is h.nil h.cap h.max
  rwa [E] at e
theorem ren_var {w : World} {g : Nat} {a : Option Addr} {c : Nat} {s t : Sc} {nm to : ByteArray} {z : Int} (h : ScV w g a c s) (E : renA s nm to = (t, z)) :
    Calls Try.prog 16 #[.agg #[.int .i64 s.id, .slice a s.cs.length c, .int .i64 s.next], .string nm, .string to] w (ScPost w (t, z)) := by
  have e := schren_any w a c s nm to h.is h.nil h.cap h.max
  rwa [E] at e
theorem find_var {w : World} {g : Nat} {a : Option Addr} {c : Nat} {s : Sc} {nm : ByteArray} {i : Int} (h : ScV w g a c s) (E : findA s.cs nm = i) :
    Calls Try.prog 26 #[.agg #[.int .i64 s.id, .slice a s.cs.length c, .int .i64 s.next], .string nm] w fun e w' => e = .returned (.int .i64 i) ∧ Below w.heap.size w w' := by
  have e := schfind_any w a c s nm h.is h.max
  rwa [E] at e
theorem may_var {w : World} {g : Nat} {a : Option Addr} {c : Nat} {s : Sc} {b : Bool} (h : ScV w g a c s) (E : maySc s = b) :
    Calls Try.prog 20 #[.agg #[.int .i64 s.id, .slice a s.cs.length c, .int .i64 s.next]] w fun e w' => e = .returned (.bool b) ∧ Below w.heap.size w w' := by
  have e := schmay_any w a c s h.is h.max h.cap
  rwa [E] at e
/-- A literal of one text, and one of one number. -/
theorem one_text (w : World) (t : ByteArray) : IsT (w.alloc (.cells #[.string t] 9)) (some ⟨w.heap.size, 0, none⟩) [t] := by
  refine .inr ⟨w.heap.size, 0, rfl, fun i hi => ?_⟩
  rw [cell_of_row _ _ _ _ _ _ (heap_alloc_new w (.cells #[.string t] 9))]
  rcases i with _ | i
  · rfl
  · simp at hi
/-! ### In a drawn region: an answer with a schema, a new variable of one -/
def tupSc (t : Sc) (z : Int) (a : Option Addr) (c : Nat) : Value := .tuple #[.agg #[.int .i64 t.id, .slice a t.cs.length c, .int .i64 t.next], .int .i64 z]
def relSc (base : Nat) (t : Sc) (z : Int) : Rel := ⟨fun v => ∃ a c, v = tupSc t z a c, fun v w => ∀ a c, v = tupSc t z a c → OwnCo base w a c t.cs⟩
theorem relSc_ok (base : Nat) (t : Sc) (z : Int) : (relSc base t z).Ok := ⟨⟨_, none, 0, rfl⟩, fun v w w' h hb a c e => (h a c e).below hb⟩
def relVar (base : Nat) : Rel := ⟨fun v => ∃ g, v = .pointer (some ⟨g, 0, none⟩), fun v w => ∀ g, v = .pointer (some ⟨g, 0, none⟩) → base ≤ g ∧ ScSlot w g none 0 zeroSc⟩
theorem relVar_ok (base : Nat) : (relVar base).Ok := ⟨⟨_, 0, rfl⟩, fun v w w' h hb g e => ⟨(h g e).1, (h g e).2.below hb⟩⟩
theorem rel_sc {u w : World} {t : Sc} {z : Int} {f : FuncId} {args : Array Value} (hu : Below u.heap.size u w) (h : Calls Try.prog f args w (ScPost w (t, z))) : relUpon Try.prog (fun w' => Below u.heap.size u w') (relSc u.heap.size t z) w (.ok (.enter f args) w) :=
  ⟨rfl, h.mono fun e w2 ⟨a, c, he, ho, hb⟩ => ⟨_, he, hu.trans (hb.mono hu.size), hb, ⟨a, c, rfl⟩, fun a' c' e => by
    have e2 : (a, t.cs.length, c) = (a', t.cs.length, c') := by unfold tupSc at e; simp only [Value.tuple.injEq, Array.mk.injEq, List.cons.injEq, Value.agg.injEq, Value.slice.injEq, true_and, and_true] at e; rw [e.1, e.2]
    cases e2
    exact ho.lower hu.size⟩⟩
theorem rel_var {u w : World} (hu : Below u.heap.size u w) : relUpon Try.prog (fun w' => Below u.heap.size u w') (relVar u.heap.size) w (.ok (.value (.pointer (some ⟨w.heap.size, 0, none⟩))) (w.alloc (.cells #[.int .i64 0, .slice none 0 0, .int .i64 0] 24))) :=
  ⟨hu.alloc hu.size _, (Below.refl _ _).alloc (Nat.le_refl _) _, ⟨_, rfl⟩, fun g e => by
    have : w.heap.size = g := by simpa using e
    subst this
    exact ⟨hu.size, ScSlot.new w none 0 zeroSc⟩⟩
theorem rel_mv {u w : World} {t : Sc} {z : Int} {a : Option Addr} {c : Nat} (hu : Below u.heap.size u w) (h : (relSc u.heap.size t z).V (tupSc t z a c) w) : relUpon Try.prog (fun w' => Below u.heap.size u w') (relSc u.heap.size t z) w (.ok (.value (tupSc t z a c)) w) := ⟨hu, Below.refl _ _, ⟨a, c, rfl⟩, h⟩
theorem snd_tup {P : Program} {ops : Array Oper} {b : Act} {v : Value} {k B : Nat} {t : Sc} {z : Int} (o : Oper) (ho : o.op = .extract (.tmp k) 1) (hg : o.guard = none) (hk : k < b.tmps.size) (hv : (relSc B t z).U v) : Yields P ops o (snd2 v) (b.put (some k) v) := by
  obtain ⟨a', c', rfl⟩ := hv
  exact yields_snd o ho hg hk
/-- The new variable, filled. -/
theorem ScV.fill {u w : World} {g : Nat} {a : Option Addr} {c : Nat} {t : Sc} (hw : Below u.heap.size u w) (hg : u.heap.size ≤ g ∧ ScSlot w g none 0 zeroSc) (ho : OwnCo u.heap.size w a c t.cs) : ScV (putSc w g a c t) g a c t ∧ Below u.heap.size u (putSc w g a c t) := by
  have hf := putSc_frm (g := g) (F := fun j => j = g) rfl w a c t
  have hne : ∀ k, At a k → k < w.heap.size → ¬ k = g := fun k hk _ e => by
    subst e
    rcases ho.block with ⟨rfl, _⟩ | ⟨g', rfl, _, _, _, cur, h1, _⟩
    · simp [At] at hk
    · simp [At] at hk
      subst hk
      have := hg.2.b
      rw [h1] at this
      simp only [Option.some.injEq, Obj.cells.injEq] at this
      exact absurd this.2.1 (by decide)
  have ho2 := ho.frm hf hne
  exact ⟨⟨hg.2.put a c t, ho2.isX, own_nil ho2, ho2.cap, own_max ho2⟩, Frm.to_below hw hf (fun k e => by rw [e]; exact hg.1) (Nat.le_refl _)⟩
/-- No column lies in a schema's own variable. -/
theorem co_off {w : World} {b o g : Nat} {v : Co} {a : Option Addr} {c : Nat} {s : Sc} (h : CoAt w b o v) (hs : ScSlot w g a c s) : b ≠ g := fun e => by
  subst e
  have h1 := h.c1
  rw [cell_of_row _ _ _ _ _ _ hs.b] at h1
  rcases (show o + 1 = 1 ∨ o + 1 = 2 ∨ 3 ≤ o + 1 by omega) with e | e | e
  · rw [e] at h1; simp at h1
  · rw [e] at h1; simp at h1
  · rw [Array.getElem?_eq_none (by simpa using e)] at h1; cases h1
theorem isco_off {w w' : World} {a a2 : Option Addr} {c2 g : Nat} {cs : List Co} {s2 : Sc} (h : IsCo w a cs) (hs : ScSlot w g a2 c2 s2) (hf : Frm (fun j => j = g) w w') : IsCo w' a cs := by
  rcases h with e | ⟨b, off, rfl, hc⟩
  · exact .inl e
  · exact .inr ⟨b, off, rfl, fun i hi => (hc i hi).block (hf.block b (hc i hi).lt (co_off (hc i hi) hs))⟩
/-- A schema is stored into an older variable. -/
theorem ScV.store {w : World} {g g' : Nat} {a a' : Option Addr} {c c' : Nat} {s t : Sc} (h : ScV w g a c s) (h9 : ScV w g' a' c' t) : ScV (putSc w g a' c' t) g a' c' t :=
  ⟨h.slot.put a' c' t, isco_off h9.is h.slot (putSc_frm (g := g) (F := fun j => j = g) rfl w a' c' t), h9.nil, h9.cap, h9.max⟩
theorem ScV.off {w w' : World} {g g2 : Nat} {a a2 : Option Addr} {c c2 : Nat} {s s2 : Sc} (h : ScV w g a c s) (hs : ScSlot w g2 a2 c2 s2) (hne : g ≠ g2) (hf : Frm (fun j => j = g2) w w') : ScV w' g a c s :=
  ⟨h.slot.frm hf hne, isco_off h.is hs hf, h.nil, h.cap, h.max⟩
end Go.Proofs.Ythfakpekdjmpjaa
