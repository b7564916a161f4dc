/- A variable that holds a schema, with its columns: what the walks of the statements carry; the program's changes of one. -/
import Derived.Test.YthfakpekdjmpjaaSchN
import Derived.Test.YthfakpekdjmpjaaSchX
namespace Go.Proofs.Ythfakpekdjmpjaa
open Go.Conc Go.RowKit
set_option linter.unusedVariables false
set_option linter.unusedSimpArgs false

/-- A block that holds a schema, whose columns can be read. -/
structure ScV (w : World) (g : Nat) (a : Option Addr) (c : Nat) (s : Sc) : Prop where
  slot : ScSlot w g a c s
  is : IsCo w a s.cs
  nil : a = none → s.cs.length = 0 ∧ c = 0
  cap : s.cs.length ≤ c
  max : s.cs.length ≤ maxLen
theorem ScV.below {w w' : World} {g : Nat} {a : Option Addr} {c : Nat} {s : Sc} (h : ScV w g a c s) (hb : Below w.heap.size w w') : ScV w' g a c s := ⟨h.slot.below hb, h.is.below hb, h.nil, h.cap, h.max⟩
theorem ScV.at {w : World} {g : Nat} {a : Option Addr} {c : Nat} {s : Sc} (h : ScV w g a c s) : w.cell? ⟨g, 0, none⟩ = some (.int .i64 s.id) ∧ w.cell? ⟨g, 1, none⟩ = some (.slice a s.cs.length c) ∧ w.cell? ⟨g, 2, none⟩ = some (.int .i64 s.next) := h.slot.at
theorem ScV.of {base : Nat} {w : World} {a : Option Addr} {c : Nat} {s : Sc} (h : OwnCo base w a c s.cs) : ScV (w.alloc (.cells #[.int .i64 s.id, .slice a s.cs.length c, .int .i64 s.next] 24)) w.heap.size a c s :=
  ⟨ScSlot.new w a c s, h.isX.below ((Below.refl _ _).alloc (Nat.le_refl _) _), own_nil h, h.cap, own_max h⟩
theorem new_var (w : World) (an ak : Option Addr) (cn ck : Nat) (ns : List ByteArray) (ks : List Int) {t : Sc} {z : Int} (hn : IsT w an ns) (hk : IsL w ak ks) (hl1 : ns.length ≤ 140737488355328) (hl2 : ks.length ≤ 140737488355328) (E : newA ns ks = (t, z)) :
    Calls Try.prog 24 #[.slice an ns.length cn, .slice ak ks.length ck] w (ScPost w (t, z)) := by
  have h := schnew_any w an ak cn ck ns ks hn hk hl1 hl2
  rwa [E] at h
theorem add_var {w : World} {g : Nat} {a : Option Addr} {c : Nat} {s t : Sc} {nm : ByteArray} {k z : Int} (h : ScV w g a c s) (E : addA s nm k = (t, z)) :
    Calls Try.prog 12 #[.agg #[.int .i64 s.id, .slice a s.cs.length c, .int .i64 s.next], .string nm, .int .i64 k] w (ScPost w (t, z)) := by
  have e := schadd_any w a c s nm k h.is h.nil h.cap h.max
  rwa [E] at e
theorem drop_var {w : World} {g : Nat} {a : Option Addr} {c : Nat} {s t : Sc} {nm : ByteArray} {z : Int} (h : ScV w g a c s) (E : dropA s nm = (t, z)) :
    Calls Try.prog 14 #[.agg #[.int .i64 s.id, .slice a s.cs.length c, .int .i64 s.next], .string nm] w (ScPost w (t, z)) := by
  have e := schdrop_any w a c s nm h.is h.nil h.cap h.max
  rwa [E] at e
theorem ren_var {w : World} {g : Nat} {a : Option Addr} {c : Nat} {s t : Sc} {nm to : ByteArray} {z : Int} (h : ScV w g a c s) (E : renA s nm to = (t, z)) :
    Calls Try.prog 16 #[.agg #[.int .i64 s.id, .slice a s.cs.length c, .int .i64 s.next], .string nm, .string to] w (ScPost w (t, z)) := by
  have e := schren_any w a c s nm to h.is h.nil h.cap h.max
  rwa [E] at e
theorem find_var {w : World} {g : Nat} {a : Option Addr} {c : Nat} {s : Sc} {nm : ByteArray} {i : Int} (h : ScV w g a c s) (E : findA s.cs nm = i) :
    Calls Try.prog 26 #[.agg #[.int .i64 s.id, .slice a s.cs.length c, .int .i64 s.next], .string nm] w fun e w' => e = .returned (.int .i64 i) ∧ Below w.heap.size w w' := by
  have e := schfind_any w a c s nm h.is h.max
  rwa [E] at e
theorem may_var {w : World} {g : Nat} {a : Option Addr} {c : Nat} {s : Sc} {b : Bool} (h : ScV w g a c s) (E : maySc s = b) :
    Calls Try.prog 20 #[.agg #[.int .i64 s.id, .slice a s.cs.length c, .int .i64 s.next]] w fun e w' => e = .returned (.bool b) ∧ Below w.heap.size w w' := by
  have e := schmay_any w a c s h.is h.max h.cap
  rwa [E] at e
/-- A literal of one text, and one of one number. -/
theorem one_text (w : World) (t : ByteArray) : IsT (w.alloc (.cells #[.string t] 9)) (some ⟨w.heap.size, 0, none⟩) [t] := by
  refine .inr ⟨w.heap.size, 0, rfl, fun i hi => ?_⟩
  rw [cell_of_row _ _ _ _ _ _ (heap_alloc_new w (.cells #[.string t] 9))]
  rcases i with _ | i
  · rfl
  · simp at hi
end Go.Proofs.Ythfakpekdjmpjaa
