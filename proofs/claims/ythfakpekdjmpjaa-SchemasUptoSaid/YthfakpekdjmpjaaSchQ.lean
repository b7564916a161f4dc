/- The document's changes of a schema's variable; what a spoiling leaves. -/
import Derived.Test.YthfakpekdjmpjaaSchVar
import Derived.Test.YthfakpekdjmpjaaSchU
import Derived.Test.YthfakpekdjmpjaaSchV
import Derived.Test.YthfakpekdjmpjaaSchW
import Derived.Test.YthfakpekdjmpjaaSchX
namespace Go.Proofs.Ythfakpekdjmpjaa
open Go.Conc Go.RowKit
set_option linter.unusedVariables false
set_option linter.unusedSimpArgs false

theorem radd_var {w : World} {g : Nat} {a : Option Addr} {c : Nat} {s t : Sc} {nm : ByteArray} {k z : Int} (h : ScV w g a c s) (E : addA s nm k = (t, z)) :
    Calls Try.prog 13 #[.agg #[.int .i64 s.id, .slice a s.cs.length c, .int .i64 s.next], .string nm, .int .i64 k] w (ScPost w (t, z)) := by
  have e := refschadd_any w a c s nm k h.is h.nil h.max
  rwa [E] at e
theorem rdrop_var {w : World} {g : Nat} {a : Option Addr} {c : Nat} {s t : Sc} {nm : ByteArray} {z : Int} (h : ScV w g a c s) (E : dropA s nm = (t, z)) :
    Calls Try.prog 15 #[.agg #[.int .i64 s.id, .slice a s.cs.length c, .int .i64 s.next], .string nm] w (ScPost w (t, z)) := by
  have e := refschdrop_any w a c s nm h.is h.nil h.max h.cap
  rwa [E] at e
theorem rren_var {w : World} {g : Nat} {a : Option Addr} {c : Nat} {s t : Sc} {nm to : ByteArray} {z : Int} (h : ScV w g a c s) (E : renA s nm to = (t, z)) :
    Calls Try.prog 17 #[.agg #[.int .i64 s.id, .slice a s.cs.length c, .int .i64 s.next], .string nm, .string to] w (ScPost w (t, z)) := by
  have e := refschren_any w a c s nm to h.is h.nil h.max
  rwa [E] at e
theorem rmay_var {w : World} {g : Nat} {a : Option Addr} {c : Nat} {s : Sc} {b : Bool} (h : ScV w g a c s) (E : maySc s = b) :
    Calls Try.prog 21 #[.agg #[.int .i64 s.id, .slice a s.cs.length c, .int .i64 s.next]] w fun e w' => e = .returned (.bool b) ∧ Below w.heap.size w w' := by
  have e := refschmay_any w a c s h.is h.max
  rwa [E] at e
theorem rfind_var {w : World} {g : Nat} {a : Option Addr} {c : Nat} {s : Sc} {nm : ByteArray} {i : Int} (h : ScV w g a c s) (E : findA s.cs nm = i) :
    Calls Try.prog 27 #[.agg #[.int .i64 s.id, .slice a s.cs.length c, .int .i64 s.next], .string nm] w fun e w' => e = .returned (.int .i64 i) ∧ Below w.heap.size w w' := by
  have e := refschfind_any w a c s nm h.is h.max
  rwa [E] at e
theorem rnew_var (w : World) (an ak : Option Addr) (cn ck : Nat) (ns : List ByteArray) (ks : List Int) {t : Sc} {z : Int} (hn : IsT w an ns) (hk : IsL w ak ks) (hl1 : ns.length ≤ 4398046511103) (hl2 : ks.length ≤ 140737488355328) (E : newA ns ks = (t, z)) :
    Calls Try.prog 25 #[.slice an ns.length cn, .slice ak ks.length ck] w (ScPost w (t, z)) := by
  have h := refnewschema_any w an ak cn ck ns ks hn hk hl1 hl2
  rwa [E] at h
theorem same_var {w : World} {g1 g2 : Nat} {a b : Option Addr} {ca cb : Nat} {s : Sc} (h : ScV w g1 a ca s) (h2 : ScV w g2 b cb s) :
    Calls Try.prog 18 #[.agg #[.int .i64 s.id, .slice a s.cs.length ca, .int .i64 s.next], .agg #[.int .i64 s.id, .slice b s.cs.length cb, .int .i64 s.next]] w fun e w' => e = .returned (.bool true) ∧ Below w.heap.size w w' :=
  sameschema_any w a b ca cb s h.is h2.is h.max
/-- A schema that was lent: its variable, its columns with the marks behind them. -/
structure ScL (B : Nat) (w : World) (g gl c : Nat) (s : Sc) : Prop where
  slot : ScSlot w g (some ⟨gl, 0, none⟩) c s
  own : OwnCo B w (some ⟨gl, 0, none⟩) c (s.cs ++ [markCo, markCo])
theorem ScL.below {B : Nat} {w w' : World} {g gl c : Nat} {s : Sc} (h : ScL B w g gl c s) (hb : Below w.heap.size w w') : ScL B w' g gl c s := ⟨h.slot.below hb, h.own.below hb⟩
theorem ScL.v {B : Nat} {w : World} {g gl c : Nat} {s : Sc} (h : ScL B w g gl c s) : ScV w g (some ⟨gl, 0, none⟩) c s :=
  ⟨h.slot, by
    have := h.own.isX.take s.cs.length
    rwa [List.take_left] at this, (fun e => by cases e), (by have := h.own.cap; simp at this; omega), by have := own_max h.own; simp at this; omega⟩
theorem kept_var {B : Nat} {w : World} {g gl c g2 : Nat} {b : Option Addr} {cb : Nat} {s : Sc} (h : ScL B w g gl c s) (h2 : ScV w g2 b cb s) (hx : (s.cs.length + 2) * 32 ≤ 140737488355328) :
    Calls Try.prog 22 #[.agg #[.int .i64 s.id, .slice (some ⟨gl, 0, none⟩) s.cs.length c, .int .i64 s.next], .agg #[.int .i64 s.id, .slice b s.cs.length cb, .int .i64 s.next]] w fun e w' => e = .returned (.bool true) ∧ Below w.heap.size w w' :=
  keptschema_any w gl c b cb B s h.own h2.is hx
/-- A row of columns' block is no schema's variable. -/
theorem own_no {B c : Nat} {w : World} {a : Option Addr} {cs : List Co} (h : OwnCo B w a c cs) {g c0 : Nat} {a0 : Option Addr} {s0 : Sc} (hs : ScSlot w g a0 c0 s0) : ¬ At a g := fun hk => by
  obtain ⟨cur, hc⟩ := own_tyS h hk
  rw [hs.b] at hc
  simp only [Option.some.injEq, Obj.cells.injEq] at hc
  exact absurd hc.2.1 (by decide)
theorem ScL.spoil {B B2 : Nat} {w w' : World} {g gl c c2 : Nat} {s : Sc} {a2 : Option Addr} {cs2 : List Co} (h : ScL B w g gl c s) (ho : OwnCo B2 w a2 c2 cs2) (hne : ¬ At a2 gl) (hf : Frm (At a2) w w') : ScL B w' g gl c s :=
  ⟨h.slot.frm hf (own_no ho h.slot), h.own.frm hf fun k hk _ hF => by
    simp [At] at hk
    subst hk
    exact hne hF⟩
theorem ScV.spoil {B B2 : Nat} {w w' : World} {g c c2 : Nat} {a a2 : Option Addr} {s : Sc} {cs2 : List Co} (h : ScV w g a c s) (hs : OwnCo B w a c s.cs) (ho : OwnCo B2 w a2 c2 cs2) (hne : ∀ k, At a k → ¬ At a2 k) (hf : Frm (At a2) w w') : ScV w' g a c s ∧ OwnCo B w' a c s.cs :=
  have h2 : OwnCo B w' a c s.cs := hs.frm hf fun k hk _ => hne k hk
  ⟨⟨h.slot.frm hf (own_no ho h.slot), h2.isX, h.nil, h.cap, h.max⟩, h2⟩
theorem ScV.spoilX {B2 : Nat} {W w w' : World} {g c c2 : Nat} {a a2 : Option Addr} {s : Sc} {cs2 : List Co} (h : ScV w g a c s) (hW : IsCo W a s.cs) (hB : Below W.heap.size W w') (ho : OwnCo B2 w a2 c2 cs2) (hf : Frm (At a2) w w') : ScV w' g a c s :=
  ⟨h.slot.frm hf (own_no ho h.slot), hW.below hB, h.nil, h.cap, h.max⟩
end Go.Proofs.Ythfakpekdjmpjaa
