/- Values of JSON in memory whose rows may be written. -/
import Derived.Test.YtcobadgpelhcoaaDoorJMem
namespace Go.Proofs.YtcobadgpelhcoaaDoor
open Go.Conc Go.RowKit
set_option linter.unusedVariables false

/-- No cell of it is frozen. -/
def Uz (w : World) (g : Nat) : Prop := ∀ o, w.frozen? ⟨g, o, none⟩ = false
/-- A value in memory; its rows may be written. -/
def JInU (F : Nat → Prop) (w : World) (j : J) (c : List Value) : Prop := JIn (fun g => F g ∧ Uz w g) w j c
theorem Uz.same {w w' : World} {g : Nat} (h : Uz w g) (e : w'.heap[g]? = w.heap[g]?) : Uz w' g := by
  intro o
  have := h o
  simp only [World.frozen?] at this ⊢
  rw [e]; exact this
section
variable {F F' : Nat → Prop} {w w' : World}
theorem JInU.weak {j : J} {c : List Value} (h : JInU F w j c) : JIn F w j c := JIn.mono h fun g _ hg => hg.1
theorem JInU.same {j : J} {c : List Value} (h : JInU F w j c) (hs : ∀ g, F g → g < w.heap.size → w'.heap[g]? = w.heap[g]?) (hz : w.heap.size ≤ w'.heap.size) : JInU F w' j c := by
  have h1 : JIn (fun g => (F g ∧ Uz w g) ∧ g < w.heap.size) w j c := JIn.mono h fun g hl hg => ⟨hg, hl⟩
  exact (h1.same (fun g hg hl => hs g hg.1.1 hl) hz).mono fun g _ hg => ⟨hg.1.1, hg.1.2.same (hs g hg.1.1 hg.2)⟩
theorem JInU.mono {j : J} {c : List Value} (h : JInU F w j c) (hF : ∀ g, g < w.heap.size → F g → F' g) : JInU F' w j c := JIn.mono h fun g hl hg => ⟨hF g hl hg.1, hg.2⟩
theorem JInU.frm {P : Nat → Prop} {j : J} {c : List Value} (h : JInU F w j c) (hf : Frm P w w') (hP : ∀ g, F g → g < w.heap.size → ¬ P g) : JInU F w' j c :=
  h.same (fun g hg hl => hf.block g hl (hP g hg hl)) hf.size
theorem JInU.length {j : J} {c : List Value} (h : JInU F w j c) : c.length = 6 := JIn.length h
theorem JInU.one {j : J} {c : List Value} (h : JInU F w j c) : ∀ u ∈ c, u.oneCell' = true := JIn.one h
theorem JInU.mk (k : Int) (b : Bool) (n : Int) (s : ByteArray) (l : List J) (ks : List ByteArray) (lv kv : Value) (cs : List (List Value))
    (hl : RowIn (fun g => F g ∧ Uz w g) w 6 l.length lv cs.flatten) (hk : RowIn (fun g => F g ∧ Uz w g) w 1 ks.length kv (ks.map Value.string)) (hc : cs.length = l.length)
    (hs : ∀ (i : Nat) (j : J) (c : List Value), l[i]? = some j → cs[i]? = some c → JInU F w j c) : JInU F w (.mk k b n s l ks) [.int .i64 k, .bool b, .int .i64 n, .string s, lv, kv] := JIn.mk k b n s l ks lv kv cs hl hk hc hs
end
/-- Values side by side. -/
def JsInU (F : Nat → Prop) (w : World) (l : List J) (cs : List (List Value)) : Prop := cs.length = l.length ∧ ∀ (i : Nat) (j : J) (c : List Value), l[i]? = some j → cs[i]? = some c → JInU F w j c
theorem JsInU.nil (F : Nat → Prop) (w : World) : JsInU F w [] [] := JsIn.nil _ w
theorem JsInU.snoc {F : Nat → Prop} {w : World} {l : List J} {cs : List (List Value)} {j : J} {c : List Value} (h : JsInU F w l cs) (hj : JInU F w j c) : JsInU F w (l ++ [j]) (cs ++ [c]) := JsIn.snoc (F := fun g => F g ∧ Uz w g) h hj
theorem JsInU.imp {F F' : Nat → Prop} {w w' : World} {l : List J} {cs : List (List Value)} (h : JsInU F w l cs) (hi : ∀ j c, JInU F w j c → JInU F' w' j c) : JsInU F' w' l cs := ⟨h.1, fun i j c h1 h2 => hi j c (h.2 i j c h1 h2)⟩
theorem JsInU.flat {F : Nat → Prop} {w : World} {l : List J} {cs : List (List Value)} (h : JsInU F w l cs) : cs.flatten.length = l.length * 6 := JsIn.flat (F := fun g => F g ∧ Uz w g) h
/-- A row of one's own may be written. -/
theorem row_of_ownU {F : Nat → Prop} {w : World} {base e size n : Nat} {v : Value} {xs : List Value} (h : w.ownsRow base e size v n xs) (hF : ∀ k, v.ownBlock = some k → F k) : RowIn (fun g => F g ∧ Uz w g) w size n v xs := by
  refine row_of_own h fun k hk => ⟨hF k hk, ?_⟩
  rcases h.2 with ⟨rfl, _⟩ | ⟨g, cap, cur, rfl, hb, hgg, _⟩
  · simp [Value.ownBlock] at hk
  · simp only [Value.ownBlock, Option.some.injEq] at hk
    subst hk
    intro o
    exact frozen_of_row w g o _ _ hgg
theorem JIn.plain {F : Nat → Prop} {w : World} (k : Int) (b : Bool) (n : Int) (s : ByteArray) : JIn F w (.mk k b n s [] []) [.int .i64 k, .bool b, .int .i64 n, .string s, .slice none 0 0, .slice none 0 0] :=
  .mk k b n s [] [] _ _ [] ⟨rfl, none, 0, rfl, .inl rfl⟩ ⟨rfl, none, 0, rfl, .inl rfl⟩ rfl (fun i j c h => by simp at h)
theorem JIn.form {F : Nat → Prop} {w : World} {j : J} {c : List Value} (h : JIn F w j c) : ∃ k b n s la ll lc ka kl kc, c = [.int .i64 k, .bool b, .int .i64 n, .string s, .slice la ll lc, .slice ka kl kc] := by
  cases h with
  | mk k b n s l ks lv kv cs hl hk hc hs =>
    obtain ⟨_, a, cap, rfl, _⟩ := hl
    obtain ⟨_, a', cap', rfl, _⟩ := hk
    exact ⟨_, _, _, _, _, _, _, _, _, _, rfl⟩
end Go.Proofs.YtcobadgpelhcoaaDoor
