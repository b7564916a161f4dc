/- Values of JSON in memory. -/
import Derived.Test.YtcobadgpelhcoaaDoorGrow
import Derived.Test.YtcobadgpelhcoaaDoorJSpec
namespace Go.Proofs.YtcobadgpelhcoaaDoor
open Go.Conc Go.RowKit
set_option linter.unusedVariables false

/-- A slice of n elements of so many cells each that reads so, in a block of F. -/
def RowIn (F : Nat → Prop) (w : World) (size n : Nat) (v : Value) (xs : List Value) : Prop :=
  xs.length = n * size ∧ ∃ a cap, v = .slice a n cap ∧ (n = 0 ∨ ∃ b o, a = some ⟨b, o, none⟩ ∧ F b ∧ b < w.heap.size ∧ ∀ j u, xs[j]? = some u → w.cell? ⟨b, o + j, none⟩ = some u)
/-- The six cells of a value; its lists lie in blocks of F. -/
inductive JIn (F : Nat → Prop) (w : World) : J → List Value → Prop
  | mk (k : Int) (b : Bool) (n : Int) (s : ByteArray) (l : List J) (ks : List ByteArray) (lv kv : Value) (cs : List (List Value))
      (hl : RowIn F w 6 l.length lv cs.flatten) (hk : RowIn F w 1 ks.length kv (ks.map Value.string)) (hc : cs.length = l.length)
      (hs : ∀ (i : Nat) (j : J) (c : List Value), l[i]? = some j → cs[i]? = some c → JIn F w j c) :
      JIn F w (.mk k b n s l ks) [.int .i64 k, .bool b, .int .i64 n, .string s, lv, kv]

section
variable {F F' : Nat → Prop} {w w' : World}
theorem RowIn.same {size n : Nat} {v : Value} {xs : List Value} (h : RowIn F w size n v xs) (hs : ∀ g, F g → g < w.heap.size → w'.heap[g]? = w.heap[g]?) (hz : w.heap.size ≤ w'.heap.size) : RowIn F w' size n v xs := by
  obtain ⟨h1, a, cap, rfl, h2⟩ := h
  refine ⟨h1, a, cap, rfl, h2.imp id ?_⟩
  rintro ⟨b, o, rfl, hF, hb, hc⟩
  refine ⟨b, o, rfl, hF, by omega, fun j u hj => ?_⟩
  rw [← hc j u hj]
  exact World.cell?_of_block (hs b hF hb)
theorem RowIn.mono {size n : Nat} {v : Value} {xs : List Value} (h : RowIn F w size n v xs) (hF : ∀ g, g < w.heap.size → F g → F' g) : RowIn F' w size n v xs := by
  obtain ⟨h1, a, cap, rfl, h2⟩ := h
  refine ⟨h1, a, cap, rfl, h2.imp id ?_⟩
  rintro ⟨b, o, rfl, hFb, hb, hc⟩
  exact ⟨b, o, rfl, hF b hb hFb, hb, hc⟩
theorem JIn.same {j : J} {c : List Value} (h : JIn F w j c) (hs : ∀ g, F g → g < w.heap.size → w'.heap[g]? = w.heap[g]?) (hz : w.heap.size ≤ w'.heap.size) : JIn F w' j c := by
  induction h with
  | mk k b n s l ks lv kv cs hl hk hc _ ih => exact .mk k b n s l ks lv kv cs (hl.same hs hz) (hk.same hs hz) hc ih
theorem JIn.mono {j : J} {c : List Value} (h : JIn F w j c) (hF : ∀ g, g < w.heap.size → F g → F' g) : JIn F' w j c := by
  induction h with
  | mk k b n s l ks lv kv cs hl hk hc _ ih => exact .mk k b n s l ks lv kv cs (hl.mono hF) (hk.mono hF) hc ih
theorem JIn.frm {P : Nat → Prop} {j : J} {c : List Value} (h : JIn F w j c) (hf : Frm P w w') (hP : ∀ g, F g → g < w.heap.size → ¬ P g) : JIn F w' j c :=
  h.same (fun g hg hl => hf.block g hl (hP g hg hl)) hf.size
theorem JIn.length {j : J} {c : List Value} (h : JIn F w j c) : c.length = 6 := by cases h; rfl
theorem JIn.one {j : J} {c : List Value} (h : JIn F w j c) : ∀ u ∈ c, u.oneCell' = true := by
  cases h with
  | mk k b n s l ks lv kv cs hl hk hc hs =>
    obtain ⟨_, a, cap, rfl, _⟩ := hl
    obtain ⟨_, a', cap', rfl, _⟩ := hk
    intro u hu
    simp only [List.mem_cons, List.not_mem_nil, or_false] at hu
    rcases hu with rfl | rfl | rfl | rfl | rfl | rfl <;> rfl
end
/-- Values side by side. -/
def JsIn (F : Nat → Prop) (w : World) (l : List J) (cs : List (List Value)) : Prop := cs.length = l.length ∧ ∀ (i : Nat) (j : J) (c : List Value), l[i]? = some j → cs[i]? = some c → JIn F w j c
theorem JsIn.nil (F : Nat → Prop) (w : World) : JsIn F w [] [] := ⟨rfl, fun i j c h => by simp at h⟩
theorem JsIn.snoc {F : Nat → Prop} {w : World} {l : List J} {cs : List (List Value)} {j : J} {c : List Value} (h : JsIn F w l cs) (hj : JIn F w j c) : JsIn F w (l ++ [j]) (cs ++ [c]) := by
  refine ⟨by simp [h.1], fun i j' c' h1 h2 => ?_⟩
  by_cases hi : i < l.length
  · rw [List.getElem?_append_left hi] at h1
    rw [List.getElem?_append_left (by rw [h.1]; exact hi)] at h2
    exact h.2 i j' c' h1 h2
  · rw [List.getElem?_append_right (by omega)] at h1
    rw [List.getElem?_append_right (by rw [h.1]; omega), h.1] at h2
    by_cases h0 : i - l.length = 0
    · rw [h0] at h1 h2
      simp only [List.getElem?_cons_zero, Option.some.injEq] at h1 h2
      subst h1 h2; exact hj
    · rw [List.getElem?_eq_none (by simp; omega)] at h1; cases h1
theorem JsIn.imp {F F' : Nat → Prop} {w w' : World} {l : List J} {cs : List (List Value)} (h : JsIn F w l cs) (hi : ∀ j c, JIn F w j c → JIn F' w' j c) : JsIn F' w' l cs := ⟨h.1, fun i j c h1 h2 => hi j c (h.2 i j c h1 h2)⟩
theorem JsIn.flat {F : Nat → Prop} {w : World} {l : List J} {cs : List (List Value)} (h : JsIn F w l cs) : cs.flatten.length = l.length * 6 := by
  obtain ⟨h1, h2⟩ := h
  have h6 : ∀ c ∈ cs, c.length = 6 := by
    intro c hc
    obtain ⟨i, hi, rfl⟩ := List.mem_iff_getElem.1 hc
    exact (h2 i (l[i]'(by omega)) _ (List.getElem?_eq_getElem (by omega)) (List.getElem?_eq_getElem hi)).length
  rw [← h1]
  clear h1 h2
  induction cs with
  | nil => rfl
  | cons a t ih =>
    rw [List.flatten_cons, List.length_append, h6 a (by simp), ih fun c hc => h6 c (by simp [hc])]
    simp; omega
/-- A row of one's own as what is read. -/
theorem row_of_own {F : Nat → Prop} {w : World} {base e size n : Nat} {v : Value} {xs : List Value} (h : w.ownsRow base e size v n xs) (hF : ∀ k, v.ownBlock = some k → F k) : RowIn F w size n v xs := by
  refine ⟨h.1, ?_⟩
  rcases h.2 with ⟨rfl, h0⟩ | ⟨g, cap, cur, rfl, hb, hgg, rest⟩
  · exact ⟨none, 0, by subst h0; rfl, .inl h0⟩
  · refine ⟨_, _, rfl, .inr ⟨g, 0, rfl, hF g rfl, (Array.getElem?_eq_some_iff.1 hgg).1, fun j u hj => ?_⟩⟩
    have := h.cells (g := g) rfl j u hj
    rw [Nat.zero_add]
    have e : (⟨g, 0, none⟩ : Addr).add j = ⟨g, j, none⟩ := by
      unfold Addr.add; cases j <;> simp
    rw [← e]; exact this
end Go.Proofs.YtcobadgpelhcoaaDoor
