/- The parser of the document's answer: word. -/
import Derived.Test.YtcobadgpelhcoaaDoorParser
namespace Go.Proofs.YtcobadgpelhcoaaDoor
open Go.Conc Go.RowKit
set_option linter.unusedVariables false

/-- A bool, the parser so, and nothing else turned. -/
def PTold (pb : Nat) (s : ByteArray) (i : Nat) (code : Int) (v : Value) (w : World) (e : Ending) (w' : World) : Prop := e = .returned v ∧ PAt w' pb s i code ∧ Frm (One pb) w w'

theorem bytes_neq {a b : ByteArray} (h : ¬ a = b) : (a.toList == b.toList) = false := by
  rw [ByteArray.toList_eq, ByteArray.toList_eq]
  exact beq_false_of_ne fun e => h (WideShapes.bytes_inj e)

theorem pword_yes (pb : Nat) (s W : ByteArray) (i : Nat) (code : Int) (w : World) (h : PAt w pb s i code) (hi : i ≤ s.size) (hs : s.size ≤ 65536) (hW : W.size ≤ 16) (hf : i + W.size ≤ s.size) (he : s.extract i (i + W.size) = W) :
    Calls Tryd.prog 34 #[.pointer (some ⟨pb, 0, none⟩), .string W] w (PTold pb s (i + W.size) code (.bool true) w) := by
  have c0 := h.c0
  have c1 := h.c1
  have f1 := h.fz 1
  have H := Lib.hid h
  clear h
  have g1 : decide ((W.size : Int) ≤ (s.size : Int) - (i : Int)) = true := by simp; omega
  go_enter Tryd.func34, Tryd.ntmps34
  go_wp2
  go_quiet (fail)
  go_wp2
  go_ret
  exact ⟨rfl, (H.out.drewN nq).setAt (i + W.size), ((Frm.refl _ w).drewN nq).trans (frm_at _ _ _ _)⟩
theorem pword_short (pb : Nat) (s W : ByteArray) (i : Nat) (code : Int) (w : World) (h : PAt w pb s i code) (hi : i ≤ s.size) (hs : s.size ≤ 65536) (hW : W.size ≤ 16) (hf : s.size < i + W.size) :
    Calls Tryd.prog 34 #[.pointer (some ⟨pb, 0, none⟩), .string W] w (PTold pb s i code (.bool false) w) := by
  have c0 := h.c0
  have c1 := h.c1
  have H := Lib.hid h
  clear h
  have g1 : decide ((W.size : Int) ≤ (s.size : Int) - (i : Int)) = false := by simp; omega
  go_enter Tryd.func34, Tryd.ntmps34
  go_wp2
  go_quiet (fail)
  go_wp2
  go_ret
  exact ⟨rfl, H.out.drewN nq, (Frm.refl _ w).drewN nq⟩
theorem pword_other (pb : Nat) (s W : ByteArray) (i : Nat) (code : Int) (w : World) (h : PAt w pb s i code) (hi : i ≤ s.size) (hs : s.size ≤ 65536) (hW : W.size ≤ 16) (hf : i + W.size ≤ s.size) (he : ¬ s.extract i (i + W.size) = W) :
    Calls Tryd.prog 34 #[.pointer (some ⟨pb, 0, none⟩), .string W] w (PTold pb s i code (.bool false) w) := by
  have c0 := h.c0
  have c1 := h.c1
  have H := Lib.hid h
  clear h
  have g1 : decide ((W.size : Int) ≤ (s.size : Int) - (i : Int)) = true := by simp; omega
  have e1 : ((s.extract i (i + W.size)).toList == W.toList) = false := bytes_neq he
  clear he
  go_enter Tryd.func34, Tryd.ntmps34
  go_wp2
  go_quiet (fail)
  go_wp2
  go_ret
  exact ⟨rfl, H.out.drewN nq, (Frm.refl _ w).drewN nq⟩
/-- The words as bytes. -/
theorem wordAt_iff (s W : ByteArray) (i : Nat) (hi : i ≤ s.size) : wordAt W.data.toList s.data.toList i = true ↔ i + W.size ≤ s.size ∧ s.extract i (i + W.size) = W := by
  have hl : s.data.toList.length = s.size := by simp
  have hw : W.data.toList.length = W.size := by simp
  have hx : (s.extract i (i + W.size)).data.toList = (s.data.toList.drop i).take W.size := by
    simp [ByteArray.data_extract, List.extract_eq_take_drop]
  unfold wordAt
  rw [List.isPrefixOf_iff_prefix, List.prefix_iff_eq_take, hw]
  constructor
  · intro h
    have h2 := congrArg List.length h
    rw [List.length_take, List.length_drop, hl, hw] at h2
    refine ⟨by omega, WideShapes.bytes_inj ?_⟩
    rw [hx, ← h]
  · rintro ⟨_, h2⟩
    rw [← hx, h2]
theorem pword_any (pb : Nat) (s W : ByteArray) (i : Nat) (code : Int) (w : World) (h : PAt w pb s i code) (hi : i ≤ s.size) (hs : s.size ≤ 65536) (hW : W.size ≤ 16) :
    Calls Tryd.prog 34 #[.pointer (some ⟨pb, 0, none⟩), .string W] w (PTold pb s (if wordAt W.data.toList s.data.toList i then i + W.size else i) code (.bool (wordAt W.data.toList s.data.toList i)) w) := by
  have hiff := wordAt_iff s W i hi
  by_cases hb : wordAt W.data.toList s.data.toList i = true
  · rw [hb, if_pos rfl]
    exact pword_yes pb s W i code w h hi hs hW (hiff.1 hb).1 (hiff.1 hb).2
  · have hb' : wordAt W.data.toList s.data.toList i = false := by simpa using hb
    rw [hb', if_neg (by simp)]
    by_cases hf : i + W.size ≤ s.size
    · exact pword_other pb s W i code w h hi hs hW hf fun he => hb (hiff.2 ⟨hf, he⟩)
    · exact pword_short pb s W i code w h hi hs hW (by omega)
end Go.Proofs.YtcobadgpelhcoaaDoor
