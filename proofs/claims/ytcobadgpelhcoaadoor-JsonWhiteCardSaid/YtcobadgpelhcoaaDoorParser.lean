/- The parser of the document's answer: its block; fail, white, word. -/
import Derived.Test.YtcobadgpelhcoaaDoorFrm
import Derived.Test.YtcobadgpelhcoaaDoorRLead
import Derived.Test.YtcobadgpelhcoaaDoorJSpec
import Derived.Deep.LoopGhost
import Derived.WalkLawsBesides
import Derived.WalkSpells
import Derived.Deep.QuietTactic
import Derived.BigQuiet
namespace Go.Proofs.YtcobadgpelhcoaaDoor
open Go.Conc Go.RowKit
set_option linter.unusedVariables false

/-- The parser at block pb reads s, stands at a place, and has an error or none. -/
def PAt (w : World) (pb : Nat) (s : ByteArray) (at_ : Nat) (code : Int) : Prop := w.heap[pb]? = some (.cells #[.string s, .int .i64 at_, .int .i64 code] 55 (0, 0))
/-- Only the parser's block, and new ones. -/
def One (pb : Nat) : Nat → Prop := fun k => k = pb

section
variable {w w' : World} {pb i : Nat} {s : ByteArray} {code : Int}
theorem PAt.c0 (h : PAt w pb s i code) : w.cell? ⟨pb, 0, none⟩ = some (.string s) := by rw [cell_of_row w pb 0 _ _ _ h]; rfl
theorem PAt.c1 (h : PAt w pb s i code) : w.cell? ⟨pb, 1, none⟩ = some (.int .i64 i) := by rw [cell_of_row w pb 1 _ _ _ h]; rfl
theorem PAt.c2 (h : PAt w pb s i code) : w.cell? ⟨pb, 2, none⟩ = some (.int .i64 code) := by rw [cell_of_row w pb 2 _ _ _ h]; rfl
theorem PAt.fz (h : PAt w pb s i code) (j : Nat) : w.frozen? ⟨pb, j, none⟩ = false := frozen_of_row w pb j _ _ h
theorem PAt.setAt (h : PAt w pb s i code) (k : Nat) : PAt (w.setCell ⟨pb, 1, none⟩ (.int .i64 k)) pb s k code := by
  have hb := Go.Joins.block_setCell (i := 1) h (.int .i64 (k : Int))
  simpa [PAt] using hb
theorem PAt.setCode (h : PAt w pb s i code) (e : Int) : PAt (w.setCell ⟨pb, 2, none⟩ (.int .i64 e)) pb s i e := by
  have hb := Go.Joins.block_setCell (i := 2) h (.int .i64 e)
  simpa [PAt] using hb
theorem PAt.drewN (h : PAt w pb s i code) (n : Nat) : PAt (w.drewN n) pb s i code := h
theorem PAt.lt (h : PAt w pb s i code) : pb < w.heap.size := (Array.getElem?_eq_some_iff.1 h).1
theorem PAt.new (h : PAt w pb s i code) (hb : Below w.heap.size w w') : PAt w' pb s i code := (hb.block pb h.lt).trans h
end
theorem frm_at (w : World) (pb j : Nat) (u : Value) : Frm (One pb) w (w.setCell ⟨pb, j, none⟩ u) := Frm.setCell (F := One pb) (Frm.refl _ w) (p := ⟨pb, j, none⟩) rfl u

theorem Frm.drewN {F : Nat → Prop} {a w : World} (h : Frm F a w) (n : Nat) : Frm F a (w.drewN n) := h.trans ⟨rfl, rfl, rfl, Nat.le_refl _, fun _ _ _ => rfl⟩
/-- No results, the parser so, and nothing else turned. -/
def PDid (pb : Nat) (s : ByteArray) (i : Nat) (code : Int) (w : World) (e : Ending) (w' : World) : Prop := e = .returned (.tuple #[]) ∧ PAt w' pb s i code ∧ Frm (One pb) w w'

theorem pfail_any (pb : Nat) (s : ByteArray) (i : Nat) (code x : Int) (w : World) (h : PAt w pb s i code) :
    Calls Tryd.prog 24 #[.pointer (some ⟨pb, 0, none⟩), .int .i64 x] w (PDid pb s i (if code = 0 then x else code) w) := by
  have c2 := h.c2
  have f2 := h.fz 2
  have H := Lib.hid h
  clear h
  by_cases hc : code = 0
  · subst hc
    rw [if_pos rfl]
    go_enter Tryd.func24, Tryd.ntmps24
    go_wp2
    go_end0
    exact ⟨rfl, H.out.setCode x, frm_at _ _ _ _⟩
  · rw [if_neg hc]
    have g : (code == 0) = false := by simpa using hc
    clear hc
    go_enter Tryd.func24, Tryd.ntmps24
    go_wp2
    go_end0
    exact ⟨rfl, H.out, Frm.refl _ _⟩

set_option maxHeartbeats 1000000 in
theorem pwhite_any (pb : Nat) (s : ByteArray) (i : Nat) (code : Int) (w : World) (h : PAt w pb s i code) (hi : i ≤ s.size) (hs : s.size ≤ 65536) :
    Calls Tryd.prog 22 #[.pointer (some ⟨pb, 0, none⟩)] w (PDid pb s (skipW s.data.toList i) code w) := by
  have HL := Lib.hid (show s.data.toList.length = s.size by simp)
  have H := Lib.hid h
  clear h
  go_enter Tryd.func22, Tryd.ntmps22
  go_wp2
  go_loopg [] (s.size - i) (fun g wr => ∃ k : Nat, k + g = s.size ∧ PAt wr pb s k code ∧ Hid (skipW s.data.toList k = skipW s.data.toList i) ∧ Frm (One pb) w wr)
  case atStart => exact ⟨i, by omega, H.out, rfl, Frm.refl _ _⟩
  case round =>
    obtain ⟨k, hkg, hp, hsk, hf⟩ := hrel
    have c0 := hp.c0
    have c1 := hp.c1
    have c2 := hp.c2
    have f1 := hp.fz 1
    have HP := Lib.hid hp
    have HF := Lib.hid hf
    clear hp hf
    by_cases hlt : k < s.size
    · have hl : k < s.data.toList.length := by rw [HL.out]; exact hlt
      have g0 : decide ((k : Int) < (s.size : Int)) = true := by simpa using hlt
      have hb := s[k].toNat_lt
      have hww : isWhite s.data.toList[k] = (s[k].toNat == 32 || s[k].toNat == 9 || s[k].toNat == 10 || s[k].toNat == 13) := rfl
      have HW := Lib.hid hww
      clear hww
      obtain ⟨g, rfl⟩ : ∃ g, gk = g + 1 := ⟨gk - 1, by omega⟩
      by_cases b1 : s[k].toNat = 32
      · have e1 : ((s[k].toNat : Int) == 32) = true := by simp [b1]
        have hw : Hid (skipW s.data.toList (k + 1) = skipW s.data.toList i) := by
          unfold Hid; rw [← hsk.out, skipW_yes hl (by rw [HW.out, b1]; rfl)]
        clear b1
        go_wp2
        go_quiet (fail)
        go_wp2
        go_roundg g
        case rel => exact ⟨k + 1, by omega, (HP.out.drewN nq).setAt (k + 1), hw, (HF.out.drewN nq).trans (frm_at _ _ _ _)⟩
        case measure => omega
      have e1 : ((s[k].toNat : Int) == 32) = false := by simp; omega
      by_cases b2 : s[k].toNat = 9
      · have e2 : ((s[k].toNat : Int) == 9) = true := by simp [b2]
        have hw : Hid (skipW s.data.toList (k + 1) = skipW s.data.toList i) := by
          unfold Hid; rw [← hsk.out, skipW_yes hl (by rw [HW.out, b2]; rfl)]
        clear b2
        go_wp2
        go_quiet (fail)
        go_wp2
        go_roundg g
        case rel => exact ⟨k + 1, by omega, (HP.out.drewN nq).setAt (k + 1), hw, (HF.out.drewN nq).trans (frm_at _ _ _ _)⟩
        case measure => omega
      have e2 : ((s[k].toNat : Int) == 9) = false := by simp; omega
      by_cases b3 : s[k].toNat = 10
      · have e3 : ((s[k].toNat : Int) == 10) = true := by simp [b3]
        have hw : Hid (skipW s.data.toList (k + 1) = skipW s.data.toList i) := by
          unfold Hid; rw [← hsk.out, skipW_yes hl (by rw [HW.out, b3]; rfl)]
        clear b3
        go_wp2
        go_quiet (fail)
        go_wp2
        go_roundg g
        case rel => exact ⟨k + 1, by omega, (HP.out.drewN nq).setAt (k + 1), hw, (HF.out.drewN nq).trans (frm_at _ _ _ _)⟩
        case measure => omega
      have e3 : ((s[k].toNat : Int) == 10) = false := by simp; omega
      by_cases b4 : s[k].toNat = 13
      · have e4 : ((s[k].toNat : Int) == 13) = true := by simp [b4]
        have hw : Hid (skipW s.data.toList (k + 1) = skipW s.data.toList i) := by
          unfold Hid; rw [← hsk.out, skipW_yes hl (by rw [HW.out, b4]; rfl)]
        clear b4
        go_wp2
        go_quiet (fail)
        go_wp2
        go_roundg g
        case rel => exact ⟨k + 1, by omega, (HP.out.drewN nq).setAt (k + 1), hw, (HF.out.drewN nq).trans (frm_at _ _ _ _)⟩
        case measure => omega
      have e4 : ((s[k].toNat : Int) == 13) = false := by simp; omega
      have hw : Hid (skipW s.data.toList i = k) := by
        unfold Hid; rw [← hsk.out, skipW_no hl (by rw [HW.out]; simp [b1, b2, b3, b4])]
      clear b1 b2 b3 b4
      go_wp2
      go_quiet (fail)
      go_wp2
      go_end0
      exact ⟨rfl, by rw [hw.out]; exact HP.out.drewN nq, HF.out.drewN nq⟩
    · have g0 : decide ((k : Int) < (s.size : Int)) = false := by simpa using hlt
      have hw : Hid (skipW s.data.toList i = k) := by
        unfold Hid; rw [← hsk.out, skipW_end (by rw [HL.out]; omega)]
      go_wp2
      go_quiet (fail)
      go_wp2
      go_end0
      exact ⟨rfl, by rw [hw.out]; exact HP.out.drewN nq, HF.out.drewN nq⟩
end Go.Proofs.YtcobadgpelhcoaaDoor
