/- The program's parser: its block; what is thrown; peek, white, expect. -/
import Derived.Test.YtcobadgpelhcoaaDoorWord
import Derived.Test.YtcobadgpelhcoaaDoorPrefix
namespace Go.Proofs.YtcobadgpelhcoaaDoor
open Go.Conc Go.RowKit
set_option linter.unusedVariables false

/-- The program's parser at block pb reads s, stands at a place, so deep. -/
def JPAt (w : World) (pb : Nat) (s : ByteArray) (at_ deep : Nat) : Prop := w.heap[pb]? = some (.cells #[.string s, .int .i64 at_, .int .i64 deep] 51 (0, 0))
section
variable {w w' : World} {pb i d : Nat} {s : ByteArray}
theorem JPAt.c0 (h : JPAt w pb s i d) : w.cell? ⟨pb, 0, none⟩ = some (.string s) := by rw [cell_of_row w pb 0 _ _ _ h]; rfl
theorem JPAt.c1 (h : JPAt w pb s i d) : w.cell? ⟨pb, 1, none⟩ = some (.int .i64 i) := by rw [cell_of_row w pb 1 _ _ _ h]; rfl
theorem JPAt.c2 (h : JPAt w pb s i d) : w.cell? ⟨pb, 2, none⟩ = some (.int .i64 d) := by rw [cell_of_row w pb 2 _ _ _ h]; rfl
theorem JPAt.fz (h : JPAt w pb s i d) (j : Nat) : w.frozen? ⟨pb, j, none⟩ = false := frozen_of_row w pb j _ _ h
theorem JPAt.setAt (h : JPAt w pb s i d) (k : Nat) : JPAt (w.setCell ⟨pb, 1, none⟩ (.int .i64 k)) pb s k d := by
  have hb := Go.Joins.block_setCell (i := 1) h (.int .i64 (k : Int))
  simpa [JPAt] using hb
theorem JPAt.setDeep (h : JPAt w pb s i d) (e : Nat) : JPAt (w.setCell ⟨pb, 2, none⟩ (.int .i64 e)) pb s i e := by
  have hb := Go.Joins.block_setCell (i := 2) h (.int .i64 (e : Int))
  simpa [JPAt] using hb
theorem JPAt.drewN (h : JPAt w pb s i d) (n : Nat) : JPAt (w.drewN n) pb s i d := h
theorem JPAt.lt (h : JPAt w pb s i d) : pb < w.heap.size := (Array.getElem?_eq_some_iff.1 h).1
theorem JPAt.below (h : JPAt w pb s i d) (hb : Below w.heap.size w w') : JPAt w' pb s i d := (hb.block pb h.lt).trans h
theorem JPAt.frm {F : Nat → Prop} (h : JPAt w pb s i d) (hf : Frm F w w') (hF : ¬ F pb) : JPAt w' pb s i d := (hf.block pb h.lt hF).trans h
end

/-- It answers, the parser stands so, and nothing else turned. -/
def JAns (pb : Nat) (s : ByteArray) (i d : Nat) (v : Value) (w : World) (e : Ending) (w' : World) : Prop := e = .returned v ∧ JPAt w' pb s i d ∧ Frm (One pb) w w'
/-- What is thrown. -/
def thrown (code : Int) : Ending := .panicked [{ v := .iface 26 (.int .i64 code), recovered := false }]
/-- It throws, and nothing but the parser's block turned. -/
def JThrew (pb : Nat) (code : Int) (w : World) (e : Ending) (w' : World) : Prop := e = thrown code ∧ Frm (One pb) w w'

theorem jthrow_any (code : Int) (w : World) : Calls Tryd.prog 33 #[.int .i64 code] w fun e w' => e = .panicked [{ v := .iface 26 (.int .i64 code), recovered := false }] ∧ w = w' := by
  go_enter Tryd.func33, Tryd.ntmps33
  go_wp2
  exact ⟨rfl, rfl, rfl⟩

theorem prefix_word {s W : ByteArray} {i : Nat} (hi : i ≤ s.size) : Lib.hasPrefix (s.extract i s.size).data.toList W.data.toList = wordAt W.data.toList s.data.toList i := by
  unfold wordAt
  rw [show (s.extract i s.size).data.toList = s.data.toList.drop i by
    simp only [ByteArray.data_extract, Array.toList_extract, List.extract_eq_take_drop]
    exact List.take_of_length_le (by simp)]
  rfl

/-- The byte at a place; 0 behind the last. -/
def pk (l : List UInt8) (i : Nat) : Nat := match l[i]? with | some c => c.toNat | none => 0
theorem pk_in {s : ByteArray} {i : Nat} (h : i < s.size) : pk s.data.toList i = s[i].toNat := by
  unfold pk; rw [List.getElem?_eq_getElem (by simpa using h)]; rfl
theorem pk_out {s : ByteArray} {i : Nat} (h : s.size ≤ i) : pk s.data.toList i = 0 := by
  unfold pk; rw [List.getElem?_eq_none (by simpa using h)]
theorem pk_lt (l : List UInt8) (i : Nat) : pk l i < 256 := by
  unfold pk; split
  · rename_i c _; exact c.toNat_lt
  · omega

theorem jpeek_any (pb : Nat) (s : ByteArray) (i d : Nat) (w : World) (h : JPAt w pb s i d) (hs : s.size ≤ 65536) :
    Calls Tryd.prog 68 #[.pointer (some ⟨pb, 0, none⟩)] w fun e w' => e = .returned (.int .u8 (pk s.data.toList i)) ∧ ∃ n, w' = w.drewN n := by
  have c0 := h.c0
  have c1 := h.c1
  clear h
  by_cases hlt : i < s.size
  · rw [pk_in hlt]
    have g0 : decide ((s.size : Int) ≤ (i : Int)) = false := by simpa using hlt
    go_enter Tryd.func68, Tryd.ntmps68
    go_wp2
    go_quiet (fail)
    go_wp2
    go_quiet (fail)
    go_wp2
    go_ret
    exact ⟨rfl, _, by first | rfl | rw [World.drewN_drewN]⟩
  · rw [pk_out (by omega)]
    have g0 : decide ((s.size : Int) ≤ (i : Int)) = true := by simpa using hlt
    go_enter Tryd.func68, Tryd.ntmps68
    go_wp2
    go_quiet (fail)
    go_wp2
    go_ret
    exact ⟨rfl, _, by first | rfl | rw [World.drewN_drewN]⟩

theorem frm_drewN (F : Nat → Prop) (w : World) (n : Nat) : Frm F w (w.drewN n) := (Frm.refl _ w).drewN n

theorem pre_bool {s W : ByteArray} {i : Nat} {b : Bool} (hi : i ≤ s.size) (hw : wordAt W.data.toList s.data.toList i = b) (u : World) :
    Calls Tryd.prog 85 #[.string (s.extract i s.size), .string W] u fun e u' => e = .returned (.bool b) ∧ u' = u :=
  (hasprefix_any (s.extract i s.size) W u).mono fun e u' ⟨h1, h2⟩ => ⟨by rw [h1, prefix_word hi, hw], h2.symm⟩
set_option maxHeartbeats 1000000 in
theorem jexpect_yes (pb : Nat) (s W : ByteArray) (i d : Nat) (w : World) (h : JPAt w pb s i d) (hs : s.size ≤ 65536) (hi : i ≤ s.size) (hW : W.size ≤ 16) (hw : wordAt W.data.toList s.data.toList i = true) :
    Calls Tryd.prog 72 #[.pointer (some ⟨pb, 0, none⟩), .string W] w (JAns pb s (i + W.size) d (.tuple #[]) w) := by
  have c0 := h.c0
  have c1 := h.c1
  have f1 := h.fz 1
  have H := Lib.hid h
  have HP := Lib.hid (pre_bool hi hw)
  clear h hw
  go_enter Tryd.func72, Tryd.ntmps72
  go_wp2
  go_quiet ((go_at_call 85; exact Calls.quiet_of_same (HP.out _)))
  go_wp2
  go_end0
  exact ⟨rfl, (H.out.drewN nq).setAt (i + W.size), (frm_drewN _ w nq).trans (frm_at _ _ _ _)⟩
theorem jexpect_no (pb : Nat) (s W : ByteArray) (i d : Nat) (w : World) (h : JPAt w pb s i d) (hs : s.size ≤ 65536) (hi : i ≤ s.size) (hW : W.size ≤ 16) (hw : wordAt W.data.toList s.data.toList i = false) :
    Calls Tryd.prog 72 #[.pointer (some ⟨pb, 0, none⟩), .string W] w (JThrew pb 300 w) := by
  have c0 := h.c0
  have c1 := h.c1
  have HP := Lib.hid (pre_bool hi hw)
  clear h hw
  go_enter Tryd.func72, Tryd.ntmps72
  go_wp2
  go_quiet ((go_at_call 85; exact Calls.quiet_of_same (HP.out _)))
  go_wp2_with ((go_at_call 33; refine (jthrow_any _ _).mono ?_; rintro e u' ⟨rfl, rfl⟩))
  exact ⟨rfl, rfl, frm_drewN _ w nq⟩

def whiteN (c : Nat) : Bool := c == 32 || c == 9 || c == 10 || c == 13
def digitN (c : Nat) : Bool := decide (48 ≤ c) && decide (c ≤ 57)
theorem jiswhite_any (c : Nat) (hc : c < 256) (w : World) : Calls Tryd.prog 67 #[.int .u8 c] w fun e w' => e = .returned (.bool (whiteN c)) ∧ w = w' := by
  by_cases b1 : c = 32
  · subst b1; go_enter Tryd.func67, Tryd.ntmps67; go_wp2; go_ret; exact ⟨rfl, rfl⟩
  by_cases b2 : c = 9
  · subst b2; go_enter Tryd.func67, Tryd.ntmps67; go_wp2; go_ret; exact ⟨rfl, rfl⟩
  by_cases b3 : c = 10
  · subst b3; go_enter Tryd.func67, Tryd.ntmps67; go_wp2; go_ret; exact ⟨rfl, rfl⟩
  by_cases b4 : c = 13
  · subst b4; go_enter Tryd.func67, Tryd.ntmps67; go_wp2; go_ret; exact ⟨rfl, rfl⟩
  have hw : whiteN c = false := by simp [whiteN, b1, b2, b3, b4]
  rw [hw]
  have e1 : ((c : Int) == 32) = false := by simp; omega
  have e2 : ((c : Int) == 9) = false := by simp; omega
  have e3 : ((c : Int) == 10) = false := by simp; omega
  have e4 : ((c : Int) == 13) = false := by simp; omega
  clear hw b1 b2 b3 b4
  go_enter Tryd.func67, Tryd.ntmps67; go_wp2; go_ret; exact ⟨rfl, rfl⟩
theorem jisdigit_any (c : Nat) (hc : c < 256) (w : World) : Calls Tryd.prog 95 #[.int .u8 c] w fun e w' => e = .returned (.bool (digitN c)) ∧ w = w' := by
  unfold digitN
  by_cases b1 : 48 ≤ c
  · by_cases b2 : c ≤ 57
    · rw [decide_eq_true b1, decide_eq_true b2]
      have e2 : decide ((c : Int) ≤ 57) = true := by simp; omega
      go_enter Tryd.func95, Tryd.ntmps95; go_wp2; go_ret; exact ⟨rfl, rfl⟩
    · rw [decide_eq_true b1, decide_eq_false b2]
      have e2 : decide ((c : Int) ≤ 57) = false := by simp; omega
      go_enter Tryd.func95, Tryd.ntmps95; go_wp2; go_ret; exact ⟨rfl, rfl⟩
  · rw [decide_eq_false b1]
    go_enter Tryd.func95, Tryd.ntmps95; go_wp2; go_ret; exact ⟨rfl, rfl⟩
end Go.Proofs.YtcobadgpelhcoaaDoor
