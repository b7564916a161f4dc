/- The program's printer: what is printed so far; put. The program's printer: texts. The program's printer: texts, byte by byte. The program's printer: what is asked of texts, depths and keys. The program's printer: what it prints, told plainly; keys; what stays known of the tables. -/
import Derived.Test.YtcobadgpelhcoaaDoorDParse
import Derived.Test.YtcobadgpelhcoaaDoorOwn
import Derived.Test.YtcobadgpelhcoaaDoorShelf
namespace Go.Proofs.YtcobadgpelhcoaaDoor
open Go.Conc Go.RowKit
set_option linter.unusedVariables false
set_option linter.unusedSimpArgs false

/-- What stands ahead and more, unless it is too long. -/
def putB (acc bs : List UInt8) : Except Int (List UInt8) := if 65536 < acc.length + bs.length then .error 302 else .ok (acc ++ bs)
theorem putB_yes {acc bs : List UInt8} (h : acc.length + bs.length ≤ 65536) : putB acc bs = .ok (acc ++ bs) := by unfold putB; rw [if_neg (by omega)]
theorem putB_no {acc bs : List UInt8} (h : 65536 < acc.length + bs.length) : putB acc bs = .error 302 := by unfold putB; rw [if_pos h]
theorem putB_more {acc a b : List UInt8} (h : acc.length + a.length ≤ 65536) : putB acc (a ++ b) = putB (acc ++ a) b := by
  unfold putB; simp only [List.length_append, List.append_assoc, Nat.add_assoc]
theorem putB_stop {acc a b : List UInt8} (h : 65536 < acc.length + a.length) : putB acc (a ++ b) = .error 302 := by
  unfold putB; rw [if_pos (by simp only [List.length_append]; omega)]

/-- The printer at block pb has printed acc; its row is v. -/
structure PrAt (w : World) (pb : Nat) (acc : List UInt8) (v : Value) : Prop where
  blk : w.heap[pb]? = some (.cells #[v] 59 (0, 0))
  own : w.ownsRow (pb + 1) 5 1 v acc.length (byteCells acc)
  len : acc.length ≤ 65536
/-- What a step of the printer may turn: its own block, rows of bytes behind it. -/
def PF (pb : Nat) (w : World) (k : Nat) : Prop := k = pb ∨ (pb < k ∧ ∃ cur ph, w.heap[k]? = some (.cells cur 5 ph))
/-- What a step of the printer turns. -/
def PrStep (pb : Nat) (w w' : World) : Prop := Frm (PF pb w) w w'
section
variable {w w' w1 : World} {pb : Nat} {acc : List UInt8} {v v' v1 : Value}
theorem PrAt.c0 (h : PrAt w pb acc v) : w.cell? ⟨pb, 0, none⟩ = some v := by rw [cell_of_row w pb 0 _ _ _ h.blk]; rfl
theorem PrAt.fz (h : PrAt w pb acc v) (j : Nat) : w.frozen? ⟨pb, j, none⟩ = false := frozen_of_row w pb j _ _ h.blk
theorem PrAt.lt (h : PrAt w pb acc v) : pb < w.heap.size := (Array.getElem?_eq_some_iff.1 h.blk).1
theorem PrAt.row (h : PrAt w pb acc v) {g : Nat} (hg : v.ownBlock = some g) : pb < g ∧ ∃ cur ph, w.heap[g]? = some (.cells cur 5 ph) := by
  rcases h.own.2 with ⟨rfl, _⟩ | ⟨g', cap, cur, rfl, hb, hgg, _⟩
  · simp [Value.ownBlock] at hg
  · simp only [Value.ownBlock, Option.some.injEq] at hg; subst hg; exact ⟨by omega, cur, _, hgg⟩
theorem PrAt.slice (h : PrAt w pb acc v) : ∃ a c, v = .slice a acc.length c := own_slice h.own
theorem PrStep.refl (pb : Nat) (w : World) : PrStep pb w w := Frm.refl _ _
theorem PrStep.trans (h : PrStep pb w w1) (k : PrStep pb w1 w') : PrStep pb w w' := by
  have hs := h.size
  refine ⟨k.os.trans h.os, k.tape.trans h.tape, k.output.trans h.output, Nat.le_trans hs k.size, fun g hl hn => ?_⟩
  have h1 := h.block g hl hn
  refine (k.block g (by omega) ?_).trans h1
  rintro (h2 | ⟨h2, cur, ph, h3⟩)
  · exact hn (.inl h2)
  · exact hn (.inr ⟨h2, cur, ph, h1 ▸ h3⟩)
/-- Only new blocks turned. -/
theorem PrAt.below (h : PrAt w pb acc v) (hb : Below w.heap.size w w') : PrAt w' pb acc v :=
  ⟨(hb.block pb h.lt).trans h.blk, own_same h.own fun g _ hl => hb.block g hl, h.len⟩
theorem PrAt.frm {F : Nat → Prop} (h : PrAt w pb acc v) (hf : Frm F w w') (h1 : ¬ F pb) (h2 : ∀ g, v.ownBlock = some g → ¬ F g) : PrAt w' pb acc v := by
  refine ⟨(hf.block pb h.lt h1).trans h.blk, ?_, h.len⟩
  refine ⟨h.own.1, ?_⟩
  rcases h.own.2 with hn | ⟨g, cap, cur, rfl, hb, hgg, rest⟩
  · exact .inl hn
  · exact .inr ⟨g, cap, cur, rfl, hb, (hf.block g (Array.getElem?_eq_some_iff.1 hgg).1 (h2 g rfl)).trans hgg, rest⟩
theorem PrStep.of_below (pb : Nat) (hb : Below w.heap.size w w') : PrStep pb w w' := Frm.of_new hb _
theorem PrStep.below (h : PrStep pb w w1) (hb : Below w1.heap.size w1 w') : PrStep pb w w' := h.trans (PrStep.of_below pb hb)
/-- A block of another kind stands. -/
theorem PrStep.j6 {b : Nat} {a0 a1 a2 a3 a4 a5 : Value} (h : PrStep pb w w') (hj : J6 w b a0 a1 a2 a3 a4 a5) (hb : b ≠ pb) : J6 w' b a0 a1 a2 a3 a4 a5 := by
  refine hj.frm h ?_
  rintro (h1 | ⟨_, cur, ph, h1⟩)
  · exact hb h1
  · rw [hj] at h1; simp at h1
theorem PrAt.nej6 {b : Nat} {a0 a1 a2 a3 a4 a5 : Value} (h : PrAt w pb acc v) (hj : J6 w b a0 a1 a2 a3 a4 a5) : v.ownBlock ≠ some b := by
  intro e
  obtain ⟨_, cur, ph, h1⟩ := h.row e
  rw [hj] at h1; simp at h1
/-- What lies ahead of the printer stands. -/
theorem PrStep.ahead (h : PrStep pb w w') {k : Nat} (hk : k < pb) (hl : k < w.heap.size) : w'.heap[k]? = w.heap[k]? :=
  h.block k hl (by rintro (h1 | ⟨h1, _⟩) <;> omega)
end
/-- It is printed, or something is thrown. -/
def JPut (pb : Nat) (r : Except Int (List UInt8)) (w : World) (e : Ending) (w' : World) : Prop :=
  match r with
  | .ok acc => e = .returned (.tuple #[]) ∧ ∃ v', PrAt w' pb acc v' ∧ PrStep pb w w'
  | .error c => e = thrown c ∧ PrStep pb w w'

set_option maxHeartbeats 2000000 in
set_option maxRecDepth 100000 in
theorem jput_any (pb : Nat) (s : ByteArray) (acc : List UInt8) (w : World) (v : Value) (h : PrAt w pb acc v) (hs : s.size ≤ 1000) :
    Calls Tryd.prog 39 #[.pointer (some ⟨pb, 0, none⟩), .string s] w (JPut pb (putB acc s.data.toList) w) := by
  have c0 := h.c0
  have z0 := h.fz 0
  have hlt := h.lt
  have hlen := h.len
  obtain ⟨la, lc, rfl⟩ := h.slice
  have H := Lib.hid h
  clear h
  have HL : s.data.toList.length = s.size := by simp
  obtain ⟨i0, hi0, hz0, hz1, hz2⟩ := info_parts infoByte
  obtain ⟨n, hn⟩ : ∃ n, n = acc.length + s.size := ⟨_, rfl⟩
  have HN := Lib.hid hn
  clear hn
  have hne : ∀ g, (Value.slice la acc.length lc).ownBlock = some g → g ≠ pb := fun g hg e => by have := (H.out.row hg).1; omega
  have HE := Lib.hid hne
  clear hne
  have fin : ∀ (v' : Value) (w2 : World), w2.ownsRow (pb + 1) 5 1 v' (acc.length + s.size) (byteCells acc ++ Lib.strCells s) → w.grownBy w2 (Value.slice la acc.length lc).ownBlock →
      (acc.length + s.size ≤ 65536 → PrAt (w2.setCell ⟨pb, 0, none⟩ v') pb (acc ++ s.data.toList) v') ∧ PrStep pb w (w2.setCell ⟨pb, 0, none⟩ v') := by
    intro v' w2 hown hgrow
    have hb2 : w2.heap[pb]? = some (.cells #[.slice la acc.length lc] 59) := (hgrow.block pb hlt fun e => HE.out pb e.symm rfl).trans H.out.blk
    have hset := Go.Joins.block_setCell (i := 0) hb2 v'
    refine ⟨fun hle => ⟨by simpa using hset, ?_, by simp; omega⟩, ?_⟩
    · have e1 : byteCells acc ++ Lib.strCells s = byteCells (acc ++ s.data.toList) := by rw [byteCells_append]; simp [Lib.strCells, byteCells]
      rw [e1] at hown
      rw [show (acc ++ s.data.toList).length = acc.length + s.size by simp]
      exact own_same hown fun g hg _ => Below.heap_setCell _ _ _ _ (show g ≠ pb by omega)
    · refine ⟨hgrow.os, hgrow.tape, hgrow.output, by simp [World.setCell]; exact hgrow.size, fun g hl hn => ?_⟩
      exact (Below.heap_setCell _ _ _ _ (show g ≠ pb from fun e => hn (.inl e))).trans (hgrow.block g hl fun e => hn (.inr (H.out.row e.symm)))
  have FIN := Lib.hid fin
  clear fin
  by_cases hfit : n ≤ 65536
  · have g0 : decide ((65536 : Int) < (n : Int)) = false := by simp; omega
    rw [putB_yes (by have := HN.out; simp; omega)]
    go_enter Tryd.func39, Tryd.ntmps39
    go_wp2_with (at_builtin; refine Lib.wpList_append_own_string _ rfl _ _ 47 9 rfl (pb + 1) 5 i0 Tryd.underlying47 Tryd.underlying9 hi0 hz0 hz1 hz2 _ acc.length (byteCells acc) rfl H.out.own s rfl (by simp only [maxLen]; omega) (by omega) (by omega) ?_; intro v' w2 hown hgrow hnew
                 have hF := FIN.out v' w2 hown hgrow
                 have hb2 : w2.heap[pb]? = some (.cells #[.slice la acc.length lc] 59) := (hgrow.block pb hlt fun e => HE.out pb e.symm rfl).trans H.out.blk
                 have hzz := frozen_of_row w2 pb 0 _ _ hb2
                 have hc2 : w2.cell? ⟨pb, 0, none⟩ = some (.slice la acc.length lc) := by rw [cell_of_row w2 pb 0 _ _ _ hb2]; rfl
                 obtain ⟨la', lc', rfl⟩ := own_slice hown
                 have HF := Lib.hid hF
                 clear hF hown hgrow hnew hb2
                 rw [← HN.out] at HF ⊢)
    go_end0
    exact ⟨rfl, _, HF.out.1 (by have := HN.out; omega), HF.out.2⟩
  · have g0 : decide ((65536 : Int) < (n : Int)) = true := by simp; omega
    rw [putB_no (by have := HN.out; simp; omega)]
    go_enter Tryd.func39, Tryd.ntmps39
    go_wp2_with (first
      | (at_builtin; refine Lib.wpList_append_own_string _ rfl _ _ 47 9 rfl (pb + 1) 5 i0 Tryd.underlying47 Tryd.underlying9 hi0 hz0 hz1 hz2 _ acc.length (byteCells acc) rfl H.out.own s rfl (by simp only [maxLen]; omega) (by omega) (by omega) ?_; intro v' w2 hown hgrow hnew
         have hF := FIN.out v' w2 hown hgrow
         have hb2 : w2.heap[pb]? = some (.cells #[.slice la acc.length lc] 59) := (hgrow.block pb hlt fun e => HE.out pb e.symm rfl).trans H.out.blk
         have hzz := frozen_of_row w2 pb 0 _ _ hb2
         have hc2 : w2.cell? ⟨pb, 0, none⟩ = some (.slice la acc.length lc) := by rw [cell_of_row w2 pb 0 _ _ _ hb2]; rfl
         obtain ⟨la', lc', rfl⟩ := own_slice hown
         have HF := Lib.hid hF
         clear hF hown hgrow hnew hb2
         rw [← HN.out] at HF ⊢)
      | (go_at_call 33; refine (jthrow_any _ _).mono ?_; rintro e u' ⟨rfl, rfl⟩))
    exact ⟨rfl, rfl, HF.out.2⟩
end Go.Proofs.YtcobadgpelhcoaaDoor

namespace Go.Proofs.YtcobadgpelhcoaaDoor
open Go.Conc Go.RowKit
set_option linter.unusedVariables false
set_option linter.unusedSimpArgs false

/-- A digit of sixteen. -/
def hexD (n : Nat) : UInt8 := if n < 10 then UInt8.ofNat (48 + n) else UInt8.ofNat (87 + n)
/-- The escape of a byte below 32. -/
def ctlN (c : Nat) : List UInt8 :=
  if c = 8 then [92, 98] else if c = 12 then [92, 102] else if c = 10 then [92, 110] else if c = 13 then [92, 114] else if c = 9 then [92, 116]
  else [92, 117, 48, 48, hexD (c / 16), hexD (c % 16)]
/-- A byte within a text. -/
def escB (c : UInt8) : List UInt8 := if c = 34 ∨ c = 92 then [92, c] else if c.toNat < 32 then ctlN c.toNat else [c]
/-- A text between its marks. -/
def quoteL (l : List UInt8) : List UInt8 := 34 :: (l.flatMap escB ++ [34])

theorem ctl_len (c : Nat) : (ctlN c).length ≤ 6 := by
  unfold ctlN
  repeat' split
  all_goals simp

set_option maxHeartbeats 4000000 in
set_option maxRecDepth 100000 in
theorem jcontrol_any (c : Nat) (hc : c < 32) (w : World) : Calls Tryd.prog 62 #[.int .u8 c] w fun e w' => e = .returned (.string ⟨(ctlN c).toArray⟩) ∧ Below w.heap.size w w' := by
  have hall : ∀ c : Fin 32, ∀ w : World, Calls Tryd.prog 62 #[.int .u8 (c.val : Nat)] w fun e w' => e = .returned (.string ⟨(ctlN c.val).toArray⟩) ∧ Below w.heap.size w w' := by
    intro c w
    match c with
    | ⟨0, _⟩ => go_enter Tryd.func62, Tryd.ntmps62; go_wp2; go_quiet (fail); go_wp2; go_ret; exact ⟨rfl, (frm_drewN (fun k => w.heap.size ≤ k) w _).below (Nat.le_refl _)⟩
    | ⟨1, _⟩ => go_enter Tryd.func62, Tryd.ntmps62; go_wp2; go_quiet (fail); go_wp2; go_ret; exact ⟨rfl, (frm_drewN (fun k => w.heap.size ≤ k) w _).below (Nat.le_refl _)⟩
    | ⟨2, _⟩ => go_enter Tryd.func62, Tryd.ntmps62; go_wp2; go_quiet (fail); go_wp2; go_ret; exact ⟨rfl, (frm_drewN (fun k => w.heap.size ≤ k) w _).below (Nat.le_refl _)⟩
    | ⟨3, _⟩ => go_enter Tryd.func62, Tryd.ntmps62; go_wp2; go_quiet (fail); go_wp2; go_ret; exact ⟨rfl, (frm_drewN (fun k => w.heap.size ≤ k) w _).below (Nat.le_refl _)⟩
    | ⟨4, _⟩ => go_enter Tryd.func62, Tryd.ntmps62; go_wp2; go_quiet (fail); go_wp2; go_ret; exact ⟨rfl, (frm_drewN (fun k => w.heap.size ≤ k) w _).below (Nat.le_refl _)⟩
    | ⟨5, _⟩ => go_enter Tryd.func62, Tryd.ntmps62; go_wp2; go_quiet (fail); go_wp2; go_ret; exact ⟨rfl, (frm_drewN (fun k => w.heap.size ≤ k) w _).below (Nat.le_refl _)⟩
    | ⟨6, _⟩ => go_enter Tryd.func62, Tryd.ntmps62; go_wp2; go_quiet (fail); go_wp2; go_ret; exact ⟨rfl, (frm_drewN (fun k => w.heap.size ≤ k) w _).below (Nat.le_refl _)⟩
    | ⟨7, _⟩ => go_enter Tryd.func62, Tryd.ntmps62; go_wp2; go_quiet (fail); go_wp2; go_ret; exact ⟨rfl, (frm_drewN (fun k => w.heap.size ≤ k) w _).below (Nat.le_refl _)⟩
    | ⟨8, _⟩ => go_enter Tryd.func62, Tryd.ntmps62; go_wp2; go_ret; exact ⟨rfl, Below.refl _ _⟩
    | ⟨9, _⟩ => go_enter Tryd.func62, Tryd.ntmps62; go_wp2; go_ret; exact ⟨rfl, Below.refl _ _⟩
    | ⟨10, _⟩ => go_enter Tryd.func62, Tryd.ntmps62; go_wp2; go_ret; exact ⟨rfl, Below.refl _ _⟩
    | ⟨11, _⟩ => go_enter Tryd.func62, Tryd.ntmps62; go_wp2; go_quiet (fail); go_wp2; go_ret; exact ⟨rfl, (frm_drewN (fun k => w.heap.size ≤ k) w _).below (Nat.le_refl _)⟩
    | ⟨12, _⟩ => go_enter Tryd.func62, Tryd.ntmps62; go_wp2; go_ret; exact ⟨rfl, Below.refl _ _⟩
    | ⟨13, _⟩ => go_enter Tryd.func62, Tryd.ntmps62; go_wp2; go_ret; exact ⟨rfl, Below.refl _ _⟩
    | ⟨14, _⟩ => go_enter Tryd.func62, Tryd.ntmps62; go_wp2; go_quiet (fail); go_wp2; go_ret; exact ⟨rfl, (frm_drewN (fun k => w.heap.size ≤ k) w _).below (Nat.le_refl _)⟩
    | ⟨15, _⟩ => go_enter Tryd.func62, Tryd.ntmps62; go_wp2; go_quiet (fail); go_wp2; go_ret; exact ⟨rfl, (frm_drewN (fun k => w.heap.size ≤ k) w _).below (Nat.le_refl _)⟩
    | ⟨16, _⟩ => go_enter Tryd.func62, Tryd.ntmps62; go_wp2; go_quiet (fail); go_wp2; go_ret; exact ⟨rfl, (frm_drewN (fun k => w.heap.size ≤ k) w _).below (Nat.le_refl _)⟩
    | ⟨17, _⟩ => go_enter Tryd.func62, Tryd.ntmps62; go_wp2; go_quiet (fail); go_wp2; go_ret; exact ⟨rfl, (frm_drewN (fun k => w.heap.size ≤ k) w _).below (Nat.le_refl _)⟩
    | ⟨18, _⟩ => go_enter Tryd.func62, Tryd.ntmps62; go_wp2; go_quiet (fail); go_wp2; go_ret; exact ⟨rfl, (frm_drewN (fun k => w.heap.size ≤ k) w _).below (Nat.le_refl _)⟩
    | ⟨19, _⟩ => go_enter Tryd.func62, Tryd.ntmps62; go_wp2; go_quiet (fail); go_wp2; go_ret; exact ⟨rfl, (frm_drewN (fun k => w.heap.size ≤ k) w _).below (Nat.le_refl _)⟩
    | ⟨20, _⟩ => go_enter Tryd.func62, Tryd.ntmps62; go_wp2; go_quiet (fail); go_wp2; go_ret; exact ⟨rfl, (frm_drewN (fun k => w.heap.size ≤ k) w _).below (Nat.le_refl _)⟩
    | ⟨21, _⟩ => go_enter Tryd.func62, Tryd.ntmps62; go_wp2; go_quiet (fail); go_wp2; go_ret; exact ⟨rfl, (frm_drewN (fun k => w.heap.size ≤ k) w _).below (Nat.le_refl _)⟩
    | ⟨22, _⟩ => go_enter Tryd.func62, Tryd.ntmps62; go_wp2; go_quiet (fail); go_wp2; go_ret; exact ⟨rfl, (frm_drewN (fun k => w.heap.size ≤ k) w _).below (Nat.le_refl _)⟩
    | ⟨23, _⟩ => go_enter Tryd.func62, Tryd.ntmps62; go_wp2; go_quiet (fail); go_wp2; go_ret; exact ⟨rfl, (frm_drewN (fun k => w.heap.size ≤ k) w _).below (Nat.le_refl _)⟩
    | ⟨24, _⟩ => go_enter Tryd.func62, Tryd.ntmps62; go_wp2; go_quiet (fail); go_wp2; go_ret; exact ⟨rfl, (frm_drewN (fun k => w.heap.size ≤ k) w _).below (Nat.le_refl _)⟩
    | ⟨25, _⟩ => go_enter Tryd.func62, Tryd.ntmps62; go_wp2; go_quiet (fail); go_wp2; go_ret; exact ⟨rfl, (frm_drewN (fun k => w.heap.size ≤ k) w _).below (Nat.le_refl _)⟩
    | ⟨26, _⟩ => go_enter Tryd.func62, Tryd.ntmps62; go_wp2; go_quiet (fail); go_wp2; go_ret; exact ⟨rfl, (frm_drewN (fun k => w.heap.size ≤ k) w _).below (Nat.le_refl _)⟩
    | ⟨27, _⟩ => go_enter Tryd.func62, Tryd.ntmps62; go_wp2; go_quiet (fail); go_wp2; go_ret; exact ⟨rfl, (frm_drewN (fun k => w.heap.size ≤ k) w _).below (Nat.le_refl _)⟩
    | ⟨28, _⟩ => go_enter Tryd.func62, Tryd.ntmps62; go_wp2; go_quiet (fail); go_wp2; go_ret; exact ⟨rfl, (frm_drewN (fun k => w.heap.size ≤ k) w _).below (Nat.le_refl _)⟩
    | ⟨29, _⟩ => go_enter Tryd.func62, Tryd.ntmps62; go_wp2; go_quiet (fail); go_wp2; go_ret; exact ⟨rfl, (frm_drewN (fun k => w.heap.size ≤ k) w _).below (Nat.le_refl _)⟩
    | ⟨30, _⟩ => go_enter Tryd.func62, Tryd.ntmps62; go_wp2; go_quiet (fail); go_wp2; go_ret; exact ⟨rfl, (frm_drewN (fun k => w.heap.size ≤ k) w _).below (Nat.le_refl _)⟩
    | ⟨31, _⟩ => go_enter Tryd.func62, Tryd.ntmps62; go_wp2; go_quiet (fail); go_wp2; go_ret; exact ⟨rfl, (frm_drewN (fun k => w.heap.size ≤ k) w _).below (Nat.le_refl _)⟩
    | ⟨k + 32, h⟩ => exact absurd h (by omega)
  exact hall ⟨c, hc⟩ w

theorem jput_yes {pb : Nat} {s : ByteArray} {acc bs : List UInt8} {w : World} {v : Value} (h : PrAt w pb acc v) (hb : s.data.toList = bs) (hs : bs.length ≤ 1000) (hf : acc.length + bs.length ≤ 65536) :
    Calls Tryd.prog 39 #[.pointer (some ⟨pb, 0, none⟩), .string s] w fun e w' => e = .returned (.tuple #[]) ∧ ∃ v', PrAt w' pb (acc ++ bs) v' ∧ PrStep pb w w' := by
  have := jput_any pb s acc w v h (by rw [← hb] at hs; simpa using hs)
  rw [hb, putB_yes hf] at this; exact this
theorem jput_no {pb : Nat} {s : ByteArray} {acc bs : List UInt8} {w : World} {v : Value} (h : PrAt w pb acc v) (hb : s.data.toList = bs) (hs : bs.length ≤ 1000) (hf : 65536 < acc.length + bs.length) :
    Calls Tryd.prog 39 #[.pointer (some ⟨pb, 0, none⟩), .string s] w fun e w' => e = thrown 302 ∧ PrStep pb w w' := by
  have := jput_any pb s acc w v h (by rw [← hb] at hs; simpa using hs)
  rw [hb, putB_no hf] at this; exact this
theorem one_text (s : ByteArray) (k : Nat) (h : k < s.size) : (s.extract k (k + 1)).data.toList = [s[k]] := by
  simp only [ByteArray.data_extract, Array.toList_extract, List.extract_eq_take_drop]
  rw [List.drop_eq_getElem_cons (by simpa using h)]
  simp
  rfl

end Go.Proofs.YtcobadgpelhcoaaDoor

namespace Go.Proofs.YtcobadgpelhcoaaDoor
open Go.Conc Go.RowKit
set_option linter.unusedVariables false
set_option linter.unusedSimpArgs false

/-- The loop of a text goes on. -/
def JQ (pb : Nat) (s : ByteArray) (R : Except Int (List UInt8)) (w : World) (g : Nat) (iv : Value) (wr : World) : Prop :=
  ∃ (k : Nat) (acc : List UInt8) (v : Value), iv = .int .i64 k ∧ k ≤ s.size ∧ s.size + 1 ≤ k + g ∧ PrAt wr pb acc v ∧ PrStep pb w wr ∧ Hid (putB acc ((s.data.toList.drop k).flatMap escB ++ [34]) = R)

set_option maxHeartbeats 4000000 in
set_option maxRecDepth 100000 in
theorem jpquoted_any (pb : Nat) (s : ByteArray) (acc : List UInt8) (w : World) (v : Value) (h : PrAt w pb acc v) (hs : s.size ≤ 140737488351232) :
    Calls Tryd.prog 43 #[.pointer (some ⟨pb, 0, none⟩), .string s] w (JPut pb (putB acc (quoteL s.data.toList)) w) := by
  have HL := Lib.hid (show s.data.toList.length = s.size by simp)
  have H := Lib.hid h
  have hlen := h.len
  clear h
  unfold quoteL
  rw [show (34 :: (s.data.toList.flatMap escB ++ [34]) : List UInt8) = [34] ++ (s.data.toList.flatMap escB ++ [34]) from rfl]
  by_cases hf0 : acc.length + 1 ≤ 65536
  · rw [putB_more (by simpa using hf0)]
    generalize hR : putB (acc ++ [34]) (s.data.toList.flatMap escB ++ [34]) = R
    have HR := Lib.hid hR
    clear hR
    go_enter Tryd.func43, Tryd.ntmps43
    go_wp2_with (go_at_call 39; refine (jput_yes (bs := [34]) H.out rfl (by decide) hf0).mono ?_; rintro e w0 ⟨rfl, v0, hp0, hf0⟩; have HP0 := Lib.hid hp0; have HF0 := Lib.hid hf0; clear hp0 hf0)
    go_loopg [10] (s.size + 1) (fun g iv wr => JQ pb s R w g iv wr)
    case atStart => exact ⟨0, _, _, rfl, by omega, by omega, HP0.out, HF0.out, HR.out⟩
    case round =>
      obtain ⟨k, acc, v, rfl, hk, hkg, hp, hf, hre⟩ := hrel
      obtain ⟨g, rfl⟩ : ∃ g, gk = g + 1 := ⟨gk - 1, by omega⟩
      have HP := Lib.hid hp
      have HF := Lib.hid hf
      clear hp hf
      by_cases hks : k = s.size
      · have g0 : decide ((k : Int) < (s.size : Int)) = false := by simp; omega
        have e0 : s.data.toList.drop k = [] := List.drop_eq_nil_of_le (by rw [HL.out]; omega)
        have hre2 := hre.out
        rw [e0] at hre2
        simp only [List.flatMap_nil, List.nil_append] at hre2
        clear hre
        by_cases hf1 : acc.length + 1 ≤ 65536
        · obtain rfl : R = .ok (acc ++ [34]) := by rw [← hre2]; exact putB_yes hf1
          go_wp2_with (go_at_call 39; refine (jput_yes (bs := [34]) HP.out rfl (by decide) hf1).mono ?_; rintro e w1 ⟨rfl, v1, hp1, hf1⟩; have HP1 := Lib.hid hp1; have HF1 := Lib.hid hf1; clear hp1 hf1)
          go_end0
          exact ⟨rfl, _, HP1.out, HF.out.trans HF1.out⟩
        · obtain rfl : R = .error 302 := by rw [← hre2]; exact putB_no (by simp; omega)
          go_wp2_with (go_at_call 39; refine (jput_no (bs := [34]) HP.out rfl (by decide) (by simp; omega)).mono ?_; rintro e w1 ⟨rfl, hf1⟩; unfold thrown; have HF1 := Lib.hid hf1; clear hf1)
          exact ⟨rfl, rfl, HF.out.trans HF1.out⟩
      have hlt : k < s.size := by omega
      have g0 : decide ((k : Int) < (s.size : Int)) = true := by simp; omega
      have hdrop : s.data.toList.drop k = s[k] :: s.data.toList.drop (k + 1) := by rw [List.drop_eq_getElem_cons (by simpa using hlt)]; rfl
      have hre2 := hre.out
      rw [hdrop, List.flatMap_cons, List.append_assoc] at hre2
      clear hre hdrop
      have HX := Lib.hid (one_text s k hlt)
      have hw1 : wrap64 ((k : Int) + 1) = ((k + 1 : Nat) : Int) := by unfold wrap64; omega
      by_cases hq : s[k] = 34 ∨ s[k] = 92
      · rw [show escB s[k] = [92] ++ [s[k]] by unfold escB; rw [if_pos hq]; rfl, List.append_assoc] at hre2
        by_cases hf1 : acc.length + 1 ≤ 65536
        · rw [putB_more (by simpa using hf1)] at hre2
          have HA := Lib.hid (jput_yes (s := ⟨#[92]⟩) (bs := [92]) HP.out rfl (by decide) hf1)
          by_cases hf2 : (acc ++ [92]).length + 1 ≤ 65536
          · rw [putB_more (by simpa using hf2)] at hre2
            rcases Classical.em (s[k] = 34) with h34 | h34
            · have g1 : ((s[k].toNat : Int) == 34) = true := by rw [h34]; rfl
              clear hq h34
              go_wp2_with (go_at_call 39; first | ((with_reducible refine HA.out.mono ?_); rintro e w1 ⟨rfl, v1, hp1, hff⟩; have HP1 := Lib.hid hp1; have HF1 := Lib.hid hff; clear hp1 hff) | (refine (jput_yes HP1.out HX.out (by simp) (by simpa using hf2)).mono ?_; rintro e w2 ⟨rfl, v2, hp2, hff⟩; have HP2 := Lib.hid hp2; have HF2 := Lib.hid hff; clear hp2 hff))
              go_roundg g
              case rel => exact ⟨k + 1, _, _, by first | rfl | (congr 1), by omega, by omega, HP2.out, (HF.out.trans HF1.out).trans HF2.out, Lib.hid hre2⟩
              case measure => omega
            · have g1 : ((s[k].toNat : Int) == 34) = false := by have : s[k].toNat ≠ 34 := fun e => h34 (UInt8.toNat_inj.1 e); simp; omega
              have g2 : ((s[k].toNat : Int) == 92) = true := by rw [hq.resolve_left h34]; rfl
              clear hq h34
              go_wp2_with (go_at_call 39; first | ((with_reducible refine HA.out.mono ?_); rintro e w1 ⟨rfl, v1, hp1, hff⟩; have HP1 := Lib.hid hp1; have HF1 := Lib.hid hff; clear hp1 hff) | (refine (jput_yes HP1.out HX.out (by simp) (by simpa using hf2)).mono ?_; rintro e w2 ⟨rfl, v2, hp2, hff⟩; have HP2 := Lib.hid hp2; have HF2 := Lib.hid hff; clear hp2 hff))
              go_roundg g
              case rel => exact ⟨k + 1, _, _, by first | rfl | (congr 1), by omega, by omega, HP2.out, (HF.out.trans HF1.out).trans HF2.out, Lib.hid hre2⟩
              case measure => omega
          · obtain rfl : R = .error 302 := by rw [← hre2]; exact putB_stop (by simp at hf2 ⊢; omega)
            rcases Classical.em (s[k] = 34) with h34 | h34
            · have g1 : ((s[k].toNat : Int) == 34) = true := by rw [h34]; rfl
              clear hq h34
              go_wp2_with (go_at_call 39; first | ((with_reducible refine HA.out.mono ?_); rintro e w1 ⟨rfl, v1, hp1, hff⟩; have HP1 := Lib.hid hp1; have HF1 := Lib.hid hff; clear hp1 hff) | (refine (jput_no HP1.out HX.out (by simp) (by simp at hf2 ⊢; omega)).mono ?_; rintro e w2 ⟨rfl, hff⟩; unfold thrown; have HF2 := Lib.hid hff; clear hff))
              exact ⟨rfl, rfl, (HF.out.trans HF1.out).trans HF2.out⟩
            · have g1 : ((s[k].toNat : Int) == 34) = false := by have : s[k].toNat ≠ 34 := fun e => h34 (UInt8.toNat_inj.1 e); simp; omega
              have g2 : ((s[k].toNat : Int) == 92) = true := by rw [hq.resolve_left h34]; rfl
              clear hq h34
              go_wp2_with (go_at_call 39; first | ((with_reducible refine HA.out.mono ?_); rintro e w1 ⟨rfl, v1, hp1, hff⟩; have HP1 := Lib.hid hp1; have HF1 := Lib.hid hff; clear hp1 hff) | (refine (jput_no HP1.out HX.out (by simp) (by simp at hf2 ⊢; omega)).mono ?_; rintro e w2 ⟨rfl, hff⟩; unfold thrown; have HF2 := Lib.hid hff; clear hff))
              exact ⟨rfl, rfl, (HF.out.trans HF1.out).trans HF2.out⟩
        · obtain rfl : R = .error 302 := by rw [← hre2]; exact putB_stop (by simp; omega)
          rcases Classical.em (s[k] = 34) with h34 | h34
          · have g1 : ((s[k].toNat : Int) == 34) = true := by rw [h34]; rfl
            clear hq h34
            go_wp2_with (go_at_call 39; refine (jput_no (s := ⟨#[92]⟩) (bs := [92]) HP.out rfl (by decide) (by simp; omega)).mono ?_; rintro e w2 ⟨rfl, hff⟩; unfold thrown; have HF2 := Lib.hid hff; clear hff)
            exact ⟨rfl, rfl, HF.out.trans HF2.out⟩
          · have g1 : ((s[k].toNat : Int) == 34) = false := by have : s[k].toNat ≠ 34 := fun e => h34 (UInt8.toNat_inj.1 e); simp; omega
            have g2 : ((s[k].toNat : Int) == 92) = true := by rw [hq.resolve_left h34]; rfl
            clear hq h34
            go_wp2_with (go_at_call 39; refine (jput_no (s := ⟨#[92]⟩) (bs := [92]) HP.out rfl (by decide) (by simp; omega)).mono ?_; rintro e w2 ⟨rfl, hff⟩; unfold thrown; have HF2 := Lib.hid hff; clear hff)
            exact ⟨rfl, rfl, HF.out.trans HF2.out⟩
      have g1 : ((s[k].toNat : Int) == 34) = false := by have : s[k].toNat ≠ 34 := fun e => hq (.inl (UInt8.toNat_inj.1 e)); simp; omega
      have g2 : ((s[k].toNat : Int) == 92) = false := by have : s[k].toNat ≠ 92 := fun e => hq (.inr (UInt8.toNat_inj.1 e)); simp; omega
      by_cases hc : s[k].toNat < 32
      · have g3 : decide ((s[k].toNat : Int) < 32) = true := by simp; omega
        rw [show escB s[k] = ctlN s[k].toNat by unfold escB; rw [if_neg hq, if_pos hc]] at hre2
        have HCT := Lib.hid hc
        have hcl := ctl_len s[k].toNat
        clear hq hc
        by_cases hf1 : acc.length + (ctlN s[k].toNat).length ≤ 65536
        · rw [putB_more hf1] at hre2
          go_wp2_with (first
            | (go_at_call 62; refine (jcontrol_any s[k].toNat HCT.out _).mono ?_; rintro e w1 ⟨rfl, hb⟩; have HB := Lib.hid hb; have HP1 := Lib.hid (HP.out.below hb); clear hb)
            | (go_at_call 39; refine (jput_yes (bs := ctlN s[k].toNat) HP1.out (by simp) (by omega) hf1).mono ?_; rintro e w2 ⟨rfl, v2, hp2, hf2⟩; have HP2 := Lib.hid hp2; have HF2 := Lib.hid hf2; clear hp2 hf2))
          go_roundg g
          case rel => exact ⟨k + 1, _, _, by first | rfl | (congr 1), by omega, by omega, HP2.out, (HF.out.below HB.out).trans HF2.out, Lib.hid hre2⟩
          case measure => omega
        · obtain rfl : R = .error 302 := by rw [← hre2]; exact putB_stop (by omega)
          go_wp2_with (first
            | (go_at_call 62; refine (jcontrol_any s[k].toNat HCT.out _).mono ?_; rintro e w1 ⟨rfl, hb⟩; have HB := Lib.hid hb; have HP1 := Lib.hid (HP.out.below hb); clear hb)
            | (go_at_call 39; refine (jput_no (bs := ctlN s[k].toNat) HP1.out (by simp) (by omega) (by omega)).mono ?_; rintro e w2 ⟨rfl, hf2⟩; unfold thrown; have HF2 := Lib.hid hf2; clear hf2))
          exact ⟨rfl, rfl, (HF.out.below HB.out).trans HF2.out⟩
      have g3 : decide ((s[k].toNat : Int) < 32) = false := by simp; omega
      rw [show escB s[k] = [s[k]] by unfold escB; rw [if_neg hq, if_neg hc]] at hre2
      clear hq hc
      by_cases hf1 : acc.length + 1 ≤ 65536
      · rw [putB_more (by simpa using hf1)] at hre2
        go_wp2_with (go_at_call 39; refine (jput_yes HP.out HX.out (by simp) (by simpa using hf1)).mono ?_; rintro e w2 ⟨rfl, v2, hp2, hf2⟩; have HP2 := Lib.hid hp2; have HF2 := Lib.hid hf2; clear hp2 hf2)
        go_roundg g
        case rel => exact ⟨k + 1, _, _, by first | rfl | (congr 1), by omega, by omega, HP2.out, HF.out.trans HF2.out, Lib.hid hre2⟩
        case measure => omega
      · obtain rfl : R = .error 302 := by rw [← hre2]; exact putB_stop (by simp; omega)
        go_wp2_with (go_at_call 39; refine (jput_no HP.out HX.out (by simp) (by simp; omega)).mono ?_; rintro e w2 ⟨rfl, hf2⟩; unfold thrown; have HF2 := Lib.hid hf2; clear hf2)
        exact ⟨rfl, rfl, HF.out.trans HF2.out⟩
  · rw [putB_stop (by simp; omega)]
    go_enter Tryd.func43, Tryd.ntmps43
    go_wp2_with (go_at_call 39; refine (jput_no (bs := [34]) H.out rfl (by decide) (by simp; omega)).mono ?_; rintro e w0 ⟨rfl, hf0⟩; unfold thrown; have HF0 := Lib.hid hf0; clear hf0)
    exact ⟨rfl, rfl, HF0.out⟩
end Go.Proofs.YtcobadgpelhcoaaDoor

namespace Go.Proofs.YtcobadgpelhcoaaDoor
open Go.Conc Go.RowKit Go.Maps Go.WideMaps
set_option linter.unusedVariables false
set_option linter.unusedSimpArgs false

/-- A text of runes. -/
def validB (s : ByteArray) : Bool := decide (first s.data.toList = -1)
/-- None of these is among the seen, none is twice. -/
def unlike : List ByteArray → List ByteArray → Bool
  | _, [] => true
  | seen, k :: r => if seenB seen k then false else unlike (seen ++ [k]) r
/-- It comes back, or something is thrown; nothing that was there turned. -/
def JChk (r : Except Int Unit) (w : World) (e : Ending) (w' : World) : Prop :=
  match r with
  | .ok _ => e = .returned (.tuple #[]) ∧ Below w.heap.size w w'
  | .error c => e = thrown c ∧ Below w.heap.size w w'
def chk (b : Bool) (c : Int) : Except Int Unit := if b then .ok () else .error c

set_option maxHeartbeats 1000000 in
set_option maxRecDepth 100000 in
theorem jckrunes_any (s : ByteArray) (hs : s.size ≤ 140737488351232) (w : World) : Calls Tryd.prog 42 #[.string s] w (JChk (chk (validB s) 300) w) := by
  have HV := Lib.hid (uvalid_any s (by omega) w)
  cases hv : validB s with
  | true =>
    have hv2 : decide (first s.data.toList = -1) = true := hv
    rw [hv2] at HV
    clear hv hv2
    go_enter Tryd.func42, Tryd.ntmps42
    go_wp2_with (go_at_call 61; refine HV.out.mono ?_; rintro e u' ⟨rfl, rfl⟩)
    go_end0
    exact ⟨rfl, Below.refl _ _⟩
  | false =>
    have hv2 : decide (first s.data.toList = -1) = false := hv
    rw [hv2] at HV
    clear hv hv2
    go_enter Tryd.func42, Tryd.ntmps42
    go_wp2_with (first
      | (go_at_call 61; refine HV.out.mono ?_; rintro e u' ⟨rfl, rfl⟩)
      | (go_at_call 33; refine (jthrow_any _ _).mono ?_; rintro e u' ⟨rfl, rfl⟩))
    exact ⟨rfl, rfl, Below.refl _ _⟩
set_option maxHeartbeats 1000000 in
set_option maxRecDepth 100000 in
theorem jckdepth_any (d : Nat) (w : World) : Calls Tryd.prog 44 #[.int .i64 d] w (JChk (chk (decide (d ≤ 16)) 301) w) := by
  by_cases hd : d ≤ 16
  · have g0 : decide ((16 : Int) < (d : Int)) = false := by simp; omega
    rw [show chk (decide (d ≤ 16)) 301 = .ok () by unfold chk; simp [hd]]
    clear hd
    go_enter Tryd.func44, Tryd.ntmps44
    go_wp2
    go_end0
    exact ⟨rfl, Below.refl _ _⟩
  · have g0 : decide ((16 : Int) < (d : Int)) = true := by simp; omega
    rw [show chk (decide (d ≤ 16)) 301 = .error 301 by unfold chk; simp [hd]]
    clear hd
    go_enter Tryd.func44, Tryd.ntmps44
    go_wp2_with (go_at_call 33; refine (jthrow_any _ _).mono ?_; rintro e u' ⟨rfl, rfl⟩)
    exact ⟨rfl, rfl, Below.refl _ _⟩

/-- Keys in a row: each cell. -/
theorem RowIn.key {F : Nat → Prop} {w : World} {n : Nat} {v : Value} {ks : List ByteArray} (h : RowIn F w 1 n v (ks.map Value.string)) (hn : ks.length = n) {k : Nat} (hk : k < n) :
    ∃ b o c, v = .slice (some ⟨b, o, none⟩) n c ∧ F b ∧ b < w.heap.size ∧ ∀ j, (hj : j < ks.length) → w.cell? ⟨b, o + j, none⟩ = some (.string ks[j]) := by
  obtain ⟨_, a, cap, rfl, h0 | ⟨b, o, rfl, hF, hb, hc⟩⟩ := h
  · omega
  · exact ⟨b, o, cap, rfl, hF, hb, fun j hj => hc j _ (by simp [hj])⟩

/-- The loop over keys goes on. -/
def JU (ks : List ByteArray) (mb : Nat) (R : Except Int Unit) (w : World) (g : Nat) (iv : Value) (wr : World) : Prop :=
  ∃ k : Nat, iv = .int .i64 k ∧ k ≤ ks.length ∧ ks.length + 1 ≤ k + g ∧ OwnKeys wr mb (ks.take k) ∧ Below w.heap.size w wr ∧ Hid (chk (unlike (ks.take k) (ks.drop k)) 300 = R)

set_option maxHeartbeats 2000000 in
set_option maxRecDepth 100000 in
theorem jckunlike_any (F : Nat → Prop) (ks : List ByteArray) (n : Nat) (kv : Value) (w : World) (hn : ks.length = n) (h : RowIn F w 1 n kv (ks.map Value.string)) (hl : ks.length ≤ 9000000000000) (hks : ∀ k ∈ ks, k.size ≤ 140737488351232) :
    Calls Tryd.prog 63 #[kv] w (JChk (chk (unlike [] ks) 300) w) := by
  obtain ⟨_, a, cap, rfl, _⟩ := id h
  have H := Lib.hid h
  have HK := Lib.hid hks
  have HN := Lib.hid hn
  clear h hks
  have hmk : ∀ (m : Int) (u : World), (Instr.makeMap 94 (some (.int .i64 m))).run Tryd.prog u = .ok (.map (some u.heap.size)) (u.alloc (.map #[] 0)) := fun m u => by
    simp [Instr.makeMap, run_underlying Tryd.underlying94, asInt, asIntOf, Result.andThen]
  generalize hR : chk (unlike [] ks) 300 = R
  have HR := Lib.hid hR
  clear hR
  obtain ⟨mb, hmb⟩ : ∃ mb, mb = w.heap.size := ⟨_, rfl⟩
  have HM : Hid (OwnKeys (w.alloc (.map #[] 0)) mb []) := by unfold Hid; rw [hmb]; exact World.ownsMap_made w Tryd.prog 9 unitElem
  have HMB := Lib.hid hmb
  have HB := Lib.hid ((Below.refl _ w).alloc (Nat.le_refl _) (.map #[] 0))
  go_enter Tryd.func63, Tryd.ntmps63
  go_wp2
  rw [← hmb]
  clear hmb
  go_loopg [10] (ks.length + 1) (fun g iv wr => JU ks mb R w g iv wr)
  case atStart => exact ⟨0, rfl, by omega, by omega, HM.out, HB.out, HR.out⟩
  case round =>
    clear HM HB HR hmk
    obtain ⟨k, rfl, hk, hkg, hm, hb, hre⟩ := hrel
    obtain ⟨g, rfl⟩ : ∃ g, gk = g + 1 := ⟨gk - 1, by omega⟩
    have HOM := Lib.hid hm
    have HBB := Lib.hid hb
    clear hm hb
    by_cases hkn : k = n
    · have g0 : decide ((k : Int) < (n : Int)) = false := by simp; omega
      obtain rfl : R = .ok () := by rw [← hre.out, List.drop_eq_nil_of_le (by omega)]; rfl
      go_wp2
      go_end0
      exact ⟨rfl, HBB.out⟩
    have hkl : k < ks.length := by omega
    have g0 : decide ((k : Int) < (n : Int)) = true := by simp; omega
    obtain ⟨b, o, c, hv, hF, hbl, hc⟩ := H.out.key hn (show k < n by omega)
    simp only [Value.slice.injEq] at hv
    obtain ⟨rfl, _, rfl⟩ := hv
    have hcell : wr.cell? ⟨b, o + k, none⟩ = some (.string ks[k]) := by
      rw [← hc k hkl]; exact World.cell?_of_block (HBB.out.block b hbl)
    have hw1 : wrap64 ((k : Int) + 1) = ((k + 1 : Nat) : Int) := by unfold wrap64; omega
    have hks := HK.out ks[k] (List.getElem_mem hkl)
    have hre2 := hre.out
    rw [List.drop_eq_getElem_cons hkl] at hre2
    have htl : (ks.take k).length ≤ 140737488351232 := by rw [List.length_take]; omega
    clear hre hc hkn
    cases hse : seenB (ks.take k) ks[k] with
    | true =>
      obtain rfl : R = .error 300 := by rw [← hre2]; unfold unlike; rw [hse]; rfl
      have HS := Lib.hid hse
      clear hse hre2
      go_wp2_with (go_at_call 79; refine (jnote_old mb _ _ _ HOM.out hks HS.out).mono ?_; rintro e u1 ⟨rfl, hb⟩; unfold thrown; have HB1 := Lib.hid hb; clear hb)
      exact ⟨rfl, rfl, ((Frm.of_below HBB.out).trans (Frm.of_new HB1.out _)).below (Nat.le_refl _)⟩
    | false =>
      unfold unlike at hre2
      simp only [hse, Bool.false_eq_true, if_false] at hre2
      have HS := Lib.hid hse
      clear hse
      rw [← List.take_succ_eq_append_getElem hkl] at hre2
      go_wp2_with (go_at_call 79; refine (jnote_new mb _ _ _ HOM.out htl hks HS.out).mono ?_; rintro e u1 ⟨rfl, hm1, hf1⟩; rw [← List.take_succ_eq_append_getElem hkl] at hm1; have HM1 := Lib.hid hm1; have HF1 := Lib.hid hf1; clear hm1 hf1)
      go_roundg g
      case rel => exact ⟨k + 1, by first | rfl | (congr 1), by omega, by omega, HM1.out, ((Frm.of_below HBB.out).trans (HF1.out.mono fun g _ hg => by have : g = mb := hg; have := HMB.out; omega)).below (Nat.le_refl _), Lib.hid hre2⟩
      case measure => omega
end Go.Proofs.YtcobadgpelhcoaaDoor

namespace Go.Proofs.YtcobadgpelhcoaaDoor
open Go.Conc Go.RowKit Go.Maps Go.WideMaps
set_option linter.unusedVariables false
set_option linter.unusedSimpArgs false

def bnd {α β : Type} (r : Except Int α) (f : α → Except Int β) : Except Int β := match r with | .error e => .error e | .ok a => f a
@[simp] theorem bnd_ok {α β : Type} (a : α) (f : α → Except Int β) : bnd (.ok a) f = f a := rfl
@[simp] theorem bnd_error {α β : Type} (e : Int) (f : α → Except Int β) : bnd (.error e) f = .error e := rfl
def comma (one : Bool) (acc : List UInt8) : Except Int (List UInt8) := if one then .ok acc else putB acc [44]
abbrev Pr := J → List UInt8 → Except Int (List UInt8)
/-- The members of a list. -/
def elemsP (f : Pr) : Bool → List J → List UInt8 → Except Int (List UInt8)
  | _, [], acc => .ok acc
  | one, x :: r, acc => bnd (comma one acc) fun a => bnd (f x a) fun b => elemsP f false r b
def listP (f : Pr) (l : List J) (acc : List UInt8) : Except Int (List UInt8) := bnd (putB acc [91]) fun a => bnd (elemsP f true l a) fun b => putB b [93]
/-- The members of an object. -/
def pairsP (f : Pr) : Bool → List ByteArray → List J → List UInt8 → Except Int (List UInt8)
  | one, k :: ks, x :: r, acc => bnd (comma one acc) fun a => bnd (putB a (quoteL k.data.toList)) fun b => bnd (putB b [58]) fun c => bnd (f x c) fun d => pairsP f false ks r d
  | _, _, _, acc => .ok acc
def objP (f : Pr) (ks : List ByteArray) (l : List J) (acc : List UInt8) : Except Int (List UInt8) := bnd (putB acc [123]) fun a => bnd (pairsP f true ks l a) fun b => putB b [125]
/-- May an object have these keys? -/
def keysOk (ks : List ByteArray) (l : List J) : Bool := decide (ks.length = l.length) && (ks.all validB && unlike [] ks)
/-- A value; `sub` prints those within it, none: it is too deep for them. -/
def prF (sub : Option Pr) : Pr
  | .mk k b n s l ks, acc =>
    if k = 0 then putB acc [110, 117, 108, 108]
    else if k = 1 then putB acc (Lib.formatBool b)
    else if k = 2 then putB acc (Lib.itoa n)
    else if k = 3 then (if validB s then putB acc (quoteL s.data.toList) else .error 300)
    else if k = 4 then (match sub with | none => .error 301 | some f => listP f l acc)
    else if k = 5 then (match sub with | none => .error 301 | some f => if keysOk ks l then objP f ks l acc else .error 300)
    else .error 300
/-- A value that may hold so many levels. -/
def prN : Nat → Pr
  | 0 => prF none
  | n + 1 => prF (some (prN n))

/-- A value whose parts are not too great. -/
inductive JSm : J → Prop
  | mk (k : Int) (b : Bool) (n : Int) (s : ByteArray) (l : List J) (ks : List ByteArray) (hn : -9223372036854775808 ≤ n ∧ n ≤ 9223372036854775807) (hs : s.size ≤ 140737488351232) (hl : l.length ≤ 9000000000000) (hk : ks.length ≤ 9000000000000)
      (hks : ∀ k ∈ ks, k.size ≤ 140737488351232) (hj : ∀ x ∈ l, JSm x) : JSm (.mk k b n s l ks)

/-- The library's table of powers, ahead of a place. -/
structure TabLow (B : Nat) (w : World) : Prop where
  tab : Lib.TabIs Tryd.prog w "internal/strconv.uint64pow10" .u64 Lib.pow10Tab
  low : ∀ g, Tryd.prog.globalNamed "internal/strconv.uint64pow10" = some g → g < B
theorem TabLow.keep {B : Nat} {w w' : World} (h : TabLow B w) (hs : ∀ g, g < B → w'.heap[g]? = w.heap[g]?) : TabLow B w' := by
  refine ⟨?_, h.low⟩
  have ht := h.tab
  unfold Lib.TabIs World.var? at ht ⊢
  cases hg : Tryd.prog.globalNamed "internal/strconv.uint64pow10" with
  | none => simp [hg] at ht
  | some g =>
    simp only [hg, Option.bind_some] at ht ⊢
    rw [hs g (h.low g hg)]
    exact ht
theorem PrStep.tab {B pb : Nat} {w w' : World} (h : PrStep pb w w') (ht : TabLow B w) (hB : B ≤ pb) (hl : pb < w.heap.size) : TabLow B w' := ht.keep fun g hg => h.ahead (by omega) (by omega)
theorem PrStep.jin {pb : Nat} {w w' : World} {j : J} {c : List Value} (h : PrStep pb w w') (hj : JIn (fun g => g < pb) w j c) : JIn (fun g => g < pb) w' j c :=
  hj.same (fun g hg hl => h.ahead hg hl) h.size

/-- The loop over keys goes on. -/
def JV2 (ks : List ByteArray) (b : Nat) (a0 a1 a2 a3 a4 a5 : Value) (R : Except Int Unit) (w : World) (g : Nat) (iv : Value) (wr : World) : Prop :=
  ∃ k : Nat, iv = .int .i64 k ∧ k ≤ ks.length ∧ ks.length + 1 ≤ k + g ∧ J6 wr b a0 a1 a2 a3 a4 a5 ∧ Below w.heap.size w wr ∧ Hid (chk ((ks.drop k).all validB && unlike [] ks) 300 = R)

set_option maxHeartbeats 4000000 in
set_option maxRecDepth 100000 in
theorem jckkeys_any (F : Nat → Prop) (k : Int) (b : Bool) (n : Int) (s : ByteArray) (nl : Nat) (ks : List ByteArray) (kv : Value) (la : Option Addr) (lc : Nat) (w : World)
    (h : RowIn F w 1 ks.length kv (ks.map Value.string)) (hl : ks.length ≤ 9000000000000) (hnl : nl ≤ 9000000000000) (hks : ∀ k ∈ ks, k.size ≤ 140737488351232) :
    Calls Tryd.prog 46 #[.agg #[.int .i64 k, .bool b, .int .i64 n, .string s, .slice la nl lc, kv]] w (JChk (chk (decide (ks.length = nl) && (ks.all validB && unlike [] ks)) 300) w) := by
  obtain ⟨_, a, cap, rfl, _⟩ := id h
  have H := Lib.hid h
  have HK := Lib.hid hks
  obtain ⟨m, hm⟩ : ∃ m, m = ks.length := ⟨_, rfl⟩
  have HM := Lib.hid hm
  rw [← hm] at H
  have h0 := j6_new w (.int .i64 k) (.bool b) (.int .i64 n) (.string s) (.slice la nl lc) (.slice a m cap)
  have c4 := h0.c4
  have c5 := h0.c5
  have H0 := Lib.hid h0
  have HB0 := Lib.hid ((Below.refl _ w).alloc (Nat.le_refl _) (.cells #[.int .i64 k, .bool b, .int .i64 n, .string s, .slice la nl lc, .slice a m cap] 25))
  rw [← hm]
  clear h hks h0 hm
  by_cases hne : m = nl
  · subst hne
    rw [show (decide (m = m) && (ks.all validB && unlike [] ks)) = (ks.all validB && unlike [] ks) by simp]
    generalize hR : chk (ks.all validB && unlike [] ks) 300 = R
    have HR := Lib.hid hR
    clear hR
    have g0 : ((m : Int) == (m : Int)) = true := by simp
    go_enter Tryd.func46, Tryd.ntmps46
    go_wp2
    go_loopg [15] (ks.length + 1) (fun g iv wr => JV2 ks w.heap.size (.int .i64 k) (.bool b) (.int .i64 n) (.string s) (.slice la m lc) (.slice a m cap) R w g iv wr)
    case atStart => exact ⟨0, rfl, by omega, by omega, H0.out, HB0.out, HR.out⟩
    case round =>
      clear H0 HB0 HR c4 c5
      obtain ⟨i, rfl, hi, hig, h6, hb, hre⟩ := hrel
      obtain ⟨g, rfl⟩ : ∃ g, gk = g + 1 := ⟨gk - 1, by omega⟩
      have H6 := Lib.hid h6
      have HBB := Lib.hid hb
      clear hb
      by_cases hin : i = m
      · have g0 : decide ((i : Int) < (m : Int)) = false := by simp; omega
        have hre2 := hre.out
        rw [List.drop_eq_nil_of_le (by have := HM.out; omega), List.all_nil, Bool.true_and] at hre2
        have hrow : RowIn F wr 1 m (.slice a m cap) (ks.map Value.string) := by
          obtain ⟨h1, a', cap', e, h2⟩ := H.out
          exact ⟨h1, a', cap', e, h2.imp id fun ⟨b, o, e1, hF, hbl, hc⟩ => ⟨b, o, e1, hF, by have := HBB.out.size; omega, fun j u hj => by rw [← hc j u hj]; exact World.cell?_of_block (HBB.out.block b hbl)⟩⟩
        have c5 := h6.c5
        have HU := Lib.hid (jckunlike_any F ks m (.slice a m cap) wr HM.out.symm hrow hl HK.out)
        clear h6 hre hrow
        cases hu : unlike [] ks with
        | true =>
          obtain rfl : R = .ok () := by rw [← hre2, hu]; rfl
          rw [hu] at HU
          clear hu hre2
          go_wp2_with (go_at_call 63; refine HU.out.mono ?_; rintro e w2 ⟨rfl, hb2⟩; have HB2 := Lib.hid hb2; clear hb2)
          go_end0
          exact ⟨rfl, ((Frm.of_below HBB.out).trans (Frm.of_new HB2.out _)).below (Nat.le_refl _)⟩
        | false =>
          obtain rfl : R = .error 300 := by rw [← hre2, hu]; rfl
          rw [hu] at HU
          clear hu hre2
          go_wp2_with (go_at_call 63; refine HU.out.mono ?_; rintro e w2 ⟨rfl, hb2⟩; unfold thrown; have HB2 := Lib.hid hb2; clear hb2)
          exact ⟨rfl, rfl, ((Frm.of_below HBB.out).trans (Frm.of_new HB2.out _)).below (Nat.le_refl _)⟩
      have him : i < m := by have := HM.out; omega
      have hil : i < ks.length := by have := HM.out; omega
      have g0 : decide ((i : Int) < (m : Int)) = true := by simp; omega
      obtain ⟨b', o, c, hv, hF, hbl, hc⟩ := H.out.key HM.out.symm him
      simp only [Value.slice.injEq] at hv
      obtain ⟨rfl, _, rfl⟩ := hv
      have hcell : wr.cell? ⟨b', o + i, none⟩ = some (.string ks[i]) := by
        rw [← hc i hil]; exact World.cell?_of_block (HBB.out.block b' hbl)
      have hw1 : wrap64 ((i : Int) + 1) = ((i + 1 : Nat) : Int) := by unfold wrap64; omega
      have hks := HK.out ks[i] (List.getElem_mem hil)
      have HV := Lib.hid (jckrunes_any ks[i] (by omega) wr)
      have hre2 := hre.out
      rw [List.drop_eq_getElem_cons hil, List.all_cons, Bool.and_assoc] at hre2
      clear hre hc hin h6
      cases hv : validB ks[i] with
      | true =>
        rw [hv, Bool.true_and] at hre2
        rw [hv] at HV
        clear hv
        go_wp2_with (go_at_call 42; refine HV.out.mono ?_; rintro e w2 ⟨rfl, hb2⟩; have HB2 := Lib.hid hb2; clear hb2)
        go_roundg g
        case rel => exact ⟨i + 1, by first | rfl | (congr 1), by omega, by omega, H6.out.frm (Frm.of_new HB2.out (fun _ => False)) id, ((Frm.of_below HBB.out).trans (Frm.of_new HB2.out _)).below (Nat.le_refl _), Lib.hid hre2⟩
        case measure => omega
      | false =>
        obtain rfl : R = .error 300 := by rw [← hre2, hv]; rfl
        rw [hv] at HV
        clear hv hre2
        go_wp2_with (go_at_call 42; refine HV.out.mono ?_; rintro e w2 ⟨rfl, hb2⟩; unfold thrown; have HB2 := Lib.hid hb2; clear hb2)
        exact ⟨rfl, rfl, ((Frm.of_below HBB.out).trans (Frm.of_new HB2.out _)).below (Nat.le_refl _)⟩
  · have g0 : ((m : Int) == (nl : Int)) = false := by simp; omega
    rw [show chk (decide (m = nl) && (ks.all validB && unlike [] ks)) 300 = .error 300 by unfold chk; simp [hne]]
    clear hne
    go_enter Tryd.func46, Tryd.ntmps46
    go_wp2_with (go_at_call 33; refine (jthrow_any _ _).mono ?_; rintro e u' ⟨rfl, rfl⟩)
    exact ⟨rfl, rfl, HB0.out⟩
end Go.Proofs.YtcobadgpelhcoaaDoor
