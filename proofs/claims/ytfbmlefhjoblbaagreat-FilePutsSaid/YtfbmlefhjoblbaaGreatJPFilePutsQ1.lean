/- The document's Stats of a file's data. A number's parts: the document's way, byte behind byte. The number at a place: the document's way. Varint, Unvarint, Zig, Zag: the document's. -/
import Derived.Test.YtfbmlefhjoblbaaGreatFmQ
import Derived.Test.YtfbmlefhjoblbaaGreatDatLQ
import Derived.Test.YtfbmlefhjoblbaaGreatStatRQ
import Derived.Test.YtfbmlefhjoblbaaGreatRStat2Q
import Derived.Test.YtfbmlefhjoblbaaGreatQeQ
import Derived.Handy
import Derived.Test.YtfbmlefhjoblbaaGreatJPFilePutsQ4
import Derived.Test.YtfbmlefhjoblbaaGreatFacesQ
namespace Go.Proofs.YtfbmlefhjoblbaaGreat
open Go.Conc Go.RowKit
set_option linter.unusedVariables false
set_option linter.unusedSimpArgs false

end Go.Proofs.YtfbmlefhjoblbaaGreat

namespace Go.Proofs.YtfbmlefhjoblbaaGreat
open Go.RowKit
set_option linter.unusedVariables false

/-- A row of bytes of one's own. -/
structure OAt (a w : World) (v : Value) (O : List UInt8) : Prop where
  own : w.ownsRow a.heap.size 5 1 v O.length (byteCells O)
  bel : Below a.heap.size a w
theorem OAt.grow {a w w' : World} {v v' : Value} {O : List UInt8} (h : OAt a w v O) (l : List UInt8) (hown : w'.ownsRow a.heap.size 5 1 v' (O.length + l.length) (byteCells O ++ byteCells l)) (hg : w.grownBy w' v.ownBlock) : OAt a w' v' (O ++ l) := by
  have hne : ∀ k, v.ownBlock = some k → a.heap.size ≤ k := fun k hk => own_block h.own hk.symm
  have hb := h.bel
  exact ⟨by rw [List.length_append, byteCells_append]; exact hown, ⟨by rw [hg.os, hb.os], by rw [hg.tape, hb.tape], by rw [hg.output, hb.output], Nat.le_trans hb.size hg.size, fun k hk => (hg.block k (by have := hb.size; omega) (fun e => by have := hne k e.symm; omega)).trans (hb.block k hk)⟩⟩
theorem OAt.alloc {a w : World} {v : Value} {O : List UInt8} (h : OAt a w v O) (ob : Obj) : OAt a (w.alloc ob) v O :=
  ⟨own_same h.own fun k _ hk => Below.heap_alloc w ob k hk, h.bel.alloc h.bel.size ob⟩
/-- A byte is put in. -/
theorem wp_byte {a w : World} {v : Value} {O : List UInt8} (h : OAt a w v O) (hO : O.length ≤ 20000) {ops : Array Oper} {rest : List Oper} {op : Oper} {A : Act} {Q : Exit → Act → World → Prop} (hgd : op.guard = none) (sl x : Operand)
    (ho : op.op = .call { callee := .builtin .append, args := #[sl, x], argTypes := #[50, 50] }) (c : UInt8) (z : Int) (hcz : (c.toNat : Int) = z) (hs : A.eval sl = v) (hx : A.eval x = .slice (some ⟨w.heap.size, 0, none⟩) 1 1)
    (hK : ∀ v' w', OAt a w' v' (O ++ [c]) → wpList Tryz.prog ops Q rest (A.put op.dst v') w') : wpList Tryz.prog ops Q (op :: rest) A (w.alloc (.cells #[.int .u8 z] 5)) := by
  subst hcz
  obtain ⟨i0, hi0, hz0, hz1, hz2⟩ := info_parts infoByte
  have ha := h.alloc (.cells #[.int .u8 (c.toNat : Int)] 5)
  have hb : (w.alloc (.cells #[.int .u8 (c.toNat : Int)] 5)).heap[w.heap.size]? = some (.cells #[.int .u8 (c.toNat : Int)] 5 (0, 0)) := heap_alloc_new w _
  refine wpList_append_own _ hgd sl x 50 ho a.heap.size 5 i0 (.int .u8 0) 1 1 Tryz.underlying50 hi0 hz0 hz1 hz2 rfl (by decide) v O.length (byteCells O) hs ha.own ⟨w.heap.size, 0, none⟩ 1 1 (byteCells [c]) hx rfl (fun j u hj => ?_) (fun u hu => ?_) (by simp only [maxLen]; omega) (by omega) ha.bel.size ?_
  · have hj1 : j < 1 := by have := (List.getElem?_eq_some_iff.1 hj).1; simpa [byteCells] using this
    have hj0 : j = 0 := by omega
    subst hj0
    rw [show (⟨w.heap.size, 0, none⟩ : Addr).add 0 = ⟨w.heap.size, 0, none⟩ by simp [Addr.add], cell_of_row _ _ _ _ _ _ hb]
    simpa [byteCells] using hj
  · simp [byteCells] at hu
    subst hu
    rfl
  intro v' w' hown hgrow _
  exact hK v' w' (ha.grow [c] hown hgrow)

set_option maxRecDepth 100000 in
set_option maxHeartbeats 1000000 in
theorem rparts_any (n : Nat) (h : n < 18446744073709551616) (w : World) : Calls Tryz.prog 89 #[.int .u64 (n : Int)] w fun e w' => e = .returned (.string (textB (vp n))) ∧ Below w.heap.size w w' := by
  go_enter Tryz.func89, Tryz.ntmps89
  go_wp2
  go_loopw [0, 3] (fun mv ov wr => ∃ (pre : List UInt8) (f m : Nat), vp n = pre ++ vpf f m ∧ f + pre.length = 9 ∧ m < 2 * 128 ^ f ∧ m < 18446744073709551616 ∧ mv = .int .u64 m ∧ OAt w wr ov pre) (fun mv _ _ => (intOf mv).toNat)
  case atStart => exact ⟨[], 9, n, rfl, rfl, by omega, h, rfl, World.ownsRow_nil _ _ _ _, Below.refl _ _⟩
  case round =>
    obtain ⟨pre, f, m, he, hf, hm, hm2, rfl, ho⟩ := hrel
    have HO := Lib.hid ho
    clear ho
    by_cases c : m < 128
    · have e4 := u8_toNat m (by omega)
      have hv : vpf f m = [Go.Proofs.YtfbmlefhjoblbaaGreat.u8 m] := by
        cases f with
        | zero => rfl
        | succ f => exact if_pos c
      rw [hv] at he
      go_wp2_with (at_builtin; refine wp_byte HO.out (by omega) rfl _ _ rfl (Go.Proofs.YtfbmlefhjoblbaaGreat.u8 m) _ (by rw [e4]) rfl rfl ?_; intro v1 u1 h1; have hcv := own_text h1.own; have HS1 := Lib.hid h1; clear h1)
      go_ret
      exact ⟨by rw [he]; rfl, HS1.out.bel⟩
    · have f0 : f ≠ 0 := by
        intro e
        subst e
        simp at hm
        omega
      obtain ⟨f, rfl⟩ : ∃ j, f = j + 1 := ⟨f - 1, by omega⟩
      have e4 := u8_toNat (128 + m % 128) (by omega)
      go_wp2_with (at_builtin; refine wp_byte HO.out (by omega) rfl _ _ rfl (Go.Proofs.YtfbmlefhjoblbaaGreat.u8 (128 + m % 128)) _ (by rw [e4]; omega) rfl rfl ?_; intro v1 u1 h1; have HS1 := Lib.hid h1; clear h1)
      go_roundw
      case rel =>
        refine ⟨pre ++ [Go.Proofs.YtfbmlefhjoblbaaGreat.u8 (128 + m % 128)], f, m / 128, ?_, by simp; omega, ?_, by omega, by congr 1, HS1.out⟩
        · rw [he, vpf, if_neg c, List.append_assoc]; rfl
        · rw [Nat.pow_succ] at hm; omega
      case measure => simp [intOf]; omega
end Go.Proofs.YtfbmlefhjoblbaaGreat

namespace Go.Proofs.YtfbmlefhjoblbaaGreat
open Go.RowKit
set_option linter.unusedVariables false

end Go.Proofs.YtfbmlefhjoblbaaGreat

namespace Go.Proofs.YtfbmlefhjoblbaaGreat
open Go.RowKit
set_option linter.unusedVariables false

set_option maxRecDepth 100000 in
theorem rvarint_any (n : Nat) (h : n < 9223372036854775808) (w : World) : Calls Tryz.prog 53 #[.int .i64 (n : Int)] w fun e w' => e = .returned (.string (textB (vp n))) ∧ Below w.heap.size w w' := by
  have T := Lib.hid (rparts_any n (by omega))
  go_enter Tryz.func53, Tryz.ntmps53
  go_wp2_with (go_at_call 89; refine (T.out _).mono ?_; rintro e w' ⟨rfl, hb⟩; have HB := Lib.hid hb; clear hb)
  go_ret
  exact ⟨rfl, HB.out⟩

set_option maxRecDepth 100000 in
theorem rzig_any (x : Int) (h0 : -9223372036854775808 ≤ x) (h1 : x < 9223372036854775808) (w : World) : Calls Tryz.prog 117 #[.int .i64 x] w fun e w' => e = .returned (.string (textB (vp (zz x)))) ∧ Below w.heap.size w w' := by
  by_cases c : x < 0
  · obtain ⟨y, hy⟩ : ∃ y : Nat, x = -(y : Int) - 1 := ⟨(-x - 1).toNat, by omega⟩
    subst hy
    have ez : zz (-(y : Int) - 1) = y * 2 + 1 := by unfold zz; rw [if_pos c]; omega
    rw [ez]
    have T := Lib.hid (rparts_any (y * 2 + 1) (by omega))
    rw [show ((y * 2 + 1 : Nat) : Int) = (y : Int) * 2 + 1 by omega] at T
    generalize textB (vp (y * 2 + 1)) = t at *
    have e1 : -(y : Int) - 1 + 1 = -(y : Int) := by omega
    go_enter Tryz.func117, Tryz.ntmps117
    go_wp2_with (go_at_call 89; refine (T.out _).mono ?_; rintro e w' ⟨rfl, hb⟩; have HB := Lib.hid hb; clear hb)
    go_ret
    exact ⟨rfl, HB.out⟩
  · obtain ⟨y, hy⟩ : ∃ y : Nat, x = (y : Int) := ⟨x.toNat, by omega⟩
    subst hy
    have ez : zz (y : Int) = y * 2 := by unfold zz; rw [if_neg c]; omega
    rw [ez]
    have T := Lib.hid (rparts_any (y * 2) (by omega))
    rw [show ((y * 2 : Nat) : Int) = (y : Int) * 2 by omega] at T
    generalize textB (vp (y * 2)) = t at *
    go_enter Tryz.func117, Tryz.ntmps117
    go_wp2_with (go_at_call 89; refine (T.out _).mono ?_; rintro e w' ⟨rfl, hb⟩; have HB := Lib.hid hb; clear hb)
    go_ret
    exact ⟨rfl, HB.out⟩
end Go.Proofs.YtfbmlefhjoblbaaGreat
