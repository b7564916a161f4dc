/- A strings.Builder of the call's own: a byte is written. -/
import Derived.Test.YtfbmlefhjoblbaaGreatIntL
import Derived.Test.YtfbmlefhjoblbaaGreatShelf
namespace Go.Proofs.YtfbmlefhjoblbaaGreat
open Go.Conc Go.RowKit
set_option linter.unusedVariables false

theorem infoSb : (Tryz.prog.info? 123).map (fun i => i.size) = some 2 := by kernel_rfl
theorem liesSb : liesAt Tryz.prog Tryz.prog.depth 123 (2 / Tryz.prog.cellsOf 123) 0 123 1 = true := by kernel_rfl
theorem sizeSb : ∃ j, Tryz.prog.info? 123 = some j ∧ j.size = 2 := by
  have h := infoSb
  cases hi : Tryz.prog.info? 123 with
  | none => rw [hi] at h; simp at h
  | some j => rw [hi] at h; simp at h; exact ⟨j, rfl, h⟩

/-- What a write leaves as it was. -/
def SbKept (b : Nat) (w w' : World) : Prop := Lib.OthersKept 5 (some b) w w'

set_option maxRecDepth 100000 in
set_option maxHeartbeats 1000000 in
theorem sbcheck_used (b : Nat) (w : World) (h0 : w.cell? ⟨b, 0, none⟩ = some (.pointer (some ⟨b, 0, none⟩))) :
    Calls Tryz.prog 112 #[.pointer (some ⟨b, 0, none⟩)] w fun e w' => e = .returned (.tuple #[]) ∧ w = w' := by
  obtain ⟨j, hj, _⟩ := sizeSb
  go_enter Tryz.func112, Tryz.ntmps112
  go_wp2
  rw [Lib.run_neq_ptr_same w _ Tryz.underlying121 hj]
  go_wp2
  go_end0
  exact ⟨rfl, rfl⟩

set_option maxRecDepth 100000 in
set_option maxHeartbeats 1000000 in
theorem sbcheck_fresh (b : Nat) (w : World) (h0 : w.cell? ⟨b, 0, none⟩ = some (.pointer none)) (hsh : w.shape? b = some (123, 2)) (hfz : w.frozen? ⟨b, 0, none⟩ = false) :
    Calls Tryz.prog 112 #[.pointer (some ⟨b, 0, none⟩)] w fun e w' => e = .returned (.tuple #[]) ∧ w.setCell ⟨b, 0, none⟩ (.pointer (some ⟨b, 0, none⟩)) = w' := by
  obtain ⟨j, hj, hjs⟩ := sizeSb
  go_enter Tryz.func112, Tryz.ntmps112
  go_wp2
  rw [Lib.run_to_unsafe w ⟨b, 0, none⟩ Tryz.underlying121 Tryz.underlying178 hj (by rw [hjs]; decide) hsh (Nat.zero_lt_succ 1)]
  simp only [Result.andThen]
  rw [Oper.upon_value]
  go_wp2
  rw [run_callFunc_extern Tryz.func141 (by kernel_rfl) (by kernel_rfl) (by kernel_rfl) (e := Extern.AbiNoEscape.same) (by kernel_rfl)]
  rw [Lib.run_noEscape]
  simp only [Result.andThen]
  rw [Oper.upon_value]
  go_wp2
  rw [Lib.run_from_unsafe w ⟨b, 0, none⟩ Tryz.underlying178 Tryz.underlying121 hj hsh liesSb]
  simp only [Result.andThen]
  rw [Oper.upon_value]
  go_wp2
  go_end0
  exact ⟨rfl, rfl⟩

/-- A builder of one's own, from base B on, in block b: what it holds. -/
def SbAt (B b : Nat) (l : List UInt8) (w : World) : Prop := Lib.IsBuilder 123 5 B b (byteCells l) w
theorem sb_cells (l : List UInt8) : Lib.byteCells l = byteCells l := by simp [Lib.byteCells, byteCells]

theorem sbcheck_any (B b : Nat) (l : List UInt8) (w : World) (h : SbAt B b l w) :
    Calls Tryz.prog 112 #[.pointer (some ⟨b, 0, none⟩)] w fun e w' => e = .returned (.tuple #[]) ∧ Lib.BuilderAt 123 5 B b (.pointer (some ⟨b, 0, none⟩)) (byteCells l) w' ∧ Below B w w' ∧ SbKept b w w' := by
  rcases h with h | h
  · refine (sbcheck_fresh b w h.cell0 h.shape h.frozen0).mono ?_
    rintro e w' ⟨rfl, rfl⟩
    exact ⟨rfl, h.used _, (Below.refl B w).setCell (p := ⟨b, 0, none⟩) h.1 _, (Lib.OthersKept.refl _ _ w).setCell ⟨b, 0, none⟩ rfl _⟩
  · refine (sbcheck_used b w h.cell0).mono ?_
    rintro e w' ⟨rfl, rfl⟩
    exact ⟨rfl, h, Below.refl B _, Lib.OthersKept.refl _ _ _⟩
theorem own_kind {w : World} {B : Nat} {e : TypeId} {v : Value} {n : Nat} {xs : List Value} (h : w.ownsRow B e 1 v n xs) : ∀ g, v.ownBlock = some g → ∃ c fz, w.heap[g]? = some (.cells c e fz) := by
  intro g hg
  rcases h.2 with ⟨rfl, _⟩ | ⟨g', cap, cur, rfl, _, hgg, _⟩
  · simp [Value.ownBlock] at hg
  · simp [Value.ownBlock] at hg
    subst hg
    exact ⟨cur, _, hgg⟩

set_option maxRecDepth 100000 in
set_option maxHeartbeats 1000000 in
theorem sbbyte_any (B b : Nat) (l : List UInt8) (c : Nat) (hc : c < 256) (w : World) (h : SbAt B b l w) (hl : l.length + 1 ≤ 140737488355328) (hB : B ≤ w.heap.size) :
    Calls Tryz.prog 77 #[.pointer (some ⟨b, 0, none⟩), .int .u8 (c : Int)] w fun e w' => e = .returned .nilIface ∧ SbAt B b (l ++ [u8 c]) w' ∧ Below B w w' ∧ SbKept b w w' := by
  obtain ⟨i0, hi, hz0, hz1, hz2⟩ := info_parts infoByte
  have hcl := byteCells_length l
  have HZ := Lib.hid hz0
  have HC := Lib.hid (sbcheck_any B b l w h)
  have hcc : Hid (byteCells [u8 c] = [.int .u8 (c : Int)]) := by
    show [Value.int .u8 ((u8 c).toNat : Int)] = _
    rw [u8_toNat c hc]
  clear hz0 h
  go_enter Tryz.func77, Tryz.ntmps77
  go_wp2_with (go_at_call 112; refine HC.out.mono ?_)
  rintro e w1 ⟨rfl, h1, hb1, hk1⟩
  obtain ⟨hB1, v, hbk, hown, hne⟩ := h1
  rw [hcl] at hown
  have c1 : w1.cell? ⟨b, 1, none⟩ = some v := by rw [Lib.cell_of_heap hbk]; rfl
  have HOWN := Lib.hid (own_same hown (w' := w1.alloc (.cells #[.int .u8 (c : Int)] 5)) fun g _ hg => Below.heap_alloc w1 _ g hg)
  have HBK := Lib.hid hbk
  have HB1 := Lib.hid hb1
  have HK1 := Lib.hid hk1
  have HO := Lib.hid hown
  have hlt : b < w1.heap.size := (Array.getElem?_eq_some_iff.1 hbk).1
  have hblk : (w1.alloc (.cells #[.int .u8 (c : Int)] 5)).heap[w1.heap.size]? = some (.cells #[.int .u8 (c : Int)] 5 (0, 0)) := heap_alloc_new w1 _
  have HN : Hid (∀ (j : Nat) (u : Value), (byteCells [u8 c])[j]? = some u → (w1.alloc (.cells #[.int .u8 (c : Int)] 5)).cell? ((⟨w1.heap.size, 0, none⟩ : Addr).add j) = some u) := by
    intro j u hj
    rw [hcc.out] at hj
    match j, hj with
    | 0, hj => rw [show (⟨w1.heap.size, 0, none⟩ : Addr).add 0 = ⟨w1.heap.size, 0, none⟩ by simp [Addr.add], cell_of_row _ _ _ _ _ _ hblk]; exact hj
  clear hb1 hk1 hown hbk hblk
  go_wp2_with (at_builtin; refine wpList_append_own _ rfl _ _ 50 rfl B 5 i0 (.int .u8 0) 1 1 Tryz.underlying50 hi HZ.out hz1 hz2 rfl (by decide) v l.length (byteCells l) rfl HOWN.out ⟨w1.heap.size, 0, none⟩ 1 1 (byteCells [u8 c]) rfl rfl HN.out ?c2 ?c3 ?c4 ?c5 ?_)
  case c2 => intro u hu; rw [hcc.out] at hu; simp at hu; subst hu; rfl
  case c3 => unfold maxLen; omega
  case c4 => omega
  case c5 => have := HB1.out.size; simp; omega
  intro v' w2 hown' hgrow _
  have hb2 : w2.heap[b]? = some (.cells #[.pointer (some ⟨b, 0, none⟩), v] 123 (0, 0)) := by
    rw [hgrow.block b (by simp; omega) (fun e => hne e.symm), Below.heap_alloc w1 _ b hlt]
    exact HBK.out
  have d0 : w2.cell? ⟨b, 0, none⟩ = some (.pointer (some ⟨b, 0, none⟩)) := by rw [Lib.cell_of_heap hb2]; rfl
  have d1 : w2.cell? ⟨b, 1, none⟩ = some v := by rw [Lib.cell_of_heap hb2]; rfl
  have f1 : w2.frozen? ⟨b, 1, none⟩ = false := Lib.frozen_of_heap hb2 1
  obtain ⟨g, cap, rfl⟩ := own_form hown'
  have HB2 := Lib.hid hb2
  have HG := Lib.hid hgrow
  have HO2 := Lib.hid hown'
  clear hb2 hgrow hown'
  go_wp2
  go_ret
  refine ⟨rfl, .inr ?_, ?_, ((HK1.out.alloc _).grown HG.out (own_kind HOWN.out)).setCell ⟨b, 1, none⟩ rfl _⟩
  · refine Lib.BuilderAt.put hB1 HB2.out ?_ (by decide)
    rw [byteCells_length, List.length_append, byteCells_append]
    exact HO2.out
  · exact ((HB1.out.alloc (by have := HB1.out.size; omega) _).grown HG.out (by have := HB1.out.size; simp; omega) (fun k hk => own_block HOWN.out hk.symm)).setCell (p := ⟨b, 1, none⟩) hB1 _

theorem sbgrow_any (B b n : Nat) (w : World) (hB : B ≤ b) (hbk : w.heap[b]? = some (.cells #[.pointer none, .slice none 0 0] 123 (0, 0))) (hBw : B ≤ w.heap.size) (hn : n ≤ 281474976710656) :
    Calls Tryz.prog 145 #[.pointer (some ⟨b, 0, none⟩), .int .i64 n] w fun e w' => e = .returned (.tuple #[]) ∧ SbAt B b [] w' ∧ Below B w w' :=
  (Tryz.Builder_Grow_fresh B b n w hB hbk hBw hn).mono fun e w' h => ⟨h.1, .inr h.2.1, h.2.2⟩
theorem sbstring_any (B b : Nat) (l : List UInt8) (w : World) (h : SbAt B b l w) (hB : B ≤ w.heap.size) :
    Calls Tryz.prog 81 #[.pointer (some ⟨b, 0, none⟩)] w fun e w' => e = .returned (.string ⟨l.toArray⟩) ∧ Below B w w' ∧ SbKept b w w' := by
  refine (Tryz.Builder_String_any_k B b l w ?_ hB).mono fun e w' h => ⟨h.1, h.2.2.1, h.2.2.2⟩
  rw [sb_cells]
  exact Lib.IsBuilderF.of h
end Go.Proofs.YtfbmlefhjoblbaaGreat
