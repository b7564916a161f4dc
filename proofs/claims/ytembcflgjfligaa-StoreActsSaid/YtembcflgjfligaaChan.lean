/- Owed failures lie in a channel with room for one number: what takeOrder and giveOrder of objstore do to it. -/
import Derived.Test.YtembcflgjfligaaRows
import Derived.Conc.LoneSelect
import Derived.WalkKit
import Derived.KernelRfl
import Derived.Laws.Rows
namespace Go.Proofs.Ytembcflgjfligaa
open Go.Conc Go.RowKit

set_option maxRecDepth 100000 in
theorem take_nil (b : Nat) (w : World) (hc : w.cell? ⟨b, 3, none⟩ = some (.chan none)) :
    Calls Try.prog 21 #[.pointer (some ⟨b, 0, none⟩)] w fun e w' => e = .returned (.int .i64 0) ∧ w = w' := by
  refine calls_of_loneTo fun cs => ?_
  have e : Frame.enter Try.prog 21 #[.pointer (some ⟨b, 0, none⟩)] .normal = (base 21).at ⟨#[.pointer (some ⟨b, 0, none⟩), undef, undef, undef, undef, undef, undef, undef, undef, undef, undef, undef, undef], []⟩ [.code (Try.f21.body.getD .skip)] := by
    simp [Frame.enter, Frame.at, Try.func21, base, Try.f21]
  rw [e]
  refine LoneTo.goes (n := 19) ?_
  simp only [Try.f21, Option.getD_some]
  s_c stepG_seq
  s_reg
  s_op
  s_c stepG_region_end
  s_c stepG_seq
  s_reg
  s_op
  s_op
  s_op
  s_op
  s_c stepG_region_end
  s_c stepG_seq
  s_reg
  s_stop
  refine LoneTo.step (step_lone_select_recv_nil (z := .int .i64 0) (stepG_comm (cases := #[rcaseNil (.int .i64 0)]) (blocking := false) (shape := .select) (w' := w) rfl rfl (by decide) (by simp [go_sem, execOp, rcaseNil, Act.eval]))) ?_
  rw [Frame.finish_at]
  walk_nrm
  refine LoneTo.goes (n := 12) ?_
  s_op
  s_op
  s_c stepG_region_end
  s_c stepG_block
  s_cond false
  s_c stepG_seq
  s_reg
  s_op
  s_c stepG_region_end
  s_c stepG_ret'
  s_stop
  refine LoneTo.done ⟨.returned (.int .i64 0), _, rfl, ⟨rfl, rfl⟩, rfl, rfl, rfl, rfl, _, Try.func21, by simp [results, Try.f21, Frame.at]⟩

set_option maxRecDepth 100000 in
theorem take_empty (b c : Nat) (s r : Nat) (w : World) (hc : w.cell? ⟨b, 3, none⟩ = some (.chan (some c))) (hq : w.heap[c]? = some (.chan 1 #[] false s r false)) :
    Calls Try.prog 21 #[.pointer (some ⟨b, 0, none⟩)] w fun e w' => e = .returned (.int .i64 0) ∧ w = w' := by
  refine calls_of_loneTo fun cs => ?_
  have e : Frame.enter Try.prog 21 #[.pointer (some ⟨b, 0, none⟩)] .normal = (base 21).at ⟨#[.pointer (some ⟨b, 0, none⟩), undef, undef, undef, undef, undef, undef, undef, undef, undef, undef, undef, undef], []⟩ [.code (Try.f21.body.getD .skip)] := by
    simp [Frame.enter, Frame.at, Try.func21, base, Try.f21]
  rw [e]
  refine LoneTo.goes (n := 19) ?_
  simp only [Try.f21, Option.getD_some]
  s_c stepG_seq
  s_reg
  s_op
  s_c stepG_region_end
  s_c stepG_seq
  s_reg
  s_op
  s_op
  s_op
  s_op
  s_c stepG_region_end
  s_c stepG_seq
  s_reg
  s_stop
  refine LoneTo.step (step_lone_select_default (c := c) (cap := 1) (s := s) (r := r) (tm := false) (z := .int .i64 0) (stepG_comm (cases := #[rcase c (.int .i64 0)]) (blocking := false) (shape := .select) (w' := w) rfl rfl (by decide) (by simp [go_sem, execOp, rcase, Act.eval])) hq) ?_
  rw [Frame.finish_at]
  walk_nrm
  refine LoneTo.goes (n := 12) ?_
  s_op
  s_op
  s_c stepG_region_end
  s_c stepG_block
  s_cond false
  s_c stepG_seq
  s_reg
  s_op
  s_c stepG_region_end
  s_c stepG_ret'
  s_stop
  refine LoneTo.done ⟨.returned (.int .i64 0), _, rfl, ⟨rfl, rfl⟩, rfl, rfl, rfl, rfl, _, Try.func21, by simp [results, Try.f21, Frame.at]⟩

set_option maxRecDepth 100000 in
theorem take_some (b c : Nat) (s r : Nat) (n : Int) (w : World) (hc : w.cell? ⟨b, 3, none⟩ = some (.chan (some c))) (hq : w.heap[c]? = some (.chan 1 #[.int .i64 n] false s r false)) :
    Calls Try.prog 21 #[.pointer (some ⟨b, 0, none⟩)] w fun e w' => e = .returned (.int .i64 n) ∧ w.setChan c 1 #[] false s (r + 1) false = w' := by
  refine calls_of_loneTo fun cs => ?_
  have e : Frame.enter Try.prog 21 #[.pointer (some ⟨b, 0, none⟩)] .normal = (base 21).at ⟨#[.pointer (some ⟨b, 0, none⟩), undef, undef, undef, undef, undef, undef, undef, undef, undef, undef, undef, undef], []⟩ [.code (Try.f21.body.getD .skip)] := by
    simp [Frame.enter, Frame.at, Try.func21, base, Try.f21]
  rw [e]
  refine LoneTo.goes (n := 19) ?_
  simp only [Try.f21, Option.getD_some]
  s_c stepG_seq
  s_reg
  s_op
  s_c stepG_region_end
  s_c stepG_seq
  s_reg
  s_op
  s_op
  s_op
  s_op
  s_c stepG_region_end
  s_c stepG_seq
  s_reg
  s_stop
  refine LoneTo.step (step_lone_select_recv_buf (c := c) (cap := 1) (s := s) (r := r) (tm := false) (closed := false) (buf := #[.int .i64 n]) (z := .int .i64 0) (stepG_comm (cases := #[rcase c (.int .i64 0)]) (blocking := false) (shape := .select) (w' := w) rfl rfl (by decide) (by simp [go_sem, execOp, rcase, Act.eval])) hq (by simp)) ?_
  rw [Frame.finish_at]
  walk_nrm
  refine LoneTo.goes (n := 16) ?_
  s_op
  s_op
  s_c stepG_region_end
  s_c stepG_block
  s_cond true
  s_c stepG_seq
  s_reg
  s_op
  s_op
  s_c stepG_region_end
  s_c stepG_seq
  s_reg
  s_op
  s_op
  s_c stepG_region_end
  s_c stepG_ret'
  s_stop
  refine LoneTo.done ⟨.returned (.int .i64 n), _, rfl, ⟨rfl, rfl⟩, rfl, rfl, rfl, rfl, _, Try.func21, by simp [results, Try.f21, Frame.at]⟩

theorem bytesInt : ∃ i, Try.prog.info? 3 = some i ∧ i.bytes = 8 := by
  have h : (Try.prog.info? 3).map (·.bytes) = some 8 := by kernel_rfl
  obtain ⟨i, hi, hb⟩ := Option.map_eq_some_iff.1 h
  exact ⟨i, hi, hb⟩
theorem mkChan (w : World) : (Instr.makeChan 45 (.int .i64 1)).run Try.prog w = .ok (.chan (some w.heap.size)) (w.alloc (.chan 1 #[] false 0 0 false)) := by
  obtain ⟨i, hi, hb⟩ := bytesInt
  simpa using run_makeChan (P := Try.prog) (w := w) Try.underlying45 hi .i64 1 (by omega) (by rw [hb]; omega)

set_option maxRecDepth 100000 in
theorem give_zero (b : Nat) (n : Int) (hn : n ≤ 0) (w : World) (v0 : Value) (hc : w.cell? ⟨b, 3, none⟩ = some v0) (hf : w.frozen? ⟨b, 3, none⟩ = false) :
    Calls Try.prog 22 #[.pointer (some ⟨b, 0, none⟩), .int .i64 n] w fun e w' => e = .returned (.tuple #[]) ∧ ((w.setCell ⟨b, 3, none⟩ (.chan (some w.heap.size))).alloc (.chan 1 #[] false 0 0 false)) = w' := by
  have hb : b < w.heap.size := World.block_lt_of_cell? w ⟨b, 3, none⟩ hc
  refine calls_of_loneTo fun cs => ?_
  have e : Frame.enter Try.prog 22 #[.pointer (some ⟨b, 0, none⟩), .int .i64 n] .normal = (base 22).at ⟨#[.pointer (some ⟨b, 0, none⟩), .int .i64 n, undef, undef, undef, undef, undef, undef, undef, undef, undef, undef, undef, undef, undef], []⟩ [.code (Try.f22.body.getD .skip)] := by
    simp [Frame.enter, Frame.at, Try.func22, base, Try.f22]
  rw [e]
  have hmc := mkChan
  have hg : decide (0 < n) = false := by simpa using hn
  have hc' : (w.alloc (.chan 1 #[] false 0 0 false)).cell? ⟨b, 3, none⟩ = some v0 := by simpa [World.cell?, Below.heap_alloc _ _ _ hb] using hc
  have hs : ((w.setCell ⟨b, 3, none⟩ (.chan (some w.heap.size))).alloc (.chan 1 #[] false 0 0 false)).cell? ⟨b, 3, none⟩ = some (.chan (some w.heap.size)) := by
    rw [World.cell?_of_block (w := w.setCell ⟨b, 3, none⟩ (.chan (some w.heap.size))) (Below.heap_alloc _ _ _ (by simpa [World.setCell] using hb))]
    exact World.cell?_setCell_same _ _ _ hc
  refine LoneTo.goes (n := 24) ?_
  simp only [Try.f22, Option.getD_some]
  s_c stepG_seq
  s_reg
  s_op
  s_op
  s_op
  s_op
  s_op
  s_c stepG_region_end
  s_c stepG_seq
  s_reg
  s_op
  s_op
  s_c stepG_region_end
  s_cond false
  s_c stepG_skip
  s_c stepG_end
  s_stop
  refine LoneTo.done ⟨.returned (.tuple #[]), _, rfl, ⟨rfl, rfl⟩, rfl, rfl, rfl, rfl, _, Try.func22, by simp [results, Try.f22, Frame.at]⟩

set_option maxRecDepth 100000 in
theorem give_some (b : Nat) (n : Int) (hn : 0 < n) (w : World) (v0 : Value) (hc : w.cell? ⟨b, 3, none⟩ = some v0) (hf : w.frozen? ⟨b, 3, none⟩ = false) :
    Calls Try.prog 22 #[.pointer (some ⟨b, 0, none⟩), .int .i64 n] w fun e w' => e = .returned (.tuple #[]) ∧ ((w.setCell ⟨b, 3, none⟩ (.chan (some w.heap.size))).alloc (.chan 1 #[] false 0 0 false)).setChan w.heap.size 1 #[.int .i64 n] false 1 0 false = w' := by
  have hb : b < w.heap.size := World.block_lt_of_cell? w ⟨b, 3, none⟩ hc
  refine calls_of_loneTo fun cs => ?_
  have e : Frame.enter Try.prog 22 #[.pointer (some ⟨b, 0, none⟩), .int .i64 n] .normal = (base 22).at ⟨#[.pointer (some ⟨b, 0, none⟩), .int .i64 n, undef, undef, undef, undef, undef, undef, undef, undef, undef, undef, undef, undef, undef], []⟩ [.code (Try.f22.body.getD .skip)] := by
    simp [Frame.enter, Frame.at, Try.func22, base, Try.f22]
  rw [e]
  have hmc := mkChan
  have hg : decide (0 < n) = true := by simpa using hn
  have hc' : (w.alloc (.chan 1 #[] false 0 0 false)).cell? ⟨b, 3, none⟩ = some v0 := by simpa [World.cell?, Below.heap_alloc _ _ _ hb] using hc
  have hs : ((w.setCell ⟨b, 3, none⟩ (.chan (some w.heap.size))).alloc (.chan 1 #[] false 0 0 false)).cell? ⟨b, 3, none⟩ = some (.chan (some w.heap.size)) := by
    rw [World.cell?_of_block (w := w.setCell ⟨b, 3, none⟩ (.chan (some w.heap.size))) (Below.heap_alloc _ _ _ (by simpa [World.setCell] using hb))]
    exact World.cell?_setCell_same _ _ _ hc
  refine LoneTo.goes (n := 24) ?_
  simp only [Try.f22, Option.getD_some]
  s_c stepG_seq
  s_reg
  s_op
  s_op
  s_op
  s_op
  s_op
  s_c stepG_region_end
  s_c stepG_seq
  s_reg
  s_op
  s_op
  s_c stepG_region_end
  s_cond true
  s_reg
  s_op
  s_op
  s_op
  s_op
  s_op
  s_stop
  refine LoneTo.step (step_lone_send_room (c := w.heap.size) (cap := 1) (buf := #[]) (s := 0) (r := 0) (tm := false) (stepG_comm (cases := #[scase w.heap.size (.int .i64 n) (.tuple #[])]) (blocking := true) (shape := .send) (w' := (w.setCell ⟨b, 3, none⟩ (.chan (some w.heap.size))).alloc (.chan 1 #[] false 0 0 false)) rfl rfl (by decide) (by simp [execOp, scase, Act.eval])) (by have := heap_alloc_new (w.setCell ⟨b, 3, none⟩ (.chan (some w.heap.size))) (.chan 1 #[] false 0 0 false); simpa using this) (by simp)) ?_
  rw [Frame.finish_at]
  walk_nrm
  refine LoneTo.goes (n := 8) ?_
  s_c stepG_region_end
  s_c stepG_end
  s_stop
  refine LoneTo.done ⟨.returned (.tuple #[]), _, rfl, ⟨rfl, rfl⟩, rfl, rfl, rfl, rfl, _, Try.func22, by simp [results, Try.f22, Frame.at]⟩
end Go.Proofs.Ytembcflgjfligaa
