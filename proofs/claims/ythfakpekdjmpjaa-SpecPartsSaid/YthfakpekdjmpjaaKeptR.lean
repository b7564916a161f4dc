/- Rows that were lent are as they were, with their room. -/
import Derived.Test.YthfakpekdjmpjaaRowL
namespace Go.Proofs.Ythfakpekdjmpjaa
open Go.Conc Go.RowKit
set_option linter.unusedVariables false
set_option linter.unusedSimpArgs false

set_option maxRecDepth 100000 in
set_option maxHeartbeats 1000000 in
theorem keptrows_any (w : World) (g c : Nat) (b : Option Addr) (cb B : Nat) (cs : List Value) (rs : List (List V)) (ho : OwnR B w (some ⟨g, 0, none⟩) rs.length c cs) (hl : LentR B w cs rs) (hb : IsR w b rs) (hx : rs.length ≤ maxLen) (hs : ∀ r ∈ rs, (r.length + 2) * 40 ≤ 140737488355328) :
    Calls Try.prog 45 #[.slice (some ⟨g, 0, none⟩) rs.length c, .slice b rs.length cb] w fun e w' => e = .returned (.bool true) ∧ Below w.heap.size w w' := by
  unfold maxLen at hx
  have HO := Lib.hid ho
  have HL := Lib.hid hl
  have HS := Lib.hid hs
  have HW := Lib.hid hb
  clear ho hl hs hb
  go_enter Try.func45, Try.ntmps45
  go_wp2
  go_loopw [5] (fun iv wr => ∃ n : Nat, n ≤ rs.length ∧ iv = .int .i64 n ∧ Hid (Below w.heap.size w wr)) (fun iv _ => rs.length - (intOf iv).toNat)
  case atStart => exact ⟨0, Nat.zero_le _, rfl, Below.refl _ _⟩
  case round =>
    obtain ⟨n, hle, rfl, HB⟩ := hrel
    by_cases cn : n < rs.length
    · have hb' := HW.out.below HB.out
      rcases hb' with hb' | ⟨bb, ob, rfl, hb'⟩
      · rw [hb'] at cn; simp at cn
      obtain ⟨u2, p2, ay, ky, rfl, vy, _⟩ := hb' n cn
      obtain ⟨gi, ci, k1, k2⟩ := HL.out.2 n cn
      have p1 := OwnR.read HO.out n _ k1
      have P1 := Lib.hid p1
      have P2 := Lib.hid p2
      have hlx := HS.out _ (List.getElem_mem cn)
      have hk2 := k2.below HB.out
      have T := Lib.hid (fun (u : World) (hu : Below wr.heap.size wr u) => keptvals_any u gi ci ay ky B rs[n] (hk2.below hu) (vy.below hu) hlx)
      clear hb' vy k1 k2 p1 p2 hlx hk2
      have hni : (n : Int) < (rs.length : Int) := by omega
      generalize rs[n] = r at *
      have hpl1 : ∀ u, Below wr.heap.size wr u → u.cell? ⟨g, n, none⟩ = some (.slice (some ⟨gi, 0, none⟩) r.length ci) := fun u hu => (World.cell?_of_block ((HB.out.trans (hu.mono HB.out.size)).block g (World.block_lt_of_cell? w ⟨g, n, none⟩ P1.out))).trans P1.out
      have hpl2 : ∀ u, Below wr.heap.size wr u → u.cell? ⟨bb, ob + n, none⟩ = some (.slice ay r.length ky) := fun u hu => (World.cell?_of_block (hu.block bb (World.block_lt_of_cell? wr ⟨bb, ob + n, none⟩ P2.out))).trans P2.out
      have HP1 := Lib.hid hpl1
      have HP2 := Lib.hid hpl2
      clear hpl1 hpl2 P1 P2
      go_upto_region 6 with fail
      refine region_class (fun w' => Below wr.heap.size wr w') (by kernel_rfl) (by kernel_rfl) (Below.refl _ _).drew ?_
      repeat (
        refine wpQuiet_step (fun K9 hK => ?_)
        go_simp
        first
        | (refine hK _ ?_; clear hK K9)
        | (apply Exists.intro
           refine ⟨fun w1 hw1 => ?_, hK _ ?_⟩
           (first
             | (exact rfl)
             | (go_at_call 84; exact (T.out _ hw1).mono fun e w2 ⟨he, hb⟩ => ⟨he, hw1.trans (hb.mono hw1.size)⟩)
             | (have p1 := HP1.out _ hw1; have p2 := HP2.out _ hw1; simp only [p1, p2, Result.andThen]; exact ⟨trivial, rfl⟩)
             | (exact ⟨trivial, rfl⟩))
           clear hK K9))
      refine wpQuiet_nil ?_
      intro w9 hw9
      have HB9 := Lib.hid (HB.out.trans (hw9.mono HB.out.size))
      clear hw9 T HP1 HP2
      go_wp2
      go_roundw
      case rel => exact ⟨n + 1, by omega, by go_num, HB9⟩
      case measure => simp [intOf]; omega
    · obtain rfl : n = rs.length := by omega
      clear cn
      go_wp2
      go_ret
      exact ⟨rfl, HB.out⟩
end Go.Proofs.Ythfakpekdjmpjaa
