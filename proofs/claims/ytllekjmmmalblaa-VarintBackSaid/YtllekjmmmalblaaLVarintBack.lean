/- Numbers come back, wherever they stand; a longer form is none: the walk of the law. -/
import Derived.Test.YtllekjmmmalblaaVAwake
import Derived.Deep.Cut
namespace Go.Proofs.Ytllekjmmmalblaa
open Go.RowKit
set_option linter.unusedVariables false

/-- A text's bytes in new memory: the world behind, and how many cells there are. -/
def capB (t : ByteArray) (w : World) : Nat := grownCap w t.size 0 5
def bytesW (t : ByteArray) (w : World) : World := w.drew.alloc (.cells (bytesRow t (capB t w)) 5 ((bytesRow t (capB t w)).size, (bytesRow t (capB t w)).size + 1))
theorem bytesW_run (t : ByteArray) (w : World) : (convert 9 33 (.string t)).run Try.prog w = .ok (.slice (some ⟨w.heap.size, 0, none⟩) t.size (capB t w)) (bytesW t w) :=
  run_bytes_of_string w 9 33 5 t Try.underlying9 Try.underlying33 Try.underlying5
theorem bytesW_below (t : ByteArray) (w : World) : Below w.heap.size w (bytesW t w) := ((Below.refl _ _).drew).alloc (Nat.le_refl _) _
theorem bytesW_block (t : ByteArray) (w : World) : (bytesW t w).heap[w.heap.size]? = some (.cells (bytesRow t (capB t w)) 5 ((bytesRow t (capB t w)).size, (bytesRow t (capB t w)).size + 1)) := heap_alloc_new w.drew _
/-- The row with a byte turned, read as a text. -/
theorem turned_text (t : ByteArray) (w : World) (k : Nat) (z : UInt8) (hk : k < t.data.size) :
    (convert 33 9 (.slice (some ⟨w.heap.size, 0, none⟩) t.size (capB t w))).run Try.prog ((bytesW t w).setCell ⟨w.heap.size, k, none⟩ (.int .u8 (z.toNat : Int))) = .ok (.string (textB (t.data.toList.set k z))) ((bytesW t w).setCell ⟨w.heap.size, k, none⟩ (.int .u8 (z.toNat : Int))) := by
  have hrow := bytesW_block t w
  have hbl := setRow_heap (bytesW t w) w.heap.size _ ((bytesRow t (capB t w)).setIfInBounds k (.int .u8 (z.toNat : Int))) _ _ hrow
  rw [← setCell_eq_setRow _ _ _ _ _ _ _ hrow] at hbl
  have hl : (t.data.toList.set k z).length = t.size := by rw [List.length_set, ← size_list]
  rw [← hl]
  refine run_convert_bytes_back _ 33 9 5 ⟨w.heap.size, 0, none⟩ _ _ Try.underlying33 Try.underlying5 Try.underlying9 (fun j hj => ?_)
  have e : (⟨w.heap.size, 0, none⟩ : Addr).add j = ⟨w.heap.size, j, none⟩ := by
    unfold Addr.add
    by_cases h0 : j = 0
    · simp [h0]
    · simp [h0]
  have hj2 : j < t.data.size := by simpa using hj
  rw [e, cell_of_row _ _ _ _ _ _ hbl, Array.getElem?_setIfInBounds]
  by_cases c : k = j
  · subst c
    rw [if_pos rfl, if_pos (by unfold bytesRow; rw [Array.size_append, Array.size_map]; omega)]
    simp
  · rw [if_neg c, bytesRow_at t _ j hj2]
    simp [List.getElem_set_ne c]
theorem or_hi (a : UInt8) : ∃ z : UInt8, bits .or .u8 (a.toNat : Int) 128 = (z.toNat : Int) ∧ 128 ≤ z.toNat := by
  refine ⟨a ||| 128, ?_, ?_⟩
  · have := u8_or_nat a.toNat 128 a.toNat_lt (by omega)
    rw [UInt8.toNat_or]
    exact this
  · rw [UInt8.toNat_or]
    exact Nat.right_le_or
theorem back_get (pre : ByteArray) (n : Nat) (h : n < 9223372036854775808) (r : List UInt8) : getA (readN (pre.data.toList ++ vp n ++ r) pre.size) = ((n : Int), (pre.size : Int) + (vp n).length, 0) := by
  have e := readN_vp pre.data.toList r n (by omega)
  rw [← size_list] at e
  rw [e]
  unfold getA
  rw [if_pos rfl, if_neg (by show ¬ 9223372036854775807 < n; omega)]
theorem back_zag (pre : ByteArray) (x : Int) (h0 : -9223372036854775808 ≤ x) (h1 : x < 9223372036854775808) (r : List UInt8) : zagA (readN (pre.data.toList ++ vp (zz x) ++ r) pre.size) = (x, (pre.size : Int) + (vp (zz x)).length, 0) := by
  have e := readN_vp pre.data.toList r (zz x) (zz_lt h0 (by omega))
  rw [← size_list] at e
  rw [e]
  unfold zagA
  rw [if_pos rfl, unzz_zz]
theorem app_list (a b : ByteArray) : (a ++ b).data.toList = a.data.toList ++ b.data.toList := by rw [ByteArray.data_append, Array.toList_append]

theorem not_nil (s : ByteArray) (h : 0 < s.size) : ¬ s.toList = [] := by
  rw [ByteArray.toList_eq]
  intro e
  have := size_list s
  rw [e] at this
  have this : s.size = 0 := this
  omega
theorem not_empty (s : ByteArray) (h : 0 < s.size) : s.toList.isEmpty = false := by
  rw [List.isEmpty_eq_false_iff]
  exact not_nil s h

set_option maxHeartbeats 1000000 in
set_option maxRecDepth 100000 in
theorem varintback_walk (x : Int) (pre : ByteArray) (h0 : -9223372036854775808 ≤ x) (h1 : x < 9223372036854775808) (hs : pre.size ≤ 140737488351232) (w : World) :
    Calls Try.prog 4 #[.int .i64 x, .string pre] w fun e w' => e = .returned (.bool true) ∧ Below w.heap.size w w' := by
  have hx : ∃ n : Nat, n < 9223372036854775808 ∧ ((x < 0 ∧ -(x + 1) = (n : Int)) ∨ x = (n : Int)) := by
    by_cases c : x < 0
    · exact ⟨(-(x + 1)).toNat, by omega, .inl ⟨c, by omega⟩⟩
    · exact ⟨x.toNat, by omega, .inr (by omega)⟩
  obtain ⟨n, hn, hx⟩ := hx
  have TP := Lib.hid (vput_yes n hn)
  have TZ := Lib.hid (vzig_any x h0 h1)
  have zs := vp_le n
  have zz1 := vp_le (zz x)
  have zp := vp_pos n
  have zp1 := vp_pos (zz x)
  have TG := Lib.hid (vget_any (pre ++ textB (vp n) ++ ⟨#[120]⟩) (by rw [ByteArray.size_append, ByteArray.size_append, textB_size]; show _ + 1 ≤ _; omega) pre.size)
  rw [app_list, app_list, textB_list, back_get pre n hn] at TG
  have TA := Lib.hid (vzag_any (pre ++ textB (vp (zz x)) ++ ⟨#[120]⟩) (by rw [ByteArray.size_append, ByteArray.size_append, textB_size]; show _ + 1 ≤ _; omega) pre.size)
  rw [app_list, app_list, textB_list, back_zag pre x h0 h1] at TA
  have hrun := vp_run n (by omega)
  obtain ⟨k, hk⟩ : ∃ k, (textB (vp n)).size = k + 1 := ⟨(vp n).length - 1, by rw [textB_size]; omega⟩
  have hk2 : k < (textB (vp n)).data.size := by show k < (textB (vp n)).size; omega
  obtain ⟨z, ez, hz⟩ := or_hi (textB (vp n)).data[k]
  have TL := Lib.hid (vget_any (textB ((vp n).set k z) ++ ⟨#[0]⟩) (by rw [ByteArray.size_append, textB_size, List.length_set]; show _ + 1 ≤ _; omega) 0)
  have hkl : k = (vp n).length - 1 := by rw [textB_size] at hk; omega
  have hkl2 : k < (vp n).length := by omega
  rw [app_list, textB_list, show ((⟨#[0]⟩ : ByteArray).data.toList) = [0] from rfl, show (0 : Int) = ((0 : Nat) : Int) from rfl] at TL
  have eL : readN ((vp n).set k z ++ [0]) 0 = (0, 0, 501) := by rw [hkl]; exact readN_long hrun z hz
  replace TL : Hid (∀ w : World, Calls Try.prog 9 #[.string (textB ((vp n).set k z) ++ ⟨#[0]⟩), .int .i64 0] w fun e w' => e = .returned (.tuple #[.int .i64 0, .int .i64 0, .int .i64 501]) ∧ w = w') := by
    have := TL.out
    rw [show ((0 : Nat) : Int) = 0 from rfl, eL] at this
    exact Lib.hid this
  have TC : Hid (∀ w : World, Calls Try.prog 9 #[.string ((textB (vp n)).extract 0 k), .int .i64 0] w fun e w' => e = .returned (.tuple #[.int .i64 0, .int .i64 0, .int .i64 500]) ∧ w = w') := by
    have := vget_any ((textB (vp n)).extract 0 k) (by rw [ByteArray.size_extract]; omega) 0
    rw [extract_list, textB_list, List.drop_zero, Nat.sub_zero, hkl, readN_short hrun] at this
    rw [hkl]
    exact Lib.hid this
  have hcv := bytesW_run (textB (vp n))
  have hcv2 := fun W => turned_text (textB (vp n)) W k z hk2
  rw [textB_list] at hcv2
  have hce : ∀ W : World, (bytesW (textB (vp n)) W).cell? ⟨W.heap.size, k, none⟩ = some (.int .u8 ((textB (vp n)).data[k].toNat : Int)) := fun W => (cell_of_row _ _ _ _ _ _ (bytesW_block (textB (vp n)) W)).trans (bytesRow_at (textB (vp n)) _ k hk2)
  have hfz : ∀ W : World, (bytesW (textB (vp n)) W).frozen? ⟨W.heap.size, k, none⟩ = false := fun W => by
    simp only [World.frozen?, bytesW_block (textB (vp n)) W]
    have : k < (bytesRow (textB (vp n)) (capB (textB (vp n)) W)).size := by unfold bytesRow; rw [Array.size_append, Array.size_map]; omega
    rw [decide_eq_false (by omega)]
    rfl
  have HWB := Lib.hid (bytesW_below (textB (vp n)))
  have c1 : ((vp n).length : Int) = (k : Int) + 1 := by rw [textB_size] at hk; omega
  have c2 : ((vp (zz x)).length : Int) = ((textB (vp (zz x))).size : Int) := by rw [textB_size]
  have c3 : 0 < (textB (vp (zz x))).size := by rw [textB_size]; exact zp1
  have hk10 : k ≤ 9 := by rw [textB_size] at hk; omega
  have hq10 : (textB ((vp n).set k z)).size ≤ 10 := by rw [textB_size, List.length_set]; exact zs
  have hy10 : (textB (vp (zz x))).size ≤ 10 := by rw [textB_size]; exact zz1
  rw [c1] at TG
  rw [c2] at TA
  rw [hk] at hcv hcv2
  generalize (textB (vp n)).data[k].toNat = tk at *
  clear c1 c2 hrun zs zz1 zp zp1 hkl hkl2 eL
  generalize textB ((vp n).set k z) = q at *
  generalize textB (vp n) = s at *
  generalize textB (vp (zz x)) = y at *
  have ne1 := not_nil s (by omega)
  have ne2 := not_nil y (by omega)
  have ne3 := not_empty s (by omega)
  have ne4 := not_empty y (by omega)
  have HB : Hid (Below w.heap.size w w) := Below.refl _ _
  rcases hx with ⟨c, e1⟩ | e1
  · go_enter Try.func4, Try.ntmps4
    go_upto_region 12 with (first
      | (go_at_call 16; refine (vawake_any _).mono ?_; rintro e w1 ⟨rfl, hb⟩; replace HB := Lib.hid (HB.out.trans (hb.mono HB.out.size)); clear hb)
      | (go_at_call 7; refine (TP.out _).mono ?_; rintro e w2 ⟨rfl, hb⟩; replace HB := Lib.hid (HB.out.trans (hb.mono HB.out.size)); clear hb)
      | (go_at_call 14; refine (TZ.out _).mono ?_; rintro e w3 ⟨rfl, hb⟩; replace HB := Lib.hid (HB.out.trans (hb.mono HB.out.size)); clear hb)
      | (go_at_call 9; refine (TG.out _).mono ?_; rintro e w' ⟨rfl, rfl⟩)
      | (go_at_call 11; refine (TA.out _).mono ?_; rintro e w' ⟨rfl, rfl⟩)
      | (go_at_call 13; refine (num_any _ _).mono ?_; rintro e w' ⟨rfl, rfl⟩))
    clear TP TZ TG TA
    go_upto_region 14 with (fail)
    have hq := hcv2 w3
    have HW := Lib.hid (HB.out.trans (((bytesW_below s w3).setCell (p := ⟨w3.heap.size, k, none⟩) (Nat.le_refl _) (.int .u8 (z.toNat : Int))).mono HB.out.size))
    clear hcv hcv2 hce hfz HWB ez HB
    generalize (bytesW s w3).setCell ⟨w3.heap.size, k, none⟩ (.int .u8 (z.toNat : Int)) = W1 at *
    generalize capB s w3 = cp at *
    go_upto_region 15 with (go_at_call 9; refine (TL.out _).mono ?_; rintro e w' ⟨rfl, rfl⟩)
    go_upto_region 16 with (go_at_call 9; refine (TC.out _).mono ?_; rintro e w' ⟨rfl, rfl⟩)
    clear TL TC
    go_wp2_with (go_at_call 13; refine (num_any _ _).mono ?_; rintro e w' ⟨rfl, rfl⟩)
    go_ret
    exact ⟨rfl, HW.out⟩
  · have c : ¬ x < 0 := by omega
    rw [← e1] at TP TG
    clear e1 hn
    go_enter Try.func4, Try.ntmps4
    go_upto_region 12 with (first
      | (go_at_call 16; refine (vawake_any _).mono ?_; rintro e w1 ⟨rfl, hb⟩; replace HB := Lib.hid (HB.out.trans (hb.mono HB.out.size)); clear hb)
      | (go_at_call 7; refine (TP.out _).mono ?_; rintro e w2 ⟨rfl, hb⟩; replace HB := Lib.hid (HB.out.trans (hb.mono HB.out.size)); clear hb)
      | (go_at_call 14; refine (TZ.out _).mono ?_; rintro e w3 ⟨rfl, hb⟩; replace HB := Lib.hid (HB.out.trans (hb.mono HB.out.size)); clear hb)
      | (go_at_call 9; refine (TG.out _).mono ?_; rintro e w' ⟨rfl, rfl⟩)
      | (go_at_call 11; refine (TA.out _).mono ?_; rintro e w' ⟨rfl, rfl⟩)
      | (go_at_call 13; refine (num_any _ _).mono ?_; rintro e w' ⟨rfl, rfl⟩))
    clear TP TZ TG TA
    go_upto_region 14 with (fail)
    have hq := hcv2 w3
    have HW := Lib.hid (HB.out.trans (((bytesW_below s w3).setCell (p := ⟨w3.heap.size, k, none⟩) (Nat.le_refl _) (.int .u8 (z.toNat : Int))).mono HB.out.size))
    clear hcv hcv2 hce hfz HWB ez HB
    generalize (bytesW s w3).setCell ⟨w3.heap.size, k, none⟩ (.int .u8 (z.toNat : Int)) = W1 at *
    generalize capB s w3 = cp at *
    go_upto_region 15 with (go_at_call 9; refine (TL.out _).mono ?_; rintro e w' ⟨rfl, rfl⟩)
    go_upto_region 16 with (go_at_call 9; refine (TC.out _).mono ?_; rintro e w' ⟨rfl, rfl⟩)
    clear TL TC
    go_wp2_with (go_at_call 13; refine (num_any _ _).mono ?_; rintro e w' ⟨rfl, rfl⟩)
    go_ret
    exact ⟨rfl, HW.out⟩
end Go.Proofs.Ytllekjmmmalblaa
