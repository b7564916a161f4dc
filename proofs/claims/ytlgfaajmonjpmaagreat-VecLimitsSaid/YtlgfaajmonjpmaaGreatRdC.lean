/- Package cell: a value's bytes, and a value read from a place. Package cell: truths and texts read from a place; any kind. The program's reader: a text, a place, and whether it is broken. The program's reader: a value. The program's reader: numbers in few bits. So many values read, one behind the other. So many runs read: each a number and its value. -/
import Derived.Test.YtlgfaajmonjpmaaGreatFaces
import Derived.Test.YtlgfaajmonjpmaaGreatYmath
import Derived.Test.YtlgfaajmonjpmaaGreatVProg
import Derived.Test.YtlgfaajmonjpmaaGreatOwn
import Derived.Test.YtlgfaajmonjpmaaGreatWin
import Derived.Deep.RegionHeld3
import Derived.Test.YtlgfaajmonjpmaaGreatPack
import Derived.Test.YtlgfaajmonjpmaaGreatValL
import Derived.Test.YtlgfaajmonjpmaaGreatIntL
import Derived.Deep.RegionLaw
namespace Go.Proofs.YtlgfaajmonjpmaaGreat
open Go.Conc Go.RowKit
set_option linter.unusedVariables false
set_option linter.unusedSimpArgs false

set_option maxRecDepth 100000 in
theorem cellsize_any (s : ByteArray) (hs : s.size < 9223372036854775808) (w : World) : Calls Tryz.prog 159 #[.string s] w fun e w' => e = .returned (.string (textB (vp s.size))) ∧ Below w.heap.size w w' := by
  have T := Lib.hid (vput_yes s.size hs)
  go_enter Tryz.func159, Tryz.ntmps159
  go_wp2_with (go_at_call 112; refine (T.out _).mono ?_; rintro e w' ⟨rfl, hb⟩; have HB := Lib.hid hb; clear hb)
  go_ret
  exact ⟨rfl, HB.out⟩
theorem textB_append (a b : List UInt8) : textB (a ++ b) = textB a ++ textB b := by
  apply bytes_eq; simp [textB]
theorem textB_text (l : List UInt8) (s : ByteArray) : textB (l ++ s.data.toList) = textB l ++ s := by
  rw [textB_append, text_back]

set_option maxRecDepth 100000 in
theorem cellput_any (v : V) (hk : 1 ≤ v.k ∧ v.k ≤ 3) (h0 : -9223372036854775808 ≤ v.i) (h1 : v.i ≤ 9223372036854775807) (hs : v.s.size ≤ 140737488355328) (w : World) :
    Calls Tryz.prog 135 #[.agg #[.int .i64 v.k, .int .i64 v.i, .bool v.b, .string v.s]] w fun e w' => e = .returned (.string (textB (plainB v))) ∧ Below w.heap.size w w' := by
  obtain ⟨k, i, b, s⟩ := v
  simp only at hk h0 h1 hs ⊢
  rcases (show k = 1 ∨ k = 2 ∨ k = 3 by omega) with rfl | rfl | rfl
  · have e : plainB ⟨1, i, b, s⟩ = vp (zz i) := if_pos rfl
    rw [e]
    have T := Lib.hid (vzig_any i h0 (by omega))
    clear h0 h1 hk e
    go_enter Tryz.func135, Tryz.ntmps135
    go_wp2_with (go_at_call 158; refine (T.out _).mono ?_; rintro e w' ⟨rfl, hb⟩; have HB := Lib.hid hb; clear hb)
    go_ret
    exact ⟨rfl, ((Below.refl _ _).alloc (Nat.le_refl _) _).trans (HB.out.mono (by simp))⟩
  · have e : plainB ⟨2, i, b, s⟩ = [if b = true then 1 else 0] := by unfold plainB; rw [if_neg (by simp), if_pos rfl]
    rw [e]
    cases b with
    | true =>
      go_enter Tryz.func135, Tryz.ntmps135
      go_wp2
      go_ret
      exact ⟨rfl, (Below.refl _ _).alloc (Nat.le_refl _) _⟩
    | false =>
      go_enter Tryz.func135, Tryz.ntmps135
      go_wp2
      go_ret
      exact ⟨rfl, (Below.refl _ _).alloc (Nat.le_refl _) _⟩
  · have e : plainB ⟨3, i, b, s⟩ = vp s.size ++ s.data.toList := by unfold plainB; rw [if_neg (by simp), if_neg (by simp)]
    rw [e, textB_text]
    have T := Lib.hid (cellsize_any s (by omega))
    have hl : ¬ 9223372036854775807 < (textB (vp s.size)).size + s.size := by
      rw [textB_size]; have := vp_le s.size; omega
    clear e h0 h1 hk
    generalize textB (vp s.size) = x at *
    go_enter Tryz.func135, Tryz.ntmps135
    go_upto_region 9 with fail
    have hs1 := Slot.new w ⟨3, i, b, s⟩
    have hb1 : Below w.heap.size w (w.alloc (.cells #[.int .i64 3, .int .i64 i, .bool b, .string s] 24)) := (Below.refl _ _).alloc (Nat.le_refl _) _
    simp only at hs1
    have HS := Lib.hid hs1
    have HB := Lib.hid hb1
    clear hs1 hb1
    generalize w.alloc (.cells #[.int .i64 3, .int .i64 i, .bool b, .string s] 24) = u at *
    refine region_class (fun w' => Below u.heap.size u w') (by kernel_rfl) (by kernel_rfl) (Below.refl _ _).drew ?_
    repeat (
      refine wpQuiet_step (fun K hK => ?_)
      go_simp
      first
      | (refine hK _ ?_; clear hK K)
      | (apply Exists.intro
         refine ⟨fun w1 hw1 => ?_, hK _ ?_⟩
         (first
           | (exact rfl)
           | (obtain ⟨⟨p0, p1, p2, p3⟩, _⟩ := (HS.out.below hw1).at; simp only [p0, p1, p2, p3, Result.andThen]; exact ⟨trivial, rfl⟩)
           | (go_at_call 159; exact (T.out _).mono fun e w2 ⟨he, hb⟩ => ⟨he, hw1.trans (hb.mono hw1.size)⟩)
           | (rw [if_neg hl]; exact ⟨rfl, rfl⟩))
         clear hK K))
    refine wpQuiet_nil ?_
    intro w2 hw2
    go_wp2
    go_ret
    exact ⟨rfl, HB.out.trans (hw2.mono HB.out.size)⟩

/-- A text's bytes from a place on, so many. -/
theorem slice_text (s : ByteArray) (q n : Nat) : s.extract q (q + n) = textB ((s.data.toList.drop q).take n) := by
  apply bytes_eq
  simp [textB, ByteArray.data_extract, Array.toList_extract, List.extract_eq_take_drop]

set_option maxRecDepth 100000 in
theorem cellnumber_any (s : ByteArray) (hs : s.size ≤ 281474976710648) (p : Nat) (w : World) :
    Calls Tryz.prog 166 #[.string s, .int .i64 (p : Int)] w fun e w' => e = .returned (.tuple #[.agg #[.int .i64 (cellN s.data.toList p).1.k, .int .i64 (cellN s.data.toList p).1.i, .bool (cellN s.data.toList p).1.b, .string (cellN s.data.toList p).1.s], .int .i64 ((cellN s.data.toList p).2.1 : Int), .bool (cellN s.data.toList p).2.2]) ∧ Below w.heap.size w w' := by
  have T := Lib.hid (vzag_any s hs (p : Int))
  have hE := readN_E s.data.toList (p : Int)
  have hA := @readN_at s.data.toList p
  unfold cellN
  generalize readN s.data.toList (p : Int) = r at *
  obtain ⟨N, P, E⟩ := r
  simp only at hE hA
  by_cases hz : E = 0
  · subst hz
    obtain ⟨q, rfl, _, _⟩ := hA rfl
    have T : Hid (∀ w : World, Calls Tryz.prog 173 #[.string s, .int .i64 (p : Int)] w fun e w' => e = .returned (.tuple #[.int .i64 (unzz N), .int .i64 (q : Int), .int .i64 0]) ∧ w = w') := T
    simp only [if_true, Int.toNat_natCast]
    generalize unzz N = x at *
    clear hE hA
    go_enter Tryz.func166, Tryz.ntmps166
    go_wp2_with (go_at_call 173; refine (T.out _).mono ?_; rintro e w' ⟨rfl, rfl⟩)
    go_returns
    exact ⟨rfl, ((Below.refl _ _).alloc (Nat.le_refl _) _)⟩
  · have T : Hid (∀ w : World, Calls Tryz.prog 173 #[.string s, .int .i64 (p : Int)] w fun e w' => e = .returned (.tuple #[.int .i64 0, .int .i64 0, .int .i64 E]) ∧ w = w') := by
      have := T
      unfold zagA at this
      simp only [if_neg hz] at this
      exact this
    simp only [if_neg hz]
    have hne : (E != 0) = true := by simpa using hz
    clear hE hA
    go_enter Tryz.func166, Tryz.ntmps166
    go_wp2_with (go_at_call 173; refine (T.out _).mono ?_; rintro e w' ⟨rfl, rfl⟩)
    go_returns
    exact ⟨rfl, ((Below.refl _ _).alloc (Nat.le_refl _) _)⟩
end Go.Proofs.YtlgfaajmonjpmaaGreat

namespace Go.Proofs.YtlgfaajmonjpmaaGreat
open Go.Conc Go.RowKit
set_option linter.unusedVariables false
set_option linter.unusedSimpArgs false

theorem byte_text (s : ByteArray) (p : Nat) (h : p < s.size) : (s.extract p (p + 1)).toList = [s.data.toList.getD p 0] := by
  rw [slice_text, ByteArray.toList_eq, textB_list]
  have h1 : p < s.data.toList.length := by rw [← size_list]; exact h
  rw [List.drop_eq_getElem_cons h1, List.take_succ_cons, List.take_zero, List.getD_eq_getElem?_getD, List.getElem?_eq_getElem h1]
  rfl

set_option maxRecDepth 100000 in
theorem celltruth_any (s : ByteArray) (hs : s.size ≤ 281474976710648) (p : Nat) (w : World) :
    Calls Tryz.prog 167 #[.string s, .int .i64 (p : Int)] w fun e w' => e = .returned (.tuple #[.agg #[.int .i64 (cellB s.data.toList p).1.k, .int .i64 (cellB s.data.toList p).1.i, .bool (cellB s.data.toList p).1.b, .string (cellB s.data.toList p).1.s], .int .i64 ((cellB s.data.toList p).2.1 : Int), .bool (cellB s.data.toList p).2.2]) ∧ Below w.heap.size w w' := by
  have hl : s.data.toList.length = s.size := (size_list s).symm
  by_cases hp : p < s.size
  · have hx := byte_text s p hp
    unfold cellB
    rw [hl]
    generalize s.data.toList.getD p 0 = c at *
    obtain ⟨x, hxe⟩ : ∃ x, x = s.extract p (p + 1) := ⟨_, rfl⟩
    rw [← hxe] at hx
    have HXE := Lib.hid hxe
    have hpi : (p : Int) < (s.size : Int) := by omega
    have hge : ¬ (s.size ≤ p) := by omega
    have hle : p + 1 ≤ s.size := by omega
    by_cases c0 : c = 0
    · subst c0
      rw [if_pos ⟨hp, .inl rfl⟩]
      have q0 : (x.toList == [0]) = true := by rw [hx]; rfl
      have q1 : (x.toList == [1]) = false := by rw [hx]; rfl
      clear hx hxe
      go_enter Tryz.func167, Tryz.ntmps167
      go_upto_region 4 with fail
      rw [show s.extract p (p + 1) = x from HXE.out.symm]
      go_wp2
      go_returns
      exact ⟨rfl, ((Below.refl _ _).alloc (Nat.le_refl _) _)⟩
    by_cases c1 : c = 1
    · subst c1
      rw [if_pos ⟨hp, .inr rfl⟩]
      have q0 : (x.toList == [0]) = false := by rw [hx]; rfl
      have q1 : (x.toList == [1]) = true := by rw [hx]; rfl
      clear hx hxe
      go_enter Tryz.func167, Tryz.ntmps167
      go_upto_region 4 with fail
      rw [show s.extract p (p + 1) = x from HXE.out.symm]
      go_wp2
      go_returns
      exact ⟨rfl, ((Below.refl _ _).alloc (Nat.le_refl _) _)⟩
    · rw [if_neg (by rintro ⟨_, h | h⟩; exact c0 h; exact c1 h)]
      have q0 : (x.toList == [0]) = false := by rw [hx]; simpa using c0
      have q1 : (x.toList == [1]) = false := by rw [hx]; simpa using c1
      clear hx hxe
      go_enter Tryz.func167, Tryz.ntmps167
      go_upto_region 4 with fail
      rw [show s.extract p (p + 1) = x from HXE.out.symm]
      go_wp2
      go_returns
      exact ⟨rfl, ((Below.refl _ _).alloc (Nat.le_refl _) _)⟩
  · unfold cellB
    rw [hl, if_neg (fun h => hp h.1)]
    have hge : s.size ≤ p := by omega
    have hgi : decide ((s.size : Int) ≤ (p : Int)) = true := by simpa using hge
    go_enter Tryz.func167, Tryz.ntmps167
    go_wp2
    go_returns
    exact ⟨rfl, ((Below.refl _ _).alloc (Nat.le_refl _) _)⟩

set_option maxRecDepth 100000 in
theorem celltext_any (s : ByteArray) (hs : s.size ≤ 281474976710648) (p : Nat) (w : World) :
    Calls Tryz.prog 168 #[.string s, .int .i64 (p : Int)] w fun e w' => e = .returned (.tuple #[.agg #[.int .i64 (cellT s.data.toList p).1.k, .int .i64 (cellT s.data.toList p).1.i, .bool (cellT s.data.toList p).1.b, .string (cellT s.data.toList p).1.s], .int .i64 ((cellT s.data.toList p).2.1 : Int), .bool (cellT s.data.toList p).2.2]) ∧ Below w.heap.size w w' := by
  have T := Lib.hid (vget_any s hs (p : Int))
  have hA := @readN_at s.data.toList p
  have hl : s.data.toList.length = s.size := (size_list s).symm
  have HT := Lib.hid (fun q n => slice_text s q n)
  unfold cellT
  generalize readN s.data.toList (p : Int) = r at *
  obtain ⟨N, P, E⟩ := r
  simp only at hA
  by_cases hz : E = 0
  · subst hz
    obtain ⟨q, rfl, _, hq⟩ := hA rfl
    rw [hl] at hq
    simp only [Int.toNat_natCast, true_and]
    by_cases hN : 9223372036854775807 < N
    · have T : Hid (∀ w : World, Calls Tryz.prog 132 #[.string s, .int .i64 (p : Int)] w fun e w' => e = .returned (.tuple #[.int .i64 0, .int .i64 0, .int .i64 501]) ∧ w = w') := by
        have := T
        unfold getA at this
        simp only [if_true, if_pos hN] at this
        exact this
      rw [if_neg (by rw [hl]; omega)]
      clear hA HT hN hq
      go_enter Tryz.func168, Tryz.ntmps168
      go_wp2_with (go_at_call 132; refine (T.out _).mono ?_; rintro e w' ⟨rfl, rfl⟩)
      go_returns
      exact ⟨rfl, ((Below.refl _ _).alloc (Nat.le_refl _) _)⟩
    · have T : Hid (∀ w : World, Calls Tryz.prog 132 #[.string s, .int .i64 (p : Int)] w fun e w' => e = .returned (.tuple #[.int .i64 (N : Int), .int .i64 (q : Int), .int .i64 0]) ∧ w = w') := by
        have := T
        unfold getA at this
        simp only [if_true, if_neg hN] at this
        exact this
      have hsub : wrap64 ((s.size : Int) - (q : Int)) = (s.size : Int) - (q : Int) := by unfold wrap64; omega
      by_cases hc : q + N ≤ s.size
      · rw [if_pos (by rw [hl]; exact hc), ← HT.out q N]
        have hgt : decide ((s.size : Int) - (q : Int) < (N : Int)) = false := by simp; omega
        have hadd : wrap64 ((q : Int) + (N : Int)) = ((q + N : Nat) : Int) := by unfold wrap64; omega
        have hsz : (s.extract q (q + N)).size ≤ 281474976710656 := by rw [ByteArray.size_extract]; omega
        have T3 := Lib.hid (fun u => Tryz.stringslite_Clone (s.extract q (q + N)) u hsz)
        have HX := Lib.hid (rfl : s.extract q (q + N) = s.extract q (q + N))
        generalize hz2 : q + N = z at *
        have hqz : q ≤ z := by omega
        clear hA HT hN hsz HX hz2
        go_enter Tryz.func168, Tryz.ntmps168
        go_upto_region 5 with (go_at_call 132; refine (T.out _).mono ?_; rintro e w' ⟨rfl, rfl⟩)
        have hs1 : Slot (w.alloc (.cells #[.int .i64 0, .int .i64 0, .bool false, .string ⟨#[]⟩] 24)) w.heap.size ⟨0, 0, false, ⟨#[]⟩⟩ := Slot.new w ⟨0, 0, false, ⟨#[]⟩⟩
        have HS := Lib.hid hs1
        have HB := Lib.hid (show Below w.heap.size w (w.alloc (.cells #[.int .i64 0, .int .i64 0, .bool false, .string ⟨#[]⟩] 24)) from (Below.refl _ _).alloc (Nat.le_refl _) _)
        obtain ⟨g, hg⟩ : ∃ g, g = w.heap.size := ⟨_, rfl⟩
        have HG := Lib.hid hg
        rw [← hg] at HS ⊢
        clear hs1 hg
        generalize w.alloc (.cells #[.int .i64 0, .int .i64 0, .bool false, .string ⟨#[]⟩] 24) = u at *
        go_wp2_with (first
          | (go_at_call 90; go_enter Tryz.func90, Tryz.ntmps90)
          | (go_at_call 117; refine (T3.out _).mono ?_; rintro e w3 ⟨rfl, hb3⟩; have hs3 := HS.out.below hb3; have HS3 := Lib.hid hs3; obtain ⟨⟨d0, d1, d2, d3⟩, f0, f1, f2, f3⟩ := hs3.at; have HB3 := Lib.hid (HB.out.trans (hb3.mono HB.out.size)); clear hb3 hs3))
        have h4 := HS3.out.store ⟨3, 0, false, s.extract q z⟩
        have hb4 : Below w.heap.size w ((((w3.setCell ⟨g, 0, none⟩ (.int .i64 3)).setCell ⟨g, 1, none⟩ (.int .i64 0)).setCell ⟨g, 2, none⟩ (.bool false)).setCell ⟨g, 3, none⟩ (.string (s.extract q z))) := by
          have hg : w.heap.size ≤ g := by rw [HG.out]; exact Nat.le_refl _
          exact (((HB3.out.setCell hg _).setCell hg _).setCell hg _).setCell hg _
        simp only at h4
        generalize ((((w3.setCell ⟨g, 0, none⟩ (.int .i64 3)).setCell ⟨g, 1, none⟩ (.int .i64 0)).setCell ⟨g, 2, none⟩ (.bool false)).setCell ⟨g, 3, none⟩ (.string (s.extract q z))) = w4 at *
        clear d0 d1 d2 d3 f0 f1 f2 f3 HS3
        obtain ⟨⟨c0, c1, c2, c3⟩, _⟩ := h4.at
        try simp only [Exit.inBlock, Exit.then]
        refine bodyPost_ret (v := .tuple #[.agg #[.int .i64 3, .int .i64 0, .bool false, .string (s.extract q z)], .int .i64 (z : Int), .bool true]) (by simp [results, Tryz.results168, go_sem, c0, c1, c2, c3, hadd]) rfl ?_
        exact ⟨rfl, hb4⟩
      · rw [if_neg (by rw [hl]; exact hc)]
        have hgt : decide ((s.size : Int) - (q : Int) < (N : Int)) = true := by simp; omega
        clear hA HT hN
        go_enter Tryz.func168, Tryz.ntmps168
        go_wp2_with (go_at_call 132; refine (T.out _).mono ?_; rintro e w' ⟨rfl, rfl⟩)
        go_returns
        exact ⟨rfl, ((Below.refl _ _).alloc (Nat.le_refl _) _)⟩
  · have T : Hid (∀ w : World, Calls Tryz.prog 132 #[.string s, .int .i64 (p : Int)] w fun e w' => e = .returned (.tuple #[.int .i64 0, .int .i64 0, .int .i64 E]) ∧ w = w') := by
      have := T
      unfold getA at this
      simp only [if_neg hz] at this
      exact this
    rw [if_neg (fun h => hz h.1)]
    have hne : (E != 0) = true := by simpa using hz
    clear hA HT
    go_enter Tryz.func168, Tryz.ntmps168
    go_wp2_with (go_at_call 132; refine (T.out _).mono ?_; rintro e w' ⟨rfl, rfl⟩)
    go_returns
    exact ⟨rfl, ((Below.refl _ _).alloc (Nat.le_refl _) _)⟩

set_option maxRecDepth 100000 in
theorem cellget_any (k : Int) (hk : 1 ≤ k ∧ k ≤ 3) (s : ByteArray) (hs : s.size ≤ 281474976710648) (p : Nat) (w : World) :
    Calls Tryz.prog 150 #[.int .i64 k, .string s, .int .i64 (p : Int)] w fun e w' => e = .returned (.tuple #[.agg #[.int .i64 (cellA k s.data.toList p).1.k, .int .i64 (cellA k s.data.toList p).1.i, .bool (cellA k s.data.toList p).1.b, .string (cellA k s.data.toList p).1.s], .int .i64 ((cellA k s.data.toList p).2.1 : Int), .bool (cellA k s.data.toList p).2.2]) ∧ Below w.heap.size w w' := by
  have T1 := Lib.hid (cellnumber_any s hs p)
  have T2 := Lib.hid (celltruth_any s hs p)
  have T3 := Lib.hid (celltext_any s hs p)
  have HS0 := Slot.new w ⟨0, 0, false, ⟨#[]⟩⟩
  have HS := Lib.hid HS0
  have HB := Lib.hid (show Below w.heap.size w (w.alloc (.cells #[.int .i64 0, .int .i64 0, .bool false, .string ⟨#[]⟩] 24)) from (Below.refl _ _).alloc (Nat.le_refl _) _)
  clear HS0
  rcases (show k = 1 ∨ k = 2 ∨ k = 3 by omega) with rfl | rfl | rfl
  · have e : cellA 1 s.data.toList p = cellN s.data.toList p := rfl
    rw [e]
    clear e hk T2 T3
    generalize cellN s.data.toList p = r at *
    obtain ⟨⟨vk, vi, vb, vs⟩, z, f⟩ := r
    go_enter Tryz.func150, Tryz.ntmps150
    go_upto_region 3 with fail
    obtain ⟨g, hg⟩ : ∃ g, g = w.heap.size := ⟨_, rfl⟩
    have HG := Lib.hid hg
    rw [← hg] at HS ⊢
    clear hg
    generalize w.alloc (.cells #[.int .i64 0, .int .i64 0, .bool false, .string ⟨#[]⟩] 24) = u at *
    go_wp2_with (go_at_call 166; refine (T1.out _).mono ?_; rintro e w3 ⟨rfl, hb3⟩; have hs3 := HS.out.below hb3; have HS3 := Lib.hid hs3; obtain ⟨⟨d0, d1, d2, d3⟩, f0, f1, f2, f3⟩ := hs3.at; have HB3 := Lib.hid (HB.out.trans (hb3.mono HB.out.size)); clear hb3 hs3)
    have h4 := HS3.out.store ⟨vk, vi, vb, vs⟩
    have hb4 : Below w.heap.size w ((((w3.setCell ⟨g, 0, none⟩ (.int .i64 vk)).setCell ⟨g, 1, none⟩ (.int .i64 vi)).setCell ⟨g, 2, none⟩ (.bool vb)).setCell ⟨g, 3, none⟩ (.string vs)) := by
      have hg : w.heap.size ≤ g := by rw [HG.out]; exact Nat.le_refl _
      exact (((HB3.out.setCell hg _).setCell hg _).setCell hg _).setCell hg _
    simp only at h4
    generalize ((((w3.setCell ⟨g, 0, none⟩ (.int .i64 vk)).setCell ⟨g, 1, none⟩ (.int .i64 vi)).setCell ⟨g, 2, none⟩ (.bool vb)).setCell ⟨g, 3, none⟩ (.string vs)) = w4 at *
    clear d0 d1 d2 d3 f0 f1 f2 f3 HS3
    obtain ⟨⟨c0, c1, c2, c3⟩, _⟩ := h4.at
    try simp only [Exit.inBlock, Exit.then]
    refine bodyPost_ret (v := .tuple #[.agg #[.int .i64 vk, .int .i64 vi, .bool vb, .string vs], .int .i64 (z : Int), .bool f]) (by simp [results, Tryz.results150, go_sem, c0, c1, c2, c3]) rfl ?_
    exact ⟨rfl, hb4⟩
  · have e : cellA 2 s.data.toList p = cellB s.data.toList p := rfl
    rw [e]
    clear e hk T1 T3
    generalize cellB s.data.toList p = r at *
    obtain ⟨⟨vk, vi, vb, vs⟩, z, f⟩ := r
    go_enter Tryz.func150, Tryz.ntmps150
    go_upto_region 5 with fail
    obtain ⟨g, hg⟩ : ∃ g, g = w.heap.size := ⟨_, rfl⟩
    have HG := Lib.hid hg
    rw [← hg] at HS ⊢
    clear hg
    generalize w.alloc (.cells #[.int .i64 0, .int .i64 0, .bool false, .string ⟨#[]⟩] 24) = u at *
    go_wp2_with (go_at_call 167; refine (T2.out _).mono ?_; rintro e w3 ⟨rfl, hb3⟩; have hs3 := HS.out.below hb3; have HS3 := Lib.hid hs3; obtain ⟨⟨d0, d1, d2, d3⟩, f0, f1, f2, f3⟩ := hs3.at; have HB3 := Lib.hid (HB.out.trans (hb3.mono HB.out.size)); clear hb3 hs3)
    have h4 := HS3.out.store ⟨vk, vi, vb, vs⟩
    have hb4 : Below w.heap.size w ((((w3.setCell ⟨g, 0, none⟩ (.int .i64 vk)).setCell ⟨g, 1, none⟩ (.int .i64 vi)).setCell ⟨g, 2, none⟩ (.bool vb)).setCell ⟨g, 3, none⟩ (.string vs)) := by
      have hg : w.heap.size ≤ g := by rw [HG.out]; exact Nat.le_refl _
      exact (((HB3.out.setCell hg _).setCell hg _).setCell hg _).setCell hg _
    simp only at h4
    generalize ((((w3.setCell ⟨g, 0, none⟩ (.int .i64 vk)).setCell ⟨g, 1, none⟩ (.int .i64 vi)).setCell ⟨g, 2, none⟩ (.bool vb)).setCell ⟨g, 3, none⟩ (.string vs)) = w4 at *
    clear d0 d1 d2 d3 f0 f1 f2 f3 HS3
    obtain ⟨⟨c0, c1, c2, c3⟩, _⟩ := h4.at
    try simp only [Exit.inBlock, Exit.then]
    refine bodyPost_ret (v := .tuple #[.agg #[.int .i64 vk, .int .i64 vi, .bool vb, .string vs], .int .i64 (z : Int), .bool f]) (by simp [results, Tryz.results150, go_sem, c0, c1, c2, c3]) rfl ?_
    exact ⟨rfl, hb4⟩
  · have e : cellA 3 s.data.toList p = cellT s.data.toList p := rfl
    rw [e]
    clear e hk T1 T2
    generalize cellT s.data.toList p = r at *
    obtain ⟨⟨vk, vi, vb, vs⟩, z, f⟩ := r
    go_enter Tryz.func150, Tryz.ntmps150
    go_upto_region 7 with fail
    obtain ⟨g, hg⟩ : ∃ g, g = w.heap.size := ⟨_, rfl⟩
    have HG := Lib.hid hg
    rw [← hg] at HS ⊢
    clear hg
    generalize w.alloc (.cells #[.int .i64 0, .int .i64 0, .bool false, .string ⟨#[]⟩] 24) = u at *
    go_wp2_with (go_at_call 168; refine (T3.out _).mono ?_; rintro e w3 ⟨rfl, hb3⟩; have hs3 := HS.out.below hb3; have HS3 := Lib.hid hs3; obtain ⟨⟨d0, d1, d2, d3⟩, f0, f1, f2, f3⟩ := hs3.at; have HB3 := Lib.hid (HB.out.trans (hb3.mono HB.out.size)); clear hb3 hs3)
    have h4 := HS3.out.store ⟨vk, vi, vb, vs⟩
    have hb4 : Below w.heap.size w ((((w3.setCell ⟨g, 0, none⟩ (.int .i64 vk)).setCell ⟨g, 1, none⟩ (.int .i64 vi)).setCell ⟨g, 2, none⟩ (.bool vb)).setCell ⟨g, 3, none⟩ (.string vs)) := by
      have hg : w.heap.size ≤ g := by rw [HG.out]; exact Nat.le_refl _
      exact (((HB3.out.setCell hg _).setCell hg _).setCell hg _).setCell hg _
    simp only at h4
    generalize ((((w3.setCell ⟨g, 0, none⟩ (.int .i64 vk)).setCell ⟨g, 1, none⟩ (.int .i64 vi)).setCell ⟨g, 2, none⟩ (.bool vb)).setCell ⟨g, 3, none⟩ (.string vs)) = w4 at *
    clear d0 d1 d2 d3 f0 f1 f2 f3 HS3
    obtain ⟨⟨c0, c1, c2, c3⟩, _⟩ := h4.at
    try simp only [Exit.inBlock, Exit.then]
    refine bodyPost_ret (v := .tuple #[.agg #[.int .i64 vk, .int .i64 vi, .bool vb, .string vs], .int .i64 (z : Int), .bool f]) (by simp [results, Tryz.results150, go_sem, c0, c1, c2, c3]) rfl ?_
    exact ⟨rfl, hb4⟩
end Go.Proofs.YtlgfaajmonjpmaaGreat
