/- Lists of values in memory: copied, lent, kept, spoiled. -/
import Derived.Test.YthfakpekdjmpjaaValL
namespace Go.Proofs.Ythfakpekdjmpjaa
open Go.Conc Go.RowKit
set_option linter.unusedVariables false

set_option maxRecDepth 100000 in
theorem copyvals_any (w : World) (a : Option Addr) (cap : Nat) (xs : List V) (ha : IsV w a xs) (hn : a = none → xs.length = 0 ∧ cap = 0) (hx : xs.length * 40 ≤ 140737488355328) :
    Calls Try.prog 101 #[.slice a xs.length cap] w fun e w' => ∃ g c, e = .returned (.slice (some ⟨g, 0, none⟩) xs.length c) ∧ OwnV w.heap.size w' (some ⟨g, 0, none⟩) c xs ∧ Below w.heap.size w w' := by
  obtain ⟨i0, hi0, hz0, hz1, hz2⟩ := info_parts infoVal
  have hO : (w.alloc (.cells #[] 57)).ownsRow w.heap.size 57 4 (.slice (some ⟨w.heap.size, 0, none⟩) 0 0) 0 [] := World.ownsRow_made w #[] 0 (Nat.le_refl _) (Nat.zero_le _) rfl
  have HO := Lib.hid hO
  have HB : Hid (Below w.heap.size w (w.alloc (.cells #[] 57))) := (Below.refl _ _).alloc (Nat.le_refl _) _
  have HZ := Lib.hid hz0
  clear hz0 hO
  cases a with
  | none =>
    obtain ⟨h1, rfl⟩ := hn rfl
    have e1 : xs = [] := List.eq_nil_of_length_eq_zero h1
    subst e1
    clear hn h1 hx ha
    go_enter Try.func101, Try.ntmps101
    go_wp2_with (at_builtin; refine wpList_append_own_none rfl _ _ 70 rfl w.heap.size 57 i0 4 Try.underlying70 hi0 _ 0 [] rfl HO.out rfl ?_)
    go_ret
    exact ⟨_, _, rfl, HO.out, HB.out⟩
  | some ad =>
    have hc : ∀ j u, (rowV xs)[j]? = some u → (w.alloc (.cells #[] 57)).cell? (ad.add j) = some u := by
      rcases ha.below HB.out with rfl | ⟨b, off, e, h⟩
      · intro j u hj; simp [rowV] at hj
      · injection e with e
        subst e
        exact IsV.cells h
    have HC := Lib.hid hc
    clear hc ha hn
    have hl := rowV_length xs
    go_enter Try.func101, Try.ntmps101
    go_wp2_with (at_builtin; refine wpList_append_own _ rfl _ _ 70 rfl w.heap.size 57 i0 zVal 4 40 Try.underlying70 hi0 HZ.out hz1 hz2 rfl (by decide) (.slice (some ⟨w.heap.size, 0, none⟩) 0 0) 0 [] rfl HO.out ad xs.length cap (rowV xs) rfl hl HC.out (rowV_cells xs) (by simp only [maxLen]; omega) (by omega) (by simp) ?_; intro v1 w1 h1 g1 n1; rw [Nat.zero_add, List.nil_append] at h1; obtain ⟨g, cp, rfl, hbg, hgl, hcp, hcm⟩ := own_some h1 (by rw [ne_eq, n1]; simp); have H1 := Lib.hid h1; have G1 := Lib.hid g1; clear h1 g1 n1)
    go_ret
    refine ⟨g, cp, rfl, H1.out, ?_⟩
    have hb := HB.out
    have hg := G1.out
    exact ⟨hg.os.trans hb.os, hg.tape.trans hb.tape, hg.output.trans hb.output, Nat.le_trans hb.size hg.size, fun k hk => (hg.block k (Nat.lt_of_lt_of_le hk hb.size) (by simp [Value.ownBlock]; omega)).trans (hb.block k hk)⟩

/-- The mark behind a list that is lent. -/
def markV : V := ⟨77777, 0, false, ByteArray.empty⟩
theorem marksV_cells (w : World) (L : List V) (hL : L = [markV, markV]) : ∀ j u, (rowV L)[j]? = some u → (w.alloc (.cells #[.int .i64 77777, .int .i64 0, .bool false, .string ByteArray.empty, .int .i64 77777, .int .i64 0, .bool false, .string ByteArray.empty] 57)).cell? ((⟨w.heap.size, 0, none⟩ : Addr).add j) = some u := by
  subst hL
  have hb : (w.alloc (.cells #[.int .i64 77777, .int .i64 0, .bool false, .string ByteArray.empty, .int .i64 77777, .int .i64 0, .bool false, .string ByteArray.empty] 57)).heap[w.heap.size]? = some (.cells #[.int .i64 77777, .int .i64 0, .bool false, .string ByteArray.empty, .int .i64 77777, .int .i64 0, .bool false, .string ByteArray.empty] 57 (0, 0)) := heap_alloc_new w _
  intro j u hj
  rw [addr_off, Nat.zero_add, cell_of_row _ _ _ _ _ _ hb]
  simpa [rowV, V.cells, markV] using hj

set_option maxRecDepth 100000 in
theorem lendvals_any (w : World) (a : Option Addr) (cap : Nat) (xs : List V) (ha : IsV w a xs) (hn : a = none → xs.length = 0 ∧ cap = 0) (hx : (xs.length + 2) * 40 ≤ 140737488355328) :
    Calls Try.prog 76 #[.slice a xs.length cap] w fun e w' => ∃ g c, e = .returned (.slice (some ⟨g, 0, none⟩) xs.length c) ∧ OwnV w.heap.size w' (some ⟨g, 0, none⟩) c (xs ++ [markV, markV]) ∧ Below w.heap.size w w' := by
  obtain ⟨i0, hi0, hz0, hz1, hz2⟩ := info_parts infoVal
  have HZ := Lib.hid hz0
  have T := Lib.hid (copyvals_any w a cap xs ha hn (by omega))
  obtain ⟨L, hL⟩ : ∃ L : List V, L = [markV, markV] := ⟨_, rfl⟩
  rw [← hL]
  have hl : L.length = 2 := by rw [hL]; rfl
  have hcl : (rowV L).length = 8 := by rw [rowV_length, hl]
  have HM := Lib.hid (fun w => marksV_cells w L hL)
  have hap := rowV_append xs L
  have hlen : (xs ++ L).length = xs.length + 2 := by rw [List.length_append, hl]
  unfold OwnV
  rw [hlen, hap]
  clear hap hlen hz0 hL hl ha hn
  go_enter Try.func76, Try.ntmps76
  go_wp2_with (first
    | (go_at_call 101; refine T.out.mono ?_; rintro e w1 ⟨g, c, rfl, h1, hb1⟩; have H1 := Lib.hid (OwnV.below h1 ((Below.refl w1.heap.size w1).alloc (Nat.le_refl _) (.cells #[.int .i64 77777, .int .i64 0, .bool false, .string ByteArray.empty, .int .i64 77777, .int .i64 0, .bool false, .string ByteArray.empty] 57))); have HB1 := Lib.hid hb1; clear h1 hb1)
    | (at_builtin; refine wpList_append_own _ rfl _ _ 70 rfl w.heap.size 57 i0 zVal 4 40 Try.underlying70 hi0 HZ.out hz1 hz2 rfl (by decide) (.slice (some ⟨g, 0, none⟩) xs.length c) xs.length (rowV xs) rfl H1.out ⟨w1.heap.size, 0, none⟩ 2 2 (rowV L) rfl (by rw [hcl]) (HM.out w1) (rowV_cells L) (by simp only [maxLen]; omega) (by omega) (by have := HB1.out.size; simp; omega) ?_; intro v2 w2 h2 g2 n2; obtain ⟨gg, cp, rfl, hbg, hgl, hcp, hcm⟩ := own_some h2 (by rw [ne_eq, n2]; simp); have H2 := Lib.hid h2; have G2 := Lib.hid g2; clear h2 g2 n2))
  go_ret
  refine ⟨gg, cp, rfl, H2.out, ?_⟩
  have hb := (HB1.out.alloc HB1.out.size (.cells #[.int .i64 77777, .int .i64 0, .bool false, .string ByteArray.empty, .int .i64 77777, .int .i64 0, .bool false, .string ByteArray.empty] 57))
  exact grown_below hb (Nat.le_refl _) G2.out fun k hk => own_block H1.out hk.symm

set_option maxRecDepth 100000 in
theorem keptvals_any (w : World) (g c : Nat) (b : Option Addr) (cb base : Nat) (xs : List V) (h : OwnV base w (some ⟨g, 0, none⟩) c (xs ++ [markV, markV])) (hb : IsV w b xs) (hx : (xs.length + 2) * 40 ≤ 140737488355328) :
    Calls Try.prog 84 #[.slice (some ⟨g, 0, none⟩) xs.length c, .slice b xs.length cb] w fun e w' => e = .returned (.bool true) ∧ Below w.heap.size w w' := by
  have hl : IsV w (some ⟨g, 0, none⟩) (xs ++ [markV, markV]) := h.isV
  have hl2 : IsV w (some ⟨g, 0, none⟩) xs := by have := hl.take xs.length; rwa [List.take_left] at this
  have hc : xs.length + 2 ≤ c := by
    rcases h.block with ⟨h, _⟩ | ⟨g', e, _, _, h, _⟩
    · cases h
    · simpa using h
  have T := Lib.hid (samevals_any w (some ⟨g, 0, none⟩) b c cb xs xs hl2 hb (by simp only [maxLen]; omega))
  rw [decide_eq_true rfl] at T
  have hm : ValAt w g (xs.length * 4) markV ∧ ValAt w g ((xs.length + 1) * 4) markV := by
    rcases hl with h | ⟨b, off, e, h⟩
    · simp at h
    · injection e with e
      injection e with e1 e2 e3
      subst e1 e2
      constructor
      · have := h xs.length (by simp); simpa using this
      · have := h (xs.length + 1) (by simp); simpa using this
  have HM := Lib.hid hm
  have hg : g < w.heap.size := hm.1.lt
  have hq := run_eql_val markV markV
  simp only [markV, decide_eq_true] at hq
  clear h hb hl hl2 hm
  go_enter Try.func84, Try.ntmps84
  go_wp2_with (go_at_call 39; refine T.out.mono ?_; rintro e w1 ⟨rfl, hb1⟩; obtain ⟨p0, p1, p2, p3⟩ := HM.out.1.below hb1; obtain ⟨q0, q1, q2, q3⟩ := HM.out.2.below hb1; simp only [markV] at p0 p1 p2 p3 q0 q1 q2 q3; have HB1 := Lib.hid hb1; clear hb1)
  go_ret
  exact ⟨rfl, HB1.out⟩

set_option maxRecDepth 100000 in
theorem spoilvals_any (w : World) (a : Option Addr) (c base : Nat) (xs : List V) (h : OwnV base w a c xs) (hx : xs.length ≤ maxLen) :
    Calls Try.prog 40 #[.slice a xs.length c] w fun e w' => e = .returned (.tuple #[]) ∧ Frm (fun k => some k = a.map (·.block)) w w' := by
  unfold maxLen at hx
  rcases h.block with ⟨rfl, rfl, rfl⟩ | ⟨g, rfl, _, hg, hc, cur, hcur, hsz⟩
  · clear h
    go_enter Try.func40, Try.ntmps40
    go_wp2
    go_loop [2] (fun iv => iv = .int .i64 0) (fun _ => 0)
    case atStart => rfl
    case round =>
      subst hrel
      go_wp2
      go_end0
      exact ⟨rfl, Frm.refl _ _⟩
  · have hi : ∀ i, i < xs.length → ∃ z, cur[i * 4 + 1]? = some (.int .i64 z) := by
      intro i hi
      rcases h.isV with h | ⟨b, off, e, h⟩
      · subst h; simp at hi
      · injection e with e
        injection e with e1 e2 e3
        subst e1 e2
        have := (h i hi).c1
        rw [Nat.zero_add, cell_of_row _ _ _ _ _ _ hcur] at this
        exact ⟨_, this⟩
    have HI := Lib.hid hi
    have HC := Lib.hid hcur
    clear hi hcur h
    go_enter Try.func40, Try.ntmps40
    go_wp2
    go_loopw [2] (fun iv wr => ∃ n : Nat, n ≤ xs.length ∧ iv = .int .i64 n ∧ Hid (Frm (fun k => some k = (some (⟨g, 0, none⟩ : Addr)).map (·.block)) w wr) ∧ Hid (∃ cur, wr.heap[g]? = some (.cells cur 57 (0, 0)) ∧ ∀ i, i < xs.length → ∃ z, cur[i * 4 + 1]? = some (.int .i64 z))) (fun iv _ => xs.length - (intOf iv).toNat)
    case atStart => exact ⟨0, Nat.zero_le _, rfl, Frm.refl _ _, cur, HC.out, HI.out⟩
    case round =>
      obtain ⟨n, hle, rfl, HF, hcur2⟩ := hrel
      by_cases cn : n < xs.length
      · obtain ⟨cr, hcr, hall⟩ := hcur2
        obtain ⟨z, hz⟩ := hall n cn
        have hce := (cell_of_row wr g (n * 4 + 1) _ _ _ hcr).trans hz
        have hfz := frozen_of_row wr g (n * 4 + 1) _ _ hcr
        have HA := Lib.hid hall
        have HCR := Lib.hid hcr
        have hns : n * 4 + 1 < cr.size := (Array.getElem?_eq_some_iff.1 hz).1
        clear hall hcr hz
        go_wp2
        go_roundw
        case rel =>
          refine ⟨n + 1, by omega, by go_num, HF.out.setCell (p := ⟨g, n * 4 + 1, none⟩) rfl _, _, heap_setCell_same _ _ _ _ _ _ HCR.out, fun i hi => ?_⟩
          rw [Array.getElem?_setIfInBounds]
          by_cases e : n * 4 + 1 = i * 4 + 1
          · rw [if_pos e, if_pos hns]; exact ⟨_, rfl⟩
          · rw [if_neg e]; exact HA.out i hi
        case measure => simp [intOf]; omega
      · obtain rfl : n = xs.length := by omega
        clear cn
        go_wp2
        go_end0
        exact ⟨rfl, HF.out⟩
end Go.Proofs.Ythfakpekdjmpjaa
