/- The program's schemas: New. -/
import Derived.Test.YthfakpekdjmpjaaSchG
import Derived.Test.YthfakpekdjmpjaaOneL
namespace Go.Proofs.Ythfakpekdjmpjaa
open Go.Conc Go.RowKit
set_option linter.unusedVariables false
set_option linter.unusedSimpArgs false

theorem newCols_snoc (ns : List ByteArray) : ∀ (i : Nat) (ks : List Int) (n : Nat) (h1 : n < ns.length) (h2 : n < ks.length), newCols i (ns.take (n + 1)) (ks.take (n + 1)) = newCols i (ns.take n) (ks.take n) ++ [⟨((i + n : Nat) : Int), ns[n], ks[n]⟩] := by
  induction ns with
  | nil => intro i ks n h1; simp at h1
  | cons x ns ih =>
    intro i ks n h1 h2
    cases ks with
    | nil => simp at h2
    | cons k ks =>
      cases n with
      | zero => simp [newCols]
      | succ n =>
        simp only [List.take_succ_cons, newCols, List.cons_append, List.getElem_cons_succ]
        rw [ih (i + 1) ks n (by simpa using h1) (by simpa using h2), show i + 1 + n = i + (n + 1) by omega]
theorem newCols_take (ns : List ByteArray) (ks : List Int) (n : Nat) (h1 : n ≤ ns.length) (h2 : n ≤ ks.length) (i : Nat) : (newCols i (ns.take n) (ks.take n)).length = n := by
  rw [newCols_length _ _ _ (by rw [List.length_take, List.length_take]; omega), List.length_take]; omega
theorem may_long {s : Sc} (h : 12 < s.cs.length) : maySc s = false := may_no12 (decide_eq_false (by omega))

set_option maxRecDepth 100000 in
set_option maxHeartbeats 2000000 in
theorem schnew_any (w : World) (an ak : Option Addr) (cn ck : Nat) (ns : List ByteArray) (ks : List Int) (hn : IsT w an ns) (hk : IsL w ak ks) (hl1 : ns.length ≤ 140737488355328) (hl2 : ks.length ≤ 140737488355328) :
    Calls Try.prog 24 #[.slice an ns.length cn, .slice ak ks.length ck] w (ScPost w (newA ns ks)) := by
  obtain ⟨R, hR⟩ : ∃ R, R = newA ns ks := ⟨_, rfl⟩
  rw [← hR]
  unfold newA at hR
  obtain ⟨u, hu⟩ : ∃ u, u = w.alloc (.cells #[.int .i64 0, .slice none 0 0, .int .i64 0] 24) := ⟨_, rfl⟩
  have hbu : Below w.heap.size w u := by rw [hu]; exact (Below.refl _ _).alloc (Nat.le_refl _) _
  have HR := Lib.hid (show ScSlot u w.heap.size none 0 zeroSc by rw [hu]; exact ScSlot.new w none 0 zeroSc)
  have HB := Lib.hid hbu
  have HE : Hid (Below u.heap.size u u) := Below.refl _ _
  have HN := Lib.hid (hn.below hbu)
  have HK := Lib.hid (hk.below hbu)
  clear hbu hn hk
  by_cases h1 : ns.length = ks.length
  · by_cases h2 : 12 < ns.length
    · obtain rfl : R = (zeroSc, 1200) := by
        rw [hR, if_neg (by simpa using h1), if_pos (may_long (by simp only; rw [newCols_length _ _ _ h1]; exact h2))]
      have d1 : ((ns.length : Int) != (ks.length : Int)) = false := by rw [h1]; simp
      have d2 : decide ((12 : Int) < (ns.length : Int)) = true := decide_eq_true (by omega)
      clear hR h1 h2
      go_enter Try.func24, Try.ntmps24
      go_upto_region 1 with fail
      change Code.wp _ _ _ _ (w.alloc (.cells #[.int .i64 0, .slice none 0 0, .int .i64 0] 24))
      rw [← hu]
      clear hu
      obtain ⟨z0, z1, z2⟩ := HR.out.at
      obtain ⟨y0, y1, y2⟩ := HR.out.froz
      simp only [zeroSc] at z0 z1 z2
      go_wp2
      change bodyPost _ _ _ _ _ (putSc u w.heap.size none 0 zeroSc)
      have hp := HR.out.put none 0 zeroSc
      have hpf := putSc_frm (g := w.heap.size) (F := fun j => j = w.heap.size) rfl u none 0 zeroSc
      generalize putSc u w.heap.size none 0 zeroSc = w99 at *
      obtain ⟨b0, b1, b2⟩ := hp.at
      simp only [zeroSc] at b0 b1 b2
      clear z0 z1 z2 y0 y1 y2
      refine bodyPost_ret (v := .tuple #[.agg #[.int .i64 0, .slice none 0 0, .int .i64 0], .int .i64 1200]) (by simp [results, Try.results24, go_sem, b0, b1, b2]) rfl ?_
      exact ⟨none, 0, rfl, OwnCo.nil _ _, Frm.to_below HB.out hpf (fun k e => by rw [e]; exact Nat.le_refl _) (Nat.le_refl _)⟩
    · have d1 : ((ns.length : Int) != (ks.length : Int)) = false := by rw [h1]; simp
      have d2 : decide ((12 : Int) < (ns.length : Int)) = false := decide_eq_false (by omega)
      rw [if_neg (by simpa using h1)] at hR
      have HRR := Lib.hid hR
      have H1 := Lib.hid h1
      have hl13 : ns.length < 13 := by omega
      obtain ⟨g, hg⟩ : ∃ g, g = u.heap.size := ⟨_, rfl⟩
      obtain ⟨u1, hu1⟩ : ∃ u1, u1 = u.alloc (.cells #[.int .i64 0, .slice none 0 0, .int .i64 1] 24) := ⟨_, rfl⟩
      have hb1 : Below u.heap.size u u1 := by rw [hu1]; exact (Below.refl _ _).alloc (Nat.le_refl _) _
      have HS1 := Lib.hid (show ScSlot u1 g none 0 ⟨0, 1, []⟩ by rw [hu1, hg]; exact ScSlot.new u none 0 ⟨0, 1, []⟩)
      have HG := Lib.hid (show g < u1.heap.size ∧ u.heap.size = g ∧ w.heap.size < u.heap.size from ⟨HS1.out.lt, hg.symm, HR.out.lt⟩)
      have HB1 := Lib.hid hb1
      clear hR h1 h2 hb1
      go_enter Try.func24, Try.ntmps24
      go_upto_region 1 with fail
      change Code.wp _ _ _ _ (w.alloc (.cells #[.int .i64 0, .slice none 0 0, .int .i64 0] 24))
      rw [← hu]
      clear hu
      go_upto_region 4 with fail
      change Code.wp _ _ _ _ (u.alloc (.cells #[.int .i64 0, .slice none 0 0, .int .i64 1] 24))
      rw [← hu1, ← hg]
      clear hu1 hg d1 d2
      obtain ⟨B, hB⟩ : ∃ B, B = u1.heap.size := ⟨_, rfl⟩
      have HBB := Lib.hid hB
      clear hB
      go_wp2
      go_loopw [23] (fun iv wr => ∃ (n : Nat) (a : Option Addr) (c : Nat), n ≤ ns.length ∧ iv = .int .i64 n ∧ Hid (OwnCo B wr a c (newCols 1 (ns.take n) (ks.take n))) ∧ Hid (ScSlot wr g a c ⟨0, (n : Int) + 1, newCols 1 (ns.take n) (ks.take n)⟩) ∧ Hid (Below u.heap.size u wr) ∧ Hid (B ≤ wr.heap.size)) (fun iv _ => ns.length - (intOf iv).toNat)
      case atStart => exact ⟨0, none, 0, Nat.zero_le _, rfl, OwnCo.nil _ _, HS1.out, HB1, by unfold Hid; have := HBB.out; omega⟩
      case round =>
        obtain ⟨n, a, c, hle, rfl, HO, HS, HX, HBW⟩ := hrel
        by_cases cn9 : n < ns.length
        · have ck9 : n < ks.length := by have := H1.out; omega
          have hns := newCols_snoc ns 1 ks n cn9 ck9
          have hnl := newCols_take ns ks n (by omega) (by omega) 1
          rcases HN.out.below HX.out with e | ⟨bn, on, rfl, hnc⟩
          · rw [e] at cn9; simp at cn9
          rcases HK.out.below HX.out with e | ⟨bk, ok, rfl, hkc⟩
          · rw [e] at ck9; simp at ck9
          have p1 := hnc n cn9
          have p2 := hkc n ck9
          have TW := Lib.hid (fun (v : World) (hv : Below wr.heap.size wr v) => schwith_any v B a c ⟨0, (n : Int) + 1, newCols 1 (ns.take n) (ks.take n)⟩ ns[n] ks[n] (HO.out.below hv) (Nat.le_trans HBW.out hv.size) (by simp only; rw [hnl]; omega) (by simp only; omega))
          simp only at TW
          rw [show (n : Int) + 1 = ((1 + n : Nat) : Int) by omega, ← hns] at TW
          have HNL := Lib.hid (newCols_take ns ks (n + 1) (by omega) (by omega) 1)
          have HPL := Lib.hid hnl
          generalize hcs1 : newCols 1 (ns.take (n + 1)) (ks.take (n + 1)) = cs1 at *
          generalize newCols 1 (ns.take n) (ks.take n) = cs0 at *
          have HCS := Lib.hid hcs1
          clear hcs1
          have hni : (n : Int) < (ns.length : Int) := by omega
          have hki : (n : Int) < (ks.length : Int) := by omega
          have hcast : ((1 + n : Nat) : Int) = (n : Int) + 1 := by omega
          rw [hcast] at TW
          have P2 := Lib.hid (fun (v : World) (hv : Below wr.heap.size wr v) => (World.cell?_of_block (hv.block bk (World.block_lt_of_cell? wr ⟨bk, ok + n, none⟩ p2))).trans p2)
          have HCN := Lib.hid cn9
          clear hnc hkc hns hnl p2 hcast
          generalize ns[n] = x at *
          generalize ks[n] = k at *
          go_upto_region 7 with fail
          clear p1
          refine region_class_tail (fun w' => Below wr.heap.size wr w') 6 (by kernel_rfl) (by kernel_rfl) (Below.refl _ _).drew ?_
          simp only [List.take_succ_cons, List.take_zero, List.drop_succ_cons, List.drop_zero]
          repeat (
            refine wpQuiet_step (fun K9 hK => ?_)
            go_simp
            first
            | (refine hK _ ?_; clear hK K9)
            | (apply Exists.intro
               refine ⟨fun v1 hv1 => ?_, hK _ ?_⟩
               (first
                 | (exact rfl)
                 | (obtain ⟨b0, b1, b2⟩ := (HS.out.below hv1).at; simp only at b0 b1 b2; have p2 := P2.out v1 hv1; simp only [b0, b1, b2, p2, Result.andThen]; exact ⟨trivial, rfl⟩)
                 | (exact ⟨trivial, rfl⟩))
               clear hK K9))
          refine wpQuiet_nil ?_
          intro w7 hw7
          have T7 := Lib.hid (TW.out w7 hw7)
          have HS7 := Lib.hid (HS.out.below hw7)
          have HX7 := Lib.hid (HX.out.trans (hw7.mono HX.out.size))
          have HO7 := Lib.hid (HO.out.below hw7)
          have HBW7 := Lib.hid (Nat.le_trans HBW.out hw7.size)
          have hne7 : ∀ j, At a j → j ≠ g := fun j hj e => by have h1 := (HO.out.at_ge hj).1; have h2 := HG.out; have h3 := HBB.out; omega
          have HNE := Lib.hid hne7
          clear hw7 TW HO HS HX HBW P2 hne7
          go_wp2_with (go_at_call 54; refine T7.out.mono ?_; rintro e w8 ⟨a', c', rfl, ho, hf⟩; have HO8 := Lib.hid ho; have HF8 := Lib.hid hf; have hd8 := HS7.out.frm hf (fun e => HNE.out g e rfl); obtain ⟨z0, z1, z2⟩ := hd8.at; obtain ⟨y0, y1, y2⟩ := hd8.froz; simp only at z0 z1 z2; have HD8 := Lib.hid hd8; clear ho hf hd8)
          have hp := HD8.out.put a' c' ⟨0, (n : Int) + 1 + 1, cs1⟩
          have hpf := putSc_frm (g := g) (F := fun j => j = g) rfl w8 a' c' ⟨0, (n : Int) + 1 + 1, cs1⟩
          refine ⟨⟨n + 1, a', c', by have := HCN.out; omega, by go_num, ?_, ?_, ?_, ?_⟩, by have := HCN.out; simp [intOf]; omega⟩
          · rw [HCS.out]
            exact own_off HO8.out HD8.out hpf
          · rw [HCS.out, show (((n + 1 : Nat) : Int) + 1) = (n : Int) + 1 + 1 by omega]
            exact hp
          · exact Frm.to_below (Frm.to_below HX7.out HF8.out (fun k hk => by have h1 := (HO7.out.at_ge hk).1; have h2 := HG.out; have h3 := HBB.out; omega) (Nat.le_refl _)) hpf (fun k e => by have := HG.out; omega) (Nat.le_refl _)
          · exact Nat.le_trans HBW7.out (Nat.le_trans HF8.out.size hpf.size)
        · obtain rfl : n = ns.length := by omega
          have hkl : ks.take ns.length = ks := by rw [H1.out]; exact List.take_length
          rw [List.take_length, hkl] at HO HS
          clear hkl cn9 hle
          have hrr := HRR.out
          obtain ⟨s9, hs9⟩ : ∃ s9 : Sc, s9 = ⟨0, (ns.length : Int) + 1, newCols 1 ns ks⟩ := ⟨_, rfl⟩
          rw [← hs9] at hrr HS
          have HO : Hid (OwnCo B wr a c s9.cs) := by rw [hs9]; exact HO
          have HRS := Lib.hid hrr
          clear hrr hs9 HRR
          have T9 := Lib.hid (schmay_any wr a c s9 HO.out.isX (own_max HO.out) HO.out.cap)
          obtain ⟨b0, b1, b2⟩ := HS.out.at
          cases hm9 : maySc s9 with
          | false =>
            obtain rfl : R = (zeroSc, 1200) := by rw [HRS.out, if_pos hm9]
            rw [hm9] at T9
            clear hm9 HRS
            go_upto_region 10 with (go_at_call 20; refine T9.out.mono ?_; rintro e w7 ⟨rfl, hb7⟩; have HB7 := Lib.hid (HX.out.trans (hb7.mono HX.out.size)); clear hb7)
            clear b0 b1 b2
            obtain ⟨z0, z1, z2⟩ := (HR.out.below HB7.out).at
            obtain ⟨y0, y1, y2⟩ := (HR.out.below HB7.out).froz
            simp only [zeroSc] at z0 z1 z2
            go_wp2
            change bodyPost _ _ _ _ _ (putSc w7 w.heap.size none 0 zeroSc)
            have hp := (HR.out.below HB7.out).put none 0 zeroSc
            have hpf := putSc_frm (g := w.heap.size) (F := fun j => j = w.heap.size) rfl w7 none 0 zeroSc
            generalize putSc w7 w.heap.size none 0 zeroSc = w99 at *
            obtain ⟨b0, b1, b2⟩ := hp.at
            simp only [zeroSc] at b0 b1 b2
            clear z0 z1 z2 y0 y1 y2
            refine bodyPost_ret (v := .tuple #[.agg #[.int .i64 0, .slice none 0 0, .int .i64 0], .int .i64 1200]) (by simp [results, Try.results24, go_sem, b0, b1, b2]) rfl ?_
            exact ⟨none, 0, rfl, OwnCo.nil _ _, Frm.to_below (HB.out.trans (HB7.out.mono HB.out.size)) hpf (fun k e => by rw [e]; exact Nat.le_refl _) (Nat.le_refl _)⟩
          | true =>
            obtain rfl : R = (s9, 0) := by rw [HRS.out, if_neg (by rw [hm9]; simp)]
            rw [hm9] at T9
            have TO := Lib.hid (fun (v : World) (hv : Below wr.heap.size wr v) => schowned_any v a c s9 (HO.out.isX.below hv) (own_nil HO.out) (by have := ((may_iff s9).1 hm9).1; omega) (may_names hm9))
            clear hm9 HRS
            go_upto_region 11 with (go_at_call 20; refine T9.out.mono ?_; rintro e w7 ⟨rfl, hb7⟩; have HB7 := Lib.hid (HX.out.trans (hb7.mono HX.out.size)); have HX7 := Lib.hid hb7; have HS7 := Lib.hid (HS.out.below hb7); clear hb7)
            clear b0 b1 b2
            obtain ⟨b0, b1, b2⟩ := HS7.out.at
            go_wp2_with (go_at_call 65; refine (TO.out w7 HX7.out).mono ?_; rintro e w8 ⟨a3, c3, rfl, ho, hb⟩; have HO8 := Lib.hid ho; have HB8 := Lib.hid (HB7.out.trans (hb.mono HB7.out.size)); have hr8 := HR.out.below (HB7.out.trans (hb.mono HB7.out.size)); obtain ⟨z0, z1, z2⟩ := hr8.at; obtain ⟨y0, y1, y2⟩ := hr8.froz; simp only [zeroSc] at z0 z1 z2; have HR8 := Lib.hid hr8; clear ho hb hr8)
            change bodyPost _ _ _ _ _ (putSc w8 w.heap.size a3 c3 s9)
            have hp := HR8.out.put a3 c3 s9
            have hpf := putSc_frm (g := w.heap.size) (F := fun j => j = w.heap.size) rfl w8 a3 c3 s9
            generalize putSc w8 w.heap.size a3 c3 s9 = w99 at *
            clear z0 z1 z2 y0 y1 y2 b0 b1 b2
            obtain ⟨b0, b1, b2⟩ := hp.at
            refine bodyPost_ret (v := .tuple #[.agg #[.int .i64 s9.id, .slice a3 s9.cs.length c3, .int .i64 s9.next], .int .i64 0]) (by simp [results, Try.results24, go_sem, b0, b1, b2]) rfl ?_
            exact ⟨a3, c3, rfl, (own_off HO8.out HR8.out hpf).lower (by have h1 := HB7.out.size; have h2 := HB.out.size; omega), Frm.to_below (HB.out.trans (HB8.out.mono HB.out.size)) hpf (fun k e => by rw [e]; exact Nat.le_refl _) (Nat.le_refl _)⟩
  · obtain rfl : R = (zeroSc, 1200) := by rw [hR, if_pos (by simpa using h1)]
    have d1 : ((ns.length : Int) != (ks.length : Int)) = true := by simp; omega
    clear hR h1
    go_enter Try.func24, Try.ntmps24
    go_upto_region 1 with fail
    change Code.wp _ _ _ _ (w.alloc (.cells #[.int .i64 0, .slice none 0 0, .int .i64 0] 24))
    rw [← hu]
    clear hu
    obtain ⟨z0, z1, z2⟩ := (HR.out.below HE.out).at
    obtain ⟨y0, y1, y2⟩ := (HR.out.below HE.out).froz
    simp only [zeroSc] at z0 z1 z2
    go_wp2
    change bodyPost _ _ _ _ _ (putSc u w.heap.size none 0 zeroSc)
    have hp := (HR.out.below HE.out).put none 0 zeroSc
    have hpf := putSc_frm (g := w.heap.size) (F := fun j => j = w.heap.size) rfl u none 0 zeroSc
    generalize putSc u w.heap.size none 0 zeroSc = w99 at *
    obtain ⟨b0, b1, b2⟩ := hp.at
    simp only [zeroSc] at b0 b1 b2
    clear z0 z1 z2 y0 y1 y2
    refine bodyPost_ret (v := .tuple #[.agg #[.int .i64 0, .slice none 0 0, .int .i64 0], .int .i64 1200]) (by simp [results, Try.results24, go_sem, b0, b1, b2]) rfl ?_
    exact ⟨none, 0, rfl, OwnCo.nil _ _, Frm.to_below (HB.out.trans (HE.out.mono HB.out.size)) hpf (fun k e => by rw [e]; exact Nat.le_refl _) (Nat.le_refl _)⟩
end Go.Proofs.Ythfakpekdjmpjaa
