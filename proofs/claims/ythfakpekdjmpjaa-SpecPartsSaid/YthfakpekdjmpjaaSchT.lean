/- The document's schemas: New. -/
import Derived.Test.YthfakpekdjmpjaaSchS
import Derived.Test.YthfakpekdjmpjaaSchN
import Derived.Test.YthfakpekdjmpjaaQd
namespace Go.Proofs.Ythfakpekdjmpjaa
open Go.Conc Go.RowKit
set_option linter.unusedVariables false
set_option linter.unusedSimpArgs false

/-- One more column, out of a block that is known. -/
theorem wp_co9 {base g2 : Nat} {w : World} {ad : Option Addr} {cap : Nat} {xs : List Co} (h : OwnCo base w ad cap xs) (hb : base ≤ w.heap.size) (hO : xs.length ≤ 4398046511103) {ops : Array Oper} {rest : List Oper} {op : Oper} {A : Act} {Q : Exit → Act → World → Prop} (hgd : op.guard = none) (sl x : Operand)
    (ho : op.op = .call { callee := .builtin .append, args := #[sl, x], argTypes := #[22, 22] }) (v : Co) (hv : w.heap[g2]? = some (.cells #[.int .i64 v.id, .string v.nm, .int .i64 v.kd] 49 (0, 0))) (hs : A.eval sl = .slice ad xs.length cap) (hx : A.eval x = .slice (some ⟨g2, 0, none⟩) 1 1)
    (hK : ∀ ad' cap' w', OwnCo base w' ad' cap' (xs ++ [v]) → Frm (At ad) w w' → wpList Try.prog ops Q rest (A.put op.dst (.slice ad' (xs ++ [v]).length cap')) w') : wpList Try.prog ops Q (op :: rest) A w := by
  obtain ⟨v', w', hr, hown, hgrow, hnew⟩ := run_append_co w base hb (.slice ad xs.length cap) xs.length (rowCo xs) (rowCo [v]) h (rowCo_length xs) hO (by rw [rowCo_length]; rfl) (rowCo_cells _) ⟨g2, 0, none⟩ 1 (fun j u hj => by
    rw [addr_off, Nat.zero_add, cell_of_row _ _ _ _ _ _ hv]
    simpa [rowCo, Co.cells] using hj)
  obtain ⟨ad', cap', rfl⟩ := own_form hown
  have hl : (xs ++ [v]).length = xs.length + 1 := by simp
  have ho' : OwnCo base w' ad' cap' (xs ++ [v]) := by
    unfold OwnCo
    rw [hl, rowCo_append]
    exact hown
  have hf : Frm (At ad) w w' := (Frm.refl (At ad) w).grown hgrow (fun k hk => by
    rcases own_head h with rfl | ⟨g, rfl⟩
    · simp [Value.ownBlock] at hk
    · simp [Value.ownBlock] at hk; simp [At, hk])
  have := hK ad' cap' w' ho' hf
  rw [hl] at this
  exact wpV_append_eq _ hgd sl x 22 22 ho _ _ hs hx (hr _) this

set_option maxRecDepth 100000 in
set_option maxHeartbeats 4000000 in
theorem refnewschema_any (w : World) (an ak : Option Addr) (cn ck : Nat) (ns : List ByteArray) (ks : List Int) (hn : IsT w an ns) (hk : IsL w ak ks) (hl1 : ns.length ≤ 4398046511103) (hl2 : ks.length ≤ 140737488355328) :
    Calls Try.prog 25 #[.slice an ns.length cn, .slice ak ks.length ck] w (ScPost w (newA ns ks)) := by
  obtain ⟨R, hR⟩ : ∃ R, R = newA ns ks := ⟨_, rfl⟩
  rw [← hR]
  unfold newA at hR
  obtain ⟨u, hu⟩ : ∃ u, u = w.alloc (.cells #[.int .i64 0, .slice none 0 0, .int .i64 0] 24) := ⟨_, rfl⟩
  have hbu : Below w.heap.size w u := by rw [hu]; exact (Below.refl _ _).alloc (Nat.le_refl _) _
  have HR := Lib.hid (show ScSlot u w.heap.size none 0 zeroSc by rw [hu]; exact ScSlot.new w none 0 zeroSc)
  have HB := Lib.hid hbu
  have HE : Hid (Below u.heap.size u u) := Below.refl _ _
  have HN := Lib.hid (hn.below hbu)
  have HK := Lib.hid (hk.below hbu)
  clear hbu hn hk
  by_cases h1 : ns.length = ks.length
  · have d1 : ((ns.length : Int) != (ks.length : Int)) = false := by rw [h1]; simp
    rw [if_neg (by simpa using h1)] at hR
    have HRR := Lib.hid hR
    have H1 := Lib.hid h1
    have HL := Lib.hid hl1
    have hwn : wrap64 ((ns.length : Int) + 1) = (ns.length : Int) + 1 := by unfold wrap64; omega
    obtain ⟨g, hg⟩ : ∃ g, g = u.heap.size := ⟨_, rfl⟩
    obtain ⟨u1, hu1⟩ : ∃ u1, u1 = u.alloc (.cells #[.int .i64 0, .slice none 0 0, .int .i64 ((ns.length : Int) + 1)] 24) := ⟨_, rfl⟩
    have hb1 : Below u.heap.size u u1 := by rw [hu1]; exact (Below.refl _ _).alloc (Nat.le_refl _) _
    have HS1 := Lib.hid (show ScSlot u1 g none 0 ⟨0, (ns.length : Int) + 1, []⟩ by rw [hu1, hg]; exact ScSlot.new u none 0 ⟨0, (ns.length : Int) + 1, []⟩)
    have HG := Lib.hid (show g < u1.heap.size ∧ u.heap.size = g ∧ w.heap.size < u.heap.size from ⟨HS1.out.lt, hg.symm, HR.out.lt⟩)
    have HB1 := Lib.hid hb1
    clear hR h1 hb1
    go_enter Try.func25, Try.ntmps25
    go_upto_region 1 with fail
    change Code.wp _ _ _ _ (w.alloc (.cells #[.int .i64 0, .slice none 0 0, .int .i64 0] 24))
    rw [← hu]
    clear hu
    go_upto_region 4 with fail
    change Code.wp _ _ _ _ (u.alloc (.cells #[.int .i64 0, .slice none 0 0, .int .i64 ((ns.length : Int) + 1)] 24))
    rw [← hu1, ← hg]
    clear hu1 hg d1 hwn
    obtain ⟨B, hB⟩ : ∃ B, B = u1.heap.size := ⟨_, rfl⟩
    have HBB := Lib.hid hB
    clear hB
    go_wp2
    go_loopw [7] (fun iv wr => ∃ (n : Nat) (a : Option Addr) (c : Nat), n ≤ ns.length ∧ iv = .int .i64 n ∧ Hid (OwnCo B wr a c (newCols 1 (ns.take n) (ks.take n))) ∧ Hid (ScSlot wr g a c ⟨0, (ns.length : Int) + 1, newCols 1 (ns.take n) (ks.take n)⟩) ∧ Hid (Below u.heap.size u wr) ∧ Hid (B ≤ wr.heap.size)) (fun iv _ => ns.length - (intOf iv).toNat)
    case atStart => exact ⟨0, none, 0, Nat.zero_le _, rfl, OwnCo.nil _ _, HS1.out, HB1, by unfold Hid; have := HBB.out; omega⟩
    case round =>
      obtain ⟨n, a, c, hle, rfl, HO, HS, HX, HBW⟩ := hrel
      by_cases cn9 : n < ns.length
      · have ck9 : n < ks.length := by have := H1.out; omega
        have hns := newCols_snoc ns 1 ks n cn9 ck9
        have hnl := newCols_take ns ks n (by omega) (by omega) 1
        rcases HN.out.below HX.out with e | ⟨bn, on, rfl, hnc⟩
        · rw [e] at cn9; simp at cn9
        rcases HK.out.below HX.out with e | ⟨bk, ok, rfl, hkc⟩
        · rw [e] at ck9; simp at ck9
        have p1 := hnc n cn9
        have p2 := hkc n ck9
        have hcast : ((1 + n : Nat) : Int) = (n : Int) + 1 := by omega
        rw [hcast] at hns
        have HNL := Lib.hid (newCols_take ns ks (n + 1) (by omega) (by omega) 1)
        have HPL := Lib.hid hnl
        generalize hcs1 : newCols 1 (ns.take (n + 1)) (ks.take (n + 1)) = cs1 at *
        generalize newCols 1 (ns.take n) (ks.take n) = cs0 at *
        have HNS := Lib.hid hns
        have HCS := Lib.hid hcs1
        clear hcs1
        have hni : (n : Int) < (ns.length : Int) := by omega
        have hki : (n : Int) < (ks.length : Int) := by omega
        have hw9 : IntKind.i64.wrap ((n : Int) + 1) = (n : Int) + 1 := by rw [IntKind.wrap_i64]; have := HL.out; omega
        have P1 := Lib.hid (fun (v : World) (hv : Below wr.heap.size wr v) => (World.cell?_of_block (hv.block bn (World.block_lt_of_cell? wr ⟨bn, on + n, none⟩ p1))).trans p1)
        have P2 := Lib.hid (fun (v : World) (hv : Below wr.heap.size wr v) => (World.cell?_of_block (hv.block bk (World.block_lt_of_cell? wr ⟨bk, ok + n, none⟩ p2))).trans p2)
        have HCN := Lib.hid cn9
        clear hnc hkc hns hnl p1 p2 hcast
        generalize ns[n] = x at *
        generalize ks[n] = k at *
        go_upto_region 7 with fail
        refine region_chain_tail (fun w' => Below wr.heap.size wr w') 14 [13] [0, 1, 2, 3, 4, 5, 6, 7, 8, 9, 10, 11, 12] (fun l => l.take 13) (fun l => (l.take 14).drop 13) (by kernel_rfl) (by kernel_rfl) (by kernel_rfl) (by kernel_rfl) (Below.refl _ _).drew (fun w1 w2 h1 h2 => h1.trans (h2.mono h1.size)) ?_
        simp only [List.take_succ_cons, List.take_zero, List.drop_succ_cons, List.drop_zero]
        repeat (
          refine wpExt_step (fun K9 hK => ?_)
          go_simp
          first
          | (refine hK _ ?_; clear hK K9)
          | (apply Exists.intro
             refine ⟨fun v1 hv1 => ?_, hK _ ?_⟩
             (first
               | (exact rfl)
               | (obtain ⟨b0, b1, b2⟩ := (HS.out.below hv1).at; simp only at b0 b1 b2; simp only [b0, b1, b2, Result.andThen]; exact ⟨trivial, rfl⟩)
               | (have p1 := P1.out v1 hv1; simp only [p1, Result.andThen]; exact ⟨trivial, rfl⟩)
               | (have p2 := P2.out v1 hv1; simp only [p2, Result.andThen]; exact ⟨trivial, rfl⟩)
               | (exact ⟨trivial, rfl⟩))
             clear hK K9))
        refine wpExt_nil ?_
        intro w0 hw0
        refine chainQ_step (fun K9 hK w1 hw1 hb1 => ?_)
        go_simp
        refine ⟨hw1.alloc hw1.size _, hK _ _ ?_⟩
        clear hK K9 hb1
        have hn2 : (w1.alloc (.cells #[.int .i64 ((n : Int) + 1), .string x, .int .i64 k] 49)).heap[w1.heap.size]? = some (.cells #[.int .i64 ((n : Int) + 1), .string x, .int .i64 k] 49 (0, 0)) := heap_alloc_new w1 _
        have HN2 := Lib.hid hn2
        clear hn2
        generalize w1.heap.size = g2 at HN2 ⊢
        generalize w1.alloc (.cells #[.int .i64 ((n : Int) + 1), .string x, .int .i64 k] 49) = w2 at *
        refine chainQ_nil (fun w9 hw9 hb9 => ?_)
        have HN9 := Lib.hid ((hb9.block g2 (Array.getElem?_eq_some_iff.1 HN2.out).1).trans HN2.out)
        have HS9 := Lib.hid (HS.out.below hw9)
        have HO9 := Lib.hid (HO.out.below hw9)
        have HX9 := Lib.hid (HX.out.trans (hw9.mono HX.out.size))
        have hbw9 := Nat.le_trans HBW.out hw9.size
        have HBW9 := Lib.hid hbw9
        have hl0 : cs0.length ≤ 4398046511103 := by have := HPL.out; have := HL.out; omega
        clear hb9 hw9 hw1 HN2 HS HO HX HBW P1 P2 hw0
        have hne7 : ∀ j, At a j → j ≠ g := fun j hj e => by have h1 := (HO9.out.at_ge hj).1; have h2 := HG.out; have h3 := HBB.out; omega
        have HNE := Lib.hid hne7
        clear hne7
        go_wp2_with (at_builtin; refine wp_co9 HO9.out HBW9.out hl0 rfl _ _ rfl ⟨(n : Int) + 1, x, k⟩ HN9.out rfl rfl ?_; intro a' c' w3 ho hf; rw [← HNS.out] at ho ⊢; have HO8 := Lib.hid ho; have HF8 := Lib.hid hf; have hd8 := HS9.out.frm hf (fun e => HNE.out g e rfl); obtain ⟨z0, z1, z2⟩ := hd8.at; obtain ⟨y0, y1, y2⟩ := hd8.froz; simp only at z0 z1 z2; have HD8 := Lib.hid hd8; clear ho hf hd8)
        have hp := HD8.out.setC a' c' cs1
        have hpf : Frm (fun j => j = g) w3 (w3.setCell ⟨g, 1, none⟩ (.slice a' cs1.length c')) := (Frm.refl (fun j => j = g) w3).setCell (p := ⟨g, 1, none⟩) rfl _
        refine ⟨⟨n + 1, a', c', by have := HCN.out; omega, by go_num, ?_, ?_, ?_, ?_⟩, by have := HCN.out; simp [intOf]; omega⟩
        · rw [HCS.out]
          exact own_off HO8.out HD8.out hpf
        · rw [HCS.out]
          exact hp
        · exact Frm.to_below (Frm.to_below HX9.out HF8.out (fun k hk => by have h1 := (HO9.out.at_ge hk).1; have h2 := HG.out; have h3 := HBB.out; omega) (Nat.le_refl _)) hpf (fun k e => by have := HG.out; omega) (Nat.le_refl _)
        · exact Nat.le_trans HBW9.out (Nat.le_trans HF8.out.size hpf.size)
      · obtain rfl : n = ns.length := by omega
        have hkl : ks.take ns.length = ks := by rw [H1.out]; exact List.take_length
        rw [List.take_length, hkl] at HO HS
        clear hkl cn9 hle
        have hrr := HRR.out
        obtain ⟨s9, hs9⟩ : ∃ s9 : Sc, s9 = ⟨0, (ns.length : Int) + 1, newCols 1 ns ks⟩ := ⟨_, rfl⟩
        rw [← hs9] at hrr HS
        have HO : Hid (OwnCo B wr a c s9.cs) := by rw [hs9]; exact HO
        have HRS := Lib.hid hrr
        clear hrr hs9 HRR
        have T9 := Lib.hid (refschmay_any wr a c s9 HO.out.isX (own_max HO.out))
        obtain ⟨b0, b1, b2⟩ := HS.out.at
        cases hm9 : maySc s9 with
        | false =>
          obtain rfl : R = (zeroSc, 1200) := by rw [HRS.out, if_pos hm9]
          rw [hm9] at T9
          clear hm9 HRS
          go_upto_region 9 with (go_at_call 21; refine T9.out.mono ?_; rintro e w7 ⟨rfl, hb7⟩; have HB7 := Lib.hid (HX.out.trans (hb7.mono HX.out.size)); clear hb7)
          clear b0 b1 b2
          obtain ⟨z0, z1, z2⟩ := (HR.out.below HB7.out).at
          obtain ⟨y0, y1, y2⟩ := (HR.out.below HB7.out).froz
          simp only [zeroSc] at z0 z1 z2
          go_wp2
          change bodyPost _ _ _ _ _ (putSc w7 w.heap.size none 0 zeroSc)
          have hp := (HR.out.below HB7.out).put none 0 zeroSc
          have hpf := putSc_frm (g := w.heap.size) (F := fun j => j = w.heap.size) rfl w7 none 0 zeroSc
          generalize putSc w7 w.heap.size none 0 zeroSc = w99 at *
          obtain ⟨b0, b1, b2⟩ := hp.at
          simp only [zeroSc] at b0 b1 b2
          clear z0 z1 z2 y0 y1 y2
          refine bodyPost_ret (v := .tuple #[.agg #[.int .i64 0, .slice none 0 0, .int .i64 0], .int .i64 1200]) (by simp [results, Try.results25, go_sem, b0, b1, b2]) rfl ?_
          exact ⟨none, 0, rfl, OwnCo.nil _ _, Frm.to_below (HB.out.trans (HB7.out.mono HB.out.size)) hpf (fun k e => by rw [e]; exact Nat.le_refl _) (Nat.le_refl _)⟩
        | true =>
          obtain rfl : R = (s9, 0) := by rw [HRS.out, if_neg (by rw [hm9]; simp)]
          rw [hm9] at T9
          clear hm9 HRS
          go_upto_region 10 with (go_at_call 21; refine T9.out.mono ?_; rintro e w7 ⟨rfl, hb7⟩; have HB7 := Lib.hid (HX.out.trans (hb7.mono HX.out.size)); have HX7 := Lib.hid hb7; have HS7 := Lib.hid (HS.out.below hb7); have HO7 := Lib.hid (HO.out.below hb7); clear hb7)
          clear b0 b1 b2
          obtain ⟨b0, b1, b2⟩ := HS7.out.at
          obtain ⟨z0, z1, z2⟩ := (HR.out.below HB7.out).at
          obtain ⟨y0, y1, y2⟩ := (HR.out.below HB7.out).froz
          simp only [zeroSc] at z0 z1 z2
          have HR7 := Lib.hid (HR.out.below HB7.out)
          go_wp2
          change bodyPost _ _ _ _ _ (putSc w7 w.heap.size a c s9)
          have hp := HR7.out.put a c s9
          have hpf := putSc_frm (g := w.heap.size) (F := fun j => j = w.heap.size) rfl w7 a c s9
          generalize putSc w7 w.heap.size a c s9 = w99 at *
          clear z0 z1 z2 y0 y1 y2 b0 b1 b2
          obtain ⟨b0, b1, b2⟩ := hp.at
          refine bodyPost_ret (v := .tuple #[.agg #[.int .i64 s9.id, .slice a s9.cs.length c, .int .i64 s9.next], .int .i64 0]) (by simp [results, Try.results25, go_sem, b0, b1, b2]) rfl ?_
          exact ⟨a, c, rfl, (own_off HO7.out HR7.out hpf).lower (by have h1 := HB.out.size; have h2 := HG.out; have h3 := HBB.out; omega), Frm.to_below (HB.out.trans (HB7.out.mono HB.out.size)) hpf (fun k e => by rw [e]; exact Nat.le_refl _) (Nat.le_refl _)⟩
  · obtain rfl : R = (zeroSc, 1200) := by rw [hR, if_pos (by simpa using h1)]
    have d1 : ((ns.length : Int) != (ks.length : Int)) = true := by simp; omega
    clear hR h1
    go_enter Try.func25, Try.ntmps25
    go_upto_region 1 with fail
    change Code.wp _ _ _ _ (w.alloc (.cells #[.int .i64 0, .slice none 0 0, .int .i64 0] 24))
    rw [← hu]
    clear hu
    obtain ⟨z0, z1, z2⟩ := (HR.out.below HE.out).at
    obtain ⟨y0, y1, y2⟩ := (HR.out.below HE.out).froz
    simp only [zeroSc] at z0 z1 z2
    go_wp2
    change bodyPost _ _ _ _ _ (putSc u w.heap.size none 0 zeroSc)
    have hp := (HR.out.below HE.out).put none 0 zeroSc
    have hpf := putSc_frm (g := w.heap.size) (F := fun j => j = w.heap.size) rfl u none 0 zeroSc
    generalize putSc u w.heap.size none 0 zeroSc = w99 at *
    obtain ⟨b0, b1, b2⟩ := hp.at
    simp only [zeroSc] at b0 b1 b2
    clear z0 z1 z2 y0 y1 y2
    refine bodyPost_ret (v := .tuple #[.agg #[.int .i64 0, .slice none 0 0, .int .i64 0], .int .i64 1200]) (by simp [results, Try.results25, go_sem, b0, b1, b2]) rfl ?_
    exact ⟨none, 0, rfl, OwnCo.nil _ _, Frm.to_below (HB.out.trans (HE.out.mono HB.out.size)) hpf (fun k e => by rw [e]; exact Nat.le_refl _) (Nat.le_refl _)⟩
end Go.Proofs.Ythfakpekdjmpjaa
