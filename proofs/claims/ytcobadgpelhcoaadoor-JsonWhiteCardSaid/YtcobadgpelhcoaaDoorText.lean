/- The parser of the document's answer: a text. -/
import Derived.Test.YtcobadgpelhcoaaDoorEsc
import Derived.Test.YtcobadgpelhcoaaDoorOwn
import Derived.Test.YtcobadgpelhcoaaDoorRRune2
import Derived.StillTailTactics
namespace Go.Proofs.YtcobadgpelhcoaaDoor
open Go.Conc Go.RowKit
set_option linter.unusedVariables false

theorem tx_bad {l acc : List UInt8} {g k : Nat} (h : (rr l k).2 = 0 ∨ (rr l k).1 < 32) : textAt l (g + 1) k acc = .error 300 := by
  unfold textAt; rw [if_pos h]
theorem tx_end {l acc : List UInt8} {g k : Nat} (h : ¬ ((rr l k).2 = 0 ∨ (rr l k).1 < 32)) (h2 : (rr l k).1 = 34) : textAt l (g + 1) k acc = .ok (acc, k + 1) := by
  unfold textAt; rw [if_neg h, if_pos h2]
theorem tx_err {l acc : List UInt8} {g k : Nat} {e : Int} (h : ¬ ((rr l k).2 = 0 ∨ (rr l k).1 < 32)) (h2 : (rr l k).1 = 92) (h3 : escAt l (k + 1) = .error e) : textAt l (g + 1) k acc = .error e := by
  unfold textAt; rw [if_neg h, if_neg (by omega), if_pos h2, h3]
theorem tx_esc {l acc bs : List UInt8} {g k k' : Nat} (h : ¬ ((rr l k).2 = 0 ∨ (rr l k).1 < 32)) (h2 : (rr l k).1 = 92) (h3 : escAt l (k + 1) = .ok (bs, k')) : textAt l (g + 1) k acc = textAt l g k' (acc ++ bs) := by
  conv => lhs; unfold textAt
  rw [if_neg h, if_neg (by omega), if_pos h2, h3]
theorem tx_run {l acc : List UInt8} {g k : Nat} (h : ¬ ((rr l k).2 = 0 ∨ (rr l k).1 < 32)) (h2 : ¬ (rr l k).1 = 34) (h3 : ¬ (rr l k).1 = 92) : textAt l (g + 1) k acc = textAt l g (k + (rr l k).2.toNat) (acc ++ (l.drop k).take (rr l k).2.toNat) := by
  conv => lhs; unfold textAt
  rw [if_neg h, if_neg h2, if_neg h3]

/-- What was read, and the place behind it; or the error, and some place. -/
def TextDid (pb : Nat) (s : ByteArray) (r : Rd (List UInt8)) (w : World) (e : Ending) (w' : World) : Prop :=
  ∃ (t : ByteArray) (k : Nat) (c : Int), e = .returned (.string t) ∧ k ≤ s.size ∧ PAt w' pb s k c ∧ Frm (One pb) w w' ∧
    (match r with | .ok (bs, k') => t = ⟨bs.toArray⟩ ∧ k = k' ∧ c = 0 | .error x => c = x ∧ x = 300)
/-- The loop goes on, or it has failed. -/
def TxRel (pb : Nat) (s : ByteArray) (R : Rd (List UInt8)) (w : World) (g : Nat) (ov : Value) (wr : World) : Prop :=
  (∃ (k : Nat) (acc : List UInt8), k ≤ s.size ∧ s.size + 1 ≤ k + g ∧ PAt wr pb s k 0 ∧ textAt s.data.toList g k acc = R ∧ wr.ownsRow w.heap.size 5 1 ov acc.length (byteCells acc) ∧ acc.length ≤ 4 * k ∧ Frm (One pb) w wr)
  ∨ (∃ k : Nat, k ≤ s.size ∧ PAt wr pb s k 300 ∧ R = .error 300 ∧ Frm (One pb) w wr)

theorem PAt.grown {w w' : World} {pb i base e size n : Nat} {s : ByteArray} {code : Int} {v : Value} {xs : List Value} (h : PAt w pb s i code) (ho : w.ownsRow base e size v n xs) (hb : pb < base) (hg : w.grownBy w' v.ownBlock) : PAt w' pb s i code :=
  (hg.block pb h.lt fun e => by have := own_block ho e; omega).trans h
theorem own_more {w : World} {base : Nat} {v : Value} {a b : List UInt8} (h : w.ownsRow base 5 1 v (a.length + (ByteArray.mk b.toArray).size) (byteCells a ++ Lib.strCells ⟨b.toArray⟩)) : w.ownsRow base 5 1 v (a ++ b).length (byteCells (a ++ b)) := by
  rw [str_cells, ← byteCells_append] at h
  rw [List.length_append]
  have e : (ByteArray.mk b.toArray).size = b.length := by simp [ByteArray.size]
  rw [e] at h
  exact h
theorem escAt_ge {l bs : List UInt8} {i k : Nat} (h : escAt l i = .ok (bs, k)) : i + 1 ≤ k ∧ bs.length ≤ 4 := by
  unfold escAt at h
  split at h
  · simp at h
  · split at h
    · simp only [Except.ok.injEq, Prod.mk.injEq] at h
      obtain ⟨rfl, rfl⟩ := h
      simp
    · split at h
      · simp at h
      · split at h
        · simp at h
        · split at h
          · split at h
            · simp at h
            · split at h
              · simp at h
              · simp only [Except.ok.injEq, Prod.mk.injEq] at h
                obtain ⟨rfl, rfl⟩ := h
                exact ⟨by omega, enc_le _⟩
          · split at h
            · simp only [Except.ok.injEq, Prod.mk.injEq] at h
              obtain ⟨rfl, rfl⟩ := h
              exact ⟨by omega, enc_le _⟩
            · simp at h
theorem rrune_at (s : ByteArray) (k : Nat) (hk : k ≤ s.size) (hs : s.size ≤ 65536) (w : World) :
    Calls Tryd.prog 57 #[.string s, .int .i64 k] w fun e w' => e = .returned (.tuple #[.int .i64 (rr s.data.toList k).1, .int .i64 (rr s.data.toList k).2]) ∧ w' = w := by
  by_cases h : k < s.size
  · exact (rrune_in s k h (by omega) w).mono fun e w' ⟨a, b⟩ => ⟨a, b.symm⟩
  · have e : rr s.data.toList k = (0, 0) := by
      unfold rr run4
      rw [lead_none (by simp; omega), if_pos (by omega)]
    rw [e]
    exact (rrune_out s k (.inr (by omega)) w).mono fun e w' ⟨a, b⟩ => ⟨a, b.symm⟩

set_option maxHeartbeats 8000000 in
set_option maxRecDepth 100000 in
theorem ptext_any (pb : Nat) (s : ByteArray) (i : Nat) (w : World) (h : PAt w pb s i 0) (hi : i < s.size) (hs : s.size ≤ 65536) :
    Calls Tryd.prog 35 #[.pointer (some ⟨pb, 0, none⟩)] w (TextDid pb s (textOf s.data.toList i) w) := by
  have HL := Lib.hid (show s.data.toList.length = s.size by simp)
  have hlt := h.lt
  have c1 := h.c1
  have f1 := h.fz 1
  have H := Lib.hid h
  clear h
  unfold textOf
  rw [HL.out]
  generalize hR : textAt s.data.toList (s.size + 1) (i + 1) [] = R
  have HR := Lib.hid hR
  clear hR
  obtain ⟨i0, hi0, hz0, hz1, hz2⟩ := info_parts infoByte
  go_enter Tryd.func35, Tryd.ntmps35
  go_wp2
  go_loopg [3] (s.size + 1) (fun g ov wr => TxRel pb s R w g ov wr)
  case atStart => exact .inl ⟨i + 1, [], by omega, by omega, H.out.setAt (i + 1), HR.out, World.ownsRow_nil _ _ _ _, by simp, frm_at _ _ _ _⟩
  case round =>
    rcases hrel with ⟨k, acc, hk, hkg, hp, htx, hrow, hacc, hf⟩ | ⟨k, hk, hp, rfl, hf⟩
    · obtain ⟨g, rfl⟩ : ∃ g, gk = g + 1 := ⟨gk - 1, by omega⟩
      have c0 := hp.c0
      have c1 := hp.c1
      have c2 := hp.c2
      have f1 := hp.fz 1
      have HP := Lib.hid hp
      have HF := Lib.hid hf
      have HRow := Lib.hid hrow
      have HT := Lib.hid htx
      have HAcc := Lib.hid hacc
      have TR := Lib.hid (rrune_at s k hk hs)
      have hle := rr_le s.data.toList k
      have hin := rr_in s.data.toList k
      have l1 := @tx_bad s.data.toList acc g k
      have l2 := @tx_end s.data.toList acc g k
      have l3 := fun e => @tx_err s.data.toList acc g k e
      have l4 := fun bs k' => @tx_esc s.data.toList acc bs g k k'
      have l5 := @tx_run s.data.toList acc g k
      rw [htx] at l1 l2 l3 l4 l5
      rw [HL.out] at hin
      clear hp hf hrow htx hacc
      generalize rr s.data.toList k = q at *
      obtain ⟨r, z⟩ := q
      simp only at hle hin l1 l2 l3 l4 l5 TR
      obtain ⟨m, rfl⟩ : ∃ m : Nat, z = (m : Int) := ⟨z.toNat, by omega⟩
      have HIn := Lib.hid hin
      clear hin
      by_cases hbad : (m : Int) = 0 ∨ r < 32
      · have er := l1 hbad
        subst er
        clear l1 l2 l3 l4 l5
        by_cases hm : (m : Int) = 0
        · have g1 : ((m : Int) == 0) = true := by simpa using hm
          clear hbad hm
          go_wp2
          go_quiet ((go_at_call 57; exact Calls.quiet_of_same (TR.out _)))
          go_wp2_with (go_at_call 24; refine (pfail0 pb s k _ (HP.out.drewN _)).mono ?_; rintro e w1 ⟨rfl, p1, q1⟩; have P1 := Lib.hid p1; have Q1 := Lib.hid q1; clear p1 q1)
          go_roundg g
          case rel => exact .inr ⟨k, hk, P1.out, rfl, (HF.out.drewN nq).trans Q1.out⟩
          case measure => omega
        · have g1 : ((m : Int) == 0) = false := by simpa using hm
          have g2 : r < 32 := by omega
          clear hbad hm
          go_wp2
          go_quiet ((go_at_call 57; exact Calls.quiet_of_same (TR.out _)))
          go_wp2_with (go_at_call 24; refine (pfail0 pb s k _ (HP.out.drewN _)).mono ?_; rintro e w1 ⟨rfl, p1, q1⟩; have P1 := Lib.hid p1; have Q1 := Lib.hid q1; clear p1 q1)
          go_roundg g
          case rel => exact .inr ⟨k, hk, P1.out, rfl, (HF.out.drewN nq).trans Q1.out⟩
          case measure => omega
      have g1 : ((m : Int) == 0) = false := by simp; omega
      have g2 : 32 ≤ r := by omega
      have hkm := HIn.out (by omega)
      have hm1 : 1 ≤ m := by omega
      have hm4 : m ≤ 4 := by omega
      have hpb : ∀ g, w.heap.size ≤ g → ¬ One pb g := fun g hg hgp => by have : g = pb := hgp; omega
      have HPb := Lib.hid hpb
      clear hpb
      by_cases h34 : r = 34
      · have er := l2 hbad h34
        subst er
        subst h34
        clear l1 l2 l3 l4 l5 hbad
        have hcv := fun n : Nat => own_text (own_frm HRow.out (((Frm.refl (One pb) wr).drewN n).trans (frm_at _ pb 1 (.int .i64 ((k : Int) + 1)))) HPb.out)
        go_wp2
        go_quiet ((go_at_call 57; exact Calls.quiet_of_same (TR.out _)))
        go_wp2
        go_ret
        exact ⟨_, k + 1, 0, rfl, by omega, (HP.out.drewN nq).setAt (k + 1), (HF.out.drewN nq).trans (frm_at _ _ _ _), rfl, rfl, rfl⟩
      have g3 : ((r : Int) == 34) = false := by simpa using h34
      by_cases h92 : r = 92
      · subst h92
        cases hE : escAt s.data.toList (k + 1) with
        | error e =>
          have er := l3 e hbad rfl hE
          subst er
          clear l1 l2 l3 l4 l5 hbad h34
          have HE := Lib.hid hE
          clear hE
          go_wp2
          go_quiet ((go_at_call 57; exact Calls.quiet_of_same (TR.out _)))
          go_wp2_with fail
          refine (pescape_any pb s (k + 1) _ ((HP.out.drewN nq).setAt (k + 1)) (by omega) hs).mono ?_
          rw [HE.out]
          rintro e w1 ⟨tt, k1, c, rfl, ht4, hk1, p1, q1, rfl, rfl⟩
          have q2 := ((Frm.refl (One pb) wr).drewN nq).trans ((frm_at _ pb 1 (.int .i64 ((k + 1 : Nat) : Int))).trans q1)
          have hrow1 := own_frm HRow.out q2 HPb.out
          have P1 := Lib.hid p1
          have F1 := Lib.hid (HF.out.trans q2)
          have HRow1 := Lib.hid hrow1
          clear p1 q1 q2 hrow1
          go_wp2_with (at_builtin; refine Lib.wpList_append_own_string _ rfl _ _ 47 9 rfl w.heap.size 5 i0 Tryd.underlying47 Tryd.underlying9 hi0 hz0 hz1 hz2 _ acc.length (byteCells acc) rfl HRow1.out tt rfl (by have := HAcc.out; simp only [maxLen]; omega) (by have := HAcc.out; omega) F1.out.size ?_; intro v' w2 hown hgrow _; have HO := Lib.hid hown; clear hown; have HG := Lib.hid hgrow; clear hgrow)
          go_roundg g
          case rel => exact .inr ⟨k1, hk1, P1.out.grown HRow1.out (by omega) HG.out, rfl, frm_own F1.out HRow1.out HG.out⟩
          case measure => omega
        | ok bk =>
          obtain ⟨bs, k'⟩ := bk
          have er := l4 bs k' hbad rfl hE
          obtain ⟨hk', hb4⟩ := escAt_ge hE
          have HER := Lib.hid er
          clear l1 l2 l3 l4 l5 hbad h34 er
          have HE := Lib.hid hE
          clear hE
          go_wp2
          go_quiet ((go_at_call 57; exact Calls.quiet_of_same (TR.out _)))
          go_wp2_with fail
          refine (pescape_any pb s (k + 1) _ ((HP.out.drewN nq).setAt (k + 1)) (by omega) hs).mono ?_
          rw [HE.out]
          rintro e w1 ⟨tt, k1, c, rfl, ht4, hk1, p1, q1, rfl, rfl, rfl⟩
          have q2 := ((Frm.refl (One pb) wr).drewN nq).trans ((frm_at _ pb 1 (.int .i64 ((k + 1 : Nat) : Int))).trans q1)
          have hrow1 := own_frm HRow.out q2 HPb.out
          have P1 := Lib.hid p1
          have F1 := Lib.hid (HF.out.trans q2)
          have HRow1 := Lib.hid hrow1
          clear p1 q1 q2 hrow1
          go_wp2_with (at_builtin; refine Lib.wpList_append_own_string _ rfl _ _ 47 9 rfl w.heap.size 5 i0 Tryd.underlying47 Tryd.underlying9 hi0 hz0 hz1 hz2 _ acc.length (byteCells acc) rfl HRow1.out ⟨bs.toArray⟩ rfl (by have := HAcc.out; simp only [maxLen]; omega) (by have := HAcc.out; omega) F1.out.size ?_; intro v' w2 hown hgrow _; have HO := Lib.hid hown; clear hown; have HG := Lib.hid hgrow; clear hgrow)
          go_roundg g
          case rel => exact .inl ⟨k1, acc ++ bs, hk1, by omega, P1.out.grown HRow1.out (by omega) HG.out, HER.out.symm, own_more HO.out, by have := HAcc.out; simp only [List.length_append]; omega, frm_own F1.out HRow1.out HG.out⟩
          case measure => omega
      · have er := l5 hbad h34 h92
        rw [Int.toNat_natCast] at er
        obtain ⟨bs, hbs⟩ : ∃ bs, bs = (s.data.toList.drop k).take m := ⟨_, rfl⟩
        rw [← hbs] at er
        have hbl : bs.length = m := by rw [hbs, List.length_take, List.length_drop, HL.out]; omega
        have hbz : (ByteArray.mk bs.toArray).size = m := by rw [← hbl]; simp [ByteArray.size]
        have HER := Lib.hid er
        have HBL := Lib.hid hbl
        have HBZ := Lib.hid hbz
        have g4 : ((r : Int) == 92) = false := by simpa using h92
        have hex : Hid ((s.extract k (k + m)) = ⟨bs.toArray⟩) := by
          refine WideShapes.bytes_inj ?_
          rw [hbs]
          simp [ByteArray.data_extract, List.extract_eq_take_drop]
        clear l1 l2 l3 l4 l5 hbad h34 er h92 hbs hbl hbz
        have z1 : IntKind.i64.wrap ((k : Int) + (m : Int)) = (k : Int) + (m : Int) := IntWalk.i64_in _ (by omega)
        have z2 : (0 : Int) ≤ (k : Int) + (m : Int) := by omega
        have z3 : ((k : Int) + (m : Int)).toNat = k + m := by omega
        have z4 : (k : Int) + (m : Int) ≤ (s.size : Int) := by omega
        have z5 : (k : Int) ≤ (k : Int) + (m : Int) := by omega
        go_wp2
        go_quiet ((go_at_call 57; exact Calls.quiet_of_same (TR.out _)))
        go_wp2_with fail
        refine wp_region_still_tail 16 (by kernel_rfl) (by kernel_rfl) ?_
        simp only [List.take_succ_cons, List.take_zero, List.drop_succ_cons, List.drop_zero]
        obtain ⟨v, hv⟩ : ∃ v, v = (wr.drewN nq).drew := ⟨_, rfl⟩
        change wpStill _ _ (wr.drewN nq).drew (fun a' => wpList _ _ _ _ a' (wr.drewN nq).drew) _ _
        rw [← hv]
        have F0 : Hid (Frm (One pb) wr v) := by unfold Hid; rw [hv]; exact ((Frm.refl (One pb) wr).drewN nq).drew
        have P0 : Hid (PAt v pb s k 0) := by unfold Hid; rw [hv]; exact HP.out
        have d0 := P0.out.c0
        have d1 := P0.out.c1
        have d2 := P0.out.c2
        have e1 := P0.out.fz 1
        have HRow0 := Lib.hid (own_frm HRow.out F0.out HPb.out)
        clear hv
        repeat still_step
        refine wpStill_nil ?_
        rw [hex.out]
        go_wp2_with (at_builtin; refine Lib.wpList_append_own_string _ rfl _ _ 47 9 rfl w.heap.size 5 i0 Tryd.underlying47 Tryd.underlying9 hi0 hz0 hz1 hz2 _ acc.length (byteCells acc) rfl HRow0.out ⟨bs.toArray⟩ rfl (by have := HAcc.out; have := HBZ.out; simp only [maxLen]; omega) (by have := HAcc.out; have := HBZ.out; omega) (HF.out.trans F0.out).size ?_; intro v' w2 hown hgrow _; have HO := Lib.hid hown; clear hown; have HG := Lib.hid hgrow; clear hgrow; have P2 := Lib.hid (P0.out.grown HRow0.out (by omega) HG.out); have x0 := P2.out.c0; have x1 := P2.out.c1; have x2 := P2.out.fz 1)
        go_roundg g
        case rel => exact .inl ⟨k + m, acc ++ bs, by omega, by omega, P2.out.setAt (k + m), HER.out.symm, own_frm (own_more HO.out) (frm_at _ pb 1 (.int .i64 ((k : Int) + (m : Int)))) HPb.out, by have := HAcc.out; have := HBL.out; simp only [List.length_append]; omega, (frm_own (HF.out.trans F0.out) HRow0.out HG.out).trans (frm_at _ _ _ _)⟩
        case measure => omega
    · have c2 := hp.c2
      have HP := Lib.hid hp
      have HF := Lib.hid hf
      clear hp hf
      go_wp2
      go_ret
      exact ⟨⟨#[]⟩, k, 300, rfl, hk, HP.out, HF.out, rfl, rfl⟩
end Go.Proofs.YtcobadgpelhcoaaDoor
