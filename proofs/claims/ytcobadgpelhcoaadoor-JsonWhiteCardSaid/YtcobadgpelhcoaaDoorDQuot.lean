/- The program's parser: a text from its first mark to its last; an object's key. -/
import Derived.Test.YtcobadgpelhcoaaDoorDText
namespace Go.Proofs.YtcobadgpelhcoaaDoor
open Go.Conc Go.RowKit
set_option linter.unusedVariables false

/-- The loop goes on. -/
def JTx (pb d : Nat) (s : ByteArray) (R : Rd (List UInt8)) (w : World) (g : Nat) (ov : Value) (wr : World) : Prop :=
  ∃ (k : Nat) (acc : List UInt8), k ≤ s.size ∧ s.size + 1 ≤ k + g ∧ JPAt wr pb s k d ∧ textAt s.data.toList g k acc = R ∧ wr.ownsRow w.heap.size 5 1 ov acc.length (byteCells acc) ∧ acc.length ≤ 4 * k ∧ Frm (One pb) w wr

theorem JPAt.grown {w w' : World} {pb i d base e size n : Nat} {s : ByteArray} {v : Value} {xs : List Value} (h : JPAt w pb s i d) (ho : w.ownsRow base e size v n xs) (hb : pb < base) (hg : w.grownBy w' v.ownBlock) : JPAt w' pb s i d :=
  (hg.block pb h.lt fun e => by have := own_block ho e; omega).trans h
theorem jescape_ok {pb : Nat} {s : ByteArray} {i d k : Nat} {bs : List UInt8} {w : World} (h : JPAt w pb s i d) (hi : i ≤ s.size) (hs : s.size ≤ 65536) (hE : escAt s.data.toList i = .ok (bs, k)) :
    Calls Tryd.prog 83 #[.pointer (some ⟨pb, 0, none⟩)] w (JAns pb s k d (.string ⟨bs.toArray⟩) w) := by
  have := jescape_any pb s i d w h hi hs
  rw [hE] at this; exact this
theorem jescape_err {pb : Nat} {s : ByteArray} {i d : Nat} {e : Int} {w : World} (h : JPAt w pb s i d) (hi : i ≤ s.size) (hs : s.size ≤ 65536) (hE : escAt s.data.toList i = .error e) :
    Calls Tryd.prog 83 #[.pointer (some ⟨pb, 0, none⟩)] w (JThrew pb e w) := by
  have := jescape_any pb s i d w h hi hs
  rw [hE] at this; exact this
theorem escAt_in {l bs : List UInt8} {i k : Nat} (h : escAt l i = .ok (bs, k)) : k ≤ l.length := by
  unfold escAt at h
  split at h
  · simp at h
  · rename_i c hc
    have hil : i < l.length := by
      apply Decidable.byContradiction; intro hn
      rw [List.getElem?_eq_none (by omega)] at hc; cases hc
    split at h
    · simp only [Except.ok.injEq, Prod.mk.injEq] at h
      omega
    · split at h
      · simp at h
      · split at h
        · simp at h
        · rename_i x hx
          have h5 := hexAt_in hx
          split at h
          · split at h
            · simp at h
            · rename_i y hy
              have h7 := hexAt_in hy
              split at h
              · simp at h
              · simp only [Except.ok.injEq, Prod.mk.injEq] at h
                omega
          · split at h
            · simp only [Except.ok.injEq, Prod.mk.injEq] at h
              omega
            · simp at h

set_option maxHeartbeats 8000000 in
set_option maxRecDepth 100000 in
theorem jtext_yes (pb : Nat) (s : ByteArray) (i d : Nat) (w : World) (h : JPAt w pb s i d) (hi : i < s.size) (hs : s.size ≤ 65536) (hq : wordAt [34] s.data.toList i = true) :
    Calls Tryd.prog 71 #[.pointer (some ⟨pb, 0, none⟩)] w (JRes pb s d (strR (textOf s.data.toList i)) w) := by
  have HL := Lib.hid (show s.data.toList.length = s.size by simp)
  have hlt := h.lt
  have H := Lib.hid h
  have HQ := Lib.hid (jexpect_yes pb s ⟨#[34]⟩ i d w h hs (by omega) (by decide) hq)
  clear h hq
  unfold textOf
  rw [HL.out]
  generalize hR : textAt s.data.toList (s.size + 1) (i + 1) [] = R
  have HR := Lib.hid hR
  clear hR
  obtain ⟨i0, hi0, hz0, hz1, hz2⟩ := info_parts infoByte
  have hpb : ∀ g, w.heap.size ≤ g → ¬ One pb g := fun g hg hgp => by have : g = pb := hgp; omega
  have HPb := Lib.hid hpb
  clear hpb
  go_enter Tryd.func71, Tryd.ntmps71
  go_wp2_with (go_at_call 72; refine HQ.out.mono ?_; rintro e w0 ⟨rfl, hp0, hf0⟩; have HP0 := Lib.hid hp0; have HF0 := Lib.hid hf0; clear hp0 hf0)
  go_loopg [3] (s.size + 1) (fun g ov wr => JTx pb d s R w g ov wr)
  case atStart => exact ⟨i + 1, [], by omega, by omega, HP0.out, HR.out, World.ownsRow_nil _ _ _ _, by simp, HF0.out⟩
  case round =>
    obtain ⟨k, acc, hk, hkg, hp, htx, hrow, hacc, hf⟩ := hrel
    obtain ⟨g, rfl⟩ : ∃ g, gk = g + 1 := ⟨gk - 1, by omega⟩
    have c1 := hp.c1
    have f1 := hp.fz 1
    have HP := Lib.hid hp
    have HF := Lib.hid hf
    have HRow := Lib.hid hrow
    have HAcc := Lib.hid hacc
    have HT := Lib.hid htx
    clear hp hf hrow hacc htx
    by_cases h34 : pk s.data.toList k = 34
    · have hr := rr_is (by omega) (by omega) h34
      obtain ⟨b, hb, hbc, hkl⟩ := pk_some h34 (by omega)
      have er : R = .ok (acc, k + 1) := by
        rw [← HT.out]; exact tx_end (by rw [hr]; simp) (by rw [hr]; rfl)
      subst er
      have HC := Lib.hid h34
      clear h34 hr hb hbc hkl
      have hcv := fun n : Nat => own_text (own_frm HRow.out (((Frm.refl (One pb) wr).drewN n).trans (frm_at _ pb 1 (.int .i64 ((k : Int) + 1)))) HPb.out)
      go_wp2_with (go_at_call 68; refine (jpeek_is HP.out hs HC.out).mono ?_; rintro e u' ⟨rfl, nq, rfl⟩)
      go_ret
      exact ⟨rfl, (HP.out.drewN _).setAt (k + 1), (HF.out.drewN _).trans (frm_at _ _ _ _)⟩
    by_cases h92 : pk s.data.toList k = 92
    · have hr := rr_is (by omega) (by omega) h92
      obtain ⟨b, hb, hbc, hkl⟩ := pk_some h92 (by omega)
      have hk1 : k + 1 ≤ s.size := by rw [HL.out] at hkl; omega
      have HC := Lib.hid h92
      have hnb : ¬ ((rr s.data.toList k).2 = 0 ∨ (rr s.data.toList k).1 < 32) := by rw [hr]; simp
      cases hE : escAt s.data.toList (k + 1) with
      | error x =>
        have er : R = .error x := by rw [← HT.out]; exact tx_err hnb (by rw [hr]; rfl) hE
        subst er
        have HE := Lib.hid hE
        clear h34 h92 hr hb hbc hkl hnb hE
        go_wp2_with (first
          | (go_at_call 68; refine (jpeek_is HP.out hs HC.out).mono ?_; rintro e u' ⟨rfl, nq, rfl⟩)
          | (go_at_call 83; refine (jescape_err ((HP.out.drewN _).setAt (k + 1)) hk1 hs HE.out).mono ?_; rintro e w1 ⟨rfl, hf⟩; unfold thrown; have HF1 := Lib.hid hf; clear hf))
        exact ⟨rfl, rfl, ((HF.out.drewN _).trans (frm_at _ _ _ _)).trans HF1.out⟩
      | ok q =>
        obtain ⟨bs, k'⟩ := q
        obtain ⟨hk', hb4⟩ := escAt_ge hE
        have hkin : k' ≤ s.size := by have := escAt_in hE; rw [HL.out] at this; exact this
        have HER : Hid (textAt s.data.toList g k' (acc ++ bs) = R) := by
          unfold Hid; rw [← HT.out]; exact (tx_esc hnb (by rw [hr]; rfl) hE).symm
        have HE := Lib.hid hE
        have HBZ := Lib.hid (show (ByteArray.mk bs.toArray).size = bs.length by simp [ByteArray.size])
        clear h34 h92 hr hb hbc hkl hnb hE
        go_wp2_with (first
          | (go_at_call 68; refine (jpeek_is HP.out hs HC.out).mono ?_; rintro e u' ⟨rfl, nq, rfl⟩)
          | (go_at_call 83; refine (jescape_ok ((HP.out.drewN _).setAt (k + 1)) hk1 hs HE.out).mono ?_; rintro e w1 ⟨rfl, hp1, hf1⟩
             have q2 := ((frm_drewN (One pb) _ _).trans (frm_at _ pb 1 (.int .i64 ((k + 1 : Nat) : Int)))).trans hf1
             have hrow1 := own_frm HRow.out q2 HPb.out
             have P1 := Lib.hid hp1
             have F1 := Lib.hid (HF.out.trans q2)
             have HRow1 := Lib.hid hrow1
             clear hp1 hf1 q2 hrow1)
          | (at_builtin; refine Lib.wpList_append_own_string _ rfl _ _ 47 9 rfl w.heap.size 5 i0 Tryd.underlying47 Tryd.underlying9 hi0 hz0 hz1 hz2 _ acc.length (byteCells acc) rfl HRow1.out ⟨bs.toArray⟩ rfl (by have := HAcc.out; have := HBZ.out; simp only [maxLen]; omega) (by have := HAcc.out; have := HBZ.out; omega) F1.out.size ?_; intro v' w2 hown hgrow _; have HO := Lib.hid hown; clear hown; have HG := Lib.hid hgrow; clear hgrow))
        go_roundg g
        case rel => exact ⟨k', acc ++ bs, hkin, by omega, P1.out.grown HRow1.out (by omega) HG.out, HER.out, own_more HO.out, by have := HAcc.out; simp only [List.length_append]; omega, frm_own F1.out HRow1.out HG.out⟩
        case measure => omega
    have n34 := rr_isnt (c := 34) (by omega) (by omega) h34
    have n92 := rr_isnt (c := 92) (by omega) (by omega) h92
    have hle := rr_le s.data.toList k
    have hin := rr_in s.data.toList k
    rw [HL.out] at hin
    obtain ⟨c, hc⟩ : ∃ c, c = pk s.data.toList k := ⟨_, rfl⟩
    rw [← hc] at h34 h92
    have e34 : ((c : Int) == 34) = false := by simp; omega
    have e92 : ((c : Int) == 92) = false := by simp; omega
    have HC := Lib.hid hc.symm
    clear hc h34 h92
    by_cases hbad : (rr s.data.toList k).2 = 0 ∨ (rr s.data.toList k).1 < 32
    · have er : R = .error 300 := by rw [← HT.out]; exact tx_bad hbad
      subst er
      have HB := Lib.hid hbad
      clear hbad n34 n92 hle hin
      go_wp2_with (first
          | (go_at_call 68; refine (jpeek_is HP.out hs HC.out).mono ?_; rintro e u' ⟨rfl, nq, rfl⟩)
          | (go_at_call 84; refine (jplain_no pb s k d _ (HP.out.drewN _) hk hs HB.out).mono ?_; rintro e w1 ⟨rfl, hf⟩; unfold thrown; have HF1 := Lib.hid hf; clear hf))
      exact ⟨rfl, rfl, (HF.out.drewN _).trans HF1.out⟩
    · have er := tx_run (acc := acc) (g := g) hbad n34 n92
      rw [HT.out] at er
      have hm0 : (rr s.data.toList k).2 ≠ 0 := fun h => hbad (.inl h)
      have hr32 : 32 ≤ (rr s.data.toList k).1 := by omega
      obtain ⟨m, hm⟩ : ∃ m : Nat, (rr s.data.toList k).2 = (m : Int) := ⟨(rr s.data.toList k).2.toNat, by omega⟩
      have hrq : rr s.data.toList k = ((rr s.data.toList k).1, (m : Int)) := by rw [← hm]
      have hkm : k + m ≤ s.size := by have := hin hm0; omega
      have hm1 : 1 ≤ m := by omega
      have hm4 : m ≤ 4 := by omega
      rw [hm, Int.toNat_natCast] at er
      obtain ⟨bs, hbs⟩ : ∃ bs, bs = (s.data.toList.drop k).take m := ⟨_, rfl⟩
      rw [← hbs] at er
      have hbl : bs.length = m := by rw [hbs, List.length_take, List.length_drop, HL.out]; omega
      have HBL := Lib.hid hbl
      have hbz : (ByteArray.mk bs.toArray).size = m := by rw [← hbl]; simp [ByteArray.size]
      have HBZ := Lib.hid hbz
      have hex : (s.extract k (k + m)) = ⟨bs.toArray⟩ := by
        refine WideShapes.bytes_inj ?_
        rw [hbs]
        simp [ByteArray.data_extract, List.extract_eq_take_drop]
      have HER := Lib.hid er
      have HQP := Lib.hid (fun u hu => hex ▸ jplain_yes pb s k d m _ u hu hk hs hrq hm1 hkm hr32)
      clear hbad n34 n92 hle hin er hm hm0 hr32 hrq hbs hbl hbz hex
      go_wp2_with (first
          | (go_at_call 68; refine (jpeek_is HP.out hs HC.out).mono ?_; rintro e u' ⟨rfl, nq, rfl⟩)
          | (go_at_call 84; refine (HQP.out _ (HP.out.drewN _)).mono ?_; rintro e w1 ⟨rfl, hp1, hf1⟩
             have q2 := (frm_drewN (One pb) _ _).trans hf1
             have hrow1 := own_frm HRow.out q2 HPb.out
             have P1 := Lib.hid hp1
             have F1 := Lib.hid (HF.out.trans q2)
             have HRow1 := Lib.hid hrow1
             clear hp1 hf1 q2 hrow1)
          | (at_builtin; refine Lib.wpList_append_own_string _ rfl _ _ 47 9 rfl w.heap.size 5 i0 Tryd.underlying47 Tryd.underlying9 hi0 hz0 hz1 hz2 _ acc.length (byteCells acc) rfl HRow1.out ⟨bs.toArray⟩ rfl (by have := HAcc.out; have := HBZ.out; simp only [maxLen]; omega) (by have := HAcc.out; have := HBZ.out; omega) F1.out.size ?_; intro v' w2 hown hgrow _; have HO := Lib.hid hown; clear hown; have HG := Lib.hid hgrow; clear hgrow))
      go_roundg g
      case rel => exact ⟨k + m, acc ++ bs, hkm, by omega, P1.out.grown HRow1.out (by omega) HG.out, HER.out.symm, own_more HO.out, by have := HAcc.out; have := HBL.out; simp only [List.length_append]; omega, frm_own F1.out HRow1.out HG.out⟩
      case measure => omega
theorem jtext_no (pb : Nat) (s : ByteArray) (i d : Nat) (w : World) (h : JPAt w pb s i d) (hi : i ≤ s.size) (hs : s.size ≤ 65536) (hq : wordAt [34] s.data.toList i = false) :
    Calls Tryd.prog 71 #[.pointer (some ⟨pb, 0, none⟩)] w (JThrew pb 300 w) := by
  have HQ := Lib.hid (jexpect_no pb s ⟨#[34]⟩ i d w h hs hi (by decide) hq)
  clear h hq
  go_enter Tryd.func71, Tryd.ntmps71
  go_wp2_with (go_at_call 72; refine HQ.out.mono ?_; rintro e w0 ⟨rfl, hf0⟩; unfold thrown; have HF0 := Lib.hid hf0; clear hf0)
  exact ⟨rfl, rfl, HF0.out⟩
end Go.Proofs.YtcobadgpelhcoaaDoor
