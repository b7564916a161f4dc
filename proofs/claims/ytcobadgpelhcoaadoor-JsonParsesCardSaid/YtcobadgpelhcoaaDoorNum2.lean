/- The parser of the document's answer: a number, walked. -/
import Derived.Test.YtcobadgpelhcoaaDoorNum
namespace Go.Proofs.YtcobadgpelhcoaaDoor
open Go.Conc Go.RowKit
set_option linter.unusedVariables false
set_option linter.unusedSimpArgs false

/-- What was read, and the place behind it; or the error, and some place. -/
def NumDid (pb : Nat) (s : ByteArray) (r : Rd Int) (w : World) (e : Ending) (w' : World) : Prop :=
  ∃ (n : Int) (k : Nat) (c : Int), e = .returned (.int .i64 n) ∧ k ≤ s.size ∧ PAt w' pb s k c ∧ Frm (One pb) w w' ∧
    (match r with | .ok (n', k') => n = n' ∧ k = k' ∧ c = 0 | .error x => c = x ∧ x = 300)
theorem num_err {pb k : Nat} {n : Int} {s : ByteArray} {w w' : World} (hk : k ≤ s.size) (hp : PAt w' pb s k 300) (hf : Frm (One pb) w w') : NumDid pb s (.error 300) w (.returned (.int .i64 n)) w' :=
  ⟨n, k, 300, rfl, hk, hp, hf, rfl, rfl⟩
theorem num_ok {pb k : Nat} {n m : Int} {s : ByteArray} {w w' : World} (hn : m = n) (hk : k ≤ s.size) (hp : PAt w' pb s k 0) (hf : Frm (One pb) w w') : NumDid pb s (.ok (n, k)) w (.returned (.int .i64 m)) w' :=
  ⟨m, k, 0, rfl, hk, hp, hf, hn, rfl, rfl⟩
theorem nf_err {l : List UInt8} {m : Bool} {fr : Nat} (h : spanOf isDigit l fr = 0 ∨ (1 < spanOf isDigit l fr ∧ l[fr]? = some 48) ∨ (m = true ∧ dv l fr (spanOf isDigit l fr) = 0) ∨ (if m then 9223372036854775808 else 9223372036854775807) < dv l fr (spanOf isDigit l fr)
      ∨ l[fr + spanOf isDigit l fr]? = some 46 ∨ l[fr + spanOf isDigit l fr]? = some 101 ∨ l[fr + spanOf isDigit l fr]? = some 69) : numFrom l m fr = .error 300 := by
  unfold numFrom; exact if_pos h
theorem nf_over {l : List UInt8} {m : Bool} {fr : Nat} (h : (9223372036854775808 : Int) < ((dv l fr (spanOf isDigit l fr) : Nat) : Int)) : numFrom l m fr = .error 300 := by
  refine nf_err (.inr (.inr (.inr (.inl ?_))))
  cases m <;> simp <;> omega

theorem nf_ok {l : List UInt8} {m : Bool} {fr : Nat} (h : ¬ (spanOf isDigit l fr = 0 ∨ (1 < spanOf isDigit l fr ∧ l[fr]? = some 48) ∨ (m = true ∧ dv l fr (spanOf isDigit l fr) = 0) ∨ (if m then 9223372036854775808 else 9223372036854775807) < dv l fr (spanOf isDigit l fr)
      ∨ l[fr + spanOf isDigit l fr]? = some 46 ∨ l[fr + spanOf isDigit l fr]? = some 101 ∨ l[fr + spanOf isDigit l fr]? = some 69)) : numFrom l m fr = .ok (if m then -((dv l fr (spanOf isDigit l fr) : Nat) : Int) else ((dv l fr (spanOf isDigit l fr) : Nat) : Int), fr + spanOf isDigit l fr) := by
  unfold numFrom; exact if_neg h
theorem byte_at {s : ByteArray} {k : Nat} (hk : k < s.size) {c : UInt8} (h : s[k].toNat = c.toNat) : s.data.toList[k]? = some c := by
  rw [List.getElem?_eq_getElem (by simpa using hk)]
  congr 1
  exact UInt8.toNat_inj.1 h
theorem at_byte {s : ByteArray} {k : Nat} (hk : k < s.size) {c : UInt8} (h : s.data.toList[k]? = some c) : s[k].toNat = c.toNat := by
  rw [List.getElem?_eq_getElem (by simpa using hk)] at h
  simp only [Option.some.injEq] at h
  exact congrArg UInt8.toNat h

set_option maxHeartbeats 40000000 in
set_option maxRecDepth 100000 in
theorem pnumber_any (pb : Nat) (s : ByteArray) (i : Nat) (w : World) (h : PAt w pb s i 0) (hi : i ≤ s.size) (hs : s.size ≤ 65536) :
    Calls Tryd.prog 38 #[.pointer (some ⟨pb, 0, none⟩)] w (NumDid pb s (numAt s.data.toList i) w) := by
  have HL := Lib.hid (show s.data.toList.length = s.size by simp)
  have TW := Lib.hid (pword_any pb s ⟨#[45]⟩ i 0 w h hi hs (by decide))
  have hfr : (if wordAt [45] s.data.toList i then i + 1 else i) ≤ s.size := by
    by_cases hm : wordAt [45] s.data.toList i = true
    · rw [if_pos hm]; exact ((wordAt_iff s ⟨#[45]⟩ i hi).1 hm).1
    · rw [if_neg hm]; exact hi
  rw [numAt_eq]
  rw [show (ByteArray.mk #[45]).data.toList = [45] from rfl, show (ByteArray.mk #[45]).size = 1 from rfl] at TW
  generalize (if wordAt [45] s.data.toList i then i + 1 else i) = fr at *
  generalize wordAt [45] s.data.toList i = m at *
  have hK := spanOf_le isDigit s.data.toList fr
  have hsi := fun j => @span_in s.data.toList fr j
  have hso := @span_out s.data.toList fr
  have hov := @nf_over s.data.toList m fr
  have hne := @nf_err s.data.toList m fr
  have hok := @nf_ok s.data.toList m fr
  have hmono := fun d j => @dv_mono s.data.toList fr d j
  rw [HL.out] at hK
  generalize hKK : spanOf isDigit s.data.toList fr = K at *
  have hK' : fr + K ≤ s.size := by omega
  generalize hR : numFrom s.data.toList m fr = R at *
  have HR := Lib.hid hR
  have HSi := Lib.hid hsi
  have HSo := Lib.hid hso
  have HOv := Lib.hid hov
  have HNe := Lib.hid hne
  have HMo := Lib.hid hmono
  have HOk := Lib.hid hok
  have HKK := Lib.hid hKK
  clear hK hsi hso hov hne hok hmono hKK hR h
  go_enter Tryd.func38, Tryd.ntmps38
  go_wp2_with fail
  refine (TW.out).mono ?_
  rintro e w1 ⟨rfl, p1, f1⟩
  have c1 := p1.c1
  have P1 := Lib.hid p1
  have F1 := Lib.hid f1
  clear p1 f1
  go_wp2
  go_loopg [5] K (fun g xv wr => ∃ j p v : Nat, j + g = K ∧ Hid (p = fr + j) ∧ p + g = fr + K ∧ Hid (v = dv s.data.toList fr j) ∧ xv = .int .i64 (-(v : Int)) ∧ (v : Int) ≤ 9223372036854775808 ∧ PAt wr pb s p 0 ∧ Frm (One pb) w wr)
  case atStart => exact ⟨0, fr, 0, by omega, rfl, by omega, (dv_zero _ _).symm, rfl, by omega, P1.out, F1.out⟩
  case round =>
    obtain ⟨j, p, v, hjg, hp, hpg, hv, rfl, hv63, hpp, hf⟩ := hrel
    have c0 := hpp.c0
    have c1 := hpp.c1
    have f1 := hpp.fz 1
    have HP := Lib.hid hpp
    have HF := Lib.hid hf
    clear hpp hf
    by_cases hjK : j < K
    · obtain ⟨g, rfl⟩ : ∃ g, gk = g + 1 := ⟨gk - 1, by omega⟩
      have hps : p < s.size := by omega
      have g0 : decide ((p : Int) < (s.size : Int)) = true := by simpa using hps
      have hdig : 48 ≤ s[p].toNat ∧ s[p].toNat ≤ 57 := by
        obtain ⟨hl, hd⟩ := HSi.out j hjK
        have e : s.data.toList[fr + j] = s[p] := by simp only [← hp.out]; rfl
        rw [e] at hd
        simpa [isDigit] using hd
      have hdv : Hid (dv s.data.toList fr (j + 1) = 10 * v + (s[p].toNat - 48)) := by
        unfold Hid
        rw [dv_succ (by rw [HL.out, ← hp.out]; exact hps), ← hv.out]
        simp only [← hp.out]; rfl
      obtain ⟨d1, d2⟩ := hdig
      obtain ⟨d, hd⟩ : ∃ d : Nat, s[p].toNat = d + 48 := ⟨s[p].toNat - 48, by omega⟩
      have hd9 : d ≤ 9 := by omega
      have hdv2 : Hid (dv s.data.toList fr (j + 1) = 10 * v + d) := by
        unfold Hid; rw [hdv.out, hd]; omega
      clear d1 d2 hdv
      have g1 : decide ((48 : Int) ≤ (d : Int) + 48) = true := decide_eq_true (by omega)
      have g2 : decide ((d : Int) + 48 ≤ 57) = true := decide_eq_true (by omega)
      by_cases ho : (922337203685477580 : Int) < (v : Int) ∨ ((v : Int) = 922337203685477580 ∧ 8 < d)
      · have er : R = .error 300 := by
          refine HOv.out ?_
          have h1 := HMo.out (K - (j + 1)) (j + 1) (by rw [HL.out]; omega)
          rw [hdv2.out, show j + 1 + (K - (j + 1)) = K by omega] at h1
          omega
        subst er
        go_wp2
        go_quiet (fail)
        go_wp2
        go_quiet (fail)
        go_wp2_with (go_at_call 24; refine (pfail0 pb s p _ (HP.out.drewN _)).mono ?_; rintro e w9 ⟨rfl, p9, q9⟩; have P9 := Lib.hid p9; have Q9 := Lib.hid q9; clear p9 q9)
        all_goals
          go_ret
          exact num_err (by omega) P9.out ((HF.out.drewN _).trans Q9.out)
      · go_wp2
        go_quiet (fail)
        go_wp2
        go_quiet (fail)
        go_wp2
        all_goals
          go_roundg g
          case rel => exact ⟨j + 1, p + 1, 10 * v + d, by omega, by rw [hp.out]; rfl, by omega, hdv2.out.symm, congrArg (Value.int .i64) (by omega), by omega, (HP.out.drewN _).setAt (p + 1), (HF.out.drewN _).trans (frm_at _ _ _ _)⟩
          case measure => omega
    · obtain rfl : j = K := by omega
      have hgk : gk = 0 := by omega
      subst hgk
      by_cases hps : p < s.size
      · have g0 : decide ((p : Int) < (s.size : Int)) = true := by simpa using hps
        have hnd : s[p].toNat < 48 ∨ 57 < s[p].toNat := by
          have hd := HSo.out (by rw [HL.out, ← hp.out]; exact hps)
          have e : s.data.toList[fr + j]'(by rw [HL.out, ← hp.out]; exact hps) = s[p] := by simp only [← hp.out]; rfl
          rw [e] at hd
          simp [isDigit] at hd
          omega
        have HND := Lib.hid hnd
        clear hnd
        by_cases hlo : s[p].toNat < 48
        · have g1 : decide ((48 : Int) ≤ (s[p].toNat : Int)) = false := decide_eq_false (by omega)
          by_cases hK0 : j = 0
          · have gz : ((p : Int) - (fr : Int) == 0) = true := by simp; omega
            have er : R = .error 300 := HNe.out (.inl hK0)
            subst er
            skip
            go_wp2
            go_quiet (fail)
            go_wp2_with (go_at_call 24; refine (pfail0 pb s p _ (HP.out.drewN _)).mono ?_; rintro e w9 ⟨rfl, p9, q9⟩; have P9 := Lib.hid p9; have Q9 := Lib.hid q9; clear p9 q9)
            go_ret
            exact num_err (by omega) P9.out ((HF.out.drewN _).trans Q9.out)
          have gz : ((p : Int) - (fr : Int) == 0) = false := by simp; omega
          by_cases hK1 : 1 < j
          · have gt : (1 : Int) < (p : Int) - (fr : Int) := by omega
            have hfs : fr < s.size := by omega
            by_cases hs48 : s[fr].toNat = 48
            · have ge : ((s[fr].toNat : Int) == 48) = true := by simp [hs48]
              have er : R = .error 300 := HNe.out (.inr (.inl ⟨hK1, byte_at hfs hs48⟩))
              subst er
              skip
              go_wp2
              go_quiet (fail)
              go_wp2_with (go_at_call 24; refine (pfail0 pb s p _ (HP.out.drewN _)).mono ?_; rintro e w9 ⟨rfl, p9, q9⟩; have P9 := Lib.hid p9; have Q9 := Lib.hid q9; clear p9 q9)
              go_ret
              exact num_err (by omega) P9.out ((HF.out.drewN _).trans Q9.out)
            have ge : ((s[fr].toNat : Int) == 48) = false := by simp; omega
            cases m with
            | true =>
              by_cases hv0 : v = 0
              · have gv : ((-(v : Int)) == 0) = true := by simp [hv0]
                have er : R = .error 300 := HNe.out (.inr (.inr (.inl ⟨rfl, by rw [← hv.out]; exact hv0⟩)))
                subst er
                skip
                go_wp2
                go_quiet (fail)
                go_wp2_with (go_at_call 24; refine (pfail0 pb s p _ (HP.out.drewN _)).mono ?_; rintro e w9 ⟨rfl, p9, q9⟩; have P9 := Lib.hid p9; have Q9 := Lib.hid q9; clear p9 q9)
                go_ret
                exact num_err (by omega) P9.out ((HF.out.drewN _).trans Q9.out)
              have gv : ((-(v : Int)) == 0) = false := by simp; omega
              by_cases hc46 : s[p].toNat = 46
              · have gc46 : ((s[p].toNat : Int) == 46) = true := by simp [hc46]
                have er : R = .error 300 := HNe.out (.inr (.inr (.inr (.inr (.inl (by rw [← hp.out]; exact byte_at hps hc46))))))
                subst er
                skip
                go_wp2
                go_quiet (fail)
                go_wp2_with fail
                go_quiet (fail)
                go_wp2_with (go_at_call 24; refine (pfail0 pb s p _ (HP.out.drewN _)).mono ?_; rintro e w9 ⟨rfl, p9, q9⟩; have P9 := Lib.hid p9; have Q9 := Lib.hid q9; clear p9 q9)
                go_ret
                exact num_err (by omega) P9.out ((HF.out.drewN _).trans Q9.out)
              have gc46 : ((s[p].toNat : Int) == 46) = false := by simp; omega
              have gc101 : ((s[p].toNat : Int) == 101) = false := by simp; omega
              have gc69 : ((s[p].toNat : Int) == 69) = false := by simp; omega
              have er : R = .ok (_, _) := HOk.out (by
                rintro (c | ⟨c, c'⟩ | ⟨c, c'⟩ | c | c | c | c)
                · omega
                · exact hs48 (at_byte (by omega) c')
                · rw [← hv.out] at c'; exact hv0 c'
                · rw [← hv.out] at c; rw [if_pos rfl] at c; omega
                · rw [← hp.out] at c; have := at_byte hps c; simp at this; omega
                · rw [← hp.out] at c; have := at_byte hps c; simp at this; omega
                · rw [← hp.out] at c; have := at_byte hps c; simp at this; omega)
              rw [← hv.out, ← hp.out] at er
              simp only [if_true, if_false, Bool.false_eq_true, reduceIte] at er
              subst er
              go_wp2
              go_quiet (fail)
              go_wp2_with fail
              go_quiet (fail)
              go_wp2
              go_ret
              first | exact num_ok (by simp) (by omega) ((HP.out.drewN _).drewN _) ((HF.out.drewN _).drewN _) | exact num_ok (by simp) (by omega) (HP.out.drewN _) (HF.out.drewN _)
            | false =>
              by_cases hv0 : (v : Int) = 9223372036854775808
              · have gv : ((-(v : Int)) == -9223372036854775808) = true := by rw [hv0]; rfl
                have er : R = .error 300 := HNe.out (.inr (.inr (.inr (.inl (by rw [← hv.out, if_neg (by simp)]; omega)))))
                subst er
                skip
                go_wp2
                go_quiet (fail)
                go_wp2_with (go_at_call 24; refine (pfail0 pb s p _ (HP.out.drewN _)).mono ?_; rintro e w9 ⟨rfl, p9, q9⟩; have P9 := Lib.hid p9; have Q9 := Lib.hid q9; clear p9 q9)
                go_ret
                exact num_err (by omega) P9.out ((HF.out.drewN _).trans Q9.out)
              have gv : ((-(v : Int)) == -9223372036854775808) = false := by simp; omega
              by_cases hc46 : s[p].toNat = 46
              · have gc46 : ((s[p].toNat : Int) == 46) = true := by simp [hc46]
                have er : R = .error 300 := HNe.out (.inr (.inr (.inr (.inr (.inl (by rw [← hp.out]; exact byte_at hps hc46))))))
                subst er
                skip
                go_wp2
                go_quiet (fail)
                go_wp2_with fail
                go_quiet (fail)
                go_wp2_with (go_at_call 24; refine (pfail0 pb s p _ (HP.out.drewN _)).mono ?_; rintro e w9 ⟨rfl, p9, q9⟩; have P9 := Lib.hid p9; have Q9 := Lib.hid q9; clear p9 q9)
                go_ret
                exact num_err (by omega) P9.out ((HF.out.drewN _).trans Q9.out)
              have gc46 : ((s[p].toNat : Int) == 46) = false := by simp; omega
              have gc101 : ((s[p].toNat : Int) == 101) = false := by simp; omega
              have gc69 : ((s[p].toNat : Int) == 69) = false := by simp; omega
              have er : R = .ok (_, _) := HOk.out (by
                rintro (c | ⟨c, c'⟩ | ⟨c, c'⟩ | c | c | c | c)
                · omega
                · exact hs48 (at_byte (by omega) c')
                · exact absurd c (by simp)
                · rw [← hv.out] at c; rw [if_neg (by simp)] at c; exact hv0 (by omega)
                · rw [← hp.out] at c; have := at_byte hps c; simp at this; omega
                · rw [← hp.out] at c; have := at_byte hps c; simp at this; omega
                · rw [← hp.out] at c; have := at_byte hps c; simp at this; omega)
              rw [← hv.out, ← hp.out] at er
              simp only [if_true, if_false, Bool.false_eq_true, reduceIte] at er
              subst er
              go_wp2
              go_quiet (fail)
              go_wp2_with fail
              go_quiet (fail)
              go_wp2
              go_ret
              first | exact num_ok (by simp) (by omega) ((HP.out.drewN _).drewN _) ((HF.out.drewN _).drewN _) | exact num_ok (by simp) (by omega) (HP.out.drewN _) (HF.out.drewN _)
          · have gt : (p : Int) - (fr : Int) ≤ 1 := by omega
            cases m with
            | true =>
              by_cases hv0 : v = 0
              · have gv : ((-(v : Int)) == 0) = true := by simp [hv0]
                have er : R = .error 300 := HNe.out (.inr (.inr (.inl ⟨rfl, by rw [← hv.out]; exact hv0⟩)))
                subst er
                skip
                go_wp2
                go_quiet (fail)
                go_wp2_with (go_at_call 24; refine (pfail0 pb s p _ (HP.out.drewN _)).mono ?_; rintro e w9 ⟨rfl, p9, q9⟩; have P9 := Lib.hid p9; have Q9 := Lib.hid q9; clear p9 q9)
                go_ret
                exact num_err (by omega) P9.out ((HF.out.drewN _).trans Q9.out)
              have gv : ((-(v : Int)) == 0) = false := by simp; omega
              by_cases hc46 : s[p].toNat = 46
              · have gc46 : ((s[p].toNat : Int) == 46) = true := by simp [hc46]
                have er : R = .error 300 := HNe.out (.inr (.inr (.inr (.inr (.inl (by rw [← hp.out]; exact byte_at hps hc46))))))
                subst er
                skip
                go_wp2
                go_quiet (fail)
                go_wp2_with fail
                go_quiet (fail)
                go_wp2_with (go_at_call 24; refine (pfail0 pb s p _ (HP.out.drewN _)).mono ?_; rintro e w9 ⟨rfl, p9, q9⟩; have P9 := Lib.hid p9; have Q9 := Lib.hid q9; clear p9 q9)
                go_ret
                exact num_err (by omega) P9.out ((HF.out.drewN _).trans Q9.out)
              have gc46 : ((s[p].toNat : Int) == 46) = false := by simp; omega
              have gc101 : ((s[p].toNat : Int) == 101) = false := by simp; omega
              have gc69 : ((s[p].toNat : Int) == 69) = false := by simp; omega
              have er : R = .ok (_, _) := HOk.out (by
                rintro (c | ⟨c, c'⟩ | ⟨c, c'⟩ | c | c | c | c)
                · omega
                · omega
                · rw [← hv.out] at c'; exact hv0 c'
                · rw [← hv.out] at c; rw [if_pos rfl] at c; omega
                · rw [← hp.out] at c; have := at_byte hps c; simp at this; omega
                · rw [← hp.out] at c; have := at_byte hps c; simp at this; omega
                · rw [← hp.out] at c; have := at_byte hps c; simp at this; omega)
              rw [← hv.out, ← hp.out] at er
              simp only [if_true, if_false, Bool.false_eq_true, reduceIte] at er
              subst er
              go_wp2
              go_quiet (fail)
              go_wp2_with fail
              go_quiet (fail)
              go_wp2
              go_ret
              first | exact num_ok (by simp) (by omega) ((HP.out.drewN _).drewN _) ((HF.out.drewN _).drewN _) | exact num_ok (by simp) (by omega) (HP.out.drewN _) (HF.out.drewN _)
            | false =>
              by_cases hv0 : (v : Int) = 9223372036854775808
              · have gv : ((-(v : Int)) == -9223372036854775808) = true := by rw [hv0]; rfl
                have er : R = .error 300 := HNe.out (.inr (.inr (.inr (.inl (by rw [← hv.out, if_neg (by simp)]; omega)))))
                subst er
                skip
                go_wp2
                go_quiet (fail)
                go_wp2_with (go_at_call 24; refine (pfail0 pb s p _ (HP.out.drewN _)).mono ?_; rintro e w9 ⟨rfl, p9, q9⟩; have P9 := Lib.hid p9; have Q9 := Lib.hid q9; clear p9 q9)
                go_ret
                exact num_err (by omega) P9.out ((HF.out.drewN _).trans Q9.out)
              have gv : ((-(v : Int)) == -9223372036854775808) = false := by simp; omega
              by_cases hc46 : s[p].toNat = 46
              · have gc46 : ((s[p].toNat : Int) == 46) = true := by simp [hc46]
                have er : R = .error 300 := HNe.out (.inr (.inr (.inr (.inr (.inl (by rw [← hp.out]; exact byte_at hps hc46))))))
                subst er
                skip
                go_wp2
                go_quiet (fail)
                go_wp2_with fail
                go_quiet (fail)
                go_wp2_with (go_at_call 24; refine (pfail0 pb s p _ (HP.out.drewN _)).mono ?_; rintro e w9 ⟨rfl, p9, q9⟩; have P9 := Lib.hid p9; have Q9 := Lib.hid q9; clear p9 q9)
                go_ret
                exact num_err (by omega) P9.out ((HF.out.drewN _).trans Q9.out)
              have gc46 : ((s[p].toNat : Int) == 46) = false := by simp; omega
              have gc101 : ((s[p].toNat : Int) == 101) = false := by simp; omega
              have gc69 : ((s[p].toNat : Int) == 69) = false := by simp; omega
              have er : R = .ok (_, _) := HOk.out (by
                rintro (c | ⟨c, c'⟩ | ⟨c, c'⟩ | c | c | c | c)
                · omega
                · omega
                · exact absurd c (by simp)
                · rw [← hv.out] at c; rw [if_neg (by simp)] at c; exact hv0 (by omega)
                · rw [← hp.out] at c; have := at_byte hps c; simp at this; omega
                · rw [← hp.out] at c; have := at_byte hps c; simp at this; omega
                · rw [← hp.out] at c; have := at_byte hps c; simp at this; omega)
              rw [← hv.out, ← hp.out] at er
              simp only [if_true, if_false, Bool.false_eq_true, reduceIte] at er
              subst er
              go_wp2
              go_quiet (fail)
              go_wp2_with fail
              go_quiet (fail)
              go_wp2
              go_ret
              first | exact num_ok (by simp) (by omega) ((HP.out.drewN _).drewN _) ((HF.out.drewN _).drewN _) | exact num_ok (by simp) (by omega) (HP.out.drewN _) (HF.out.drewN _)
        have g1 : decide ((48 : Int) ≤ (s[p].toNat : Int)) = true := decide_eq_true (by omega)
        have hhi : 57 < s[p].toNat := by have := HND.out; omega
        have g2 : decide ((s[p].toNat : Int) ≤ 57) = false := decide_eq_false (by omega)
        by_cases hK0 : j = 0
        · have gz : ((p : Int) - (fr : Int) == 0) = true := by simp; omega
          have er : R = .error 300 := HNe.out (.inl hK0)
          subst er
          skip
          go_wp2
          go_quiet (fail)
          go_wp2_with (go_at_call 24; refine (pfail0 pb s p _ (HP.out.drewN _)).mono ?_; rintro e w9 ⟨rfl, p9, q9⟩; have P9 := Lib.hid p9; have Q9 := Lib.hid q9; clear p9 q9)
          go_ret
          exact num_err (by omega) P9.out ((HF.out.drewN _).trans Q9.out)
        have gz : ((p : Int) - (fr : Int) == 0) = false := by simp; omega
        by_cases hK1 : 1 < j
        · have gt : (1 : Int) < (p : Int) - (fr : Int) := by omega
          have hfs : fr < s.size := by omega
          by_cases hs48 : s[fr].toNat = 48
          · have ge : ((s[fr].toNat : Int) == 48) = true := by simp [hs48]
            have er : R = .error 300 := HNe.out (.inr (.inl ⟨hK1, byte_at hfs hs48⟩))
            subst er
            skip
            go_wp2
            go_quiet (fail)
            go_wp2_with (go_at_call 24; refine (pfail0 pb s p _ (HP.out.drewN _)).mono ?_; rintro e w9 ⟨rfl, p9, q9⟩; have P9 := Lib.hid p9; have Q9 := Lib.hid q9; clear p9 q9)
            go_ret
            exact num_err (by omega) P9.out ((HF.out.drewN _).trans Q9.out)
          have ge : ((s[fr].toNat : Int) == 48) = false := by simp; omega
          cases m with
          | true =>
            by_cases hv0 : v = 0
            · have gv : ((-(v : Int)) == 0) = true := by simp [hv0]
              have er : R = .error 300 := HNe.out (.inr (.inr (.inl ⟨rfl, by rw [← hv.out]; exact hv0⟩)))
              subst er
              skip
              go_wp2
              go_quiet (fail)
              go_wp2_with (go_at_call 24; refine (pfail0 pb s p _ (HP.out.drewN _)).mono ?_; rintro e w9 ⟨rfl, p9, q9⟩; have P9 := Lib.hid p9; have Q9 := Lib.hid q9; clear p9 q9)
              go_ret
              exact num_err (by omega) P9.out ((HF.out.drewN _).trans Q9.out)
            have gv : ((-(v : Int)) == 0) = false := by simp; omega
            by_cases hc101 : s[p].toNat = 101
            · have gc101 : ((s[p].toNat : Int) == 101) = true := by simp [hc101]
              have er : R = .error 300 := HNe.out (.inr (.inr (.inr (.inr (.inr (.inl (by rw [← hp.out]; exact byte_at hps hc101)))))))
              subst er
              skip
              go_wp2
              go_quiet (fail)
              go_wp2_with fail
              go_quiet (fail)
              go_wp2_with (go_at_call 24; refine (pfail0 pb s p _ (HP.out.drewN _)).mono ?_; rintro e w9 ⟨rfl, p9, q9⟩; have P9 := Lib.hid p9; have Q9 := Lib.hid q9; clear p9 q9)
              go_ret
              exact num_err (by omega) P9.out ((HF.out.drewN _).trans Q9.out)
            have gc101 : ((s[p].toNat : Int) == 101) = false := by simp; omega
            by_cases hc69 : s[p].toNat = 69
            · have gc69 : ((s[p].toNat : Int) == 69) = true := by simp [hc69]
              have er : R = .error 300 := HNe.out (.inr (.inr (.inr (.inr (.inr (.inr (by rw [← hp.out]; exact byte_at hps hc69)))))))
              subst er
              skip
              go_wp2
              go_quiet (fail)
              go_wp2_with fail
              go_quiet (fail)
              go_wp2_with (go_at_call 24; refine (pfail0 pb s p _ (HP.out.drewN _)).mono ?_; rintro e w9 ⟨rfl, p9, q9⟩; have P9 := Lib.hid p9; have Q9 := Lib.hid q9; clear p9 q9)
              go_ret
              exact num_err (by omega) P9.out ((HF.out.drewN _).trans Q9.out)
            have gc69 : ((s[p].toNat : Int) == 69) = false := by simp; omega
            have gc46 : ((s[p].toNat : Int) == 46) = false := by simp; omega
            have er : R = .ok (_, _) := HOk.out (by
              rintro (c | ⟨c, c'⟩ | ⟨c, c'⟩ | c | c | c | c)
              · omega
              · exact hs48 (at_byte (by omega) c')
              · rw [← hv.out] at c'; exact hv0 c'
              · rw [← hv.out] at c; rw [if_pos rfl] at c; omega
              · rw [← hp.out] at c; have := at_byte hps c; simp at this; omega
              · rw [← hp.out] at c; have := at_byte hps c; simp at this; omega
              · rw [← hp.out] at c; have := at_byte hps c; simp at this; omega)
            rw [← hv.out, ← hp.out] at er
            simp only [if_true, if_false, Bool.false_eq_true, reduceIte] at er
            subst er
            go_wp2
            go_quiet (fail)
            go_wp2_with fail
            go_quiet (fail)
            go_wp2
            go_ret
            first | exact num_ok (by simp) (by omega) ((HP.out.drewN _).drewN _) ((HF.out.drewN _).drewN _) | exact num_ok (by simp) (by omega) (HP.out.drewN _) (HF.out.drewN _)
          | false =>
            by_cases hv0 : (v : Int) = 9223372036854775808
            · have gv : ((-(v : Int)) == -9223372036854775808) = true := by rw [hv0]; rfl
              have er : R = .error 300 := HNe.out (.inr (.inr (.inr (.inl (by rw [← hv.out, if_neg (by simp)]; omega)))))
              subst er
              skip
              go_wp2
              go_quiet (fail)
              go_wp2_with (go_at_call 24; refine (pfail0 pb s p _ (HP.out.drewN _)).mono ?_; rintro e w9 ⟨rfl, p9, q9⟩; have P9 := Lib.hid p9; have Q9 := Lib.hid q9; clear p9 q9)
              go_ret
              exact num_err (by omega) P9.out ((HF.out.drewN _).trans Q9.out)
            have gv : ((-(v : Int)) == -9223372036854775808) = false := by simp; omega
            by_cases hc101 : s[p].toNat = 101
            · have gc101 : ((s[p].toNat : Int) == 101) = true := by simp [hc101]
              have er : R = .error 300 := HNe.out (.inr (.inr (.inr (.inr (.inr (.inl (by rw [← hp.out]; exact byte_at hps hc101)))))))
              subst er
              skip
              go_wp2
              go_quiet (fail)
              go_wp2_with fail
              go_quiet (fail)
              go_wp2_with (go_at_call 24; refine (pfail0 pb s p _ (HP.out.drewN _)).mono ?_; rintro e w9 ⟨rfl, p9, q9⟩; have P9 := Lib.hid p9; have Q9 := Lib.hid q9; clear p9 q9)
              go_ret
              exact num_err (by omega) P9.out ((HF.out.drewN _).trans Q9.out)
            have gc101 : ((s[p].toNat : Int) == 101) = false := by simp; omega
            by_cases hc69 : s[p].toNat = 69
            · have gc69 : ((s[p].toNat : Int) == 69) = true := by simp [hc69]
              have er : R = .error 300 := HNe.out (.inr (.inr (.inr (.inr (.inr (.inr (by rw [← hp.out]; exact byte_at hps hc69)))))))
              subst er
              skip
              go_wp2
              go_quiet (fail)
              go_wp2_with fail
              go_quiet (fail)
              go_wp2_with (go_at_call 24; refine (pfail0 pb s p _ (HP.out.drewN _)).mono ?_; rintro e w9 ⟨rfl, p9, q9⟩; have P9 := Lib.hid p9; have Q9 := Lib.hid q9; clear p9 q9)
              go_ret
              exact num_err (by omega) P9.out ((HF.out.drewN _).trans Q9.out)
            have gc69 : ((s[p].toNat : Int) == 69) = false := by simp; omega
            have gc46 : ((s[p].toNat : Int) == 46) = false := by simp; omega
            have er : R = .ok (_, _) := HOk.out (by
              rintro (c | ⟨c, c'⟩ | ⟨c, c'⟩ | c | c | c | c)
              · omega
              · exact hs48 (at_byte (by omega) c')
              · exact absurd c (by simp)
              · rw [← hv.out] at c; rw [if_neg (by simp)] at c; exact hv0 (by omega)
              · rw [← hp.out] at c; have := at_byte hps c; simp at this; omega
              · rw [← hp.out] at c; have := at_byte hps c; simp at this; omega
              · rw [← hp.out] at c; have := at_byte hps c; simp at this; omega)
            rw [← hv.out, ← hp.out] at er
            simp only [if_true, if_false, Bool.false_eq_true, reduceIte] at er
            subst er
            go_wp2
            go_quiet (fail)
            go_wp2_with fail
            go_quiet (fail)
            go_wp2
            go_ret
            first | exact num_ok (by simp) (by omega) ((HP.out.drewN _).drewN _) ((HF.out.drewN _).drewN _) | exact num_ok (by simp) (by omega) (HP.out.drewN _) (HF.out.drewN _)
        · have gt : (p : Int) - (fr : Int) ≤ 1 := by omega
          cases m with
          | true =>
            by_cases hv0 : v = 0
            · have gv : ((-(v : Int)) == 0) = true := by simp [hv0]
              have er : R = .error 300 := HNe.out (.inr (.inr (.inl ⟨rfl, by rw [← hv.out]; exact hv0⟩)))
              subst er
              skip
              go_wp2
              go_quiet (fail)
              go_wp2_with (go_at_call 24; refine (pfail0 pb s p _ (HP.out.drewN _)).mono ?_; rintro e w9 ⟨rfl, p9, q9⟩; have P9 := Lib.hid p9; have Q9 := Lib.hid q9; clear p9 q9)
              go_ret
              exact num_err (by omega) P9.out ((HF.out.drewN _).trans Q9.out)
            have gv : ((-(v : Int)) == 0) = false := by simp; omega
            by_cases hc101 : s[p].toNat = 101
            · have gc101 : ((s[p].toNat : Int) == 101) = true := by simp [hc101]
              have er : R = .error 300 := HNe.out (.inr (.inr (.inr (.inr (.inr (.inl (by rw [← hp.out]; exact byte_at hps hc101)))))))
              subst er
              skip
              go_wp2
              go_quiet (fail)
              go_wp2_with fail
              go_quiet (fail)
              go_wp2_with (go_at_call 24; refine (pfail0 pb s p _ (HP.out.drewN _)).mono ?_; rintro e w9 ⟨rfl, p9, q9⟩; have P9 := Lib.hid p9; have Q9 := Lib.hid q9; clear p9 q9)
              go_ret
              exact num_err (by omega) P9.out ((HF.out.drewN _).trans Q9.out)
            have gc101 : ((s[p].toNat : Int) == 101) = false := by simp; omega
            by_cases hc69 : s[p].toNat = 69
            · have gc69 : ((s[p].toNat : Int) == 69) = true := by simp [hc69]
              have er : R = .error 300 := HNe.out (.inr (.inr (.inr (.inr (.inr (.inr (by rw [← hp.out]; exact byte_at hps hc69)))))))
              subst er
              skip
              go_wp2
              go_quiet (fail)
              go_wp2_with fail
              go_quiet (fail)
              go_wp2_with (go_at_call 24; refine (pfail0 pb s p _ (HP.out.drewN _)).mono ?_; rintro e w9 ⟨rfl, p9, q9⟩; have P9 := Lib.hid p9; have Q9 := Lib.hid q9; clear p9 q9)
              go_ret
              exact num_err (by omega) P9.out ((HF.out.drewN _).trans Q9.out)
            have gc69 : ((s[p].toNat : Int) == 69) = false := by simp; omega
            have gc46 : ((s[p].toNat : Int) == 46) = false := by simp; omega
            have er : R = .ok (_, _) := HOk.out (by
              rintro (c | ⟨c, c'⟩ | ⟨c, c'⟩ | c | c | c | c)
              · omega
              · omega
              · rw [← hv.out] at c'; exact hv0 c'
              · rw [← hv.out] at c; rw [if_pos rfl] at c; omega
              · rw [← hp.out] at c; have := at_byte hps c; simp at this; omega
              · rw [← hp.out] at c; have := at_byte hps c; simp at this; omega
              · rw [← hp.out] at c; have := at_byte hps c; simp at this; omega)
            rw [← hv.out, ← hp.out] at er
            simp only [if_true, if_false, Bool.false_eq_true, reduceIte] at er
            subst er
            go_wp2
            go_quiet (fail)
            go_wp2_with fail
            go_quiet (fail)
            go_wp2
            go_ret
            first | exact num_ok (by simp) (by omega) ((HP.out.drewN _).drewN _) ((HF.out.drewN _).drewN _) | exact num_ok (by simp) (by omega) (HP.out.drewN _) (HF.out.drewN _)
          | false =>
            by_cases hv0 : (v : Int) = 9223372036854775808
            · have gv : ((-(v : Int)) == -9223372036854775808) = true := by rw [hv0]; rfl
              have er : R = .error 300 := HNe.out (.inr (.inr (.inr (.inl (by rw [← hv.out, if_neg (by simp)]; omega)))))
              subst er
              skip
              go_wp2
              go_quiet (fail)
              go_wp2_with (go_at_call 24; refine (pfail0 pb s p _ (HP.out.drewN _)).mono ?_; rintro e w9 ⟨rfl, p9, q9⟩; have P9 := Lib.hid p9; have Q9 := Lib.hid q9; clear p9 q9)
              go_ret
              exact num_err (by omega) P9.out ((HF.out.drewN _).trans Q9.out)
            have gv : ((-(v : Int)) == -9223372036854775808) = false := by simp; omega
            by_cases hc101 : s[p].toNat = 101
            · have gc101 : ((s[p].toNat : Int) == 101) = true := by simp [hc101]
              have er : R = .error 300 := HNe.out (.inr (.inr (.inr (.inr (.inr (.inl (by rw [← hp.out]; exact byte_at hps hc101)))))))
              subst er
              skip
              go_wp2
              go_quiet (fail)
              go_wp2_with fail
              go_quiet (fail)
              go_wp2_with (go_at_call 24; refine (pfail0 pb s p _ (HP.out.drewN _)).mono ?_; rintro e w9 ⟨rfl, p9, q9⟩; have P9 := Lib.hid p9; have Q9 := Lib.hid q9; clear p9 q9)
              go_ret
              exact num_err (by omega) P9.out ((HF.out.drewN _).trans Q9.out)
            have gc101 : ((s[p].toNat : Int) == 101) = false := by simp; omega
            by_cases hc69 : s[p].toNat = 69
            · have gc69 : ((s[p].toNat : Int) == 69) = true := by simp [hc69]
              have er : R = .error 300 := HNe.out (.inr (.inr (.inr (.inr (.inr (.inr (by rw [← hp.out]; exact byte_at hps hc69)))))))
              subst er
              skip
              go_wp2
              go_quiet (fail)
              go_wp2_with fail
              go_quiet (fail)
              go_wp2_with (go_at_call 24; refine (pfail0 pb s p _ (HP.out.drewN _)).mono ?_; rintro e w9 ⟨rfl, p9, q9⟩; have P9 := Lib.hid p9; have Q9 := Lib.hid q9; clear p9 q9)
              go_ret
              exact num_err (by omega) P9.out ((HF.out.drewN _).trans Q9.out)
            have gc69 : ((s[p].toNat : Int) == 69) = false := by simp; omega
            have gc46 : ((s[p].toNat : Int) == 46) = false := by simp; omega
            have er : R = .ok (_, _) := HOk.out (by
              rintro (c | ⟨c, c'⟩ | ⟨c, c'⟩ | c | c | c | c)
              · omega
              · omega
              · exact absurd c (by simp)
              · rw [← hv.out] at c; rw [if_neg (by simp)] at c; exact hv0 (by omega)
              · rw [← hp.out] at c; have := at_byte hps c; simp at this; omega
              · rw [← hp.out] at c; have := at_byte hps c; simp at this; omega
              · rw [← hp.out] at c; have := at_byte hps c; simp at this; omega)
            rw [← hv.out, ← hp.out] at er
            simp only [if_true, if_false, Bool.false_eq_true, reduceIte] at er
            subst er
            go_wp2
            go_quiet (fail)
            go_wp2_with fail
            go_quiet (fail)
            go_wp2
            go_ret
            first | exact num_ok (by simp) (by omega) ((HP.out.drewN _).drewN _) ((HF.out.drewN _).drewN _) | exact num_ok (by simp) (by omega) (HP.out.drewN _) (HF.out.drewN _)
      · have g0 : decide ((p : Int) < (s.size : Int)) = false := by simpa using hps
        by_cases hK0 : j = 0
        · have gz : ((p : Int) - (fr : Int) == 0) = true := by simp; omega
          have er : R = .error 300 := HNe.out (.inl hK0)
          subst er
          skip
          go_wp2
          go_quiet (fail)
          go_wp2_with (go_at_call 24; refine (pfail0 pb s p _ (HP.out.drewN _)).mono ?_; rintro e w9 ⟨rfl, p9, q9⟩; have P9 := Lib.hid p9; have Q9 := Lib.hid q9; clear p9 q9)
          go_ret
          exact num_err (by omega) P9.out ((HF.out.drewN _).trans Q9.out)
        have gz : ((p : Int) - (fr : Int) == 0) = false := by simp; omega
        by_cases hK1 : 1 < j
        · have gt : (1 : Int) < (p : Int) - (fr : Int) := by omega
          have hfs : fr < s.size := by omega
          by_cases hs48 : s[fr].toNat = 48
          · have ge : ((s[fr].toNat : Int) == 48) = true := by simp [hs48]
            have er : R = .error 300 := HNe.out (.inr (.inl ⟨hK1, byte_at hfs hs48⟩))
            subst er
            skip
            go_wp2
            go_quiet (fail)
            go_wp2_with (go_at_call 24; refine (pfail0 pb s p _ (HP.out.drewN _)).mono ?_; rintro e w9 ⟨rfl, p9, q9⟩; have P9 := Lib.hid p9; have Q9 := Lib.hid q9; clear p9 q9)
            go_ret
            exact num_err (by omega) P9.out ((HF.out.drewN _).trans Q9.out)
          have ge : ((s[fr].toNat : Int) == 48) = false := by simp; omega
          cases m with
          | true =>
            by_cases hv0 : v = 0
            · have gv : ((-(v : Int)) == 0) = true := by simp [hv0]
              have er : R = .error 300 := HNe.out (.inr (.inr (.inl ⟨rfl, by rw [← hv.out]; exact hv0⟩)))
              subst er
              skip
              go_wp2
              go_quiet (fail)
              go_wp2_with (go_at_call 24; refine (pfail0 pb s p _ (HP.out.drewN _)).mono ?_; rintro e w9 ⟨rfl, p9, q9⟩; have P9 := Lib.hid p9; have Q9 := Lib.hid q9; clear p9 q9)
              go_ret
              exact num_err (by omega) P9.out ((HF.out.drewN _).trans Q9.out)
            have gv : ((-(v : Int)) == 0) = false := by simp; omega
            have er : R = .ok (_, _) := HOk.out (by
              rintro (c | ⟨c, c'⟩ | ⟨c, c'⟩ | c | c | c | c)
              · omega
              · exact hs48 (at_byte (by omega) c')
              · rw [← hv.out] at c'; exact hv0 c'
              · rw [← hv.out] at c; rw [if_pos rfl] at c; omega
              · rw [← hp.out, List.getElem?_eq_none (by rw [HL.out]; omega)] at c; simp at c
              · rw [← hp.out, List.getElem?_eq_none (by rw [HL.out]; omega)] at c; simp at c
              · rw [← hp.out, List.getElem?_eq_none (by rw [HL.out]; omega)] at c; simp at c)
            rw [← hv.out, ← hp.out] at er
            simp only [if_true, if_false, Bool.false_eq_true, reduceIte] at er
            subst er
            go_wp2
            go_quiet (fail)
            go_wp2_with fail
            go_quiet (fail)
            go_wp2
            go_ret
            first | exact num_ok (by simp) (by omega) ((HP.out.drewN _).drewN _) ((HF.out.drewN _).drewN _) | exact num_ok (by simp) (by omega) (HP.out.drewN _) (HF.out.drewN _)
          | false =>
            by_cases hv0 : (v : Int) = 9223372036854775808
            · have gv : ((-(v : Int)) == -9223372036854775808) = true := by rw [hv0]; rfl
              have er : R = .error 300 := HNe.out (.inr (.inr (.inr (.inl (by rw [← hv.out, if_neg (by simp)]; omega)))))
              subst er
              skip
              go_wp2
              go_quiet (fail)
              go_wp2_with (go_at_call 24; refine (pfail0 pb s p _ (HP.out.drewN _)).mono ?_; rintro e w9 ⟨rfl, p9, q9⟩; have P9 := Lib.hid p9; have Q9 := Lib.hid q9; clear p9 q9)
              go_ret
              exact num_err (by omega) P9.out ((HF.out.drewN _).trans Q9.out)
            have gv : ((-(v : Int)) == -9223372036854775808) = false := by simp; omega
            have er : R = .ok (_, _) := HOk.out (by
              rintro (c | ⟨c, c'⟩ | ⟨c, c'⟩ | c | c | c | c)
              · omega
              · exact hs48 (at_byte (by omega) c')
              · exact absurd c (by simp)
              · rw [← hv.out] at c; rw [if_neg (by simp)] at c; exact hv0 (by omega)
              · rw [← hp.out, List.getElem?_eq_none (by rw [HL.out]; omega)] at c; simp at c
              · rw [← hp.out, List.getElem?_eq_none (by rw [HL.out]; omega)] at c; simp at c
              · rw [← hp.out, List.getElem?_eq_none (by rw [HL.out]; omega)] at c; simp at c)
            rw [← hv.out, ← hp.out] at er
            simp only [if_true, if_false, Bool.false_eq_true, reduceIte] at er
            subst er
            go_wp2
            go_quiet (fail)
            go_wp2_with fail
            go_quiet (fail)
            go_wp2
            go_ret
            first | exact num_ok (by simp) (by omega) ((HP.out.drewN _).drewN _) ((HF.out.drewN _).drewN _) | exact num_ok (by simp) (by omega) (HP.out.drewN _) (HF.out.drewN _)
        · have gt : (p : Int) - (fr : Int) ≤ 1 := by omega
          cases m with
          | true =>
            by_cases hv0 : v = 0
            · have gv : ((-(v : Int)) == 0) = true := by simp [hv0]
              have er : R = .error 300 := HNe.out (.inr (.inr (.inl ⟨rfl, by rw [← hv.out]; exact hv0⟩)))
              subst er
              skip
              go_wp2
              go_quiet (fail)
              go_wp2_with (go_at_call 24; refine (pfail0 pb s p _ (HP.out.drewN _)).mono ?_; rintro e w9 ⟨rfl, p9, q9⟩; have P9 := Lib.hid p9; have Q9 := Lib.hid q9; clear p9 q9)
              go_ret
              exact num_err (by omega) P9.out ((HF.out.drewN _).trans Q9.out)
            have gv : ((-(v : Int)) == 0) = false := by simp; omega
            have er : R = .ok (_, _) := HOk.out (by
              rintro (c | ⟨c, c'⟩ | ⟨c, c'⟩ | c | c | c | c)
              · omega
              · omega
              · rw [← hv.out] at c'; exact hv0 c'
              · rw [← hv.out] at c; rw [if_pos rfl] at c; omega
              · rw [← hp.out, List.getElem?_eq_none (by rw [HL.out]; omega)] at c; simp at c
              · rw [← hp.out, List.getElem?_eq_none (by rw [HL.out]; omega)] at c; simp at c
              · rw [← hp.out, List.getElem?_eq_none (by rw [HL.out]; omega)] at c; simp at c)
            rw [← hv.out, ← hp.out] at er
            simp only [if_true, if_false, Bool.false_eq_true, reduceIte] at er
            subst er
            go_wp2
            go_quiet (fail)
            go_wp2_with fail
            go_quiet (fail)
            go_wp2
            go_ret
            first | exact num_ok (by simp) (by omega) ((HP.out.drewN _).drewN _) ((HF.out.drewN _).drewN _) | exact num_ok (by simp) (by omega) (HP.out.drewN _) (HF.out.drewN _)
          | false =>
            by_cases hv0 : (v : Int) = 9223372036854775808
            · have gv : ((-(v : Int)) == -9223372036854775808) = true := by rw [hv0]; rfl
              have er : R = .error 300 := HNe.out (.inr (.inr (.inr (.inl (by rw [← hv.out, if_neg (by simp)]; omega)))))
              subst er
              skip
              go_wp2
              go_quiet (fail)
              go_wp2_with (go_at_call 24; refine (pfail0 pb s p _ (HP.out.drewN _)).mono ?_; rintro e w9 ⟨rfl, p9, q9⟩; have P9 := Lib.hid p9; have Q9 := Lib.hid q9; clear p9 q9)
              go_ret
              exact num_err (by omega) P9.out ((HF.out.drewN _).trans Q9.out)
            have gv : ((-(v : Int)) == -9223372036854775808) = false := by simp; omega
            have er : R = .ok (_, _) := HOk.out (by
              rintro (c | ⟨c, c'⟩ | ⟨c, c'⟩ | c | c | c | c)
              · omega
              · omega
              · exact absurd c (by simp)
              · rw [← hv.out] at c; rw [if_neg (by simp)] at c; exact hv0 (by omega)
              · rw [← hp.out, List.getElem?_eq_none (by rw [HL.out]; omega)] at c; simp at c
              · rw [← hp.out, List.getElem?_eq_none (by rw [HL.out]; omega)] at c; simp at c
              · rw [← hp.out, List.getElem?_eq_none (by rw [HL.out]; omega)] at c; simp at c)
            rw [← hv.out, ← hp.out] at er
            simp only [if_true, if_false, Bool.false_eq_true, reduceIte] at er
            subst er
            go_wp2
            go_quiet (fail)
            go_wp2_with fail
            go_quiet (fail)
            go_wp2
            go_ret
            first | exact num_ok (by simp) (by omega) ((HP.out.drewN _).drewN _) ((HF.out.drewN _).drewN _) | exact num_ok (by simp) (by omega) (HP.out.drewN _) (HF.out.drewN _)
end Go.Proofs.YtcobadgpelhcoaaDoor
