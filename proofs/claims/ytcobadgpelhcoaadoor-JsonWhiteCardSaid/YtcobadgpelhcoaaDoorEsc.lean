/- The parser of the document's answer: what stands behind a stroke. -/
import Derived.Test.YtcobadgpelhcoaaDoorHex
import Derived.Test.YtcobadgpelhcoaaDoorRPutR
namespace Go.Proofs.YtcobadgpelhcoaaDoor
open Go.Conc Go.RowKit
set_option linter.unusedVariables false

/-- What was read, and the place behind it; or the error, and some place. -/
def EscDid (pb : Nat) (s : ByteArray) (r : Rd (List UInt8)) (w : World) (e : Ending) (w' : World) : Prop :=
  ∃ (t : ByteArray) (k : Nat) (c : Int), e = .returned (.string t) ∧ t.size ≤ 4 ∧ k ≤ s.size ∧ PAt w' pb s k c ∧ Frm (One pb) w w' ∧
    (match r with | .ok (bs, k') => t = ⟨bs.toArray⟩ ∧ k = k' ∧ c = 0 | .error x => c = x ∧ x = 300)
theorem esc_ok {pb k : Nat} {s : ByteArray} {w w' : World} {bs : List UInt8} (hb : bs.length ≤ 4) (hk : k ≤ s.size) (hp : PAt w' pb s k 0) (hf : Frm (One pb) w w') : EscDid pb s (.ok (bs, k)) w (.returned (.string ⟨bs.toArray⟩)) w' :=
  ⟨_, k, 0, rfl, by simpa [ByteArray.size] using hb, hk, hp, hf, rfl, rfl, rfl⟩
theorem esc_err {pb k : Nat} {s t : ByteArray} {w w' : World} (ht : t.size ≤ 4) (hk : k ≤ s.size) (hp : PAt w' pb s k 300) (hf : Frm (One pb) w w') : EscDid pb s (.error 300) w (.returned (.string t)) w' :=
  ⟨t, k, 300, rfl, ht, hk, hp, hf, rfl, rfl⟩
theorem pfail0 (pb : Nat) (s : ByteArray) (i : Nat) (w : World) (h : PAt w pb s i 0) : Calls Tryd.prog 24 #[.pointer (some ⟨pb, 0, none⟩), .int .i64 300] w (PDid pb s i 300 w) := pfail_any pb s i 0 300 w h
/-- None of the first q of the table. -/
def Unlike (c : UInt8) (q : Nat) : Prop := ∀ r : Nat, r < q → [34, 92, 47, 98, 102, 110, 114, 116][r]? ≠ some c.toNat
theorem unlike_more {c : UInt8} {q v : Nat} (h : Unlike c q) (hv : [34, 92, 47, 98, 102, 110, 114, 116][q]? = some v) (hc : ¬ c.toNat = v) : Unlike c (q + 1) := by
  intro r hr
  rcases Nat.lt_succ_iff_lt_or_eq.1 hr with h' | rfl
  · exact h r h'
  · rw [hv]; simp only [ne_eq, Option.some.injEq]; omega
theorem unlike_short {c : UInt8} (h : Unlike c 8) : short c = none := by
  have a0 : c.toNat ≠ 34 := fun e => h 0 (by omega) (by rw [e]; rfl)
  have a1 : c.toNat ≠ 92 := fun e => h 1 (by omega) (by rw [e]; rfl)
  have a2 : c.toNat ≠ 47 := fun e => h 2 (by omega) (by rw [e]; rfl)
  have a3 : c.toNat ≠ 98 := fun e => h 3 (by omega) (by rw [e]; rfl)
  have a4 : c.toNat ≠ 102 := fun e => h 4 (by omega) (by rw [e]; rfl)
  have a5 : c.toNat ≠ 110 := fun e => h 5 (by omega) (by rw [e]; rfl)
  have a6 : c.toNat ≠ 114 := fun e => h 6 (by omega) (by rw [e]; rfl)
  have a7 : c.toNat ≠ 116 := fun e => h 7 (by omega) (by rw [e]; rfl)
  unfold short
  split <;> first | contradiction | rfl
theorem escAt_none {l : List UInt8} {i : Nat} (h : l.length ≤ i) : escAt l i = .error 300 := by
  unfold escAt; rw [List.getElem?_eq_none h]
theorem escAt_short {l : List UInt8} {i : Nat} {c b : UInt8} (h : l[i]? = some c) (hs : short c = some b) : escAt l i = .ok ([b], i + 1) := by
  unfold escAt; simp only [h, hs]
theorem escAt_other {l : List UInt8} {i : Nat} {c : UInt8} (h : l[i]? = some c) (hs : short c = none) (hc : c.toNat ≠ 117) : escAt l i = .error 300 := by
  unfold escAt; simp only [h, hs]; rw [if_pos hc]
/-- Behind \\u. -/
def uAt (l : List UInt8) (i : Nat) : Rd (List UInt8) :=
  match hexAt l (i + 1) with
  | none => .error 300
  | some r =>
    if 55296 ≤ r ∧ r ≤ 56319 ∧ wordAt [92, 117] l (i + 5) = true then
      match hexAt l (i + 7) with
      | none => .error 300
      | some low => if low < 56320 ∨ 57343 < low then .error 300 else .ok (enc (65536 + (r - 55296) * 1024 + (low - 56320)), i + 11)
    else if isRune r then .ok (enc r, i + 5) else .error 300
theorem escAt_u {l : List UInt8} {i : Nat} {c : UInt8} (h : l[i]? = some c) (hs : short c = none) (hc : c.toNat = 117) : escAt l i = uAt l i := by
  unfold escAt; simp only [h, hs]; rw [if_neg (by omega)]; rfl

theorem hexN_lt {l : List UInt8} {i : Nat} : ∀ {j x : Nat}, hexN l i j = some x → x < 16 ^ j
  | 0, x, h => by simp [hexN] at h; omega
  | j + 1, x, h => by
    unfold hexN at h
    split at h
    · rename_i y d h1 h2
      simp only [Option.some.injEq] at h
      have hy := hexN_lt h1
      have hd : d < 16 := by
        cases hc : l[i + j]? with
        | none => rw [hc] at h2; simp at h2
        | some c => rw [hc] at h2; exact hexVal_lt h2
      rw [Nat.pow_succ]; omega
    · simp at h
theorem hexAt_lt {l : List UInt8} {i x : Nat} (h : hexAt l i = some x) : x < 65536 := hexN_lt h
theorem hexAt_in {l : List UInt8} {i x : Nat} (h : hexAt l i = some x) : i + 4 ≤ l.length := by
  apply Decidable.byContradiction
  intro hn
  rw [hexAt_short (by omega)] at h
  simp at h
theorem uAt_none {l : List UInt8} {i : Nat} (h : hexAt l (i + 1) = none) : uAt l i = .error 300 := by unfold uAt; rw [h]
theorem uAt_low0 {l : List UInt8} {i x : Nat} (h : hexAt l (i + 1) = some x) (h1 : 55296 ≤ x) (h2 : x ≤ 56319) (hw : wordAt [92, 117] l (i + 5) = true) (h3 : hexAt l (i + 7) = none) : uAt l i = .error 300 := by
  unfold uAt; rw [h]; simp only []; rw [if_pos ⟨h1, h2, hw⟩, h3]
theorem uAt_low1 {l : List UInt8} {i x y : Nat} (h : hexAt l (i + 1) = some x) (h1 : 55296 ≤ x) (h2 : x ≤ 56319) (hw : wordAt [92, 117] l (i + 5) = true) (h3 : hexAt l (i + 7) = some y) (hy : y < 56320 ∨ 57343 < y) : uAt l i = .error 300 := by
  unfold uAt; rw [h]; simp only []; rw [if_pos ⟨h1, h2, hw⟩, h3]; simp only []; rw [if_pos hy]
theorem uAt_low2 {l : List UInt8} {i x y : Nat} (h : hexAt l (i + 1) = some x) (h1 : 55296 ≤ x) (h2 : x ≤ 56319) (hw : wordAt [92, 117] l (i + 5) = true) (h3 : hexAt l (i + 7) = some y) (hy : ¬ (y < 56320 ∨ 57343 < y)) : uAt l i = .ok (enc (65536 + (x - 55296) * 1024 + (y - 56320)), i + 11) := by
  unfold uAt; rw [h]; simp only []; rw [if_pos ⟨h1, h2, hw⟩, h3]; simp only []; rw [if_neg hy]
theorem uAt_half {l : List UInt8} {i x : Nat} (h : hexAt l (i + 1) = some x) (h1 : ¬ (55296 ≤ x ∧ x ≤ 56319 ∧ wordAt [92, 117] l (i + 5) = true)) (hr : isRune x = false) : uAt l i = .error 300 := by
  unfold uAt; rw [h]; simp only []; rw [if_neg h1, if_neg (by rw [hr]; simp)]
theorem uAt_rune {l : List UInt8} {i x : Nat} (h : hexAt l (i + 1) = some x) (h1 : ¬ (55296 ≤ x ∧ x ≤ 56319 ∧ wordAt [92, 117] l (i + 5) = true)) (hr : isRune x = true) : uAt l i = .ok (enc x, i + 5) := by
  unfold uAt; rw [h]; simp only []; rw [if_neg h1, if_pos hr]

theorem pword_u (pb : Nat) (s : ByteArray) (i : Nat) (w : World) (h : PAt w pb s i 0) (hi : i ≤ s.size) (hs : s.size ≤ 65536) :
    Calls Tryd.prog 34 #[.pointer (some ⟨pb, 0, none⟩), .string ⟨#[92, 117]⟩] w (PTold pb s (if wordAt [92, 117] s.data.toList i then i + 2 else i) 0 (.bool (wordAt [92, 117] s.data.toList i)) w) :=
  pword_any pb s ⟨#[92, 117]⟩ i 0 w h hi hs (by decide)
theorem rputr_of (z : Int) (n : Nat) (hz : z = n) (h : isRune n = true) (w : World) : Calls Tryd.prog 76 #[.int .i64 z] w fun e w' => e = .returned (.tuple #[.string ⟨(enc n).toArray⟩, .int .i64 0]) ∧ Below w.heap.size w w' := by
  subst hz
  exact rputr_yes n h w

set_option maxHeartbeats 8000000 in
set_option maxRecDepth 100000 in
theorem pescape_any (pb : Nat) (s : ByteArray) (i : Nat) (w : World) (h : PAt w pb s i 0) (hi : i ≤ s.size) (hs : s.size ≤ 65536) :
    Calls Tryd.prog 58 #[.pointer (some ⟨pb, 0, none⟩)] w (EscDid pb s (escAt s.data.toList i) w) := by
  have HL := Lib.hid (show s.data.toList.length = s.size by simp)
  have c0 := h.c0
  have c1 := h.c1
  have f1 := h.fz 1
  have H := Lib.hid h
  clear h
  by_cases hlt : i < s.size
  · have hbd : s.data.toList[i]? = some s[i] := by rw [List.getElem?_eq_getElem (by rw [HL.out]; exact hlt)]; rfl
    have HB := Lib.hid hbd
    clear hbd
    generalize hR : escAt s.data.toList i = R
    have HR := Lib.hid hR
    clear hR
    have hc255 := s[i].toNat_lt
    go_enter Tryd.func58, Tryd.ntmps58
    go_wp2
    go_quiet (fail)
    go_wp2
    go_quiet (fail)
    go_wp2
    go_loopw [6] (fun iv wr => ∃ q : Nat, q ≤ 8 ∧ iv = .int .i64 q ∧ Hid (Unlike s[i] q) ∧ PAt wr pb s (i + 1) 0 ∧ Frm (One pb) w wr) (fun iv _ => 8 - (intOf iv).toNat)
    case atStart => exact ⟨0, by omega, rfl, fun r hr => by omega, (H.out.drewN _).setAt (i + 1), ((Frm.refl _ w).drewN _).trans (frm_at _ _ _ _)⟩
    case round =>
      obtain ⟨q, hq, rfl, hun, hp, hf⟩ := hrel
      have HP := Lib.hid hp
      have HF := Lib.hid hf
      clear hp hf
      rcases (by omega : q = 0 ∨ q = 1 ∨ q = 2 ∨ q = 3 ∨ q = 4 ∨ q = 5 ∨ q = 6 ∨ q = 7 ∨ q = 8) with rfl | rfl | rfl | rfl | rfl | rfl | rfl | rfl | rfl
      · by_cases hc : s[i].toNat = 34
        · have hv : short s[i] = some 34 := by unfold short; rw [hc]; rfl
          have e := escAt_short HB.out hv
          rw [HR.out] at e
          subst e
          have g1 : ((((⟨#[34, 92, 47, 98, 102, 110, 114, 116]⟩ : ByteArray)[0]'(by decide)).toNat : Int) == (s[i].toNat : Int)) = true := by show ((34 : Int) == (s[i].toNat : Int)) = true; simp [hc]
          clear hc hv
          go_wp2
          go_ret
          exact esc_ok (bs := [34]) (by simp) (by omega) HP.out HF.out
        · have hu : Hid (Unlike s[i] 1) := unlike_more hun.out rfl hc
          have g1 : ((((⟨#[34, 92, 47, 98, 102, 110, 114, 116]⟩ : ByteArray)[0]'(by decide)).toNat : Int) == (s[i].toNat : Int)) = false := by show ((34 : Int) == (s[i].toNat : Int)) = false; simp; omega
          clear hc
          go_wp2
          exact ⟨⟨1, by omega, rfl, hu, HP.out, HF.out⟩, by simp [intOf]⟩
      · by_cases hc : s[i].toNat = 92
        · have hv : short s[i] = some 92 := by unfold short; rw [hc]; rfl
          have e := escAt_short HB.out hv
          rw [HR.out] at e
          subst e
          have g1 : ((((⟨#[34, 92, 47, 98, 102, 110, 114, 116]⟩ : ByteArray)[1]'(by decide)).toNat : Int) == (s[i].toNat : Int)) = true := by show ((92 : Int) == (s[i].toNat : Int)) = true; simp [hc]
          clear hc hv
          go_wp2
          go_ret
          exact esc_ok (bs := [92]) (by simp) (by omega) HP.out HF.out
        · have hu : Hid (Unlike s[i] 2) := unlike_more hun.out rfl hc
          have g1 : ((((⟨#[34, 92, 47, 98, 102, 110, 114, 116]⟩ : ByteArray)[1]'(by decide)).toNat : Int) == (s[i].toNat : Int)) = false := by show ((92 : Int) == (s[i].toNat : Int)) = false; simp; omega
          clear hc
          go_wp2
          exact ⟨⟨2, by omega, rfl, hu, HP.out, HF.out⟩, by simp [intOf]⟩
      · by_cases hc : s[i].toNat = 47
        · have hv : short s[i] = some 47 := by unfold short; rw [hc]; rfl
          have e := escAt_short HB.out hv
          rw [HR.out] at e
          subst e
          have g1 : ((((⟨#[34, 92, 47, 98, 102, 110, 114, 116]⟩ : ByteArray)[2]'(by decide)).toNat : Int) == (s[i].toNat : Int)) = true := by show ((47 : Int) == (s[i].toNat : Int)) = true; simp [hc]
          clear hc hv
          go_wp2
          go_ret
          exact esc_ok (bs := [47]) (by simp) (by omega) HP.out HF.out
        · have hu : Hid (Unlike s[i] 3) := unlike_more hun.out rfl hc
          have g1 : ((((⟨#[34, 92, 47, 98, 102, 110, 114, 116]⟩ : ByteArray)[2]'(by decide)).toNat : Int) == (s[i].toNat : Int)) = false := by show ((47 : Int) == (s[i].toNat : Int)) = false; simp; omega
          clear hc
          go_wp2
          exact ⟨⟨3, by omega, rfl, hu, HP.out, HF.out⟩, by simp [intOf]⟩
      · by_cases hc : s[i].toNat = 98
        · have hv : short s[i] = some 8 := by unfold short; rw [hc]; rfl
          have e := escAt_short HB.out hv
          rw [HR.out] at e
          subst e
          have g1 : ((((⟨#[34, 92, 47, 98, 102, 110, 114, 116]⟩ : ByteArray)[3]'(by decide)).toNat : Int) == (s[i].toNat : Int)) = true := by show ((98 : Int) == (s[i].toNat : Int)) = true; simp [hc]
          clear hc hv
          go_wp2
          go_ret
          exact esc_ok (bs := [8]) (by simp) (by omega) HP.out HF.out
        · have hu : Hid (Unlike s[i] 4) := unlike_more hun.out rfl hc
          have g1 : ((((⟨#[34, 92, 47, 98, 102, 110, 114, 116]⟩ : ByteArray)[3]'(by decide)).toNat : Int) == (s[i].toNat : Int)) = false := by show ((98 : Int) == (s[i].toNat : Int)) = false; simp; omega
          clear hc
          go_wp2
          exact ⟨⟨4, by omega, rfl, hu, HP.out, HF.out⟩, by simp [intOf]⟩
      · by_cases hc : s[i].toNat = 102
        · have hv : short s[i] = some 12 := by unfold short; rw [hc]; rfl
          have e := escAt_short HB.out hv
          rw [HR.out] at e
          subst e
          have g1 : ((((⟨#[34, 92, 47, 98, 102, 110, 114, 116]⟩ : ByteArray)[4]'(by decide)).toNat : Int) == (s[i].toNat : Int)) = true := by show ((102 : Int) == (s[i].toNat : Int)) = true; simp [hc]
          clear hc hv
          go_wp2
          go_ret
          exact esc_ok (bs := [12]) (by simp) (by omega) HP.out HF.out
        · have hu : Hid (Unlike s[i] 5) := unlike_more hun.out rfl hc
          have g1 : ((((⟨#[34, 92, 47, 98, 102, 110, 114, 116]⟩ : ByteArray)[4]'(by decide)).toNat : Int) == (s[i].toNat : Int)) = false := by show ((102 : Int) == (s[i].toNat : Int)) = false; simp; omega
          clear hc
          go_wp2
          exact ⟨⟨5, by omega, rfl, hu, HP.out, HF.out⟩, by simp [intOf]⟩
      · by_cases hc : s[i].toNat = 110
        · have hv : short s[i] = some 10 := by unfold short; rw [hc]; rfl
          have e := escAt_short HB.out hv
          rw [HR.out] at e
          subst e
          have g1 : ((((⟨#[34, 92, 47, 98, 102, 110, 114, 116]⟩ : ByteArray)[5]'(by decide)).toNat : Int) == (s[i].toNat : Int)) = true := by show ((110 : Int) == (s[i].toNat : Int)) = true; simp [hc]
          clear hc hv
          go_wp2
          go_ret
          exact esc_ok (bs := [10]) (by simp) (by omega) HP.out HF.out
        · have hu : Hid (Unlike s[i] 6) := unlike_more hun.out rfl hc
          have g1 : ((((⟨#[34, 92, 47, 98, 102, 110, 114, 116]⟩ : ByteArray)[5]'(by decide)).toNat : Int) == (s[i].toNat : Int)) = false := by show ((110 : Int) == (s[i].toNat : Int)) = false; simp; omega
          clear hc
          go_wp2
          exact ⟨⟨6, by omega, rfl, hu, HP.out, HF.out⟩, by simp [intOf]⟩
      · by_cases hc : s[i].toNat = 114
        · have hv : short s[i] = some 13 := by unfold short; rw [hc]; rfl
          have e := escAt_short HB.out hv
          rw [HR.out] at e
          subst e
          have g1 : ((((⟨#[34, 92, 47, 98, 102, 110, 114, 116]⟩ : ByteArray)[6]'(by decide)).toNat : Int) == (s[i].toNat : Int)) = true := by show ((114 : Int) == (s[i].toNat : Int)) = true; simp [hc]
          clear hc hv
          go_wp2
          go_ret
          exact esc_ok (bs := [13]) (by simp) (by omega) HP.out HF.out
        · have hu : Hid (Unlike s[i] 7) := unlike_more hun.out rfl hc
          have g1 : ((((⟨#[34, 92, 47, 98, 102, 110, 114, 116]⟩ : ByteArray)[6]'(by decide)).toNat : Int) == (s[i].toNat : Int)) = false := by show ((114 : Int) == (s[i].toNat : Int)) = false; simp; omega
          clear hc
          go_wp2
          exact ⟨⟨7, by omega, rfl, hu, HP.out, HF.out⟩, by simp [intOf]⟩
      · by_cases hc : s[i].toNat = 116
        · have hv : short s[i] = some 9 := by unfold short; rw [hc]; rfl
          have e := escAt_short HB.out hv
          rw [HR.out] at e
          subst e
          have g1 : ((((⟨#[34, 92, 47, 98, 102, 110, 114, 116]⟩ : ByteArray)[7]'(by decide)).toNat : Int) == (s[i].toNat : Int)) = true := by show ((116 : Int) == (s[i].toNat : Int)) = true; simp [hc]
          clear hc hv
          go_wp2
          go_ret
          exact esc_ok (bs := [9]) (by simp) (by omega) HP.out HF.out
        · have hu : Hid (Unlike s[i] 8) := unlike_more hun.out rfl hc
          have g1 : ((((⟨#[34, 92, 47, 98, 102, 110, 114, 116]⟩ : ByteArray)[7]'(by decide)).toNat : Int) == (s[i].toNat : Int)) = false := by show ((116 : Int) == (s[i].toNat : Int)) = false; simp; omega
          clear hc
          go_wp2
          exact ⟨⟨8, by omega, rfl, hu, HP.out, HF.out⟩, by simp [intOf]⟩
      · have hsh : short s[i] = none := unlike_short hun.out
        by_cases hc : s[i].toNat = 117
        · have e := escAt_u HB.out hsh hc
          rw [HR.out] at e
          have HR2 := Lib.hid e
          clear e
          have g1 : ((s[i].toNat : Int) == 117) = true := by simp [hc]
          have g2 : ((s[i].toNat : Int) != 117) = false := by simp [hc]
          clear hc hsh
          cases h1 : hexAt s.data.toList (i + 1) with
          | none =>
            have T1 := Lib.hid (phex_any pb s (i + 1) 0 wr HP.out (by omega) hs)
            rw [h1] at T1
            simp only [hexAns, hexTo] at T1
            have er := HR2.out.trans (uAt_none h1)
            subst er
            clear h1
            go_wp2_with fail
            refine (T1.out).mono ?_; rintro e w1 ⟨rfl, p1, q1⟩; have P1 := Lib.hid p1; have Q1 := Lib.hid q1; clear p1 q1
            go_wp2_with (go_at_call 76; refine (rputr_no (-1) (by decide) _).mono ?_; rintro e w' ⟨rfl, rfl⟩)
            refine (pfail0 pb s (i + 1) _ P1.out).mono ?_; rintro e w2 ⟨rfl, p2, q2⟩; have P2 := Lib.hid p2; have Q2 := Lib.hid q2; clear p2 q2
            go_wp2
            go_ret
            exact esc_err (by decide) (by omega) P2.out ((HF.out.trans Q1.out).trans Q2.out)
          | some x =>
            have hx := hexAt_lt h1
            have hin := hexAt_in h1
            rw [HL.out] at hin
            have H1 := Lib.hid h1
            have T1 := Lib.hid (phex_any pb s (i + 1) 0 wr HP.out (by omega) hs)
            rw [h1] at T1
            simp only [hexAns, hexTo] at T1
            clear h1
            by_cases c1 : 55296 ≤ x
            · by_cases c2 : x ≤ 56319
              · cases hw : wordAt [92, 117] s.data.toList (i + 5) with
                | true =>
                  have HW := Lib.hid hw
                  have hin2 : i + 7 ≤ s.size := by
                    have := (wordAt_iff s ⟨#[92, 117]⟩ (i + 5) (by omega)).1 hw
                    have h2 : (ByteArray.mk #[92, 117]).size = 2 := rfl
                    omega
                  cases h3 : hexAt s.data.toList (i + 7) with
                  | none =>
                    have er := HR2.out.trans (uAt_low0 H1.out c1 c2 hw h3); subst er
                    have T3 := fun w2 (p2 : PAt w2 pb s (i + 7) 0) => phex_any pb s (i + 7) 0 w2 p2 (by omega) hs
                    rw [h3] at T3
                    simp only [hexAns, hexTo] at T3
                    have T3' := Lib.hid T3
                    clear T3
                    clear hw h3
                    go_wp2_with fail
                    refine (T1.out).mono ?_; rintro e w1 ⟨rfl, p1, q1⟩; have P1 := Lib.hid p1; have Q1 := Lib.hid q1; clear p1 q1
                    go_wp2_with fail
                    refine (pword_u pb s (i + 5) w1 P1.out (by omega) hs).mono ?_
                    rw [HW.out]
                    rintro e w2 ⟨rfl, p2, q2⟩
                    first | simp only [if_true] at p2 | simp only [if_false, Bool.false_eq_true] at p2
                    have P2 := Lib.hid p2; have Q2 := Lib.hid q2; clear p2 q2
                    go_wp2_with fail
                    refine (T3'.out _ P2.out).mono ?_; rintro e w3 ⟨rfl, p3, q3⟩; have P3 := Lib.hid p3; have Q3 := Lib.hid q3; clear p3 q3
                    go_wp2_with fail
                    refine (pfail0 pb s (i + 7) _ P3.out).mono ?_; rintro e w9 ⟨rfl, p9, q9⟩; have P9 := Lib.hid p9; have Q9 := Lib.hid q9; clear p9 q9
                    go_wp2
                    go_ret
                    exact esc_err (t := ⟨#[]⟩) (by decide) (by omega) P9.out ((((HF.out.trans Q1.out).trans Q2.out).trans Q3.out).trans Q9.out)
                  | some y =>
                    have hin3 := hexAt_in h3
                    rw [HL.out] at hin3
                    by_cases y1 : y < 56320
                    · have er := HR2.out.trans (uAt_low1 H1.out c1 c2 hw h3 (.inl y1)); subst er
                      have T3 := fun w2 (p2 : PAt w2 pb s (i + 7) 0) => phex_any pb s (i + 7) 0 w2 p2 (by omega) hs
                      rw [h3] at T3
                      simp only [hexAns, hexTo] at T3
                      have T3' := Lib.hid T3
                      clear T3
                      clear hw h3
                      go_wp2_with fail
                      refine (T1.out).mono ?_; rintro e w1 ⟨rfl, p1, q1⟩; have P1 := Lib.hid p1; have Q1 := Lib.hid q1; clear p1 q1
                      go_wp2_with fail
                      refine (pword_u pb s (i + 5) w1 P1.out (by omega) hs).mono ?_
                      rw [HW.out]
                      rintro e w2 ⟨rfl, p2, q2⟩
                      first | simp only [if_true] at p2 | simp only [if_false, Bool.false_eq_true] at p2
                      have P2 := Lib.hid p2; have Q2 := Lib.hid q2; clear p2 q2
                      go_wp2_with fail
                      refine (T3'.out _ P2.out).mono ?_; rintro e w3 ⟨rfl, p3, q3⟩; have P3 := Lib.hid p3; have Q3 := Lib.hid q3; clear p3 q3
                      go_wp2_with fail
                      refine (pfail0 pb s (i + 7 + 4) _ P3.out).mono ?_; rintro e w9 ⟨rfl, p9, q9⟩; have P9 := Lib.hid p9; have Q9 := Lib.hid q9; clear p9 q9
                      go_wp2
                      go_ret
                      exact esc_err (t := ⟨#[]⟩) (by decide) (by omega) P9.out ((((HF.out.trans Q1.out).trans Q2.out).trans Q3.out).trans Q9.out)
                    by_cases y2 : 57343 < y
                    · have er := HR2.out.trans (uAt_low1 H1.out c1 c2 hw h3 (.inr y2)); subst er
                      have T3 := fun w2 (p2 : PAt w2 pb s (i + 7) 0) => phex_any pb s (i + 7) 0 w2 p2 (by omega) hs
                      rw [h3] at T3
                      simp only [hexAns, hexTo] at T3
                      have T3' := Lib.hid T3
                      clear T3
                      clear hw h3
                      go_wp2_with fail
                      refine (T1.out).mono ?_; rintro e w1 ⟨rfl, p1, q1⟩; have P1 := Lib.hid p1; have Q1 := Lib.hid q1; clear p1 q1
                      go_wp2_with fail
                      refine (pword_u pb s (i + 5) w1 P1.out (by omega) hs).mono ?_
                      rw [HW.out]
                      rintro e w2 ⟨rfl, p2, q2⟩
                      first | simp only [if_true] at p2 | simp only [if_false, Bool.false_eq_true] at p2
                      have P2 := Lib.hid p2; have Q2 := Lib.hid q2; clear p2 q2
                      go_wp2_with fail
                      refine (T3'.out _ P2.out).mono ?_; rintro e w3 ⟨rfl, p3, q3⟩; have P3 := Lib.hid p3; have Q3 := Lib.hid q3; clear p3 q3
                      go_wp2_with fail
                      refine (pfail0 pb s (i + 7 + 4) _ P3.out).mono ?_; rintro e w9 ⟨rfl, p9, q9⟩; have P9 := Lib.hid p9; have Q9 := Lib.hid q9; clear p9 q9
                      go_wp2
                      go_ret
                      exact esc_err (t := ⟨#[]⟩) (by decide) (by omega) P9.out ((((HF.out.trans Q1.out).trans Q2.out).trans Q3.out).trans Q9.out)
                    · have er := HR2.out.trans (uAt_low2 H1.out c1 c2 hw h3 (by omega))
                      obtain ⟨n, hn⟩ : ∃ n : Nat, n = 65536 + (x - 55296) * 1024 + (y - 56320) := ⟨_, rfl⟩
                      rw [← hn] at er
                      subst er
                      have T3 := fun w2 (p2 : PAt w2 pb s (i + 7) 0) => phex_any pb s (i + 7) 0 w2 p2 (by omega) hs
                      rw [h3] at T3
                      simp only [hexAns, hexTo] at T3
                      have T3' := Lib.hid T3
                      clear T3
                      clear hw h3
                      have hr : Hid (isRune (n : Int) = true) := by unfold Hid; rw [isRune_iff]; omega
                      have hnI : Hid ((65536 : Int) + ((x : Int) - 55296) * 1024 + (y : Int) - 56320 = (n : Int)) := by unfold Hid; omega
                      clear hn
                      go_wp2_with fail
                      refine (T1.out).mono ?_; rintro e w1 ⟨rfl, p1, q1⟩; have P1 := Lib.hid p1; have Q1 := Lib.hid q1; clear p1 q1
                      go_wp2_with fail
                      refine (pword_u pb s (i + 5) w1 P1.out (by omega) hs).mono ?_
                      rw [HW.out]
                      rintro e w2 ⟨rfl, p2, q2⟩
                      first | simp only [if_true] at p2 | simp only [if_false, Bool.false_eq_true] at p2
                      have P2 := Lib.hid p2; have Q2 := Lib.hid q2; clear p2 q2
                      go_wp2_with fail
                      refine (T3'.out _ P2.out).mono ?_; rintro e w3 ⟨rfl, p3, q3⟩; have P3 := Lib.hid p3; have Q3 := Lib.hid q3; clear p3 q3
                      go_wp2_with fail
                      refine (rputr_of _ n hnI.out hr.out _).mono ?_
                      rintro e w8 ⟨rfl, b8⟩
                      have B8 := Lib.hid b8
                      clear b8
                      go_wp2
                      go_ret
                      exact esc_ok (enc_le _) (by omega) (P3.out.new B8.out) ((((HF.out.trans Q1.out).trans Q2.out).trans Q3.out).trans (Frm.of_new B8.out _))
                | false =>
                  have HW := Lib.hid hw
                  have er := HR2.out.trans (uAt_half H1.out (by rw [hw]; simp) (by simp [isRune]; omega)); subst er
                  clear hw
                  go_wp2_with fail
                  refine (T1.out).mono ?_; rintro e w1 ⟨rfl, p1, q1⟩; have P1 := Lib.hid p1; have Q1 := Lib.hid q1; clear p1 q1
                  go_wp2_with fail
                  refine (pword_u pb s (i + 5) w1 P1.out (by omega) hs).mono ?_
                  rw [HW.out]
                  rintro e w2 ⟨rfl, p2, q2⟩
                  first | simp only [if_true] at p2 | simp only [if_false, Bool.false_eq_true] at p2
                  have P2 := Lib.hid p2; have Q2 := Lib.hid q2; clear p2 q2
                  go_wp2_with fail
                  refine (rputr_no _ (by simp [isRune]; omega) _).mono ?_; rintro e w' ⟨rfl, rfl⟩
                  go_wp2_with fail
                  refine (pfail0 pb s (i + 5) _ P2.out).mono ?_; rintro e w9 ⟨rfl, p9, q9⟩; have P9 := Lib.hid p9; have Q9 := Lib.hid q9; clear p9 q9
                  go_wp2
                  go_ret
                  exact esc_err (t := ⟨#[]⟩) (by decide) (by omega) P9.out (((HF.out.trans Q1.out).trans Q2.out).trans Q9.out)
              · have h0r : isRune (x : Int) = if x ≤ 57343 then false else true := by unfold isRune; split <;> simp <;> omega
                by_cases c3 : x ≤ 57343
                · rw [if_pos c3] at h0r
                  have hr := Lib.hid h0r
                  clear h0r
                  have er := HR2.out.trans (uAt_half H1.out (by omega) hr.out); subst er
                  go_wp2_with fail
                  refine (T1.out).mono ?_; rintro e w1 ⟨rfl, p1, q1⟩; have P1 := Lib.hid p1; have Q1 := Lib.hid q1; clear p1 q1
                  go_wp2_with fail
                  refine (rputr_no _ (by exact hr.out) _).mono ?_; rintro e w' ⟨rfl, rfl⟩
                  go_wp2_with fail
                  refine (pfail0 pb s (i + 1 + 4) _ P1.out).mono ?_; rintro e w9 ⟨rfl, p9, q9⟩; have P9 := Lib.hid p9; have Q9 := Lib.hid q9; clear p9 q9
                  go_wp2
                  go_ret
                  exact esc_err (t := ⟨#[]⟩) (by decide) (by omega) P9.out ((HF.out.trans Q1.out).trans Q9.out)
                · rw [if_neg c3] at h0r
                  have hr := Lib.hid h0r
                  clear h0r
                  have er := HR2.out.trans (uAt_rune H1.out (by omega) hr.out); subst er
                  go_wp2_with fail
                  refine (T1.out).mono ?_; rintro e w1 ⟨rfl, p1, q1⟩; have P1 := Lib.hid p1; have Q1 := Lib.hid q1; clear p1 q1
                  go_wp2_with fail
                  refine (rputr_yes x hr.out _).mono ?_
                  rintro e w8 ⟨rfl, b8⟩
                  have B8 := Lib.hid b8
                  clear b8
                  go_wp2
                  go_ret
                  exact esc_ok (enc_le _) (by omega) (P1.out.new B8.out) ((HF.out.trans Q1.out).trans (Frm.of_new B8.out _))
            · have hr : Hid (isRune (x : Int) = true) := by unfold Hid; rw [isRune_iff]; omega
              have er := HR2.out.trans (uAt_rune H1.out (by omega) hr.out); subst er
              go_wp2_with fail
              refine (T1.out).mono ?_; rintro e w1 ⟨rfl, p1, q1⟩; have P1 := Lib.hid p1; have Q1 := Lib.hid q1; clear p1 q1
              go_wp2_with fail
              refine (rputr_yes x hr.out _).mono ?_
              rintro e w8 ⟨rfl, b8⟩
              have B8 := Lib.hid b8
              clear b8
              go_wp2
              go_ret
              exact esc_ok (enc_le _) (by omega) (P1.out.new B8.out) ((HF.out.trans Q1.out).trans (Frm.of_new B8.out _))
        · have e := escAt_other HB.out hsh hc
          rw [HR.out] at e
          subst e
          have g1 : ((s[i].toNat : Int) == 117) = false := by simp; omega
          have g2 : ((s[i].toNat : Int) != 117) = true := by simp; omega
          clear hc hsh
          go_wp2_with (go_at_call 24; refine (pfail0 pb s (i + 1) _ HP.out).mono ?_; rintro e w1 ⟨rfl, p1, q1⟩; have P1 := Lib.hid p1; have Q1 := Lib.hid q1; clear p1 q1)
          go_ret
          exact esc_err (by decide) (by omega) P1.out (HF.out.trans Q1.out)
  · rw [escAt_none (by rw [HL.out]; omega)]
    go_enter Tryd.func58, Tryd.ntmps58
    go_wp2
    go_quiet (fail)
    go_wp2_with (go_at_call 24; refine (pfail0 pb s i _ (H.out.drewN _)).mono ?_; rintro e w1 ⟨rfl, p1, q1⟩; have P1 := Lib.hid p1; have Q1 := Lib.hid q1; clear p1 q1)
    go_ret
    exact esc_err (by decide) hi P1.out (((Frm.refl _ w).drewN nq).trans Q1.out)
end Go.Proofs.YtcobadgpelhcoaaDoor
