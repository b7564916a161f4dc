/- White between turns nothing. Plain mathematics. -/
import Derived.Test.YtcobadgpelhcoaaDoorFMath
namespace Go.Proofs.YtcobadgpelhcoaaDoor
set_option linter.unusedVariables false
set_option linter.unusedSimpArgs false

def mark (c : UInt8) : Bool := decide (c = 44 ∨ c = 58 ∨ c = 91 ∨ c = 93 ∨ c = 123 ∨ c = 125)
/-- White about the marks that stand outside of texts: from a place on, within a text or not, behind a stroke or not. -/
def wh (p : Nat → List UInt8) : Nat → Bool → Bool → List UInt8 → List UInt8
  | _, _, _, [] => []
  | i, wi, sk, c :: r =>
    if wi = false ∧ mark c = true then p i ++ (c :: (p (i + 1) ++ wh p (i + 1) wi sk r))
    else if wi = true ∧ sk = false ∧ c = 92 then c :: wh p (i + 1) wi true r
    else c :: wh p (i + 1) (if c = 34 ∧ sk = false then !wi else wi) false r

section
variable {p : Nat → List UInt8}
theorem wh_mark {c : UInt8} {i : Nat} {r : List UInt8} (h : mark c = true) : wh p i false false (c :: r) = p i ++ (c :: (p (i + 1) ++ wh p (i + 1) false false r)) := by
  conv => lhs; unfold wh
  rw [if_pos ⟨rfl, h⟩]
theorem wh_plain {c : UInt8} {i : Nat} {r : List UInt8} (h : mark c = false) (h34 : c ≠ 34) : wh p i false false (c :: r) = c :: wh p (i + 1) false false r := by
  conv => lhs; unfold wh
  rw [if_neg (by simp [h]), if_neg (by simp), if_neg (by simp [h34])]
theorem wh_copy : ∀ (t : List UInt8) (i : Nat) (rest : List UInt8), (∀ c ∈ t, mark c = false ∧ c ≠ 34) → wh p i false false (t ++ rest) = t ++ wh p (i + t.length) false false rest
  | [], i, rest, h => by simp
  | c :: t, i, rest, h => by
    have hc := h c (by simp)
    rw [List.cons_append, wh_plain hc.1 hc.2, wh_copy t (i + 1) rest fun x hx => h x (by simp [hx]), List.length_cons, show i + 1 + t.length = i + (t.length + 1) by omega]
    rfl
theorem white_copy {w : List UInt8} (h : White w) (i : Nat) (rest : List UInt8) : wh p i false false (w ++ rest) = w ++ wh p (i + w.length) false false rest :=
  wh_copy w i rest fun c hc => by
    have := h c hc
    unfold isWhite at this
    simp only [Bool.or_eq_true, beq_iff_eq] at this
    unfold mark
    rw [decide_eq_false_iff_not]
    constructor
    · rintro (rfl | rfl | rfl | rfl | rfl | rfl) <;> simp at this
    · rintro rfl; simp at this
/-- Within a text. -/
theorem wh_in1 {c : UInt8} {i : Nat} {r : List UInt8} (h34 : c ≠ 34) (h92 : c ≠ 92) : wh p i true false (c :: r) = c :: wh p (i + 1) true false r := by
  conv => lhs; unfold wh
  rw [if_neg (by simp), if_neg (by simp [h92]), if_neg (by simp [h34])]
theorem wh_stroke {i : Nat} {r : List UInt8} : wh p i true false (92 :: r) = 92 :: wh p (i + 1) true true r := by
  conv => lhs; unfold wh
  rw [if_neg (by simp), if_pos ⟨rfl, rfl, rfl⟩]
theorem wh_behind {c : UInt8} {i : Nat} {r : List UInt8} : wh p i true true (c :: r) = c :: wh p (i + 1) true false r := by
  conv => lhs; unfold wh
  rw [if_neg (by simp), if_neg (by simp), if_neg (by simp)]
theorem wh_open {i : Nat} {r : List UInt8} : wh p i false false (34 :: r) = 34 :: wh p (i + 1) true false r := by
  conv => lhs; unfold wh
  rw [if_neg (by simp [mark]), if_neg (by simp), if_pos ⟨rfl, rfl⟩]
  rfl
theorem wh_shut {i : Nat} {r : List UInt8} : wh p i true false (34 :: r) = 34 :: wh p (i + 1) false false r := by
  conv => lhs; unfold wh
  rw [if_neg (by simp), if_neg (by simp), if_pos ⟨rfl, rfl⟩]
  rfl
theorem hexD_ne (n : Nat) (h : n < 16) : hexD n ≠ 34 ∧ hexD n ≠ 92 := by
  have : ∀ m : Fin 16, hexD m.val ≠ 34 ∧ hexD m.val ≠ 92 := by decide
  exact this ⟨n, h⟩
theorem wh_esc (c : UInt8) (i : Nat) (r : List UInt8) : wh p i true false (escB c ++ r) = escB c ++ wh p (i + (escB c).length) true false r := by
  unfold escB
  by_cases hq : c = 34 ∨ c = 92
  · rw [if_pos hq]
    show wh p i true false (92 :: c :: r) = _
    rw [wh_stroke, wh_behind]
    rfl
  rw [if_neg hq]
  by_cases hl : c.toNat < 32
  · rw [if_pos hl]
    have two : ∀ x : UInt8, wh p i true false ([92, x] ++ r) = [92, x] ++ wh p (i + ([92, x] : List UInt8).length) true false r := fun x => by
      show wh p i true false (92 :: x :: r) = _
      rw [wh_stroke, wh_behind]
      rfl
    unfold ctlN
    repeat' split
    all_goals first
      | exact two _
      | (obtain ⟨a1, a2⟩ := hexD_ne (c.toNat / 16) (by omega)
         obtain ⟨b1, b2⟩ := hexD_ne (c.toNat % 16) (by omega)
         show wh p i true false (92 :: 117 :: 48 :: 48 :: hexD (c.toNat / 16) :: hexD (c.toNat % 16) :: r) = _
         rw [wh_stroke, wh_behind, wh_in1 (by decide) (by decide), wh_in1 (by decide) (by decide), wh_in1 a1 a2, wh_in1 b1 b2]
         rfl)
  · rw [if_neg hl]
    show wh p i true false (c :: r) = _
    rw [wh_in1 (fun e => hq (.inl e)) (fun e => hq (.inr e))]
    rfl
theorem wh_inner : ∀ (s : List UInt8) (i : Nat) (r : List UInt8), wh p i true false (s.flatMap escB ++ r) = s.flatMap escB ++ wh p (i + (s.flatMap escB).length) true false r
  | [], i, r => by simp
  | c :: s, i, r => by
    rw [List.flatMap_cons, List.append_assoc, wh_esc, wh_inner s, List.length_append, List.append_assoc, Nat.add_assoc]
theorem wh_text (s : List UInt8) (i : Nat) (r : List UInt8) : wh p i false false (quoteL s ++ r) = quoteL s ++ wh p (i + (quoteL s).length) false false r := by
  unfold quoteL
  rw [List.cons_append, List.append_assoc, wh_open, wh_inner]
  show _ :: (_ ++ wh p _ true false (34 :: r)) = _
  rw [wh_shut]
  simp only [List.cons_append, List.append_assoc, List.length_cons, List.length_append, List.length_nil, List.nil_append]
  congr 3
  congr 1
  omega
end

theorem White.app {a b : List UInt8} (h : White a) (h' : White b) : White (a ++ b) := fun c hc => by
  rcases List.mem_append.1 hc with x | x
  · exact h c x
  · exact h' c x
theorem els_pre {f : J → List UInt8 → Prop} {r : List J} {e w : List UInt8} (h : ElsF f r e) (hw : White w) : ElsF f r (w ++ e) := by
  cases h with
  | one x t w1 w2 h1 hx h2 => rw [← List.append_assoc]; exact .one x t (w ++ w1) w2 (hw.app h1) hx h2
  | more x t w1 w2 r e h1 hx h2 hr => rw [← List.append_assoc]; exact .more x t (w ++ w1) w2 r e (hw.app h1) hx h2 hr
theorem els_post {f : J → List UInt8 → Prop} {r : List J} {e w : List UInt8} (h : ElsF f r e) (hw : White w) : ElsF f r (e ++ w) := by
  induction h with
  | one x t w1 w2 h1 hx h2 =>
    have := ElsF.one (f := f) x t w1 (w2 ++ w) h1 hx (h2.app hw)
    simpa using this
  | more x t w1 w2 r e h1 hx h2 hr ih =>
    have := ElsF.more (f := f) x t w1 w2 r (e ++ w) h1 hx h2 ih
    simpa using this
theorem pas_pre {f : J → List UInt8 → Prop} {ks : List ByteArray} {r : List J} {e w : List UInt8} (h : PasF f ks r e) (hw : White w) : PasF f ks r (w ++ e) := by
  cases h with
  | one k x t w1 w2 w3 w4 hk h1 h2 h3 hx h4 => rw [← List.append_assoc]; exact .one k x t (w ++ w1) w2 w3 w4 hk (hw.app h1) h2 h3 hx h4
  | more k x t w1 w2 w3 w4 ks r e hk h1 h2 h3 hx h4 hr => rw [← List.append_assoc]; exact .more k x t (w ++ w1) w2 w3 w4 ks r e hk (hw.app h1) h2 h3 hx h4 hr
theorem pas_post {f : J → List UInt8 → Prop} {ks : List ByteArray} {r : List J} {e w : List UInt8} (h : PasF f ks r e) (hw : White w) : PasF f ks r (e ++ w) := by
  induction h with
  | one k x t w1 w2 w3 w4 hk h1 h2 h3 hx h4 =>
    have := PasF.one (f := f) k x t w1 w2 w3 (w4 ++ w) hk h1 h2 h3 hx (h4.app hw)
    simpa using this
  | more k x t w1 w2 w3 w4 ks r e hk h1 h2 h3 hx h4 hr ih =>
    have := PasF.more (f := f) k x t w1 w2 w3 w4 ks r (e ++ w) hk h1 h2 h3 hx h4 ih
    simpa using this

theorem wh_length {p : Nat → List UInt8} (h3 : ∀ i, (p i).length ≤ 3) : ∀ (l : List UInt8) (i : Nat) (wi sk : Bool), (wh p i wi sk l).length ≤ 7 * l.length
  | [], i, wi, sk => by simp [wh]
  | c :: r, i, wi, sk => by
    unfold wh
    have a := h3 i
    have b := h3 (i + 1)
    split
    · have := wh_length h3 r (i + 1) wi sk
      simp only [List.length_append, List.length_cons]
      omega
    · split
      · have := wh_length h3 r (i + 1) wi true
        simp only [List.length_cons]
        omega
      · have := wh_length h3 r (i + 1) (if c = 34 ∧ sk = false then !wi else wi) false
        simp only [List.length_cons]
        omega
/-- White about its marks leaves such a text one of the same value. -/
def WhOk (p : Nat → List UInt8) (f : J → List UInt8 → Prop) : Prop :=
  ∀ u t, f u t → ∀ i rest, ∃ w1 t' w2, White w1 ∧ White w2 ∧ f u t' ∧ wh p i false false (t ++ rest) = w1 ++ (t' ++ (w2 ++ wh p (i + t.length) false false rest))

section
variable {p : Nat → List UInt8} (hp : ∀ i, White (p i))
include hp
theorem wh_els {f : J → List UInt8 → Prop} (hf : WhOk p f) {r : List J} {e : List UInt8} (h : ElsF f r e) : ∀ i rest, ∃ e', ElsF f r e' ∧ wh p i false false (e ++ rest) = e' ++ wh p (i + e.length) false false rest := by
  induction h with
  | one x t w1 w2 h1 hx h2 =>
    intro i rest
    obtain ⟨a1, t', a2, g1, g2, g3, g4⟩ := hf x t hx (i + w1.length) (w2 ++ rest)
    refine ⟨(w1 ++ a1) ++ (t' ++ (a2 ++ w2)), .one x t' _ _ (h1.app g1) g3 (g2.app h2), ?_⟩
    rw [List.append_assoc, white_copy h1, List.append_assoc, g4, white_copy h2]
    simp only [List.append_assoc, List.length_append]
    congr 5
    congr 1
    omega
  | more x t w1 w2 r e h1 hx h2 hr ih =>
    intro i rest
    obtain ⟨a1, t', a2, g1, g2, g3, g4⟩ := hf x t hx (i + w1.length) (w2 ++ 44 :: (e ++ rest))
    obtain ⟨e', k1, k2⟩ := ih (i + w1.length + t.length + w2.length + 1) rest
    refine ⟨(w1 ++ a1) ++ (t' ++ ((a2 ++ w2 ++ p (i + w1.length + t.length + w2.length)) ++ 44 :: (p (i + w1.length + t.length + w2.length + 1) ++ e'))), .more x t' _ _ r _ (h1.app g1) g3 ((g2.app h2).app (hp _)) (els_pre k1 (hp _)), ?_⟩
    rw [List.append_assoc, white_copy h1, List.append_assoc, List.append_assoc, List.cons_append, g4, white_copy h2, wh_mark (by decide), k2]
    simp only [List.append_assoc, List.cons_append, List.length_append, List.length_cons]
    congr 9
    congr 1
    omega
theorem wh_pas {f : J → List UInt8 → Prop} (hf : WhOk p f) {ks : List ByteArray} {r : List J} {e : List UInt8} (h : PasF f ks r e) : ∀ i rest, ∃ e', PasF f ks r e' ∧ wh p i false false (e ++ rest) = e' ++ wh p (i + e.length) false false rest := by
  induction h with
  | one k x t w1 w2 w3 w4 hk h1 h2 h3 hx h4 =>
    intro i rest
    generalize hq : quoteL k.data.toList = q at *
    obtain ⟨a1, t', a2, g1, g2, g3, g4⟩ := hf x t hx (i + w1.length + q.length + w2.length + 1 + w3.length) (w4 ++ rest)
    have hpas := PasF.one (f := f) k x t' w1 (w2 ++ p (i + w1.length + q.length + w2.length)) (p (i + w1.length + q.length + w2.length + 1) ++ (w3 ++ a1)) (a2 ++ w4) hk h1 (h2.app (hp _)) ((hp _).app (h3.app g1)) g3 (g2.app h4)
    rw [hq] at hpas
    refine ⟨_, hpas, ?_⟩
    have ht := wh_text (p := p) k.data.toList (i + w1.length) (w2 ++ 58 :: (w3 ++ (t ++ (w4 ++ rest))))
    rw [hq] at ht
    rw [List.append_assoc, white_copy h1, List.append_assoc, List.append_assoc, List.cons_append, List.append_assoc, List.append_assoc, ht, white_copy h2, wh_mark (by decide), white_copy h3, g4, white_copy h4]
    simp only [List.append_assoc, List.cons_append, List.length_append, List.length_cons]
    congr 11
    congr 1
    omega
  | more k x t w1 w2 w3 w4 ks r e hk h1 h2 h3 hx h4 hr ih =>
    intro i rest
    generalize hq : quoteL k.data.toList = q at *
    obtain ⟨a1, t', a2, g1, g2, g3, g4⟩ := hf x t hx (i + w1.length + q.length + w2.length + 1 + w3.length) (w4 ++ 44 :: (e ++ rest))
    obtain ⟨e', k1, k2⟩ := ih (i + w1.length + q.length + w2.length + 1 + w3.length + t.length + w4.length + 1) rest
    have hpas := PasF.more (f := f) k x t' w1 (w2 ++ p (i + w1.length + q.length + w2.length)) (p (i + w1.length + q.length + w2.length + 1) ++ (w3 ++ a1)) (a2 ++ (w4 ++ p (i + w1.length + q.length + w2.length + 1 + w3.length + t.length + w4.length))) ks r
      (p (i + w1.length + q.length + w2.length + 1 + w3.length + t.length + w4.length + 1) ++ e') hk h1 (h2.app (hp _)) ((hp _).app (h3.app g1)) g3 (g2.app (h4.app (hp _))) (pas_pre k1 (hp _))
    rw [hq] at hpas
    refine ⟨_, hpas, ?_⟩
    have ht := wh_text (p := p) k.data.toList (i + w1.length) (w2 ++ 58 :: (w3 ++ (t ++ (w4 ++ 44 :: (e ++ rest)))))
    rw [hq] at ht
    rw [List.append_assoc, white_copy h1, List.append_assoc, List.append_assoc, List.cons_append, List.append_assoc, List.append_assoc, List.append_assoc, List.cons_append, ht, white_copy h2, wh_mark (by decide), white_copy h3, g4, white_copy h4, wh_mark (by decide), k2]
    simp only [List.append_assoc, List.cons_append, List.length_append, List.length_cons]
    congr 15
    congr 1
    omega
theorem wh_core {sub : Option (J → List UInt8 → Prop)} (hs : ∀ f, sub = some f → WhOk p f) : WhOk p (CoreF sub) := by
  intro u t hu i rest
  have copy : ∀ t', CoreF sub u t' → (∀ c ∈ t', mark c = false ∧ c ≠ 34) → ∃ w1 t'' w2, White w1 ∧ White w2 ∧ CoreF sub u t'' ∧ wh p i false false (t' ++ rest) = w1 ++ (t'' ++ (w2 ++ wh p (i + t'.length) false false rest)) :=
    fun t' h1 h2 => ⟨[], t', [], White.nil, White.nil, h1, by rw [wh_copy t' i rest h2]; rfl⟩
  cases hu with
  | null => exact copy _ .null (by decide)
  | yes => exact copy _ .yes (by decide)
  | no => exact copy _ .no (by decide)
  | int n h0 h1 =>
    refine copy _ (.int n h0 h1) fun c hc => ?_
    have hd : c.toNat = 45 ∨ (48 ≤ c.toNat ∧ c.toNat ≤ 57) := by
      have hdig : ∀ u : Nat, ∀ c ∈ Lib.decDigits u, 48 ≤ c.toNat ∧ c.toNat ≤ 57 := fun u c hc => by
        have := dd_digits u c hc
        unfold isDigit at this
        simpa using this
      rcases Int.lt_or_le n 0 with h | h
      · obtain ⟨m, rfl⟩ : ∃ m : Nat, n = -(m : Int) := ⟨n.natAbs, by omega⟩
        rw [Lib.itoa_neg m (by omega)] at hc
        rcases List.mem_cons.1 hc with rfl | hc
        · exact .inl rfl
        · exact .inr (hdig m c hc)
      · obtain ⟨m, rfl⟩ : ∃ m : Nat, n = (m : Int) := ⟨n.natAbs, by omega⟩
        rw [Lib.itoa_nonneg m] at hc
        exact .inr (hdig m c hc)
    unfold mark
    rw [decide_eq_false_iff_not]
    constructor
    · rintro (rfl | rfl | rfl | rfl | rfl | rfl) <;> simp at hd
    · rintro rfl; simp at hd
  | text s hsv => exact ⟨[], _, [], White.nil, White.nil, .text s hsv, wh_text _ _ _⟩
  | list0 f w hsub hw =>
    refine ⟨p i, 91 :: ((p (i + 1) ++ (w ++ p (i + 1 + w.length))) ++ [93]), p (i + 1 + w.length + 1), hp _, hp _, .list0 f _ hsub ((hp _).app (hw.app (hp _))), ?_⟩
    rw [List.cons_append, List.append_assoc, wh_mark (by decide), white_copy hw]
    show _ ++ (_ :: (_ ++ (_ ++ wh p _ false false (93 :: rest)))) = _
    rw [wh_mark (by decide)]
    simp only [List.append_assoc, List.cons_append, List.length_append, List.length_cons, List.length_nil, List.nil_append]
    congr 8
    omega
  | list f l e hsub he =>
    obtain ⟨e', k1, k2⟩ := wh_els hp (hs f hsub) he (i + 1) (93 :: rest)
    refine ⟨p i, 91 :: ((p (i + 1) ++ (e' ++ p (i + 1 + e.length))) ++ [93]), p (i + 1 + e.length + 1), hp _, hp _, .list f l _ hsub (els_pre (els_post k1 (hp _)) (hp _)), ?_⟩
    rw [List.cons_append, List.append_assoc, wh_mark (by decide)]
    show _ ++ (_ :: (_ ++ wh p _ false false (e ++ 93 :: rest))) = _
    rw [k2, wh_mark (by decide)]
    simp only [List.append_assoc, List.cons_append, List.length_append, List.length_cons, List.length_nil, List.nil_append]
    congr 8
    omega
  | obj0 f w hsub hw =>
    refine ⟨p i, 123 :: ((p (i + 1) ++ (w ++ p (i + 1 + w.length))) ++ [125]), p (i + 1 + w.length + 1), hp _, hp _, .obj0 f _ hsub ((hp _).app (hw.app (hp _))), ?_⟩
    rw [List.cons_append, List.append_assoc, wh_mark (by decide), white_copy hw]
    show _ ++ (_ :: (_ ++ (_ ++ wh p _ false false (125 :: rest)))) = _
    rw [wh_mark (by decide)]
    simp only [List.append_assoc, List.cons_append, List.length_append, List.length_cons, List.length_nil, List.nil_append]
    congr 8
    omega
  | obj f ks l e hsub hun he =>
    obtain ⟨e', k1, k2⟩ := wh_pas hp (hs f hsub) he (i + 1) (125 :: rest)
    refine ⟨p i, 123 :: ((p (i + 1) ++ (e' ++ p (i + 1 + e.length))) ++ [125]), p (i + 1 + e.length + 1), hp _, hp _, .obj f ks l _ hsub hun (pas_pre (pas_post k1 (hp _)) (hp _)), ?_⟩
    rw [List.cons_append, List.append_assoc, wh_mark (by decide)]
    show _ ++ (_ :: (_ ++ wh p _ false false (e ++ 125 :: rest))) = _
    rw [k2, wh_mark (by decide)]
    simp only [List.append_assoc, List.cons_append, List.length_append, List.length_cons, List.length_nil, List.nil_append]
    congr 8
    omega
theorem wh_fm : ∀ d, WhOk p (FmN d)
  | 0 => wh_core hp (sub := none) (fun f e => by cases e)
  | d + 1 => wh_core hp (sub := some (FmN d)) (fun f e => by cases e; exact wh_fm d)
/-- White between turns nothing. -/
theorem white_parse (h3 : ∀ i, (p i).length ≤ 3) {u : J} {t : List UInt8} (h : FmN 16 u t) (hl : t.length ≤ 2000) : parseN numD (wh p 0 false false t) = .ok u := by
  obtain ⟨w1, t', w2, g1, g2, g3, g4⟩ := wh_fm hp 16 u t h 0 []
  have hlen := wh_length h3 t 0 false false
  rw [List.append_nil] at g4
  have hnil : wh p (0 + t.length) false false [] = [] := by unfold wh; rfl
  rw [hnil, List.append_nil] at g4
  rw [g4] at hlen ⊢
  exact parse_fm g3 g1 g2 (by omega)
end
end Go.Proofs.YtcobadgpelhcoaaDoor
