/- Texts between their marks, as they are printed, are read to what they were. Plain mathematics. Values as texts, with white about the marks: what they are parsed to. Plain mathematics. What is printed is parsed to what it was, as far as its Kind uses it. Plain mathematics. What is parsed is printed and parsed alike. Plain mathematics. Which errors there are. Plain mathematics. -/
import Derived.Test.YtcobadgpelhcoaaDoorJSpecD
import Derived.Test.YtcobadgpelhcoaaDoorEPrinter
import Derived.Test.YtcobadgpelhcoaaDoorDecA
import Derived.Test.YtcobadgpelhcoaaDoorEPrint
namespace Go.Proofs.YtcobadgpelhcoaaDoor
set_option linter.unusedVariables false
set_option linter.unusedSimpArgs false

/-! ### what stands at a place -/
theorem getL {L pre suf : List UInt8} {i : Nat} (hL : L = pre ++ suf) (hi : i = pre.length) (j : Nat) : L[i + j]? = suf[j]? := by
  subst hL hi
  rw [List.getElem?_append_right (by omega)]
  congr 1
  omega
theorem pkL {L pre suf : List UInt8} {c : UInt8} {i : Nat} (hL : L = pre ++ c :: suf) (hi : i = pre.length) : pk L i = c.toNat := by
  subst hL hi
  exact pk_app pre c suf
theorem rrL {L pre suf : List UInt8} {i : Nat} (hL : L = pre ++ suf) (hi : i = pre.length) : rr L i = rr suf 0 := by
  subst hL hi
  exact rr_right pre suf 0

/-! ### runes -/
theorem run4_goes {c a b d : Int} {n : Int} (h : (run4 c a b d).2 = n) : (2 ≤ n → 0 ≤ a) ∧ (3 ≤ n → 0 ≤ b) ∧ (4 ≤ n → 0 ≤ d) ∧ (n ≠ 0 → 128 ≤ c → 2 ≤ n) := by
  unfold run4 at h
  repeat' split at h
  all_goals
    simp only at h
    subst h
    refine ⟨fun _ => ?_, fun _ => ?_, fun _ => ?_, fun _ _ => ?_⟩ <;> omega
theorem run4_same {c a b d a' b' d' : Int} {n : Int} (h : (run4 c a b d).2 = n) (h0 : n ≠ 0) (ha : 2 ≤ n → a' = a) (hb : 3 ≤ n → b' = b) (hd : 4 ≤ n → d' = d) : run4 c a' b' d' = run4 c a b d := by
  have h1 : c < 194 ∨ 194 ≤ c := by omega
  unfold run4 at h ⊢
  by_cases c0 : c < 0
  · simp only [c0, if_true] at h; omega
  by_cases c1 : c < 128
  · simp only [c0, c1, if_true, if_false]
  by_cases c2 : c < 194 ∨ 244 < c
  · simp only [c0, c1, c2, if_true, if_false] at h; omega
  by_cases c3 : c < 224
  · simp only [c0, c1, c2, c3, if_true, if_false] at h ⊢
    have hn : n = 2 := by split at h <;> simp only at h <;> omega
    rw [ha (by omega)]
  by_cases c4 : c < 240
  · simp only [c0, c1, c2, c3, c4, if_true, if_false] at h ⊢
    have hn : n = 3 := by split at h <;> simp only at h <;> omega
    rw [ha (by omega), hb (by omega)]
  · simp only [c0, c1, c2, c3, c4, if_false] at h ⊢
    have hn : n = 4 := by split at h <;> simp only at h <;> omega
    rw [ha (by omega), hb (by omega), hd (by omega)]
theorem nxt_take (l m : List UInt8) {n j : Nat} (hj : j < n) (hn : n ≤ l.length) : nxt (l.take n ++ m) j = nxt l j := by
  rw [nxt_left (by rw [List.length_take]; omega)]
  unfold nxt
  rw [List.getElem?_take, if_pos hj]
/-- A rune is told by its own bytes. -/
theorem rr_take (l m : List UInt8) {n : Nat} (h : (rr l 0).2 = n) (h0 : 0 < n) : rr (l.take n ++ m) 0 = rr l 0 := by
  have hn : n ≤ l.length := by
    have := rr_in l 0 (by omega)
    omega
  have hl : lead (l.take n ++ m) 0 = lead l 0 := by
    rw [lead_left (by rw [List.length_take]; omega)]
    unfold lead
    rw [List.getElem?_take, if_pos h0]
  unfold rr at h ⊢
  rw [hl]
  exact run4_same h (by omega) (fun hk => nxt_take l m (by omega) hn) (fun hk => nxt_take l m (by omega) hn) (fun hk => nxt_take l m (by omega) hn)
theorem nxt_high {l : List UInt8} {j : Nat} {c : UInt8} (h : 0 ≤ nxt l j) (hc : l[j]? = some c) : 128 ≤ c.toNat := by
  unfold nxt at h
  rw [hc] at h
  simp only at h
  split at h <;> omega
/-- A rune of more than one byte has high bytes alone. -/
theorem rr_highs {l : List UInt8} {n : Nat} (h : (rr l 0).2 = n) (h0 : 0 < n) (hc : 128 ≤ pk l 0) : ∀ c ∈ l.take n, 128 ≤ c.toNat := by
  intro c hm
  obtain ⟨j, hj, rfl⟩ := List.mem_iff_getElem.1 hm
  rw [List.length_take] at hj
  rw [List.getElem_take]
  have hjl : l[j]? = some l[j] := List.getElem?_eq_getElem (by omega)
  unfold rr at h
  obtain ⟨g1, g2, g3, _⟩ := run4_goes h
  have hle := run4_le (lead l 0) (nxt l (0 + 1)) (nxt l (0 + 2)) (nxt l (0 + 3))
  rcases (by omega : j = 0 ∨ j = 1 ∨ j = 2 ∨ j = 3) with rfl | rfl | rfl | rfl
  · unfold pk at hc
    rw [hjl] at hc
    exact hc
  · exact nxt_high (g1 (by omega)) hjl
  · exact nxt_high (g2 (by omega)) hjl
  · exact nxt_high (g3 (by omega)) hjl
theorem escB_high {l : List UInt8} (h : ∀ c ∈ l, 128 ≤ c.toNat) : l.flatMap escB = l := by
  induction l with
  | nil => rfl
  | cons c t ih =>
    have hc := h c (by simp)
    rw [List.flatMap_cons, ih fun x hx => h x (by simp [hx])]
    have : escB c = [c] := by
      unfold escB
      rw [if_neg, if_neg (by omega)]
      rintro (rfl | rfl) <;> simp at hc
    rw [this]; rfl

/-! ### what a stroke stands for -/
theorem hexVal_D (n : Nat) (h : n < 16) : hexVal (hexD n) = some n := by
  have : ∀ m : Fin 16, hexVal (hexD m.val) = some m.val := by decide
  exact this ⟨n, h⟩
theorem esc_ctl (c : UInt8) (h : c.toNat < 32) {L pre post : List UInt8} {i : Nat} (tl : List UInt8) (ht : ctlN c.toNat = 92 :: tl) (hL : L = pre ++ (tl ++ post)) (hi : i = pre.length) :
    escAt L i = .ok ([c], i + tl.length) := by
  have g := fun j => getL (suf := tl ++ post) hL hi j
  have g0 := g 0
  rw [Nat.add_zero] at g0
  unfold ctlN at ht
  have hs : ∀ b : UInt8, tl = [b] → short b = some c → escAt L i = .ok ([c], i + tl.length) := by
    intro b e1 e2
    subst e1
    rw [List.cons_append, List.getElem?_cons_zero] at g0
    unfold escAt
    rw [g0]
    simp only [e2]
    rfl
  by_cases h8 : c.toNat = 8
  · rw [if_pos h8] at ht
    have : c = 8 := UInt8.toNat_inj.1 h8
    subst this
    simp only [List.cons.injEq, true_and] at ht
    exact hs 98 ht.symm (by decide)
  rw [if_neg h8] at ht
  by_cases h12 : c.toNat = 12
  · rw [if_pos h12] at ht
    have : c = 12 := UInt8.toNat_inj.1 h12
    subst this
    simp only [List.cons.injEq, true_and] at ht
    exact hs 102 ht.symm (by decide)
  rw [if_neg h12] at ht
  by_cases h10 : c.toNat = 10
  · rw [if_pos h10] at ht
    have : c = 10 := UInt8.toNat_inj.1 h10
    subst this
    simp only [List.cons.injEq, true_and] at ht
    exact hs 110 ht.symm (by decide)
  rw [if_neg h10] at ht
  by_cases h13 : c.toNat = 13
  · rw [if_pos h13] at ht
    have : c = 13 := UInt8.toNat_inj.1 h13
    subst this
    simp only [List.cons.injEq, true_and] at ht
    exact hs 114 ht.symm (by decide)
  rw [if_neg h13] at ht
  by_cases h9 : c.toNat = 9
  · rw [if_pos h9] at ht
    have : c = 9 := UInt8.toNat_inj.1 h9
    subst this
    simp only [List.cons.injEq, true_and] at ht
    exact hs 116 ht.symm (by decide)
  rw [if_neg h9] at ht
  simp only [List.cons.injEq, true_and] at ht
  subst ht
  have g1 := g 1
  have g2 := g 2
  have g3 := g 3
  have g4 := g 4
  simp only [List.cons_append, List.getElem?_cons_zero, List.getElem?_cons_succ] at g0 g1 g2 g3 g4
  have hx : hexAt L (i + 1) = some c.toNat := by
    unfold hexAt hexN hexN hexN hexN hexN
    rw [show i + 1 + 0 = i + 1 by omega, show i + 1 + 1 = i + 2 by omega, show i + 1 + 2 = i + 3 by omega, show i + 1 + 3 = i + 4 by omega, g1, g2, g3, g4]
    simp only [Option.bind_some, hexVal_D _ (show c.toNat / 16 < 16 by omega), hexVal_D _ (show c.toNat % 16 < 16 by omega)]
    rw [show hexVal 48 = some 0 by decide]
    simp only [Option.some.injEq]
    omega
  unfold escAt
  rw [g0]
  simp only
  rw [show short 117 = none by decide]
  simp only [hx]
  rw [if_neg (by decide), if_neg (by omega), if_pos (by unfold isRune; rw [decide_eq_true]; omega)]
  have : enc c.toNat = [c] := by
    unfold enc
    rw [if_pos (by omega)]
    simp [u8]
  rw [this]
  rfl

/-! ### a text -/
theorem firstAt_right (a b : List UInt8) : ∀ (m i : Nat), b.length - i ≤ m → firstAt (a ++ b) (a.length + i) = -1 → firstAt b i = -1
  | 0, i, hm, h => firstAt_end (by omega)
  | m + 1, i, hm, h => by
    by_cases hi : i < b.length
    · have hlt : a.length + i < (a ++ b).length := by rw [List.length_append]; omega
      have e := rr_right a b i
      by_cases h0 : (rr b i).2 = 0
      · rw [firstAt_stop hlt (by rw [e]; exact h0)] at h
        omega
      · have hp := (rr_le b i).1
        rw [firstAt_go hlt (by rw [e]; exact h0), e, Nat.add_assoc] at h
        rw [firstAt_go hi h0]
        exact firstAt_right a b m _ (by omega) h
    · exact firstAt_end hi
theorem first_step {l : List UInt8} (h : first l = -1) (h0 : 0 < l.length) : (rr l 0).2 ≠ 0 ∧ first (l.drop (rr l 0).2.toNat) = -1 := by
  have h2 : (rr l 0).2 ≠ 0 := by
    intro e
    unfold first at h
    rw [firstAt_stop h0 e] at h
    omega
  refine ⟨h2, ?_⟩
  have hn : (rr l 0).2.toNat ≤ l.length := by
    have := rr_in l 0 h2
    omega
  have hp := (rr_le l 0).1
  unfold first at h
  rw [firstAt_go h0 h2, Nat.zero_add] at h
  generalize hm : (rr l 0).2.toNat = m at *
  have hl : l.take m ++ l.drop m = l := List.take_append_drop m l
  have hlen : (l.take m).length = m := by rw [List.length_take]; omega
  have h3 : firstAt (l.take m ++ l.drop m) ((l.take m).length + 0) = -1 := by rw [hl, hlen]; exact h
  exact firstAt_right _ _ _ 0 (Nat.le_refl _) h3
theorem text_in : ∀ (m : Nat) (s : List UInt8), s.length ≤ m → first s = -1 → ∀ (L pre post acc : List UInt8) (f i : Nat), s.length + 1 ≤ f → L = pre ++ (s.flatMap escB ++ 34 :: post) → i = pre.length →
    textAt L f i acc = .ok (acc ++ s, i + (s.flatMap escB).length + 1) := by
  intro m
  induction m with
  | zero =>
    intro s hs h L pre post acc f i hf hL hi
    have : s = [] := List.length_eq_zero_iff.1 (by omega)
    subst this
    obtain ⟨f, rfl⟩ : ∃ g, f = g + 1 := ⟨f - 1, by omega⟩
    have hp : pk L i = 34 := pkL (suf := post) (c := 34) (by simpa using hL) hi
    have hr : rr L i = (34, 1) := rr_is (c := 34) (by omega) (by omega) hp
    unfold textAt
    rw [hr, if_neg (by simp), if_pos rfl]
    simp
  | succ m ih =>
    intro s hs h L pre post acc f i hf hL hi
    obtain ⟨f, rfl⟩ : ∃ g, f = g + 1 := ⟨f - 1, by omega⟩
    rcases s with _ | ⟨c, s'⟩
    · have hp : pk L i = 34 := pkL (suf := post) (c := 34) (by simpa using hL) hi
      have hr : rr L i = (34, 1) := rr_is (c := 34) (by omega) (by omega) hp
      unfold textAt
      rw [hr, if_neg (by simp), if_pos rfl]
      simp
    · obtain ⟨h0, h1⟩ := first_step h (by simp)
      by_cases hc : c.toNat < 128
      · have hr0 : rr (c :: s') 0 = ((c.toNat : Int), 1) := by
          have := rr_low (l := c :: s') (i := 0) (by simp) (by simpa [pk] using hc)
          simpa [pk] using this
        rw [hr0] at h1
        have h1 : first s' = -1 := h1
        have hl : s'.length ≤ m := by simpa using hs
        have hf' : s'.length + 1 ≤ f := by simpa using hf
        rw [List.flatMap_cons] at hL ⊢
        -- what follows, behind n bytes
        have go : ∀ (e : List UInt8), escB c = e → textAt L f (i + e.length) (acc ++ [c]) = .ok (acc ++ c :: s', i + (e ++ s'.flatMap escB).length + 1) := by
          intro e he
          rw [he] at hL
          rw [ih s' hl h1 L (pre ++ e) post (acc ++ [c]) f (i + e.length) hf' (by rw [hL]; simp) (by rw [List.length_append]; omega)]
          simp only [List.append_assoc, List.singleton_append, List.length_append, Except.ok.injEq, Prod.mk.injEq, true_and]
          omega
        by_cases hq : c = 34 ∨ c = 92
        · have he : escB c = [92, c] := by unfold escB; rw [if_pos hq]
          have G := go _ he
          rw [he] at hL ⊢
          have hp : pk L i = 92 := pkL (suf := c :: (s'.flatMap escB ++ 34 :: post)) (c := 92) (by simpa using hL) hi
          have hr : rr L i = (92, 1) := rr_is (c := 92) (by omega) (by omega) hp
          have hE : escAt L (i + 1) = .ok ([c], i + 1 + 1) := by
            have g := getL (suf := c :: (s'.flatMap escB ++ 34 :: post)) (pre := pre ++ [92]) (L := L) (i := i + 1) (by simpa using hL) (by rw [List.length_append]; simp; omega) 0
            rw [Nat.add_zero, List.getElem?_cons_zero] at g
            unfold escAt
            rw [g]
            rcases hq with rfl | rfl <;> rfl
          unfold textAt
          rw [hr, if_neg (by simp), if_neg (by decide), if_pos rfl, hE]
          exact G
        · by_cases hlow : c.toNat < 32
          · obtain ⟨tl, htl⟩ : ∃ tl, ctlN c.toNat = 92 :: tl := by
              unfold ctlN
              repeat' split
              all_goals exact ⟨_, rfl⟩
            have he : escB c = 92 :: tl := by unfold escB; rw [if_neg hq, if_pos hlow, htl]
            have G := go _ he
            rw [he] at hL ⊢
            have hp : pk L i = 92 := pkL (suf := tl ++ (s'.flatMap escB ++ 34 :: post)) (c := 92) (by simpa using hL) hi
            have hr : rr L i = (92, 1) := rr_is (c := 92) (by omega) (by omega) hp
            have hE := esc_ctl c hlow (L := L) (pre := pre ++ [92]) (post := s'.flatMap escB ++ 34 :: post) (i := i + 1) tl htl (by simpa using hL) (by rw [List.length_append]; simp; omega)
            unfold textAt
            rw [hr, if_neg (by simp), if_neg (by decide), if_pos rfl, hE]
            rw [show i + 1 + tl.length = i + (92 :: tl).length by simp; omega]
            exact G
          · have he : escB c = [c] := by unfold escB; rw [if_neg hq, if_neg hlow]
            have G := go _ he
            rw [he] at hL ⊢
            have hp : pk L i = c.toNat := pkL (suf := s'.flatMap escB ++ 34 :: post) (by simpa using hL) hi
            have hr : rr L i = ((c.toNat : Int), 1) := rr_is (c := c.toNat) (by omega) hc hp
            have hd : L.drop i = c :: (s'.flatMap escB ++ 34 :: post) := by rw [hL, hi]; simp
            have h34 : ¬ (c.toNat : Int) = 34 := fun e => hq (.inl (UInt8.toNat_inj.1 (by simp; omega)))
            have h92 : ¬ (c.toNat : Int) = 92 := fun e => hq (.inr (UInt8.toNat_inj.1 (by simp; omega)))
            unfold textAt
            rw [hr, if_neg (by simp; omega), if_neg h34, if_neg h92, hd]
            exact G
      · -- a rune of several bytes
        obtain ⟨n, hn⟩ : ∃ n : Nat, (rr (c :: s') 0).2 = n := ⟨(rr (c :: s') 0).2.toNat, by have := (rr_le (c :: s') 0).1; omega⟩
        have hn0 : 0 < n := by omega
        rw [hn] at h1
        have h1 : first ((c :: s').drop n) = -1 := h1
        have hin := rr_in (c :: s') 0 h0
        rw [hn] at hin
        have hi2 := rr_highs hn hn0 (by simpa [pk] using Nat.le_of_not_lt hc)
        have hr1 : 128 ≤ (rr (c :: s') 0).1 := by
          rcases rr_high (l := c :: s') (i := 0) (by simpa [pk] using Nat.le_of_not_lt hc) with h' | h'
          · omega
          · exact h'
        generalize hS : c :: s' = S at *
        have hsplit : S.take n ++ S.drop n = S := List.take_append_drop n S
        have hE : S.flatMap escB = S.take n ++ (S.drop n).flatMap escB := by
          conv => lhs; rw [← hsplit]
          rw [List.flatMap_append, escB_high hi2]
        rw [hE] at hL ⊢
        have hr : rr L i = rr S 0 := by
          rw [rrL (suf := S.take n ++ ((S.drop n).flatMap escB ++ 34 :: post)) (by simpa using hL) hi]
          exact rr_take S _ hn hn0
        have hlen : (S.take n).length = n := by rw [List.length_take]; omega
        have hd : (L.drop i).take n = S.take n := by
          rw [hL, hi, List.drop_left, List.append_assoc, List.take_append_of_le_length (by omega), List.take_of_length_le (by omega)]
        unfold textAt
        rw [hr, hn, if_neg (by omega), if_neg (by omega), if_neg (by omega)]
        have hnn : (n : Int).toNat = n := by omega
        rw [hnn, hd]
        rw [ih (S.drop n) (by rw [List.length_drop]; omega) h1 L (pre ++ S.take n) post (acc ++ S.take n) f (i + n) (by rw [List.length_drop]; omega) (by rw [hL]; simp) (by rw [List.length_append]; omega)]
        rw [List.append_assoc, hsplit, List.length_append, hlen]
        simp only [Except.ok.injEq, Prod.mk.injEq, true_and]
        omega
theorem text_quote {s : List UInt8} (h : first s = -1) {L pre post : List UInt8} {i : Nat} (hL : L = pre ++ (quoteL s ++ post)) (hi : i = pre.length) : textOf L i = .ok (s, i + (quoteL s).length) := by
  unfold textOf
  have hlen : s.length ≤ (s.flatMap escB).length := by
    clear hL h
    induction s with
    | nil => simp
    | cons c t ih =>
      rw [List.flatMap_cons, List.length_append, List.length_cons]
      have : 1 ≤ (escB c).length := by
        unfold escB ctlN
        repeat' split
        all_goals simp
      omega
  rw [text_in s.length s (Nat.le_refl _) h L (pre ++ [34]) post [] (L.length + 1) (i + 1) (by rw [hL]; unfold quoteL; simp only [List.length_append, List.length_cons, List.length_nil]; omega) (by rw [hL]; unfold quoteL; simp) (by rw [List.length_append]; simp; omega)]
  unfold quoteL
  simp only [List.nil_append, List.length_cons, List.length_append, List.length_nil, Except.ok.injEq, Prod.mk.injEq, true_and]
  omega
end Go.Proofs.YtcobadgpelhcoaaDoor

namespace Go.Proofs.YtcobadgpelhcoaaDoor
set_option linter.unusedVariables false
set_option linter.unusedSimpArgs false

def White (l : List UInt8) : Prop := ∀ c ∈ l, isWhite c = true
def NoDig (l : List UInt8) : Prop := ∀ c r, l = c :: r → isDigit c = false
theorem White.nil : White [] := fun c h => by simp at h
/-- The members of a list, each with white about it. -/
inductive ElsF (f : J → List UInt8 → Prop) : List J → List UInt8 → Prop
  | one (x : J) (t w1 w2 : List UInt8) (h1 : White w1) (hx : f x t) (h2 : White w2) : ElsF f [x] (w1 ++ (t ++ w2))
  | more (x : J) (t w1 w2 : List UInt8) (r : List J) (e : List UInt8) (h1 : White w1) (hx : f x t) (h2 : White w2) (hr : ElsF f r e) : ElsF f (x :: r) (w1 ++ (t ++ (w2 ++ 44 :: e)))
/-- The members of an object. -/
inductive PasF (f : J → List UInt8 → Prop) : List ByteArray → List J → List UInt8 → Prop
  | one (k : ByteArray) (x : J) (t w1 w2 w3 w4 : List UInt8) (hk : first k.data.toList = -1) (h1 : White w1) (h2 : White w2) (h3 : White w3) (hx : f x t) (h4 : White w4) :
      PasF f [k] [x] (w1 ++ (quoteL k.data.toList ++ (w2 ++ 58 :: (w3 ++ (t ++ w4)))))
  | more (k : ByteArray) (x : J) (t w1 w2 w3 w4 : List UInt8) (ks : List ByteArray) (r : List J) (e : List UInt8) (hk : first k.data.toList = -1) (h1 : White w1) (h2 : White w2) (h3 : White w3) (hx : f x t) (h4 : White w4) (hr : PasF f ks r e) :
      PasF f (k :: ks) (x :: r) (w1 ++ (quoteL k.data.toList ++ (w2 ++ 58 :: (w3 ++ (t ++ (w4 ++ 44 :: e))))))
/-- A text of a value; `sub`: of those within it, none: it is too deep for them. -/
inductive CoreF (sub : Option (J → List UInt8 → Prop)) : J → List UInt8 → Prop
  | null : CoreF sub jNull [110, 117, 108, 108]
  | yes : CoreF sub (jBool true) [116, 114, 117, 101]
  | no : CoreF sub (jBool false) [102, 97, 108, 115, 101]
  | int (n : Int) (h0 : -9223372036854775808 ≤ n) (h1 : n ≤ 9223372036854775807) : CoreF sub (jInt n) (Lib.itoa n)
  | text (s : ByteArray) (h : first s.data.toList = -1) : CoreF sub (jText s) (quoteL s.data.toList)
  | list0 (f : J → List UInt8 → Prop) (w : List UInt8) (hs : sub = some f) (h : White w) : CoreF sub (jList []) (91 :: (w ++ [93]))
  | list (f : J → List UInt8 → Prop) (l : List J) (e : List UInt8) (hs : sub = some f) (h : ElsF f l e) : CoreF sub (jList l) (91 :: (e ++ [93]))
  | obj0 (f : J → List UInt8 → Prop) (w : List UInt8) (hs : sub = some f) (h : White w) : CoreF sub (jObj [] []) (123 :: (w ++ [125]))
  | obj (f : J → List UInt8 → Prop) (ks : List ByteArray) (l : List J) (e : List UInt8) (hs : sub = some f) (hu : unlike [] ks = true) (h : PasF f ks l e) : CoreF sub (jObj ks l) (123 :: (e ++ [125]))
def FmN : Nat → J → List UInt8 → Prop
  | 0 => CoreF none
  | d + 1 => CoreF (some (FmN d))

theorem core_head {sub : Option (J → List UInt8 → Prop)} {u : J} {t : List UInt8} (h : CoreF sub u t) : ∃ c r, t = c :: r ∧ isWhite c = false ∧ c.toNat ≠ 93 ∧ c.toNat ≠ 125 := by
  cases h with
  | int n h0 h1 =>
    obtain ⟨c, r, e, hc⟩ := itoa_head n
    refine ⟨c, r, e, ?_, by omega, by omega⟩
    unfold isWhite
    simp only [Bool.or_eq_false_iff, beq_eq_false_iff_ne]
    omega
  | _ => exact ⟨_, _, rfl, by decide, by decide, by decide⟩
theorem fm_head {d : Nat} {u : J} {t : List UInt8} (h : FmN d u t) : ∃ c r, t = c :: r ∧ isWhite c = false ∧ c.toNat ≠ 93 ∧ c.toNat ≠ 125 := by
  cases d with
  | zero => exact core_head h
  | succ d => exact core_head h

/-! ### places -/
theorem skL {L pre w suf : List UInt8} {i : Nat} (hL : L = pre ++ (w ++ suf)) (hi : i = pre.length) (hw : White w) (hs : ∀ c r, suf = c :: r → isWhite c = false) : skipW L i = i + w.length := by
  subst hL hi
  unfold skipW
  rw [span_app isWhite pre w suf hw hs]
theorem word1 {L pre suf : List UInt8} {c : UInt8} {i : Nat} (hL : L = pre ++ c :: suf) (hi : i = pre.length) : wordAt [c] L i = true := by
  unfold wordAt
  rw [hL, hi, List.drop_left]
  simp [List.isPrefixOf]
theorem word1_no {L pre suf : List UInt8} {c b : UInt8} {i : Nat} (hL : L = pre ++ c :: suf) (hi : i = pre.length) (hb : b ≠ c) : wordAt [b] L i = false := by
  unfold wordAt
  rw [hL, hi, List.drop_left]
  simp [List.isPrefixOf, hb]
theorem wordL {L pre t suf : List UInt8} {i : Nat} (hL : L = pre ++ (t ++ suf)) (hi : i = pre.length) : wordAt t L i = true := by
  unfold wordAt
  rw [hL, hi, List.drop_left]
  simp

/-- What is read of such texts, wherever they stand. -/
def Reads (f : J → List UInt8 → Prop) (L : List UInt8) (g : Nat → Rd J) : Prop :=
  ∀ u t, f u t → (∃ c r, t = c :: r ∧ isWhite c = false ∧ c.toNat ≠ 93 ∧ c.toNat ≠ 125) ∧ ∀ pre post i, L = pre ++ (t ++ post) → i = pre.length → NoDig post → g i = .ok (u, i + t.length)

theorem noDig_white {w : List UInt8} {c : UInt8} {r : List UInt8} (hw : White w) (hc : isDigit c = false) : NoDig (w ++ c :: r) := by
  intro b q e
  cases w with
  | nil => simp at e; rw [← e.1]; exact hc
  | cons a w' =>
    simp at e
    rw [← e.1]
    have := hw a (by simp)
    unfold isWhite at this
    unfold isDigit
    simp only [Bool.or_eq_true, beq_iff_eq] at this
    rw [decide_eq_false_iff_not]
    omega

theorem list_els {f : J → List UInt8 → Prop} {L : List UInt8} {g : Nat → Rd J} (hR : Reads f L g) : ∀ {r : List J} {e : List UInt8}, ElsF f r e → ∀ (pre post : List UInt8) (acc : List J) (n i : Nat),
    r.length ≤ n → L = pre ++ (e ++ 93 :: post) → skipW L i = skipW L pre.length → listAt L g n i acc = .ok (jList (acc ++ r), pre.length + e.length + 1) := by
  intro r e h
  induction h with
  | one x t w1 w2 h1 hx h2 =>
    intro pre post acc n i hn hL hi
    obtain ⟨n, rfl⟩ : ∃ m, n = m + 1 := ⟨n - 1, by simp at hn; omega⟩
    obtain ⟨⟨c, q, ht, hc, _, _⟩, hg⟩ := hR x t hx
    have hs1 : skipW L pre.length = pre.length + w1.length := skL (suf := t ++ (w2 ++ 93 :: post)) (by rw [hL]; simp) rfl h1 (fun b r' e => by rw [ht] at e; simp at e; rw [← e.1]; exact hc)
    have hv := hg (pre ++ w1) (w2 ++ 93 :: post) (pre.length + w1.length) (by rw [hL]; simp) (by simp only [List.length_append, List.length_cons, List.length_nil] <;> omega) (noDig_white h2 (by decide))
    have hs2 : skipW L (pre.length + w1.length + t.length) = pre.length + w1.length + t.length + w2.length := skL (pre := pre ++ w1 ++ t) (suf := 93 :: post) (by rw [hL]; simp) (by simp only [List.length_append, List.length_cons, List.length_nil] <;> omega) h2 (fun b r' e => by simp at e; rw [← e.1]; decide)
    have hw : wordAt [93] L (pre.length + w1.length + t.length + w2.length) = true := word1 (pre := pre ++ w1 ++ t ++ w2) (suf := post) (by rw [hL]; simp) (by simp only [List.length_append, List.length_cons, List.length_nil] <;> omega)
    unfold listAt
    rw [hi, hs1, hv]
    simp only [hs2, hw, if_true, List.length_append, Except.ok.injEq, Prod.mk.injEq, true_and]
    omega
  | more x t w1 w2 r e h1 hx h2 hr ih =>
    intro pre post acc n i hn hL hi
    obtain ⟨n, rfl⟩ : ∃ m, n = m + 1 := ⟨n - 1, by simp at hn; omega⟩
    obtain ⟨⟨c, q, ht, hc, _, _⟩, hg⟩ := hR x t hx
    have hs1 : skipW L pre.length = pre.length + w1.length := skL (suf := t ++ (w2 ++ 44 :: (e ++ 93 :: post))) (by rw [hL]; simp) rfl h1 (fun b r' e => by rw [ht] at e; simp at e; rw [← e.1]; exact hc)
    have hv := hg (pre ++ w1) (w2 ++ 44 :: (e ++ 93 :: post)) (pre.length + w1.length) (by rw [hL]; simp) (by simp only [List.length_append, List.length_cons, List.length_nil] <;> omega) (noDig_white h2 (by decide))
    have hs2 : skipW L (pre.length + w1.length + t.length) = pre.length + w1.length + t.length + w2.length := skL (pre := pre ++ w1 ++ t) (suf := 44 :: (e ++ 93 :: post)) (by rw [hL]; simp) (by simp only [List.length_append, List.length_cons, List.length_nil] <;> omega) h2 (fun b r' e => by simp at e; rw [← e.1]; decide)
    have hw0 : wordAt [93] L (pre.length + w1.length + t.length + w2.length) = false := word1_no (pre := pre ++ w1 ++ t ++ w2) (suf := e ++ 93 :: post) (c := 44) (by rw [hL]; simp) (by simp only [List.length_append, List.length_cons, List.length_nil] <;> omega) (by decide)
    have hw : wordAt [44] L (pre.length + w1.length + t.length + w2.length) = true := word1 (pre := pre ++ w1 ++ t ++ w2) (suf := e ++ 93 :: post) (by rw [hL]; simp) (by simp only [List.length_append, List.length_cons, List.length_nil] <;> omega)
    have hrec := ih (pre ++ w1 ++ t ++ w2 ++ [44]) post (acc ++ [x]) n (pre.length + w1.length + t.length + w2.length + 1) (by simp at hn; omega) (by rw [hL]; simp) (by congr 1; simp only [List.length_append, List.length_cons, List.length_nil] <;> omega)
    unfold listAt
    rw [hi, hs1, hv]
    simp only [hs2, hw0, hw, if_true, Bool.false_eq_true, if_false]
    rw [hrec]
    simp only [List.append_assoc, List.singleton_append, List.length_append, List.length_cons, List.length_nil, Except.ok.injEq, Prod.mk.injEq, true_and]
    omega

theorem obj_pas {f : J → List UInt8 → Prop} {L : List UInt8} {g : Nat → Rd J} (hR : Reads f L g) : ∀ {ks : List ByteArray} {r : List J} {e : List UInt8}, PasF f ks r e → ∀ (pre post : List UInt8) (ks0 : List ByteArray) (acc : List J) (n i : Nat),
    ks.length ≤ n → unlike ks0 ks = true → L = pre ++ (e ++ 125 :: post) → skipW L i = skipW L pre.length → objAt L g n i ks0 acc = .ok (jObj (ks0 ++ ks) (acc ++ r), pre.length + e.length + 1) := by
  intro ks r e h
  have hba : ∀ k : ByteArray, (⟨k.data.toList.toArray⟩ : ByteArray) = k := fun k => by cases k; simp
  induction h with
  | one k x t w1 w2 w3 w4 hk h1 h2 h3 hx h4 =>
    intro pre post ks0 acc n i hn hu hL hi
    obtain ⟨n, rfl⟩ : ∃ m, n = m + 1 := ⟨n - 1, by simp at hn; omega⟩
    obtain ⟨⟨c, q, ht, hc, _, _⟩, hg⟩ := hR x t hx
    have hun : seenB ks0 k = false := by
      unfold unlike at hu
      cases hs : seenB ks0 k with
      | false => rfl
      | true => rw [hs] at hu; simp at hu
    unfold seenB at hun
    have hs1 : skipW L pre.length = pre.length + w1.length := skL (suf := quoteL k.data.toList ++ (w2 ++ 58 :: (w3 ++ (t ++ (w4 ++ 125 :: post))))) (by rw [hL]; simp) rfl h1 (fun b r' e => by unfold quoteL at e; simp at e; rw [← e.1]; decide)
    have hq : L[pre.length + w1.length]? = some 34 := by
      have := getL (L := L) (pre := pre ++ w1) (suf := quoteL k.data.toList ++ (w2 ++ 58 :: (w3 ++ (t ++ (w4 ++ 125 :: post))))) (i := pre.length + w1.length) (by rw [hL]; simp) (by simp only [List.length_append, List.length_cons, List.length_nil] <;> omega) 0
      rw [Nat.add_zero] at this
      rw [this]; rfl
    have hto := text_quote hk (L := L) (pre := pre ++ w1) (post := w2 ++ 58 :: (w3 ++ (t ++ (w4 ++ 125 :: post)))) (i := pre.length + w1.length) (by rw [hL]; simp) (by simp only [List.length_append, List.length_cons, List.length_nil] <;> omega)
    have hs2 : skipW L (pre.length + w1.length + (quoteL k.data.toList).length) = pre.length + w1.length + (quoteL k.data.toList).length + w2.length := skL (pre := pre ++ w1 ++ quoteL k.data.toList) (suf := 58 :: (w3 ++ (t ++ (w4 ++ 125 :: post)))) (by rw [hL]; simp) (by simp only [List.length_append, List.length_cons, List.length_nil] <;> omega) h2 (fun b r' e => by simp at e; rw [← e.1]; decide)
    have hw2 : wordAt [58] L (pre.length + w1.length + (quoteL k.data.toList).length + w2.length) = true := word1 (pre := pre ++ w1 ++ quoteL k.data.toList ++ w2) (suf := w3 ++ (t ++ (w4 ++ 125 :: post))) (by rw [hL]; simp) (by simp only [List.length_append, List.length_cons, List.length_nil] <;> omega)
    have hs3 : skipW L (pre.length + w1.length + (quoteL k.data.toList).length + w2.length + 1) = pre.length + w1.length + (quoteL k.data.toList).length + w2.length + 1 + w3.length := skL (pre := pre ++ w1 ++ quoteL k.data.toList ++ w2 ++ [58]) (suf := t ++ (w4 ++ 125 :: post)) (by rw [hL]; simp) (by simp only [List.length_append, List.length_cons, List.length_nil] <;> omega) h3 (fun b r' e => by rw [ht] at e; simp at e; rw [← e.1]; exact hc)
    have hv := hg (pre ++ w1 ++ quoteL k.data.toList ++ w2 ++ [58] ++ w3) (w4 ++ 125 :: post) (pre.length + w1.length + (quoteL k.data.toList).length + w2.length + 1 + w3.length) (by rw [hL]; simp) (by simp only [List.length_append, List.length_cons, List.length_nil] <;> omega) (noDig_white h4 (by decide))
    have hs4 : skipW L (pre.length + w1.length + (quoteL k.data.toList).length + w2.length + 1 + w3.length + t.length) = pre.length + w1.length + (quoteL k.data.toList).length + w2.length + 1 + w3.length + t.length + w4.length := skL (pre := pre ++ w1 ++ quoteL k.data.toList ++ w2 ++ [58] ++ w3 ++ t) (suf := 125 :: post) (by rw [hL]; simp) (by simp only [List.length_append, List.length_cons, List.length_nil] <;> omega) h4 (fun b r' e => by simp at e; rw [← e.1]; decide)
    have hw4 : wordAt [125] L (pre.length + w1.length + (quoteL k.data.toList).length + w2.length + 1 + w3.length + t.length + w4.length) = true := word1 (pre := pre ++ w1 ++ quoteL k.data.toList ++ w2 ++ [58] ++ w3 ++ t ++ w4) (suf := post) (by rw [hL]; simp) (by simp only [List.length_append, List.length_cons, List.length_nil] <;> omega)
    unfold objAt
    rw [hi, hs1, if_pos hq, hto]
    simp only [hun, Bool.false_eq_true, if_false, hs2, hw2, if_true, hs3, hv, hs4, hw4, hba, List.length_append, List.length_cons, Except.ok.injEq, Prod.mk.injEq, true_and]
    omega
  | more k x t w1 w2 w3 w4 ks r e hk h1 h2 h3 hx h4 hr ih =>
    intro pre post ks0 acc n i hn hu hL hi
    obtain ⟨n, rfl⟩ : ∃ m, n = m + 1 := ⟨n - 1, by simp at hn; omega⟩
    obtain ⟨⟨c, q, ht, hc, _, _⟩, hg⟩ := hR x t hx
    have hun : seenB ks0 k = false ∧ unlike (ks0 ++ [k]) ks = true := by
      unfold unlike at hu
      cases hs : seenB ks0 k with
      | false => rw [hs] at hu; exact ⟨rfl, by simpa using hu⟩
      | true => rw [hs] at hu; simp at hu
    obtain ⟨hun, hu2⟩ := hun
    unfold seenB at hun
    have hs1 : skipW L pre.length = pre.length + w1.length := skL (suf := quoteL k.data.toList ++ (w2 ++ 58 :: (w3 ++ (t ++ (w4 ++ 44 :: (e ++ 125 :: post)))))) (by rw [hL]; simp) rfl h1 (fun b r' e => by unfold quoteL at e; simp at e; rw [← e.1]; decide)
    have hq : L[pre.length + w1.length]? = some 34 := by
      have := getL (L := L) (pre := pre ++ w1) (suf := quoteL k.data.toList ++ (w2 ++ 58 :: (w3 ++ (t ++ (w4 ++ 44 :: (e ++ 125 :: post)))))) (i := pre.length + w1.length) (by rw [hL]; simp) (by simp only [List.length_append, List.length_cons, List.length_nil] <;> omega) 0
      rw [Nat.add_zero] at this
      rw [this]; rfl
    have hto := text_quote hk (L := L) (pre := pre ++ w1) (post := w2 ++ 58 :: (w3 ++ (t ++ (w4 ++ 44 :: (e ++ 125 :: post))))) (i := pre.length + w1.length) (by rw [hL]; simp) (by simp only [List.length_append, List.length_cons, List.length_nil] <;> omega)
    have hs2 : skipW L (pre.length + w1.length + (quoteL k.data.toList).length) = pre.length + w1.length + (quoteL k.data.toList).length + w2.length := skL (pre := pre ++ w1 ++ quoteL k.data.toList) (suf := 58 :: (w3 ++ (t ++ (w4 ++ 44 :: (e ++ 125 :: post))))) (by rw [hL]; simp) (by simp only [List.length_append, List.length_cons, List.length_nil] <;> omega) h2 (fun b r' e => by simp at e; rw [← e.1]; decide)
    have hw2 : wordAt [58] L (pre.length + w1.length + (quoteL k.data.toList).length + w2.length) = true := word1 (pre := pre ++ w1 ++ quoteL k.data.toList ++ w2) (suf := w3 ++ (t ++ (w4 ++ 44 :: (e ++ 125 :: post)))) (by rw [hL]; simp) (by simp only [List.length_append, List.length_cons, List.length_nil] <;> omega)
    have hs3 : skipW L (pre.length + w1.length + (quoteL k.data.toList).length + w2.length + 1) = pre.length + w1.length + (quoteL k.data.toList).length + w2.length + 1 + w3.length := skL (pre := pre ++ w1 ++ quoteL k.data.toList ++ w2 ++ [58]) (suf := t ++ (w4 ++ 44 :: (e ++ 125 :: post))) (by rw [hL]; simp) (by simp only [List.length_append, List.length_cons, List.length_nil] <;> omega) h3 (fun b r' e => by rw [ht] at e; simp at e; rw [← e.1]; exact hc)
    have hv := hg (pre ++ w1 ++ quoteL k.data.toList ++ w2 ++ [58] ++ w3) (w4 ++ 44 :: (e ++ 125 :: post)) (pre.length + w1.length + (quoteL k.data.toList).length + w2.length + 1 + w3.length) (by rw [hL]; simp) (by simp only [List.length_append, List.length_cons, List.length_nil] <;> omega) (noDig_white h4 (by decide))
    have hs4 : skipW L (pre.length + w1.length + (quoteL k.data.toList).length + w2.length + 1 + w3.length + t.length) = pre.length + w1.length + (quoteL k.data.toList).length + w2.length + 1 + w3.length + t.length + w4.length := skL (pre := pre ++ w1 ++ quoteL k.data.toList ++ w2 ++ [58] ++ w3 ++ t) (suf := 44 :: (e ++ 125 :: post)) (by rw [hL]; simp) (by simp only [List.length_append, List.length_cons, List.length_nil] <;> omega) h4 (fun b r' e => by simp at e; rw [← e.1]; decide)
    have hw0 : wordAt [125] L (pre.length + w1.length + (quoteL k.data.toList).length + w2.length + 1 + w3.length + t.length + w4.length) = false := word1_no (pre := pre ++ w1 ++ quoteL k.data.toList ++ w2 ++ [58] ++ w3 ++ t ++ w4) (suf := e ++ 125 :: post) (c := 44) (by rw [hL]; simp) (by simp only [List.length_append, List.length_cons, List.length_nil] <;> omega) (by decide)
    have hw4 : wordAt [44] L (pre.length + w1.length + (quoteL k.data.toList).length + w2.length + 1 + w3.length + t.length + w4.length) = true := word1 (pre := pre ++ w1 ++ quoteL k.data.toList ++ w2 ++ [58] ++ w3 ++ t ++ w4) (suf := e ++ 125 :: post) (by rw [hL]; simp) (by simp only [List.length_append, List.length_cons, List.length_nil] <;> omega)
    have hrec := ih (pre ++ w1 ++ quoteL k.data.toList ++ w2 ++ [58] ++ w3 ++ t ++ w4 ++ [44]) post (ks0 ++ [k]) (acc ++ [x]) n (pre.length + w1.length + (quoteL k.data.toList).length + w2.length + 1 + w3.length + t.length + w4.length + 1) (by simp at hn; omega) hu2 (by rw [hL]; simp) (by congr 1; simp only [List.length_append, List.length_cons, List.length_nil] <;> omega)
    unfold objAt
    rw [hi, hs1, if_pos hq, hto]
    simp only [hun, Bool.false_eq_true, if_false, hs2, hw2, if_true, hs3, hv, hs4, hw0, hw4, hba, hrec, List.append_assoc, List.singleton_append, List.length_append, List.length_cons, List.length_nil, Except.ok.injEq, Prod.mk.injEq, true_and]
    omega

theorem els_head {f : J → List UInt8 → Prop} {L : List UInt8} {g : Nat → Rd J} (hR : Reads f L g) {r : List J} {e : List UInt8} (h : ElsF f r e) : (∃ w c q, White w ∧ e = w ++ c :: q ∧ isWhite c = false ∧ c.toNat ≠ 93) ∧ r.length ≤ e.length := by
  induction h with
  | one x t w1 w2 h1 hx h2 =>
    obtain ⟨⟨c, q, ht, hc, h93, _⟩, _⟩ := hR x t hx
    refine ⟨⟨w1, c, q ++ w2, h1, by rw [ht]; simp, hc, h93⟩, ?_⟩
    rw [ht]; simp; omega
  | more x t w1 w2 r e h1 hx h2 hr ih =>
    obtain ⟨⟨c, q, ht, hc, h93, _⟩, _⟩ := hR x t hx
    refine ⟨⟨w1, c, q ++ (w2 ++ 44 :: e), h1, by rw [ht]; simp, hc, h93⟩, ?_⟩
    have := ih.2
    rw [ht]; simp; omega
theorem pas_head {f : J → List UInt8 → Prop} {ks : List ByteArray} {r : List J} {e : List UInt8} (h : PasF f ks r e) : (∃ w q, White w ∧ e = w ++ 34 :: q) ∧ ks.length ≤ e.length := by
  induction h with
  | one k x t w1 w2 w3 w4 hk h1 h2 h3 hx h4 =>
    refine ⟨⟨w1, _, h1, by unfold quoteL; rfl⟩, ?_⟩
    unfold quoteL; simp; omega
  | more k x t w1 w2 w3 w4 ks r e hk h1 h2 h3 hx h4 hr ih =>
    refine ⟨⟨w1, _, h1, by unfold quoteL; rfl⟩, ?_⟩
    have := ih.2
    unfold quoteL; simp; omega

/-- What is within. -/
def SubReads (L : List UInt8) : Option (J → List UInt8 → Prop) → Option (Nat → Rd J) → Prop
  | none, none => True
  | some f, some g => Reads f L g
  | _, _ => False
theorem core_reads (L : List UInt8) (sub' : Option (J → List UInt8 → Prop)) (sub : Option (Nat → Rd J)) (h : SubReads L sub' sub) : Reads (CoreF sub') L (valP numD L sub) := by
  intro u t hu
  refine ⟨core_head hu, fun pre post i hL hi hp => ?_⟩
  have hpk : ∀ c r, t = c :: r → pk L i = c.toNat := fun c r e => pkL (suf := r ++ post) (by rw [hL, e]; simp) hi
  cases hu with
  | null =>
    have := hpk _ _ rfl
    unfold valP
    rw [this, if_neg (by decide), if_neg (by decide), if_neg (by decide), if_pos (by decide), if_pos (wordL hL hi)]
    rfl
  | yes =>
    have := hpk _ _ rfl
    unfold valP
    rw [this, if_neg (by decide), if_neg (by decide), if_neg (by decide), if_neg (by decide), if_pos (by decide), if_pos (wordL hL hi)]
    rfl
  | no =>
    have := hpk _ _ rfl
    unfold valP
    rw [this, if_neg (by decide), if_neg (by decide), if_neg (by decide), if_neg (by decide), if_neg (by decide), if_pos (by decide), if_pos (wordL hL hi)]
    rfl
  | int n h0 h1 =>
    obtain ⟨c, r, e, hc⟩ := itoa_head n
    have := hpk c r e
    have hn := numD_itoa pre post n h0 h1 hp
    rw [← hL, ← hi] at hn
    unfold valP
    rw [this, if_neg (by omega), if_neg (by omega), if_neg (by omega), if_neg (by omega), if_neg (by omega), if_neg (by omega), hn]
  | text s hs =>
    have := hpk 34 _ rfl
    have ht := text_quote hs hL hi
    unfold valP
    rw [this, if_neg (by decide), if_neg (by decide), if_pos (by decide), ht]
  | list0 f w hs hw =>
    subst hs
    have := hpk 91 _ rfl
    cases sub with
    | none => exact h.elim
    | some g =>
      have hs1 : skipW L (i + 1) = i + 1 + w.length := skL (pre := pre ++ [91]) (suf := 93 :: post) (by rw [hL]; simp) (by simp only [List.length_append, List.length_cons, List.length_nil] <;> omega) hw (fun b r' e => by simp at e; rw [← e.1]; decide)
      have hp2 : pk L (i + 1 + w.length) = (93 : UInt8).toNat := pkL (pre := pre ++ [91] ++ w) (suf := post) (by rw [hL]; simp) (by simp only [List.length_append, List.length_cons, List.length_nil] <;> omega)
      unfold valP
      rw [this, if_pos (by decide)]
      simp only [hs1, hp2]
      rw [if_pos (by decide)]
      simp only [List.length_cons, List.length_append, List.length_nil, Except.ok.injEq, Prod.mk.injEq, true_and]
      omega
  | list f l e hs he =>
    subst hs
    have := hpk 91 _ rfl
    cases sub with
    | none => exact h.elim
    | some g =>
      have hR : Reads f L g := h
      obtain ⟨⟨w, c, q, hw, hee, hc, h93⟩, hlen⟩ := els_head hR he
      have hs1 : skipW L (i + 1) = i + 1 + w.length := skL (pre := pre ++ [91]) (suf := c :: (q ++ 93 :: post)) (by rw [hL, hee]; simp) (by simp only [List.length_append, List.length_cons, List.length_nil] <;> omega) hw (fun b r' e => by simp at e; rw [← e.1]; exact hc)
      have hp2 : pk L (i + 1 + w.length) = c.toNat := pkL (pre := pre ++ [91] ++ w) (suf := q ++ 93 :: post) (by rw [hL, hee]; simp) (by simp only [List.length_append, List.length_cons, List.length_nil] <;> omega)
      have hs2 : skipW L (i + 1 + w.length) = i + 1 + w.length := by
        have := skL (L := L) (pre := pre ++ [91] ++ w) (w := []) (suf := c :: (q ++ 93 :: post)) (i := i + 1 + w.length) (by rw [hL, hee]; simp) (by simp only [List.length_append, List.length_cons, List.length_nil] <;> omega) White.nil (fun b r' e => by simp at e; rw [← e.1]; exact hc)
        simpa using this
      have hpl : (pre ++ [91] : List UInt8).length = i + 1 := by rw [List.length_append, hi]; rfl
      have hlist := list_els hR he (pre ++ [91]) post [] (L.length + 1) (i + 1 + w.length) (by rw [hL]; simp only [List.length_append, List.length_cons, List.length_nil] <;> omega) (by rw [hL]; simp) (by rw [hs2, hpl, hs1])
      unfold valP
      rw [this, if_pos (by decide)]
      simp only [hs1, hp2]
      rw [if_neg h93, hlist]
      simp only [List.nil_append, List.length_cons, List.length_append, List.length_nil, Except.ok.injEq, Prod.mk.injEq, true_and]
      omega
  | obj0 f w hs hw =>
    subst hs
    have := hpk 123 _ rfl
    cases sub with
    | none => exact h.elim
    | some g =>
      have hs1 : skipW L (i + 1) = i + 1 + w.length := skL (pre := pre ++ [123]) (suf := 125 :: post) (by rw [hL]; simp) (by simp only [List.length_append, List.length_cons, List.length_nil] <;> omega) hw (fun b r' e => by simp at e; rw [← e.1]; decide)
      have hp2 : pk L (i + 1 + w.length) = (125 : UInt8).toNat := pkL (pre := pre ++ [123] ++ w) (suf := post) (by rw [hL]; simp) (by simp only [List.length_append, List.length_cons, List.length_nil] <;> omega)
      unfold valP
      rw [this, if_neg (by decide), if_pos (by decide)]
      simp only [hs1, hp2]
      rw [if_pos (by decide)]
      simp only [List.length_cons, List.length_append, List.length_nil, Except.ok.injEq, Prod.mk.injEq, true_and]
      omega
  | obj f ks l e hs hun he =>
    subst hs
    have := hpk 123 _ rfl
    cases sub with
    | none => exact h.elim
    | some g =>
      have hR : Reads f L g := h
      obtain ⟨⟨w, q, hw, hee⟩, hlen⟩ := pas_head he
      have hs1 : skipW L (i + 1) = i + 1 + w.length := skL (pre := pre ++ [123]) (suf := 34 :: (q ++ 125 :: post)) (by rw [hL, hee]; simp) (by simp only [List.length_append, List.length_cons, List.length_nil] <;> omega) hw (fun b r' e => by simp at e; rw [← e.1]; decide)
      have hp2 : pk L (i + 1 + w.length) = (34 : UInt8).toNat := pkL (pre := pre ++ [123] ++ w) (suf := q ++ 125 :: post) (by rw [hL, hee]; simp) (by simp only [List.length_append, List.length_cons, List.length_nil] <;> omega)
      have hs2 : skipW L (i + 1 + w.length) = i + 1 + w.length := by
        have := skL (L := L) (pre := pre ++ [123] ++ w) (w := []) (suf := 34 :: (q ++ 125 :: post)) (i := i + 1 + w.length) (by rw [hL, hee]; simp) (by simp only [List.length_append, List.length_cons, List.length_nil] <;> omega) White.nil (fun b r' e => by simp at e; rw [← e.1]; decide)
        simpa using this
      have hpl : (pre ++ [123] : List UInt8).length = i + 1 := by rw [List.length_append, hi]; rfl
      have hobj := obj_pas hR he (pre ++ [123]) post [] [] (L.length + 1) (i + 1 + w.length) (by rw [hL]; simp only [List.length_append, List.length_cons, List.length_nil] <;> omega) hun (by rw [hL]; simp) (by rw [hs2, hpl, hs1])
      unfold valP
      rw [this, if_neg (by decide), if_pos (by decide)]
      simp only [hs1, hp2]
      rw [if_neg (by decide), hobj]
      simp only [List.nil_append, List.length_cons, List.length_append, List.length_nil, Except.ok.injEq, Prod.mk.injEq, true_and]
      omega
theorem fm_reads (L : List UInt8) : ∀ d, Reads (FmN d) L (valN numD L d)
  | 0 => core_reads L none none trivial
  | d + 1 => core_reads L (some (FmN d)) (some (valN numD L d)) (fm_reads L d)
/-- A text with white about it is read to its value. -/
theorem parse_fm {u : J} {w0 t w9 : List UInt8} (h : FmN 16 u t) (h0 : White w0) (h9 : White w9) (hl : (w0 ++ (t ++ w9)).length ≤ 65536) : parseN numD (w0 ++ (t ++ w9)) = .ok u := by
  obtain ⟨⟨c, r, ht, hc, _, _⟩, hg⟩ := fm_reads (w0 ++ (t ++ w9)) 16 u t h
  have hs1 : skipW (w0 ++ (t ++ w9)) 0 = 0 + w0.length := skL (pre := []) (suf := t ++ w9) rfl rfl h0 (fun b r' e => by rw [ht] at e; simp at e; rw [← e.1]; exact hc)
  have hv := hg w0 w9 (0 + w0.length) rfl (by simp) (fun b r' e => by
    have := h9 b (by rw [e]; simp)
    unfold isWhite at this
    unfold isDigit
    simp only [Bool.or_eq_true, beq_iff_eq] at this
    rw [decide_eq_false_iff_not]
    omega)
  have hs2 : skipW (w0 ++ (t ++ w9)) (0 + w0.length + t.length) = 0 + w0.length + t.length + w9.length := skL (pre := w0 ++ t) (suf := []) (by simp) (by simp) h9 (fun b r' e => by simp at e)
  unfold parseN
  rw [if_neg (by omega)]
  unfold valW
  rw [hs1, hv]
  simp only [hs2]
  rw [if_pos (by simp only [List.length_append, List.length_cons, List.length_nil] <;> omega)]
end Go.Proofs.YtcobadgpelhcoaaDoor

namespace Go.Proofs.YtcobadgpelhcoaaDoor
set_option linter.unusedVariables false
set_option linter.unusedSimpArgs false

/-- What a value's Kind uses. -/
def usedF (f : J → J) : J → J
  | .mk k b n s l ks => if k = 0 then jNull else if k = 1 then jBool b else if k = 2 then jInt n else if k = 3 then jText s else if k = 4 then jList (l.map f) else jObj ks (l.map f)
def usedN : Nat → J → J
  | 0 => usedF id
  | d + 1 => usedF (usedN d)

theorem putB_ok {acc bs out : List UInt8} (h : putB acc bs = .ok out) : out = acc ++ bs ∧ out.length ≤ 65536 := by
  unfold putB at h
  split at h
  · simp at h
  · simp only [Except.ok.injEq] at h
    subst h
    exact ⟨rfl, by rw [List.length_append]; omega⟩
theorem putB_eq {acc bs out : List UInt8} (h : out = acc ++ bs) (hl : out.length ≤ 65536) : putB acc bs = .ok out := by
  subst h
  exact putB_yes (by rw [List.length_append] at hl; exact hl)
theorem bnd_inv {α β : Type} {r : Except Int α} {f : α → Except Int β} {out : β} (h : bnd r f = .ok out) : ∃ a, r = .ok a ∧ f a = .ok out := by
  cases r with
  | error e => simp at h
  | ok a => exact ⟨a, rfl, h⟩
theorem comma_inv {one : Bool} {acc a : List UInt8} (h : comma one acc = .ok a) : a = acc ++ (if one then [] else [44]) := by
  unfold comma at h
  cases one with
  | true => simp at h; simp [h]
  | false => exact (putB_ok h).1

/-- A printer writes such texts, of what a value's Kind uses alone. -/
def PrOk (p : Pr) (fm : J → List UInt8 → Prop) (us : J → J) : Prop :=
  ∀ j acc out, JSm j → p j acc = .ok out → (∃ t, out = acc ++ t ∧ fm (us j) t) ∧ p (us j) acc = .ok out ∧ out.length ≤ 65536

theorem elems_ok {p : Pr} {fm : J → List UInt8 → Prop} {us : J → J} (hp : PrOk p fm us) : ∀ (l : List J) (one : Bool) (acc out : List UInt8), (∀ x ∈ l, JSm x) → elemsP p one l acc = .ok out →
    elemsP p one (l.map us) acc = .ok out ∧ ((l = [] ∧ out = acc) ∨ (l ≠ [] ∧ ∃ e, ElsF fm (l.map us) e ∧ out = acc ++ ((if one then [] else [44]) ++ e))) := by
  intro l
  induction l with
  | nil =>
    intro one acc out _ h
    unfold elemsP at h
    simp only [Except.ok.injEq] at h
    subst h
    exact ⟨rfl, .inl ⟨rfl, rfl⟩⟩
  | cons x r ih =>
    intro one acc out hs h
    unfold elemsP at h
    obtain ⟨a, h1, h⟩ := bnd_inv h
    obtain ⟨b, h2, h⟩ := bnd_inv h
    have ha := comma_inv h1
    obtain ⟨⟨t, hb, ht⟩, hpu, _⟩ := hp x a b (hs x (by simp)) h2
    obtain ⟨hr1, hr2⟩ := ih false b out (fun y hy => hs y (by simp [hy])) h
    refine ⟨?_, .inr ⟨by simp, ?_⟩⟩
    · rw [List.map_cons]
      unfold elemsP
      rw [h1, bnd_ok, hpu, bnd_ok]
      exact hr1
    · rcases hr2 with ⟨rfl, rfl⟩ | ⟨_, e, he, ho⟩
      · refine ⟨[] ++ (t ++ []), .one _ t [] [] White.nil ht White.nil, ?_⟩
        rw [hb, ha]
        simp
      · refine ⟨[] ++ (t ++ ([] ++ 44 :: e)), .more _ t [] [] _ e White.nil ht White.nil he, ?_⟩
        rw [ho, hb, ha]
        simp
theorem pairs_ok {p : Pr} {fm : J → List UInt8 → Prop} {us : J → J} (hp : PrOk p fm us) : ∀ (ks : List ByteArray) (l : List J) (one : Bool) (acc out : List UInt8), ks.length = l.length → ks.all validB = true → (∀ x ∈ l, JSm x) → pairsP p one ks l acc = .ok out →
    pairsP p one ks (l.map us) acc = .ok out ∧ ((ks = [] ∧ l = [] ∧ out = acc) ∨ (ks ≠ [] ∧ ∃ e, PasF fm ks (l.map us) e ∧ out = acc ++ ((if one then [] else [44]) ++ e))) := by
  intro ks
  induction ks with
  | nil =>
    intro l one acc out hl _ _ h
    have : l = [] := List.length_eq_zero_iff.1 hl.symm
    subst this
    unfold pairsP at h
    simp only [Except.ok.injEq] at h
    subst h
    exact ⟨rfl, .inl ⟨rfl, rfl, rfl⟩⟩
  | cons k ks ih =>
    intro l one acc out hl hv hs h
    cases l with
    | nil => simp at hl
    | cons x r =>
    rw [List.all_cons, Bool.and_eq_true] at hv
    have hk : first k.data.toList = -1 := by have := hv.1; unfold validB at this; simpa using this
    unfold pairsP at h
    obtain ⟨a, h1, h⟩ := bnd_inv h
    obtain ⟨b, h2, h⟩ := bnd_inv h
    obtain ⟨c, h3, h⟩ := bnd_inv h
    obtain ⟨d, h4, h⟩ := bnd_inv h
    have ha := comma_inv h1
    have hb := (putB_ok h2).1
    have hc := (putB_ok h3).1
    obtain ⟨⟨t, hd, ht⟩, hpu, _⟩ := hp x c d (hs x (by simp)) h4
    obtain ⟨hr1, hr2⟩ := ih r false d out (by simpa using hl) hv.2 (fun y hy => hs y (by simp [hy])) h
    refine ⟨?_, .inr ⟨by simp, ?_⟩⟩
    · rw [List.map_cons]
      unfold pairsP
      rw [h1, bnd_ok, h2, bnd_ok, h3, bnd_ok, hpu, bnd_ok]
      exact hr1
    · rcases hr2 with ⟨rfl, rfl, rfl⟩ | ⟨_, e, he, ho⟩
      · refine ⟨[] ++ (quoteL k.data.toList ++ ([] ++ 58 :: ([] ++ (t ++ [])))), .one k _ t [] [] [] [] hk White.nil White.nil White.nil ht White.nil, ?_⟩
        rw [hd, hc, hb, ha]
        simp
      · refine ⟨[] ++ (quoteL k.data.toList ++ ([] ++ 58 :: ([] ++ (t ++ ([] ++ 44 :: e))))), .more k _ t [] [] [] [] ks _ e hk White.nil White.nil White.nil ht White.nil he, ?_⟩
        rw [ho, hd, hc, hb, ha]
        simp
theorem fb_yes : Lib.formatBool true = [116, 114, 117, 101] := by decide +kernel
theorem fb_no : Lib.formatBool false = [102, 97, 108, 115, 101] := by decide +kernel

/-- What is within. -/
def PSub : Option Pr → Option (J → List UInt8 → Prop) → (J → J) → Prop
  | none, none, _ => True
  | some p, some fm, us => PrOk p fm us
  | _, _, _ => False
theorem prF_ok (sub : Option Pr) (sub' : Option (J → List UInt8 → Prop)) (us : J → J) (h : PSub sub sub' us) : PrOk (prF sub) (CoreF sub') (usedF us) := by
  intro j acc out hj ho
  obtain ⟨k, b, n, s, l, ks, hn, hs, hl, hk, hks, hjl⟩ := hj
  unfold prF at ho
  dsimp only at ho
  unfold usedF
  dsimp only
  by_cases h0 : k = 0
  · rw [if_pos h0] at ho
    rw [if_pos h0]
    exact ⟨⟨_, (putB_ok ho).1, .null⟩, ho, (putB_ok ho).2⟩
  rw [if_neg h0] at ho ⊢
  by_cases h1 : k = 1
  · rw [if_pos h1] at ho
    rw [if_pos h1]
    refine ⟨⟨_, (putB_ok ho).1, ?_⟩, ho, (putB_ok ho).2⟩
    cases b with
    | true => rw [fb_yes]; exact .yes
    | false => rw [fb_no]; exact .no
  rw [if_neg h1] at ho ⊢
  by_cases h2 : k = 2
  · rw [if_pos h2] at ho
    rw [if_pos h2]
    exact ⟨⟨_, (putB_ok ho).1, .int n hn.1 hn.2⟩, ho, (putB_ok ho).2⟩
  rw [if_neg h2] at ho ⊢
  by_cases h3 : k = 3
  · rw [if_pos h3] at ho
    rw [if_pos h3]
    split at ho
    · rename_i hv
      refine ⟨⟨_, (putB_ok ho).1, .text s ?_⟩, ?_, (putB_ok ho).2⟩
      · unfold validB at hv; simpa using hv
      · show prF sub (jText s) acc = _
        unfold prF jText
        simp only [hv, if_true]
        exact ho
    · simp at ho
  rw [if_neg h3] at ho ⊢
  by_cases h4 : k = 4
  · rw [if_pos h4] at ho
    rw [if_pos h4]
    cases sub with
    | none => simp at ho
    | some p =>
    cases sub' with
    | none => exact h.elim
    | some fm =>
    have hp : PrOk p fm us := h
    simp only at ho
    unfold listP at ho
    obtain ⟨a, e1, ho⟩ := bnd_inv ho
    obtain ⟨c, e2, ho⟩ := bnd_inv ho
    have ha := (putB_ok e1).1
    have hc := (putB_ok ho).1
    obtain ⟨g1, g2⟩ := elems_ok hp l true a c hjl e2
    refine ⟨?_, ?_, (putB_ok ho).2⟩
    · rcases g2 with ⟨rfl, rfl⟩ | ⟨_, e, he, hcc⟩
      · exact ⟨91 :: ([] ++ [93]), by rw [hc, ha]; simp, .list0 fm [] rfl White.nil⟩
      · exact ⟨91 :: (e ++ [93]), by rw [hc, hcc, ha]; simp, .list fm _ e rfl he⟩
    · show prF (some p) (jList (l.map us)) acc = _
      unfold prF jList
      simp only
      unfold listP
      rw [e1, bnd_ok, g1, bnd_ok]
      exact ho
  rw [if_neg h4] at ho ⊢
  by_cases h5 : k = 5
  · rw [if_pos h5] at ho
    cases sub with
    | none => simp at ho
    | some p =>
    cases sub' with
    | none => exact h.elim
    | some fm =>
    have hp : PrOk p fm us := h
    simp only at ho
    split at ho
    · rename_i hko
      have hko2 : keysOk ks (l.map us) = true := by unfold keysOk at hko ⊢; rw [List.length_map]; exact hko
      unfold keysOk at hko
      simp only [Bool.and_eq_true, decide_eq_true_eq] at hko
      obtain ⟨hkl, hkv, hku⟩ := hko
      unfold objP at ho
      obtain ⟨a, e1, ho⟩ := bnd_inv ho
      obtain ⟨c, e2, ho⟩ := bnd_inv ho
      have ha := (putB_ok e1).1
      have hc := (putB_ok ho).1
      obtain ⟨g1, g2⟩ := pairs_ok hp ks l true a c hkl hkv hjl e2
      refine ⟨?_, ?_, (putB_ok ho).2⟩
      · rcases g2 with ⟨rfl, rfl, rfl⟩ | ⟨_, e, he, hcc⟩
        · exact ⟨123 :: ([] ++ [125]), by rw [hc, ha]; simp, .obj0 fm [] rfl White.nil⟩
        · exact ⟨123 :: (e ++ [125]), by rw [hc, hcc, ha]; simp, .obj fm ks _ e rfl hku he⟩
      · show prF (some p) (jObj ks (l.map us)) acc = _
        unfold prF jObj
        simp only [hko2, if_true]
        unfold objP
        rw [e1, bnd_ok, g1, bnd_ok]
        exact ho
    · simp at ho
  rw [if_neg h5] at ho
  simp at ho
theorem prN_ok : ∀ d, PrOk (prN d) (FmN d) (usedN d)
  | 0 => prF_ok none none id trivial
  | d + 1 => prF_ok (some (prN d)) (some (FmN d)) (usedN d) (prN_ok d)
/-- What is printed, parsed and printed. -/
theorem print_fm {j : J} {t : List UInt8} (hj : JSm j) (h : printN j = .ok t) : FmN 16 (usedN 16 j) t ∧ printN (usedN 16 j) = .ok t ∧ t.length ≤ 65536 := by
  obtain ⟨⟨t', e, hf⟩, h2, h3⟩ := prN_ok 16 j [] t hj h
  rw [List.nil_append] at e
  subst e
  exact ⟨hf, h2, h3⟩
theorem print_back {j : J} {t : List UInt8} (hj : JSm j) (h : printN j = .ok t) : parseN numD t = .ok (usedN 16 j) := by
  obtain ⟨hf, _, hl⟩ := print_fm hj h
  have := parse_fm hf White.nil White.nil (by simpa using hl)
  simpa using this
end Go.Proofs.YtcobadgpelhcoaaDoor

namespace Go.Proofs.YtcobadgpelhcoaaDoor
set_option linter.unusedVariables false
set_option linter.unusedSimpArgs false

/-- A value as the parser makes one; `sub`: those within it. -/
inductive CleanF (sub : Option (J → Prop)) : J → Prop
  | null : CleanF sub jNull
  | bool (b : Bool) : CleanF sub (jBool b)
  | int (n : Int) (h0 : -9223372036854775808 ≤ n) (h1 : n ≤ 9223372036854775807) : CleanF sub (jInt n)
  | text (s : ByteArray) (hv : first s.data.toList = -1) (hz : s.size ≤ 140737488351232) : CleanF sub (jText s)
  | list (f : J → Prop) (l : List J) (hs : sub = some f) (hl : l.length ≤ 9000000000000) (h : ∀ x ∈ l, f x) : CleanF sub (jList l)
  | obj (f : J → Prop) (ks : List ByteArray) (l : List J) (hs : sub = some f) (hkl : ks.length = l.length) (hl : l.length ≤ 9000000000000) (hv : ∀ k ∈ ks, first k.data.toList = -1 ∧ k.size ≤ 140737488351232) (hu : unlike [] ks = true)
      (h : ∀ x ∈ l, f x) : CleanF sub (jObj ks l)
def CleanN : Nat → J → Prop
  | 0 => CleanF none
  | d + 1 => CleanF (some (CleanN d))

/-! ### such a value is its own used part, and can be printed but for its length -/
theorem cleanF_used {sub : Option (J → Prop)} {us : J → J} (h : ∀ f, sub = some f → ∀ x, f x → us x = x) {u : J} (hu : CleanF sub u) : usedF us u = u := by
  cases hu with
  | null => rfl
  | bool b => rfl
  | int n h0 h1 => rfl
  | text s hv hz => rfl
  | list f l hs hl hx =>
    have : l.map us = l := by
      conv => rhs; rw [← List.map_id l]
      exact List.map_congr_left fun x hm => h f hs x (hx x hm)
    show jList (l.map us) = jList l
    rw [this]
  | obj f ks l hs hkl hl hv hun hx =>
    have : l.map us = l := by
      conv => rhs; rw [← List.map_id l]
      exact List.map_congr_left fun x hm => h f hs x (hx x hm)
    show jObj ks (l.map us) = jObj ks l
    rw [this]
theorem clean_used : ∀ (d : Nat) (u : J), CleanN d u → usedN d u = u
  | 0, u, h => cleanF_used (us := id) (fun f e => by cases e) h
  | d + 1, u, h => cleanF_used (us := usedN d) (fun f e x hx => by cases e; exact clean_used d x hx) h
theorem cleanF_sm {sub : Option (J → Prop)} (h : ∀ f, sub = some f → ∀ x, f x → JSm x) {u : J} (hu : CleanF sub u) : JSm u := by
  have e0 : ByteArray.empty.size ≤ 140737488351232 := by decide
  cases hu with
  | null => exact .mk _ _ _ _ _ _ (by decide) e0 (by decide) (by decide) (fun k hk => by simp at hk) (fun y hy => by simp at hy)
  | bool b => exact .mk _ _ _ _ _ _ (by decide) e0 (by decide) (by decide) (fun k hk => by simp at hk) (fun y hy => by simp at hy)
  | int n h0 h1 => exact .mk _ _ _ _ _ _ ⟨h0, h1⟩ e0 (by decide) (by decide) (fun k hk => by simp at hk) (fun y hy => by simp at hy)
  | text s hv hz => exact .mk _ _ _ _ _ _ (by decide) hz (by decide) (by decide) (fun k hk => by simp at hk) (fun y hy => by simp at hy)
  | list f l hs hl hx => exact .mk _ _ _ _ _ _ (by decide) e0 hl (by decide) (fun k hk => by simp at hk) (fun y hy => h f hs y (hx y hy))
  | obj f ks l hs hkl hl hv hun hx => exact .mk _ _ _ _ _ _ (by decide) e0 hl (by omega) (fun k hk => (hv k hk).2) (fun y hy => h f hs y (hx y hy))
theorem clean_sm : ∀ (d : Nat) (u : J), CleanN d u → JSm u
  | 0, u, h => cleanF_sm (fun f e => by cases e) h
  | d + 1, u, h => cleanF_sm (fun f e x hx => by cases e; exact clean_sm d x hx) h

/-- Printed, or too long. -/
def Soft (r : Except Int (List UInt8)) : Prop := (∃ out, r = .ok out) ∨ r = .error 302
theorem soft_putB (acc bs : List UInt8) : Soft (putB acc bs) := by
  unfold putB
  split
  · exact .inr rfl
  · exact .inl ⟨_, rfl⟩
theorem soft_bnd {r : Except Int (List UInt8)} {f : List UInt8 → Except Int (List UInt8)} (h : Soft r) (hf : ∀ a, Soft (f a)) : Soft (bnd r f) := by
  rcases h with ⟨out, rfl⟩ | rfl
  · exact hf out
  · exact .inr rfl
theorem soft_comma (one : Bool) (acc : List UInt8) : Soft (comma one acc) := by
  cases one
  · exact soft_putB acc [44]
  · exact .inl ⟨acc, rfl⟩
theorem soft_elems {p : Pr} : ∀ (l : List J) (one : Bool) (acc : List UInt8), (∀ x ∈ l, ∀ a, Soft (p x a)) → Soft (elemsP p one l acc)
  | [], one, acc, h => .inl ⟨acc, rfl⟩
  | x :: r, one, acc, h => by
    unfold elemsP
    exact soft_bnd (soft_comma one acc) fun a => soft_bnd (h x (by simp) a) fun b => soft_elems r false b fun y hy => h y (by simp [hy])
theorem soft_pairs {p : Pr} : ∀ (ks : List ByteArray) (l : List J) (one : Bool) (acc : List UInt8), (∀ x ∈ l, ∀ a, Soft (p x a)) → Soft (pairsP p one ks l acc)
  | [], l, one, acc, h => by unfold pairsP; exact .inl ⟨acc, rfl⟩
  | k :: ks, [], one, acc, h => by unfold pairsP; exact .inl ⟨acc, rfl⟩
  | k :: ks, x :: r, one, acc, h => by
    unfold pairsP
    exact soft_bnd (soft_comma one acc) fun a => soft_bnd (soft_putB _ _) fun b => soft_bnd (soft_putB _ _) fun c => soft_bnd (h x (by simp) c) fun d => soft_pairs ks r false d fun y hy => h y (by simp [hy])
theorem cleanF_soft {sub : Option (J → Prop)} {sp : Option Pr} (h : ∀ f, sub = some f → ∃ p, sp = some p ∧ ∀ x, f x → ∀ a, Soft (p x a)) {u : J} (hu : CleanF sub u) (acc : List UInt8) : Soft (prF sp u acc) := by
  cases hu with
  | null => exact soft_putB _ _
  | bool b => exact soft_putB _ _
  | int n h0 h1 => exact soft_putB _ _
  | text s hv hz =>
    have hvb : validB s = true := by unfold validB; simp [hv]
    unfold prF jText
    simp only [hvb, if_true]
    exact soft_putB _ _
  | list f l hs hl hx =>
    obtain ⟨p, rfl, hp⟩ := h f hs
    show Soft (listP p l acc)
    unfold listP
    exact soft_bnd (soft_putB _ _) fun a => soft_bnd (soft_elems l true a fun x hm => hp x (hx x hm)) fun b => soft_putB _ _
  | obj f ks l hs hkl hl hv hun hx =>
    obtain ⟨p, rfl, hp⟩ := h f hs
    have hko : keysOk ks l = true := by
      unfold keysOk
      rw [decide_eq_true hkl, hun]
      simp only [Bool.true_and, Bool.and_true, List.all_eq_true]
      intro k hk
      unfold validB
      simp [(hv k hk).1]
    unfold prF jObj
    simp only [hko, if_true]
    unfold objP
    exact soft_bnd (soft_putB _ _) fun a => soft_bnd (soft_pairs ks l true a fun x hm => hp x (hx x hm)) fun b => soft_putB _ _
theorem clean_soft : ∀ (d : Nat) (u : J), CleanN d u → ∀ a, Soft (prN d u a)
  | 0, u, h, a => cleanF_soft (sp := none) (fun f e => by cases e) h a
  | d + 1, u, h, a => cleanF_soft (sp := some (prN d)) (fun f e => by cases e; exact ⟨_, rfl, fun x hx => clean_soft d x hx⟩) h a

/-! ### the parser makes such values -/
theorem rr_one (b : UInt8) (h : b.toNat < 128) : (rr [b] 0).2 = (1 : Nat) := by
  rw [rr_low (l := [b]) (i := 0) (by simp) (by simpa [pk] using h)]
  rfl
theorem short_low {c b : UInt8} (h : short c = some b) : b.toNat < 128 := by
  unfold short at h
  split at h <;> simp at h <;> (subst h; decide)
theorem esc_rune {L : List UInt8} {i k : Nat} {bs : List UInt8} (h : escAt L i = .ok (bs, k)) : 0 < bs.length ∧ bs.length ≤ 4 ∧ (rr bs 0).2 = bs.length := by
  unfold escAt at h
  split at h
  · simp at h
  · rename_i c hc
    split at h
    · rename_i b hb
      simp only [Except.ok.injEq, Prod.mk.injEq] at h
      obtain ⟨rfl, _⟩ := h
      exact ⟨by simp, by simp, rr_one b (short_low hb)⟩
    · split at h
      · simp at h
      · split at h
        · simp at h
        · rename_i r hr
          have he : ∀ n : Nat, isRune n = true → 0 < (enc n).length ∧ (enc n).length ≤ 4 ∧ (rr (enc n) 0).2 = (enc n).length := fun n hn => ⟨enc_pos n, enc_le n, by rw [rr_enc n hn]⟩
          split at h
          · rename_i hsur
            split at h
            · simp at h
            · rename_i low hlow
              split at h
              · simp at h
              · simp only [Except.ok.injEq, Prod.mk.injEq] at h
                obtain ⟨rfl, _⟩ := h
                exact he _ (by unfold isRune; rw [decide_eq_true_eq]; omega)
          · split at h
            · rename_i hir
              simp only [Except.ok.injEq, Prod.mk.injEq] at h
              obtain ⟨rfl, _⟩ := h
              exact he _ hir
            · simp at h
theorem text_valid {L : List UInt8} : ∀ (f i : Nat) (acc : List UInt8) (bs : List UInt8) (k : Nat), textAt L f i acc = .ok (bs, k) → first acc = -1 → first bs = -1 ∧ bs.length ≤ acc.length + 4 * f
  | 0, i, acc, bs, k, h, _ => by simp [textAt] at h
  | f + 1, i, acc, bs, k, h, ha => by
    unfold textAt at h
    split at h
    · simp at h
    · rename_i h0
      split at h
      · simp only [Except.ok.injEq, Prod.mk.injEq] at h
        obtain ⟨rfl, _⟩ := h
        exact ⟨ha, by omega⟩
      · split at h
        · split at h
          · simp at h
          · rename_i bs' k' hE
            obtain ⟨e0, e4, er⟩ := esc_rune hE
            have := text_valid f k' _ bs k h (first_more ha e0 er)
            rw [List.length_append] at this
            omega
        · have hne : (rr L i).2 ≠ 0 := fun e => h0 (.inl e)
          have hp := (rr_le L i).1
          have h4 := (rr_le L i).2
          have hin := rr_in L i hne
          obtain ⟨n, hn⟩ : ∃ n : Nat, (rr L i).2 = n := ⟨(rr L i).2.toNat, by omega⟩
          have hr : rr L i = rr (L.drop i) 0 := by
            conv => lhs; rw [← List.take_append_drop i L]
            exact rrL rfl (by rw [List.length_take]; omega)
          rw [hn] at h
          have hnn : ((n : Nat) : Int).toNat = n := by omega
          rw [hnn] at h
          have hlen : ((L.drop i).take n).length = n := by rw [List.length_take, List.length_drop]; omega
          have ht := rr_take (L.drop i) [] (n := n) (by rw [← hr]; exact hn) (by omega)
          rw [List.append_nil] at ht
          have := text_valid f _ _ bs k h (first_more ha (by omega) (by rw [ht, ← hr, hn, hlen]))
          rw [List.length_append, hlen] at this
          omega
theorem textOf_valid {L : List UInt8} (hL : L.length ≤ 65536) {i k : Nat} {bs : List UInt8} (h : textOf L i = .ok (bs, k)) : first bs = -1 ∧ bs.length ≤ 140737488351232 := by
  have := text_valid _ _ _ _ _ h first_nil
  simp only [List.length_nil] at this
  exact ⟨this.1, by omega⟩
theorem unlike_snoc : ∀ (ks seen : List ByteArray) (k : ByteArray), unlike seen ks = true → seenB (seen ++ ks) k = false → unlike seen (ks ++ [k]) = true
  | [], seen, k, h, hk => by
    rw [List.append_nil] at hk
    show (if seenB seen k then false else unlike (seen ++ [k]) []) = true
    rw [hk]; rfl
  | q :: ks, seen, k, h, hk => by
    have h : (if seenB seen q then false else unlike (seen ++ [q]) ks) = true := h
    show (if seenB seen q then false else unlike (seen ++ [q]) (ks ++ [k])) = true
    cases hq : seenB seen q with
    | true => rw [hq] at h; simp at h
    | false =>
      rw [hq] at h
      simp only [Bool.false_eq_true, if_false] at h ⊢
      exact unlike_snoc ks (seen ++ [q]) k h (by simpa using hk)

theorem list_clean {L : List UInt8} {g : Nat → Rd J} {f : J → Prop} (hg : ∀ i u k, g i = .ok (u, k) → f u) : ∀ (n i : Nat) (acc : List J) (j : J) (k : Nat), listAt L g n i acc = .ok (j, k) → (∀ x ∈ acc, f x) →
    ∃ l, j = jList l ∧ (∀ x ∈ l, f x) ∧ l.length ≤ acc.length + n
  | 0, i, acc, j, k, h, _ => by simp [listAt] at h
  | n + 1, i, acc, j, k, h, ha => by
    unfold listAt at h
    split at h
    · simp at h
    · rename_i x p hx
      have hacc : ∀ y ∈ acc ++ [x], f y := fun y hy => by
        rcases List.mem_append.1 hy with h' | h'
        · exact ha y h'
        · simp only [List.mem_singleton] at h'
          subst h'
          exact hg _ _ _ hx
      split at h
      · simp only [Except.ok.injEq, Prod.mk.injEq] at h
        exact ⟨_, h.1.symm, hacc, by simp <;> omega⟩
      · split at h
        · obtain ⟨l, h1, h2, h3⟩ := list_clean hg n _ _ j k h hacc
          exact ⟨l, h1, h2, by simp at h3; omega⟩
        · simp at h
theorem obj_clean {L : List UInt8} (hL : L.length ≤ 65536) {g : Nat → Rd J} {f : J → Prop} (hg : ∀ i u k, g i = .ok (u, k) → f u) : ∀ (n i : Nat) (ks : List ByteArray) (acc : List J) (j : J) (k : Nat), objAt L g n i ks acc = .ok (j, k) →
    (∀ x ∈ acc, f x) → ks.length = acc.length → (∀ q ∈ ks, first q.data.toList = -1 ∧ q.size ≤ 140737488351232) → unlike [] ks = true →
    ∃ ks' l, j = jObj ks' l ∧ (∀ x ∈ l, f x) ∧ ks'.length = l.length ∧ (∀ q ∈ ks', first q.data.toList = -1 ∧ q.size ≤ 140737488351232) ∧ unlike [] ks' = true ∧ l.length ≤ acc.length + n
  | 0, i, ks, acc, j, k, h, _, _, _, _ => by simp [objAt] at h
  | n + 1, i, ks, acc, j, k, h, ha, hkl, hkv, hku => by
    unfold objAt at h
    split at h
    · split at h
      · simp at h
      · rename_i key i2 hkey
        obtain ⟨v1, v2⟩ := textOf_valid hL hkey
        split at h
        · simp at h
        · rename_i hdup
          split at h
          · split at h
            · simp at h
            · rename_i x i3 hx
              have hacc : ∀ y ∈ acc ++ [x], f y := fun y hy => by
                rcases List.mem_append.1 hy with h' | h'
                · exact ha y h'
                · simp only [List.mem_singleton] at h'
                  subst h'
                  exact hg _ _ _ hx
              have hks : ∀ q ∈ ks ++ [(⟨key.toArray⟩ : ByteArray)], first q.data.toList = -1 ∧ q.size ≤ 140737488351232 := fun q hq => by
                rcases List.mem_append.1 hq with h' | h'
                · exact hkv q h'
                · simp only [List.mem_singleton] at h'
                  subst h'
                  exact ⟨by simpa using v1, by simpa [ByteArray.size] using v2⟩
              have hun : unlike [] (ks ++ [(⟨key.toArray⟩ : ByteArray)]) = true := unlike_snoc ks [] _ hku (by
                rw [List.nil_append]
                unfold seenB
                simpa using hdup)
              split at h
              · simp only [Except.ok.injEq, Prod.mk.injEq] at h
                exact ⟨_, _, h.1.symm, hacc, by simp [hkl], hks, hun, by simp <;> omega⟩
              · split at h
                · obtain ⟨ks', l, h1, h2, h3, h4, h5, h6⟩ := obj_clean hL hg n _ _ _ j k h hacc (by simp [hkl]) hks hun
                  exact ⟨ks', l, h1, h2, h3, h4, h5, by simp at h6; omega⟩
                · simp at h
          · simp at h
    · simp at h
theorem numD_range {l : List UInt8} {i k : Nat} {n : Int} (h : numD l i = .ok (n, k)) : -9223372036854775808 ≤ n ∧ n ≤ 9223372036854775807 := by
  unfold numD at h
  by_cases hm : pk l i = 45
  · rw [show (pk l i == 45) = true by simpa using hm] at h
    simp only [if_true] at h
    split at h
    · simp at h
    · split at h
      · simp at h
      · simp only [Except.ok.injEq, Prod.mk.injEq] at h
        omega
  · rw [show (pk l i == 45) = false by simpa using hm] at h
    simp only [Bool.false_eq_true, if_false] at h
    split at h
    · simp only [Except.ok.injEq, Prod.mk.injEq] at h
      omega
    · split at h
      · simp at h
      · simp only [Except.ok.injEq, Prod.mk.injEq] at h
        omega
theorem val_cleanF {L : List UInt8} (hL : L.length ≤ 65536) (sub' : Option (J → Prop)) (sub : Option (Nat → Rd J)) (hs : ∀ g, sub = some g → ∃ f, sub' = some f ∧ ∀ i u k, g i = .ok (u, k) → f u) {i : Nat} {u : J} {k : Nat}
    (h : valP numD L sub i = .ok (u, k)) : CleanF sub' u := by
  unfold valP at h
  split at h
  · cases sub with
    | none => simp at h
    | some g =>
      obtain ⟨f, rfl, hf⟩ := hs g rfl
      simp only at h
      split at h
      · simp only [Except.ok.injEq, Prod.mk.injEq] at h
        rw [← h.1]
        exact .list f [] rfl (by simp) (fun x hx => by simp at hx)
      · obtain ⟨l, rfl, h2, h3⟩ := list_clean hf _ _ _ _ _ h (fun x hx => by simp at hx)
        exact .list f l rfl (by simp at h3; omega) h2
  · split at h
    · cases sub with
      | none => simp at h
      | some g =>
        obtain ⟨f, rfl, hf⟩ := hs g rfl
        simp only at h
        split at h
        · simp only [Except.ok.injEq, Prod.mk.injEq] at h
          rw [← h.1]
          exact .obj f [] [] rfl rfl (by simp) (fun x hx => by simp at hx) rfl (fun x hx => by simp at hx)
        · obtain ⟨ks', l, rfl, h2, h3, h4, h5, h6⟩ := obj_clean hL hf _ _ _ _ _ _ h (fun x hx => by simp at hx) rfl (fun x hx => by simp at hx) rfl
          exact .obj f ks' l rfl h3 (by simp at h6; omega) h4 h5 h2
    · split at h
      · split at h
        · simp at h
        · rename_i t k' ht
          obtain ⟨v1, v2⟩ := textOf_valid hL ht
          simp only [Except.ok.injEq, Prod.mk.injEq] at h
          rw [← h.1]
          exact .text _ (by simpa using v1) (by simpa [ByteArray.size] using v2)
      · split at h
        · split at h
          · simp only [Except.ok.injEq, Prod.mk.injEq] at h
            rw [← h.1]; exact .null
          · simp at h
        · split at h
          · split at h
            · simp only [Except.ok.injEq, Prod.mk.injEq] at h
              rw [← h.1]; exact .bool true
            · simp at h
          · split at h
            · split at h
              · simp only [Except.ok.injEq, Prod.mk.injEq] at h
                rw [← h.1]; exact .bool false
              · simp at h
            · split at h
              · simp at h
              · rename_i n k' hn
                obtain ⟨r0, r1⟩ := numD_range hn
                simp only [Except.ok.injEq, Prod.mk.injEq] at h
                rw [← h.1]; exact .int n r0 r1
theorem val_clean {L : List UInt8} (hL : L.length ≤ 65536) : ∀ (d i : Nat) (u : J) (k : Nat), valN numD L d i = .ok (u, k) → CleanN d u
  | 0, i, u, k, h => val_cleanF hL none none (fun g e => by cases e) h
  | d + 1, i, u, k, h => val_cleanF hL (some (CleanN d)) (some (valN numD L d)) (fun g e => by cases e; exact ⟨_, rfl, fun i u k hh => val_clean hL d i u k hh⟩) h
theorem parse_clean {L : List UInt8} {u : J} (h : parseN numD L = .ok u) : CleanN 16 u := by
  unfold parseN at h
  split at h
  · simp at h
  · rename_i hl
    split at h
    · simp at h
    · rename_i j i hv
      split at h
      · simp only [Except.ok.injEq] at h
        subst h
        unfold valW at hv
        split at hv
        · simp at hv
        · rename_i j' k' hv'
          simp only [Except.ok.injEq, Prod.mk.injEq] at hv
          rw [← hv.1]
          exact val_clean (by omega) 16 _ _ _ hv'
      · simp at h
/-- What is parsed is printed, or too long; printed, it is parsed alike. -/
theorem parse_back {L : List UInt8} {u : J} (h : parseN numD L = .ok u) : JSm u ∧ (printN u = .error 302 ∨ ∃ t, printN u = .ok t ∧ parseN numD t = .ok u) := by
  have hc := parse_clean h
  have hs := clean_sm 16 u hc
  refine ⟨hs, ?_⟩
  rcases clean_soft 16 u hc [] with ⟨t, ht⟩ | hx
  · have ht : printN u = .ok t := ht
    exact .inr ⟨t, ht, by rw [print_back hs ht, clean_used 16 u hc]⟩
  · exact .inl hx
end Go.Proofs.YtcobadgpelhcoaaDoor

namespace Go.Proofs.YtcobadgpelhcoaaDoor
set_option linter.unusedVariables false
set_option linter.unusedSimpArgs false

/-- One of three errors, if any. -/
def E3 {α : Type} (r : Except Int α) : Prop := ∀ c, r = .error c → c = 300 ∨ c = 301 ∨ c = 302
theorem E3.ok {α : Type} (a : α) : E3 (.ok a : Except Int α) := fun c h => by simp at h
theorem E3.e0 {α : Type} : E3 (.error 300 : Except Int α) := fun c h => by simp at h; omega
theorem E3.e1 {α : Type} : E3 (.error 301 : Except Int α) := fun c h => by simp at h; omega
theorem E3.e2 {α : Type} : E3 (.error 302 : Except Int α) := fun c h => by simp at h; omega
theorem E3.err {α β : Type} {e : Int} (h : E3 (.error e : Except Int α)) : E3 (.error e : Except Int β) := fun c hc => by
  simp only [Except.error.injEq] at hc
  subst hc
  exact h e rfl
theorem e3_putB (acc bs : List UInt8) : E3 (putB acc bs) := by
  unfold putB
  split
  · exact .e2
  · exact .ok _
theorem e3_bnd {α β : Type} {r : Except Int α} {f : α → Except Int β} (h : E3 r) (hf : ∀ a, E3 (f a)) : E3 (bnd r f) := by
  cases r with
  | error e => exact h.err
  | ok a => exact hf a
theorem e3_comma (one : Bool) (acc : List UInt8) : E3 (comma one acc) := by
  cases one
  · exact e3_putB acc [44]
  · exact .ok acc
theorem e3_elems {p : Pr} (h : ∀ x a, E3 (p x a)) : ∀ (l : List J) (one : Bool) (acc : List UInt8), E3 (elemsP p one l acc)
  | [], one, acc => .ok acc
  | x :: r, one, acc => by
    unfold elemsP
    exact e3_bnd (e3_comma one acc) fun a => e3_bnd (h x a) fun b => e3_elems h r false b
theorem e3_pairs {p : Pr} (h : ∀ x a, E3 (p x a)) : ∀ (ks : List ByteArray) (l : List J) (one : Bool) (acc : List UInt8), E3 (pairsP p one ks l acc)
  | [], l, one, acc => by unfold pairsP; exact .ok acc
  | k :: ks, [], one, acc => by unfold pairsP; exact .ok acc
  | k :: ks, x :: r, one, acc => by
    unfold pairsP
    exact e3_bnd (e3_comma one acc) fun a => e3_bnd (e3_putB _ _) fun b => e3_bnd (e3_putB _ _) fun c => e3_bnd (h x c) fun d => e3_pairs h ks r false d
theorem e3_prF (sub : Option Pr) (h : ∀ p, sub = some p → ∀ x a, E3 (p x a)) (j : J) (acc : List UInt8) : E3 (prF sub j acc) := by
  obtain ⟨k, b, n, s, l, ks⟩ := j
  unfold prF
  dsimp only
  repeat' split
  all_goals first
    | exact e3_putB _ _
    | exact .e0
    | exact .e1
    | (unfold listP; exact e3_bnd (e3_putB _ _) fun a => e3_bnd (e3_elems (h _ rfl) l true a) fun b => e3_putB _ _)
    | (unfold objP; exact e3_bnd (e3_putB _ _) fun a => e3_bnd (e3_pairs (h _ rfl) ks l true a) fun b => e3_putB _ _)
theorem e3_prN : ∀ d (j : J) (acc : List UInt8), E3 (prN d j acc)
  | 0, j, acc => e3_prF none (fun p e => by cases e) j acc
  | d + 1, j, acc => e3_prF (some (prN d)) (fun p e => by cases e; exact e3_prN d) j acc
theorem e3_print (j : J) : E3 (printN j) := e3_prN 16 j []

theorem e3_esc (L : List UInt8) (i : Nat) : E3 (escAt L i) := by
  unfold escAt
  repeat' split
  all_goals first | exact .e0 | exact .ok _
theorem e3_text (L : List UInt8) : ∀ (f i : Nat) (acc : List UInt8), E3 (textAt L f i acc)
  | 0, i, acc => .e0
  | f + 1, i, acc => by
    unfold textAt
    split
    · exact .e0
    · split
      · exact .ok _
      · split
        · have he := e3_esc L (i + 1)
          cases hE : escAt L (i + 1) with
          | error e => rw [hE] at he; exact he.err
          | ok r => obtain ⟨bs, k⟩ := r; exact e3_text L f _ _
        · exact e3_text L f _ _
theorem e3_textOf (L : List UInt8) (i : Nat) : E3 (textOf L i) := e3_text L _ _ _
theorem e3_list {L : List UInt8} {g : Nat → Rd J} (h : ∀ i, E3 (g i)) : ∀ (n i : Nat) (acc : List J), E3 (listAt L g n i acc)
  | 0, i, acc => .e0
  | n + 1, i, acc => by
    unfold listAt
    have he := h (skipW L i)
    cases hE : g (skipW L i) with
    | error e => rw [hE] at he; exact he.err
    | ok r =>
      obtain ⟨j, k⟩ := r
      dsimp only
      split
      · exact .ok _
      · split
        · exact e3_list h n _ _
        · exact .e0
theorem e3_obj {L : List UInt8} {g : Nat → Rd J} (h : ∀ i, E3 (g i)) : ∀ (n i : Nat) (ks : List ByteArray) (acc : List J), E3 (objAt L g n i ks acc)
  | 0, i, ks, acc => .e0
  | n + 1, i, ks, acc => by
    unfold objAt
    split
    · have he := e3_textOf L (skipW L i)
      cases hE : textOf L (skipW L i) with
      | error e => rw [hE] at he; exact he.err
      | ok r =>
        obtain ⟨key, i2⟩ := r
        dsimp only
        split
        · exact .e0
        · split
          · have he := h (skipW L (skipW L i2 + 1))
            cases hE : g (skipW L (skipW L i2 + 1)) with
            | error e => rw [hE] at he; exact he.err
            | ok r =>
              obtain ⟨x, i3⟩ := r
              dsimp only
              split
              · exact .ok _
              · split
                · exact e3_obj h n _ _ _
                · exact .e0
          · exact .e0
    · exact .e0
theorem e3_num (L : List UInt8) (i : Nat) : E3 (numD L i) := by
  unfold numD
  dsimp only
  repeat' split
  all_goals first | exact .e0 | exact .ok _
theorem e3_valP (L : List UInt8) (sub : Option (Nat → Rd J)) (h : ∀ g, sub = some g → ∀ i, E3 (g i)) (i : Nat) : E3 (valP numD L sub i) := by
  have ht := e3_textOf L i
  have hn := e3_num L i
  unfold valP
  split
  · cases sub with
    | none => exact .e1
    | some g =>
      dsimp only
      split
      · exact .ok _
      · exact e3_list (h g rfl) _ _ _
  · split
    · cases sub with
      | none => exact .e1
      | some g =>
        dsimp only
        split
        · exact .ok _
        · exact e3_obj (h g rfl) _ _ _ _
    · split
      · cases hE : textOf L i with
        | error e => rw [hE] at ht; exact ht.err
        | ok r => exact .ok _
      · repeat' split
        all_goals first
          | exact .e0
          | exact .ok _
          | (rename_i e hE; rw [hE] at hn; exact hn.err)
theorem e3_val (L : List UInt8) : ∀ (d i : Nat), E3 (valN numD L d i)
  | 0, i => e3_valP L none (fun g e => by cases e) i
  | d + 1, i => e3_valP L (some (valN numD L d)) (fun g e => by cases e; exact e3_val L d) i
theorem e3_parse (L : List UInt8) : E3 (parseN numD L) := by
  unfold parseN
  split
  · exact .e2
  · have he := e3_val L 16 (skipW L 0)
    unfold valW
    cases hE : valN numD L 16 (skipW L 0) with
    | error e => rw [hE] at he; exact he.err
    | ok r =>
      dsimp only
      split
      · exact .ok _
      · exact .e0
end Go.Proofs.YtcobadgpelhcoaaDoor
