/- The program's changes of a schema: what each makes of one that is its own. -/
import Derived.Test.YthfakpekdjmpjaaSchC
import Derived.Test.YthfakpekdjmpjaaSchD
import Derived.Deep.RegionLaw
namespace Go.Proofs.Ythfakpekdjmpjaa
open Go.Conc Go.RowKit
set_option linter.unusedVariables false
set_option linter.unusedSimpArgs false

def addP (s : Sc) (nm : ByteArray) (k : Int) : Sc × Int :=
  if nameB nm = false ∨ 0 ≤ findA s.cs nm then (zeroSc, 1201) else if kindB k = false then (zeroSc, 1200) else if s.cs.length = 12 then (zeroSc, 1203) else (⟨s.id, s.next + 1, s.cs ++ [⟨s.next, nm, k⟩]⟩, 0)
def dropP (s : Sc) (nm : ByteArray) : Sc × Int :=
  if findA s.cs nm < 0 then (zeroSc, 1202) else if s.cs.length = 1 then (zeroSc, 1203) else (⟨s.id, s.next, s.cs.eraseIdx (findN s.cs nm)⟩, 0)
def renP (s : Sc) (nm to : ByteArray) : Sc × Int :=
  if findA s.cs nm < 0 then (zeroSc, 1202) else if nameB to = false ∨ (0 ≤ findA s.cs to ∧ findA s.cs to ≠ findA s.cs nm) then (zeroSc, 1201) else (⟨s.id, s.next, s.cs.set (findN s.cs nm) (named (s.cs.getD (findN s.cs nm) zeroCo) to)⟩, 0)
def changedA (s : Sc) (r : Sc × Int) : Sc × Int :=
  if maySc s = false then (zeroSc, 1200) else if r.2 ≠ 0 then (zeroSc, r.2) else if maySc ⟨r.1.id + 1, r.1.next, r.1.cs⟩ = false then (zeroSc, 1200) else (⟨r.1.id + 1, r.1.next, r.1.cs⟩, 0)
theorem changed_add (s : Sc) (nm : ByteArray) (k : Int) : changedA s (addP s nm k) = addA s nm k := by
  unfold changedA addA
  cases hm : maySc s with
  | false => rfl
  | true =>
    simp only [Bool.true_eq_false, ↓reduceIte]
    unfold addP
    by_cases h1 : nameB nm = false ∨ 0 ≤ findA s.cs nm
    · rw [if_pos h1, if_pos h1]; rfl
    rw [if_neg h1, if_neg h1]
    by_cases h2 : kindB k = false
    · rw [if_pos h2, if_pos h2]; rfl
    rw [if_neg h2, if_neg h2]
    have hb := ((may_iff s).1 hm).1
    by_cases h3 : s.cs.length = 12
    · rw [if_pos h3, if_pos (show 12 ≤ s.cs.length by omega)]; rfl
    rw [if_neg h3, if_neg (show ¬ 12 ≤ s.cs.length by omega)]
    simp only [not_or, Bool.not_eq_false, Int.not_le] at h1 h2
    have := may_add hm h1.1 h1.2 h2 (by omega)
    rw [if_neg (by simp)]
    simp only
    rw [this]
    by_cases h4 : 2147483647 ≤ s.id ∨ 2147483647 ≤ s.next
    · rw [if_pos h4, if_pos (decide_eq_false (by omega))]
    · rw [if_neg h4, if_neg (by rw [decide_eq_true (by omega)]; simp)]
theorem changed_drop (s : Sc) (nm : ByteArray) : changedA s (dropP s nm) = dropA s nm := by
  unfold changedA dropA
  cases hm : maySc s with
  | false => rfl
  | true =>
    simp only [Bool.true_eq_false, ↓reduceIte]
    unfold dropP
    by_cases h1 : findA s.cs nm < 0
    · rw [if_pos h1, if_pos h1]; rfl
    rw [if_neg h1, if_neg h1]
    by_cases h2 : s.cs.length = 1
    · rw [if_pos h2, if_pos h2]; rfl
    rw [if_neg h2, if_neg h2]
    obtain ⟨hl, _, _⟩ := findA_pos (Int.not_lt.1 h1)
    have := may_drop hm hl h2
    rw [if_neg (by simp)]
    simp only
    rw [this]
    by_cases h4 : 2147483647 ≤ s.id
    · rw [if_pos h4, if_pos (decide_eq_false (by omega))]
    · rw [if_neg h4, if_neg (by rw [decide_eq_true (by omega)]; simp)]
theorem changed_ren (s : Sc) (nm to : ByteArray) : changedA s (renP s nm to) = renA s nm to := by
  unfold changedA renA
  cases hm : maySc s with
  | false => rfl
  | true =>
    simp only [Bool.true_eq_false, ↓reduceIte]
    unfold renP
    by_cases h1 : findA s.cs nm < 0
    · rw [if_pos h1, if_pos h1]; rfl
    rw [if_neg h1, if_neg h1]
    by_cases h2 : nameB to = false ∨ (0 ≤ findA s.cs to ∧ findA s.cs to ≠ findA s.cs nm)
    · rw [if_pos h2, if_pos h2]; rfl
    rw [if_neg h2, if_neg h2]
    obtain ⟨hl, hk, _⟩ := findA_pos (Int.not_lt.1 h1)
    have h2a : nameB to = true := by
      cases hh : nameB to with
      | false => exact absurd (Or.inl hh) h2
      | true => rfl
    have h2b : findA s.cs to < 0 ∨ findA s.cs to = findA s.cs nm := by
      by_cases e : findA s.cs to < 0
      · exact .inl e
      · exact .inr (Classical.byContradiction fun e2 => h2 (.inr ⟨Int.not_lt.1 e, e2⟩))
    rw [getD_in hl]
    have := may_ren hm hl h2a (by rw [← hk]; exact h2b)
    rw [if_neg (by simp)]
    simp only
    rw [this]
    by_cases h4 : 2147483647 ≤ s.id
    · rw [if_pos h4, if_pos (decide_eq_false (by omega))]
    · rw [if_neg h4, if_neg (by rw [decide_eq_true (by omega)]; simp)]

/-- What a change answers, as an ending. -/
def ChPost (w : World) (base : Nat) (a : Option Addr) (r : Sc × Int) (e : Ending) (w' : World) : Prop := ∃ a' c', e = .returned (.tuple #[.agg #[.int .i64 r.1.id, .slice a' r.1.cs.length c', .int .i64 r.1.next], .int .i64 r.2]) ∧ OwnCo base w' a' c' r.1.cs ∧ Frm (At a) w w'
theorem OwnCo.named {base : Nat} {w : World} {g cap : Nat} {xs : List Co} (h : OwnCo base w (some ⟨g, 0, none⟩) cap xs) (i : Nat) (hi : i < xs.length) (to : ByteArray) : OwnCo base (w.setCell ⟨g, i * 3 + 1, none⟩ (.string to)) (some ⟨g, 0, none⟩) cap (xs.set i (named xs[i] to)) := by
  rcases h.2 with ⟨hv, _⟩ | ⟨g2, cp, cur, hv, hb, hg, hn, hm, hs, ht⟩
  · injection hv with h1; cases h1
  injection hv with h1 h2 h3
  injection h1 with h1
  injection h1 with h1
  subst h1 h3
  have hrow : rowCo (xs.set i (Go.Proofs.Ythfakpekdjmpjaa.named xs[i] to)) = (rowCo xs).set (i * 3 + 1) (.string to) := by
    have hl : i * 3 + 1 < (rowCo xs).length := by rw [rowCo_length]; omega
    refine List.ext_getElem? fun j => ?_
    by_cases hj : j < xs.length * 3
    · have e1 : j / 3 < xs.length := by omega
      have e2 := rowCo_at xs (j / 3) (j % 3) e1 (by omega)
      have e3 := rowCo_at (xs.set i (Go.Proofs.Ythfakpekdjmpjaa.named xs[i] to)) (j / 3) (j % 3) (by rw [List.length_set]; exact e1) (by omega)
      rw [show j / 3 * 3 + j % 3 = j by omega] at e2 e3
      rw [e3, List.getElem?_set, List.getElem_set]
      by_cases hij : i = j / 3
      · subst hij
        rw [if_pos rfl]
        by_cases h1 : j / 3 * 3 + 1 = j
        · rw [if_pos h1, if_pos (by rw [rowCo_length]; omega), show j % 3 = 1 by omega]
          rfl
        · rw [if_neg h1, e2]
          rcases (show j % 3 = 0 ∨ j % 3 = 2 by omega) with e | e <;> rw [e] <;> rfl
      · rw [if_neg hij, if_neg (by omega), e2]
    · rw [List.getElem?_eq_none (by rw [rowCo_length, List.length_set]; omega), List.getElem?_eq_none (by rw [List.length_set, rowCo_length]; omega)]
  refine ⟨rowCo_length _, .inr ⟨g, cap, cur.setIfInBounds (i * 3 + 1) (.string to), by rw [List.length_set], hb, heap_setCell_same _ _ _ _ _ _ hg, by rw [List.length_set]; exact hn, hm, by rw [Array.size_setIfInBounds]; exact hs, ?_⟩⟩
  rw [List.length_set, hrow, ← ht, Array.toList_setIfInBounds]
  rw [List.take_set]
theorem ch_frame3 {w u v v2 v3 w' : World} {a : Option Addr} (h1 : Below w.heap.size w u) (h2 : Below u.heap.size u v) (h4 : Frm (At a) v v2) (h5 : Frm (fun j => j = w.heap.size) v2 v3) (h3 : Frm (fun j => j = w.heap.size + 1) v3 w') : Frm (At a) w w' := by
  have k : Frm (fun j => At a j ∨ w.heap.size ≤ j) w w' := ((((Frm.of_below (h1.trans (h2.mono h1.size))).mono fun j _ e => Or.inr e).trans (h4.mono fun j _ e => Or.inl e)).trans (h5.mono fun j _ e => Or.inr (by omega))).trans (h3.mono fun j _ e => Or.inr (by omega))
  exact k.mono fun j hj e => e.elim id fun e => by omega
/-- New blocks, then one of them turned. -/
theorem ch_frame {w u v w' : World} {F : Nat → Prop} (h1 : Below w.heap.size w u) (h2 : Below u.heap.size u v) (h3 : Frm (fun j => j = w.heap.size + 1) v w') : Frm F w w' :=
  Frm.of_new (Frm.to_below (h1.trans (h2.mono h1.size)) h3 (fun k e => by omega) (Nat.le_refl _)) F
theorem ch_frame2 {w u v v2 w' : World} {a : Option Addr} (h1 : Below w.heap.size w u) (h2 : Below u.heap.size u v) (h4 : Frm (At a) v v2) (h3 : Frm (fun j => j = w.heap.size + 1) v2 w') : Frm (At a) w w' := by
  have k : Frm (fun j => At a j ∨ w.heap.size ≤ j) w w' := (((Frm.of_below (h1.trans (h2.mono h1.size))).mono fun j _ e => Or.inr e).trans (h4.mono fun j _ e => Or.inl e)).trans (h3.mono fun j _ e => Or.inr (by omega))
  exact k.mono fun j hj e => e.elim id fun e => by omega
theorem own_off {base g c c0 : Nat} {w w' : World} {a a0 : Option Addr} {cs : List Co} {s0 : Sc} (h : OwnCo base w a c cs) (hs : ScSlot w g a0 c0 s0) (hf : Frm (fun j => j = g) w w') : OwnCo base w' a c cs := h.frm hf fun j hj _ e => by
  subst e
  obtain ⟨cur, hc⟩ := own_tyS h hj
  rw [hs.b] at hc
  injection hc with hc
  injection hc with _ hc _
  exact absurd hc (by decide)
set_option maxRecDepth 100000 in
set_option maxHeartbeats 2000000 in
theorem schaddc_any (w : World) (base : Nat) (a : Option Addr) (c : Nat) (s : Sc) (nb kb : Nat) (nm : ByteArray) (k : Int) (h : OwnCo base w a c s.cs) (hb : base ≤ w.heap.size) (hl : s.cs.length ≤ 12) (hn : -9223372036854775808 ≤ s.next ∧ s.next < 9223372036854775807) (hpn : w.cell? ⟨nb, 0, none⟩ = some (.string nm)) (hpk : w.cell? ⟨kb, 0, none⟩ = some (.int .i64 k)) :
    Calls Try.prog 51 #[.agg #[.int .i64 s.id, .slice a s.cs.length c, .int .i64 s.next], .pointer (some ⟨nb, 0, none⟩), .pointer (some ⟨kb, 0, none⟩)] w (ChPost w base a (addP s nm k)) := by
  obtain ⟨u, hu⟩ : ∃ u, u = (w.alloc (.cells #[.int .i64 s.id, .slice a s.cs.length c, .int .i64 s.next] 24)).alloc (.cells #[.int .i64 0, .slice none 0 0, .int .i64 0] 24) := ⟨_, rfl⟩
  have hsz : (w.alloc (.cells #[.int .i64 s.id, .slice a s.cs.length c, .int .i64 s.next] 24)).heap.size = w.heap.size + 1 := by simp
  have hbu : Below w.heap.size w u := by rw [hu]; exact ((Below.refl _ _).alloc (Nat.le_refl _) _).alloc (by simp) _
  have HS := Lib.hid (show ScSlot u w.heap.size a c s by rw [hu]; exact (ScSlot.new w a c s).same (Below.heap_alloc _ _ _ (by simp)))
  have HR := Lib.hid (show ScSlot u (w.heap.size + 1) none 0 zeroSc by rw [hu, ← hsz]; exact ScSlot.new _ none 0 zeroSc)
  have HO := Lib.hid (h.below hbu)
  have HB := Lib.hid hbu
  have HBZ := Lib.hid (Nat.le_trans hb hbu.size)
  have HGT : Hid (∀ j, At a j → j < w.heap.size) := fun j hj => (h.at_ge hj).2
  have HPN : Hid (∀ v, Below u.heap.size u v → v.cell? ⟨nb, 0, none⟩ = some (.string nm) ∧ v.cell? ⟨kb, 0, none⟩ = some (.int .i64 k)) := fun v hv =>
    ⟨(World.cell?_of_block ((hbu.trans (hv.mono hbu.size)).block nb (World.block_lt_of_cell? w ⟨nb, 0, none⟩ hpn))).trans hpn, (World.cell?_of_block ((hbu.trans (hv.mono hbu.size)).block kb (World.block_lt_of_cell? w ⟨kb, 0, none⟩ hpk))).trans hpk⟩
  have TF := Lib.hid (fun (v : World) (hv : Below u.heap.size u v) (x : ByteArray) => schfind_any v a c s x (HO.out.below hv).isX (by unfold maxLen; omega))
  have TN := Lib.hid (fun v => name_any nm v)
  have TK := Lib.hid (fun v => kind_any k v)
  obtain ⟨p0, p1⟩ := HPN.out u (Below.refl _ _)
  obtain ⟨b0, b1, b2⟩ := HS.out.at
  have HE : Hid (Below u.heap.size u u) := Below.refl _ _
  have HL := Lib.hid hl
  have HNX := Lib.hid hn
  clear hbu hsz h hb hpn hpk hn
  have hl13 : s.cs.length < 13 := by omega
  clear hl
  have TFN := Lib.hid (fun (v : World) (hv : Below u.heap.size u v) => TF.out v hv nm)
  clear TF
  unfold addP
  generalize findA s.cs nm = F at *
  cases h1 : nameB nm with
  | false =>
    rw [if_pos (Or.inl rfl)]
    rw [h1] at TN
    clear h1
    go_enter Try.func51, Try.ntmps51
    go_upto_region 1 with fail
    change Code.wp _ _ _ _ ((w.alloc (.cells #[.int .i64 s.id, .slice a s.cs.length c, .int .i64 s.next] 24)).alloc (.cells #[.int .i64 0, .slice none 0 0, .int .i64 0] 24))
    rw [← hu]
    clear hu
    go_upto_region 2 with (go_at_call 52; refine (TN.out _).mono ?_; rintro e w9 ⟨rfl, rfl⟩)
    obtain ⟨z0, z1, z2⟩ := (HR.out.below HE.out).at
    obtain ⟨y0, y1, y2⟩ := (HR.out.below HE.out).froz
    simp only [zeroSc] at z0 z1 z2
    go_wp2
    change bodyPost _ _ _ _ _ (putSc u (w.heap.size + 1) none 0 zeroSc)
    have hp := (HR.out.below HE.out).put none 0 zeroSc
    have hpf := putSc_frm (g := w.heap.size + 1) (F := fun j => j = w.heap.size + 1) rfl u none 0 zeroSc
    generalize putSc u (w.heap.size + 1) none 0 zeroSc = w99 at *
    obtain ⟨b0, b1, b2⟩ := hp.at
    simp only [zeroSc] at b0 b1 b2
    clear z0 z1 z2 y0 y1 y2
    refine bodyPost_ret (v := .tuple #[.agg #[.int .i64 0, .slice none 0 0, .int .i64 0], .int .i64 1201]) (by simp [results, Try.results51, go_sem, b0, b1, b2]) rfl ?_
    exact ⟨none, 0, rfl, OwnCo.nil _ _, ch_frame HB.out (HE.out) hpf⟩
  | true =>
    rw [h1] at TN
    by_cases h2 : 0 ≤ F
    · rw [if_pos (Or.inr h2)]
      have d2 : decide ((0 : Int) ≤ F) = true := decide_eq_true h2
      clear h1 h2
      go_enter Try.func51, Try.ntmps51
      go_upto_region 1 with fail
      change Code.wp _ _ _ _ ((w.alloc (.cells #[.int .i64 s.id, .slice a s.cs.length c, .int .i64 s.next] 24)).alloc (.cells #[.int .i64 0, .slice none 0 0, .int .i64 0] 24))
      rw [← hu]
      clear hu
      go_upto_region 2 with (first | (go_at_call 52; refine (TN.out _).mono ?_; rintro e w9 ⟨rfl, rfl⟩) | (go_at_call 26; refine (TFN.out _ (Below.refl _ _)).mono ?_; rintro e w2 ⟨rfl, hb2⟩; have HB2 := Lib.hid hb2; clear hb2))
      obtain ⟨z0, z1, z2⟩ := (HR.out.below HB2.out).at
      obtain ⟨y0, y1, y2⟩ := (HR.out.below HB2.out).froz
      simp only [zeroSc] at z0 z1 z2
      go_wp2
      change bodyPost _ _ _ _ _ (putSc w2 (w.heap.size + 1) none 0 zeroSc)
      have hp := (HR.out.below HB2.out).put none 0 zeroSc
      have hpf := putSc_frm (g := w.heap.size + 1) (F := fun j => j = w.heap.size + 1) rfl w2 none 0 zeroSc
      generalize putSc w2 (w.heap.size + 1) none 0 zeroSc = w99 at *
      obtain ⟨b0, b1, b2⟩ := hp.at
      simp only [zeroSc] at b0 b1 b2
      clear z0 z1 z2 y0 y1 y2
      refine bodyPost_ret (v := .tuple #[.agg #[.int .i64 0, .slice none 0 0, .int .i64 0], .int .i64 1201]) (by simp [results, Try.results51, go_sem, b0, b1, b2]) rfl ?_
      exact ⟨none, 0, rfl, OwnCo.nil _ _, ch_frame HB.out (HB2.out) hpf⟩
    · rw [if_neg (fun e => e.elim (fun e => by cases e) h2)]
      have d2 : decide ((0 : Int) ≤ F) = false := decide_eq_false h2
      clear h1 h2
      cases h3 : kindB k with
      | false =>
        rw [if_pos rfl]
        rw [h3] at TK
        clear h3
        go_enter Try.func51, Try.ntmps51
        go_upto_region 1 with fail
        change Code.wp _ _ _ _ ((w.alloc (.cells #[.int .i64 s.id, .slice a s.cs.length c, .int .i64 s.next] 24)).alloc (.cells #[.int .i64 0, .slice none 0 0, .int .i64 0] 24))
        rw [← hu]
        clear hu
        go_upto_region 3 with (first | (go_at_call 52; refine (TN.out _).mono ?_; rintro e w9 ⟨rfl, rfl⟩) | (go_at_call 26; refine (TFN.out _ (Below.refl _ _)).mono ?_; rintro e w2 ⟨rfl, hb2⟩; have HB2 := Lib.hid hb2; clear hb2))
        clear p0 p1 b0 b1 b2
        obtain ⟨p0, p1⟩ := HPN.out w2 HB2.out
        go_upto_region 4 with (go_at_call 53; refine (TK.out _).mono ?_; rintro e w9 ⟨rfl, rfl⟩)
        obtain ⟨z0, z1, z2⟩ := (HR.out.below HB2.out).at
        obtain ⟨y0, y1, y2⟩ := (HR.out.below HB2.out).froz
        simp only [zeroSc] at z0 z1 z2
        go_wp2
        change bodyPost _ _ _ _ _ (putSc w2 (w.heap.size + 1) none 0 zeroSc)
        have hp := (HR.out.below HB2.out).put none 0 zeroSc
        have hpf := putSc_frm (g := w.heap.size + 1) (F := fun j => j = w.heap.size + 1) rfl w2 none 0 zeroSc
        generalize putSc w2 (w.heap.size + 1) none 0 zeroSc = w99 at *
        obtain ⟨b0, b1, b2⟩ := hp.at
        simp only [zeroSc] at b0 b1 b2
        clear z0 z1 z2 y0 y1 y2
        refine bodyPost_ret (v := .tuple #[.agg #[.int .i64 0, .slice none 0 0, .int .i64 0], .int .i64 1200]) (by simp [results, Try.results51, go_sem, b0, b1, b2]) rfl ?_
        exact ⟨none, 0, rfl, OwnCo.nil _ _, ch_frame HB.out (HB2.out) hpf⟩
      | true =>
        rw [if_neg (by simp)]
        rw [h3] at TK
        clear h3
        by_cases h4 : s.cs.length = 12
        · rw [if_pos h4]
          have d4 : ((s.cs.length : Int) == 12) = true := by rw [h4]; rfl
          clear h4
          go_enter Try.func51, Try.ntmps51
          go_upto_region 1 with fail
          change Code.wp _ _ _ _ ((w.alloc (.cells #[.int .i64 s.id, .slice a s.cs.length c, .int .i64 s.next] 24)).alloc (.cells #[.int .i64 0, .slice none 0 0, .int .i64 0] 24))
          rw [← hu]
          clear hu
          go_upto_region 3 with (first | (go_at_call 52; refine (TN.out _).mono ?_; rintro e w9 ⟨rfl, rfl⟩) | (go_at_call 26; refine (TFN.out _ (Below.refl _ _)).mono ?_; rintro e w2 ⟨rfl, hb2⟩; have HB2 := Lib.hid hb2; clear hb2))
          clear p0 p1 b0 b1 b2
          obtain ⟨p0, p1⟩ := HPN.out w2 HB2.out
          obtain ⟨b0, b1, b2⟩ := (HS.out.below HB2.out).at
          go_upto_region 6 with (go_at_call 53; refine (TK.out _).mono ?_; rintro e w9 ⟨rfl, rfl⟩)
          clear b0 b1 b2
          obtain ⟨z0, z1, z2⟩ := (HR.out.below HB2.out).at
          obtain ⟨y0, y1, y2⟩ := (HR.out.below HB2.out).froz
          simp only [zeroSc] at z0 z1 z2
          go_wp2
          change bodyPost _ _ _ _ _ (putSc w2 (w.heap.size + 1) none 0 zeroSc)
          have hp := (HR.out.below HB2.out).put none 0 zeroSc
          have hpf := putSc_frm (g := w.heap.size + 1) (F := fun j => j = w.heap.size + 1) rfl w2 none 0 zeroSc
          generalize putSc w2 (w.heap.size + 1) none 0 zeroSc = w99 at *
          obtain ⟨b0, b1, b2⟩ := hp.at
          simp only [zeroSc] at b0 b1 b2
          clear z0 z1 z2 y0 y1 y2
          refine bodyPost_ret (v := .tuple #[.agg #[.int .i64 0, .slice none 0 0, .int .i64 0], .int .i64 1203]) (by simp [results, Try.results51, go_sem, b0, b1, b2]) rfl ?_
          exact ⟨none, 0, rfl, OwnCo.nil _ _, ch_frame HB.out (HB2.out) hpf⟩
        · rw [if_neg h4]
          have d4 : ((s.cs.length : Int) == 12) = false := by simp; omega
          clear h4
          go_enter Try.func51, Try.ntmps51
          go_upto_region 1 with fail
          change Code.wp _ _ _ _ ((w.alloc (.cells #[.int .i64 s.id, .slice a s.cs.length c, .int .i64 s.next] 24)).alloc (.cells #[.int .i64 0, .slice none 0 0, .int .i64 0] 24))
          rw [← hu]
          clear hu
          go_upto_region 3 with (first | (go_at_call 52; refine (TN.out _).mono ?_; rintro e w9 ⟨rfl, rfl⟩) | (go_at_call 26; refine (TFN.out _ (Below.refl _ _)).mono ?_; rintro e w2 ⟨rfl, hb2⟩; have HB2 := Lib.hid hb2; clear hb2))
          clear p0 p1 b0 b1 b2
          obtain ⟨p0, p1⟩ := HPN.out w2 HB2.out
          obtain ⟨b0, b1, b2⟩ := (HS.out.below HB2.out).at
          have TW := Lib.hid (schwith_any w2 base a c s nm k (HO.out.below HB2.out) (Nat.le_trans HBZ.out HB2.out.size) (by have := HL.out; omega) HNX.out)
          go_upto_region 7 with (go_at_call 53; refine (TK.out _).mono ?_; rintro e w9 ⟨rfl, rfl⟩)
          generalize hcs : (s.cs ++ [(⟨s.next, nm, k⟩ : Co)]) = cs at *
          go_wp2_with (go_at_call 54; refine TW.out.mono ?_; rintro e w3 ⟨a', c', rfl, ho, hf⟩; have HO3 := Lib.hid ho; have HF3 := Lib.hid hf; have hr3 := (HR.out.below HB2.out).frm hf (fun e => by have := HGT.out _ e; omega); obtain ⟨z0, z1, z2⟩ := hr3.at; obtain ⟨y0, y1, y2⟩ := hr3.froz; simp only [zeroSc] at z0 z1 z2; have HR3 := Lib.hid hr3; clear ho hf hr3)
          change bodyPost _ _ _ _ _ (putSc w3 (w.heap.size + 1) a' c' ⟨s.id, s.next + 1, cs⟩)
          have hp := HR3.out.put a' c' ⟨s.id, s.next + 1, cs⟩
          have hpf := putSc_frm (g := w.heap.size + 1) (F := fun j => j = w.heap.size + 1) rfl w3 a' c' ⟨s.id, s.next + 1, cs⟩
          generalize putSc w3 (w.heap.size + 1) a' c' ⟨s.id, s.next + 1, cs⟩ = w99 at *
          clear z0 z1 z2 y0 y1 y2 b0 b1 b2
          obtain ⟨b0, b1, b2⟩ := hp.at
          simp only at b0 b1 b2
          refine bodyPost_ret (v := .tuple #[.agg #[.int .i64 s.id, .slice a' cs.length c', .int .i64 (s.next + 1)], .int .i64 0]) (by simp [results, Try.results51, go_sem, b0, b1, b2]) rfl ?_
          refine ⟨a', c', rfl, ?_, ch_frame2 HB.out HB2.out HF3.out hpf⟩
          exact own_off HO3.out HR3.out hpf
set_option maxRecDepth 100000 in
set_option maxHeartbeats 2000000 in
theorem schdropc_any (w : World) (base : Nat) (a : Option Addr) (c : Nat) (s : Sc) (nb : Nat) (nm : ByteArray) (h : OwnCo base w a c s.cs) (hb : base ≤ w.heap.size) (hl : s.cs.length ≤ 12) (hpn : w.cell? ⟨nb, 0, none⟩ = some (.string nm)) :
    Calls Try.prog 58 #[.agg #[.int .i64 s.id, .slice a s.cs.length c, .int .i64 s.next], .pointer (some ⟨nb, 0, none⟩)] w (ChPost w base a (dropP s nm)) := by
  obtain ⟨u, hu⟩ : ∃ u, u = (w.alloc (.cells #[.int .i64 s.id, .slice a s.cs.length c, .int .i64 s.next] 24)).alloc (.cells #[.int .i64 0, .slice none 0 0, .int .i64 0] 24) := ⟨_, rfl⟩
  have hsz : (w.alloc (.cells #[.int .i64 s.id, .slice a s.cs.length c, .int .i64 s.next] 24)).heap.size = w.heap.size + 1 := by simp
  have hbu : Below w.heap.size w u := by rw [hu]; exact ((Below.refl _ _).alloc (Nat.le_refl _) _).alloc (by simp) _
  have HS := Lib.hid (show ScSlot u w.heap.size a c s by rw [hu]; exact (ScSlot.new w a c s).same (Below.heap_alloc _ _ _ (by simp)))
  have HR := Lib.hid (show ScSlot u (w.heap.size + 1) none 0 zeroSc by rw [hu, ← hsz]; exact ScSlot.new _ none 0 zeroSc)
  have HO := Lib.hid (h.below hbu)
  have HB := Lib.hid hbu
  have HBZ := Lib.hid (Nat.le_trans hb hbu.size)
  have HGT : Hid (∀ j, At a j → j < w.heap.size) := fun j hj => (h.at_ge hj).2
  have HPN : Hid (∀ v, Below u.heap.size u v → v.cell? ⟨nb, 0, none⟩ = some (.string nm)) := fun v hv =>
    (World.cell?_of_block ((hbu.trans (hv.mono hbu.size)).block nb (World.block_lt_of_cell? w ⟨nb, 0, none⟩ hpn))).trans hpn
  have TF := Lib.hid (fun (v : World) (hv : Below u.heap.size u v) (x : ByteArray) => schfind_any v a c s x (HO.out.below hv).isX (by unfold maxLen; omega))
  have p0 := HPN.out u (Below.refl _ _)
  obtain ⟨b0, b1, b2⟩ := HS.out.at
  have HL := Lib.hid hl
  clear hbu hsz h hb hpn
  have hl13 : s.cs.length < 13 := by omega
  clear hl
  have TFN := Lib.hid (fun (v : World) (hv : Below u.heap.size u v) => TF.out v hv nm)
  clear TF
  unfold dropP
  have hpos := fun hh => findA_pos (cs := s.cs) (nm := nm) hh
  generalize findA s.cs nm = F at *
  by_cases h1 : F < 0
  · rw [if_pos h1]
    have d1 : decide (F < 0) = true := decide_eq_true h1
    clear h1 hpos
    go_enter Try.func58, Try.ntmps58
    go_upto_region 1 with fail
    change Code.wp _ _ _ _ ((w.alloc (.cells #[.int .i64 s.id, .slice a s.cs.length c, .int .i64 s.next] 24)).alloc (.cells #[.int .i64 0, .slice none 0 0, .int .i64 0] 24))
    rw [← hu]
    clear hu
    go_upto_region 3 with (go_at_call 26; refine (TFN.out _ (Below.refl _ _)).mono ?_; rintro e w2 ⟨rfl, hb2⟩; have HB2 := Lib.hid hb2; clear hb2)
    obtain ⟨z0, z1, z2⟩ := (HR.out.below HB2.out).at
    obtain ⟨y0, y1, y2⟩ := (HR.out.below HB2.out).froz
    simp only [zeroSc] at z0 z1 z2
    go_wp2
    change bodyPost _ _ _ _ _ (putSc w2 (w.heap.size + 1) none 0 zeroSc)
    have hp := (HR.out.below HB2.out).put none 0 zeroSc
    have hpf := putSc_frm (g := w.heap.size + 1) (F := fun j => j = w.heap.size + 1) rfl w2 none 0 zeroSc
    generalize putSc w2 (w.heap.size + 1) none 0 zeroSc = w99 at *
    obtain ⟨b0, b1, b2⟩ := hp.at
    simp only [zeroSc] at b0 b1 b2
    clear z0 z1 z2 y0 y1 y2
    refine bodyPost_ret (v := .tuple #[.agg #[.int .i64 0, .slice none 0 0, .int .i64 0], .int .i64 1202]) (by simp [results, Try.results58, go_sem, b0, b1, b2]) rfl ?_
    exact ⟨none, 0, rfl, OwnCo.nil _ _, ch_frame HB.out (HB2.out) hpf⟩
  · rw [if_neg h1]
    obtain ⟨hlt, rfl, _⟩ := hpos (Int.not_lt.1 h1)
    generalize findN s.cs nm = i at *
    have d1 : decide ((i : Int) < 0) = false := decide_eq_false h1
    clear h1 hpos
    by_cases h2 : s.cs.length = 1
    · rw [if_pos h2]
      have d2 : ((s.cs.length : Int) == 1) = true := by rw [h2]; rfl
      clear h2
      go_enter Try.func58, Try.ntmps58
      go_upto_region 1 with fail
      change Code.wp _ _ _ _ ((w.alloc (.cells #[.int .i64 s.id, .slice a s.cs.length c, .int .i64 s.next] 24)).alloc (.cells #[.int .i64 0, .slice none 0 0, .int .i64 0] 24))
      rw [← hu]
      clear hu
      go_upto_region 4 with (go_at_call 26; refine (TFN.out _ (Below.refl _ _)).mono ?_; rintro e w2 ⟨rfl, hb2⟩; have HB2 := Lib.hid hb2; clear hb2)
      clear b0 b1 b2
      obtain ⟨b0, b1, b2⟩ := (HS.out.below HB2.out).at
      go_upto_region 5 with fail
      clear b0 b1 b2
      obtain ⟨z0, z1, z2⟩ := (HR.out.below HB2.out).at
      obtain ⟨y0, y1, y2⟩ := (HR.out.below HB2.out).froz
      simp only [zeroSc] at z0 z1 z2
      go_wp2
      change bodyPost _ _ _ _ _ (putSc w2 (w.heap.size + 1) none 0 zeroSc)
      have hp := (HR.out.below HB2.out).put none 0 zeroSc
      have hpf := putSc_frm (g := w.heap.size + 1) (F := fun j => j = w.heap.size + 1) rfl w2 none 0 zeroSc
      generalize putSc w2 (w.heap.size + 1) none 0 zeroSc = w99 at *
      obtain ⟨b0, b1, b2⟩ := hp.at
      simp only [zeroSc] at b0 b1 b2
      clear z0 z1 z2 y0 y1 y2
      refine bodyPost_ret (v := .tuple #[.agg #[.int .i64 0, .slice none 0 0, .int .i64 0], .int .i64 1203]) (by simp [results, Try.results58, go_sem, b0, b1, b2]) rfl ?_
      exact ⟨none, 0, rfl, OwnCo.nil _ _, ch_frame HB.out (HB2.out) hpf⟩
    · rw [if_neg h2]
      have d2 : ((s.cs.length : Int) == 1) = false := by simp; omega
      clear h2
      have hwi : wrap64 ((i : Int) + 1) = (i : Int) + 1 := by unfold wrap64; omega
      have HLT := Lib.hid hlt
      go_enter Try.func58, Try.ntmps58
      go_upto_region 1 with fail
      change Code.wp _ _ _ _ ((w.alloc (.cells #[.int .i64 s.id, .slice a s.cs.length c, .int .i64 s.next] 24)).alloc (.cells #[.int .i64 0, .slice none 0 0, .int .i64 0] 24))
      rw [← hu]
      clear hu
      go_upto_region 4 with (go_at_call 26; refine (TFN.out _ (Below.refl _ _)).mono ?_; rintro e w2 ⟨rfl, hb2⟩; have HB2 := Lib.hid hb2; clear hb2)
      clear b0 b1 b2
      obtain ⟨b0, b1, b2⟩ := (HS.out.below HB2.out).at
      go_upto_region 6 with fail
      have TD := Lib.hid (delcols_any w2 base a c s.cs i (HO.out.below HB2.out) HLT.out (by omega))
      have hs2 := HS.out.below HB2.out
      obtain ⟨y0, y1, y2⟩ := hs2.froz
      rw [delCo_erase] at TD
      go_upto_region 7 with (go_at_call 59; refine TD.out.mono ?_; rintro e w3 ⟨rfl, ho, hf⟩; have HO3 := Lib.hid ho; have HF3 := Lib.hid hf; have hd3 := (HS.out.below HB2.out).frm hf (fun e => by have := HGT.out _ e; omega); have hr3 := (HR.out.below HB2.out).frm hf (fun e => by have := HGT.out _ e; omega); clear b0 b1 b2 y0 y1 y2; obtain ⟨b0, b1, b2⟩ := hd3.at; obtain ⟨y0, y1, y2⟩ := hd3.froz; have HR3 := Lib.hid hr3; have HD3 := Lib.hid hd3; clear ho hf hr3 hd3)
      clear hs2
      generalize hcs : s.cs.eraseIdx i = cs at *
      obtain ⟨w4, hw4⟩ : ∃ w4, w4 = w3.setCell ⟨w.heap.size, 1, none⟩ (.slice a cs.length c) := ⟨_, rfl⟩
      have HD4 := Lib.hid (show ScSlot w4 w.heap.size a c ⟨s.id, s.next, cs⟩ by rw [hw4]; exact HD3.out.setC a c cs)
      have hf4 : Frm (fun j => j = w.heap.size) w3 w4 := by rw [hw4]; exact (Frm.refl (fun j => j = w.heap.size) w3).setCell (p := ⟨w.heap.size, 1, none⟩) rfl _
      have HR4 := Lib.hid (HR3.out.frm hf4 (by omega))
      have HO4 := Lib.hid (own_off HO3.out HD3.out hf4)
      have HF4 := Lib.hid hf4
      change Code.wp _ _ _ _ (w3.setCell ⟨w.heap.size, 1, none⟩ (.slice a cs.length c))
      rw [← hw4]
      clear hw4 hf4 b0 b1 b2 y0 y1 y2 HD3 HR3 hcs
      obtain ⟨b0, b1, b2⟩ := HD4.out.at
      obtain ⟨z0, z1, z2⟩ := HR4.out.at
      obtain ⟨y0, y1, y2⟩ := HR4.out.froz
      simp only at b0 b1 b2
      simp only [zeroSc] at z0 z1 z2
      go_wp2
      change bodyPost _ _ _ _ _ (putSc w4 (w.heap.size + 1) a c ⟨s.id, s.next, cs⟩)
      have hp := HR4.out.put a c ⟨s.id, s.next, cs⟩
      have hpf := putSc_frm (g := w.heap.size + 1) (F := fun j => j = w.heap.size + 1) rfl w4 a c ⟨s.id, s.next, cs⟩
      generalize putSc w4 (w.heap.size + 1) a c ⟨s.id, s.next, cs⟩ = w99 at *
      clear z0 z1 z2 y0 y1 y2 b0 b1 b2
      obtain ⟨b0, b1, b2⟩ := hp.at
      simp only at b0 b1 b2
      refine bodyPost_ret (v := .tuple #[.agg #[.int .i64 s.id, .slice a cs.length c, .int .i64 s.next], .int .i64 0]) (by simp [results, Try.results58, go_sem, b0, b1, b2]) rfl ?_
      exact ⟨a, c, rfl, own_off HO4.out HR4.out hpf, ch_frame3 HB.out HB2.out HF3.out HF4.out hpf⟩
set_option maxRecDepth 100000 in
set_option maxHeartbeats 2000000 in
theorem schrenc_any (w : World) (base : Nat) (a : Option Addr) (c : Nat) (s : Sc) (nb tb : Nat) (nm to : ByteArray) (h : OwnCo base w a c s.cs) (hb : base ≤ w.heap.size) (hl : s.cs.length ≤ 12) (hpn : w.cell? ⟨nb, 0, none⟩ = some (.string nm)) (hpt : w.cell? ⟨tb, 0, none⟩ = some (.string to)) :
    Calls Try.prog 60 #[.agg #[.int .i64 s.id, .slice a s.cs.length c, .int .i64 s.next], .pointer (some ⟨nb, 0, none⟩), .pointer (some ⟨tb, 0, none⟩)] w (ChPost w base a (renP s nm to)) := by
  obtain ⟨u, hu⟩ : ∃ u, u = (w.alloc (.cells #[.int .i64 s.id, .slice a s.cs.length c, .int .i64 s.next] 24)).alloc (.cells #[.int .i64 0, .slice none 0 0, .int .i64 0] 24) := ⟨_, rfl⟩
  have hsz : (w.alloc (.cells #[.int .i64 s.id, .slice a s.cs.length c, .int .i64 s.next] 24)).heap.size = w.heap.size + 1 := by simp
  have hbu : Below w.heap.size w u := by rw [hu]; exact ((Below.refl _ _).alloc (Nat.le_refl _) _).alloc (by simp) _
  have HS := Lib.hid (show ScSlot u w.heap.size a c s by rw [hu]; exact (ScSlot.new w a c s).same (Below.heap_alloc _ _ _ (by simp)))
  have HR := Lib.hid (show ScSlot u (w.heap.size + 1) none 0 zeroSc by rw [hu, ← hsz]; exact ScSlot.new _ none 0 zeroSc)
  have HO := Lib.hid (h.below hbu)
  have HB := Lib.hid hbu
  have HBZ := Lib.hid (Nat.le_trans hb hbu.size)
  have HGT : Hid (∀ j, At a j → j < w.heap.size) := fun j hj => (h.at_ge hj).2
  have HPN : Hid (∀ v, Below u.heap.size u v → v.cell? ⟨nb, 0, none⟩ = some (.string nm) ∧ v.cell? ⟨tb, 0, none⟩ = some (.string to)) := fun v hv =>
    ⟨(World.cell?_of_block ((hbu.trans (hv.mono hbu.size)).block nb (World.block_lt_of_cell? w ⟨nb, 0, none⟩ hpn))).trans hpn, (World.cell?_of_block ((hbu.trans (hv.mono hbu.size)).block tb (World.block_lt_of_cell? w ⟨tb, 0, none⟩ hpt))).trans hpt⟩
  have TF := Lib.hid (fun (v : World) (hv : Below u.heap.size u v) (x : ByteArray) => schfind_any v a c s x (HO.out.below hv).isX (by unfold maxLen; omega))
  have TN := Lib.hid (fun v => name_any to v)
  have HL := Lib.hid hl
  have hl13 : s.cs.length < 13 := by omega
  clear hbu hsz h hb hpn hpt hl
  unfold renP
  have hpos := fun hh => findA_pos (cs := s.cs) (nm := nm) hh
  generalize findA s.cs = FA at *
  by_cases h1 : FA nm < 0
  · rw [if_pos h1]
    have d1 : decide (FA nm < 0) = true := decide_eq_true h1
    clear h1 hpos
    go_enter Try.func60, Try.ntmps60
    go_upto_region 1 with fail
    change Code.wp _ _ _ _ ((w.alloc (.cells #[.int .i64 s.id, .slice a s.cs.length c, .int .i64 s.next] 24)).alloc (.cells #[.int .i64 0, .slice none 0 0, .int .i64 0] 24))
    rw [← hu]
    clear hu
    refine region_class (fun w' => Below u.heap.size u w') (by kernel_rfl) (by kernel_rfl) (Below.refl _ _).drew ?_
    repeat (
      refine wpQuiet_step (fun K9 hK => ?_)
      go_simp
      first
      | (refine hK _ ?_; clear hK K9)
      | (apply Exists.intro
         refine ⟨fun v1 hv1 => ?_, hK _ ?_⟩
         (first
           | (exact rfl)
           | (go_at_call 26; exact (TF.out v1 hv1 _).mono fun e w3 ⟨he, hb⟩ => ⟨he, hv1.trans (hb.mono hv1.size)⟩)
           | (obtain ⟨p0, p1⟩ := HPN.out v1 hv1; obtain ⟨b0, b1, b2⟩ := (HS.out.below hv1).at; simp only [p0, p1, b0, b1, b2, Result.andThen]; exact ⟨trivial, rfl⟩)
           | (exact ⟨trivial, rfl⟩))
         clear hK K9))
    refine wpQuiet_nil ?_
    intro w2 hw2
    have HB2 := Lib.hid hw2
    clear hw2
    obtain ⟨p0, p1⟩ := HPN.out w2 HB2.out
    obtain ⟨b0, b1, b2⟩ := (HS.out.below HB2.out).at
    go_upto_region 3 with fail
    clear p0 p1 b0 b1 b2
    obtain ⟨z0, z1, z2⟩ := (HR.out.below HB2.out).at
    obtain ⟨y0, y1, y2⟩ := (HR.out.below HB2.out).froz
    simp only [zeroSc] at z0 z1 z2
    go_wp2
    change bodyPost _ _ _ _ _ (putSc w2 (w.heap.size + 1) none 0 zeroSc)
    have hp := (HR.out.below HB2.out).put none 0 zeroSc
    have hpf := putSc_frm (g := w.heap.size + 1) (F := fun j => j = w.heap.size + 1) rfl w2 none 0 zeroSc
    generalize putSc w2 (w.heap.size + 1) none 0 zeroSc = w99 at *
    obtain ⟨b0, b1, b2⟩ := hp.at
    simp only [zeroSc] at b0 b1 b2
    clear z0 z1 z2 y0 y1 y2
    refine bodyPost_ret (v := .tuple #[.agg #[.int .i64 0, .slice none 0 0, .int .i64 0], .int .i64 1202]) (by simp [results, Try.results60, go_sem, b0, b1, b2]) rfl ?_
    exact ⟨none, 0, rfl, OwnCo.nil _ _, ch_frame HB.out (HB2.out) hpf⟩
  · rw [if_neg h1]
    obtain ⟨hlt, hFi, _⟩ := hpos (Int.not_lt.1 h1)
    rw [getD_in hlt]
    have d1 : decide (FA nm < 0) = false := decide_eq_false h1
    clear h1 hpos
    cases h2 : nameB to with
    | false =>
      rw [if_pos (Or.inl rfl)]
      rw [h2] at TN
      clear h2 hFi
      go_enter Try.func60, Try.ntmps60
      go_upto_region 1 with fail
      change Code.wp _ _ _ _ ((w.alloc (.cells #[.int .i64 s.id, .slice a s.cs.length c, .int .i64 s.next] 24)).alloc (.cells #[.int .i64 0, .slice none 0 0, .int .i64 0] 24))
      rw [← hu]
      clear hu
      refine region_class (fun w' => Below u.heap.size u w') (by kernel_rfl) (by kernel_rfl) (Below.refl _ _).drew ?_
      repeat (
        refine wpQuiet_step (fun K9 hK => ?_)
        go_simp
        first
        | (refine hK _ ?_; clear hK K9)
        | (apply Exists.intro
           refine ⟨fun v1 hv1 => ?_, hK _ ?_⟩
           (first
             | (exact rfl)
             | (go_at_call 26; exact (TF.out v1 hv1 _).mono fun e w3 ⟨he, hb⟩ => ⟨he, hv1.trans (hb.mono hv1.size)⟩)
             | (obtain ⟨p0, p1⟩ := HPN.out v1 hv1; obtain ⟨b0, b1, b2⟩ := (HS.out.below hv1).at; simp only [p0, p1, b0, b1, b2, Result.andThen]; exact ⟨trivial, rfl⟩)
             | (exact ⟨trivial, rfl⟩))
           clear hK K9))
      refine wpQuiet_nil ?_
      intro w2 hw2
      have HB2 := Lib.hid hw2
      clear hw2
      obtain ⟨p0, p1⟩ := HPN.out w2 HB2.out
      obtain ⟨b0, b1, b2⟩ := (HS.out.below HB2.out).at
      go_upto_region 5 with (go_at_call 52; refine (TN.out _).mono ?_; rintro e w9 ⟨rfl, rfl⟩)
      clear p0 p1 b0 b1 b2
      obtain ⟨z0, z1, z2⟩ := (HR.out.below HB2.out).at
      obtain ⟨y0, y1, y2⟩ := (HR.out.below HB2.out).froz
      simp only [zeroSc] at z0 z1 z2
      go_wp2
      change bodyPost _ _ _ _ _ (putSc w2 (w.heap.size + 1) none 0 zeroSc)
      have hp := (HR.out.below HB2.out).put none 0 zeroSc
      have hpf := putSc_frm (g := w.heap.size + 1) (F := fun j => j = w.heap.size + 1) rfl w2 none 0 zeroSc
      generalize putSc w2 (w.heap.size + 1) none 0 zeroSc = w99 at *
      obtain ⟨b0, b1, b2⟩ := hp.at
      simp only [zeroSc] at b0 b1 b2
      clear z0 z1 z2 y0 y1 y2
      refine bodyPost_ret (v := .tuple #[.agg #[.int .i64 0, .slice none 0 0, .int .i64 0], .int .i64 1201]) (by simp [results, Try.results60, go_sem, b0, b1, b2]) rfl ?_
      exact ⟨none, 0, rfl, OwnCo.nil _ _, ch_frame HB.out (HB2.out) hpf⟩
    | true =>
      rw [h2] at TN
      clear h2
      by_cases h3 : 0 ≤ FA to ∧ FA to ≠ FA nm
      · rw [if_pos (Or.inr h3)]
        have d2 : decide ((0 : Int) ≤ FA to) = true := decide_eq_true h3.1
        have d3 : (FA to != FA nm) = true := by simpa using h3.2
        clear h3 hFi
        go_enter Try.func60, Try.ntmps60
        go_upto_region 1 with fail
        change Code.wp _ _ _ _ ((w.alloc (.cells #[.int .i64 s.id, .slice a s.cs.length c, .int .i64 s.next] 24)).alloc (.cells #[.int .i64 0, .slice none 0 0, .int .i64 0] 24))
        rw [← hu]
        clear hu
        refine region_class (fun w' => Below u.heap.size u w') (by kernel_rfl) (by kernel_rfl) (Below.refl _ _).drew ?_
        repeat (
          refine wpQuiet_step (fun K9 hK => ?_)
          go_simp
          first
          | (refine hK _ ?_; clear hK K9)
          | (apply Exists.intro
             refine ⟨fun v1 hv1 => ?_, hK _ ?_⟩
             (first
               | (exact rfl)
               | (go_at_call 26; exact (TF.out v1 hv1 _).mono fun e w3 ⟨he, hb⟩ => ⟨he, hv1.trans (hb.mono hv1.size)⟩)
               | (obtain ⟨p0, p1⟩ := HPN.out v1 hv1; obtain ⟨b0, b1, b2⟩ := (HS.out.below hv1).at; simp only [p0, p1, b0, b1, b2, Result.andThen]; exact ⟨trivial, rfl⟩)
               | (exact ⟨trivial, rfl⟩))
             clear hK K9))
        refine wpQuiet_nil ?_
        intro w2 hw2
        have HB2 := Lib.hid hw2
        clear hw2
        obtain ⟨p0, p1⟩ := HPN.out w2 HB2.out
        obtain ⟨b0, b1, b2⟩ := (HS.out.below HB2.out).at
        go_upto_region 5 with (go_at_call 52; refine (TN.out _).mono ?_; rintro e w9 ⟨rfl, rfl⟩)
        clear p0 p1 b0 b1 b2
        obtain ⟨z0, z1, z2⟩ := (HR.out.below HB2.out).at
        obtain ⟨y0, y1, y2⟩ := (HR.out.below HB2.out).froz
        simp only [zeroSc] at z0 z1 z2
        go_wp2
        change bodyPost _ _ _ _ _ (putSc w2 (w.heap.size + 1) none 0 zeroSc)
        have hp := (HR.out.below HB2.out).put none 0 zeroSc
        have hpf := putSc_frm (g := w.heap.size + 1) (F := fun j => j = w.heap.size + 1) rfl w2 none 0 zeroSc
        generalize putSc w2 (w.heap.size + 1) none 0 zeroSc = w99 at *
        obtain ⟨b0, b1, b2⟩ := hp.at
        simp only [zeroSc] at b0 b1 b2
        clear z0 z1 z2 y0 y1 y2
        refine bodyPost_ret (v := .tuple #[.agg #[.int .i64 0, .slice none 0 0, .int .i64 0], .int .i64 1201]) (by simp [results, Try.results60, go_sem, b0, b1, b2]) rfl ?_
        exact ⟨none, 0, rfl, OwnCo.nil _ _, ch_frame HB.out (HB2.out) hpf⟩
      · rw [if_neg (fun e => e.elim (fun e => by cases e) h3)]
        by_cases h4 : 0 ≤ FA to
        · have d2 : decide ((0 : Int) ≤ FA to) = true := decide_eq_true h4
          have d3 : (FA to != FA nm) = false := by
            have : FA to = FA nm := Classical.byContradiction fun e => h3 ⟨h4, e⟩
            simpa using this
          generalize findN s.cs nm = i at *
          have HLT := Lib.hid hlt
          obtain ⟨gA, hgA⟩ := HO.out.there (by intro e; rw [e] at hlt; simp at hlt)
          subst hgA
          obtain ⟨cur, hcur⟩ := own_tyS HO.out (k := gA) rfl
          have hcn := (HO.out.get i hlt).c1
          have HOX := Lib.hid (fun (v : World) (hv : Below u.heap.size u v) => And.intro ((World.cell?_of_block (hv.block gA (World.block_lt_of_cell? u ⟨gA, i * 3 + 1, none⟩ hcn))).trans hcn) (frozen_of_row v gA (i * 3 + 1) _ _ ((hv.block gA (Array.getElem?_eq_some_iff.1 hcur).1).trans hcur)))
          have hii : (i : Int) < (s.cs.length : Int) := by omega
          have hi0 : (0 : Int) ≤ (i : Int) := by omega
          generalize hv9 : s.cs[i] = v9 at *
          have HV9 := Lib.hid hv9
          clear hcn hcur hv9 hlt
          rw [hFi] at d1 d3
          have HFI := Lib.hid hFi
          clear h3 h4 hFi
          go_enter Try.func60, Try.ntmps60
          go_upto_region 1 with fail
          change Code.wp _ _ _ _ ((w.alloc (.cells #[.int .i64 s.id, .slice (some ⟨gA, 0, none⟩) s.cs.length c, .int .i64 s.next] 24)).alloc (.cells #[.int .i64 0, .slice none 0 0, .int .i64 0] 24))
          rw [← hu]
          clear hu
          refine region_class (fun w' => Below u.heap.size u w') (by kernel_rfl) (by kernel_rfl) (Below.refl _ _).drew ?_
          repeat (
            refine wpQuiet_step (fun K9 hK => ?_)
            go_simp
            first
            | (refine hK _ ?_; clear hK K9)
            | (apply Exists.intro
               refine ⟨fun v1 hv1 => ?_, hK _ ?_⟩
               (first
                 | (exact rfl)
                 | (go_at_call 26; exact (TF.out v1 hv1 _).mono fun e w3 ⟨he, hb⟩ => ⟨he, hv1.trans (hb.mono hv1.size)⟩)
                 | (obtain ⟨p0, p1⟩ := HPN.out v1 hv1; obtain ⟨b0, b1, b2⟩ := (HS.out.below hv1).at; simp only [p0, p1, b0, b1, b2, Result.andThen]; exact ⟨trivial, rfl⟩)
                 | (exact ⟨trivial, rfl⟩))
               clear hK K9))
          refine wpQuiet_nil ?_
          intro w2 hw2
          have HB2 := Lib.hid hw2
          clear hw2
          obtain ⟨p0, p1⟩ := HPN.out w2 HB2.out
          obtain ⟨b0, b1, b2⟩ := (HS.out.below HB2.out).at
          rw [HFI.out]
          go_upto_region 6 with (go_at_call 52; refine (TN.out _).mono ?_; rintro e w9 ⟨rfl, rfl⟩)
          clear p0 p1 b0 b1 b2
          obtain ⟨p0, p1⟩ := HPN.out w2 HB2.out
          obtain ⟨b0, b1, b2⟩ := (HS.out.below HB2.out).at
          obtain ⟨x0, x1⟩ := HOX.out w2 HB2.out
          go_upto_region 7 with fail
          obtain ⟨w4, hw4⟩ : ∃ w4, w4 = w2.setCell ⟨gA, i * 3 + 1, none⟩ (.string to) := ⟨_, rfl⟩
          have HO4 := Lib.hid (show OwnCo base w4 (some ⟨gA, 0, none⟩) c (s.cs.set i (named v9 to)) by rw [hw4, ← HV9.out]; exact (HO.out.below HB2.out).named i HLT.out to)
          have hf4 : Frm (At (some ⟨gA, 0, none⟩)) w2 w4 := by rw [hw4]; exact (Frm.refl (At (some ⟨gA, 0, none⟩)) w2).setCell (p := ⟨gA, i * 3 + 1, none⟩) rfl _
          have HD4 := Lib.hid ((HS.out.below HB2.out).frm hf4 (fun e => by have := HGT.out _ e; omega))
          have HR4 := Lib.hid ((HR.out.below HB2.out).frm hf4 (fun e => by have := HGT.out _ e; omega))
          have HF4 := Lib.hid hf4
          change Code.wp _ _ _ _ (w2.setCell ⟨gA, i * 3 + 1, none⟩ (.string to))
          rw [← hw4]
          clear hw4 hf4 b0 b1 b2 p0 p1 x0 x1
          have hln : (s.cs.set i (named v9 to)).length = s.cs.length := List.length_set
          generalize hcs : s.cs.set i (named v9 to) = cs at *
          obtain ⟨b0, b1, b2⟩ := HD4.out.at
          obtain ⟨z0, z1, z2⟩ := HR4.out.at
          obtain ⟨y0, y1, y2⟩ := HR4.out.froz
          simp only [zeroSc] at z0 z1 z2
          have HLN := Lib.hid hln
          clear hcs hln
          go_wp2
          rw [← HLN.out]
          change bodyPost _ _ _ _ _ (putSc w4 (w.heap.size + 1) (some ⟨gA, 0, none⟩) c ⟨s.id, s.next, cs⟩)
          have hp := HR4.out.put (some ⟨gA, 0, none⟩) c ⟨s.id, s.next, cs⟩
          have hpf := putSc_frm (g := w.heap.size + 1) (F := fun j => j = w.heap.size + 1) rfl w4 (some ⟨gA, 0, none⟩) c ⟨s.id, s.next, cs⟩
          generalize putSc w4 (w.heap.size + 1) (some ⟨gA, 0, none⟩) c ⟨s.id, s.next, cs⟩ = w99 at *
          clear z0 z1 z2 y0 y1 y2 b0 b1 b2
          obtain ⟨b0, b1, b2⟩ := hp.at
          simp only at b0 b1 b2
          refine bodyPost_ret (v := .tuple #[.agg #[.int .i64 s.id, .slice (some ⟨gA, 0, none⟩) cs.length c, .int .i64 s.next], .int .i64 0]) (by simp [results, Try.results60, go_sem, b0, b1, b2]) rfl ?_
          exact ⟨some ⟨gA, 0, none⟩, c, rfl, own_off HO4.out HR4.out hpf, ch_frame2 HB.out HB2.out HF4.out hpf⟩
        · have d2 : decide ((0 : Int) ≤ FA to) = false := decide_eq_false h4
          generalize findN s.cs nm = i at *
          have HLT := Lib.hid hlt
          obtain ⟨gA, hgA⟩ := HO.out.there (by intro e; rw [e] at hlt; simp at hlt)
          subst hgA
          obtain ⟨cur, hcur⟩ := own_tyS HO.out (k := gA) rfl
          have hcn := (HO.out.get i hlt).c1
          have HOX := Lib.hid (fun (v : World) (hv : Below u.heap.size u v) => And.intro ((World.cell?_of_block (hv.block gA (World.block_lt_of_cell? u ⟨gA, i * 3 + 1, none⟩ hcn))).trans hcn) (frozen_of_row v gA (i * 3 + 1) _ _ ((hv.block gA (Array.getElem?_eq_some_iff.1 hcur).1).trans hcur)))
          have hii : (i : Int) < (s.cs.length : Int) := by omega
          have hi0 : (0 : Int) ≤ (i : Int) := by omega
          generalize hv9 : s.cs[i] = v9 at *
          have HV9 := Lib.hid hv9
          clear hcn hcur hv9 hlt
          rw [hFi] at d1
          have HFI := Lib.hid hFi
          clear h3 h4 hFi
          go_enter Try.func60, Try.ntmps60
          go_upto_region 1 with fail
          change Code.wp _ _ _ _ ((w.alloc (.cells #[.int .i64 s.id, .slice (some ⟨gA, 0, none⟩) s.cs.length c, .int .i64 s.next] 24)).alloc (.cells #[.int .i64 0, .slice none 0 0, .int .i64 0] 24))
          rw [← hu]
          clear hu
          refine region_class (fun w' => Below u.heap.size u w') (by kernel_rfl) (by kernel_rfl) (Below.refl _ _).drew ?_
          repeat (
            refine wpQuiet_step (fun K9 hK => ?_)
            go_simp
            first
            | (refine hK _ ?_; clear hK K9)
            | (apply Exists.intro
               refine ⟨fun v1 hv1 => ?_, hK _ ?_⟩
               (first
                 | (exact rfl)
                 | (go_at_call 26; exact (TF.out v1 hv1 _).mono fun e w3 ⟨he, hb⟩ => ⟨he, hv1.trans (hb.mono hv1.size)⟩)
                 | (obtain ⟨p0, p1⟩ := HPN.out v1 hv1; obtain ⟨b0, b1, b2⟩ := (HS.out.below hv1).at; simp only [p0, p1, b0, b1, b2, Result.andThen]; exact ⟨trivial, rfl⟩)
                 | (exact ⟨trivial, rfl⟩))
               clear hK K9))
          refine wpQuiet_nil ?_
          intro w2 hw2
          have HB2 := Lib.hid hw2
          clear hw2
          obtain ⟨p0, p1⟩ := HPN.out w2 HB2.out
          obtain ⟨b0, b1, b2⟩ := (HS.out.below HB2.out).at
          rw [HFI.out]
          go_upto_region 6 with (go_at_call 52; refine (TN.out _).mono ?_; rintro e w9 ⟨rfl, rfl⟩)
          clear p0 p1 b0 b1 b2
          obtain ⟨p0, p1⟩ := HPN.out w2 HB2.out
          obtain ⟨b0, b1, b2⟩ := (HS.out.below HB2.out).at
          obtain ⟨x0, x1⟩ := HOX.out w2 HB2.out
          go_upto_region 7 with fail
          obtain ⟨w4, hw4⟩ : ∃ w4, w4 = w2.setCell ⟨gA, i * 3 + 1, none⟩ (.string to) := ⟨_, rfl⟩
          have HO4 := Lib.hid (show OwnCo base w4 (some ⟨gA, 0, none⟩) c (s.cs.set i (named v9 to)) by rw [hw4, ← HV9.out]; exact (HO.out.below HB2.out).named i HLT.out to)
          have hf4 : Frm (At (some ⟨gA, 0, none⟩)) w2 w4 := by rw [hw4]; exact (Frm.refl (At (some ⟨gA, 0, none⟩)) w2).setCell (p := ⟨gA, i * 3 + 1, none⟩) rfl _
          have HD4 := Lib.hid ((HS.out.below HB2.out).frm hf4 (fun e => by have := HGT.out _ e; omega))
          have HR4 := Lib.hid ((HR.out.below HB2.out).frm hf4 (fun e => by have := HGT.out _ e; omega))
          have HF4 := Lib.hid hf4
          change Code.wp _ _ _ _ (w2.setCell ⟨gA, i * 3 + 1, none⟩ (.string to))
          rw [← hw4]
          clear hw4 hf4 b0 b1 b2 p0 p1 x0 x1
          have hln : (s.cs.set i (named v9 to)).length = s.cs.length := List.length_set
          generalize hcs : s.cs.set i (named v9 to) = cs at *
          obtain ⟨b0, b1, b2⟩ := HD4.out.at
          obtain ⟨z0, z1, z2⟩ := HR4.out.at
          obtain ⟨y0, y1, y2⟩ := HR4.out.froz
          simp only [zeroSc] at z0 z1 z2
          have HLN := Lib.hid hln
          clear hcs hln
          go_wp2
          rw [← HLN.out]
          change bodyPost _ _ _ _ _ (putSc w4 (w.heap.size + 1) (some ⟨gA, 0, none⟩) c ⟨s.id, s.next, cs⟩)
          have hp := HR4.out.put (some ⟨gA, 0, none⟩) c ⟨s.id, s.next, cs⟩
          have hpf := putSc_frm (g := w.heap.size + 1) (F := fun j => j = w.heap.size + 1) rfl w4 (some ⟨gA, 0, none⟩) c ⟨s.id, s.next, cs⟩
          generalize putSc w4 (w.heap.size + 1) (some ⟨gA, 0, none⟩) c ⟨s.id, s.next, cs⟩ = w99 at *
          clear z0 z1 z2 y0 y1 y2 b0 b1 b2
          obtain ⟨b0, b1, b2⟩ := hp.at
          simp only at b0 b1 b2
          refine bodyPost_ret (v := .tuple #[.agg #[.int .i64 s.id, .slice (some ⟨gA, 0, none⟩) cs.length c, .int .i64 s.next], .int .i64 0]) (by simp [results, Try.results60, go_sem, b0, b1, b2]) rfl ?_
          exact ⟨some ⟨gA, 0, none⟩, c, rfl, own_off HO4.out HR4.out hpf, ch_frame2 HB.out HB2.out HF4.out hpf⟩
end Go.Proofs.Ythfakpekdjmpjaa
