/- The program's parser: what an object so far looks like in memory. -/
import Derived.Test.YtcobadgpelhcoaaDoorDNote
namespace Go.Proofs.YtcobadgpelhcoaaDoor
open Go.Conc Go.RowKit
set_option linter.unusedVariables false

theorem own_keep {F : Nat → Prop} {w w' : World} {base e size n : Nat} {v : Value} {xs : List Value} (h : w.ownsRow base e size v n xs) (hf : Frm F w w') (hF : ∀ g, v.ownBlock = some g → ¬ F g) : w'.ownsRow base e size v n xs := by
  refine ⟨h.1, ?_⟩
  rcases h.2 with hn | ⟨g, cap, cur, rfl, hb, hgg, rest⟩
  · exact .inl hn
  · exact .inr ⟨g, cap, cur, rfl, hb, (hf.block g (Array.getElem?_eq_some_iff.1 hgg).1 (hF g rfl)).trans hgg, rest⟩
theorem own_lt {w : World} {base e size n : Nat} {v : Value} {xs : List Value} (h : w.ownsRow base e size v n xs) {g : Nat} (hg : v.ownBlock = some g) : base ≤ g ∧ g < w.heap.size := by
  refine ⟨own_block h hg.symm, ?_⟩
  rcases h.2 with ⟨rfl, _⟩ | ⟨g', cap, cur, rfl, hb, hgg, _⟩
  · simp [Value.ownBlock] at hg
  · simp only [Value.ownBlock, Option.some.injEq] at hg; subst hg; exact (Array.getElem?_eq_some_iff.1 hgg).1
/-- An allocation, an append and a store into one's own. -/
theorem frm_app {wr w1 w2 : World} {F : Nat → Prop} {o : Obj} {lv v' : Value} {b j : Nat} (hf : Frm F wr w1) (hg : (w1.alloc o).grownBy w2 lv.ownBlock) : Frm (fun g => F g ∨ g = b ∨ lv.ownBlock = some g) wr (w2.setCell ⟨b, j, none⟩ v') := by
  have hs := hg.size
  have hs1 := hf.size
  refine ⟨hg.os.trans hf.os, hg.tape.trans hf.tape, hg.output.trans hf.output, by simp [World.setCell] at hs ⊢; omega, fun g hl hn => ?_⟩
  have h1 : g ≠ b := fun e => hn (.inr (.inl e))
  have h2 : lv.ownBlock ≠ some g := fun e => hn (.inr (.inr e))
  exact (Below.heap_setCell _ _ _ _ h1).trans ((hg.block g (by simp; omega) (fun e => h2 e.symm)).trans ((Below.heap_alloc _ _ _ (by omega)).trans (hf.block g hl fun e => hn (.inl e))))

/-- An object so far: its keys ks in a row, the keys ms in the set at block mb, its values. -/
structure ObAt (pb d : Nat) (s : ByteArray) (w wr : World) (k mb : Nat) (ms ks : List ByteArray) (acc : List J) (cs : List (List Value)) (lv kv : Value) : Prop where
  pat : JPAt wr pb s k (d + 1)
  jb : J6 wr (w.heap.size + 1) (.int .i64 5) (.bool false) (.int .i64 0) (.string ⟨#[]⟩) lv kv
  rb : J6 wr w.heap.size (.int .i64 0) (.bool false) (.int .i64 0) (.string ⟨#[]⟩) (.slice none 0 0) (.slice none 0 0)
  ownL : wr.ownsRow (w.heap.size + 2) 25 6 lv acc.length cs.flatten
  ownK : wr.ownsRow (w.heap.size + 2) 9 1 kv ks.length (ks.map Value.string)
  ne : ∀ g, lv.ownBlock = some g → kv.ownBlock ≠ some g
  map : OwnKeys wr mb ms
  mbge : w.heap.size + 2 ≤ mb
  neL : lv.ownBlock ≠ some mb
  neK : kv.ownBlock ≠ some mb
  js : JsInU (fun g => w.heap.size + 2 ≤ g ∧ lv.ownBlock ≠ some g ∧ kv.ownBlock ≠ some g ∧ g ≠ mb) wr acc cs
  frm : Frm (One pb) w wr

section
variable {pb d k k2 mb : Nat} {s : ByteArray} {w wr w1 w2 w3 w4 v : World} {ms ks : List ByteArray} {acc : List J} {cs : List (List Value)} {lv kv : Value}
theorem ObAt.drew (h : ObAt pb d s w wr k mb ms ks acc cs lv kv) : ObAt pb d s w wr.drew k mb ms ks acc cs lv kv :=
  ⟨h.pat, h.jb, h.rb, own_same h.ownL fun _ _ _ => rfl, own_same h.ownK fun _ _ _ => rfl, h.ne, h.map, h.mbge, h.neL, h.neK, h.js.imp fun _ _ hj => hj.same (fun _ _ _ => rfl) (Nat.le_refl _), h.frm.drew⟩
/-- Only the parser turned. -/
theorem ObAt.pass (h : ObAt pb d s w wr k mb ms ks acc cs lv kv) (hlt : pb < w.heap.size) (hf : Frm (One pb) wr w1) (hp : JPAt w1 pb s k2 (d + 1)) : ObAt pb d s w w1 k2 mb ms ks acc cs lv kv := by
  have hm := h.mbge
  exact ⟨hp, h.jb.frm hf (by unfold One; omega), h.rb.frm hf (by unfold One; omega), own_keep h.ownL hf fun g hg hgp => by have := (own_lt h.ownL hg).1; have : g = pb := hgp; omega,
    own_keep h.ownK hf fun g hg hgp => (by have := (own_lt h.ownK hg).1; have : g = pb := hgp; omega), h.ne, h.map.frm hf (by unfold One; omega), h.mbge, h.neL, h.neK,
    h.js.imp fun q c hq => hq.frm hf fun g hg _ hgp => (by have := hg.1; have : g = pb := hgp; omega), h.frm.trans hf⟩
/-- Only the set turned. -/
theorem ObAt.noted (h : ObAt pb d s w wr k mb ms ks acc cs lv kv) (hlt : pb < w.heap.size) (hf : Frm (One mb) wr w1) {ms' : List ByteArray} (hm : OwnKeys w1 mb ms') : ObAt pb d s w w1 k mb ms' ks acc cs lv kv := by
  have hmb := h.mbge
  have hsz := h.frm.size
  exact ⟨h.pat.frm hf (by unfold One; omega), h.jb.frm hf (by unfold One; omega), h.rb.frm hf (by unfold One; omega), own_keep h.ownL hf fun g hg hgp => by have : g = mb := hgp; subst this; exact h.neL hg,
    own_keep h.ownK hf fun g hg hgp => (by have : g = mb := hgp; subst this; exact h.neK hg), h.ne, hm, h.mbge, h.neL, h.neK,
    h.js.imp fun q c hq => hq.frm hf fun g hg _ hgp => hg.2.2.2 hgp, frm_new_one h.frm (by omega) hf⟩
theorem ObAt.keyed (h : ObAt pb d s w wr k mb ms ks acc cs lv kv) (hlt : pb < w.heap.size) (o : Obj) (key : ByteArray) (w2 : World) (v' : Value) (hg : (wr.alloc o).grownBy w2 kv.ownBlock) (hn : NewRow (wr.alloc o) kv v')
    (hown : w2.ownsRow (w.heap.size + 2) 9 1 v' (ks.length + 1) (ks.map Value.string ++ [.string key])) : ObAt pb d s w (w2.setCell ⟨w.heap.size + 1, 5, none⟩ v') k mb ms (ks ++ [key]) acc cs lv v' := by
  have hmb := h.mbge
  have hf : Frm (fun g => False ∨ g = w.heap.size + 1 ∨ kv.ownBlock = some g) wr (w2.setCell ⟨w.heap.size + 1, 5, none⟩ v') := frm_app (Frm.refl _ wr) hg
  have hv' : ∀ g, v'.ownBlock = some g → kv.ownBlock = some g ∨ wr.heap.size < g := fun g e => (hn g e).imp id fun h => by simp at h; omega
  have hL := fun g (hg : lv.ownBlock = some g) => own_lt h.ownL hg
  have hK := fun g (hg : kv.ownBlock = some g) => own_lt h.ownK hg
  have hml := h.map.lt
  have hwsz := h.jb.lt
  have jb2 : J6 w2 (w.heap.size + 1) (.int .i64 5) (.bool false) (.int .i64 0) (.string ⟨#[]⟩) lv kv :=
    (hg.block _ (by simp; omega) (fun e => by have := hK _ e.symm; omega)).trans ((Below.heap_alloc _ _ _ hwsz).trans h.jb)
  refine ⟨h.pat.frm hf ?_, jb2.set5 v', h.rb.frm hf ?_, own_keep h.ownL hf ?_, ?_, ?_, h.map.frm hf ?_, hmb, h.neL, ?_, ?_, ?_⟩
  · rintro (h0 | h0 | h0); exact h0; omega; have := hK _ h0; omega
  · rintro (h0 | h0 | h0); exact h0; omega; have := hK _ h0; omega
  · intro g hg; rintro (h0 | h0 | h0); exact h0; have := hL _ hg; omega; exact h.ne g hg h0
  · rw [List.map_append, List.length_append]
    exact own_same hown fun g hb hl => Below.heap_setCell _ _ _ _ (show g ≠ w.heap.size + 1 by omega)
  · intro g hg e; rcases hv' g e with h1 | h1; exact h.ne g hg h1; have := hL _ hg; omega
  · rintro (h0 | h0 | h0); exact h0; omega; exact h.neK h0
  · intro e; rcases hv' _ e with h1 | h1; exact h.neK h1; omega
  · refine h.js.imp fun q c hq => ?_
    have h1 : JInU (fun g => (w.heap.size + 2 ≤ g ∧ lv.ownBlock ≠ some g ∧ kv.ownBlock ≠ some g ∧ g ≠ mb) ∧ g < wr.heap.size) wr q c := hq.mono fun g hl hF => ⟨hF, hl⟩
    refine (h1.frm hf ?_).mono fun g _ hF => ⟨hF.1.1, hF.1.2.1, fun e => ?_, hF.1.2.2.2⟩
    · intro g hF _; rintro (h0 | h0 | h0); exact h0; have := hF.1.1; omega; exact hF.1.2.2.1 h0
    · rcases hv' g e with h2 | h2; exact hF.1.2.2.1 h2; have := hF.2; omega
  · have hsz := h.frm.size
    refine ⟨hf.os.trans h.frm.os, hf.tape.trans h.frm.tape, hf.output.trans h.frm.output, Nat.le_trans hsz hf.size, fun g hl hn => ?_⟩
    exact (hf.block g (by omega) (by rintro (h0 | h0 | h0); exact h0; omega; have := hK _ h0; omega)).trans (h.frm.block g hl hn)
theorem ObAt.step {j : J} {c : List Value} (h : ObAt pb d s w wr k mb ms ks acc cs lv kv) (hlt : pb < w.heap.size)
    (hp : JPAt w1 pb s k2 (d + 1)) (hf0 : Frm (One pb) wr w1) (hj : JInU (fun g => wr.heap.size ≤ g) w1 j c) (o : Obj) (w2 : World) (v' : Value) (hg : (w1.alloc o).grownBy w2 lv.ownBlock) (hn : NewRow (w1.alloc o) lv v')
    (hown : w2.ownsRow (w.heap.size + 2) 25 6 v' (acc.length + 1) (cs.flatten ++ c)) : ObAt pb d s w (w2.setCell ⟨w.heap.size + 1, 4, none⟩ v') k2 mb ms ks (acc ++ [j]) (cs ++ [c]) v' kv := by
  have hq1 := h.pass hlt hf0 hp
  have hmb := h.mbge
  have hf : Frm (fun g => False ∨ g = w.heap.size + 1 ∨ lv.ownBlock = some g) w1 (w2.setCell ⟨w.heap.size + 1, 4, none⟩ v') := frm_app (Frm.refl _ w1) hg
  have hv' : ∀ g, v'.ownBlock = some g → lv.ownBlock = some g ∨ w1.heap.size < g := fun g e => (hn g e).imp id fun h => by simp at h; omega
  have hL := fun g (hg : lv.ownBlock = some g) => own_lt hq1.ownL hg
  have hL0 := fun g (hg : lv.ownBlock = some g) => own_lt h.ownL hg
  have hK := fun g (hg : kv.ownBlock = some g) => own_lt hq1.ownK hg
  have hK0 := fun g (hg : kv.ownBlock = some g) => own_lt h.ownK hg
  have hml := hq1.map.lt
  have hml0 := h.map.lt
  have hwsz := hq1.jb.lt
  have hwsz0 := h.jb.lt
  have jb2 : J6 w2 (w.heap.size + 1) (.int .i64 5) (.bool false) (.int .i64 0) (.string ⟨#[]⟩) lv kv :=
    (hg.block _ (by simp; omega) (fun e => by have := hL _ e.symm; omega)).trans ((Below.heap_alloc _ _ _ hwsz).trans hq1.jb)
  refine ⟨hq1.pat.frm hf ?_, jb2.set4 v', hq1.rb.frm hf ?_, ?_, own_keep hq1.ownK hf ?_, ?_, hq1.map.frm hf ?_, hmb, ?_, h.neK, ?_, ?_⟩
  · rintro (h0 | h0 | h0); exact h0; omega; have := hL _ h0; omega
  · rintro (h0 | h0 | h0); exact h0; omega; have := hL _ h0; omega
  · rw [List.flatten_append]
    simp only [List.flatten_cons, List.flatten_nil, List.append_nil, List.length_append, List.length_cons, List.length_nil]
    exact own_same hown fun g hb hl => Below.heap_setCell _ _ _ _ (show g ≠ w.heap.size + 1 by omega)
  · intro g hg; rintro (h0 | h0 | h0); exact h0; have := hK _ hg; omega; exact h.ne g h0 hg
  · intro g e hg; rcases hv' g e with h1 | h1; exact h.ne g h1 hg; have := hK _ hg; omega
  · rintro (h0 | h0 | h0); exact h0; omega; exact h.neL h0
  · intro e; rcases hv' _ e with h1 | h1; exact h.neL h1; omega
  · have keep : ∀ {F : Nat → Prop} {q : J} {c : List Value}, JInU F w1 q c → (∀ g, g < w1.heap.size → F g → w.heap.size + 2 ≤ g ∧ lv.ownBlock ≠ some g ∧ kv.ownBlock ≠ some g ∧ g ≠ mb) → JInU (fun g => w.heap.size + 2 ≤ g ∧ v'.ownBlock ≠ some g ∧ kv.ownBlock ≠ some g ∧ g ≠ mb) (w2.setCell ⟨w.heap.size + 1, 4, none⟩ v') q c := by
      intro F q c hq hF
      have h1 : JInU (fun g => (w.heap.size + 2 ≤ g ∧ lv.ownBlock ≠ some g ∧ kv.ownBlock ≠ some g ∧ g ≠ mb) ∧ g < w1.heap.size) w1 q c := hq.mono fun g hl hFg => ⟨hF g hl hFg, hl⟩
      refine (h1.frm hf ?_).mono fun g _ hF => ⟨hF.1.1, fun e => ?_, hF.1.2.2⟩
      · intro g hF _; rintro (h0 | h0 | h0); exact h0; have := hF.1.1; omega; exact hF.1.2.1 h0
      · rcases hv' g e with h2 | h2; exact hF.1.2.1 h2; have := hF.2; omega
    exact JsInU.snoc (hq1.js.imp fun q c hq => keep hq fun g _ hg => hg) (keep hj fun g _ hg => ⟨by omega, fun e => by have := hL0 _ e; omega, fun e => by have := hK0 _ e; omega, by omega⟩)
  · have hsz := hq1.frm.size
    refine ⟨hf.os.trans hq1.frm.os, hf.tape.trans hq1.frm.tape, hf.output.trans hq1.frm.output, Nat.le_trans hsz hf.size, fun g hl hn => ?_⟩
    exact (hf.block g (by omega) (by rintro (h0 | h0 | h0); exact h0; omega; have := hL _ h0; omega)).trans (hq1.frm.block g hl hn)
theorem ObAt.jbw (h : ObAt pb d s w wr k mb ms ks acc cs lv kv) (hf : Frm (One pb) wr w1) (hlt : pb < w.heap.size) (o : Obj) (w2 : World) (hg : (w1.alloc o).grownBy w2 lv.ownBlock) :
    J6 w2 (w.heap.size + 1) (.int .i64 5) (.bool false) (.int .i64 0) (.string ⟨#[]⟩) lv kv := by
  have h1 := h.jb.frm hf (by unfold One; omega)
  have hl := h1.lt
  exact (hg.block _ (by simp; omega) (fun e => by have := own_block h.ownL e; omega)).trans ((Below.heap_alloc _ _ _ hl).trans h1)
theorem ObAt.jbk (h : ObAt pb d s w wr k mb ms ks acc cs lv kv) (o : Obj) (w2 : World) (hg : (wr.alloc o).grownBy w2 kv.ownBlock) :
    J6 w2 (w.heap.size + 1) (.int .i64 5) (.bool false) (.int .i64 0) (.string ⟨#[]⟩) lv kv := by
  have h1 := h.jb
  have hl := h1.lt
  exact (hg.block _ (by simp; omega) (fun e => by have := own_block h.ownK e; omega)).trans ((Below.heap_alloc _ _ _ hl).trans h1)
theorem ObAt.fin (h : ObAt pb d s w w3 k mb ms ks acc cs lv kv) (hlt : pb < w.heap.size) (hf : Frm (One pb) w3 w4) (hv : Frm (One w.heap.size) w4 v) :
    JInU (fun g => w.heap.size ≤ g) v (jObj ks acc) [.int .i64 5, .bool false, .int .i64 0, .string ⟨#[]⟩, lv, kv] ∧ Frm (One pb) w v := by
  have oL := own_frm (own_frm h.ownL hf fun g hg hgp => by have : g = pb := hgp; omega) hv fun g hg hgp => by have : g = w.heap.size := hgp; omega
  have oK := own_frm (own_frm h.ownK hf fun g hg hgp => by have : g = pb := hgp; omega) hv fun g hg hgp => by have : g = w.heap.size := hgp; omega
  have j5 : JsInU (fun g => w.heap.size ≤ g) v acc cs := h.js.imp fun q c hq =>
    ((hq.frm hf fun g hg _ hgp => by have : g = pb := hgp; have := hg.1; omega).frm hv fun g hg _ hgp => by have : g = w.heap.size := hgp; have := hg.1; omega).mono fun g _ hg => by have := hg.1; omega
  refine ⟨JInU.mk 5 false 0 ⟨#[]⟩ acc ks lv kv cs (row_of_ownU oL fun k hk => by have := own_block oL hk.symm; omega) (row_of_ownU oK fun k hk => by have := own_block oK hk.symm; omega) j5.1 j5.2, frm_new_one (h.frm.trans hf) (Nat.le_refl _) hv⟩
end
/-- One round of an object, plainly. -/
theorem objAt_eq (l : List UInt8) (f : Nat → Rd J) (g i : Nat) (ks : List ByteArray) (acc : List J) :
    objAt l f (g + 1) i ks acc = (match keyAt l i with
      | .error e => .error e
      | .ok (k, i2) => if seenB ks ⟨k.toArray⟩ then .error 300 else if wordAt [58] l i2 then
          (match valW l f (i2 + 1) with
            | .error e => .error e
            | .ok (j, i3) => if wordAt [125] l i3 then .ok (jObj (ks ++ [⟨k.toArray⟩]) (acc ++ [j]), i3 + 1) else if wordAt [44] l i3 then objAt l f g (i3 + 1) (ks ++ [⟨k.toArray⟩]) (acc ++ [j]) else .error 300)
        else .error 300) := by
  conv => lhs; unfold objAt
  unfold keyAt
  by_cases h : pk l (skipW l i) = 34
  · obtain ⟨b, hb, hbc, _⟩ := pk_some h (by omega)
    have e : l[skipW l i]? = some 34 := by rw [hb, show b = 34 from UInt8.toNat_inj.1 hbc]
    rw [if_pos e, if_pos h]
    cases textOf l (skipW l i) with
    | error x => rfl
    | ok q =>
      obtain ⟨k, i2⟩ := q
      show (if ks.any (fun q => q.data.toList == k) = true then _ else _) = (if seenB ks ⟨k.toArray⟩ = true then _ else _)
      rw [show seenB ks ⟨k.toArray⟩ = ks.any (fun q => q.data.toList == k) from rfl]
      split
      · rfl
      · split
        · unfold valW
          cases f (skipW l (skipW l i2 + 1)) with
          | error x => rfl
          | ok q => rfl
        · rfl
  · have e : ¬ l[skipW l i]? = some 34 := fun e => h (by unfold pk; rw [e]; rfl)
    rw [if_neg e, if_neg h]
end Go.Proofs.YtcobadgpelhcoaaDoor
