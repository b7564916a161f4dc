/- The document's parser: a list, an object so far. What is read leads on. Plain mathematics. The document's parser: lists. The document's parser: lists that are not empty. -/
import Derived.Test.YtcobadgpelhcoaaDoorRVal
import Derived.Test.YtcobadgpelhcoaaDoorDObAt
import Derived.Test.YtcobadgpelhcoaaDoorDList2
import Derived.Deep.Cut
namespace Go.Proofs.YtcobadgpelhcoaaDoor
open Go.Conc Go.RowKit
set_option linter.unusedVariables false

/-- What is built so far stands in a block behind the answer's own. -/
structure RAt (pb : Nat) (s : ByteArray) (kind : Int) (w wr : World) (k : Nat) (c : Int) (nl nk : Nat) (xs ys : List Value) (lv kv : Value) : Prop where
  pat : PAt wr pb s k c
  jb : J6 wr (w.heap.size + 1) (.int .i64 kind) (.bool false) (.int .i64 0) (.string ⟨#[]⟩) lv kv
  rb : J6 wr w.heap.size (.int .i64 0) (.bool false) (.int .i64 0) (.string ⟨#[]⟩) (.slice none 0 0) (.slice none 0 0)
  ownL : wr.ownsRow (w.heap.size + 2) 25 6 lv nl xs
  ownK : wr.ownsRow (w.heap.size + 2) 9 1 kv nk ys
  ne : ∀ g, lv.ownBlock = some g → kv.ownBlock ≠ some g
  frm : Frm (One pb) w wr
/-- The blocks of the values within. -/
def RF (w : World) (lv kv : Value) (g : Nat) : Prop := w.heap.size + 2 ≤ g ∧ lv.ownBlock ≠ some g ∧ kv.ownBlock ≠ some g

section
variable {pb k k2 nl nk : Nat} {s : ByteArray} {kind c c2 : Int} {w wr w1 w2 : World} {xs ys : List Value} {lv kv : Value}
theorem RAt.pass (h : RAt pb s kind w wr k c nl nk xs ys lv kv) (hlt : pb < w.heap.size) (hf : Frm (One pb) wr w1) (hp : PAt w1 pb s k2 c2) : RAt pb s kind w w1 k2 c2 nl nk xs ys lv kv :=
  ⟨hp, h.jb.frm hf (by unfold One; omega), h.rb.frm hf (by unfold One; omega), own_keep h.ownL hf fun g hg hgp => by have := (own_lt h.ownL hg).1; have : g = pb := hgp; omega,
    own_keep h.ownK hf fun g hg hgp => (by have := (own_lt h.ownK hg).1; have : g = pb := hgp; omega), h.ne, h.frm.trans hf⟩
theorem RAt.drewN (h : RAt pb s kind w wr k c nl nk xs ys lv kv) (n : Nat) : RAt pb s kind w (wr.drewN n) k c nl nk xs ys lv kv :=
  ⟨h.pat, h.jb, h.rb, own_same h.ownL fun _ _ _ => rfl, own_same h.ownK fun _ _ _ => rfl, h.ne, h.frm.drewN n⟩
theorem js_pass {l : List J} {cs : List (List Value)} (h : JsIn (RF w lv kv) wr l cs) (hlt : pb < w.heap.size) (hf : Frm (One pb) wr w1) : JsIn (RF w lv kv) w1 l cs :=
  h.imp fun q c hq => hq.frm hf fun g hg _ hgp => (by have := hg.1; have : g = pb := hgp; omega)
/-- A value just read. -/
theorem RAt.news (h : RAt pb s kind w wr k c nl nk xs ys lv kv) {j : J} {cc : List Value} (hj : JIn (fun g => wr.heap.size ≤ g) w1 j cc) : JIn (RF w lv kv) w1 j cc :=
  hj.mono fun g _ hg => ⟨by have := h.jb.lt; omega, fun e => by have := (own_lt h.ownL e).2; omega, fun e => by have := (own_lt h.ownK e).2; omega⟩
theorem frm_grow {F : Nat → Prop} {wb : World} {lv v' : Value} {b j : Nat} (hb : Below w1.heap.size w1 wb) (hg : wb.grownBy w2 lv.ownBlock) (hF : ∀ g, g = b ∨ lv.ownBlock = some g → g < w1.heap.size → F g) : Frm F w1 (w2.setCell ⟨b, j, none⟩ v') := by
  have hs := hg.size
  have hs1 := hb.size
  refine ⟨hg.os.trans hb.os, hg.tape.trans hb.tape, hg.output.trans hb.output, by simp [World.setCell] at hs ⊢; omega, fun g hl hn => ?_⟩
  have h1 : g ≠ b := fun e => hn (hF g (.inl e) hl)
  have h2 : lv.ownBlock ≠ some g := fun e => hn (hF g (.inr e) hl)
  exact (Below.heap_setCell _ _ _ _ h1).trans ((hg.block g (by omega) (fun e => h2 e.symm)).trans (hb.block g hl))
theorem frm_new_of {F G : Nat → Prop} (h : Frm F w w1) (h2 : Frm G w1 w2) (hG : ∀ g, G g → w.heap.size ≤ g) : Frm F w w2 :=
  ⟨h2.os.trans h.os, h2.tape.trans h.tape, h2.output.trans h.output, Nat.le_trans h.size h2.size, fun k hk hn => (h2.block k (Nat.lt_of_lt_of_le hk h.size) (fun e => by have := hG k e; omega)).trans (h.block k hk hn)⟩
theorem own_set {e size n : Nat} {v u : Value} {b j : Nat} {base : Nat} (h : w2.ownsRow base e size v n xs) (hb : b < base) : (w2.setCell ⟨b, j, none⟩ u).ownsRow base e size v n xs :=
  own_same h fun g hg _ => Below.heap_setCell _ _ _ _ (by show g ≠ b; omega)
theorem own_move {e size n : Nat} {v u : Value} {wb : World} {b j : Nat} {base : Nat} (h : w1.ownsRow base e size v n xs) (hb : Below w1.heap.size w1 wb) (hg : wb.grownBy w2 lv.ownBlock) (hv : ∀ g, lv.ownBlock = some g → v.ownBlock ≠ some g) (hbb : b < base) :
    (w2.setCell ⟨b, j, none⟩ u).ownsRow base e size v n xs :=
  own_keep h (frm_grow (F := fun g => g = b ∨ lv.ownBlock = some g) hb hg fun g hg _ => hg) fun g hg hF => by
    rcases hF with rfl | hF
    · have := (own_lt h hg).1; omega
    · exact hv g hF hg
theorem RAt.addL (h : RAt pb s kind w w1 k c nl nk xs ys lv kv) (hlt : pb < w.heap.size) {wb : World} {v' : Value} {p : List Value} (hb : Below w1.heap.size w1 wb) (hg : wb.grownBy w2 lv.ownBlock) (hn : NewRow wb lv v')
    (hown : w2.ownsRow (w.heap.size + 2) 25 6 v' (nl + 1) (xs ++ p)) : RAt pb s kind w (w2.setCell ⟨w.heap.size + 1, 4, none⟩ v') k c (nl + 1) nk (xs ++ p) ys v' kv := by
  have hl := fun g e => (own_lt h.ownL (g := g) e)
  have hf : Frm (fun g => g = w.heap.size + 1 ∨ lv.ownBlock = some g) w1 (w2.setCell ⟨w.heap.size + 1, 4, none⟩ v') := frm_grow hb hg fun g hg _ => hg
  have hjl := h.jb.lt
  have jb2 : J6 w2 (w.heap.size + 1) (.int .i64 kind) (.bool false) (.int .i64 0) (.string ⟨#[]⟩) lv kv :=
    (hg.block _ (by have := hb.size; omega) (fun e => by have := (hl _ e.symm).1; omega)).trans ((hb.block _ hjl).trans h.jb)
  refine ⟨(hf.block pb h.pat.lt (fun e => ?_)).trans h.pat, jb2.set4 v', (hf.block _ h.rb.lt (fun e => ?_)).trans h.rb, own_set hown (by omega), own_move h.ownK hb hg h.ne (by omega), fun g e e2 => ?_, ?_⟩
  · rcases e with e | e
    · omega
    · have := (hl _ e).1; omega
  · rcases e with e | e
    · omega
    · have := (hl _ e).1; omega
  · have := own_lt h.ownK e2
    rcases hn g e with h1 | h1
    · exact h.ne g h1 e2
    · have := hb.size; omega
  · exact frm_new_of h.frm hf fun g hg => by
      rcases hg with e | e
      · omega
      · have := (hl _ e).1; omega
theorem RAt.addK (h : RAt pb s kind w w1 k c nl nk xs ys lv kv) (hlt : pb < w.heap.size) {wb : World} {v' : Value} {p : List Value} (hb : Below w1.heap.size w1 wb) (hg : wb.grownBy w2 kv.ownBlock) (hn : NewRow wb kv v')
    (hown : w2.ownsRow (w.heap.size + 2) 9 1 v' (nk + 1) (ys ++ p)) : RAt pb s kind w (w2.setCell ⟨w.heap.size + 1, 5, none⟩ v') k c nl (nk + 1) xs (ys ++ p) lv v' := by
  have hl := fun g e => (own_lt h.ownK (g := g) e)
  have hf : Frm (fun g => g = w.heap.size + 1 ∨ kv.ownBlock = some g) w1 (w2.setCell ⟨w.heap.size + 1, 5, none⟩ v') := frm_grow hb hg fun g hg _ => hg
  have hjl := h.jb.lt
  have jb2 : J6 w2 (w.heap.size + 1) (.int .i64 kind) (.bool false) (.int .i64 0) (.string ⟨#[]⟩) lv kv :=
    (hg.block _ (by have := hb.size; omega) (fun e => by have := (hl _ e.symm).1; omega)).trans ((hb.block _ hjl).trans h.jb)
  refine ⟨(hf.block pb h.pat.lt (fun e => ?_)).trans h.pat, jb2.set5 v', (hf.block _ h.rb.lt (fun e => ?_)).trans h.rb, own_move h.ownL hb hg (fun g e e2 => h.ne g e2 e) (by omega), own_set hown (by omega), fun g e e2 => ?_, ?_⟩
  · rcases e with e | e
    · omega
    · have := (hl _ e).1; omega
  · rcases e with e | e
    · omega
    · have := (hl _ e).1; omega
  · have := own_lt h.ownL e
    rcases hn g e2 with h1 | h1
    · exact h.ne g e h1
    · have := hb.size; omega
  · exact frm_new_of h.frm hf fun g hg => by
      rcases hg with e | e
      · omega
      · have := (hl _ e).1; omega
theorem js_addL {l : List J} {cs : List (List Value)} (h : JsIn (RF w lv kv) w1 l cs) {wb : World} {v' : Value} (hb : Below w1.heap.size w1 wb) (hg : wb.grownBy w2 lv.ownBlock) (hn : NewRow wb lv v') :
    JsIn (RF w v' kv) (w2.setCell ⟨w.heap.size + 1, 4, none⟩ v') l cs := by
  have hf : Frm (fun g => g = w.heap.size + 1 ∨ lv.ownBlock = some g) w1 (w2.setCell ⟨w.heap.size + 1, 4, none⟩ v') := frm_grow hb hg fun g hg _ => hg
  have hs := hb.size
  refine h.imp fun q c hq => ?_
  have h1 : JIn (fun g => RF w lv kv g ∧ g < w1.heap.size) w1 q c := hq.mono fun g hl hFg => ⟨hFg, hl⟩
  refine (h1.frm hf fun g hg _ hgp => ?_).mono fun g _ hg => ⟨hg.1.1, fun e => ?_, hg.1.2.2⟩
  · have := hg.1.1
    rcases hgp with e | e
    · omega
    · exact hg.1.2.1 e
  · rcases hn g e with h1 | h1
    · exact hg.1.2.1 h1
    · have := hg.2; omega
theorem js_addK {l : List J} {cs : List (List Value)} (h : JsIn (RF w lv kv) w1 l cs) {wb : World} {v' : Value} (hb : Below w1.heap.size w1 wb) (hg : wb.grownBy w2 kv.ownBlock) (hn : NewRow wb kv v') :
    JsIn (RF w lv v') (w2.setCell ⟨w.heap.size + 1, 5, none⟩ v') l cs := by
  have hf : Frm (fun g => g = w.heap.size + 1 ∨ kv.ownBlock = some g) w1 (w2.setCell ⟨w.heap.size + 1, 5, none⟩ v') := frm_grow hb hg fun g hg _ => hg
  have hs := hb.size
  refine h.imp fun q c hq => ?_
  have h1 : JIn (fun g => RF w lv kv g ∧ g < w1.heap.size) w1 q c := hq.mono fun g hl hFg => ⟨hFg, hl⟩
  refine (h1.frm hf fun g hg _ hgp => ?_).mono fun g _ hg => ⟨hg.1.1, hg.1.2.1, fun e => ?_⟩
  · have := hg.1.1
    rcases hgp with e | e
    · omega
    · exact hg.1.2.2 e
  · rcases hn g e with h1 | h1
    · exact hg.1.2.2 h1
    · have := hg.2; omega
/-- What stands there, as a value. -/
theorem RAt.val {acc : List J} {ks : List ByteArray} {cs : List (List Value)} (h : RAt pb s kind w wr k c acc.length ks.length cs.flatten (ks.map Value.string) lv kv) (hj : JsIn (RF w lv kv) wr acc cs) :
    JIn (fun g => w.heap.size ≤ g ∧ g ≠ w.heap.size) wr (.mk kind false 0 ⟨#[]⟩ acc ks) [.int .i64 kind, .bool false, .int .i64 0, .string ⟨#[]⟩, lv, kv] :=
  .mk kind false 0 ⟨#[]⟩ acc ks lv kv cs (row_of_own h.ownL fun g e => by have := (own_lt h.ownL e).1; omega) (row_of_own h.ownK fun g e => by have := (own_lt h.ownK e).1; omega) hj.1
    fun i j c h1 h2 => (hj.2 i j c h1 h2).mono fun g _ hg => by have := hg.1; omega
end
theorem rat_new {pb i : Nat} {s : ByteArray} {w : World} {c : Int} (kind : Int) (h : PAt w pb s i c) :
    RAt pb s kind w ((w.alloc (.cells #[.int .i64 0, .bool false, .int .i64 0, .string ⟨#[]⟩, .slice none 0 0, .slice none 0 0] 25)).alloc (.cells #[.int .i64 kind, .bool false, .int .i64 0, .string ⟨#[]⟩, .slice none 0 0, .slice none 0 0] 25))
      i c 0 0 [] [] (.slice none 0 0) (.slice none 0 0) := by
  have hb := ((Below.refl _ w).alloc (Nat.le_refl _) (.cells #[.int .i64 0, .bool false, .int .i64 0, .string ⟨#[]⟩, .slice none 0 0, .slice none 0 0] 25)).alloc (by simp) (.cells #[.int .i64 kind, .bool false, .int .i64 0, .string ⟨#[]⟩, .slice none 0 0, .slice none 0 0] 25)
  exact ⟨h.new hb, j6_new1 w _ _ _ _ _ _ _, j6_alloc (j6_new w _ _ _ _ _ _) _, World.ownsRow_nil _ _ _ _, World.ownsRow_nil _ _ _ _, fun g e => by simp [Value.ownBlock] at e, Frm.of_new hb _⟩
end Go.Proofs.YtcobadgpelhcoaaDoor

namespace Go.Proofs.YtcobadgpelhcoaaDoor
set_option linter.unusedVariables false

theorem esc_ge {l bs : List UInt8} {i k : Nat} (h : escAt l i = .ok (bs, k)) : i ≤ k := by
  unfold escAt at h
  repeat' split at h
  all_goals first
    | (simp only [reduceCtorEq] at h; done)
    | (simp only [Except.ok.injEq, Prod.mk.injEq] at h; obtain ⟨_, rfl⟩ := h; omega)
theorem textAt_ge {l : List UInt8} : ∀ (f i : Nat) (acc bs : List UInt8) (k : Nat), textAt l f i acc = .ok (bs, k) → i ≤ k
  | 0, i, acc, bs, k, h => by cases h
  | f + 1, i, acc, bs, k, h => by
    unfold textAt at h
    split at h
    · cases h
    split at h
    · cases h; omega
    split at h
    · split at h
      · cases h
      · rename_i bs' k' he
        have := esc_ge he
        have := textAt_ge f _ _ _ _ h
        omega
    · have := textAt_ge f _ _ _ _ h
      omega
theorem textOf_ge {l bs : List UInt8} {i k : Nat} (h : textOf l i = .ok (bs, k)) : i ≤ k := by
  have := textAt_ge _ _ _ _ _ h; omega
theorem num_ge {l : List UInt8} {i k : Nat} {n : Int} (h : numAt l i = .ok (n, k)) : i ≤ k := by
  rw [numAt_eq] at h
  have hg : i ≤ (if wordAt [45] l i then i + 1 else i) := by split <;> omega
  generalize (if wordAt [45] l i then i + 1 else i) = fr at *
  unfold numFrom at h
  dsimp only at h
  generalize hV : (if wordAt [45] l i = true then -((digitsVal ((l.drop fr).take (spanOf isDigit l fr)) : Nat) : Int) else ((digitsVal ((l.drop fr).take (spanOf isDigit l fr)) : Nat) : Int)) = V at h
  clear hV
  by_cases hc : (spanOf isDigit l fr = 0 ∨ (1 < spanOf isDigit l fr ∧ l[fr]? = some 48) ∨ (wordAt [45] l i = true ∧ digitsVal ((l.drop fr).take (spanOf isDigit l fr)) = 0) ∨ (if wordAt [45] l i then 9223372036854775808 else 9223372036854775807) < digitsVal ((l.drop fr).take (spanOf isDigit l fr))
      ∨ l[fr + spanOf isDigit l fr]? = some 46 ∨ l[fr + spanOf isDigit l fr]? = some 101 ∨ l[fr + spanOf isDigit l fr]? = some 69)
  · rw [if_pos hc] at h
    simp only [reduceCtorEq] at h
  · rw [if_neg hc] at h
    simp only [Except.ok.injEq, Prod.mk.injEq] at h
    obtain ⟨_, rfl⟩ := h
    omega
theorem listAt_ge {l : List UInt8} {f : Nat → Rd J} (hf : ∀ i j k, f i = .ok (j, k) → i ≤ k) : ∀ (g i : Nat) (acc : List J) (j : J) (k : Nat), listAt l f g i acc = .ok (j, k) → i ≤ k
  | 0, i, acc, j, k, h => by cases h
  | g + 1, i, acc, j, k, h => by
    unfold listAt at h
    have h1 := skipW_ge l i
    split at h
    · cases h
    rename_i j' k' he
    have h2 := hf _ _ _ he
    have h3 := skipW_ge l k'
    split at h
    · cases h; omega
    split at h
    · have := listAt_ge hf g _ _ _ _ h; omega
    · cases h
theorem objAt_ge {l : List UInt8} {f : Nat → Rd J} (hf : ∀ i j k, f i = .ok (j, k) → i ≤ k) : ∀ (g i : Nat) (ks : List ByteArray) (acc : List J) (j : J) (k : Nat), objAt l f g i ks acc = .ok (j, k) → i ≤ k
  | 0, i, ks, acc, j, k, h => by cases h
  | g + 1, i, ks, acc, j, k, h => by
    unfold objAt at h
    have h1 := skipW_ge l i
    split at h
    · split at h
      · cases h
      rename_i key i2 ht
      have h2 := textOf_ge ht
      have h3 := skipW_ge l i2
      have h4 := skipW_ge l (skipW l i2 + 1)
      split at h
      · cases h
      split at h
      · split at h
        · cases h
        rename_i j' i3 he
        have h5 := hf _ _ _ he
        have h6 := skipW_ge l i3
        split at h
        · cases h; omega
        split at h
        · have := objAt_ge hf g _ _ _ _ _ h; omega
        · cases h
      · cases h
    · cases h
theorem valF_ge {l : List UInt8} {sub : Option (Nat → Rd J)} (hs : ∀ f, sub = some f → ∀ i j k, f i = .ok (j, k) → i ≤ k) {i k : Nat} {j : J} (h : valF l sub i = .ok (j, k)) : i ≤ k := by
  cases hc : l[i]? with
  | none => unfold valF at h; rw [hc] at h; cases h
  | some c =>
    rw [valF_eq _ _ _ _ hc] at h
    have h1 := skipW_ge l (i + 1)
    split at h
    · cases h; omega
    split at h
    · cases h; omega
    split at h
    · cases h; omega
    split at h
    · unfold txR at h; split at h
      · cases h
      · rename_i ht; cases h; exact textOf_ge ht
    split at h
    · unfold listR at h; split at h
      · cases h
      split at h
      · cases h; omega
      · have := listAt_ge (hs _ rfl) _ _ _ _ _ h; omega
    split at h
    · unfold objR at h; split at h
      · cases h
      split at h
      · cases h; omega
      · have := objAt_ge (hs _ rfl) _ _ _ _ _ _ h; omega
    split at h
    · unfold nmR at h; split at h
      · cases h
      · rename_i ht; cases h; exact num_ge ht
    · cases h
theorem valAt_ge {l : List UInt8} : ∀ (d i : Nat) (j : J) (k : Nat), valAt l d i = .ok (j, k) → i ≤ k
  | 0, i, j, k, h => valF_ge (sub := none) (fun f e => by cases e) h
  | d + 1, i, j, k, h => valF_ge (sub := some (valAt l d)) (fun f e => by cases e; exact valAt_ge d) h
end Go.Proofs.YtcobadgpelhcoaaDoor

namespace Go.Proofs.YtcobadgpelhcoaaDoor
open Go.Conc Go.RowKit
set_option linter.unusedVariables false
set_option linter.unusedSimpArgs false

set_option maxHeartbeats 8000000 in
set_option maxRecDepth 100000 in
theorem plist_none (pb : Nat) (s : ByteArray) (i : Nat) (deep : Int) (w : World) (h : PAt w pb s i 0) (hs : s.size ≤ 65536) (hi : i < s.size) (hd : 16 < deep) :
    Calls Tryd.prog 36 #[.pointer (some ⟨pb, 0, none⟩), .int .i64 deep] w (PV pb s (.error 301) w) := by
  have hlt := h.lt
  have hne : w.heap.size ≠ pb := by omega
  have HA := Lib.hid (rat_new 4 h)
  clear h
  have g0 : decide (deep > 16) = true := by simpa using hd
  have g1 : decide (16 < deep) = true := by simpa using hd
  go_enter Tryd.func36, Tryd.ntmps36
  go_upto_region 2 with fail
  generalize (w.alloc (.cells #[.int .i64 0, .bool false, .int .i64 0, .string ⟨#[]⟩, .slice none 0 0, .slice none 0 0] 25)).alloc (.cells #[.int .i64 4, .bool false, .int .i64 0, .string ⟨#[]⟩, .slice none 0 0, .slice none 0 0] 25) = wa at *
  go_wp2_with (go_at_call 24; refine (pfail_any pb s i 0 301 _ HA.out.pat).mono ?_; rintro e w1 ⟨rfl, p1, f1⟩; rw [if_pos rfl] at p1; have HX := Lib.hid (HA.out.pass hlt f1 p1); clear p1 f1; have b0 := HX.out.jb.c0; have b1 := HX.out.jb.c1; have b2 := HX.out.jb.c2; have b3 := HX.out.jb.c3; have b4 := HX.out.jb.c4; have b5 := HX.out.jb.c5; have r0 := HX.out.rb.c0; have r1 := HX.out.rb.c1; have r2 := HX.out.rb.c2; have r3 := HX.out.rb.c3; have r4 := HX.out.rb.c4; have r5 := HX.out.rb.c5; have z0 := HX.out.rb.fz 0; have z1 := HX.out.rb.fz 1; have z2 := HX.out.rb.fz 2; have z3 := HX.out.rb.fz 3; have z4 := HX.out.rb.fz 4; have z5 := HX.out.rb.fz 5)
  have hv := HX.out.rb.fill (.int .i64 4) (.bool false) (.int .i64 0) (.string ⟨#[]⟩) (.slice none 0 0) (.slice none 0 0)
  change bodyPost _ _ _ _ _ (Fill6 w1 w.heap.size (.int .i64 4) (.bool false) (.int .i64 0) (.string ⟨#[]⟩) (.slice none 0 0) (.slice none 0 0))
  have hfin := pv_fin (r := (.error 301)) 4 false 0 ⟨#[]⟩ none 0 0 none 0 0 HX.out.rb HX.out.pat HX.out.frm (Nat.le_of_lt hi) (Nat.le_refl _) hne ⟨rfl, .inr rfl⟩
  generalize Fill6 w1 w.heap.size (.int .i64 4) (.bool false) (.int .i64 0) (.string ⟨#[]⟩) (.slice none 0 0) (.slice none 0 0) = v at *
  exact bodyPost_ret (v := .agg #[.int .i64 4, .bool false, .int .i64 0, .string ⟨#[]⟩, .slice none 0 0, .slice none 0 0]) (by simp [results, Tryd.results36, go_sem, hv.c0, hv.c1, hv.c2, hv.c3, hv.c4, hv.c5]) rfl hfin

set_option maxHeartbeats 8000000 in
set_option maxRecDepth 100000 in
theorem plist_empty (pb : Nat) (s : ByteArray) (i : Nat) (deep : Int) (w : World) (h : PAt w pb s i 0) (hs : s.size ≤ 65536) (hi : i < s.size) (hd : deep ≤ 16) (hw : wordAt [93] s.data.toList (skipW s.data.toList (i + 1)) = true) :
    Calls Tryd.prog 36 #[.pointer (some ⟨pb, 0, none⟩), .int .i64 deep] w (PV pb s (.ok (jList [], skipW s.data.toList (i + 1) + 1)) w) := by
  have HL := Lib.hid (show s.data.toList.length = s.size by simp)
  have hd2 : deep ≤ 16 := hd
  have g0 : decide (deep > 16) = false := by simp; omega
  have g1 : decide (16 < deep) = false := by simp; omega
  have hk0 : skipW s.data.toList (i + 1) ≤ s.size := by have := skipW_le s.data.toList (i + 1) (by rw [HL.out]; omega); rw [HL.out] at this; exact this
  have hk0i := skipW_ge s.data.toList (i + 1)
  have hk1 : skipW s.data.toList (i + 1) + 1 ≤ s.size := ((wordAt_iff s ⟨#[93]⟩ _ hk0).1 hw).1
  generalize hk : skipW s.data.toList (i + 1) = k0 at *
  have TW : Hid (∀ u, PAt u pb s k0 0 → Calls Tryd.prog 34 #[.pointer (some ⟨pb, 0, none⟩), .string ⟨#[93]⟩] u (PTold pb s (k0 + 1) 0 (.bool true) u)) := by
    intro u hu
    have := pword_any pb s ⟨#[93]⟩ k0 0 u hu (by omega) hs (by decide)
    rw [show (ByteArray.mk #[93]).data.toList = [93] from rfl, hw] at this
    exact this
  have hlt := h.lt
  have hne : w.heap.size ≠ pb := by omega
  have HA := Lib.hid (rat_new 4 h)
  clear h
  have HK := Lib.hid hk
  clear hk
  go_enter Tryd.func36, Tryd.ntmps36
  go_upto_region 2 with fail
  generalize (w.alloc (.cells #[.int .i64 0, .bool false, .int .i64 0, .string ⟨#[]⟩, .slice none 0 0, .slice none 0 0] 25)).alloc (.cells #[.int .i64 4, .bool false, .int .i64 0, .string ⟨#[]⟩, .slice none 0 0, .slice none 0 0] 25) = wa at *
  have c0 := HA.out.pat.c0; have c1 := HA.out.pat.c1; have c2 := HA.out.pat.c2; have q1 := HA.out.pat.fz 1; have q2 := HA.out.pat.fz 2
  go_wp2_with (first
    | (have hx := HX2.out; clear hx; go_at_call 34; refine (TW.out _ HX2.out.pat).mono ?_; rintro e w3 ⟨rfl, p1, f1⟩; have HX3 := Lib.hid (HX2.out.pass hlt f1 p1); clear p1 f1; have b0 := HX3.out.jb.c0; have b1 := HX3.out.jb.c1; have b2 := HX3.out.jb.c2; have b3 := HX3.out.jb.c3; have b4 := HX3.out.jb.c4; have b5 := HX3.out.jb.c5; have r0 := HX3.out.rb.c0; have r1 := HX3.out.rb.c1; have r2 := HX3.out.rb.c2; have r3 := HX3.out.rb.c3; have r4 := HX3.out.rb.c4; have r5 := HX3.out.rb.c5; have z0 := HX3.out.rb.fz 0; have z1 := HX3.out.rb.fz 1; have z2 := HX3.out.rb.fz 2; have z3 := HX3.out.rb.fz 3; have z4 := HX3.out.rb.fz 4; have z5 := HX3.out.rb.fz 5)
    | (go_at_call 22; have HX1 := Lib.hid ((HA.out.pass hlt (frm_at _ _ _ _) (HA.out.pat.setAt (i + 1)))); refine (pwhite_any pb s (i + 1) 0 _ HX1.out.pat (by omega) hs).mono ?_; rintro e w2 ⟨rfl, p1, f1⟩; rw [HK.out] at p1; have HX2 := Lib.hid (HX1.out.pass hlt f1 p1); clear p1 f1))
  have hv := HX3.out.rb.fill (.int .i64 4) (.bool false) (.int .i64 0) (.string ⟨#[]⟩) (.slice none 0 0) (.slice none 0 0)
  change bodyPost _ _ _ _ _ (Fill6 w3 w.heap.size (.int .i64 4) (.bool false) (.int .i64 0) (.string ⟨#[]⟩) (.slice none 0 0) (.slice none 0 0))
  have hfin := pv_fin (r := (.ok (jList [], k0 + 1))) 4 false 0 ⟨#[]⟩ none 0 0 none 0 0 HX3.out.rb HX3.out.pat HX3.out.frm hk1 (Nat.le_refl _) hne ⟨rfl, rfl, HX3.out.val (acc := []) (ks := []) (cs := []) (JsIn.nil _ _)⟩
  generalize Fill6 w3 w.heap.size (.int .i64 4) (.bool false) (.int .i64 0) (.string ⟨#[]⟩) (.slice none 0 0) (.slice none 0 0) = v at *
  exact bodyPost_ret (v := .agg #[.int .i64 4, .bool false, .int .i64 0, .string ⟨#[]⟩, .slice none 0 0, .slice none 0 0]) (by simp [results, Tryd.results36, go_sem, hv.c0, hv.c1, hv.c2, hv.c3, hv.c4, hv.c5]) rfl hfin
end Go.Proofs.YtcobadgpelhcoaaDoor

namespace Go.Proofs.YtcobadgpelhcoaaDoor
open Go.Conc Go.RowKit
set_option linter.unusedVariables false
set_option linter.unusedSimpArgs false

/-- It has failed. -/
def RFail (pb : Nat) (s : ByteArray) (kind : Int) (R : Rd J) (w wr : World) : Prop :=
  ∃ (k : Nat) (c : Int) (n1 n2 : Nat) (xs ys : List Value) (la : Option Addr) (nl lc : Nat) (ka : Option Addr) (nk kc : Nat), k ≤ s.size ∧ (c = 300 ∨ c = 301) ∧ R = .error c ∧ RAt pb s kind w wr k c n1 n2 xs ys (.slice la nl lc) (.slice ka nk kc)
/-- The loop of a list goes on, or it has failed. -/
def PLs (pb : Nat) (s : ByteArray) (f : Nat → Rd J) (R : Rd J) (w : World) (g : Nat) (wr : World) : Prop :=
  (∃ (k : Nat) (acc : List J) (cs : List (List Value)) (la : Option Addr) (nl lc : Nat), k ≤ s.size ∧ s.size + 1 ≤ k + g ∧ Hid (listAt s.data.toList f g k acc = R) ∧ acc.length ≤ k ∧
    RAt pb s 4 w wr k 0 acc.length 0 cs.flatten [] (.slice la nl lc) (.slice none 0 0) ∧ JsIn (RF w (.slice la nl lc) (.slice none 0 0)) wr acc cs)
  ∨ RFail pb s 4 R w wr
theorem RAt.jbg {pb k nl nk : Nat} {s : ByteArray} {kind c : Int} {w w1 w2 wb : World} {xs ys : List Value} {lv kv : Value} (h : RAt pb s kind w w1 k c nl nk xs ys lv kv) (hb : Below w1.heap.size w1 wb) (row : Value) (hr : row = lv ∨ row = kv) (hg : wb.grownBy w2 row.ownBlock) :
    J6 w2 (w.heap.size + 1) (.int .i64 kind) (.bool false) (.int .i64 0) (.string ⟨#[]⟩) lv kv := by
  have hjl := h.jb.lt
  refine (hg.block _ (by have := hb.size; omega) (fun e => ?_)).trans ((hb.block _ hjl).trans h.jb)
  rcases hr with rfl | rfl
  · have := (own_lt h.ownL e.symm).1; omega
  · have := (own_lt h.ownK e.symm).1; omega
theorem RAt.below {pb k nl nk : Nat} {s : ByteArray} {kind c : Int} {w w1 wb : World} {xs ys : List Value} {lv kv : Value} (h : RAt pb s kind w w1 k c nl nk xs ys lv kv) (hb : Below w1.heap.size w1 wb) : RAt pb s kind w wb k c nl nk xs ys lv kv :=
  have hf := Frm.of_new hb (fun _ => False)
  ⟨h.pat.new hb, h.jb.frm hf id, h.rb.frm hf id, own_keep h.ownL hf fun _ _ h => h, own_keep h.ownK hf fun _ _ h => h, h.ne, h.frm.trans (Frm.of_new hb _)⟩
theorem flat_snoc (cs : List (List Value)) (c : List Value) : cs.flatten ++ c = (cs ++ [c]).flatten := by simp
theorem len_snoc {α : Type} (l : List α) (a : α) : l.length + 1 = (l ++ [a]).length := by simp

theorem one_six (k : Int) (b : Bool) (n : Int) (s : ByteArray) (la : Option Addr) (nl lc : Nat) (ka : Option Addr) (nk kc : Nat) : ∀ u ∈ ([.int .i64 k, .bool b, .int .i64 n, .string s, .slice la nl lc, .slice ka nk kc] : List Value), u.oneCell' = true := by
  intro u hu
  simp only [List.mem_cons, List.not_mem_nil, or_false] at hu
  rcases hu with rfl | rfl | rfl | rfl | rfl | rfl <;> rfl

set_option maxHeartbeats 8000000 in
set_option maxRecDepth 100000 in
theorem plist_some (pb : Nat) (s : ByteArray) (i : Nat) (deep : Int) (w : World) (h : PAt w pb s i 0) (hs : s.size ≤ 65536) (hi : i < s.size) (f : Nat → Rd J) (hd : deep ≤ 16) (hd0 : 0 ≤ deep) (HS : ∀ k u, PAt u pb s k 0 → k ≤ s.size → Calls Tryd.prog 23 #[.pointer (some ⟨pb, 0, none⟩), .int .i64 deep] u (PV pb s (f k) u)) (hf : ∀ k j k2, f k = .ok (j, k2) → k ≤ k2) (hw : wordAt [93] s.data.toList (skipW s.data.toList (i + 1)) = false) :
    Calls Tryd.prog 36 #[.pointer (some ⟨pb, 0, none⟩), .int .i64 deep] w (PV pb s (listAt s.data.toList f (s.size + 1) (skipW s.data.toList (i + 1)) []) w) := by
  have HL := Lib.hid (show s.data.toList.length = s.size by simp)
  have hd2 : deep ≤ 16 := hd
  have g0 : decide (deep > 16) = false := by simp; omega
  have g1 : decide (16 < deep) = false := by simp; omega
  have hk0 : skipW s.data.toList (i + 1) ≤ s.size := by have := skipW_le s.data.toList (i + 1) (by rw [HL.out]; omega); rw [HL.out] at this; exact this
  have hk0i := skipW_ge s.data.toList (i + 1)
  generalize hk : skipW s.data.toList (i + 1) = k0 at *
  have TW : Hid (∀ u, PAt u pb s k0 0 → Calls Tryd.prog 34 #[.pointer (some ⟨pb, 0, none⟩), .string ⟨#[93]⟩] u (PTold pb s k0 0 (.bool false) u)) := by
    intro u hu
    have := pword_any pb s ⟨#[93]⟩ k0 0 u hu (by omega) hs (by decide)
    rw [show (ByteArray.mk #[93]).data.toList = [93] from rfl, hw] at this
    exact this
  have hlt := h.lt
  have hne : w.heap.size ≠ pb := by omega
  have HA := Lib.hid (rat_new 4 h)
  clear h
  have HK := Lib.hid hk
  have HSS := Lib.hid HS
  have HFf := Lib.hid hf
  clear hk HS hw hf
  generalize hR : listAt s.data.toList f (s.size + 1) k0 [] = R
  have HR := Lib.hid hR
  clear hR
  go_enter Tryd.func36, Tryd.ntmps36
  go_upto_region 2 with fail
  generalize (w.alloc (.cells #[.int .i64 0, .bool false, .int .i64 0, .string ⟨#[]⟩, .slice none 0 0, .slice none 0 0] 25)).alloc (.cells #[.int .i64 4, .bool false, .int .i64 0, .string ⟨#[]⟩, .slice none 0 0, .slice none 0 0] 25) = wa at *
  have c0 := HA.out.pat.c0; have c1 := HA.out.pat.c1; have c2 := HA.out.pat.c2; have q1 := HA.out.pat.fz 1; have q2 := HA.out.pat.fz 2
  go_wp2_with (first
    | (have hx := HX2.out; clear hx; go_at_call 34; refine (TW.out _ HX2.out.pat).mono ?_; rintro e w3 ⟨rfl, p1, f1⟩; have HX3 := Lib.hid (HX2.out.pass hlt f1 p1); clear p1 f1)
    | (go_at_call 22; have HX1 := Lib.hid ((HA.out.pass hlt (frm_at _ _ _ _) (HA.out.pat.setAt (i + 1)))); refine (pwhite_any pb s (i + 1) 0 _ HX1.out.pat (by omega) hs).mono ?_; rintro e w2 ⟨rfl, p1, f1⟩; rw [HK.out] at p1; have HX2 := Lib.hid (HX1.out.pass hlt f1 p1); clear p1 f1))
  go_loopg [] (s.size + 1) (fun g wr => PLs pb s f R w g wr)
  case atStart => exact .inl ⟨k0, [], [], none, 0, 0, hk0, by omega, HR.out, by simp, HX3.out, JsIn.nil _ _⟩
  case round =>
    clear HX1 HX2 HX3 HA TW HK HR c0 c1 c2 q1 q2
    rcases hrel with ⟨k, acc, cs, la0, nl0, lc0, hk, hkg, hla, hacc, hx, hj⟩ | ⟨k, c, n1, n2, xs, ys, la, nl, lc, ka, nk, kc, hk, hc, rfl, hx⟩
    rotate_left
    · have HX := Lib.hid hx
      have gc : (c == 0) = false := by simp; omega
      clear hx
      have c2 := HX.out.pat.c2
      have b0 := HX.out.jb.c0; have b1 := HX.out.jb.c1; have b2 := HX.out.jb.c2; have b3 := HX.out.jb.c3; have b4 := HX.out.jb.c4; have b5 := HX.out.jb.c5; have r0 := HX.out.rb.c0; have r1 := HX.out.rb.c1; have r2 := HX.out.rb.c2; have r3 := HX.out.rb.c3; have r4 := HX.out.rb.c4; have r5 := HX.out.rb.c5; have z0 := HX.out.rb.fz 0; have z1 := HX.out.rb.fz 1; have z2 := HX.out.rb.fz 2; have z3 := HX.out.rb.fz 3; have z4 := HX.out.rb.fz 4; have z5 := HX.out.rb.fz 5
      go_wp2
      have hv := HX.out.rb.fill (.int .i64 4) (.bool false) (.int .i64 0) (.string ⟨#[]⟩) (.slice la nl lc) (.slice ka nk kc)
      change bodyPost _ _ _ _ _ (Fill6 wr w.heap.size (.int .i64 4) (.bool false) (.int .i64 0) (.string ⟨#[]⟩) (.slice la nl lc) (.slice ka nk kc))
      have hfin := pv_fin (r := (.error c)) 4 false 0 ⟨#[]⟩ la nl lc ka nk kc HX.out.rb HX.out.pat HX.out.frm hk (Nat.le_refl _) hne ⟨rfl, hc⟩
      generalize Fill6 wr w.heap.size (.int .i64 4) (.bool false) (.int .i64 0) (.string ⟨#[]⟩) (.slice la nl lc) (.slice ka nk kc) = v at *
      exact bodyPost_ret (v := .agg #[.int .i64 4, .bool false, .int .i64 0, .string ⟨#[]⟩, .slice la nl lc, .slice ka nk kc]) (by simp [results, Tryd.results36, go_sem, hv.c0, hv.c1, hv.c2, hv.c3, hv.c4, hv.c5]) rfl hfin
    obtain ⟨g, rfl⟩ : ∃ g, gk = g + 1 := ⟨gk - 1, by omega⟩
    have HX := Lib.hid hx
    have HJ := Lib.hid hj
    have c2 := HX.out.pat.c2
    clear hx hj
    obtain ⟨k1, hk1⟩ : ∃ k1, k1 = skipW s.data.toList k := ⟨_, rfl⟩
    have hk1s : k1 ≤ s.size := by rw [hk1]; have := skipW_le s.data.toList k (by rw [HL.out]; omega); rw [HL.out] at this; exact this
    have hk1k : k ≤ k1 := by rw [hk1]; exact skipW_ge _ _
    have HK1 := Lib.hid hk1
    have HV := Lib.hid (fun u hu => HSS.out k1 u hu hk1s)
    have hLA := hla.out
    unfold listAt at hLA
    rw [← hk1] at hLA
    clear hk1 hla HSS
    cases hV : f k1 with
    | error x =>
      rw [hV] at HV hLA
      dsimp only at hLA
      subst hLA
      clear hV
      go_upto_region 12 with (first
        | (go_at_call 23; refine (HV.out _ HX2.out.pat).mono ?_; rintro e w3 ⟨k0, b0, n0, t0, la, nl, lc, ka, nk, kc, kk, cc, rfl, hkk, p1, f1, hm⟩; have HX3 := Lib.hid (HX2.out.pass hlt f1 p1); have HF3 := Lib.hid f1; have HM := Lib.hid hm; clear p1 f1 hm)
        | (go_at_call 22; refine (pwhite_any pb s k 0 _ HX.out.pat hk hs).mono ?_; rintro e w2 ⟨rfl, p1, f1⟩; rw [← HK1.out] at p1; have HX2 := Lib.hid (HX.out.pass hlt f1 p1); have HJ2 := Lib.hid (js_pass HJ.out hlt f1); clear p1 f1))
      have hBa := (Below.refl _ w3).alloc (Nat.le_refl _) (.cells #[.int .i64 k0, .bool b0, .int .i64 n0, .string t0, .slice la nl lc, .slice ka nk kc] 25)
      have HJa := j6_new w3 (.int .i64 k0) (.bool b0) (.int .i64 n0) (.string t0) (.slice la nl lc) (.slice ka nk kc)
      have hsa : w3.heap.size < (w3.alloc (.cells #[.int .i64 k0, .bool b0, .int .i64 n0, .string t0, .slice la nl lc, .slice ka nk kc] 25)).heap.size := by simp
      generalize w3.alloc (.cells #[.int .i64 k0, .bool b0, .int .i64 n0, .string t0, .slice la nl lc, .slice ka nk kc] 25) = wa at *
      have hBb := hBa.alloc (by omega) (.cells #[.int .i64 k0, .bool b0, .int .i64 n0, .string t0, .slice la nl lc, .slice ka nk kc] 25)
      have HXb := Lib.hid (HX3.out.below hBb)
      have HXa := Lib.hid (HX3.out.below hBa)
      have hbase : w.heap.size + 2 ≤ (wa.alloc (.cells #[.int .i64 k0, .bool b0, .int .i64 n0, .string t0, .slice la nl lc, .slice ka nk kc] 25)).heap.size := by have := HXb.out.jb.lt; omega
      obtain ⟨v', w4, hr, hown, hgrow, hnew⟩ := run_append_json (wa.alloc (.cells #[.int .i64 k0, .bool b0, .int .i64 n0, .string t0, .slice la nl lc, .slice ka nk kc] 25)) (w.heap.size + 2) hbase (.slice la0 nl0 lc0) acc.length cs.flatten [.int .i64 k0, .bool b0, .int .i64 n0, .string t0, .slice la nl lc, .slice ka nk kc] HXb.out.ownL HJ.out.flat (by omega) rfl (one_six _ _ _ _ _ _ _ _ _ _) ⟨wa.heap.size, 0, none⟩ 1 (six_news wa _ _ _ _ _ _)
      obtain ⟨la', lc', rfl⟩ := own_slice hown
      have HX4 := Lib.hid (HX3.out.addL hlt hBb hgrow hnew hown)
      have HJ3 := Lib.hid (js_pass HJ2.out hlt HF3.out)
      have HAJ := Lib.hid (fun (l : List J) (cs : List (List Value)) (h : JsIn (RF w (.slice la0 nl0 lc0) (.slice none 0 0)) w3 l cs) => js_addL h hBb hgrow hnew)
      have HRn := Lib.hid hr
      have hq := HX3.out.jbg hBb (.slice la0 nl0 lc0) (.inl rfl) hgrow
      have q4 := hq.fz 4
      have hc4 := hq.c4
      have b4 := HXa.out.jb.c4
      have a0 := HJa.c0; have a1 := HJa.c1; have a2 := HJa.c2; have a3 := HJa.c3; have a4 := HJa.c4; have a5 := HJa.c5
      clear hBa hBb hown hgrow hnew hr hq HXb HXa hsa HJa
      go_upto_region 13 with (at_builtin; refine wpList_append_eq _ rfl (.tmp 36) (.tmp 38) 22 22 rfl _ _ rfl rfl (HRn.out _) ?_)
      generalize w4.setCell ⟨w.heap.size + 1, 4, none⟩ (.slice la' (acc.length + 1) lc') = w5 at *
      clear q4 hc4 b4 a0 a1 a2 a3 a4 a5 HRn hbase
      obtain ⟨rfl, hx⟩ := HM.out
      have gc : (cc == 0) = false := by simp; omega
      clear HM
      have hkk3 : skipW s.data.toList kk ≤ s.size := by have := skipW_le s.data.toList kk (by rw [HL.out]; omega); rw [HL.out] at this; exact this
      go_wp2_with (go_at_call 22; refine (pwhite_any pb s kk cc _ HX4.out.pat hkk hs).mono ?_; rintro e w6 ⟨rfl, p1, f1⟩; have HX6 := Lib.hid (HX4.out.pass hlt f1 p1); have HF6 := Lib.hid f1; have c2 := p1.c2; clear p1 f1)
      go_roundg g
      case rel => exact .inr ⟨_, cc, _, _, _, _, la', _, lc', none, 0, 0, hkk3, hx, rfl, HX6.out⟩
      case measure => omega
    | ok q =>
      obtain ⟨j, kv⟩ := q
      rw [hV] at HV hLA
      have hkv := HFf.out _ _ _ hV
      clear hV
      go_upto_region 12 with (first
        | (go_at_call 23; refine (HV.out _ HX2.out.pat).mono ?_; rintro e w3 ⟨k0, b0, n0, t0, la, nl, lc, ka, nk, kc, kk, cc, rfl, hkk, p1, f1, hm⟩; have HX3 := Lib.hid (HX2.out.pass hlt f1 p1); have HF3 := Lib.hid f1; have HM := Lib.hid hm; clear p1 f1 hm)
        | (go_at_call 22; refine (pwhite_any pb s k 0 _ HX.out.pat hk hs).mono ?_; rintro e w2 ⟨rfl, p1, f1⟩; rw [← HK1.out] at p1; have HX2 := Lib.hid (HX.out.pass hlt f1 p1); have HJ2 := Lib.hid (js_pass HJ.out hlt f1); clear p1 f1))
      have hBa := (Below.refl _ w3).alloc (Nat.le_refl _) (.cells #[.int .i64 k0, .bool b0, .int .i64 n0, .string t0, .slice la nl lc, .slice ka nk kc] 25)
      have HJa := j6_new w3 (.int .i64 k0) (.bool b0) (.int .i64 n0) (.string t0) (.slice la nl lc) (.slice ka nk kc)
      have hsa : w3.heap.size < (w3.alloc (.cells #[.int .i64 k0, .bool b0, .int .i64 n0, .string t0, .slice la nl lc, .slice ka nk kc] 25)).heap.size := by simp
      generalize w3.alloc (.cells #[.int .i64 k0, .bool b0, .int .i64 n0, .string t0, .slice la nl lc, .slice ka nk kc] 25) = wa at *
      have hBb := hBa.alloc (by omega) (.cells #[.int .i64 k0, .bool b0, .int .i64 n0, .string t0, .slice la nl lc, .slice ka nk kc] 25)
      have HXb := Lib.hid (HX3.out.below hBb)
      have HXa := Lib.hid (HX3.out.below hBa)
      have hbase : w.heap.size + 2 ≤ (wa.alloc (.cells #[.int .i64 k0, .bool b0, .int .i64 n0, .string t0, .slice la nl lc, .slice ka nk kc] 25)).heap.size := by have := HXb.out.jb.lt; omega
      obtain ⟨v', w4, hr, hown, hgrow, hnew⟩ := run_append_json (wa.alloc (.cells #[.int .i64 k0, .bool b0, .int .i64 n0, .string t0, .slice la nl lc, .slice ka nk kc] 25)) (w.heap.size + 2) hbase (.slice la0 nl0 lc0) acc.length cs.flatten [.int .i64 k0, .bool b0, .int .i64 n0, .string t0, .slice la nl lc, .slice ka nk kc] HXb.out.ownL HJ.out.flat (by omega) rfl (one_six _ _ _ _ _ _ _ _ _ _) ⟨wa.heap.size, 0, none⟩ 1 (six_news wa _ _ _ _ _ _)
      obtain ⟨la', lc', rfl⟩ := own_slice hown
      have HX4 := Lib.hid (HX3.out.addL hlt hBb hgrow hnew hown)
      have HJ3 := Lib.hid (js_pass HJ2.out hlt HF3.out)
      have HAJ := Lib.hid (fun (l : List J) (cs : List (List Value)) (h : JsIn (RF w (.slice la0 nl0 lc0) (.slice none 0 0)) w3 l cs) => js_addL h hBb hgrow hnew)
      have HRn := Lib.hid hr
      have hq := HX3.out.jbg hBb (.slice la0 nl0 lc0) (.inl rfl) hgrow
      have q4 := hq.fz 4
      have hc4 := hq.c4
      have b4 := HXa.out.jb.c4
      have a0 := HJa.c0; have a1 := HJa.c1; have a2 := HJa.c2; have a3 := HJa.c3; have a4 := HJa.c4; have a5 := HJa.c5
      clear hBa hBb hown hgrow hnew hr hq HXb HXa hsa HJa
      go_upto_region 13 with (at_builtin; refine wpList_append_eq _ rfl (.tmp 36) (.tmp 38) 22 22 rfl _ _ rfl rfl (HRn.out _) ?_)
      generalize w4.setCell ⟨w.heap.size + 1, 4, none⟩ (.slice la' (acc.length + 1) lc') = w5 at *
      clear q4 hc4 b4 a0 a1 a2 a3 a4 a5 HRn hbase
      obtain ⟨rfl, rfl, hj⟩ := HM.out
      have HJ4 := Lib.hid (HAJ.out _ _ (HJ3.out.snoc (HX2.out.news hj)))
      have HX5 : Hid (RAt pb s 4 w w5 kk 0 (acc ++ [j]).length 0 (cs ++ [([.int .i64 k0, .bool b0, .int .i64 n0, .string t0, .slice la nl lc, .slice ka nk kc] : List Value)]).flatten [] (.slice la' (acc.length + 1) lc') (.slice none 0 0)) := by
        unfold Hid; rw [← flat_snoc, ← len_snoc]; exact HX4.out
      clear HM HAJ HJ3 hj
      try dsimp only at hLA
      obtain ⟨k3, hk3⟩ : ∃ k3, k3 = skipW s.data.toList kk := ⟨_, rfl⟩
      rw [← hk3] at hLA
      have HK3 := Lib.hid hk3
      have hk3s : k3 ≤ s.size := by rw [hk3]; have := skipW_le s.data.toList kk (by rw [HL.out]; omega); rw [HL.out] at this; exact this
      clear hk3
      cases h93 : wordAt [93] s.data.toList k3 with
      | true =>
        rw [h93, if_pos rfl] at hLA
        subst hLA
        have hk4 : k3 + 1 ≤ s.size := ((wordAt_iff s ⟨#[93]⟩ _ hk3s).1 h93).1
        have TC : Hid (∀ u, PAt u pb s k3 0 → Calls Tryd.prog 34 #[.pointer (some ⟨pb, 0, none⟩), .string ⟨#[93]⟩] u (PTold pb s (k3 + 1) 0 (.bool true) u)) := by
          intro u hu
          have := pword_any pb s ⟨#[93]⟩ k3 0 u hu (by omega) hs (by decide)
          rw [show (ByteArray.mk #[93]).data.toList = [93] from rfl, h93] at this
          exact this
        clear h93
        go_wp2_with (first
          | (have hx := HX6.out; clear hx; go_at_call 34; refine (TC.out _ HX6.out.pat).mono ?_; rintro e w7 ⟨rfl, p1, f1⟩; have HX7 := Lib.hid (HX6.out.pass hlt f1 p1); have HJ7 := Lib.hid (js_pass HJ6.out hlt f1); have b0 := HX7.out.jb.c0; have b1 := HX7.out.jb.c1; have b2 := HX7.out.jb.c2; have b3 := HX7.out.jb.c3; have b4 := HX7.out.jb.c4; have b5 := HX7.out.jb.c5; have r0 := HX7.out.rb.c0; have r1 := HX7.out.rb.c1; have r2 := HX7.out.rb.c2; have r3 := HX7.out.rb.c3; have r4 := HX7.out.rb.c4; have r5 := HX7.out.rb.c5; have z0 := HX7.out.rb.fz 0; have z1 := HX7.out.rb.fz 1; have z2 := HX7.out.rb.fz 2; have z3 := HX7.out.rb.fz 3; have z4 := HX7.out.rb.fz 4; have z5 := HX7.out.rb.fz 5; clear p1 f1)
          | (go_at_call 22; refine (pwhite_any pb s kk 0 _ HX5.out.pat hkk hs).mono ?_; rintro e w6 ⟨rfl, p1, f1⟩; rw [← HK3.out] at p1; have HX6 := Lib.hid (HX5.out.pass hlt f1 p1); have HJ6 := Lib.hid (js_pass HJ4.out hlt f1); have c2 := p1.c2; clear p1 f1))
        have hv := HX7.out.rb.fill (.int .i64 4) (.bool false) (.int .i64 0) (.string ⟨#[]⟩) (.slice la' (acc.length + 1) lc') (.slice none 0 0)
        change bodyPost _ _ _ _ _ (Fill6 w7 w.heap.size (.int .i64 4) (.bool false) (.int .i64 0) (.string ⟨#[]⟩) (.slice la' (acc.length + 1) lc') (.slice none 0 0))
        have hfin := pv_fin (r := (.ok (jList (acc ++ [j]), k3 + 1))) 4 false 0 ⟨#[]⟩ la' (acc.length + 1) lc' none 0 0 HX7.out.rb HX7.out.pat HX7.out.frm hk4 (Nat.le_refl _) hne ⟨rfl, rfl, RAt.val (ks := []) HX7.out HJ7.out⟩
        generalize Fill6 w7 w.heap.size (.int .i64 4) (.bool false) (.int .i64 0) (.string ⟨#[]⟩) (.slice la' (acc.length + 1) lc') (.slice none 0 0) = v at *
        exact bodyPost_ret (v := .agg #[.int .i64 4, .bool false, .int .i64 0, .string ⟨#[]⟩, .slice la' (acc.length + 1) lc', .slice none 0 0]) (by simp [results, Tryd.results36, go_sem, hv.c0, hv.c1, hv.c2, hv.c3, hv.c4, hv.c5]) rfl hfin
      | false =>
        rw [h93, if_neg (by simp)] at hLA
        have TC : Hid (∀ u, PAt u pb s k3 0 → Calls Tryd.prog 34 #[.pointer (some ⟨pb, 0, none⟩), .string ⟨#[93]⟩] u (PTold pb s k3 0 (.bool false) u)) := by
          intro u hu
          have := pword_any pb s ⟨#[93]⟩ k3 0 u hu (by omega) hs (by decide)
          rw [show (ByteArray.mk #[93]).data.toList = [93] from rfl, h93] at this
          exact this
        clear h93
        cases h44 : wordAt [44] s.data.toList k3 with
        | true =>
          rw [h44, if_pos rfl] at hLA
          have HLA := Lib.hid hLA
          have hk4 : k3 + 1 ≤ s.size := ((wordAt_iff s ⟨#[44]⟩ _ hk3s).1 h44).1
          have hk3k := skipW_ge s.data.toList kk
          rw [← HK3.out] at hk3k
          have TD : Hid (∀ u, PAt u pb s k3 0 → Calls Tryd.prog 34 #[.pointer (some ⟨pb, 0, none⟩), .string ⟨#[44]⟩] u (PTold pb s (k3 + 1) 0 (.bool true) u)) := by
            intro u hu
            have := pword_any pb s ⟨#[44]⟩ k3 0 u hu (by omega) hs (by decide)
            rw [show (ByteArray.mk #[44]).data.toList = [44] from rfl, h44] at this
            exact this
          clear h44 hLA
          go_wp2_with (first
            | (have hx := HX7.out; clear hx; go_at_call 34; refine (TD.out _ HX7.out.pat).mono ?_; rintro e w8 ⟨rfl, p1, f1⟩; have HX8 := Lib.hid (HX7.out.pass hlt f1 p1); have HJ8 := Lib.hid (js_pass HJ7.out hlt f1); clear p1 f1)
            | (have hx := HX6.out; clear hx; go_at_call 34; refine (TC.out _ HX6.out.pat).mono ?_; rintro e w7 ⟨rfl, p1, f1⟩; have HX7 := Lib.hid (HX6.out.pass hlt f1 p1); have HJ7 := Lib.hid (js_pass HJ6.out hlt f1); have c2 := p1.c2; clear p1 f1)
            | (go_at_call 22; refine (pwhite_any pb s kk 0 _ HX5.out.pat hkk hs).mono ?_; rintro e w6 ⟨rfl, p1, f1⟩; rw [← HK3.out] at p1; have HX6 := Lib.hid (HX5.out.pass hlt f1 p1); have HJ6 := Lib.hid (js_pass HJ4.out hlt f1); have c2 := p1.c2; clear p1 f1))
          go_roundg g
          case rel => exact .inl ⟨k3 + 1, acc ++ [j], cs ++ [[.int .i64 k0, .bool b0, .int .i64 n0, .string t0, .slice la nl lc, .slice ka nk kc]], la', _, lc', hk4, by omega, HLA.out, by simp; omega, HX8.out, HJ8.out⟩
          case measure => omega
        | false =>
          rw [h44, if_neg (by simp)] at hLA
          subst hLA
          have TD : Hid (∀ u, PAt u pb s k3 0 → Calls Tryd.prog 34 #[.pointer (some ⟨pb, 0, none⟩), .string ⟨#[44]⟩] u (PTold pb s k3 0 (.bool false) u)) := by
            intro u hu
            have := pword_any pb s ⟨#[44]⟩ k3 0 u hu (by omega) hs (by decide)
            rw [show (ByteArray.mk #[44]).data.toList = [44] from rfl, h44] at this
            exact this
          clear h44
          go_wp2_with (first
            | (have hx := HX7.out; clear hx; go_at_call 34; refine (TD.out _ HX7.out.pat).mono ?_; rintro e w8 ⟨rfl, p1, f1⟩; have HX8 := Lib.hid (HX7.out.pass hlt f1 p1); have HJ8 := Lib.hid (js_pass HJ7.out hlt f1); clear p1 f1)
            | (have hx := HX6.out; clear hx; go_at_call 34; refine (TC.out _ HX6.out.pat).mono ?_; rintro e w7 ⟨rfl, p1, f1⟩; have HX7 := Lib.hid (HX6.out.pass hlt f1 p1); have HJ7 := Lib.hid (js_pass HJ6.out hlt f1); have c2 := p1.c2; clear p1 f1)
            | (go_at_call 22; refine (pwhite_any pb s kk 0 _ HX5.out.pat hkk hs).mono ?_; rintro e w6 ⟨rfl, p1, f1⟩; rw [← HK3.out] at p1; have HX6 := Lib.hid (HX5.out.pass hlt f1 p1); have HJ6 := Lib.hid (js_pass HJ4.out hlt f1); have c2 := p1.c2; clear p1 f1)
            | (go_at_call 24; refine (pfail_any pb s k3 0 300 _ HX8.out.pat).mono ?_; rintro e w9 ⟨rfl, p1, f1⟩; rw [if_pos rfl] at p1; have HX9 := Lib.hid (HX8.out.pass hlt f1 p1); clear p1 f1))
          go_roundg g
          case rel => exact .inr ⟨k3, 300, _, _, _, _, la', _, lc', none, 0, 0, hk3s, .inl rfl, rfl, HX9.out⟩
          case measure => omega
end Go.Proofs.YtcobadgpelhcoaaDoor
