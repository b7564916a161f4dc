/- A region that draws its order: of some operations it is known what holds of their answers in the world behind them (a call that makes memory, a block, a load of what another made), the others answer one value in every world of a class; a tail in forced order waits for all of them: one walk of the text's order serves every order. No program is spoken of. A drawn region as in Qr, with one operation (a part of an answer taken out) that its statement's store need not wait for: it is carried out just behind the operation that it waits for. No program is spoken of. -/
import Derived.Test.YthfakpekdjmpjaaOwn
import Derived.StillTail
import Derived.Deep.Quiet
namespace Go.Proofs.Ythfakpekdjmpjaa
open Go Go.RowKit
set_option linter.unusedVariables false
set_option linter.unusedSimpArgs false

section
variable {P : Program} {md : Region.Mode} {ops : Array Oper} {C : World → Prop} {n : Nat}

/-- What is known of an operation: which answers it may have, and what holds of one in a world. -/
structure Rel where
  U : Value → Prop
  V : Value → World → Prop
def updF (F : Nat → World → Prop) (i : Nat) (p : World → Prop) : Nat → World → Prop := fun k => if k = i then p else F k
theorem updF_ne {F : Nat → World → Prop} {i k : Nat} (p : World → Prop) (h : k ≠ i) : updF F i p k = F k := if_neg h
theorem updF_eq (F : Nat → World → Prop) (i : Nat) (p : World → Prop) : updF F i p i = p := if_pos rfl
theorem updF_comm (F : Nat → World → Prop) {i j : Nat} (p q : World → Prop) (h : i ≠ j) : updF (updF F i p) j q = updF (updF F j q) i p := by
  funext k
  unfold updF
  by_cases h1 : k = j
  · subst h1; rw [if_pos rfl, if_neg (fun e => h e.symm), if_pos rfl]
  · rw [if_neg h1]
    by_cases h2 : k = i
    · rw [if_pos h2, if_pos h2]
    · rw [if_neg h2, if_neg h2, if_neg h1]

def relUpon (P : Program) (C : World → Prop) (R : Rel) (w : World) : Result Next → Prop
  | .ok (.value u) w' => C w' ∧ Below w.heap.size w w' ∧ R.U u ∧ R.V u w'
  | .ok (.enter f args) w' => w' = w ∧ Calls P f args w (fun e w'' => ∃ u, e = .returned u ∧ C w'' ∧ Below w.heap.size w w'' ∧ R.U u ∧ R.V u w'')
  | _ => False
def pureUpon (w : World) (u : Value) : Result Next → Prop
  | .ok (.value v) w' => w' = w ∧ v = u
  | .ok .skip w' => w' = w ∧ u = undef
  | _ => False
theorem pure_one {w : World} {u v : Value} {r : Result Next} (h : pureUpon w u r) (h' : pureUpon w v r) : u = v := by
  cases r with
  | ok x w' =>
    cases x <;> simp only [pureUpon] at h h'
    case value y => exact h.2.symm.trans h'.2
    case skip => exact h.2.trans h'.2.symm
  | halt x w' => simp only [pureUpon] at h
/-- The worlds in which what an operation leans on holds. -/
def InC (C : World → Prop) (dep : Nat → Nat → Bool) (F : Nat → World → Prop) (j : Nat) (w : World) : Prop := C w ∧ ∀ i, dep j i = true → F i w

variable {rel : Nat → Option Rel} {dep : Nat → Nat → Bool}
/-- What an operation is, in a frame: known, of one value, or left out. -/
def YR (P : Program) (ops : Array Oper) (C : World → Prop) (rel : Nat → Option Rel) (dep : Nat → Nat → Bool) (j : Nat) (o : Oper) (F : Nat → World → Prop) (a : Act) (R : Rel) : Prop :=
  (Region.wanted o (yielded ops a.tmps) = true ∧ rel j = some R ∧ ∀ w, InC C dep F j w → relUpon P C R w ((execOp a.eval o).run P w)) ∨
  (Region.wanted o (yielded ops a.tmps) = true ∧ rel j = none ∧ ∃ u, R = ⟨fun v => v = u, fun _ _ => True⟩ ∧ ∀ w, C w → pureUpon w u ((execOp a.eval o).run P w)) ∨
  (Region.wanted o (yielded ops a.tmps) = false ∧ R = ⟨fun v => v = undef, fun _ _ => True⟩)
theorem YR.of_same {j : Nat} {o : Oper} {F F' : Nat → World → Prop} {a a' : Act} {R : Rel} (h : YR P ops C rel dep j o F a R) (he : execOp a'.eval o = execOp a.eval o)
    (hw : Region.wanted o (yielded ops a'.tmps) = Region.wanted o (yielded ops a.tmps)) (hF : ∀ i, dep j i = true → F' i = F i) : YR P ops C rel dep j o F' a' R := by
  unfold YR at *
  rw [he, hw]
  rcases h with ⟨h1, h2, h3⟩ | h | h
  · exact .inl ⟨h1, h2, fun w hi => h3 w ⟨hi.1, fun i hd => by rw [← hF i hd]; exact hi.2 i hd⟩⟩
  · exact .inr (.inl h)
  · exact .inr (.inr h)
theorem YR.unique {j : Nat} {o : Oper} {F F' : Nat → World → Prop} {a : Act} {R R' : Rel} {w0 : World} (hw0 : C w0) (h : YR P ops C rel dep j o F a R) (h' : YR P ops C rel dep j o F' a R') : R = R' := by
  unfold YR at *
  rcases h with ⟨h1, h2, h3⟩ | ⟨h1, h2, u, h3, h4⟩ | ⟨h1, h2⟩ <;> rcases h' with ⟨g1, g2, g3⟩ | ⟨g1, g2, v, g3, g4⟩ | ⟨g1, g2⟩
  · rw [h2] at g2; exact Option.some.inj g2
  · rw [h2] at g2; cases g2
  · rw [h1] at g1; cases g1
  · rw [h2] at g2; cases g2
  · rw [h3, g3, pure_one (h4 w0 hw0) (g4 w0 hw0)]
  · rw [h1] at g1; cases g1
  · rw [h1] at g1; cases g1
  · rw [h1] at g1; cases g1
  · rw [h2, g2]
def relOp (P : Program) (ops : Array Oper) (C : World → Prop) (rel : Nat → Option Rel) (dep : Nat → Nat → Bool) (i : Nat) (K : (Nat → World → Prop) → Act → Prop) (F : Nat → World → Prop) (a : Act) : Prop :=
  ∃ o, ops[i]? = some o ∧ ∃ R, YR P ops C rel dep i o F a R ∧ ∀ v, R.U v → K (updF F i (R.V v)) (a.put o.dst v)
def headR (P : Program) (md : Region.Mode) (ops : Array Oper) (C : World → Prop) (rel : Nat → Option Rel) (dep : Nat → Nat → Bool) (n : Nat) (L : Array Bool → (Nat → World → Prop) → Act → Prop) : Nat → Array Bool → (Nat → World → Prop) → Act → Prop
  | 0, s, F, a => L s F a
  | f + 1, s, F, a => Region.ready md ops s ≠ [] ∧ ∀ i ∈ Region.ready md ops s, i < n ∧ relOp P ops C rel dep i (headR P md ops C rel dep n L f (s.setIfInBounds i true)) F a
variable {L : Array Bool → (Nat → World → Prop) → Act → Prop}
theorem tail_off {s : Array Bool} (hs : Region.sinkB md ops n = true) (hc : Region.chainB md ops n = true) (inv : HeadInv md ops n s) (hn : n ≤ ops.size) {i : Nat} (hin : i < n) (hun : s.getD i true = false) : ∀ t, n ≤ t → t ∉ Region.ready md ops s := fun t ht hr => by
  rcases Nat.lt_or_ge n ops.size with h | h
  · exact tail_waits hs hc h inv _ i rfl hin hun t ht hr
  · obtain ⟨_, o, ho, _⟩ := mem_ready.1 hr
    have := (Array.getElem?_eq_some_iff.1 ho).1
    omega
theorem headR_take {i : Nat} {o : Oper} {w0 : World} (hw0 : C w0) (hi : ops[i]? = some o) (hsel : ∀ (j : Nat) (o : Oper) cs b, ops[j]? = some o → o.op ≠ .select cs b) (htail : ∀ s, HeadInv md ops n s → ∀ i, i < n → s.getD i true = false → ∀ t, n ≤ t → t ∉ Region.ready md ops s)
    (hdep : ∀ j i, dep j i = true → Region.waitsFor md ops j i = true) (hin : i < n) (hL : ∀ s F a, L s F a → ∀ j ∈ Region.ready md ops s, n ≤ j) (f : Nat) :
    ∀ s F a R, HeadInv md ops n s → (∀ j oj, ops[j]? = some oj → j ≠ i → s.getD j true = false → (∀ e ∈ oj.after, Region.binds md e = true → e.on ≠ i) → o.apart ops oj = true) → i ∈ Region.ready md ops s → YR P ops C rel dep i o F a R → (∃ v, R.U v) →
      (∀ v, R.U v → headR P md ops C rel dep n L f (s.setIfInBounds i true) (updF F i (R.V v)) (a.put o.dst v)) → headR P md ops C rel dep n L (f + 1) s F a := by
  induction f with
  | zero =>
    intro s F a R inv hap hr hy hU H
    have hun := (mem_ready.1 hr).1
    refine ⟨fun e => (by rw [e] at hr; cases hr), fun j hj => ?_⟩
    have hjn : j < n := Nat.lt_of_not_le fun hge => htail s inv i hin hun j hge hj
    refine ⟨hjn, ?_⟩
    by_cases e : j = i
    · subst e; exact ⟨o, hi, R, hy, H⟩
    · obtain ⟨v, hv⟩ := hU
      exact absurd (hL _ _ _ (H v hv) j (ready_mono hj e)) (by omega)
  | succ f ih =>
    intro s F a R inv hap hr hy hU H
    have hun := (mem_ready.1 hr).1
    refine ⟨fun e => (by rw [e] at hr; cases hr), fun j hj => ?_⟩
    have hjn : j < n := Nat.lt_of_not_le fun hge => htail s inv i hin hun j hge hj
    refine ⟨hjn, ?_⟩
    by_cases e : j = i
    · subst e; exact ⟨o, hi, R, hy, H⟩
    · obtain ⟨hju, oj, hoj, hall⟩ := mem_ready.1 hj
      have hno : ∀ e ∈ oj.after, Region.binds md e = true → e.on ≠ i := fun e he hb heq => by
        have := hall e he hb
        rw [heq, getD_both hun] at this
        cases this
      have hdj : ∀ k, dep j k = true → k ≠ i := fun k hk heq => by
        obtain ⟨oj', hoj', e, he, hb, hon⟩ := Region.waitsFor_spec (hdep j k hk)
        have : oj' = oj := Option.some.inj (hoj'.symm.trans hoj)
        subst this
        exact hno e he hb (hon.trans heq)
      have hdi : ∀ k, dep i k = true → k ≠ j := fun k hk heq => by
        obtain ⟨oi', hoi', e, he, hb, hon⟩ := Region.waitsFor_spec (hdep i k hk)
        obtain ⟨_, oi2, hoi2, hall2⟩ := mem_ready.1 hr
        have : oi' = oi2 := Option.some.inj (hoi'.symm.trans hoi2)
        subst this
        have := hall2 e he hb
        rw [hon, heq, getD_both hju] at this
        cases this
      obtain ⟨h1, h2, h3⟩ := Oper.apart_spec (hap j oj hoj e hju hno)
      have back : ∀ v R' p, YR P ops C rel dep j oj (updF F i p) (a.put o.dst v) R' → YR P ops C rel dep j oj F a R' := fun v R' p h =>
        h.of_same (execOp_put oj (fun cs b => hsel j oj cs b hoj) a o.dst v h1).symm (wanted_put oj a o.dst v h1).symm (fun k hk => (updF_ne p (hdj k hk)).symm)
      obtain ⟨v0, hv0⟩ := hU
      obtain ⟨oj0, hoj0, Rj, hyj, _⟩ := (H v0 hv0).2 j (ready_mono hj e) |>.2
      have : oj0 = oj := Option.some.inj (hoj0.symm.trans hoj)
      subst this
      have hyj0 := back v0 Rj _ hyj
      refine ⟨oj0, hoj, Rj, hyj0, fun v' hv' => ?_⟩
      refine ih _ _ _ R (inv.set hj hjn) (fun k ok hk hki hku hkn => hap k ok hk hki ?_ hkn) (ready_mono hr (Ne.symm e))
        (hy.of_same (execOp_put o (fun cs b => hsel i o cs b hi) a oj0.dst v' h3) (wanted_put o a oj0.dst v' h3) (fun k hk => updF_ne _ (hdi k hk))) ⟨v0, hv0⟩ (fun v hv => ?_)
      · by_cases ejk : j = k
        · subst ejk; exact hju
        · rw [getD_set_ne true ejk] at hku; exact hku
      · obtain ⟨oj1, hoj1, R1, hy1, hK1⟩ := (H v hv).2 j (ready_mono hj e) |>.2
        have : oj1 = oj0 := Option.some.inj (hoj1.symm.trans hoj)
        subst this
        have hR : R1 = Rj := (back v R1 _ hy1).unique hw0 hyj0
        subst hR
        have := hK1 v' hv'
        rw [Array.setIfInBounds_comm _ _ e, updF_comm _ _ _ e, ← Act.put_comm a v v' h2]
        exact this
theorem headR_any {g : Nat} {Q : Exit → Act → World → Prop} (hst : ∀ j R, rel j = some R → ∀ v w w', R.V v w → Below w.heap.size w w' → R.V v w') (hCc : ∀ w w', C w → Below w.heap.size w w' → C w')
    (hL : ∀ s F a w, C w → (∀ k, F k w) → L s F a → wpAny P md ops Q g s a w) (f : Nat) : ∀ s F a w, C w → (∀ k, F k w) → (∀ k w w', F k w → Below w.heap.size w w' → F k w') → headR P md ops C rel dep n L f s F a → wpAny P md ops Q (f + g) s a w := by
  induction f with
  | zero => intro s F a w hw hF _ h; rw [Nat.zero_add]; exact hL _ _ _ _ hw hF h
  | succ f ih =>
    intro s F a w hw hF hFc h
    rw [Nat.succ_add]
    refine ⟨fun e => absurd e h.1, fun i hi => ?_⟩
    obtain ⟨_, o, ho, R, hy, hK⟩ := h.2 i hi
    have go : ∀ v w', C w' → Below w.heap.size w w' → R.U v → R.V v w' → (∀ v w w', R.V v w → Below w.heap.size w w' → R.V v w') → wpAny P md ops Q (f + g) (s.setIfInBounds i true) (a.put o.dst v) w' := fun v w' hw' hb hu hv hvc =>
      ih _ _ _ _ hw' (fun k => by
        by_cases e : k = i
        · subst e; rw [updF_eq]; exact hv
        · rw [updF_ne _ e]; exact hFc k _ _ (hF k) hb) (fun k w1 w2 h1 h2 => by
        by_cases e : k = i
        · subst e; rw [updF_eq] at h1 ⊢; exact hvc _ _ _ h1 h2
        · rw [updF_ne _ e] at h1 ⊢; exact hFc k _ _ h1 h2) (hK v hu)
    unfold wpOp
    simp only [ho]
    rcases hy with ⟨hwt, hr, h3⟩ | ⟨hwt, hr, u, rfl, h4⟩ | ⟨hwt, rfl⟩
    · rw [if_pos hwt]
      left
      have h5 := h3 w ⟨hw, fun k _ => hF k⟩
      unfold Oper.wp
      generalize (execOp a.eval o).run P w = r at *
      cases r with
      | ok x w' =>
        cases x <;> simp only [relUpon] at h5
        case value u => exact go _ _ h5.1 h5.2.1 h5.2.2.1 h5.2.2.2 (hst i R hr)
        case enter fn args =>
          obtain ⟨rfl, hc⟩ := h5
          simp only [Oper.upon]
          exact hc.mono fun e w'' ⟨u, he, h6, h7, h8, h9⟩ => by subst he; exact go _ _ h6 h7 h8 h9 (hst i R hr)
      | halt x w' => simp only [relUpon] at h5
    · rw [if_pos hwt]
      left
      have h5 := h4 w hw
      unfold Oper.wp
      generalize (execOp a.eval o).run P w = r at *
      cases r with
      | ok x w' =>
        cases x <;> simp only [pureUpon] at h5
        case value v => obtain ⟨rfl, rfl⟩ := h5; exact go _ _ hw (Below.refl _ _) rfl trivial (fun _ _ _ _ _ => trivial)
        case skip => obtain ⟨rfl, rfl⟩ := h5; exact go _ _ hw (Below.refl _ _) rfl trivial (fun _ _ _ _ _ => trivial)
      | halt x w' => simp only [pureUpon] at h5
    · rw [if_neg (by rw [hwt]; exact Bool.false_ne_true)]
      exact go _ _ hw (Below.refl _ _) rfl trivial (fun _ _ _ _ _ => trivial)
/-- The walk: the operations of these numbers, in this order. -/
def wpRel (P : Program) (ops : Array Oper) (C : World → Prop) (rel : Nat → Option Rel) (dep : Nat → Nat → Bool) (K : (Nat → World → Prop) → Act → Prop) : List Nat → (Nat → World → Prop) → Act → Prop
  | [], F, a => K F a
  | k :: ks, F, a => relOp P ops C rel dep k (wpRel P ops C rel dep K ks) F a
def lexR (md : Region.Mode) (ops : Array Oper) (n : Nat) (g : Nat) : List Nat → Array Bool → Bool
  | [], s => Region.seqB md ops g n s
  | k :: ks, s => decide (k < n) && (Region.ready md ops s).contains k && Region.free md ops s k && lexR md ops n g ks (s.setIfInBounds k true)
theorem headR_walk {g : Nat} {K : (Nat → World → Prop) → Act → Prop} {w0 : World} (hw0 : C w0) (hsel : Region.noSelect ops = true) (htail : ∀ s, HeadInv md ops n s → ∀ i, i < n → s.getD i true = false → ∀ t, n ≤ t → t ∉ Region.ready md ops s)
    (hdep : ∀ j i, dep j i = true → Region.waitsFor md ops j i = true) (hU : ∀ j R, rel j = some R → ∃ v, R.U v) (ks : List Nat) :
    ∀ s F a, HeadInv md ops n s → lexR md ops n g ks s = true → wpRel P ops C rel dep K ks F a →
    headR P md ops C rel dep n (fun s' F' a' => Region.seqB md ops g n s' = true ∧ K F' a') ks.length s F a := by
  induction ks with
  | nil => intro s F a _ hB h; exact ⟨hB, h⟩
  | cons k ks ih =>
    intro s F a inv hB h
    simp only [lexR, Bool.and_eq_true, decide_eq_true_eq] at hB
    obtain ⟨⟨⟨hkn, hr⟩, hf⟩, hB'⟩ := hB
    have hr' : k ∈ Region.ready md ops s := by simpa using hr
    obtain ⟨o, ho, R, hy, hK⟩ := h
    refine headR_take hw0 ho (Region.noSelect_spec hsel) htail hdep hkn (fun s' F' a' hL => seqB_ready hL.1) ks.length s F a R inv (Region.free_spec ho hf) hr' hy ?_ (fun v hv => ih _ _ _ (inv.set hr' hkn) hB' (hK v hv))
    rcases hy with ⟨_, hr, _⟩ | ⟨_, _, u, rfl, _⟩ | ⟨_, rfl⟩
    · exact hU k R hr
    · exact ⟨u, rfl⟩
    · exact ⟨undef, rfl⟩
def regionR (md : Region.Mode) (ops : Array Oper) (n : Nat) (ks : List Nat) : Bool :=
  Region.noSelect ops && decide (n ≤ ops.size) && Region.sinkB md ops (n - (if n = ops.size then n else 0)) && Region.chainB md ops n && lexR md ops n (ops.size - n) ks (Array.replicate ops.size false) && decide (ks.length + (ops.size - n) = ops.size)
/-- One walk, whatever order is drawn. 'rel': what is known of the operations that are not of one value; 'dep': on whose answers' facts an operation leans (it must wait for them). -/
theorem region_rel {id : Nat} {Q : Exit → Act → World → Prop} {a : Act} {w : World} {l : List Oper} (C : World → Prop) (n : Nat) (ks : List Nat) (rel : Nat → Option Rel) (dep : Nat → Nat → Bool) (hm : P.follows .mixedOrders = true) (hB : regionR .any l.toArray n ks = true)
    (hdep : ∀ j i, dep j i = true → Region.waitsFor .any l.toArray j i = true) (hU : ∀ j R, rel j = some R → ∃ v, R.U v) (hst : ∀ j R, rel j = some R → ∀ v w w', R.V v w → Below w.heap.size w w' → R.V v w')
    (hC : C { w with drawn := w.drawn + 1 }) (hCc : ∀ w w', C w → Below w.heap.size w w' → C w')
    (h : wpRel P l.toArray C rel dep (fun F a' => ∀ w', C w' → (∀ k, F k w') → wpList P l.toArray Q (l.drop n) a' w') ks (fun _ _ => True) a) : (Code.region id l.toArray true).wp P Q a w := by
  simp only [regionR, Bool.and_eq_true, decide_eq_true_eq] at hB
  obtain ⟨⟨⟨⟨⟨hsel, hn⟩, hs⟩, hc⟩, hlex⟩, hlen⟩ := hB
  have htail : ∀ s, HeadInv .any l.toArray n s → ∀ i, i < n → s.getD i true = false → ∀ t, n ≤ t → t ∉ Region.ready .any l.toArray s := fun s inv i hin hun t ht hr => by
    by_cases e : n = l.toArray.size
    · obtain ⟨_, o, ho, _⟩ := mem_ready.1 hr
      have := (Array.getElem?_eq_some_iff.1 ho).1
      omega
    · rw [if_neg e, Nat.sub_zero] at hs
      exact tail_off hs hc inv hn hin hun t ht hr
  have inv : HeadInv .any l.toArray n (Array.replicate l.toArray.size false) := by
    refine ⟨by simp, fun j oj _ hl => ?_, fun t _ htt => getD_in (by simpa using htt) (getD_replicate_false _ _)⟩
    rw [getD_replicate_false] at hl; cases hl
  have H := headR_walk (P := P) (C := C) hC hsel htail hdep hU ks _ _ a inv hlex h
  refine wp_region_any hm ?_
  have hd : (l.drop n).length = l.toArray.size - n := by simp
  have H2 := headR_any (Q := Q) (g := l.toArray.size - n) hst hCc (fun s F a' w' hw' hF hL => by
    have := wpAny_of_seq (md := .any) (Q' := Q) (l.drop n) n s a' w' (fun j => by simp [List.getElem?_drop]) (by rw [hd]; exact hL.1) (hL.2 w' hw' hF)
    rwa [hd] at this) ks.length _ _ _ _ hC (fun _ => trivial) (fun _ _ _ _ _ => trivial) H
  rw [hlen] at H2
  exact H2

/-- One step of the walk: an operation of one value. -/
theorem wpRel_pure {K : (Nat → World → Prop) → Act → Prop} {k : Nat} {ks : List Nat} {F : Nat → World → Prop} {a : Act} {o : Oper} (ho : ops[k]? = some o) (hr : rel k = none)
    (h : ∀ K' : Act → Prop, (∀ a', wpRel P ops C rel dep K ks (updF F k fun _ => True) a' → K' a') → if Region.wanted o (yielded ops a.tmps) = true then ∃ u, (∀ w, C w → pureUpon w u ((execOp a.eval o).run P w)) ∧ K' (a.put o.dst u) else K' (a.put o.dst undef)) :
    wpRel P ops C rel dep K (k :: ks) F a := by
  have h1 := h _ fun _ h => h
  cases hw : Region.wanted o (yielded ops a.tmps) with
  | true =>
    rw [if_pos hw] at h1
    obtain ⟨u, h2, h3⟩ := h1
    exact ⟨o, ho, _, .inr (.inl ⟨hw, hr, u, rfl, h2⟩), fun v hv => by subst hv; exact h3⟩
  | false =>
    rw [if_neg (by rw [hw]; exact Bool.false_ne_true)] at h1
    exact ⟨o, ho, _, .inr (.inr ⟨hw, rfl⟩), fun v hv => by subst hv; exact h1⟩
/-- One step of the walk: an operation of which something is known. -/
theorem wpRel_rel {K : (Nat → World → Prop) → Act → Prop} {k : Nat} {ks : List Nat} {F : Nat → World → Prop} {a : Act} {o : Oper} {R : Rel} (ho : ops[k]? = some o) (hr : rel k = some R) (hw : Region.wanted o (yielded ops a.tmps) = true)
    (h1 : ∀ w, InC C dep F k w → relUpon P C R w ((execOp a.eval o).run P w)) (h : ∀ v, R.U v → wpRel P ops C rel dep K ks (updF F k (R.V v)) (a.put o.dst v)) : wpRel P ops C rel dep K (k :: ks) F a :=
  ⟨o, ho, R, .inl ⟨hw, hr, h1⟩, h⟩
theorem wpRel_nil {K : (Nat → World → Prop) → Act → Prop} {F : Nat → World → Prop} {a : Act} (h : K F a) : wpRel P ops C rel dep K [] F a := h

/-! ### Several operations of one value at once, by the quiet walk -/
def pureOp (o : Oper) : Bool :=
  match o.op with
  | .move _ | .assign _ | .pick _ _ _ | .load _ _ | .fieldAddr _ _ _ | .field _ _ _ | .indexAddr _ _ _ | .index _ _ _ | .binOp _ _ _ _ _ | .unOp _ _ _ | .convert _ _ _ | .extract _ _ | .slice _ _ _ _ _ => true
  | .call c => match c.callee with
    | .builtin .len => true
    | _ => false
  | _ => false
theorem value_ne {s : Sem Value} {f : FuncId} {args : Array Value} {w w' : World} : (do let x ← s; pure (Next.value x) : Sem Next).run P w ≠ .ok (.enter f args) w' := by
  rw [Sem.run_bind]
  cases s.run P w with
  | ok x w1 => simp [Result.andThen, Sem.run_pure]
  | halt x w1 => simp [Result.andThen]
theorem no_enter {o : Oper} (h : pureOp o = true) {ρ : Operand → Value} {f : FuncId} {args : Array Value} {w w' : World} : (execOp ρ o).run P w ≠ .ok (.enter f args) w' := by
  unfold pureOp at h
  unfold execOp
  cases hop : o.op <;> simp only [hop] at h ⊢ <;> first | exact value_ne | exact (Bool.false_ne_true h).elim | skip
  case move => simp [Sem.run_pure]
  case assign => simp [Sem.run_pure]
  case pick c x y =>
    rw [Sem.run_bind]
    cases (asBool (ρ c)).run P w with
    | ok x w1 => simp [Result.andThen, Sem.run_pure]
    | halt x w1 => simp [Result.andThen]
  case call c =>
    obtain ⟨cal, xs, ats⟩ := c
    simp only at h
    split at h
    · simp only [resolve, invoke, builtin, Sem.run_bind, Sem.run_pure, Result.andThen_ok]
      cases (Builtin.len_ ats o.type (Array.map ρ xs)).run P w with
      | ok x w1 => simp [Result.andThen]
      | halt x w1 => simp [Result.andThen]
    · exact (Bool.false_ne_true h).elim
theorem pure_of_quiet {o : Oper} (h : pureOp o = true) {a : Act} {w : World} {v : Value} (hq : o.quietAt P a C w v) : pureUpon w v ((execOp a.eval o).run P w) := by
  unfold Oper.quietAt at hq
  have hn := fun f args w' => no_enter (P := P) h (ρ := a.eval) (f := f) (args := args) (w := w) (w' := w')
  generalize (execOp a.eval o).run P w = r at *
  cases r with
  | ok x w' =>
    cases x <;> simp only [Oper.quietUpon] at hq <;> simp only [pureUpon]
    case value u => exact hq
    case skip => exact hq
    case enter f args => exact hn _ _ _ rfl
  | halt x w' => simp only [Oper.quietUpon] at hq
def passF (F : Nat → World → Prop) (ks : List Nat) : Nat → World → Prop := ks.foldl (fun F k => updF F k fun _ => True) F
theorem wpRel_seg {K : (Nat → World → Prop) → Act → Prop} {ks : List Nat} (ks1 : List Nat) : ∀ {F : Nat → World → Prop} {a : Act} (seg : List Oper), seg.map some = ks1.map (ops[·]?) → seg.all pureOp = true → (ks1.all fun k => (rel k).isNone) = true →
    wpQuiet P ops C (fun a' => wpRel P ops C rel dep K ks (passF F ks1) a') seg a → wpRel P ops C rel dep K (ks1 ++ ks) F a := by
  induction ks1 with
  | nil =>
    intro F a seg hs _ _ h
    have e : seg = [] := by simpa using hs
    subst e
    exact h
  | cons k ks1 ih =>
    intro F a seg hs hp hr h
    cases seg with
    | nil => simp at hs
    | cons o seg =>
      simp only [List.map_cons, List.cons.injEq] at hs
      simp only [List.all_cons, Bool.and_eq_true] at hp hr
      have hrk : rel k = none := by simpa using hr.1
      refine wpRel_pure hs.1.symm hrk fun K' hK' => ?_
      unfold wpQuiet at h
      split at h
      · rename_i hw
        rw [if_pos hw]
        obtain ⟨v, h1, h2⟩ := h
        exact ⟨v, fun w hw' => pure_of_quiet hp.1 (h1 w hw'), hK' _ (ih seg hs.2 hp.2 hr.2 h2)⟩
      · rename_i hw
        rw [if_neg hw]
        exact hK' _ (ih seg hs.2 hp.2 hr.2 h)

/-! ### What is known, by a list -/
def relL (l : List (Nat × Rel)) (k : Nat) : Option Rel := (l.find? fun x => x.1 == k).map (·.2)
theorem relL_all {l : List (Nat × Rel)} {p : Rel → Prop} (h : ∀ x ∈ l, p x.2) : ∀ j R, relL l j = some R → p R := fun j R hj => by
  unfold relL at hj
  cases hf : l.find? (fun x => x.1 == j) with
  | none => rw [hf] at hj; cases hj
  | some x =>
    rw [hf] at hj
    obtain rfl : x.2 = R := by simpa using hj
    exact h x (List.mem_of_find?_eq_some hf)
/-- An answer that is known. -/
def relVal (u : Value) : Rel := ⟨fun v => v = u, fun _ _ => True⟩
/-- What is known is of some use: there is such an answer, and what holds of one stays. -/
def Rel.Ok (R : Rel) : Prop := (∃ v, R.U v) ∧ ∀ v w w', R.V v w → Below w.heap.size w w' → R.V v w'
theorem relVal_ok (u : Value) : (relVal u).Ok := ⟨⟨u, rfl⟩, fun _ _ _ _ _ => trivial⟩

def depL (l : List (Nat × Nat)) (j i : Nat) : Bool := l.contains (j, i)
/-- One walk, what is known given by a list. -/
theorem region_known {id : Nat} {Q : Exit → Act → World → Prop} {a : Act} {w : World} {l : List Oper} (C : World → Prop) (n : Nat) (ks : List Nat) (rels : List (Nat × Rel)) (deps : List (Nat × Nat)) (hm : P.follows .mixedOrders = true) (hB : regionR .any l.toArray n ks = true)
    (hdep : (deps.all fun x => Region.waitsFor .any l.toArray x.1 x.2) = true) (hok : ∀ x ∈ rels, x.2.Ok)
    (hC : C { w with drawn := w.drawn + 1 }) (hCc : ∀ w w', C w → Below w.heap.size w w' → C w')
    (h : wpRel P l.toArray C (relL rels) (depL deps) (fun F a' => ∀ w', C w' → (∀ k, F k w') → wpList P l.toArray Q (l.drop n) a' w') ks (fun _ _ => True) a) : (Code.region id l.toArray true).wp P Q a w :=
  region_rel C n ks (relL rels) (depL deps) hm hB (fun j i hd => List.all_eq_true.1 hdep (j, i) (by unfold depL at hd; simpa using hd)) (relL_all fun x hx => (hok x hx).1) (relL_all fun x hx => (hok x hx).2) hC hCc h
theorem wpRel_segL {l : List Oper} {K : (Nat → World → Prop) → Act → Prop} {ks ks' : List Nat} (ks1 : List Nat) (pq : List Oper → List Oper) {F : Nat → World → Prop} {a : Act} (hk : ks' = ks1 ++ ks) (hs : (pq l).map some = ks1.map (l.toArray[·]?)) (hp : (pq l).all pureOp = true) (hr : (ks1.all fun k => (rel k).isNone) = true)
    (h : wpQuiet P l.toArray C (fun a' => wpRel P l.toArray C rel dep K ks (passF F ks1) a') (pq l) a) : wpRel P l.toArray C rel dep K ks' F a := by
  subst hk; exact wpRel_seg ks1 (pq l) hs hp hr h
theorem ok_nil : ∀ x ∈ ([] : List (Nat × Rel)), x.2.Ok := fun x hx => by simp at hx
theorem ok_cons {x : Nat × Rel} {l : List (Nat × Rel)} (h : x.2.Ok) (hl : ∀ y ∈ l, y.2.Ok) : ∀ y ∈ x :: l, y.2.Ok := fun y hy => by
  rcases List.mem_cons.1 hy with rfl | hy
  · exact h
  · exact hl y hy
end
end Go.Proofs.Ythfakpekdjmpjaa

namespace Go.Proofs.Ythfakpekdjmpjaa
open Go Go.RowKit
set_option linter.unusedVariables false
set_option linter.unusedSimpArgs false

section
variable {P : Program} {md : Region.Mode} {ops : Array Oper} {C : World → Prop} {n p e : Nat} {fe : Value → Value} {oe : Oper}
variable {rel : Nat → Option Rel} {dep : Nat → Nat → Bool}

theorem getD_setB (s : Array Bool) (i j : Nat) (b d : Bool) : (s.setIfInBounds i b).getD j d = if j = i ∧ i < s.size then b else s.getD j d := by
  simp only [Array.getD_eq_getD_getElem?, Array.getElem?_setIfInBounds]
  by_cases h : i = j
  · subst h
    by_cases h2 : i < s.size
    · rw [if_pos rfl, if_pos h2, if_pos ⟨rfl, h2⟩]; rfl
    · rw [if_pos rfl, if_neg h2, if_neg (fun x => h2 x.2), Array.getElem?_eq_none (by omega)]
  · rw [if_neg h, if_neg (fun x => h x.1.symm)]
theorem put_size (a : Act) (d : Option Tmp) (v : Value) : (a.put d v).tmps.size = a.tmps.size := by cases d <;> simp [Act.put]
/-- Behind operation p the glued one is carried out too. -/
def aft (oe : Oper) (p : Nat) (fe : Value → Value) (i : Nat) (a : Act) (v : Value) : Act := if i = p then a.put oe.dst (fe v) else a
theorem aft_ne {i : Nat} (h : i ≠ p) (a : Act) (v : Value) : aft oe p fe i a v = a := if_neg h
theorem aft_eq (a : Act) (v : Value) : aft oe p fe p a v = a.put oe.dst (fe v) := if_pos rfl
def relOpG (P : Program) (ops : Array Oper) (C : World → Prop) (rel : Nat → Option Rel) (dep : Nat → Nat → Bool) (oe : Oper) (p : Nat) (fe : Value → Value) (i : Nat) (K : (Nat → World → Prop) → Act → Prop) (F : Nat → World → Prop) (a : Act) : Prop :=
  ∃ o, ops[i]? = some o ∧ ∃ R, YR P ops C rel dep i o F a R ∧ ∀ v, R.U v → K (updF F i (R.V v)) (aft oe p fe i (a.put o.dst v) v)
def headG (P : Program) (md : Region.Mode) (ops : Array Oper) (C : World → Prop) (rel : Nat → Option Rel) (dep : Nat → Nat → Bool) (oe : Oper) (p : Nat) (fe : Value → Value) (n : Nat) (L : Array Bool → (Nat → World → Prop) → Act → Prop) : Nat → Array Bool → (Nat → World → Prop) → Act → Prop
  | 0, s, F, a => L s F a
  | f + 1, s, F, a => Region.ready md ops s ≠ [] ∧ ∀ i ∈ Region.ready md ops s, i < n ∧ relOpG P ops C rel dep oe p fe i (headG P md ops C rel dep oe p fe n L f (s.setIfInBounds i true)) F a
/-- The tail has not come up. -/
structure InvT (ops : Array Oper) (n e : Nat) (s : Array Bool) : Prop where
  size : s.size = ops.size
  tail : ∀ t, n ≤ t → t < ops.size → s.getD t true = false
  glue : s.getD e true = true
theorem InvT.set {s : Array Bool} (h : InvT ops n e s) {i : Nat} (hi : i < n) : InvT ops n e (s.setIfInBounds i true) :=
  ⟨by simp [h.size], fun t ht ht' => by rw [getD_set_ne true (by omega)]; exact h.tail t ht ht', by
    rw [getD_setB]; split
    · rfl
    · exact h.glue⟩
def sinkD (md : Region.Mode) (ops : Array Oper) (n e : Nat) : Bool := (List.range n).all fun i => i == e || Region.waitsFor md ops n i
theorem tail_offG {s : Array Bool} (hs : sinkD md ops n e = true) (hc : Region.chainB md ops n = true) (inv : InvT ops n e s) {i : Nat} (hin : i < n) (hun : s.getD i true = false) : ∀ t, n ≤ t → t ∉ Region.ready md ops s := fun t ht hr => by
  obtain ⟨_, ot, hot, hall⟩ := mem_ready.1 hr
  have htlt : t < ops.size := (Array.getElem?_eq_some_iff.1 hot).1
  have key : ∀ j, Region.waitsFor md ops t j = true → s.getD j true = false → False := fun j hw hj => by
    obtain ⟨o', ho', ed, he, hb, hon⟩ := Region.waitsFor_spec hw
    have : o' = ot := Option.some.inj (ho'.symm.trans hot)
    subst this
    have h2 := hall ed he hb
    rw [hon, getD_both hj] at h2
    cases h2
  by_cases htn : t = n
  · subst htn
    have h1 := List.all_eq_true.1 hs i (List.mem_range.2 hin)
    simp only [Bool.or_eq_true, beq_iff_eq] at h1
    rcases h1 with h1 | h1
    · subst h1; rw [inv.glue] at hun; cases hun
    · exact key i h1 hun
  · have h1 := List.all_eq_true.1 hc t (List.mem_range.2 htlt)
    simp only [Bool.or_eq_true, decide_eq_true_eq] at h1
    rcases h1 with h1 | h1
    · omega
    · exact key (t - 1) h1 (inv.tail (t - 1) (by omega) (by omega))
variable {L : Array Bool → (Nat → World → Prop) → Act → Prop}
theorem headG_take {i : Nat} {o : Oper} {w0 : World} (hw0 : C w0) (hi : ops[i]? = some o) (hsel : ∀ (j : Nat) (o : Oper) cs b, ops[j]? = some o → o.op ≠ .select cs b) (hs : sinkD md ops n e = true) (hc : Region.chainB md ops n = true)
    (hdep : ∀ j i, dep j i = true → Region.waitsFor md ops j i = true) (hap2 : ∀ j oj, ops[j]? = some oj → j < n → j ≠ e → j ≠ p → oe.apart ops oj = true) (hin : i < n) (hL : ∀ s F a, L s F a → ∀ j ∈ Region.ready md ops s, n ≤ j) (f : Nat) :
    ∀ s F a R, InvT ops n e s → (∀ j oj, ops[j]? = some oj → j ≠ i → s.getD j true = false → (∀ e ∈ oj.after, Region.binds md e = true → e.on ≠ i) → o.apart ops oj = true) → i ∈ Region.ready md ops s → YR P ops C rel dep i o F a R → (∃ v, R.U v) →
      (∀ v, R.U v → headG P md ops C rel dep oe p fe n L f (s.setIfInBounds i true) (updF F i (R.V v)) (aft oe p fe i (a.put o.dst v) v)) → headG P md ops C rel dep oe p fe n L (f + 1) s F a := by
  induction f with
  | zero =>
    intro s F a R inv hap hr hy hU H
    have hun := (mem_ready.1 hr).1
    refine ⟨fun e => (by rw [e] at hr; cases hr), fun j hj => ?_⟩
    have hjn : j < n := Nat.lt_of_not_le fun hge => tail_offG hs hc inv hin hun j hge hj
    refine ⟨hjn, ?_⟩
    by_cases e : j = i
    · subst e; exact ⟨o, hi, R, hy, H⟩
    · obtain ⟨v, hv⟩ := hU
      exact absurd (hL _ _ _ (H v hv) j (ready_mono hj e)) (by omega)
  | succ f ih =>
    intro s F a R inv hap hr hy hU H
    have hun := (mem_ready.1 hr).1
    refine ⟨fun e => (by rw [e] at hr; cases hr), fun j hj => ?_⟩
    have hjn : j < n := Nat.lt_of_not_le fun hge => tail_offG hs hc inv hin hun j hge hj
    refine ⟨hjn, ?_⟩
    by_cases eji : j = i
    · subst eji; exact ⟨o, hi, R, hy, H⟩
    · obtain ⟨hju, oj, hoj, hall⟩ := mem_ready.1 hj
      have hno : ∀ e ∈ oj.after, Region.binds md e = true → e.on ≠ i := fun e he hb heq => by
        have := hall e he hb
        rw [heq, getD_both hun] at this
        cases this
      have hdj : ∀ k, dep j k = true → k ≠ i := fun k hk heq => by
        obtain ⟨oj', hoj', ed, he, hb, hon⟩ := Region.waitsFor_spec (hdep j k hk)
        have : oj' = oj := Option.some.inj (hoj'.symm.trans hoj)
        subst this
        exact hno ed he hb (hon.trans heq)
      have hdi : ∀ k, dep i k = true → k ≠ j := fun k hk heq => by
        obtain ⟨oi', hoi', ed, he, hb, hon⟩ := Region.waitsFor_spec (hdep i k hk)
        obtain ⟨_, oi2, hoi2, hall2⟩ := mem_ready.1 hr
        have : oi' = oi2 := Option.some.inj (hoi'.symm.trans hoi2)
        subst this
        have := hall2 ed he hb
        rw [hon, heq, getD_both hju] at this
        cases this
      have hje : j ≠ e := fun x => by rw [x, inv.glue] at hju; cases hju
      have hie : i ≠ e := fun x => by rw [x, inv.glue] at hun; cases hun
      obtain ⟨h1, h2, h3⟩ := Oper.apart_spec (hap j oj hoj eji hju hno)
      have ga : ∀ (k : Nat) (ok : Oper), ops[k]? = some ok → k < n → k ≠ e → k ≠ p → (∀ d, oe.dst = some d → d ∉ ok.looksAt ops) ∧ (∀ d, oe.dst = some d → ok.dst ≠ some d) := fun k ok hk hkn hke hkp => by
        obtain ⟨g1, g2, _⟩ := Oper.apart_spec (hap2 k ok hk hkn hke hkp)
        exact ⟨g1, g2⟩
      have run : ∀ v, execOp (aft oe p fe i (a.put o.dst v) v).eval oj = execOp a.eval oj := fun v => by
        by_cases x : i = p
        · subst x
          rw [aft_eq, execOp_put oj (fun cs b => hsel j oj cs b hoj) _ oe.dst _ (ga j oj hoj hjn hje eji).1, execOp_put oj (fun cs b => hsel j oj cs b hoj) a o.dst v h1]
        · rw [aft_ne x, execOp_put oj (fun cs b => hsel j oj cs b hoj) a o.dst v h1]
      have wan : ∀ v, Region.wanted oj (yielded ops (aft oe p fe i (a.put o.dst v) v).tmps) = Region.wanted oj (yielded ops a.tmps) := fun v => by
        by_cases x : i = p
        · subst x
          rw [aft_eq, wanted_put oj _ oe.dst _ (ga j oj hoj hjn hje eji).1, wanted_put oj a o.dst v h1]
        · rw [aft_ne x, wanted_put oj a o.dst v h1]
      have run2 : ∀ v, execOp (aft oe p fe j (a.put oj.dst v) v).eval o = execOp a.eval o := fun v => by
        by_cases x : j = p
        · subst x
          rw [aft_eq, execOp_put o (fun cs b => hsel i o cs b hi) _ oe.dst _ (ga i o hi hin hie (fun y => eji y.symm)).1, execOp_put o (fun cs b => hsel i o cs b hi) a oj.dst v h3]
        · rw [aft_ne x, execOp_put o (fun cs b => hsel i o cs b hi) a oj.dst v h3]
      have wan2 : ∀ v, Region.wanted o (yielded ops (aft oe p fe j (a.put oj.dst v) v).tmps) = Region.wanted o (yielded ops a.tmps) := fun v => by
        by_cases x : j = p
        · subst x
          rw [aft_eq, wanted_put o _ oe.dst _ (ga i o hi hin hie (fun y => eji y.symm)).1, wanted_put o a oj.dst v h3]
        · rw [aft_ne x, wanted_put o a oj.dst v h3]
      have com : ∀ v u, aft oe p fe j ((aft oe p fe i (a.put o.dst v) v).put oj.dst u) u = aft oe p fe i ((aft oe p fe j (a.put oj.dst u) u).put o.dst v) v := fun v u => by
        by_cases x : i = p
        · subst x
          rw [aft_ne eji, aft_ne eji, aft_eq, aft_eq, Act.put_comm _ _ _ (ga j oj hoj hjn hje eji).2, Act.put_comm a v u h2]
        · rw [aft_ne x, aft_ne x]
          by_cases y : j = p
          · subst y
            rw [aft_eq, aft_eq, Act.put_comm a v u h2]
            exact (Act.put_comm _ _ _ (ga i o hi hin hie x).2).symm
          · rw [aft_ne y, aft_ne y, Act.put_comm a v u h2]
      have back : ∀ v R' q, YR P ops C rel dep j oj (updF F i q) (aft oe p fe i (a.put o.dst v) v) R' → YR P ops C rel dep j oj F a R' := fun v R' q h =>
        h.of_same (run v).symm (wan v).symm (fun k hk => (updF_ne q (hdj k hk)).symm)
      obtain ⟨v0, hv0⟩ := hU
      obtain ⟨oj0, hoj0, Rj, hyj, _⟩ := (H v0 hv0).2 j (ready_mono hj eji) |>.2
      have : oj0 = oj := Option.some.inj (hoj0.symm.trans hoj)
      subst this
      have hyj0 := back v0 Rj _ hyj
      refine ⟨oj0, hoj, Rj, hyj0, fun v' hv' => ?_⟩
      refine ih _ _ _ R (inv.set hjn) (fun k ok hk hki hku hkn => hap k ok hk hki ?_ hkn) (ready_mono hr (Ne.symm eji))
        (hy.of_same (run2 v') (wan2 v') (fun k hk => updF_ne _ (hdi k hk))) ⟨v0, hv0⟩ (fun v hv => ?_)
      · by_cases ejk : j = k
        · subst ejk; exact hju
        · rw [getD_set_ne true ejk] at hku; exact hku
      · obtain ⟨oj1, hoj1, R1, hy1, hK1⟩ := (H v hv).2 j (ready_mono hj eji) |>.2
        have : oj1 = oj0 := Option.some.inj (hoj1.symm.trans hoj)
        subst this
        have hR : R1 = Rj := (back v R1 _ hy1).unique hw0 hyj0
        subst hR
        have := hK1 v' hv'
        rw [Array.setIfInBounds_comm _ _ eji, updF_comm _ _ _ eji, ← com v v']
        exact this
/-- The state as it is: the glued operation has come up where p has. -/
def realS (p e : Nat) (s : Array Bool) : Array Bool := if s.getD p true = false then s.setIfInBounds e false else s
def fuelS (p : Nat) (s : Array Bool) : Nat := if s.getD p true = false then 1 else 0
theorem headG_any {g : Nat} {Q : Exit → Act → World → Prop} {op : Oper} (hpo : ops[p]? = some op) (heo : ops[e]? = some oe) (hpn : p < n) (hpe : p ≠ e) (hsel : ∀ (j : Nat) (o : Oper) cs b, ops[j]? = some o → o.op ≠ .select cs b)
    (hwe : ∀ ed ∈ oe.after, Region.binds md ed = true → ed.on = p) (hwp : Region.waitsFor md ops e p = true) (hnw : ∀ j, j < n → Region.waitsFor md ops j e = false) (hape : ∀ j oj, ops[j]? = some oj → j ≠ e → j ≠ p → (∀ ed ∈ oj.after, Region.binds md ed = true → ed.on ≠ e) → oe.apart ops oj = true)
    (hQ : ∀ c a w v, Q (.panic c) (a.put oe.dst v) w → Q (.panic c) a w) {N : Nat} (hy : ∀ R, rel p = some R → ∀ (a : Act) v, a.tmps.size = N → R.U v → Yields P ops oe (fe v) (a.put op.dst v)) (hpr : (rel p).isSome = true) (hgp : op.guard = none)
    (hst : ∀ j R, rel j = some R → ∀ v w w', R.V v w → Below w.heap.size w w' → R.V v w') (hCc : ∀ w w', C w → Below w.heap.size w w' → C w')
    (hL : ∀ s F a w, C w → (∀ k, F k w) → L s F a → s.getD p true = true ∧ wpAny P md ops Q g s a w) (f : Nat) : ∀ s F a w, a.tmps.size = N → InvT ops n e s → C w → (∀ k, F k w) → (∀ k w w', F k w → Below w.heap.size w w' → F k w') → headG P md ops C rel dep oe p fe n L f s F a → wpAny P md ops Q (f + fuelS p s + g) (realS p e s) a w := by
  have hps : p < ops.size := (Array.getElem?_eq_some_iff.1 hpo).1
  have hes : e < ops.size := (Array.getElem?_eq_some_iff.1 heo).1
  induction f with
  | zero =>
    intro s F a w _ inv hw hF _ h
    obtain ⟨h1, h2⟩ := hL _ _ _ _ hw hF h
    unfold fuelS realS
    rw [h1, if_neg (by decide), if_neg (by decide)]
    simpa using h2
  | succ f ih =>
    intro s F a w hN inv hw hF hFc h
    have facts : ∀ (i : Nat) (R : Rel) (v : Value) (w' : World), Below w.heap.size w w' → R.V v w' → (∀ v w w', R.V v w → Below w.heap.size w w' → R.V v w') → (∀ k, updF F i (R.V v) k w') ∧ (∀ k w1 w2, updF F i (R.V v) k w1 → Below w1.heap.size w1 w2 → updF F i (R.V v) k w2) := fun i R v w' hb hv hvc =>
      ⟨fun k => by
        by_cases x : k = i
        · subst x; rw [updF_eq]; exact hv
        · rw [updF_ne _ x]; exact hFc k _ _ (hF k) hb, fun k w1 w2 g1 g2 => by
        by_cases x : k = i
        · subst x; rw [updF_eq] at g1 ⊢; exact hvc _ _ _ g1 g2
        · rw [updF_ne _ x] at g1 ⊢; exact hFc k _ _ g1 g2⟩
    -- one operation, whatever it is
    have one : ∀ (i : Nat) (K : Act → World → Prop), i ∈ Region.ready md ops s → (∀ o R, ops[i]? = some o → YR P ops C rel dep i o F a R → ∀ v w', C w' → R.U v → (∀ k, updF F i (R.V v) k w') → (∀ k w1 w2, updF F i (R.V v) k w1 → Below w1.heap.size w1 w2 → updF F i (R.V v) k w2) → headG P md ops C rel dep oe p fe n L f (s.setIfInBounds i true) (updF F i (R.V v)) (aft oe p fe i (a.put o.dst v) v) → K (a.put o.dst v) w') → wpOp P ops Q i K a w := fun i K hi hK => by
      obtain ⟨_, o, ho, R, hyr, hH⟩ := h.2 i hi
      have hK' := hK o R ho hyr
      unfold wpOp
      simp only [ho]
      rcases hyr with ⟨hwt, hr, h3⟩ | ⟨hwt, hr, u, rfl, h4⟩ | ⟨hwt, rfl⟩
      · rw [if_pos hwt]
        left
        have h5 := h3 w ⟨hw, fun k _ => hF k⟩
        unfold Oper.wp
        generalize (execOp a.eval o).run P w = r at *
        cases r with
        | ok x w' =>
          cases x <;> simp only [relUpon] at h5
          case value u =>
            obtain ⟨q1, q2⟩ := facts i R u w' h5.2.1 h5.2.2.2 (hst i R hr)
            exact hK' _ _ h5.1 h5.2.2.1 q1 q2 (hH _ h5.2.2.1)
          case enter fn args =>
            obtain ⟨rfl, hc⟩ := h5
            simp only [Oper.upon]
            exact hc.mono fun e9 w'' ⟨u, he, h6, h7, h8, h9⟩ => by
              subst he
              obtain ⟨q1, q2⟩ := facts i R u w'' h7 h9 (hst i R hr)
              exact hK' _ _ h6 h8 q1 q2 (hH _ h8)
        | halt x w' => simp only [relUpon] at h5
      · rw [if_pos hwt]
        left
        have h5 := h4 w hw
        obtain ⟨q1, q2⟩ := facts i ⟨fun v => v = u, fun _ _ => True⟩ u w (Below.refl _ _) trivial (fun _ _ _ _ _ => trivial)
        unfold Oper.wp
        generalize (execOp a.eval o).run P w = r at *
        cases r with
        | ok x w' =>
          cases x <;> simp only [pureUpon] at h5
          case value v => obtain ⟨rfl, rfl⟩ := h5; exact hK' _ _ hw rfl q1 q2 (hH _ rfl)
          case skip => obtain ⟨rfl, rfl⟩ := h5; exact hK' _ _ hw rfl q1 q2 (hH _ rfl)
        | halt x w' => simp only [pureUpon] at h5
      · rw [if_neg (by rw [hwt]; exact Bool.false_ne_true)]
        obtain ⟨q1, q2⟩ := facts i ⟨fun v => v = undef, fun _ _ => True⟩ undef w (Below.refl _ _) trivial (fun _ _ _ _ _ => trivial)
        exact hK' _ _ hw rfl q1 q2 (hH _ rfl)
    cases hp : s.getD p true with
    | true =>
      have hr0 : realS p e s = s := by unfold realS; rw [hp, if_neg (by decide)]
      have hf0 : fuelS p s = 0 := by unfold fuelS; rw [hp, if_neg (by decide)]
      rw [hr0, hf0, show f + 1 + 0 + g = (f + g) + 1 by omega]
      refine ⟨fun x => absurd x h.1, fun i hi => one i _ hi fun o R ho hyr v w' hC' hu q1 q2 hG => ?_⟩
      have hip : i ≠ p := fun x => by subst x; rw [(mem_ready.1 hi).1] at hp; cases hp
      rw [aft_ne hip] at hG
      have hp2 : (s.setIfInBounds i true).getD p true = true := by rw [getD_set_ne true hip]; exact hp
      have hr1 : realS p e (s.setIfInBounds i true) = s.setIfInBounds i true := by unfold realS; rw [hp2, if_neg (by decide)]
      have hf1 : fuelS p (s.setIfInBounds i true) = 0 := by unfold fuelS; rw [hp2, if_neg (by decide)]
      have := ih _ _ _ _ (by rw [put_size]; exact hN) (inv.set (h.2 i hi).1) hC' q1 q2 hG
      rwa [hr1, hf1, Nat.add_zero] at this
    | false =>
      have hr0 : realS p e s = s.setIfInBounds e false := by unfold realS; rw [hp, if_pos rfl]
      have hf0 : fuelS p s = 1 := by unfold fuelS; rw [hp, if_pos rfl]
      rw [hr0, hf0, show f + 1 + 1 + g = (f + 1 + g) + 1 by omega]
      have hes2 : e < s.size := by rw [inv.size]; exact hes
      have gd : ∀ j d, (s.setIfInBounds e false).getD j d = if j = e then false else s.getD j d := fun j d => by
        rw [getD_setB]
        by_cases x : j = e
        · rw [if_pos ⟨x, hes2⟩, if_pos x]
        · rw [if_neg (fun y => x y.1), if_neg x]
      have down : ∀ i, i ∈ Region.ready md ops (s.setIfInBounds e false) → i ∈ Region.ready md ops s ∧ i ≠ e := fun i hi => by
        obtain ⟨h0, o, ho, hall⟩ := mem_ready.1 hi
        have hie : i ≠ e := fun x => by
          subst x
          obtain ⟨o', ho', ed, he, hb, hon⟩ := Region.waitsFor_spec hwp
          have : o' = o := Option.some.inj (ho'.symm.trans ho)
          subst this
          have := hall ed he hb
          rw [gd, hon, if_neg hpe, getD_both hp] at this
          cases this
        rw [gd, if_neg hie] at h0
        refine ⟨mem_ready.2 ⟨h0, o, ho, fun ed he hb => ?_⟩, hie⟩
        have := hall ed he hb
        rw [gd] at this
        split at this
        · cases this
        · exact this
      have up : ∀ i, i ∈ Region.ready md ops s → i ∈ Region.ready md ops (s.setIfInBounds e false) := fun i hi => by
        have hin := (h.2 i hi).1
        obtain ⟨h0, o, ho, hall⟩ := mem_ready.1 hi
        have hie : i ≠ e := fun x => by rw [x, inv.glue] at h0; cases h0
        refine mem_ready.2 ⟨by rw [gd, if_neg hie]; exact h0, o, ho, fun ed he hb => ?_⟩
        rw [gd, if_neg ?_]
        · exact hall ed he hb
        · intro x
          have h1 : Region.waitsFor md ops i e = true := by
            unfold Region.waitsFor
            rw [ho]
            exact Array.any_eq_true'.2 ⟨ed, he, by rw [hb, x]; simp⟩
          rw [hnw i hin] at h1
          cases h1
      refine ⟨fun x => ?_, fun i hi => ?_⟩
      · obtain ⟨i, hi⟩ := List.exists_mem_of_ne_nil _ h.1
        have := up i hi
        rw [x] at this
        cases this
      · obtain ⟨hi0, hie⟩ := down i hi
        by_cases hip : i = p
        · subst hip
          refine one i _ hi0 fun o R ho hyr v w' hC' hu q1 q2 hG => ?_
          have : o = op := Option.some.inj (ho.symm.trans hpo)
          subst this
          rw [aft_eq] at hG
          have hwt : Region.wanted o (yielded ops a.tmps) = true := by simp [Region.wanted, hgp]
          have hyv : Yields P ops oe (fe v) (a.put o.dst v) := by
            rcases hyr with ⟨_, hr, _⟩ | ⟨_, hr, _⟩ | ⟨hf, _⟩
            · exact hy R hr a v hN hu
            · rw [hr] at hpr; cases hpr
            · rw [hwt] at hf; cases hf
          have gd2 : ∀ j d, ((s.setIfInBounds e false).setIfInBounds i true).getD j d = if j = i then true else if j = e then false else s.getD j d := fun j d => by
            rw [getD_setB]
            by_cases x : j = i
            · rw [if_pos ⟨x, by rw [Array.size_setIfInBounds, inv.size]; exact hps⟩, if_pos x]
            · rw [if_neg (fun y => x y.1), if_neg x, gd]
          have hset : ((s.setIfInBounds e false).setIfInBounds i true).setIfInBounds e true = s.setIfInBounds i true := by
            apply Array.ext_getElem?
            intro k
            by_cases x : e = k
            · subst x
              have := inv.glue
              rw [Array.getD_eq_getD_getElem?, Array.getElem?_eq_getElem hes2] at this
              have h2 : s[e] = true := this
              rw [Array.getElem?_setIfInBounds, if_pos rfl, if_pos (by simpa using hes2), Array.getElem?_setIfInBounds, if_neg hie, Array.getElem?_eq_getElem hes2, h2]
            · rw [Array.getElem?_setIfInBounds, if_neg x]
              by_cases y : i = k
              · subst y
                rw [Array.getElem?_setIfInBounds, if_pos rfl, Array.getElem?_setIfInBounds, if_pos rfl, Array.size_setIfInBounds]
              · rw [Array.getElem?_setIfInBounds, if_neg y, Array.getElem?_setIfInBounds, if_neg x, Array.getElem?_setIfInBounds, if_neg y]
          rw [show f + 1 + g = (f + g) + 1 by omega]
          refine wpAny_first heo hsel (fun c a w => hQ c a w _) (f + g) _ _ _ (fun j oj hoj hje hju hno => ?_) ?_ hyv ?_
          · refine hape j oj hoj hje ?_ hno
            intro x
            subst x
            rw [gd2, if_pos rfl] at hju; cases hju
          · refine mem_ready.2 ⟨by rw [gd2, if_neg (fun x => hie x.symm), if_pos rfl], oe, heo, fun ed he hb => ?_⟩
            rw [gd2, hwe ed he hb, if_pos rfl]
          · rw [hset]
            have hp2 : (s.setIfInBounds i true).getD i true = true := by rw [getD_setB, if_pos ⟨rfl, by rw [inv.size]; exact hps⟩]
            have hr1 : realS i e (s.setIfInBounds i true) = s.setIfInBounds i true := by unfold realS; rw [hp2, if_neg (by decide)]
            have hf1 : fuelS i (s.setIfInBounds i true) = 0 := by unfold fuelS; rw [hp2, if_neg (by decide)]
            have := ih _ _ _ _ (by rw [put_size, put_size]; exact hN) (inv.set hpn) hC' q1 q2 hG
            rwa [hr1, hf1, Nat.add_zero] at this
        · refine one i _ hi0 fun o R ho hyr v w' hC' hu q1 q2 hG => ?_
          rw [aft_ne hip] at hG
          have hp2 : (s.setIfInBounds i true).getD p true = false := by rw [getD_set_ne true hip]; exact hp
          have hr1 : realS p e (s.setIfInBounds i true) = (s.setIfInBounds e false).setIfInBounds i true := by
            unfold realS
            rw [hp2, if_pos rfl]
            exact Array.setIfInBounds_comm _ _ hie
          have hf1 : fuelS p (s.setIfInBounds i true) = 1 := by unfold fuelS; rw [hp2, if_pos rfl]
          have := ih _ _ _ _ (by rw [put_size]; exact hN) (inv.set (h.2 i hi0).1) hC' q1 q2 hG
          rwa [hr1, hf1] at this
/-- The walk: the operations of these numbers, in this order. -/
def wpRelG (P : Program) (ops : Array Oper) (C : World → Prop) (rel : Nat → Option Rel) (dep : Nat → Nat → Bool) (oe : Oper) (p : Nat) (fe : Value → Value) (K : (Nat → World → Prop) → Act → Prop) : List Nat → (Nat → World → Prop) → Act → Prop
  | [], F, a => K F a
  | k :: ks, F, a => relOpG P ops C rel dep oe p fe k (wpRelG P ops C rel dep oe p fe K ks) F a
def lexG (md : Region.Mode) (ops : Array Oper) (n p : Nat) (g : Nat) : List Nat → Array Bool → Bool
  | [], s => Region.seqB md ops g n s && s.getD p true
  | k :: ks, s => decide (k < n) && (Region.ready md ops s).contains k && Region.free md ops s k && lexG md ops n p g ks (s.setIfInBounds k true)
theorem headG_walk {g : Nat} {K : (Nat → World → Prop) → Act → Prop} {w0 : World} (hw0 : C w0) (hsel : Region.noSelect ops = true) (hs : sinkD md ops n e = true) (hc : Region.chainB md ops n = true)
    (hdep : ∀ j i, dep j i = true → Region.waitsFor md ops j i = true) (hap2 : ∀ j oj, ops[j]? = some oj → j < n → j ≠ e → j ≠ p → oe.apart ops oj = true) (hU : ∀ j R, rel j = some R → ∃ v, R.U v) (ks : List Nat) :
    ∀ s F a, InvT ops n e s → lexG md ops n p g ks s = true → wpRelG P ops C rel dep oe p fe K ks F a →
    headG P md ops C rel dep oe p fe n (fun s' F' a' => (Region.seqB md ops g n s' && s'.getD p true) = true ∧ K F' a') ks.length s F a := by
  induction ks with
  | nil => intro s F a _ hB h; exact ⟨hB, h⟩
  | cons k ks ih =>
    intro s F a inv hB h
    simp only [lexG, Bool.and_eq_true, decide_eq_true_eq] at hB
    obtain ⟨⟨⟨hkn, hr⟩, hf⟩, hB'⟩ := hB
    have hr' : k ∈ Region.ready md ops s := by simpa using hr
    obtain ⟨o, ho, R, hy, hK⟩ := h
    refine headG_take hw0 ho (Region.noSelect_spec hsel) hs hc hdep hap2 hkn (fun s' F' a' hL => seqB_ready (Bool.and_eq_true_iff.1 hL.1).1) ks.length s F a R inv (Region.free_spec ho hf) hr' hy ?_ (fun v hv => ih _ _ _ (inv.set hkn) hB' (hK v hv))
    rcases hy with ⟨_, hr, _⟩ | ⟨_, _, u, rfl, _⟩ | ⟨_, rfl⟩
    · exact hU k R hr
    · exact ⟨u, rfl⟩
    · exact ⟨undef, rfl⟩
/-- What the kernel sees of the region: the numbers ks are walked, e is glued to p, the others (from n on) come one behind the other. -/
def regionG (md : Region.Mode) (ops : Array Oper) (n p e : Nat) (ks : List Nat) : Bool :=
  Region.noSelect ops && decide (n < ops.size) && decide (p < n) && decide (e < n) && decide (p ≠ e) && sinkD md ops n e && Region.chainB md ops n && lexG md ops n p (ops.size - n) ks ((Array.replicate ops.size false).setIfInBounds e true) &&
  decide (ks.length + 1 + (ops.size - n) = ops.size) && Region.waitsFor md ops e p && ((List.range n).all fun j => !Region.waitsFor md ops j e) &&
  (match ops[e]?, ops[p]? with
   | some oe, some op => (oe.after.all fun ed => !Region.binds md ed || ed.on == p) && op.guard.isNone &&
      ((List.range ops.size).all fun j => j == e || j == p || match ops[j]? with | some oj => (decide (n ≤ j) && Region.waitsFor md ops j e) || oe.apart ops oj | none => true)
   | _, _ => false)
theorem region_glue {id : Nat} {Q : Exit → Act → World → Prop} {a : Act} {w : World} {l : List Oper} (C : World → Prop) (n p e : Nat) (fe : Value → Value) (oe op : Oper) (ks : List Nat) (rels : List (Nat × Rel)) (deps : List (Nat × Nat)) (hm : P.follows .mixedOrders = true) (hB : regionG .any l.toArray n p e ks = true)
    (heo : l.toArray[e]? = some oe) (hpo : l.toArray[p]? = some op) (hpr : (relL rels p).isSome = true) (hy : ∀ R, relL rels p = some R → ∀ (b : Act) v, b.tmps.size = a.tmps.size → R.U v → Yields P l.toArray oe (fe v) (b.put op.dst v))
    (hQ : ∀ c a w v, Q (.panic c) (a.put oe.dst v) w → Q (.panic c) a w)
    (hdep : (deps.all fun x => Region.waitsFor .any l.toArray x.1 x.2) = true) (hok : ∀ x ∈ rels, x.2.Ok)
    (hC : C { w with drawn := w.drawn + 1 }) (hCc : ∀ w w', C w → Below w.heap.size w w' → C w')
    (h : wpRelG P l.toArray C (relL rels) (depL deps) oe p fe (fun F a' => ∀ w', C w' → (∀ k, F k w') → wpList P l.toArray Q (l.drop n) a' w') ks (fun _ _ => True) a) : (Code.region id l.toArray true).wp P Q a w := by
  simp only [regionG, heo, hpo, Bool.and_eq_true, decide_eq_true_eq] at hB
  obtain ⟨⟨⟨⟨⟨⟨⟨⟨⟨⟨⟨hsel, hn⟩, hpn⟩, hen⟩, hpe⟩, hs⟩, hc⟩, hlex⟩, hlen⟩, hwp⟩, hnw⟩, ⟨hwe, hgp⟩, hap⟩ := hB
  have hps : p < l.toArray.size := (Array.getElem?_eq_some_iff.1 hpo).1
  have hes : e < l.toArray.size := (Array.getElem?_eq_some_iff.1 heo).1
  have hape : ∀ j oj, l.toArray[j]? = some oj → j ≠ e → j ≠ p → (n ≤ j ∧ Region.waitsFor .any l.toArray j e = true) ∨ oe.apart l.toArray oj = true := fun j oj hoj hje hjp => by
    have := List.all_eq_true.1 hap j (List.mem_range.2 (Array.getElem?_eq_some_iff.1 hoj).1)
    simp only [hoj, Bool.or_eq_true, beq_iff_eq, hje, hjp, false_or, Bool.and_eq_true, decide_eq_true_eq] at this
    exact this
  have hsz : (Array.replicate l.toArray.size false).size = l.toArray.size := by simp
  have inv : InvT l.toArray n e ((Array.replicate l.toArray.size false).setIfInBounds e true) := by
    refine ⟨by simp, fun t ht htt => ?_, ?_⟩
    · rw [getD_setB, if_neg (by omega)]
      exact getD_in (by rw [hsz]; exact htt) (getD_replicate_false _ _)
    · rw [getD_setB, if_pos ⟨rfl, by rw [hsz]; exact hes⟩]
  have H := headG_walk (P := P) (C := C) hC hsel hs hc (fun j i hd => List.all_eq_true.1 hdep (j, i) (by unfold depL at hd; simpa using hd)) (fun j oj hoj hjn hje hjp => (hape j oj hoj hje hjp).resolve_left (fun x => by omega)) (relL_all fun x hx => (hok x hx).1) ks _ _ a inv hlex h
  refine wp_region_any hm ?_
  have hd : (l.drop n).length = l.toArray.size - n := by simp
  have hp0 : ((Array.replicate l.toArray.size false).setIfInBounds e true).getD p true = false := by
    rw [getD_setB, if_neg (fun x => hpe x.1)]
    exact getD_in (by rw [hsz]; exact hps) (getD_replicate_false _ _)
  have hr0 : realS p e ((Array.replicate l.toArray.size false).setIfInBounds e true) = Array.replicate l.toArray.size false := by
    unfold realS
    rw [hp0, if_pos rfl]
    apply Array.ext
    · simp
    · intro k k1 k2
      by_cases x : e = k
      · subst x
        simp
      · simp [Array.getElem_setIfInBounds, x]
  have hf0 : fuelS p ((Array.replicate l.toArray.size false).setIfInBounds e true) = 1 := by unfold fuelS; rw [hp0, if_pos rfl]
  have H2 := headG_any (Q := Q) (g := l.toArray.size - n) hpo heo hpn hpe (Region.noSelect_spec hsel) (fun ed he hb => by
      have := Array.all_eq_true_iff_forall_mem.1 hwe ed he
      simpa [hb] using this) hwp (fun j hj => by
      have := List.all_eq_true.1 hnw j (List.mem_range.2 hj)
      simpa using this) (fun j oj hoj hje hjp hno => by
      rcases hape j oj hoj hje hjp with ⟨_, hw⟩ | hw
      · obtain ⟨o', ho', ed, he, hb, hon⟩ := Region.waitsFor_spec hw
        have : o' = oj := Option.some.inj (ho'.symm.trans hoj)
        subst this
        exact absurd hon (hno ed he hb)
      · exact hw) hQ hy hpr (by simpa using hgp) (relL_all fun x hx => (hok x hx).2) hCc (fun s F a' w' hw' hF hL => by
    obtain ⟨h1, h2⟩ := Bool.and_eq_true_iff.1 hL.1
    refine ⟨h2, ?_⟩
    have := wpAny_of_seq (md := .any) (Q' := Q) (l.drop n) n s a' w' (fun j => by simp [List.getElem?_drop]) (by rw [hd]; exact h1) (hL.2 w' hw' hF)
    rwa [hd] at this) ks.length _ _ _ _ rfl inv hC (fun _ => trivial) (fun _ _ _ _ _ => trivial) H
  rw [hr0, hf0, hlen] at H2
  exact H2

theorem wpRelG_pure {K : (Nat → World → Prop) → Act → Prop} {k : Nat} {ks : List Nat} {F : Nat → World → Prop} {a : Act} {o : Oper} (ho : ops[k]? = some o) (hr : rel k = none) (hkp : k ≠ p)
    (h : ∀ K' : Act → Prop, (∀ a', wpRelG P ops C rel dep oe p fe K ks (updF F k fun _ => True) a' → K' a') → if Region.wanted o (yielded ops a.tmps) = true then ∃ u, (∀ w, C w → pureUpon w u ((execOp a.eval o).run P w)) ∧ K' (a.put o.dst u) else K' (a.put o.dst undef)) :
    wpRelG P ops C rel dep oe p fe K (k :: ks) F a := by
  have h1 := h _ fun _ h => h
  cases hw : Region.wanted o (yielded ops a.tmps) with
  | true =>
    rw [if_pos hw] at h1
    obtain ⟨u, h2, h3⟩ := h1
    exact ⟨o, ho, _, .inr (.inl ⟨hw, hr, u, rfl, h2⟩), fun v hv => by subst hv; rw [aft_ne hkp]; exact h3⟩
  | false =>
    rw [if_neg (by rw [hw]; exact Bool.false_ne_true)] at h1
    exact ⟨o, ho, _, .inr (.inr ⟨hw, rfl⟩), fun v hv => by subst hv; rw [aft_ne hkp]; exact h1⟩
theorem wpRelG_rel {K : (Nat → World → Prop) → Act → Prop} {k : Nat} {ks : List Nat} {F : Nat → World → Prop} {a : Act} {o : Oper} {R : Rel} (ho : ops[k]? = some o) (hr : rel k = some R) (hkp : k ≠ p) (hw : Region.wanted o (yielded ops a.tmps) = true)
    (h1 : ∀ w, InC C dep F k w → relUpon P C R w ((execOp a.eval o).run P w)) (h : ∀ v, R.U v → wpRelG P ops C rel dep oe p fe K ks (updF F k (R.V v)) (a.put o.dst v)) : wpRelG P ops C rel dep oe p fe K (k :: ks) F a :=
  ⟨o, ho, R, .inl ⟨hw, hr, h1⟩, fun v hv => by rw [aft_ne hkp]; exact h v hv⟩
theorem wpRelG_glued {K : (Nat → World → Prop) → Act → Prop} {ks : List Nat} {F : Nat → World → Prop} {a : Act} {o : Oper} {R : Rel} (ho : ops[p]? = some o) (hr : rel p = some R) (hw : Region.wanted o (yielded ops a.tmps) = true)
    (h1 : ∀ w, InC C dep F p w → relUpon P C R w ((execOp a.eval o).run P w)) (h : ∀ v, R.U v → wpRelG P ops C rel dep oe p fe K ks (updF F p (R.V v)) ((a.put o.dst v).put oe.dst (fe v))) : wpRelG P ops C rel dep oe p fe K (p :: ks) F a :=
  ⟨o, ho, R, .inl ⟨hw, hr, h1⟩, fun v hv => by rw [aft_eq]; exact h v hv⟩
theorem wpRelG_nil {K : (Nat → World → Prop) → Act → Prop} {F : Nat → World → Prop} {a : Act} (h : K F a) : wpRelG P ops C rel dep oe p fe K [] F a := h
theorem wpRelG_seg {K : (Nat → World → Prop) → Act → Prop} {ks : List Nat} (ks1 : List Nat) : ∀ {F : Nat → World → Prop} {a : Act} (seg : List Oper), seg.map some = ks1.map (ops[·]?) → seg.all pureOp = true → (ks1.all fun k => (rel k).isNone && k != p) = true →
    wpQuiet P ops C (fun a' => wpRelG P ops C rel dep oe p fe K ks (passF F ks1) a') seg a → wpRelG P ops C rel dep oe p fe K (ks1 ++ ks) F a := by
  induction ks1 with
  | nil =>
    intro F a seg hs _ _ h
    have e : seg = [] := by simpa using hs
    subst e
    exact h
  | cons k ks1 ih =>
    intro F a seg hs hp hr h
    cases seg with
    | nil => simp at hs
    | cons o seg =>
      simp only [List.map_cons, List.cons.injEq] at hs
      simp only [List.all_cons, Bool.and_eq_true] at hp hr
      have hrk : rel k = none := by simpa using hr.1.1
      refine wpRelG_pure hs.1.symm hrk (by simpa using hr.1.2) fun K' hK' => ?_
      unfold wpQuiet at h
      split at h
      · rename_i hw
        rw [if_pos hw]
        obtain ⟨v, h1, h2⟩ := h
        exact ⟨v, fun w hw' => pure_of_quiet hp.1 (h1 w hw'), hK' _ (ih seg hs.2 hp.2 hr.2 h2)⟩
      · rename_i hw
        rw [if_neg hw]
        exact hK' _ (ih seg hs.2 hp.2 hr.2 h)
theorem wpRelG_segL {l : List Oper} {K : (Nat → World → Prop) → Act → Prop} {ks ks' : List Nat} (ks1 : List Nat) (pq : List Oper → List Oper) {F : Nat → World → Prop} {a : Act} (hk : ks' = ks1 ++ ks) (hs : (pq l).map some = ks1.map (l.toArray[·]?)) (hp : (pq l).all pureOp = true) (hr : (ks1.all fun k => (rel k).isNone && k != p) = true)
    (h : wpQuiet P l.toArray C (fun a' => wpRelG P l.toArray C rel dep oe p fe K ks (passF F ks1) a') (pq l) a) : wpRelG P l.toArray C rel dep oe p fe K ks' F a := by
  subst hk; exact wpRelG_seg ks1 (pq l) hs hp hr h
/-- The second of two answers. -/
def snd2 : Value → Value
  | .tuple xs => xs.getD 1 undef
  | _ => undef
theorem snd2_two (x y : Value) : snd2 (.tuple #[x, y]) = y := rfl
theorem yields_snd {a : Act} {x y : Value} {k : Nat} (o : Oper) (ho : o.op = .extract (.tmp k) 1) (hg : o.guard = none) (hk : k < a.tmps.size) : Yields P ops o (snd2 (.tuple #[x, y])) (a.put (some k) (.tuple #[x, y])) := by
  refine .inl ⟨by simp [Region.wanted, hg], fun w => ?_⟩
  have he : (a.put (some k) (.tuple #[x, y])).eval (.tmp k) = .tuple #[x, y] := by
    simp [Act.put, Act.eval, hk]
  unfold execOp
  simp only [ho, he]
  simp [Instr.extract, snd2, go_sem]
end
end Go.Proofs.Ythfakpekdjmpjaa
