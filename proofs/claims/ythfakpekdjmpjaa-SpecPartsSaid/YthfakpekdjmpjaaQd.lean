/- A region that draws its order: some operations are quiet in a class of worlds, a chain makes blocks of its own, and a tail in forced order waits for all of them: one walk, the quiet ones, the chain, then the tail. No program is spoken of. -/
import Derived.Test.YthfakpekdjmpjaaQc
namespace Go.Proofs.Ythfakpekdjmpjaa
open Go Go.RowKit
set_option linter.unusedVariables false
set_option linter.unusedSimpArgs false

section
variable {P : Program} {md : Region.Mode} {ops : Array Oper} {C : World → Prop} {n : Nat} {L L' : Array Bool → Act → Prop} {K : Act → World → Prop}

/-- So many quiet operations, whichever come up (the chain is marked as done); then L. -/
def headT (P : Program) (md : Region.Mode) (ops : Array Oper) (n : Nat) (C : World → Prop) (L : Array Bool → Act → Prop) : Nat → Array Bool → Act → Prop
  | 0, s, a => L s a
  | f + 1, s, a => (∃ i ∈ Region.ready md ops s, i < n) ∧ ∀ i ∈ Region.ready md ops s, i < n → extOp P ops C i (headT P md ops n C L f (s.setIfInBounds i true)) a
theorem headT_mono (h : ∀ s a, L s a → L' s a) (f : Nat) : ∀ s a, headT P md ops n C L f s a → headT P md ops n C L' f s a := by
  induction f with
  | zero => exact fun s a hh => h _ _ hh
  | succ f ih => exact fun s a hh => ⟨hh.1, fun i hi hin => extOp_mono (fun a' h' => ih _ a' h') (hh.2 i hi hin)⟩
theorem headT_take {i : Nat} {o : Oper} {v : Value} (hi : ops[i]? = some o) (hsel : ∀ (j : Nat) (o : Oper) cs b, ops[j]? = some o → o.op ≠ .select cs b) (hin : i < n) (hL : ∀ s a, L s a → ∀ j ∈ Region.ready md ops s, n ≤ j) (f : Nat) :
    ∀ s a, (∀ j oj, ops[j]? = some oj → j ≠ i → s.getD j true = false → (∀ e ∈ oj.after, Region.binds md e = true → e.on ≠ i) → o.apart ops oj = true) → i ∈ Region.ready md ops s → YE P ops C o v a → headT P md ops n C L f (s.setIfInBounds i true) (a.put o.dst v) → headT P md ops n C L (f + 1) s a := by
  induction f with
  | zero =>
    intro s a hap hr hy H
    refine ⟨⟨i, hr, hin⟩, fun j hj hjn => ?_⟩
    by_cases e : j = i
    · subst e; exact hy.op hi H
    · have h1 := ready_mono hj e
      exact absurd (hL _ _ H j h1) (by omega)
  | succ f ih =>
    intro s a hap hr hy H
    have hun := (mem_ready.1 hr).1
    refine ⟨⟨i, hr, hin⟩, fun j hj hjn => ?_⟩
    by_cases e : j = i
    · subst e; exact hy.op hi H
    · obtain ⟨hju, oj, hoj, hall⟩ := mem_ready.1 hj
      have hno : ∀ e ∈ oj.after, Region.binds md e = true → e.on ≠ i := fun e he hb heq => by
        have := hall e he hb
        rw [heq, getD_both hun] at this
        cases this
      have h1 := extOp_put hoj (hap j oj hoj e hju hno) (fun cs b => hsel i o cs b hi) (fun cs b => hsel j oj cs b hoj) hy (H.2 j (ready_mono hj e) hjn)
      refine extOp_mono (fun a' h2 => ih _ a' (fun k ok hk hki hku hkn => hap k ok hk hki ?_ hkn) (ready_mono hr (Ne.symm e)) h2.1 ?_) h1
      · by_cases ejk : j = k
        · subst ejk; exact hju
        · rw [getD_set_ne true ejk] at hku; exact hku
      · rw [Array.setIfInBounds_comm _ _ e]; exact h2.2
def allH (n : Nat) (s : Array Bool) : Bool := (List.range n).all fun j => s.getD j true
theorem allH_ready {s : Array Bool} (h : allH n s = true) : ∀ j ∈ Region.ready md ops s, n ≤ j := fun j hj => by
  rcases Nat.lt_or_ge j n with hl | hl
  · have h1 := List.all_eq_true.1 h j (List.mem_range.2 hl)
    rw [(mem_ready.1 hj).1] at h1; cases h1
  · exact hl
def lexT (md : Region.Mode) (ops : Array Oper) (n g : Nat) : List Nat → Array Bool → Bool
  | [], s => allH n s && Region.seqB md ops g n s
  | k :: ks, s => decide (k < n) && (Region.ready md ops s).contains k && Region.free md ops s k && lexT md ops n g ks (s.setIfInBounds k true)
theorem headT_walk {g : Nat} {K : Act → Prop} (hsel : Region.noSelect ops = true) (ks : List Nat) :
    ∀ (l : List Oper) s a, l.map some = ks.map (ops[·]?) → lexT md ops n g ks s = true → wpExt P ops C K l a →
    headT P md ops n C (fun s' a' => (allH n s' && Region.seqB md ops g n s') = true ∧ K a') ks.length s a := by
  induction ks with
  | nil =>
    intro l s a hl hB h
    have e : l = [] := by simpa using hl
    subst e
    exact ⟨hB, h⟩
  | cons k ks ih =>
    intro l s a hl hB h
    cases l with
    | nil => simp at hl
    | cons o l =>
      simp only [List.map_cons, List.cons.injEq] at hl
      have h0 : ops[k]? = some o := hl.1.symm
      simp only [lexT, Bool.and_eq_true, decide_eq_true_eq] at hB
      obtain ⟨⟨⟨hkn, hr⟩, hf⟩, hB'⟩ := hB
      have hr' : k ∈ Region.ready md ops s := by simpa using hr
      have hq : extOp P ops C k (wpExt P ops C K l) a := by unfold extOp; simp only [h0]; exact h
      obtain ⟨v, hy, hK⟩ := ye_of h0 hq
      exact headT_take h0 (Region.noSelect_spec hsel) hkn (fun s' a' hL => allH_ready (by have := hL.1; simp only [Bool.and_eq_true] at this; exact this.1)) ks.length s a (Region.free_spec h0 hf) hr' hy (ih l _ _ hl.2 hB' hK)
/-- The chain's next one yields, ahead of what is quiet. -/
theorem chainT_run {od : Oper} {ds : List Oper} {w : World} (hw : C w) (hsd : ∀ cs b, od.op ≠ .select cs b) (hL : ∀ s a, L s a → chainQ P C K (od :: ds) a w) (f : Nat) :
    ∀ (s : Array Bool) a, (∀ j oj, ops[j]? = some oj → j < n → s.getD j true = false → od.apart ops oj = true) → headT P md ops n C L f s a → ∃ v w'', Gives ((execOp a.eval od).run P w) v w'' ∧ C w'' := by
  induction f with
  | zero =>
    intro s a _ h
    obtain ⟨v, w'', h1, h2, _⟩ := hL _ _ h w hw (Below.refl _ _)
    exact ⟨v, w'', h1, h2⟩
  | succ f ih =>
    intro s a hap h
    obtain ⟨i, hi, hin⟩ := h.1
    obtain ⟨hiu, oi, hoi, _⟩ := mem_ready.1 hi
    obtain ⟨u, hy, hK⟩ := ye_of hoi (h.2 i hi hin)
    obtain ⟨h1, h2, h3⟩ := Oper.apart_spec (hap i oi hoi hin hiu)
    obtain ⟨v, w'', h4, h5⟩ := ih _ _ (fun j oj hj hjn hju => hap j oj hj hjn (undone_set hju)) hK
    rw [execOp_put (ops := ops) od hsd a oi.dst u h3] at h4
    exact ⟨v, w'', h4, h5⟩
/-- Behind it, the quiet ones are as they were. -/
theorem chainT_shift {E : Array Bool → Prop} {od : Oper} {ds : List Oper} {w w'' : World} {v : Value} (hw : C w) (hsel : ∀ (j : Nat) (o : Oper) cs b, ops[j]? = some o → o.op ≠ .select cs b) (hsd : ∀ cs b, od.op ≠ .select cs b) (f : Nat) :
    ∀ (s : Array Bool) a, (∀ j oj, ops[j]? = some oj → j < n → s.getD j true = false → od.apart ops oj = true) → Gives ((execOp a.eval od).run P w) v w'' → headT P md ops n C (fun s' a' => E s' ∧ chainQ P C K (od :: ds) a' w) f s a → headT P md ops n C (fun s' a' => E s' ∧ chainQ P C K ds a' w'') f s (a.put od.dst v) := by
  induction f with
  | zero =>
    intro s a _ hr h
    obtain ⟨v1, w1, h1, h2, h3⟩ := h.2 w hw (Below.refl _ _)
    obtain ⟨e1, e2⟩ := hr.one h1
    rw [e1, e2]
    exact ⟨h.1, h3⟩
  | succ f ih =>
    intro s a hap hr h
    refine ⟨h.1, fun i hi hin => ?_⟩
    obtain ⟨hiu, oi, hoi, _⟩ := mem_ready.1 hi
    obtain ⟨u, hy, hK⟩ := ye_of hoi (h.2 i hi hin)
    obtain ⟨h1, h2, h3⟩ := Oper.apart_spec (hap i oi hoi hin hiu)
    have hy2 : YE P ops C oi u (a.put od.dst v) := hy.same (execOp_put oi (fun cs b => hsel i oi cs b hoi) a od.dst v h1) (wanted_put oi a od.dst v h1)
    refine hy2.op hoi ?_
    rw [Act.put_comm a v u h2]
    refine ih _ _ (fun j oj hj hjn hju => hap j oj hj hjn (undone_set hju)) ?_ hK
    rw [execOp_put (ops := ops) od hsd a oi.dst u h3]; exact hr
/-- The chain's order is forced; it is apart from what is quiet; nothing quiet waits for it. -/
def chainB3 (md : Region.Mode) (ops : Array Oper) (n : Nat) : List Nat → Bool
  | [] => true
  | d :: ds => (match ops[d]? with
      | some od => od.guard.isNone && (match od.op with | .select .. => false | _ => true) && (od.after.all fun e => !Region.binds md e || (decide (e.on < n) && !(d :: ds).contains e.on)) &&
        (List.range ops.size).all (fun j => j == d || match ops[j]? with
          | some oj => (ds.contains j || (od.after.any fun e => Region.binds md e && e.on == j) || decide (n ≤ j) || od.apart ops oj)
          | none => true)
      | none => false) && !ds.contains d && (ds.all fun k => Region.waitsFor md ops k d || ds.any fun k' => decide (k' ≠ k) && Region.waitsFor md ops k k') && chainB3 md ops n ds
theorem mixT_any {g : Nat} {K : Act → World → Prop} {Q : Exit → Act → World → Prop} (hs : sinkE md ops n (Array.replicate ops.size false) = true) (hcB : Region.chainB md ops n = true) (hnz : n ≤ ops.size)
    (hfin : ∀ s a w, Region.seqB md ops g n s = true → C w → K a w → wpAny P md ops Q g s a w) (hCc : ∀ w w', C w → Below w.heap.size w w' → C w') (hsel : ∀ (j : Nat) (o : Oper) cs b, ops[j]? = some o → o.op ≠ .select cs b) (N : Nat) : ∀ (f : Nat) (ds : List Nat) (dl : List Oper) (s : Array Bool) (a : Act) (w : World), N = f + ds.length → dl.map some = ds.map (ops[·]?) → chainB3 md ops n ds = true →
    (∀ d ∈ ds, s.getD d true = false) → (∀ j oj, ops[j]? = some oj → j < n → j ∉ ds → s.getD j true = false → ∀ e ∈ oj.after, Region.binds md e = true → e.on ∉ ds) → HeadInv md ops n s → (∀ d ∈ ds, d < n) → C w → headT P md ops n C (fun s' a' => (allH n s' && Region.seqB md ops g n s') = true ∧ chainQ P C K dl a' w) f (marked ds s) a → wpAny P md ops Q (N + g) s a w := by
  induction N with
  | zero =>
    intro f ds dl s a w hN hdl _ _ _ _ _ hw H
    have e1 : f = 0 := by omega
    have e2 : ds = [] := List.eq_nil_of_length_eq_zero (by omega)
    subst e1 e2
    have e3 : dl = [] := by simpa using hdl
    subst e3
    have h1 := H.1
    simp only [Bool.and_eq_true] at h1
    rw [Nat.zero_add]
    exact hfin _ _ _ h1.2 hw (H.2 w hw (Below.refl _ _))
  | succ N ih =>
    intro f ds dl s a w hN hdl hB hun hqs inv hdn hw H
    have hsz := inv.size
    have hlate : ∀ i, i < n → s.getD i true = false → ∀ t, n ≤ t → t ∉ Region.ready md ops s := fun i hi hu t ht => late_waits (s0 := Array.replicate ops.size false) hs hcB inv (fun j hj hjn => by
      have h9 : (Array.replicate ops.size false).getD j true = false := getD_in (by simpa using (by omega : j < ops.size)) (getD_replicate_false _ _)
      rw [h9] at hj; cases hj) _ i rfl hi hu t ht
    rw [show N + 1 + g = (N + g) + 1 by omega]
    have back : ∀ i, i < n → i ∈ Region.ready md ops (marked ds s) → i ∉ ds → i ∈ Region.ready md ops s := fun i hin hi hid => by
      obtain ⟨hiu, oi, hoi, hall⟩ := mem_ready.1 hi
      have hu := marked_undone ds s hiu
      exact mem_ready.2 ⟨hu, oi, hoi, fun e he hb => by rw [← marked_ne ds s false (hqs i oi hoi hin hid hu e he hb)]; exact hall e he hb⟩
    have mk : ∀ i, i ∈ ds → (marked ds s).getD i true = true := by
      intro i hi
      have : ∀ (ds : List Nat) (s : Array Bool), i ∈ ds → (marked ds s).getD i true = true := by
        intro ds
        induction ds with
        | nil => intro s h; cases h
        | cons d ds ihd =>
          intro s h
          show (marked ds (s.setIfInBounds d true)).getD i true = true
          by_cases hm : i ∈ ds
          · exact ihd _ hm
          · rw [marked_ne ds _ true hm]
            have e : i = d := by
              rcases List.mem_cons.1 h with h | h
              · exact h
              · exact absurd h hm
            subst e
            rcases Nat.lt_or_ge i s.size with hl | hl
            · simp [hl]
            · simp [Array.getElem?_eq_none hl]
      exact this ds s hi
    refine ⟨fun hre => ?_, fun i hi => ?_⟩
    · exfalso
      cases f with
      | zero =>
        cases ds with
        | nil => simp at hN
        | cons d ds =>
          cases dl with
          | nil => simp at hdl
          | cons o dl =>
            simp only [List.map_cons, List.cons.injEq] at hdl
            have hod : ops[d]? = some o := hdl.1.symm
            have hr : d ∈ Region.ready md ops s := by
              refine mem_ready.2 ⟨hun d (by simp), o, hod, fun e he hb => ?_⟩
              simp only [chainB3, hod, Bool.and_eq_true] at hB
              have h1 := Array.all_eq_true'.1 hB.1.1.1.1.2 e he
              simp only [hb, Bool.not_true, Bool.false_or, Bool.and_eq_true, decide_eq_true_eq, Bool.not_eq_true'] at h1
              have h2 : e.on ∉ d :: ds := by simpa using h1.2
              rw [← marked_ne (d :: ds) s false h2]
              have h0 : (allH n (marked (d :: ds) s) && Region.seqB md ops g n (marked (d :: ds) s)) = true := H.1
              simp only [Bool.and_eq_true] at h0
              have h3 := List.all_eq_true.1 h0.1 e.on (List.mem_range.2 h1.1)
              have h4 : e.on < (marked (d :: ds) s).size := by rw [marked_size, hsz]; omega
              simp [h4] at h3 ⊢
              exact h3
            rw [hre] at hr
            cases hr
      | succ f =>
        obtain ⟨i, hi, hin⟩ := H.1
        have hid : i ∉ ds := fun h => by
          have := (mem_ready.1 hi).1
          rw [mk i h] at this; cases this
        have := back i hin hi hid
        rw [hre] at this
        cases this
    · have hin : i < n := by
        rcases Nat.lt_or_ge i n with hl | hl
        · exact hl
        · exfalso
          cases ds with
          | cons d ds => exact hlate d (hdn d (by simp)) (hun d (by simp)) i hl hi
          | nil =>
            cases f with
            | zero => simp at hN
            | succ f =>
              obtain ⟨j, hj, hjn⟩ := H.1
              exact hlate j hjn (mem_ready.1 hj).1 i hl hi
      by_cases hid : i ∈ ds
      · cases ds with
        | nil => cases hid
        | cons d ds =>
          cases dl with
          | nil => simp at hdl
          | cons o dl =>
            simp only [List.map_cons, List.cons.injEq] at hdl
            have hod : ops[d]? = some o := hdl.1.symm
            simp only [chainB3, hod, Bool.and_eq_true] at hB
            obtain ⟨⟨⟨⟨⟨⟨hg, hsl⟩, haf⟩, hap⟩, hnd⟩, hord⟩, hB'⟩ := hB
            have hnd' : d ∉ ds := by simpa using hnd
            have hid' : i = d := by
              rcases List.mem_cons.1 hid with h | h
              · exact h
              · exfalso
                have h1 := List.all_eq_true.1 hord i h
                simp only [Bool.or_eq_true] at h1
                rcases h1 with h1 | h1
                · exact not_ready h1 (hun d (by simp)) hi
                · obtain ⟨k, hk, hk2⟩ := List.any_eq_true.1 h1
                  simp only [Bool.and_eq_true, decide_eq_true_eq] at hk2
                  exact not_ready hk2.2 (hun k (List.mem_cons_of_mem _ hk)) hi
            subst hid'
            have hsd : ∀ cs b, o.op ≠ .select cs b := fun cs b => hsel i o cs b hod
            have hgn : o.guard = none := by simpa using hg
            have hapt : ∀ j oj, ops[j]? = some oj → j < n → (marked (i :: ds) s).getD j true = false → o.apart ops oj = true := fun j oj hoj hjn hju => by
              have hjd : j ∉ i :: ds := fun h => by rw [mk j h] at hju; cases hju
              simp only [List.mem_cons, not_or] at hjd
              have h1 := List.all_eq_true.1 hap j (List.mem_range.2 (Array.getElem?_eq_some_iff.1 hoj).1)
              simp only [hoj, Bool.or_eq_true, beq_iff_eq, hjd.1, false_or, decide_eq_true_eq] at h1
              rcases h1 with ((h1 | h1) | h1) | h1
              · exact absurd (by simpa using h1) hjd.2
              · exfalso
                obtain ⟨e, he, hb⟩ := Array.any_eq_true'.1 h1
                simp only [Bool.and_eq_true, beq_iff_eq] at hb
                obtain ⟨_, oi, hoi, hall⟩ := mem_ready.1 hi
                obtain rfl : o = oi := Option.some.inj (hod.symm.trans hoi)
                have h2 := hall e he hb.1
                rw [hb.2, getD_both (marked_undone _ s hju)] at h2
                cases h2
              · exact absurd h1 (by have := hjn; omega)
              · exact h1
            obtain ⟨v, w'', hr, hc⟩ := chainT_run hw hsd (fun _ _ h => h.2) f _ a hapt H
            have H2 := chainT_shift hw hsel hsd f _ a hapt hr H
            unfold wpOp
            simp only [hod]
            have hwt : Region.wanted o (yielded ops a.tmps) = true := by simp [Region.wanted, hgn]
            rw [if_pos hwt]
            refine .inl ?_
            unfold Oper.wp
            have hgo : wpAny P md ops Q (N + g) (s.setIfInBounds i true) (a.put o.dst v) w'' := by
              refine ih f ds dl _ _ _ (by simp at hN; omega) hdl.2 hB' (fun k hk => ?_) (fun j oj hoj hjn hjd hju e he hb => ?_) (inv.set hi hin) (fun k hk => hdn k (List.mem_cons_of_mem _ hk)) hc H2
              · rw [getD_set_ne true (fun e : i = k => hnd' (by rw [e]; exact hk))]; exact hun k (List.mem_cons_of_mem _ hk)
              · have hji : j ≠ i := fun e => by
                  subst e
                  have hl : j < s.size := by rw [hsz]; exact (Array.getElem?_eq_some_iff.1 hoj).1
                  simp [hl] at hju
                have := hqs j oj hoj hjn (by simp [hji, hjd]) (undone_set hju) e he hb
                exact fun h => this (List.mem_cons_of_mem _ h)
            rcases hr with hr | ⟨hr, hv⟩
            · rw [hr]; simp only [Oper.upon]; exact hgo
            · rw [hr]; simp only [Oper.upon]; rw [← hv]; exact hgo
      · have hi' := marked_ready (md := md) ds s hid hi
        cases f with
        | zero =>
          have h0 : (allH n (marked ds s) && Region.seqB md ops g n (marked ds s)) = true := H.1
          simp only [Bool.and_eq_true] at h0
          exact absurd (allH_ready h0.1 i hi') (by omega)
        | succ f =>
          obtain ⟨hiu, oi, hoi, _⟩ := mem_ready.1 hi
          obtain ⟨v, hy, hK⟩ := ye_of hoi (H.2 i hi' hin)
          have hq : qOp P ops (fun w1 => C w1 ∧ Below w.heap.size w w1) i (headT P md ops n C (fun s' a' => (allH n s' && Region.seqB md ops g n s') = true ∧ chainQ P C K dl a' w) f ((marked ds s).setIfInBounds i true)) a := by
            refine YieldsIn.qOp hoi ?_ hK
            rcases hy with ⟨hwt, hq⟩ | ⟨hwt, e2⟩
            · exact .inl ⟨hwt, fun w1 hw1 => upon_mono (fun w' hb => ⟨hCc _ _ hw1.1 hb, hw1.2.trans (hb.mono hw1.2.size)⟩) (hq w1 hw1.1)⟩
            · exact .inr ⟨hwt, e2⟩
          refine wpOp_of_qOp (C := fun w1 => C w1 ∧ Below w.heap.size w w1) ⟨hw, Below.refl _ _⟩ (fun a' w' hw' h2 => ih f ds dl _ a' w' (by omega) hdl hB (fun k hk => ?_) (fun j oj hoj hjn hjd hju => hqs j oj hoj hjn hjd (undone_set hju)) (inv.set hi hin) hdn hw'.1 ?_) hq
          · rw [getD_set_ne true (fun e : i = k => hid (by rw [e]; exact hk))]; exact hun k hk
          · rw [marked_set ds s hid]
            exact headT_mono (fun s' a' h => ⟨h.1, chainQ_more hw'.2 h.2⟩) f _ _ h2
/-- The Bool over a region: the numbers ms are the chain, the numbers ks are quiet, what stands from n on is the tail. -/
def regionT (md : Region.Mode) (ops : Array Oper) (n : Nat) (ms ks : List Nat) : Bool :=
  Region.noSelect ops && chainB3 md ops n ms && ((List.range n).all fun j => ms.contains j || match ops[j]? with | some oj => oj.after.all fun e => !Region.binds md e || !ms.contains e.on | none => true) && lexT md ops n (ops.size - n) ks (marked ms (Array.replicate ops.size false)) && decide (ks.length + ms.length = n) && (ms.all fun d => decide (d < n)) && decide (n ≤ ops.size) && sinkE md ops n (Array.replicate ops.size false) && Region.chainB md ops n
end
theorem region_chain_tail {P : Program} {id : Nat} {Q : Exit → Act → World → Prop} {a : Act} {w : World} {l : List Oper} (C : World → Prop) (n : Nat) (ms ks : List Nat) (pq pc : List Oper → List Oper) (hm : P.follows .mixedOrders = true) (hB : regionT .any l.toArray n ms ks = true) (hls : (pq l).map some = ks.map (l.toArray[·]?)) (hdl : (pc l).map some = ms.map (l.toArray[·]?))
    (hC : C { w with drawn := w.drawn + 1 }) (hCc : ∀ w w', C w → Below w.heap.size w w' → C w')
    (h : wpExt P l.toArray C (fun a' => ∀ w', C w' → chainQ P C (fun a w => wpList P l.toArray Q (l.drop n) a w) (pc l) a' w') (pq l) a) : (Code.region id l.toArray true).wp P Q a w := by
  simp only [regionT, Bool.and_eq_true, decide_eq_true_eq] at hB
  obtain ⟨⟨⟨⟨⟨⟨⟨⟨hsel, hch⟩, hqu⟩, hlex⟩, hlen⟩, hms⟩, hnz⟩, hsk⟩, hcB⟩ := hB
  have hd : (l.drop n).length = l.toArray.size - n := by simp
  refine wp_region_any hm ?_
  have H := headT_walk (P := P) (C := C) (md := .any) (n := n) (g := l.toArray.size - n) hsel ks (pq l) _ a hls hlex h
  have H2 := mixT_any (P := P) (C := C) (md := .any) (ops := l.toArray) (n := n) (g := l.toArray.size - n) (K := fun a w => wpList P l.toArray Q (l.drop n) a w) (Q := Q) hsk hcB hnz (fun s a' w' hs hw' hL => by
    have := wpAny_of_seq (md := .any) (Q' := Q) (l.drop n) n s a' w' (fun j => by simp [List.getElem?_drop]) (by rw [hd]; exact hs) hL
    rwa [hd] at this) hCc (Region.noSelect_spec hsel) n ks.length ms (pc l) (Array.replicate l.toArray.size false) a { w with drawn := w.drawn + 1 } hlen.symm hdl hch (fun d hd => ?_) (fun j oj hoj hjn hjd hju e he hb hon => ?_) ?_ (fun d hd => by have := List.all_eq_true.1 hms d hd; simpa using this) hC (headT_mono (fun s a h => ⟨h.1, h.2 _ hC⟩) _ _ _ H)
  · rw [show n + (l.toArray.size - n) = l.toArray.size by omega] at H2
    exact H2
  · have := List.all_eq_true.1 hms d hd
    simp only [decide_eq_true_eq] at this
    exact getD_in (by simp at hnz ⊢; omega) (getD_replicate_false _ _)
  · have h1 := List.all_eq_true.1 hqu j (List.mem_range.2 hjn)
    simp only [hoj, Bool.or_eq_true] at h1
    rcases h1 with h1 | h1
    · exact hjd (by simpa using h1)
    · have h2 := Array.all_eq_true'.1 h1 e he
      simp only [hb, Bool.not_true, Bool.false_or, Bool.not_eq_true'] at h2
      have : e.on ∉ ms := by simpa using h2
      exact this hon
  · refine ⟨by simp, fun j oj hoj hl e he hb => ?_, fun t ht htt => getD_in (by simpa using htt) (getD_replicate_false _ _)⟩
    rw [getD_replicate_false] at hl; cases hl
end Go.Proofs.Ythfakpekdjmpjaa
