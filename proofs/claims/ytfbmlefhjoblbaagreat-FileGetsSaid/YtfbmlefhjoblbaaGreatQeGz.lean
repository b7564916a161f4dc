/- Spaces and remarks left out: a claim is at most so large. -/
import Derived.Test.YtfbmlefhjoblbaaGreatNPFileGetsGz6
import Derived.StillTail
import Derived.Deep.Quiet
namespace Go.Proofs.YtfbmlefhjoblbaaGreat
open Go Go.RowKit
set_option linter.unusedVariables false
set_option linter.unusedSimpArgs false
section
variable {P:Program} {md:Region.Mode} {ops:Array Oper} {C:World→Prop} {n:Nat} {L:Array Bool→Act→Prop}
def headQ (P:Program) (md:Region.Mode) (ops:Array Oper) (C:World→Prop) (n:Nat) (L:Array Bool→Act→Prop):Nat→Array Bool→Act→Prop
  | 0,s,a => L s a
  | f + 1,s,a => Region.ready md ops s ≠ []∧∀ i ∈ Region.ready md ops s,i < n∧qOp P ops C i (headQ P md ops C n L f (s.setIfInBounds i true)) a
theorem headQ_any {g:Nat} {Q:Exit→Act→World→Prop} (hL:∀ s a w,C w→L s a→wpAny P md ops Q g s a w) (f:Nat):∀ s a w,C w→headQ P md ops C n L f s a→wpAny P md ops Q (f + g) s a w:=by
  induction f with
  | zero => intro s a w hw h;rw [Nat.zero_add];exact hL _ _ _ hw h
  | succ f ih =>
    intro s a w hw h
    rw [Nat.succ_add]
    exact ⟨fun e => absurd e h.1,fun i hi => wpOp_of_qOp hw (fun a' w' hw' h' => ih _ a' w' hw' h') (h.2 i hi).2⟩
theorem headQ_take {i:Nat} {o:Oper} {v:Value} (hi:ops[i]? = some o) (hsel:∀ (j:Nat) (o:Oper) cs b,ops[j]? = some o→o.op ≠ .select cs b) (hs:Region.sinkB md ops n=true) (hc:Region.chainB md ops n=true) (hn:n < ops.size) (hin:i < n) (hL:∀ s a,L s a→∀ j ∈ Region.ready md ops s,n≤j) (f:Nat) :
    ∀ s a,HeadInv md ops n s→(∀ j oj,ops[j]? = some oj→j ≠ i→s.getD j true=false→(∀ e ∈ oj.after,Region.binds md e=true→e.on ≠ i)→o.apart ops oj=true)→i ∈ Region.ready md ops s→YieldsIn P ops C o v a→headQ P md ops C n L f (s.setIfInBounds i true) (a.put o.dst v)→headQ P md ops C n L (f + 1) s a:=by
  induction f with
  | zero =>
    intro s a inv hap hr hy H
    have hun:=(mem_ready.1 hr).1
    refine ⟨fun e => (by rw [e] at hr;cases hr),fun j hj => ?_⟩
    have hjn:j < n:=Nat.lt_of_not_le fun hge => tail_waits hs hc hn inv _ i rfl hin hun j hge hj
    refine ⟨hjn,?_⟩
    by_cases e:j=i
    · subst e;exact hy.qOp hi H
    · exact absurd (hL _ _ H j (ready_mono hj e)) (by omega)
  | succ f ih =>
    intro s a inv hap hr hy H
    have hun:=(mem_ready.1 hr).1
    refine ⟨fun e => (by rw [e] at hr;cases hr),fun j hj => ?_⟩
    have hjn:j < n:=Nat.lt_of_not_le fun hge => tail_waits hs hc hn inv _ i rfl hin hun j hge hj
    refine ⟨hjn,?_⟩
    by_cases e:j=i
    · subst e;exact hy.qOp hi H
    · obtain ⟨hju,oj,hoj,hall⟩:=mem_ready.1 hj
      have hno:∀ e ∈ oj.after,Region.binds md e=true→e.on ≠ i:=fun e he hb heq => by
        have:=hall e he hb
        rw [heq,getD_both hun] at this
        cases this
      have h1:=qOp_put hoj (hap j oj hoj e hju hno) (fun cs b => hsel i o cs b hi) (fun cs b => hsel j oj cs b hoj) hy (H.2 j (ready_mono hj e)).2
      refine qOp_mono (fun a' h2 => ih _ a' (inv.set hj hjn) (fun k ok hk hki hku hkn => hap k ok hk hki ?_ hkn) (ready_mono hr (Ne.symm e)) h2.1 ?_) h1
      · by_cases ejk:j=k
        · subst ejk;exact hju
        · rw [getD_set_ne true ejk] at hku;exact hku
      · rw [Array.setIfInBounds_comm _ _ e];exact h2.2
theorem headQ_walk {g:Nat} {K:Act→Prop} (hsel:Region.noSelect ops=true) (hs:Region.sinkB md ops n=true) (hc:Region.chainB md ops n=true) (hn:n < ops.size) (l:List Oper) :
    ∀ (k:Nat) s a,(∀ j,j < l.length→l[j]? = ops[k + j]?)→k + l.length=n→HeadInv md ops n s→Region.lexHead md ops g l.length k s=true→wpQuiet P ops C K l a →
    headQ P md ops C n (fun s' a' => Region.seqB md ops g n s'=true∧K a') l.length s a:=by
  induction l with
  | nil =>
    intro k s a _ hk _ hB h
    have hk':k=n:=by simpa using hk
    subst hk'
    exact ⟨by simpa [Region.lexHead] using hB,h⟩
  | cons o l ih =>
    intro k s a hl hk inv hB h
    have h0:ops[k]? = some o:=by simpa using (hl 0 (by simp)).symm
    simp only [List.length_cons,Region.lexHead,Bool.and_eq_true] at hB
    have hkn:k < n:=by simp only [List.length_cons] at hk;omega
    have hr:k ∈ Region.ready md ops s:=by simpa using hB.1.1
    have hq:qOp P ops C k (wpQuiet P ops C K l) a:=by unfold qOp;simp only [h0];exact h
    obtain ⟨v,hy,hK⟩:=yieldsIn_of_qOp h0 hq
    refine headQ_take h0 (Region.noSelect_spec hsel) hs hc hn hkn (fun s' a' hL => seqB_ready hL.1) l.length s a inv (Region.free_spec h0 hB.1.2) hr hy ?_
    refine ih (k + 1) _ _ (fun j hj => ?_) (by simp only [List.length_cons] at hk;omega) (inv.set hr hkn) hB.2 hK
    have:=hl (j + 1) (by simp;omega)
    simpa [Nat.add_assoc,Nat.add_comm 1 j] using this
theorem region_class_tail {id:Nat} {Q:Exit→Act→World→Prop} {a:Act} {w:World} {l:List Oper} (C:World→Prop) (n:Nat) (hm:P.follows .mixedOrders=true) (hB:Region.lexTailB .any l.toArray n=true) (hC:C { w with drawn:=w.drawn + 1 })
    (h:wpQuiet P l.toArray C (fun a' => ∀ w',C w'→wpList P l.toArray Q (l.drop n) a' w') (l.take n) a):(Code.region id l.toArray true).wp P Q a w:=by
  simp only [Region.lexTailB,Bool.and_eq_true,decide_eq_true_eq] at hB
  obtain ⟨⟨⟨⟨hsel,hn⟩,hs⟩,hc⟩,hlex⟩:=hB
  have hn':n < l.length:=by simpa using hn
  have ht:(l.take n).length=n:=by simp;omega
  have hd:(l.drop n).length=l.toArray.size - n:=by simp
  have inv:HeadInv .any l.toArray n (Array.replicate l.toArray.size false):=by
    refine ⟨by simp,fun j oj _ hl => ?_,fun t _ htt => getD_in (by simpa using htt) (getD_replicate_false _ _)⟩
    rw [getD_replicate_false] at hl;cases hl
  have H:=headQ_walk (P:=P) (C:=C) (md:=.any) (g:=l.toArray.size - n) hsel hs hc hn (l.take n) 0 _ a (fun j hj => by
    have hj':j < n:=by rw [ht] at hj;exact hj
    simp [hj']) (by simpa using ht) inv (by rw [ht];exact hlex) h
  refine wp_region_any hm ?_
  have H2:=headQ_any (Q:=Q) (g:=l.toArray.size - n) (fun s a' w' hw' hL => by
    have:=wpAny_of_seq (md:=.any) (Q':=Q) (l.drop n) n s a' w' (fun j => by simp [List.getElem?_drop]) (by rw [hd];exact hL.1) (hL.2 w' hw')
    rwa [hd] at this) _ _ _ _ hC H
  rw [ht,show n + (l.toArray.size - n)=l.toArray.size by omega] at H2
  exact H2
end
end Go.Proofs.YtfbmlefhjoblbaaGreat
namespace Go.Proofs.YtfbmlefhjoblbaaGreat
open Go Go.RowKit
set_option linter.unusedVariables false
set_option linter.unusedSimpArgs false
section
variable {P:Program} {md:Region.Mode} {ops:Array Oper} {C:World→Prop} {V:Value→World→Prop} {n m:Nat} {om:Oper} {L:Array Bool→Act→Prop}
def extQ (P:Program) (o:Oper) (a:Act) (C:World→Prop) (K:Act→Prop):Prop:=∃ v,(∀ w,C w→o.quietAt P a (fun w' => Below w.heap.size w w') w v)∧K (a.put o.dst v)
def extOp (P:Program) (ops:Array Oper) (C:World→Prop) (i:Nat) (K:Act→Prop) (a:Act):Prop :=
  match ops[i]? with
  | none => K a
  | some o => if Region.wanted o (yielded ops a.tmps)=true then extQ P o a C K else K (a.put o.dst undef)
def YE (P:Program) (ops:Array Oper) (C:World→Prop) (o:Oper) (v:Value) (a:Act):Prop :=
  (Region.wanted o (yielded ops a.tmps)=true∧∀ w,C w→o.quietAt P a (fun w' => Below w.heap.size w w') w v)∨(Region.wanted o (yielded ops a.tmps)=false∧v=undef)
theorem extOp_mono {i:Nat} {a:Act} {K K':Act→Prop} (h:∀ a,K a→K' a) (hh:extOp P ops C i K a):extOp P ops C i K' a:=by
  unfold extOp at *
  cases hi:ops[i]? with
  | none => simp only [hi] at hh ⊢;exact h _ hh
  | some o =>
    simp only [hi] at hh ⊢
    by_cases hw:Region.wanted o (yielded ops a.tmps)=true
    · rw [if_pos hw] at hh ⊢
      obtain ⟨v,h1,h2⟩:=hh
      exact ⟨v,h1,h _ h2⟩
    · rw [if_neg hw] at hh ⊢
      exact h _ hh
theorem YE.op {i:Nat} {o:Oper} {v:Value} {a:Act} (hi:ops[i]? = some o) (hy:YE P ops C o v a) {K:Act→Prop} (h:K (a.put o.dst v)):extOp P ops C i K a:=by
  unfold extOp
  simp only [hi]
  rcases hy with ⟨hw,hv⟩ | ⟨hw,rfl⟩
  · rw [if_pos hw];exact ⟨v,hv,h⟩
  · rw [if_neg (by simp [hw])];exact h
theorem ye_of {i:Nat} {o:Oper} {a:Act} {K:Act→Prop} (hi:ops[i]? = some o) (h:extOp P ops C i K a):∃ v,YE P ops C o v a∧K (a.put o.dst v):=by
  unfold extOp at h
  simp only [hi] at h
  by_cases hw:Region.wanted o (yielded ops a.tmps)=true
  · rw [if_pos hw] at h
    obtain ⟨v,h1,h2⟩:=h
    exact ⟨v,.inl ⟨hw,h1⟩,h2⟩
  · rw [if_neg hw] at h
    exact ⟨undef,.inr ⟨by simpa using hw,rfl⟩,h⟩
theorem YE.same {o:Oper} {v:Value} {a a':Act} (hy:YE P ops C o v a) (he:execOp a'.eval o=execOp a.eval o) (hw:Region.wanted o (yielded ops a'.tmps)=Region.wanted o (yielded ops a.tmps)):YE P ops C o v a':=by
  unfold YE Oper.quietAt at *
  rw [he,hw];exact hy
theorem extOp_put {j:Nat} {oi oj:Oper} {v:Value} (hj:ops[j]? = some oj) (hap:oi.apart ops oj=true) (hsi:∀ cs b,oi.op ≠ .select cs b) (hsj:∀ cs b,oj.op ≠ .select cs b) {K:Act→Prop} {a:Act} (hy:YE P ops C oi v a) (h:extOp P ops C j K (a.put oi.dst v)) :
    extOp P ops C j (fun a' => YE P ops C oi v a'∧K (a'.put oi.dst v)) a:=by
  obtain ⟨h1,h2,h3⟩:=Oper.apart_spec hap
  obtain ⟨u,hu,hK⟩:=ye_of hj h
  have hu':YE P ops C oj u a:=hu.same (execOp_put oj hsj a oi.dst v h1).symm (wanted_put oj a oi.dst v h1).symm
  exact hu'.op hj ⟨hy.same (execOp_put oi hsi a oj.dst u h3) (wanted_put oi a oj.dst u h3),by rw [← Act.put_comm a v u h2];exact hK⟩
def headE (P:Program) (md:Region.Mode) (ops:Array Oper) (C:World→Prop) (n:Nat) (L:Array Bool→Act→Prop):Nat→Array Bool→Act→Prop
  | 0,s,a => L s a
  | f + 1,s,a => Region.ready md ops s ≠ []∧∀ i ∈ Region.ready md ops s,i < n∧extOp P ops C i (headE P md ops C n L f (s.setIfInBounds i true)) a
theorem headE_take {i:Nat} {o:Oper} {v:Value} (hi:ops[i]? = some o) (hsel:∀ (j:Nat) (o:Oper) cs b,ops[j]? = some o→o.op ≠ .select cs b) (hs:Region.sinkB md ops n=true) (hc:Region.chainB md ops n=true) (hn:n < ops.size) (hin:i < n) (hL:∀ s a,L s a→∀ j ∈ Region.ready md ops s,n≤j) (f:Nat) :
    ∀ s a,HeadInv md ops n s→(∀ j oj,ops[j]? = some oj→j ≠ i→s.getD j true=false→(∀ e ∈ oj.after,Region.binds md e=true→e.on ≠ i)→o.apart ops oj=true)→i ∈ Region.ready md ops s→YE P ops C o v a→headE P md ops C n L f (s.setIfInBounds i true) (a.put o.dst v)→headE P md ops C n L (f + 1) s a:=by
  induction f with
  | zero =>
    intro s a inv hap hr hy H
    have hun:=(mem_ready.1 hr).1
    refine ⟨fun e => (by rw [e] at hr;cases hr),fun j hj => ?_⟩
    have hjn:j < n:=Nat.lt_of_not_le fun hge => tail_waits hs hc hn inv _ i rfl hin hun j hge hj
    refine ⟨hjn,?_⟩
    by_cases e:j=i
    · subst e;exact hy.op hi H
    · exact absurd (hL _ _ H j (ready_mono hj e)) (by omega)
  | succ f ih =>
    intro s a inv hap hr hy H
    have hun:=(mem_ready.1 hr).1
    refine ⟨fun e => (by rw [e] at hr;cases hr),fun j hj => ?_⟩
    have hjn:j < n:=Nat.lt_of_not_le fun hge => tail_waits hs hc hn inv _ i rfl hin hun j hge hj
    refine ⟨hjn,?_⟩
    by_cases e:j=i
    · subst e;exact hy.op hi H
    · obtain ⟨hju,oj,hoj,hall⟩:=mem_ready.1 hj
      have hno:∀ e ∈ oj.after,Region.binds md e=true→e.on ≠ i:=fun e he hb heq => by
        have:=hall e he hb
        rw [heq,getD_both hun] at this
        cases this
      have h1:=extOp_put hoj (hap j oj hoj e hju hno) (fun cs b => hsel i o cs b hi) (fun cs b => hsel j oj cs b hoj) hy (H.2 j (ready_mono hj e)).2
      refine extOp_mono (fun a' h2 => ih _ a' (inv.set hj hjn) (fun k ok hk hki hku hkn => hap k ok hk hki ?_ hkn) (ready_mono hr (Ne.symm e)) h2.1 ?_) h1
      · by_cases ejk:j=k
        · subst ejk;exact hju
        · rw [getD_set_ne true ejk] at hku;exact hku
      · rw [Array.setIfInBounds_comm _ _ e];exact h2.2
def wpExt (P:Program) (ops:Array Oper) (C:World→Prop) (K:Act→Prop):List Oper→Act→Prop
  | [],a => K a
  | o :: rest,a => if Region.wanted o (yielded ops a.tmps)=true then extQ P o a C (wpExt P ops C K rest) else wpExt P ops C K rest (a.put o.dst undef)
theorem wpExt_nil {K:Act→Prop} {a:Act} (h:K a):wpExt P ops C K [] a:=h
theorem wpExt_step {K:Act→Prop} {a:Act} {o:Oper} {rest:List Oper} (h:∀ K':Act→Prop,(∀ a,wpExt P ops C K rest a→K' a)→if Region.wanted o (yielded ops a.tmps)=true then ∃ v,(∀ w,C w→o.quietAt P a (fun w' => Below w.heap.size w w') w v)∧K' (a.put o.dst v) else K' (a.put o.dst undef)):wpExt P ops C K (o :: rest) a:=h _ fun _ h => h
def lexE (md:Region.Mode) (ops:Array Oper) (g n:Nat):List Nat→Array Bool→Bool
  | [],s => Region.seqB md ops g n s
  | k :: ks,s => decide (k < n) && (Region.ready md ops s).contains k && Region.free md ops s k && lexE md ops g n ks (s.setIfInBounds k true)
theorem headE_walk {g:Nat} {K:Act→Prop} (hsel:Region.noSelect ops=true) (hs:Region.sinkB md ops n=true) (hc:Region.chainB md ops n=true) (hn:n < ops.size) (ks:List Nat) :
    ∀ (l:List Oper) s a,l.map some=ks.map (ops[·]?)→HeadInv md ops n s→lexE md ops g n ks s=true→wpExt P ops C K l a →
    headE P md ops C n (fun s' a' => Region.seqB md ops g n s'=true∧K a') ks.length s a:=by
  induction ks with
  | nil =>
    intro l s a hl inv hB h
    have e:l=[]:=by simpa using hl
    subst e
    exact ⟨hB,h⟩
  | cons k ks ih =>
    intro l s a hl inv hB h
    cases l with
    | nil => simp at hl
    | cons o l =>
      simp only [List.map_cons,List.cons.injEq] at hl
      have h0:ops[k]? = some o:=hl.1.symm
      simp only [lexE,Bool.and_eq_true,decide_eq_true_eq] at hB
      obtain ⟨⟨⟨hkn,hr⟩,hf⟩,hB'⟩:=hB
      have hr':k ∈ Region.ready md ops s:=by simpa using hr
      have hq:extOp P ops C k (wpExt P ops C K l) a:=by unfold extOp;simp only [h0];exact h
      obtain ⟨v,hy,hK⟩:=ye_of h0 hq
      exact headE_take h0 (Region.noSelect_spec hsel) hs hc hn hkn (fun s' a' hL => seqB_ready hL.1) ks.length s a inv (Region.free_spec h0 hf) hr' hy (ih l _ _ hl.2 (inv.set hr' hkn) hB' hK)
theorem upon_mono {o:Oper} {a:Act} {w:World} {v:Value} {C D:World→Prop} (h:∀ w',C w'→D w') (hh:o.quietAt P a C w v):o.quietAt P a D w v:=by
  unfold Oper.quietAt at *
  generalize (execOp a.eval o).run P w=r at *
  cases r with
  | ok x w' =>
    cases x <;> simp only [Oper.quietUpon] at hh ⊢
    case value u => exact hh
    case skip => exact hh
    case enter f args => exact ⟨hh.1,hh.2.mono fun e w'' ⟨h1,h2⟩ => ⟨h1,h _ h2⟩⟩
  | halt x w' => simp only [Oper.quietUpon] at hh
theorem headE_shift {v:Value} {D:World→Prop} {L':Array Bool→Act→Prop} (hD:∀ w,D w→C w) (hDc:∀ w w',D w→Below w.heap.size w w'→D w') (hsel:∀ (j:Nat) (o:Oper) cs b,ops[j]? = some o→o.op ≠ .select cs b)
    (hap:∀ j oj,ops[j]? = some oj→j < n→j ≠ m→om.apart ops oj=true) (hL:∀ s a,L s a→L' s (a.put om.dst v)) (f:Nat):∀ (s:Array Bool) (a:Act),s.getD m true=true→headE P md ops C n L f s a→headQ P md ops D n L' f s (a.put om.dst v):=by
  induction f with
  | zero => intro s a _ h;exact hL _ _ h
  | succ f ih =>
    intro s a hm h
    refine ⟨h.1,fun i hi => ⟨(h.2 i hi).1,?_⟩⟩
    obtain ⟨hiu,oi,hoi,_⟩:=mem_ready.1 hi
    have him:i ≠ m:=fun e => by rw [e,hm] at hiu;cases hiu
    obtain ⟨h1,h2,h3⟩:=Oper.apart_spec (hap i oi hoi (h.2 i hi).1 him)
    obtain ⟨u,hu,hK⟩:=ye_of hoi (h.2 i hi).2
    have hu2:YE P ops C oi u (a.put om.dst v):=hu.same (execOp_put oi (fun cs b => hsel i oi cs b hoi) a om.dst v h1) (wanted_put oi a om.dst v h1)
    have hy:YieldsIn P ops D oi u (a.put om.dst v):=by
      rcases hu2 with ⟨hw,hq⟩ | ⟨hw,e⟩
      · exact .inl ⟨hw,fun w hw' => upon_mono (fun w' hb => hDc _ _ hw' hb) (hq w (hD _ hw'))⟩
      · exact .inr ⟨hw,e⟩
    refine hy.qOp hoi ?_
    rw [Act.put_comm a v u h2]
    refine ih _ _ ?_ hK
    rw [getD_set_ne true him];exact hm
theorem headE_any {g:Nat} {Q:Exit→Act→World→Prop} (hCc:∀ w w',C w→Below w.heap.size w w'→C w') (hVc:∀ v w w',V v w→Below w.heap.size w w'→V v w') (hsel:∀ (j:Nat) (o:Oper) cs b,ops[j]? = some o→o.op ≠ .select cs b)
    (hs:Region.sinkB md ops n=true) (hc:Region.chainB md ops n=true) (hn:n < ops.size) (hmn:m < n) (hom:ops[m]? = some om) (haf:om.after = #[]) (hgd:om.guard=none)
    (hap:∀ j oj,ops[j]? = some oj→j < n→j ≠ m→om.apart ops oj=true) (hm:∀ (a:Act) w,C w→∃ v w',(execOp a.eval om).run P w=.ok (.value v) w'∧C w'∧V v w')
    (hLr:∀ s a,L s a→∀ j ∈ Region.ready md ops s,n≤j) (hL:∀ s a v w,L s a→C w→V v w→wpAny P md ops Q g s (a.put om.dst v) w) (f:Nat) :
    ∀ (s:Array Bool) (a:Act) (w:World),C w→s.getD m true=false→HeadInv md ops n s→headE P md ops C n L f (s.setIfInBounds m true) a→wpAny P md ops Q (f + 1 + g) s a w:=by
  have take:∀ (f:Nat) (s:Array Bool) (a:Act) (w:World),C w→s.getD m true=false→headE P md ops C n L f (s.setIfInBounds m true) a→wpOp P ops Q m (wpAny P md ops Q (f + g) (s.setIfInBounds m true)) a w:=fun f s a w hw hun H => by
    have hms:m < s.size:=by
      rcases Nat.lt_or_ge m s.size with h | h
      · exact h
      · rw [Array.getD,dif_neg (by omega)] at hun;cases hun
    obtain ⟨v,w',hr,hC',hV'⟩:=hm a w hw
    unfold wpOp
    simp only [hom]
    have hwt:Region.wanted om (yielded ops a.tmps)=true:=by simp [Region.wanted,hgd]
    rw [if_pos hwt]
    refine .inl ?_
    unfold Oper.wp
    rw [hr]
    simp only [Oper.upon]
    have hmt:(s.setIfInBounds m true).getD m true=true:=by
      rw [Array.getD,dif_pos (by simpa using hms)];simp
    exact headQ_any (C:=fun w => C w∧V v w) (L:=fun s' a' => ∃ a0,L s' a0∧a'=a0.put om.dst v) (fun s' a' w'' ⟨h1,h2⟩ ⟨a0,h3,h4⟩ => by rw [h4];exact hL _ _ _ _ h3 h1 h2) f _ _ _ ⟨hC',hV'⟩
      (headE_shift (fun _ h => h.1) (fun w w' h hb => ⟨hCc _ _ h.1 hb,hVc _ _ _ h.2 hb⟩) hsel hap (fun s' a' h => ⟨a',h,rfl⟩) f _ _ hmt H)
  have rdy:∀ s:Array Bool,s.getD m true=false→m ∈ Region.ready md ops s:=fun s hun => mem_ready.2 ⟨hun,om,hom,fun e he => by rw [haf] at he;simp at he⟩
  induction f with
  | zero =>
    intro s a w hw hun inv H
    rw [Nat.zero_add,Nat.add_comm]
    refine ⟨fun e => (by have:=rdy s hun;rw [e] at this;cases this),fun i hi => ?_⟩
    by_cases e:i=m
    · subst e
      have:=take 0 s a w hw hun H
      rwa [Nat.zero_add] at this
    · have h1:=hLr _ _ H i (ready_mono hi e)
      exact absurd hi (tail_waits hs hc hn inv _ m rfl hmn hun i h1)
  | succ f ih =>
    intro s a w hw hun inv H
    rw [show f + 1 + 1 + g=(f + 1 + g) + 1 by omega]
    refine ⟨fun e => (by have:=rdy s hun;rw [e] at this;cases this),fun i hi => ?_⟩
    by_cases e:i=m
    · subst e;exact take (f + 1) s a w hw hun H
    · have h1:=H.2 i (ready_mono hi e)
      obtain ⟨hiu,oi,hoi,_⟩:=mem_ready.1 hi
      obtain ⟨v,hy,hK⟩:=ye_of hoi h1.2
      have hq:qOp P ops C i (headE P md ops C n L f ((s.setIfInBounds m true).setIfInBounds i true)) a:=by
        refine YieldsIn.qOp hoi ?_ hK
        rcases hy with ⟨hwt,hq⟩ | ⟨hwt,e2⟩
        · exact .inl ⟨hwt,fun w1 hw1 => upon_mono (fun w' hb => hCc _ _ hw1 hb) (hq w1 hw1)⟩
        · exact .inr ⟨hwt,e2⟩
      refine wpOp_of_qOp hw (fun a' w' hw' h2 => ih _ a' w' hw' ?_ (inv.set hi h1.1) ?_) hq
      · rw [getD_set_ne true e];exact hun
      · rw [Array.setIfInBounds_comm _ _ e];exact h2
def freshB (md:Region.Mode) (ops:Array Oper) (n m:Nat) (ks:List Nat):Bool :=
  Region.noSelect ops && decide (n < ops.size) && decide (m < n) && Region.sinkB md ops n && Region.chainB md ops n && lexE md ops (ops.size - n) n ks ((Array.replicate ops.size false).setIfInBounds m true) &&
  (match ops[m]? with
   | some om => om.after.isEmpty && om.guard.isNone && (List.range n).all fun j => j == m || match ops[j]? with | some oj => om.apart ops oj | none => true
   | none => false) && decide (ks.length + 1 + (ops.size - n)=ops.size)
theorem region_fresh {id:Nat} {Q:Exit→Act→World→Prop} {a:Act} {w:World} {l:List Oper} (C:World→Prop) (V:Value→World→Prop) (n m:Nat) (ks:List Nat) (dst:Option Tmp) (hm:P.follows .mixedOrders=true) (hB:freshB .any l.toArray n m ks=true)
    (hC:C { w with drawn:=w.drawn + 1 }) (hCc:∀ w w',C w→Below w.heap.size w w'→C w') (hVc:∀ v w w',V v w→Below w.heap.size w w'→V v w')
    (hom:∃ om,l.toArray[m]? = some om∧om.dst=dst∧∀ (a:Act) w,C w→∃ v w',(execOp a.eval om).run P w=.ok (.value v) w'∧C w'∧V v w')
    (hls:∃ ls,ls.map some=ks.map (l.toArray[·]?)∧wpExt P l.toArray C (fun a' => ∀ v w',C w'→V v w'→wpList P l.toArray Q (l.drop n) (a'.put dst v) w') ls a):(Code.region id l.toArray true).wp P Q a w:=by
  obtain ⟨om,h0,rfl,hmk⟩:=hom
  obtain ⟨ls,hls,h⟩:=hls
  simp only [freshB,Bool.and_eq_true,decide_eq_true_eq,h0] at hB
  obtain ⟨⟨⟨⟨⟨⟨⟨hsel,hn⟩,hmn⟩,hs⟩,hc⟩,hlex⟩,⟨haf,hgd⟩,hap⟩,hlen⟩:=hB
  have haf':om.after = #[]:=by simpa using haf
  have hgd':om.guard=none:=by simpa using hgd
  have hd:(l.drop n).length=l.toArray.size - n:=by simp
  have inv:HeadInv .any l.toArray n (Array.replicate l.toArray.size false):=by
    refine ⟨by simp,fun j oj _ hl => ?_,fun t _ htt => getD_in (by simpa using htt) (getD_replicate_false _ _)⟩
    rw [getD_replicate_false] at hl;cases hl
  have hun:(Array.replicate l.toArray.size false).getD m true=false:=getD_in (by simp;simp at hn;omega) (getD_replicate_false _ _)
  have hrd:m ∈ Region.ready .any l.toArray (Array.replicate l.toArray.size false):=mem_ready.2 ⟨hun,om,h0,fun e he => by rw [haf'] at he;simp at he⟩
  have H:=headE_walk (P:=P) (C:=C) hsel hs hc hn ks ls _ a hls (inv.set hrd hmn) hlex h
  refine wp_region_any hm ?_
  have H2:=headE_any (Q:=Q) (V:=V) (g:=l.toArray.size - n) hCc hVc (Region.noSelect_spec hsel) hs hc hn hmn h0 haf' hgd' (fun j oj hoj hjn hjm => by
    have h1:=List.all_eq_true.1 hap j (List.mem_range.2 hjn)
    simp only [hoj,Bool.or_eq_true,beq_iff_eq,hjm,false_or] at h1
    exact h1) hmk (fun s a hL => seqB_ready hL.1) (fun s a v w' hL hw' hv => by
      have:=wpAny_of_seq (md:=.any) (Q':=Q) (l.drop n) n s (a.put om.dst v) w' (fun j => by simp [List.getElem?_drop]) (by rw [hd];exact hL.1) (hL.2 v w' hw' hv)
      rwa [hd] at this) ks.length _ _ _ hC hun inv H
  rw [hlen] at H2
  exact H2
theorem region_new {id:Nat} {Q:Exit→Act→World→Prop} {a:Act} {w:World} {l:List Oper} (C:World→Prop) (V:Value→World→Prop) (n m:Nat) (dst:Option Tmp) (hm:P.follows .mixedOrders=true) (hB:freshB .any l.toArray n m (List.range m ++ List.range' (m + 1) (n - 1 - m))=true)
    (he:(l.take m ++ (l.take n).drop (m + 1)).map some=(List.range m ++ List.range' (m + 1) (n - 1 - m)).map (l.toArray[·]?))
    (hC:C { w with drawn:=w.drawn + 1 }) (hCc:∀ w w',C w→Below w.heap.size w w'→C w') (hVc:∀ v w w',V v w→Below w.heap.size w w'→V v w')
    (hom:∃ om,l.toArray[m]? = some om∧om.dst=dst∧∀ (a:Act) w,C w→∃ v w',(execOp a.eval om).run P w=.ok (.value v) w'∧C w'∧V v w')
    (h:wpExt P l.toArray C (fun a' => ∀ v w',C w'→V v w'→wpList P l.toArray Q (l.drop n) (a'.put dst v) w') (l.take m ++ (l.take n).drop (m + 1)) a):(Code.region id l.toArray true).wp P Q a w :=
  region_fresh C V n m _ dst hm hB hC hCc hVc hom ⟨_,he,h⟩
end
end Go.Proofs.YtfbmlefhjoblbaaGreat
namespace Go.Proofs.YtfbmlefhjoblbaaGreat
open Go Go.RowKit
set_option linter.unusedVariables false
set_option linter.unusedSimpArgs false
section
variable {P:Program} {md:Region.Mode} {ops:Array Oper} {C:World→Prop} {n:Nat} {L:Array Bool→Act→Prop} {s0:Array Bool}
def sinkE (md:Region.Mode) (ops:Array Oper) (n:Nat) (s0:Array Bool):Bool :=
  (List.range n).all fun i => s0.getD i true || (List.range (n + 1)).any fun j => decide (i < j) && Region.waitsFor md ops j i
theorem late_waits {s:Array Bool} (hs:sinkE md ops n s0=true) (hc:Region.chainB md ops n=true) (inv:HeadInv md ops n s) (hsub:∀ i,s0.getD i true=true→i < n→s.getD i true=true) :
    ∀ (d i:Nat),n - i=d→i < n→s.getD i true=false→∀ t,n≤t→t ∉ Region.ready md ops s:=by
  intro d
  induction d using Nat.strongRecOn with
  | _ d ih =>
    intro i hd hi hun t ht hr
    obtain ⟨_,ot,hot,hall⟩:=mem_ready.1 hr
    have htl:t < ops.size:=(Array.getElem?_eq_some_iff.1 hot).1
    by_cases htn:t=n
    · subst htn
      have h1:=List.all_eq_true.1 hs i (List.mem_range.2 hi)
      simp only [Bool.or_eq_true] at h1
      rcases h1 with h1 | h1
      · rw [hsub i h1 hi] at hun;cases hun
      obtain ⟨j,hj,hj2⟩:=List.any_eq_true.1 h1
      simp only [Bool.and_eq_true,decide_eq_true_eq] at hj2
      obtain ⟨oj,hoj,e,he,hb,hon⟩:=Region.waitsFor_spec hj2.2
      have hjl:j≤t:=by have:=List.mem_range.1 hj;omega
      by_cases hjt:j=t
      · subst hjt
        obtain rfl:oj=ot:=Option.some.inj (hoj.symm.trans hot)
        have h2:=hall e he hb
        rw [hon,getD_both hun] at h2
        cases h2
      · cases hl:s.getD j false with
        | true =>
          have h2:=inv.closed j oj hoj hl e he hb
          rw [hon,getD_both hun] at h2
          cases h2
        | false => exact ih (t - j) (by omega) j rfl (by omega) (getD_in (by rw [inv.size];omega) hl) t (Nat.le_refl _) hr
    · have h1:=List.all_eq_true.1 hc t (List.mem_range.2 htl)
      simp only [Bool.or_eq_true,decide_eq_true_eq] at h1
      rcases h1 with h1 | h1
      · omega
      · obtain ⟨o',ho',e,he,hb,hon⟩:=Region.waitsFor_spec h1
        obtain rfl:o'=ot:=Option.some.inj (ho'.symm.trans hot)
        have h2:=hall e he hb
        rw [hon,getD_both (inv.tail (t - 1) (by omega) (by omega))] at h2
        cases h2
theorem headL_take {i:Nat} {o:Oper} {v:Value} (hi:ops[i]? = some o) (hsel:∀ (j:Nat) (o:Oper) cs b,ops[j]? = some o→o.op ≠ .select cs b) (hs:sinkE md ops n s0=true) (hc:Region.chainB md ops n=true) (hin:i < n) (hL:∀ s a,L s a→∀ j ∈ Region.ready md ops s,n≤j) (f:Nat) :
    ∀ (s:Array Bool) a,(∀ i,s0.getD i true=true→i < n→s.getD i true=true)→HeadInv md ops n s→(∀ j oj,ops[j]? = some oj→j ≠ i→s.getD j true=false→(∀ e ∈ oj.after,Region.binds md e=true→e.on ≠ i)→o.apart ops oj=true)→i ∈ Region.ready md ops s→YieldsIn P ops C o v a→headQ P md ops C n L f (s.setIfInBounds i true) (a.put o.dst v)→headQ P md ops C n L (f + 1) s a:=by
  induction f with
  | zero =>
    intro s a hsub inv hap hr hy H
    have hun:=(mem_ready.1 hr).1
    refine ⟨fun e => (by rw [e] at hr;cases hr),fun j hj => ?_⟩
    have hjn:j < n:=Nat.lt_of_not_le fun hge => late_waits hs hc inv hsub _ i rfl hin hun j hge hj
    refine ⟨hjn,?_⟩
    by_cases e:j=i
    · subst e;exact hy.qOp hi H
    · exact absurd (hL _ _ H j (ready_mono hj e)) (by omega)
  | succ f ih =>
    intro s a hsub inv hap hr hy H
    have hun:=(mem_ready.1 hr).1
    refine ⟨fun e => (by rw [e] at hr;cases hr),fun j hj => ?_⟩
    have hjn:j < n:=Nat.lt_of_not_le fun hge => late_waits hs hc inv hsub _ i rfl hin hun j hge hj
    refine ⟨hjn,?_⟩
    by_cases e:j=i
    · subst e;exact hy.qOp hi H
    · obtain ⟨hju,oj,hoj,hall⟩:=mem_ready.1 hj
      have hno:∀ e ∈ oj.after,Region.binds md e=true→e.on ≠ i:=fun e he hb heq => by
        have:=hall e he hb
        rw [heq,getD_both hun] at this
        cases this
      have h1:=qOp_put hoj (hap j oj hoj e hju hno) (fun cs b => hsel i o cs b hi) (fun cs b => hsel j oj cs b hoj) hy (H.2 j (ready_mono hj e)).2
      refine qOp_mono (fun a' h2 => ih _ a' (fun k hk hkn => ?_) (inv.set hj hjn) (fun k ok hk hki hku hkn => hap k ok hk hki ?_ hkn) (ready_mono hr (Ne.symm e)) h2.1 ?_) h1
      · by_cases ejk:j=k
        · subst ejk;rw [hsub j hk hkn] at hju;cases hju
        · rw [getD_set_ne true ejk];exact hsub k hk hkn
      · by_cases ejk:j=k
        · subst ejk;exact hju
        · rw [getD_set_ne true ejk] at hku;exact hku
      · rw [Array.setIfInBounds_comm _ _ e];exact h2.2
theorem headL_walk {g:Nat} {K:Act→Prop} (hsel:Region.noSelect ops=true) (hs:sinkE md ops n s0=true) (hc:Region.chainB md ops n=true) (ks:List Nat) :
    ∀ (l:List Oper) (s:Array Bool) a,(∀ i,s0.getD i true=true→i < n→s.getD i true=true)→l.map some=ks.map (ops[·]?)→HeadInv md ops n s→lexE md ops g n ks s=true→wpQuiet P ops C K l a →
    headQ P md ops C n (fun s' a' => Region.seqB md ops g n s'=true∧K a') ks.length s a:=by
  induction ks with
  | nil =>
    intro l s a _ hl inv hB h
    have e:l=[]:=by simpa using hl
    subst e
    exact ⟨hB,h⟩
  | cons k ks ih =>
    intro l s a hsub hl inv hB h
    cases l with
    | nil => simp at hl
    | cons o l =>
      simp only [List.map_cons,List.cons.injEq] at hl
      have h0:ops[k]? = some o:=hl.1.symm
      simp only [lexE,Bool.and_eq_true,decide_eq_true_eq] at hB
      obtain ⟨⟨⟨hkn,hr⟩,hf⟩,hB'⟩:=hB
      have hr':k ∈ Region.ready md ops s:=by simpa using hr
      have hku:=(mem_ready.1 hr').1
      have hq:qOp P ops C k (wpQuiet P ops C K l) a:=by unfold qOp;simp only [h0];exact h
      obtain ⟨v,hy,hK⟩:=yieldsIn_of_qOp h0 hq
      refine headL_take h0 (Region.noSelect_spec hsel) hs hc hkn (fun s' a' hL => seqB_ready hL.1) ks.length s a hsub inv (Region.free_spec h0 hf) hr' hy (ih l _ _ (fun i hi hin => ?_) hl.2 (inv.set hr' hkn) hB' hK)
      by_cases e:k=i
      · subst e;rw [hsub k hi hin] at hku;cases hku
      · rw [getD_set_ne true e];exact hsub i hi hin
def lateB (md:Region.Mode) (ops:Array Oper) (n:Nat) (s0:Array Bool) (ks:List Nat):Bool :=
  Region.noSelect ops && decide (n < ops.size) && sinkE md ops n s0 && Region.chainB md ops n && lexE md ops (ops.size - n) n ks s0 && decide (s0.size=ops.size) &&
  (List.range ops.size).all (fun j => !s0.getD j false || (decide (j < n) && match ops[j]? with | some oj => oj.after.all fun e => !Region.binds md e || s0.getD e.on false | none => true))
theorem any_class_tail {Q:Exit→Act→World→Prop} {a:Act} {w:World} {l ls:List Oper} {s0:Array Bool} {fuel:Nat} (C:World→Prop) (n:Nat) (ks:List Nat) (hB:lateB .any l.toArray n s0 ks=true) (hfu:fuel=ks.length + (l.length - n)) (hls:ls.map some=ks.map (l.toArray[·]?)) (hC:C w)
    (h:wpQuiet P l.toArray C (fun a' => ∀ w',C w'→wpList P l.toArray Q (l.drop n) a' w') ls a):wpAny P .any l.toArray Q fuel s0 a w:=by
  simp only [lateB,Bool.and_eq_true,decide_eq_true_eq] at hB
  obtain ⟨⟨⟨⟨⟨⟨hsel,hn⟩,hs⟩,hc⟩,hlex⟩,hsz⟩,hcl⟩:=hB
  have hd:(l.drop n).length=l.length - n:=by simp
  have hal:∀ j,j < l.toArray.size→s0.getD j false=true→j < n∧∀ oj,l.toArray[j]? = some oj→∀ e ∈ oj.after,Region.binds .any e=true→s0.getD e.on false=true:=fun j hj hl => by
    have h1:=List.all_eq_true.1 hcl j (List.mem_range.2 hj)
    simp only [hl,Bool.not_true,Bool.false_or,Bool.and_eq_true,decide_eq_true_eq] at h1
    refine ⟨h1.1,fun oj hoj e he hb => ?_⟩
    have h2:=h1.2
    simp only [hoj] at h2
    have h3:=Array.all_eq_true'.1 h2 e he
    simpa [hb] using h3
  have inv:HeadInv .any l.toArray n s0:=by
    refine ⟨hsz,fun j oj hoj hl e he hb => (hal j (Array.getElem?_eq_some_iff.1 hoj).1 hl).2 oj hoj e he hb,fun t ht htt => ?_⟩
    refine getD_in (by rw [hsz];exact htt) ?_
    cases hl:s0.getD t false with
    | false => rfl
    | true => have:=(hal t htt hl).1;omega
  have H:=headL_walk (P:=P) (C:=C) (md:=.any) (g:=l.toArray.size - n) hsel hs hc ks ls s0 a (fun _ h _ => h) hls inv hlex h
  have H2:=headQ_any (Q:=Q) (g:=l.toArray.size - n) (fun s a' w' hw' hL => by
    have:=wpAny_of_seq (md:=.any) (Q':=Q) (l.drop n) n s a' w' (fun j => by simp [List.getElem?_drop]) (by rw [hd];simpa using hL.1) (hL.2 w' hw')
    rw [hd] at this
    simpa using this) _ _ _ _ hC H
  rw [hfu]
  simpa using H2
theorem any_late {Q:Exit→Act→World→Prop} {a:Act} {w:World} {l:List Oper} {s0:Array Bool} {fuel:Nat} (C:World→Prop) (m n:Nat) (hB:lateB .any l.toArray n s0 (List.range' m (n - m))=true) (hfu:fuel=(List.range' m (n - m)).length + (l.length - n)) (hls:((l.take n).drop m).map some=(List.range' m (n - m)).map (l.toArray[·]?)) (hC:C w)
    (h:wpQuiet P l.toArray C (fun a' => ∀ w',C w'→wpList P l.toArray Q (l.drop n) a' w') ((l.take n).drop m) a):wpAny P .any l.toArray Q fuel s0 a w:=any_class_tail C n _ hB hfu hls hC h
end
end Go.Proofs.YtfbmlefhjoblbaaGreat
