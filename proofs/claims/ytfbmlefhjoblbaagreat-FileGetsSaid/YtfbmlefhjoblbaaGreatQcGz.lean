/- Spaces and remarks left out: a claim is at most so large. -/
import Derived.Test.YtfbmlefhjoblbaaGreatQeGz
namespace Go.Proofs.YtfbmlefhjoblbaaGreat
open Go Go.RowKit
set_option linter.unusedVariables false
set_option linter.unusedSimpArgs false
section
variable {P:Program} {md:Region.Mode} {ops:Array Oper} {C:World→Prop} {L L':Array Bool→Act→Prop} {K:Act→World→Prop}
def Gives (r:Result Next) (v:Value) (w:World):Prop:=r=.ok (.value v) w∨(r=.ok .skip w∧v=undef)
theorem Gives.one {r:Result Next} {v v':Value} {w w':World} (h:Gives r v w) (h':Gives r v' w'):v=v'∧w=w':=by
  rcases h with h | ⟨h,hv⟩ <;> rcases h' with h' | ⟨h',hv'⟩ <;> rw [h] at h'
  · injection h' with h1 h2
    injection h1 with h1
    exact ⟨h1,h2⟩
  · injection h' with h1 h2;cases h1
  · injection h' with h1 h2;cases h1
  · injection h' with h1 h2
    exact ⟨hv.trans hv'.symm,h2⟩
def chainQ (P:Program) (C:World→Prop) (K:Act→World→Prop):List Oper→Act→World→Prop
  | [],a,w => ∀ w',C w'→Below w.heap.size w w'→K a w'
  | o :: ds,a,w => ∀ w',C w'→Below w.heap.size w w'→∃ v w'',Gives ((execOp a.eval o).run P w') v w''∧C w''∧chainQ P C K ds (a.put o.dst v) w''
theorem chainQ_more {ds:List Oper} {a:Act} {w w1:World} (hb:Below w.heap.size w w1) (h:chainQ P C K ds a w):chainQ P C K ds a w1:=by
  cases ds with
  | nil => exact fun w' hc hb' => h w' hc (hb.trans (hb'.mono hb.size))
  | cons o ds => exact fun w' hc hb' => h w' hc (hb.trans (hb'.mono hb.size))
def chainUpon (R:Value→World→Prop):Result Next→Prop
  | .ok (.value v) w'' => R v w''
  | .ok .skip w'' => R undef w''
  | _ => False
theorem chainQ_step {o:Oper} {ds:List Oper} {a:Act} {w:World} (h:∀ K':Act→World→Prop,(∀ a w,chainQ P C K ds a w→K' a w)→∀ w',C w'→Below w.heap.size w w'→chainUpon (fun v w'' => C w''∧K' (a.put o.dst v) w'') ((execOp a.eval o).run P w')):chainQ P C K (o :: ds) a w:=fun w' hc hb => by
  have h1:=h _ (fun _ _ h => h) w' hc hb
  generalize (execOp a.eval o).run P w'=r at *
  cases r with
  | ok n w'' =>
    cases n <;> simp only [chainUpon] at h1
    case value v => exact ⟨_,_,.inl rfl,h1⟩
    case skip => exact ⟨_,_,.inr ⟨rfl,rfl⟩,h1⟩
  | halt x w'' => simp only [chainUpon] at h1
theorem chainQ_nil {a:Act} {w:World} (h:∀ w',C w'→Below w.heap.size w w'→K a w'):chainQ P C K [] a w:=h
def allB (s:Array Bool):Bool:=s.all fun b => b
theorem all_ready {s:Array Bool} (h:allB s=true):Region.ready md ops s=[]:=by
  cases hr:Region.ready md ops s with
  | nil => rfl
  | cons x xs =>
    have hx:x ∈ Region.ready md ops s:=by rw [hr];simp
    obtain ⟨hu,_⟩:=mem_ready.1 hx
    rcases Nat.lt_or_ge x s.size with hl | hl
    · have:=Array.all_eq_true.1 h x hl
      simp [hl] at hu
      rw [hu] at this;cases this
    · simp [Array.getElem?_eq_none hl] at hu
def headC (P:Program) (md:Region.Mode) (ops:Array Oper) (C:World→Prop) (L:Array Bool→Act→Prop):Nat→Array Bool→Act→Prop
  | 0,s,a => L s a
  | f + 1,s,a => Region.ready md ops s ≠ []∧∀ i ∈ Region.ready md ops s,extOp P ops C i (headC P md ops C L f (s.setIfInBounds i true)) a
theorem headC_mono (h:∀ s a,L s a→L' s a) (f:Nat):∀ s a,headC P md ops C L f s a→headC P md ops C L' f s a:=by
  induction f with
  | zero => exact fun s a hh => h _ _ hh
  | succ f ih => exact fun s a hh => ⟨hh.1,fun i hi => extOp_mono (fun a' h' => ih _ a' h') (hh.2 i hi)⟩
theorem headC_take {i:Nat} {o:Oper} {v:Value} (hi:ops[i]? = some o) (hsel:∀ (j:Nat) (o:Oper) cs b,ops[j]? = some o→o.op ≠ .select cs b) (hL:∀ s a,L s a→Region.ready md ops s=[]) (f:Nat) :
    ∀ s a,(∀ j oj,ops[j]? = some oj→j ≠ i→s.getD j true=false→(∀ e ∈ oj.after,Region.binds md e=true→e.on ≠ i)→o.apart ops oj=true)→i ∈ Region.ready md ops s→YE P ops C o v a→headC P md ops C L f (s.setIfInBounds i true) (a.put o.dst v)→headC P md ops C L (f + 1) s a:=by
  induction f with
  | zero =>
    intro s a hap hr hy H
    refine ⟨fun e => (by rw [e] at hr;cases hr),fun j hj => ?_⟩
    by_cases e:j=i
    · subst e;exact hy.op hi H
    · have h1:=ready_mono hj e
      rw [hL _ _ H] at h1;cases h1
  | succ f ih =>
    intro s a hap hr hy H
    have hun:=(mem_ready.1 hr).1
    refine ⟨fun e => (by rw [e] at hr;cases hr),fun j hj => ?_⟩
    by_cases e:j=i
    · subst e;exact hy.op hi H
    · obtain ⟨hju,oj,hoj,hall⟩:=mem_ready.1 hj
      have hno:∀ e ∈ oj.after,Region.binds md e=true→e.on ≠ i:=fun e he hb heq => by
        have:=hall e he hb
        rw [heq,getD_both hun] at this
        cases this
      have h1:=extOp_put hoj (hap j oj hoj e hju hno) (fun cs b => hsel i o cs b hi) (fun cs b => hsel j oj cs b hoj) hy (H.2 j (ready_mono hj e))
      refine extOp_mono (fun a' h2 => ih _ a' (fun k ok hk hki hku hkn => hap k ok hk hki ?_ hkn) (ready_mono hr (Ne.symm e)) h2.1 ?_) h1
      · by_cases ejk:j=k
        · subst ejk;exact hju
        · rw [getD_set_ne true ejk] at hku;exact hku
      · rw [Array.setIfInBounds_comm _ _ e];exact h2.2
def lexC (md:Region.Mode) (ops:Array Oper):List Nat→Array Bool→Bool
  | [],s => allB s
  | k :: ks,s => (Region.ready md ops s).contains k && Region.free md ops s k && lexC md ops ks (s.setIfInBounds k true)
theorem headC_walk {K:Act→Prop} (hsel:Region.noSelect ops=true) (ks:List Nat) :
    ∀ (l:List Oper) s a,l.map some=ks.map (ops[·]?)→lexC md ops ks s=true→wpExt P ops C K l a →
    headC P md ops C (fun s' a' => allB s'=true∧K a') ks.length s a:=by
  induction ks with
  | nil =>
    intro l s a hl hB h
    have e:l=[]:=by simpa using hl
    subst e
    exact ⟨hB,h⟩
  | cons k ks ih =>
    intro l s a hl hB h
    cases l with
    | nil => simp at hl
    | cons o l =>
      simp only [List.map_cons,List.cons.injEq] at hl
      have h0:ops[k]? = some o:=hl.1.symm
      simp only [lexC,Bool.and_eq_true] at hB
      obtain ⟨⟨hr,hf⟩,hB'⟩:=hB
      have hr':k ∈ Region.ready md ops s:=by simpa using hr
      have hq:extOp P ops C k (wpExt P ops C K l) a:=by unfold extOp;simp only [h0];exact h
      obtain ⟨v,hy,hK⟩:=ye_of h0 hq
      exact headC_take h0 (Region.noSelect_spec hsel) (fun s' a' hL => all_ready hL.1) ks.length s a (Region.free_spec h0 hf) hr' hy (ih l _ _ hl.2 hB' hK)
theorem undone_set {s:Array Bool} {i j:Nat} (h:(s.setIfInBounds i true).getD j true=false):s.getD j true=false:=by
  by_cases e:i=j
  · subst e
    rcases Nat.lt_or_ge i s.size with hl | hl
    · simp [hl] at h
    · simp [Array.getElem?_eq_none hl] at h ⊢
  · rwa [getD_set_ne true e] at h
theorem chain_run {od:Oper} {ds:List Oper} {w:World} (hw:C w) (hsd:∀ cs b,od.op ≠ .select cs b) (hL:∀ s a,L s a→chainQ P C K (od :: ds) a w) (f:Nat) :
    ∀ (s:Array Bool) a,(∀ j oj,ops[j]? = some oj→s.getD j true=false→od.apart ops oj=true)→headC P md ops C L f s a→∃ v w'',Gives ((execOp a.eval od).run P w) v w''∧C w'':=by
  induction f with
  | zero =>
    intro s a _ h
    obtain ⟨v,w'',h1,h2,_⟩:=hL _ _ h w hw (Below.refl _ _)
    exact ⟨v,w'',h1,h2⟩
  | succ f ih =>
    intro s a hap h
    obtain ⟨i,hi⟩:∃ i,i ∈ Region.ready md ops s:=by
      cases hr:Region.ready md ops s with
      | nil => exact absurd hr h.1
      | cons x xs => exact ⟨x,by simp⟩
    obtain ⟨hiu,oi,hoi,_⟩:=mem_ready.1 hi
    obtain ⟨u,hy,hK⟩:=ye_of hoi (h.2 i hi)
    obtain ⟨h1,h2,h3⟩:=Oper.apart_spec (hap i oi hoi hiu)
    obtain ⟨v,w'',h4,h5⟩:=ih _ _ (fun j oj hj hju => hap j oj hj (undone_set hju)) hK
    rw [execOp_put (ops:=ops) od hsd a oi.dst u h3] at h4
    exact ⟨v,w'',h4,h5⟩
theorem chain_shift {od:Oper} {ds:List Oper} {w w'':World} {v:Value} (hw:C w) (hsel:∀ (j:Nat) (o:Oper) cs b,ops[j]? = some o→o.op ≠ .select cs b) (hsd:∀ cs b,od.op ≠ .select cs b) (f:Nat) :
    ∀ (s:Array Bool) a,(∀ j oj,ops[j]? = some oj→s.getD j true=false→od.apart ops oj=true)→Gives ((execOp a.eval od).run P w) v w''→headC P md ops C (fun s' a' => allB s'=true∧chainQ P C K (od :: ds) a' w) f s a→headC P md ops C (fun s' a' => allB s'=true∧chainQ P C K ds a' w'') f s (a.put od.dst v):=by
  induction f with
  | zero =>
    intro s a _ hr h
    obtain ⟨v1,w1,h1,h2,h3⟩:=h.2 w hw (Below.refl _ _)
    obtain ⟨e1,e2⟩:=hr.one h1
    rw [e1,e2]
    exact ⟨h.1,h3⟩
  | succ f ih =>
    intro s a hap hr h
    refine ⟨h.1,fun i hi => ?_⟩
    obtain ⟨hiu,oi,hoi,_⟩:=mem_ready.1 hi
    obtain ⟨u,hy,hK⟩:=ye_of hoi (h.2 i hi)
    obtain ⟨h1,h2,h3⟩:=Oper.apart_spec (hap i oi hoi hiu)
    have hy2:YE P ops C oi u (a.put od.dst v):=hy.same (execOp_put oi (fun cs b => hsel i oi cs b hoi) a od.dst v h1) (wanted_put oi a od.dst v h1)
    refine hy2.op hoi ?_
    rw [Act.put_comm a v u h2]
    refine ih _ _ (fun j oj hj hju => hap j oj hj (undone_set hju)) ?_ hK
    rw [execOp_put (ops:=ops) od hsd a oi.dst u h3];exact hr
def marked (ds:List Nat) (s:Array Bool):Array Bool:=ds.foldl (fun s i => s.setIfInBounds i true) s
theorem marked_size (ds:List Nat):∀ s:Array Bool,(marked ds s).size=s.size:=by
  induction ds with
  | nil => exact fun s => rfl
  | cons d ds ih => intro s;show (marked ds (s.setIfInBounds d true)).size=_;rw [ih];simp
theorem marked_undone (ds:List Nat):∀ (s:Array Bool) {j:Nat},(marked ds s).getD j true=false→s.getD j true=false:=by
  induction ds with
  | nil => exact fun s j h => h
  | cons d ds ih => exact fun s j h => undone_set (ih _ h)
theorem marked_ne (ds:List Nat):∀ (s:Array Bool) {j:Nat} (b:Bool),j ∉ ds→(marked ds s).getD j b=s.getD j b:=by
  induction ds with
  | nil => exact fun s j b _ => rfl
  | cons d ds ih =>
    intro s j b hj
    simp only [List.mem_cons,not_or] at hj
    show (marked ds (s.setIfInBounds d true)).getD j b=_
    rw [ih _ b hj.2,getD_set_ne b (Ne.symm hj.1)]
theorem marked_ready (ds:List Nat):∀ (s:Array Bool) {j:Nat},j ∉ ds→j ∈ Region.ready md ops s→j ∈ Region.ready md ops (marked ds s):=by
  induction ds with
  | nil => exact fun s j _ h => h
  | cons d ds ih =>
    intro s j hj h
    simp only [List.mem_cons,not_or] at hj
    exact ih _ hj.2 (ready_mono h hj.1)
theorem marked_set (ds:List Nat):∀ (s:Array Bool) {i:Nat},i ∉ ds→marked ds (s.setIfInBounds i true)=(marked ds s).setIfInBounds i true:=by
  induction ds with
  | nil => exact fun s i _ => rfl
  | cons d ds ih =>
    intro s i hi
    simp only [List.mem_cons,not_or] at hi
    show marked ds ((s.setIfInBounds i true).setIfInBounds d true)=_
    rw [Array.setIfInBounds_comm _ _ hi.1,ih _ hi.2];rfl
def chainB2 (md:Region.Mode) (ops:Array Oper):List Nat→Bool
  | [] => true
  | d :: ds => (match ops[d]? with
      | some od => od.guard.isNone && (match od.op with | .select .. => false | _ => true) && (od.after.all fun e => !Region.binds md e || (decide (e.on < ops.size) && !(d :: ds).contains e.on)) &&
        (List.range ops.size).all (fun j => j == d || match ops[j]? with
          | some oj => (ds.contains j || (od.after.any fun e => Region.binds md e && e.on == j) || od.apart ops oj)
          | none => true)
      | none => false) && !ds.contains d && (ds.all fun k => Region.waitsFor md ops k d || ds.any fun k' => decide (k' ≠ k) && Region.waitsFor md ops k k') && chainB2 md ops ds
def quietB (md:Region.Mode) (ops:Array Oper) (ms:List Nat):Bool :=
  (List.range ops.size).all fun j => ms.contains j || match ops[j]? with | some oj => oj.after.all fun e => !Region.binds md e || !ms.contains e.on | none => true
theorem not_ready {k:Nat} {s:Array Bool} {d:Nat} (h:Region.waitsFor md ops k d=true) (hd:s.getD d true=false):k ∉ Region.ready md ops s:=fun hk => by
  obtain ⟨oj,hoj,e,he,hb,hon⟩:=Region.waitsFor_spec h
  obtain ⟨_,oj',hoj',hall⟩:=mem_ready.1 hk
  obtain rfl:oj=oj':=Option.some.inj (hoj.symm.trans hoj')
  have h2:=hall e he hb
  rw [hon,getD_both hd] at h2
  cases h2
theorem mix_any {Q:Exit→Act→World→Prop} (hCc:∀ w w',C w→Below w.heap.size w w'→C w') (hsel:∀ (j:Nat) (o:Oper) cs b,ops[j]? = some o→o.op ≠ .select cs b) (N:Nat):∀ (f:Nat) (ds:List Nat) (dl:List Oper) (s:Array Bool) (a:Act) (w:World),N=f + ds.length→dl.map some=ds.map (ops[·]?)→chainB2 md ops ds=true →
    (∀ d ∈ ds,s.getD d true=false)→(∀ j oj,ops[j]? = some oj→j ∉ ds→s.getD j true=false→∀ e ∈ oj.after,Region.binds md e=true→e.on ∉ ds)→s.size=ops.size→C w→headC P md ops C (fun s' a' => allB s'=true∧chainQ P C (Q .normal) dl a' w) f (marked ds s) a→wpAny P md ops Q N s a w:=by
  induction N with
  | zero =>
    intro f ds dl s a w hN hdl _ _ _ _ hw H
    have e1:f=0:=by omega
    have e2:ds=[]:=List.eq_nil_of_length_eq_zero (by omega)
    subst e1 e2
    have e3:dl=[]:=by simpa using hdl
    subst e3
    exact ⟨all_ready H.1,H.2 w hw (Below.refl _ _)⟩
  | succ N ih =>
    intro f ds dl s a w hN hdl hB hun hqs hsz hw H
    have back:∀ i,i ∈ Region.ready md ops (marked ds s)→i ∉ ds→i ∈ Region.ready md ops s:=fun i hi hid => by
      obtain ⟨hiu,oi,hoi,hall⟩:=mem_ready.1 hi
      have hu:=marked_undone ds s hiu
      exact mem_ready.2 ⟨hu,oi,hoi,fun e he hb => by rw [← marked_ne ds s false (hqs i oi hoi hid hu e he hb)];exact hall e he hb⟩
    have mk:∀ i,i ∈ ds→(marked ds s).getD i true=true:=by
      intro i hi
      have:∀ (ds:List Nat) (s:Array Bool),i ∈ ds→(marked ds s).getD i true=true:=by
        intro ds
        induction ds with
        | nil => intro s h;cases h
        | cons d ds ihd =>
          intro s h
          show (marked ds (s.setIfInBounds d true)).getD i true=true
          by_cases hm:i ∈ ds
          · exact ihd _ hm
          · rw [marked_ne ds _ true hm]
            have e:i=d:=by
              rcases List.mem_cons.1 h with h | h
              · exact h
              · exact absurd h hm
            subst e
            rcases Nat.lt_or_ge i s.size with hl | hl
            · simp [hl]
            · simp [Array.getElem?_eq_none hl]
      exact this ds s hi
    refine ⟨fun hre => ?_,fun i hi => ?_⟩
    · exfalso
      cases f with
      | zero =>
        cases ds with
        | nil => simp at hN
        | cons d ds =>
          cases dl with
          | nil => simp at hdl
          | cons o dl =>
            simp only [List.map_cons,List.cons.injEq] at hdl
            have hod:ops[d]? = some o:=hdl.1.symm
            have hr:d ∈ Region.ready md ops s:=by
              refine mem_ready.2 ⟨hun d (by simp),o,hod,fun e he hb => ?_⟩
              simp only [chainB2,hod,Bool.and_eq_true] at hB
              have h1:=Array.all_eq_true'.1 hB.1.1.1.1.2 e he
              simp only [hb,Bool.not_true,Bool.false_or,Bool.and_eq_true,decide_eq_true_eq,Bool.not_eq_true'] at h1
              have h2:e.on ∉ d :: ds:=by simpa using h1.2
              rw [← marked_ne (d :: ds) s false h2]
              have h3:=Array.all_eq_true.1 H.1 e.on (by rw [marked_size,hsz];exact h1.1)
              have h4:e.on < (marked (d :: ds) s).size:=by rw [marked_size,hsz];exact h1.1
              simp [h4] at h3 ⊢
              exact h3
            rw [hre] at hr
            cases hr
      | succ f =>
        obtain ⟨i,hi⟩:∃ i,i ∈ Region.ready md ops (marked ds s):=by
          cases hr:Region.ready md ops (marked ds s) with
          | nil => exact absurd hr H.1
          | cons x xs => exact ⟨x,by simp⟩
        have hid:i ∉ ds:=fun h => by
          have:=(mem_ready.1 hi).1
          rw [mk i h] at this;cases this
        have:=back i hi hid
        rw [hre] at this
        cases this
    · by_cases hid:i ∈ ds
      · cases ds with
        | nil => cases hid
        | cons d ds =>
          cases dl with
          | nil => simp at hdl
          | cons o dl =>
            simp only [List.map_cons,List.cons.injEq] at hdl
            have hod:ops[d]? = some o:=hdl.1.symm
            simp only [chainB2,hod,Bool.and_eq_true] at hB
            obtain ⟨⟨⟨⟨⟨⟨hg,hsl⟩,haf⟩,hap⟩,hnd⟩,hord⟩,hB'⟩:=hB
            have hnd':d ∉ ds:=by simpa using hnd
            have hid':i=d:=by
              rcases List.mem_cons.1 hid with h | h
              · exact h
              · exfalso
                have h1:=List.all_eq_true.1 hord i h
                simp only [Bool.or_eq_true] at h1
                rcases h1 with h1 | h1
                · exact not_ready h1 (hun d (by simp)) hi
                · obtain ⟨k,hk,hk2⟩:=List.any_eq_true.1 h1
                  simp only [Bool.and_eq_true,decide_eq_true_eq] at hk2
                  exact not_ready hk2.2 (hun k (List.mem_cons_of_mem _ hk)) hi
            subst hid'
            have hsd:∀ cs b,o.op ≠ .select cs b:=fun cs b => hsel i o cs b hod
            have hgn:o.guard=none:=by simpa using hg
            have hapt:∀ j oj,ops[j]? = some oj→(marked (i :: ds) s).getD j true=false→o.apart ops oj=true:=fun j oj hoj hju => by
              have hjd:j ∉ i :: ds:=fun h => by rw [mk j h] at hju;cases hju
              simp only [List.mem_cons,not_or] at hjd
              have h1:=List.all_eq_true.1 hap j (List.mem_range.2 (Array.getElem?_eq_some_iff.1 hoj).1)
              simp only [hoj,Bool.or_eq_true,beq_iff_eq,hjd.1,false_or] at h1
              rcases h1 with (h1 | h1) | h1
              · exact absurd (by simpa using h1) hjd.2
              · exfalso
                obtain ⟨e,he,hb⟩:=Array.any_eq_true'.1 h1
                simp only [Bool.and_eq_true,beq_iff_eq] at hb
                obtain ⟨_,oi,hoi,hall⟩:=mem_ready.1 hi
                obtain rfl:o=oi:=Option.some.inj (hod.symm.trans hoi)
                have h2:=hall e he hb.1
                rw [hb.2,getD_both (marked_undone _ s hju)] at h2
                cases h2
              · exact h1
            obtain ⟨v,w'',hr,hc⟩:=chain_run hw hsd (fun _ _ h => h.2) f _ a hapt H
            have H2:=chain_shift hw hsel hsd f _ a hapt hr H
            unfold wpOp
            simp only [hod]
            have hwt:Region.wanted o (yielded ops a.tmps)=true:=by simp [Region.wanted,hgn]
            rw [if_pos hwt]
            refine .inl ?_
            unfold Oper.wp
            have hgo:wpAny P md ops Q N (s.setIfInBounds i true) (a.put o.dst v) w'':=by
              refine ih f ds dl _ _ _ (by simp at hN;omega) hdl.2 hB' (fun k hk => ?_) (fun j oj hoj hjd hju e he hb => ?_) (by simp [hsz]) hc H2
              · rw [getD_set_ne true (fun e:i=k => hnd' (by rw [e];exact hk))];exact hun k (List.mem_cons_of_mem _ hk)
              · have hji:j ≠ i:=fun e => by
                  subst e
                  have hl:j < s.size:=by rw [hsz];exact (Array.getElem?_eq_some_iff.1 hoj).1
                  simp [hl] at hju
                have:=hqs j oj hoj (by simp [hji,hjd]) (undone_set hju) e he hb
                exact fun h => this (List.mem_cons_of_mem _ h)
            rcases hr with hr | ⟨hr,hv⟩
            · rw [hr];simp only [Oper.upon];exact hgo
            · rw [hr];simp only [Oper.upon];rw [← hv];exact hgo
      · have hi':=marked_ready (md:=md) ds s hid hi
        cases f with
        | zero => rw [all_ready H.1] at hi';cases hi'
        | succ f =>
          obtain ⟨hiu,oi,hoi,_⟩:=mem_ready.1 hi
          obtain ⟨v,hy,hK⟩:=ye_of hoi (H.2 i hi')
          have hq:qOp P ops (fun w1 => C w1∧Below w.heap.size w w1) i (headC P md ops C (fun s' a' => allB s'=true∧chainQ P C (Q .normal) dl a' w) f ((marked ds s).setIfInBounds i true)) a:=by
            refine YieldsIn.qOp hoi ?_ hK
            rcases hy with ⟨hwt,hq⟩ | ⟨hwt,e2⟩
            · exact .inl ⟨hwt,fun w1 hw1 => upon_mono (fun w' hb => ⟨hCc _ _ hw1.1 hb,hw1.2.trans (hb.mono hw1.2.size)⟩) (hq w1 hw1.1)⟩
            · exact .inr ⟨hwt,e2⟩
          refine wpOp_of_qOp (C:=fun w1 => C w1∧Below w.heap.size w w1) ⟨hw,Below.refl _ _⟩ (fun a' w' hw' h2 => ih f ds dl _ a' w' (by omega) hdl hB (fun k hk => ?_) (fun j oj hoj hjd hju => hqs j oj hoj hjd (undone_set hju)) (by simp [hsz]) hw'.1 ?_) hq
          · rw [getD_set_ne true (fun e:i=k => hid (by rw [e];exact hk))];exact hun k hk
          · rw [marked_set ds s hid]
            exact headC_mono (fun s' a' h => ⟨h.1,chainQ_more hw'.2 h.2⟩) f _ _ h2
def regionC (md:Region.Mode) (ops:Array Oper) (ms ks:List Nat):Bool :=
  Region.noSelect ops && chainB2 md ops ms && quietB md ops ms && lexC md ops ks (marked ms (Array.replicate ops.size false)) && decide (ks.length + ms.length=ops.size) && ms.all fun d => decide (d < ops.size)
theorem region_chain {id:Nat} {Q:Exit→Act→World→Prop} {a:Act} {w:World} {l:List Oper} (C:World→Prop) (ms ks:List Nat) (pq pc:List Oper→List Oper) (hm:P.follows .mixedOrders=true) (hB:regionC .any l.toArray ms ks=true) (hls:(pq l).map some=ks.map (l.toArray[·]?)) (hdl:(pc l).map some=ms.map (l.toArray[·]?))
    (hC:C { w with drawn:=w.drawn + 1 }) (hCc:∀ w w',C w→Below w.heap.size w w'→C w')
    (h:wpExt P l.toArray C (fun a' => ∀ w',C w'→chainQ P C (Q .normal) (pc l) a' w') (pq l) a):(Code.region id l.toArray true).wp P Q a w:=by
  simp only [regionC,Bool.and_eq_true,decide_eq_true_eq] at hB
  obtain ⟨⟨⟨⟨⟨hsel,hch⟩,hqu⟩,hlex⟩,hlen⟩,hms⟩:=hB
  refine wp_region_any hm ?_
  have H:=headC_walk (P:=P) (C:=C) (md:=.any) hsel ks (pq l) _ a hls hlex h
  refine mix_any hCc (Region.noSelect_spec hsel) l.toArray.size ks.length ms (pc l) _ a _ hlen.symm hdl hch (fun d hd => ?_) (fun j oj hoj hjd hju e he hb hon => ?_) (by simp) hC (headC_mono (fun s a h => ⟨h.1,h.2 _ hC⟩) _ _ _ H)
  · have:=List.all_eq_true.1 hms d hd
    simp only [decide_eq_true_eq] at this
    exact getD_in (by simpa using this) (getD_replicate_false _ _)
  · have h1:=List.all_eq_true.1 hqu j (List.mem_range.2 (Array.getElem?_eq_some_iff.1 hoj).1)
    simp only [hoj,Bool.or_eq_true] at h1
    rcases h1 with h1 | h1
    · exact hjd (by simpa using h1)
    · have h2:=Array.all_eq_true'.1 h1 e he
      simp only [hb,Bool.not_true,Bool.false_or,Bool.not_eq_true'] at h2
      have:e.on ∉ ms:=by simpa using h2
      exact this hon
end
end Go.Proofs.YtfbmlefhjoblbaaGreat
