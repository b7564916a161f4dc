/- Spaces and remarks left out: a claim is at most so large. -/
import Derived.Test.YtfbmlefhjoblbaaGreatWmathGz
import Derived.Test.YtfbmlefhjoblbaaGreatValLGz
import Derived.Test.YtfbmlefhjoblbaaGreatNPFileGetsGz3
namespace Go.Proofs.YtfbmlefhjoblbaaGreat
open Go.Conc Go.RowKit
set_option linter.unusedVariables false
structure CutAt (w wr:World) (vs:List V) (n:Nat) (am ae:Option Addr) (cm ce:Nat) (m:List Int) (e:List V) (lv:V):Prop where
  is:cutA (vs.take n)=(m,e)
  nums:OwnI (w.heap.size + 1) wr am cm m
  vals:OwnV (w.heap.size + 1) wr ae ce e
  slot:Slot wr w.heap.size lv
  one:n=0∨e.getLast? = some lv
  below:Below w.heap.size w wr
structure CutRd (w u:World) (g:Nat) (v:V) (am ae:Option Addr) (cm ce:Nat) (m:List Int) (e:List V) (lv:V):Prop where
  nums:OwnI (w.heap.size + 1) u am cm m
  vals:OwnV (w.heap.size + 1) u ae ce e
  slot:Slot u w.heap.size lv
  hand:Slot u g v
  offm:¬ At am g
  offe:¬ At ae g
  gt:w.heap.size < g
  below:Below w.heap.size w u
section
variable {w u u':World} {g n cm ce:Nat} {v lv:V} {vs:List V} {am ae:Option Addr} {m:List Int} {e:List V}
theorem CutAt.rd (h:CutAt w u vs n am ae cm ce m e lv) (v:V):CutRd w (u.alloc (.cells #[.int .i64 v.k,.int .i64 v.i,.bool v.b,.string v.s] 24)) u.heap.size v am ae cm ce m e lv :=
  ⟨own_same h.nums fun k _ hk => Below.heap_alloc u _ k hk,own_same h.vals fun k _ hk => Below.heap_alloc u _ k hk,h.slot.alloc _,Slot.new u v,fun hk => by have:=(h.nums.at_ge hk).2;omega,fun hk => by have:=(h.vals.at_ge hk).2;omega,h.slot.lt,h.below.alloc h.below.size _⟩
theorem CutRd.more (h:CutRd w u g v am ae cm ce m e lv) (hb:Below u.heap.size u u'):CutRd w u' g v am ae cm ce m e lv :=
  ⟨h.nums.below hb,h.vals.below hb,h.slot.below hb,h.hand.below hb,h.offm,h.offe,h.gt,h.below.trans (hb.mono h.below.size)⟩
theorem CutRd.store (h:CutRd w u g v am ae cm ce m e lv) (p:V):CutRd w ((((u.setCell ⟨g,0,none⟩ (.int .i64 p.k)).setCell ⟨g,1,none⟩ (.int .i64 p.i)).setCell ⟨g,2,none⟩ (.bool p.b)).setCell ⟨g,3,none⟩ (.string p.s)) g p am ae cm ce m e lv:=by
  have hf:=Frm.chain (u:=u) (F:=fun k => k=g) rfl p
  have hg:=h.gt
  exact ⟨h.nums.frm hf fun k hk _ e => h.offm (e ▸ hk),h.vals.frm hf fun k hk _ e => h.offe (e ▸ hk),h.slot.same (hf.block _ h.slot.lt (by omega)),h.hand.store p,h.offm,h.offe,hg,Frm.to_below h.below hf (fun k e => by omega) (Nat.le_refl _)⟩
theorem CutRd.kept (h:CutRd w u g v am ae cm ce m e lv) (p:V) {n:Nat} (hc:cutA (vs.take n)=(m,e)) (hp:e.getLast? = some p):CutAt w ((((u.setCell ⟨w.heap.size,0,none⟩ (.int .i64 p.k)).setCell ⟨w.heap.size,1,none⟩ (.int .i64 p.i)).setCell ⟨w.heap.size,2,none⟩ (.bool p.b)).setCell ⟨w.heap.size,3,none⟩ (.string p.s)) vs n am ae cm ce m e p:=by
  have hf:=Frm.chain (u:=u) (F:=fun k => k=w.heap.size) rfl p
  exact ⟨hc,h.nums.frm hf fun k hk _ e => by have:=(h.nums.at_ge hk).1;omega,h.vals.frm hf fun k hk _ e => by have:=(h.vals.at_ge hk).1;omega,h.slot.store p,.inr hp,Frm.to_below h.below hf (fun k e => by omega) (Nat.le_refl _)⟩
theorem CutRd.again {gm k:Nat} (h:CutRd w u g v (some ⟨gm,0,none⟩) ae cm ce m e lv) (z:Int) {n:Nat} (hc:cutA (vs.take n)=(m.set k z,e)) (hp:e.getLast? = some lv):CutAt w (u.setCell ⟨gm,k,none⟩ (.int .i64 z)) vs n (some ⟨gm,0,none⟩) ae cm ce (m.set k z) e lv:=by
  have hf:Frm (fun k => k=gm) u (u.setCell ⟨gm,k,none⟩ (.int .i64 z)):=(Frm.refl (fun k => k=gm) u).setCell (p:=⟨gm,k,none⟩) rfl _
  have hgm:=(h.nums.at_ge (k:=gm) rfl).1
  exact ⟨hc,h.nums.stored k z,h.vals.frm hf fun k hk _ e => apart_iv h.nums h.vals (k:=gm) rfl (e ▸ hk),h.slot.same (hf.block _ h.slot.lt (by omega)),.inr hp,Frm.to_below h.below hf (fun k e => by omega) (Nat.le_refl _)⟩
theorem CutRd.num {am':Option Addr} {cm':Nat} {z:Int} (h:CutRd w u g v am ae cm ce m e lv) (ho:OwnI (w.heap.size + 1) u' am' cm' (m ++ [z])) (hf:Frm (At am) u u'):CutRd w u' g v am' ae cm' ce (m ++ [z]) e lv:=by
  have hg:=h.gt
  refine ⟨ho,h.vals.frm hf fun k hk _ hk2 => apart_iv h.nums h.vals hk2 hk,h.slot.same (hf.block _ h.slot.lt fun hk => by have:=(h.nums.at_ge hk).1;omega),h.hand.same (hf.block _ h.hand.lt fun hk => h.offm hk),fun hk => ?_,h.offe,hg,Frm.to_below h.below hf (fun k hk => by have:=(h.nums.at_ge hk).1;omega) (Nat.le_refl _)⟩
  have hs:=h.hand.same (hf.block _ h.hand.lt fun hk => h.offm hk)
  rcases ho.block with ⟨rfl,_⟩ | ⟨g2,rfl,_,_,_,cur,hc,_⟩
  · simp [At] at hk
  · simp [At] at hk
    subst hk
    have:=hs.b
    rw [hc] at this
    injection this with this
    injection this with _ h3 _
    exact absurd h3 types_apart.2
theorem CutRd.val {ae':Option Addr} {ce' n:Nat} {p:V} (h:CutRd w u g p am ae cm ce m e lv) (ho:OwnV (w.heap.size + 1) u' ae' ce' (e ++ [p])) (hf:Frm (At ae) u u') (hc:cutA (vs.take n)=(m,e ++ [p])) :
    (Slot u' g p∧Slot u' w.heap.size lv)∧CutAt w ((((u'.setCell ⟨w.heap.size,0,none⟩ (.int .i64 p.k)).setCell ⟨w.heap.size,1,none⟩ (.int .i64 p.i)).setCell ⟨w.heap.size,2,none⟩ (.bool p.b)).setCell ⟨w.heap.size,3,none⟩ (.string p.s)) vs n am ae' cm ce' m (e ++ [p]) p:=by
  have hs:=h.slot.same (hf.block _ h.slot.lt fun hk => by have:=(h.vals.at_ge hk).1;omega)
  refine ⟨⟨h.hand.same (hf.block _ h.hand.lt fun hk => h.offe hk),hs⟩,?_⟩
  have hn:=h.nums.frm hf fun k hk _ hk2 => apart_iv h.nums h.vals hk hk2
  have hb:=Frm.to_below h.below hf (fun k hk => by have:=(h.vals.at_ge hk).1;omega) (Nat.le_refl _)
  have hf2:=Frm.chain (u:=u') (F:=fun k => k=w.heap.size) rfl p
  exact ⟨hc,hn.frm hf2 fun k hk _ e => by have:=(hn.at_ge hk).1;omega,ho.frm hf2 fun k hk _ e => by have:=(ho.at_ge hk).1;omega,hs.store p,.inr (by simp),Frm.to_below hb hf2 (fun k e => by omega) (Nat.le_refl _)⟩
end
set_option maxRecDepth 100000 in
set_option maxHeartbeats 4000000 in
theorem ucut_any (w:World) (a:Option Addr) (cap:Nat) (vs:List V) (ha:IsV w a vs) (hx:vs.length * 40≤140737488355328) (hs:∀ v ∈ vs,v.s.size≤281474976710656) :
    Calls Tryz.prog 152 #[.slice a vs.length cap] w fun e w' => ∃ am cm ae ce,e=.returned (.tuple #[.slice am (cutA vs).1.length cm,.slice ae (cutA vs).2.length ce])∧OwnI w.heap.size w' am cm (cutA vs).1∧OwnV w.heap.size w' ae ce (cutA vs).2∧Below w.heap.size w w':=by
  obtain ⟨R,hR⟩:∃ R,R=cutA vs:=⟨_,rfl⟩
  rw [← hR]
  have HR:=Lib.hid hR
  have HA:=Lib.hid ha
  have HS:=Lib.hid hs
  have H0:Hid (CutAt w (w.alloc (.cells #[.int .i64 0,.int .i64 0,.bool false,.string ⟨#[]⟩] 24)) vs 0 none none 0 0 [] [] ⟨0,0,false,⟨#[]⟩⟩) :=
    ⟨rfl,OwnI.nil _ _,OwnV.nil _ _,Slot.new w ⟨0,0,false,⟨#[]⟩⟩,.inl rfl,(Below.refl _ _).alloc (Nat.le_refl _) _⟩
  clear hR ha hs
  go_enter Tryz.func152,Tryz.ntmps152
  go_wp2
  go_loopw [4,5,11] (fun mv ev iv wr => ∃ (n cm ce:Nat) (am ae:Option Addr) (m:List Int) (e:List V) (last:V),n≤vs.length∧iv=.int .i64 n∧mv=.slice am m.length cm∧ev=.slice ae e.length ce∧Hid (CutAt w wr vs n am ae cm ce m e last)) (fun _ _ iv _ => vs.length - (intOf iv).toNat)
  case atStart => exact ⟨0,0,0,none,none,[],[],_,Nat.zero_le _,rfl,rfl,rfl,H0⟩
  case round =>
    obtain ⟨n,cm,ce,am,ae,m,e,lv,hn,rfl,rfl,rfl,HC⟩:=hrel
    by_cases c:n < vs.length
    · rcases HA.out with h | ⟨bb,off,rfl,hcells⟩
      · subst h;simp at c
      obtain ⟨v0,v1,v2,v3⟩:=(hcells n c).below HC.out.below
      have hsz:=HS.out vs[n] (List.getElem_mem _)
      have HST:=Lib.hid (cutA_take vs n c)
      clear hcells
      generalize vs[n]=v at *
      obtain ⟨p,hp⟩:∃ p,p=plainV v:=⟨_,rfl⟩
      have HP:=Lib.hid hp
      have T1:Hid (∀ u,Calls Tryz.prog 54 #[.agg #[.int .i64 v.k,.int .i64 v.i,.bool v.b,.string v.s]] u fun e w' => e=.returned (.agg #[.int .i64 p.k,.int .i64 p.i,.bool p.b,.string p.s])∧Below u.heap.size u w'):=by rw [hp];exact fun u => plain_any v u
      have T2:Hid (∀ u,Calls Tryz.prog 163 #[.agg #[.int .i64 p.k,.int .i64 p.i,.bool p.b,.string p.s]] u fun e w' => e=.returned (.agg #[.int .i64 p.k,.int .i64 p.i,.bool p.b,.string p.s])∧Below u.heap.size u w'):=by
        have:=fun u => vcopy_any (plainV v) (Nat.le_trans (plainV_size v) hsz) u
        rw [plainV_twice,← hp] at this
        exact this
      clear hp hsz
      have HRD:=Lib.hid (HC.out.rd v)
      generalize hg8:wr.heap.size=g8 at *
      go_upto_region 7 with fail
      generalize wr.alloc (.cells #[.int .i64 v.k,.int .i64 v.i,.bool v.b,.string v.s] 24)=u1 at *
      obtain ⟨⟨a0,a1,a2,a3⟩,b0,b1,b2,b3⟩:=HRD.out.hand.at
      go_upto_region 8 with (go_at_call 54;refine (T1.out _).mono ?_;rintro e w2 ⟨rfl,hb⟩;replace HRD:=Lib.hid (HRD.out.more hb);obtain ⟨⟨a0,a1,a2,a3⟩,b0,b1,b2,b3⟩:=HRD.out.hand.at;clear hb)
      replace HRD:=Lib.hid (HRD.out.store p)
      generalize ((((w2.setCell ⟨g8,0,none⟩ (.int .i64 p.k)).setCell ⟨g8,1,none⟩ (.int .i64 p.i)).setCell ⟨g8,2,none⟩ (.bool p.b)).setCell ⟨g8,3,none⟩ (.string p.s))=u3 at *
      clear a0 a1 a2 a3 b0 b1 b2 b3 T1 v0 v1 v2 v3
      obtain ⟨⟨a0,a1,a2,a3⟩,_⟩:=HRD.out.hand.at
      obtain ⟨⟨l0,l1,l2,l3⟩,m0,m1,m2,m3⟩:=HRD.out.slot.at
      have HIS:=Lib.hid HC.out.is
      have HON:=Lib.hid HC.out.one
      have hml:m.length=e.length:=by have h:=(cutd (vs.take n)).len;rw [HC.out.is] at h;exact h
      have hel:e.length≤n:=by have h:=(cutd (vs.take n)).le;rw [HC.out.is,List.length_take] at h;simp only at h;omega
      clear HC
      have hq:=run_eql_val p lv
      by_cases hl:e.getLast? = some p
      · have hn0:n ≠ 0:=fun h0 => by
          have:=HIS.out
          rw [h0,List.take_zero,cutA_nil] at this
          injection this with _ h2
          rw [← h2] at hl
          simp at hl
        obtain rfl:lv=p:=by
          rcases HON.out with h | h
          · exact absurd h hn0
          · rw [hl] at h;exact (Option.some.inj h).symm
        simp only [decide_eq_true] at hq
        have he0:e ≠ []:=fun h => by rw [h] at hl;simp at hl
        have hm0:m ≠ []:=fun h => he0 (List.eq_nil_of_length_eq_zero (by rw [← hml,h];rfl))
        obtain ⟨gm,rfl⟩:=HRD.out.nums.there hm0
        obtain ⟨k,hk⟩:∃ k,m.length=k + 1:=⟨m.length - 1,by have:=List.length_pos_iff.2 hm0;omega⟩
        obtain ⟨n0,n1⟩:=HRD.out.nums.get k (by omega)
        obtain ⟨x,hx'⟩:∃ x,x=m.getD k 0:=⟨_,rfl⟩
        have hle:x≤n:=by
          have h:=cut_num_le (vs.take n) k (by rw [HIS.out];show k < m.length;omega)
          rw [HIS.out,List.length_take,← hx'] at h
          omega
        have hge:1≤x:=by
          have h:=(cutd (vs.take n)).pos k (by rw [HIS.out];show k < m.length;omega)
          rw [HIS.out,← hx'] at h
          exact h
        rw [← getD_in (d:=0),← hx'] at n0
        have HEN:Hid (cutA (vs.take (n + 1))=(m.set k (x + 1),e)):=by
          unfold Hid
          rw [HST.out,HIS.out,cutStep,← HP.out]
          simp only
          rw [if_pos hl,hk,Nat.add_sub_cancel,← hx']
        have HL:=Lib.hid hl
        have HK:=Lib.hid hk
        have hkn:k + 1≤n:=by omega
        rw [hk]
        clear hl hk hml hel he0 hm0 HIS HON HST HP hx'
        go_wp2
        go_roundw
        case rel => exact ⟨n + 1,cm,ce,some ⟨gm,0,none⟩,ae,m.set k (x + 1),e,lv,c,by go_num,by rw [List.length_set,HK.out],rfl,Lib.hid (HRD.out.again (x + 1) HEN.out HL.out)⟩
        case measure => simp [intOf];omega
      · have HEN:Hid (cutA (vs.take (n + 1))=(m ++ [1],e ++ [p])):=by
          unfold Hid
          rw [HST.out,HIS.out,cutStep,← HP.out]
          simp only
          rw [if_neg hl]
        have hsplit:n=0∨(0 < n∧decide (p=lv)=false):=by
          rcases HON.out with h | h
          · exact .inl h
          · by_cases h0:n=0
            · exact .inl h0
            · exact .inr ⟨by omega,decide_eq_false fun e => hl (by rw [h,e])⟩
        have hmb:m.length≤17592186044000:=by omega
        have heb:e.length≤3518437208882:=by omega
        clear hl hml hel HIS HON HST HP
        rcases hsplit with hn0 | ⟨hn0,hpl⟩
        · subst hn0
          go_upto_region 10 with fail
          go_upto_region 11 with (at_builtin;refine wp_num HRD.out.nums (by have:=HRD.out.gt;have:=HRD.out.hand.lt;omega) hmb rfl _ _ rfl 1 rfl rfl ?_;intro am' cm' u4 ho hf;replace HRD:=Lib.hid (HRD.out.num ho hf);clear ho hf)
          clear a0 a1 a2 a3 l0 l1 l2 l3 m0 m1 m2 m3 hq
          obtain ⟨⟨a0,a1,a2,a3⟩,_⟩:=HRD.out.hand.at
          go_upto_region 12 with (first
            | (go_at_call 163;refine (T2.out _).mono ?_;rintro e w5 ⟨rfl,hb⟩;replace HRD:=Lib.hid (HRD.out.more hb);clear hb)
            | (at_builtin;refine wp_val HRD.out.vals (by have:=HRD.out.gt;have:=HRD.out.hand.lt;omega) heb rfl _ _ rfl p rfl rfl ?_;intro ae' ce' u6 ho hf _;have hfin:=HRD.out.val (vs:=vs) ho hf HEN.out;obtain ⟨⟨⟨a0,a1,a2,a3⟩,_⟩,⟨l0,l1,l2,l3⟩,m0,m1,m2,m3⟩:=And.intro hfin.1.1.at hfin.1.2.at;have HFIN:=Lib.hid hfin.2;clear ho hf hfin))
          go_wp2
          go_roundw
          case rel => exact ⟨_,cm',ce',am',ae',m ++ [1],e ++ [p],p,c,by go_num,by simp,by simp,HFIN⟩
          case measure => simp [intOf];omega
        · rw [hpl] at hq
          clear hpl
          go_upto_region 10 with fail
          go_upto_region 11 with (at_builtin;refine wp_num HRD.out.nums (by have:=HRD.out.gt;have:=HRD.out.hand.lt;omega) hmb rfl _ _ rfl 1 rfl rfl ?_;intro am' cm' u4 ho hf;replace HRD:=Lib.hid (HRD.out.num ho hf);clear ho hf)
          clear a0 a1 a2 a3 l0 l1 l2 l3 m0 m1 m2 m3 hq
          obtain ⟨⟨a0,a1,a2,a3⟩,_⟩:=HRD.out.hand.at
          go_upto_region 12 with (first
            | (go_at_call 163;refine (T2.out _).mono ?_;rintro e w5 ⟨rfl,hb⟩;replace HRD:=Lib.hid (HRD.out.more hb);clear hb)
            | (at_builtin;refine wp_val HRD.out.vals (by have:=HRD.out.gt;have:=HRD.out.hand.lt;omega) heb rfl _ _ rfl p rfl rfl ?_;intro ae' ce' u6 ho hf _;have hfin:=HRD.out.val (vs:=vs) ho hf HEN.out;obtain ⟨⟨⟨a0,a1,a2,a3⟩,_⟩,⟨l0,l1,l2,l3⟩,m0,m1,m2,m3⟩:=And.intro hfin.1.1.at hfin.1.2.at;have HFIN:=Lib.hid hfin.2;clear ho hf hfin))
          go_wp2
          go_roundw
          case rel => exact ⟨_,cm',ce',am',ae',m ++ [1],e ++ [p],p,c,by go_num,by simp,by simp,HFIN⟩
          case measure => simp [intOf];omega
    · obtain rfl:n=vs.length:=by omega
      have hR:R=(m,e):=by rw [HR.out,← HC.out.is,List.take_length]
      subst hR
      clear c
      go_wp2
      go_ret2
      exact ⟨am,cm,ae,ce,rfl,HC.out.nums.lower (by omega),HC.out.vals.lower (by omega),HC.out.below⟩
end Go.Proofs.YtfbmlefhjoblbaaGreat
namespace Go.Proofs.YtfbmlefhjoblbaaGreat
open Go.Conc Go.RowKit
set_option linter.unusedVariables false
set_option linter.unusedSimpArgs false
structure JoinAt (w wr:World) (ms:List Int) (vs:List V) (n:Nat) (aj:Option Addr) (cj:Nat) (out:List V) (lv:V):Prop where
  is:joinN ms vs n=some out
  vals:OwnV (w.heap.size + 1) wr aj cj out
  slot:Slot wr w.heap.size lv
  one:n=0∨lv=plainV (vs.getD (n - 1) zeroV)
  below:Below w.heap.size w wr
structure JoinRd (w u:World) (g:Nat) (v:V) (aj:Option Addr) (cj:Nat) (out:List V) (lv:V):Prop where
  vals:OwnV (w.heap.size + 1) u aj cj out
  slot:Slot u w.heap.size lv
  hand:Slot u g v
  off:¬ At aj g
  gt:w.heap.size < g
  below:Below w.heap.size w u
structure JoinIn (w u:World) (g h:Nat) (v:V) (aj:Option Addr) (cj:Nat) (out:List V) (lv:V):Prop where
  rd:JoinRd w u g v aj cj out lv
  copy:Slot u h v
  off:¬ At aj h
section
variable {w u u':World} {g h n cj:Nat} {v lv:V} {vs out:List V} {aj:Option Addr} {ms:List Int}
theorem JoinAt.rd (h:JoinAt w u ms vs n aj cj out lv) (v:V):JoinRd w (u.alloc (.cells #[.int .i64 v.k,.int .i64 v.i,.bool v.b,.string v.s] 24)) u.heap.size v aj cj out lv :=
  ⟨own_same h.vals fun k _ hk => Below.heap_alloc u _ k hk,h.slot.alloc _,Slot.new u v,fun hk => by have:=(h.vals.at_ge hk).2;omega,h.slot.lt,h.below.alloc h.below.size _⟩
theorem JoinRd.more (h:JoinRd w u g v aj cj out lv) (hb:Below u.heap.size u u'):JoinRd w u' g v aj cj out lv :=
  ⟨h.vals.below hb,h.slot.below hb,h.hand.below hb,h.off,h.gt,h.below.trans (hb.mono h.below.size)⟩
theorem JoinRd.store (h:JoinRd w u g v aj cj out lv) (p:V):JoinRd w ((((u.setCell ⟨g,0,none⟩ (.int .i64 p.k)).setCell ⟨g,1,none⟩ (.int .i64 p.i)).setCell ⟨g,2,none⟩ (.bool p.b)).setCell ⟨g,3,none⟩ (.string p.s)) g p aj cj out lv:=by
  have hf:=Frm.chain (u:=u) (F:=fun k => k=g) rfl p
  have hg:=h.gt
  exact ⟨h.vals.frm hf fun k hk _ e => h.off (e ▸ hk),h.slot.same (hf.block _ h.slot.lt (by omega)),h.hand.store p,h.off,hg,Frm.to_below h.below hf (fun k e => by omega) (Nat.le_refl _)⟩
theorem JoinRd.copied (h:JoinRd w u g v aj cj out lv):JoinIn w (u.alloc (.cells #[.int .i64 v.k,.int .i64 v.i,.bool v.b,.string v.s] 24)) g u.heap.size v aj cj out lv :=
  ⟨h.more ((Below.refl _ _).alloc (Nat.le_refl _) _),Slot.new u v,fun hk => by have:=(h.vals.at_ge hk).2;omega⟩
theorem JoinIn.val {aj':Option Addr} {cj':Nat} (h':JoinIn w u g h v aj cj out lv) (ho:OwnV (w.heap.size + 1) u' aj' cj' (out ++ [v])) (hf:Frm (At aj) u u') (hn:∀ k,At aj' k→At aj k∨u.heap.size < k):JoinIn w u' g h v aj' cj' (out ++ [v]) lv:=by
  have hs:=h'.rd.slot.same (hf.block _ h'.rd.slot.lt fun hk => by have:=(h'.rd.vals.at_ge hk).1;omega)
  have lg:=h'.rd.hand.lt
  have lh:=h'.copy.lt
  exact ⟨⟨ho,hs,h'.rd.hand.same (hf.block _ lg h'.rd.off),fun hk => by
    rcases hn _ hk with h1 | h1
    · exact h'.rd.off h1
    · omega,h'.rd.gt,Frm.to_below h'.rd.below hf (fun k hk => by have:=(h'.rd.vals.at_ge hk).1;omega) (Nat.le_refl _)⟩,h'.copy.same (hf.block _ lh h'.off),fun hk => by
    rcases hn _ hk with h1 | h1
    · exact h'.off h1
    · omega⟩
theorem JoinRd.kept (h:JoinRd w u g v aj cj out lv) {n:Nat} (hc:joinN ms vs n=some out) (hp:n=0∨v=plainV (vs.getD (n - 1) zeroV)):JoinAt w ((((u.setCell ⟨w.heap.size,0,none⟩ (.int .i64 v.k)).setCell ⟨w.heap.size,1,none⟩ (.int .i64 v.i)).setCell ⟨w.heap.size,2,none⟩ (.bool v.b)).setCell ⟨w.heap.size,3,none⟩ (.string v.s)) ms vs n aj cj out v:=by
  have hf:=Frm.chain (u:=u) (F:=fun k => k=w.heap.size) rfl v
  exact ⟨hc,h.vals.frm hf fun k hk _ e => by have:=(h.vals.at_ge hk).1;omega,h.slot.store v,hp,Frm.to_below h.below hf (fun k e => by omega) (Nat.le_refl _)⟩
end
set_option maxRecDepth 100000 in
set_option maxHeartbeats 8000000 in
theorem ujoin_any (w:World) (am a:Option Addr) (cm cap:Nat) (ms:List Int) (vs:List V) (hm:IsL w am ms) (ha:IsV w a vs) (hx:vs.length * 40≤140737488355328) (hs:∀ v ∈ vs,v.s.size≤281474976710656) (hmx:∀ x ∈ ms,x < 9223372036854775808) :
    Calls Tryz.prog 154 #[.slice am ms.length cm,.slice a vs.length cap] w fun e w' => ∃ aj cj,e=.returned (.tuple #[.slice aj (joinA ms vs).1.length cj,.int .i64 (joinA ms vs).2])∧OwnV w.heap.size w' aj cj (joinA ms vs).1∧Below w.heap.size w w':=by
  by_cases hlen:ms.length=vs.length
  · obtain ⟨R,hR⟩:∃ R,R=joinA ms vs:=⟨_,rfl⟩
    rw [← hR]
    have HR:=Lib.hid hR
    have HA:=Lib.hid ha
    have HM:=Lib.hid hm
    have HS:=Lib.hid hs
    have HMX:=Lib.hid hmx
    have HLN:=Lib.hid hlen
    have H0:Hid (JoinAt w (w.alloc (.cells #[.int .i64 0,.int .i64 0,.bool false,.string ⟨#[]⟩] 24)) ms vs 0 none 0 [] ⟨0,0,false,⟨#[]⟩⟩) :=
      ⟨rfl,OwnV.nil _ _,Slot.new w ⟨0,0,false,⟨#[]⟩⟩,.inl rfl,(Below.refl _ _).alloc (Nat.le_refl _) _⟩
    rw [hlen]
    clear hR ha hs hm hmx hlen
    go_enter Tryz.func154,Tryz.ntmps154
    go_wp2
    go_loopw [6,18] (fun jv iv wr => ∃ (n cj:Nat) (aj:Option Addr) (out:List V) (lv:V),n≤vs.length∧iv=.int .i64 n∧jv=.slice aj out.length cj∧Hid (JoinAt w wr ms vs n aj cj out lv)) (fun _ iv _ => vs.length - (intOf iv).toNat)
    case atStart => exact ⟨0,0,none,[],_,Nat.zero_le _,rfl,rfl,H0⟩
    case round =>
      obtain ⟨n,cj,aj,out,lv,hn,rfl,rfl,HC⟩:=hrel
      by_cases c:n < vs.length
      · rcases HA.out with h | ⟨bb,off,rfl,hcells⟩
        · subst h;simp at c
        obtain ⟨bm,om,rfl,hmc⟩:=HM.out.get (n:=n) (by have:=HLN.out;omega)
        obtain ⟨v0,v1,v2,v3⟩:=(hcells n c).below HC.out.below
        have hsz:=HS.out vs[n] (List.getElem_mem _)
        have HJ:Hid (joinN ms vs (n + 1)=if ms.getD n 0 < 1∨4096 - (out.length:Int) < ms.getD n 0∨(0 < n∧plainV (vs.getD (n - 1) zeroV)=plainV vs[n]) then none else some (out ++ List.replicate (ms.getD n 0).toNat (plainV vs[n]))):=by
          unfold Hid
          rw [joinN,HC.out.is,← getD_in (d:=zeroV)]
        have hol:=joinN_le _ _ HC.out.is
        have HV:Hid (vs.getD n zeroV=vs[n]):=getD_in c
        have hx1:ms.getD n 0 < 9223372036854775808:=by
          have hn2:n < ms.length:=by have:=HLN.out;omega
          rw [getD_in hn2];exact HMX.out _ (List.getElem_mem _)
        clear hcells
        generalize vs[n]=v at *
        generalize ms.getD n 0=x at *
        obtain ⟨p,hp⟩:∃ p,p=plainV v:=⟨_,rfl⟩
        have HP:=Lib.hid hp
        have T1:Hid (∀ u,Calls Tryz.prog 54 #[.agg #[.int .i64 v.k,.int .i64 v.i,.bool v.b,.string v.s]] u fun e w' => e=.returned (.agg #[.int .i64 p.k,.int .i64 p.i,.bool p.b,.string p.s])∧Below u.heap.size u w'):=by rw [hp];exact fun u => plain_any v u
        have T2:Hid (∀ u,Calls Tryz.prog 163 #[.agg #[.int .i64 p.k,.int .i64 p.i,.bool p.b,.string p.s]] u fun e w' => e=.returned (.agg #[.int .i64 p.k,.int .i64 p.i,.bool p.b,.string p.s])∧Below u.heap.size u w'):=by
          have:=fun u => vcopy_any (plainV v) (Nat.le_trans (plainV_size v) hsz) u
          rw [plainV_twice,← hp] at this
          exact this
        rw [← hp] at HJ
        clear hp hsz
        have HRD:=Lib.hid (HC.out.rd v)
        have HIS:=Lib.hid HC.out.is
        have HON:=Lib.hid HC.out.one
        have HMC:=Lib.hid hmc
        clear hmc
        generalize hg8:wr.heap.size=g8 at *
        clear HC
        go_upto_region 8 with fail
        generalize wr.alloc (.cells #[.int .i64 v.k,.int .i64 v.i,.bool v.b,.string v.s] 24)=u1 at *
        obtain ⟨⟨a0,a1,a2,a3⟩,b0,b1,b2,b3⟩:=HRD.out.hand.at
        go_upto_region 9 with (go_at_call 54;refine (T1.out _).mono ?_;rintro e w2 ⟨rfl,hb⟩;replace HRD:=Lib.hid (HRD.out.more hb);obtain ⟨⟨a0,a1,a2,a3⟩,b0,b1,b2,b3⟩:=HRD.out.hand.at;clear hb)
        replace HRD:=Lib.hid (HRD.out.store p)
        generalize ((((w2.setCell ⟨g8,0,none⟩ (.int .i64 p.k)).setCell ⟨g8,1,none⟩ (.int .i64 p.i)).setCell ⟨g8,2,none⟩ (.bool p.b)).setCell ⟨g8,3,none⟩ (.string p.s))=u3 at *
        clear a0 a1 a2 a3 b0 b1 b2 b3 T1 v0 v1 v2 v3
        obtain ⟨⟨a0,a1,a2,a3⟩,_⟩:=HRD.out.hand.at
        obtain ⟨⟨l0,l1,l2,l3⟩,m0,m1,m2,m3⟩:=HRD.out.slot.at
        have hmc:=(HRD.out.below.cell (p:=⟨bm,om + n,none⟩) (World.block_lt_of_cell? w _ HMC.out)).trans HMC.out
        have hq:=run_eql_val p lv
        have hno:(x < 1∨4096 - (out.length:Int) < x∨(0 < n∧p=lv))→R=([],700):=by
          intro h
          rw [HR.out]
          refine joinA_none (k:=n + 1) c ?_
          rw [HJ.out,if_pos]
          rcases h with h | h | ⟨h0,h⟩
          · exact .inl h
          · exact .inr (.inl h)
          · refine .inr (.inr ⟨h0,?_⟩)
            rcases HON.out with h1 | h1
            · omega
            · rw [← h1,h]
        by_cases x1:x < 1
        · obtain rfl:=hno (.inl x1)
          clear hno hq
          go_wp2
          go_ret2
          exact ⟨none,0,rfl,OwnV.nil _ _,HRD.out.below⟩
        by_cases x2:4096 - (out.length:Int) < x
        · obtain rfl:=hno (.inr (.inl x2))
          clear hno hq
          go_wp2
          go_ret2
          exact ⟨none,0,rfl,OwnV.nil _ _,HRD.out.below⟩
        have hsplit:(0 < n∧p=lv)∨n=0∨(0 < n∧decide (p=lv)=false):=by
          by_cases h0:n=0
          · exact .inr (.inl h0)
          · by_cases e:p=lv
            · exact .inl ⟨by omega,e⟩
            · exact .inr (.inr ⟨by omega,decide_eq_false e⟩)
        rcases hsplit with ⟨hn0,hpl⟩ | hok
        · obtain rfl:=hno (.inr (.inr ⟨hn0,hpl⟩))
          subst hpl
          simp only [decide_eq_true] at hq
          clear hno
          go_wp2
          go_ret2
          exact ⟨none,0,rfl,OwnV.nil _ _,HRD.out.below⟩
        have HJ2:Hid (joinN ms vs (n + 1)=some (out ++ List.replicate x.toNat p)):=by
          unfold Hid
          rw [HJ.out,if_neg]
          rintro (h | h | ⟨h0,h⟩)
          · omega
          · omega
          · rcases hok with h1 | ⟨h1,h2⟩
            · omega
            · rcases HON.out with h3 | h3
              · omega
              · exact absurd (by rw [h3,h]) (of_decide_eq_false h2)
        clear hno HJ HON HIS
        obtain ⟨X,rfl⟩:∃ X:Nat,x=X:=⟨x.toNat,by omega⟩
        rw [Int.toNat_natCast] at HJ2
        have hXb:out.length + X≤4096:=by omega
        have HNX:=Lib.hid (show n + 1=0∨p=plainV (vs.getD (n + 1 - 1) zeroV) by rw [Nat.add_sub_cancel,HV.out];exact .inr HP.out)
        rcases hok with hn0 | ⟨hn0,hpl⟩
        · have hng:¬ (0 < n):=by omega
          clear hn0
          go_upto_region 11 with fail
          clear l0 l1 l2 l3 m0 m1 m2 m3 hq hmc x1 x2
          go_upto_region 12 with (go_at_call 163;refine (T2.out _).mono ?_;rintro e w5 ⟨rfl,hb⟩;replace HRD:=Lib.hid (HRD.out.more hb);have HIN:=Lib.hid HRD.out.copied;clear hb;generalize hg10:w5.heap.size=g10 at *)
          generalize w5.alloc (.cells #[.int .i64 p.k,.int .i64 p.i,.bool p.b,.string p.s] 24)=u6 at *
          clear a0 a1 a2 a3
          have hmc:=(HIN.out.rd.below.cell (p:=⟨bm,om + n,none⟩) (World.block_lt_of_cell? w _ HMC.out)).trans HMC.out
          have H1:Hid (JoinIn w u6 g8 g10 p aj cj (out ++ List.replicate 0 p) lv):=by unfold Hid;rw [List.replicate_zero,List.append_nil];exact HIN.out
          go_upto_region 13 with fail
          clear hmc
          go_loopw [6,55] (fun jv iv wi => ∃ (j cj:Nat) (aj:Option Addr),j≤X∧iv=.int .i64 j∧jv=.slice aj (out ++ List.replicate j p).length cj∧Hid (JoinIn w wi g8 g10 p aj cj (out ++ List.replicate j p) lv)) (fun _ iv _ => X - (intOf iv).toNat)
          case atStart => exact ⟨0,cj,aj,Nat.zero_le _,rfl,by simp,H1⟩
          case round =>
            obtain ⟨j,cj2,aj2,hj,rfl,rfl,HI⟩:=hrel
            by_cases c2:j < X
            · have hL:out ++ List.replicate (j + 1) p=(out ++ List.replicate j p) ++ [p]:=by rw [List.replicate_succ',List.append_assoc]
              have HLL:=Lib.hid hL
              have hlen:(out ++ List.replicate j p).length≤3518437208882:=by rw [List.length_append,List.length_replicate];omega
              have HLE:=Lib.hid hlen
              clear hL hlen
              obtain ⟨⟨a0,a1,a2,a3⟩,_⟩:=HI.out.copy.at
              generalize out ++ List.replicate j p=L at *
              go_wp2_with (at_builtin;refine wp_val HI.out.rd.vals (by have:=HI.out.rd.gt;have:=HI.out.rd.hand.lt;omega) HLE.out rfl _ _ rfl p rfl rfl ?_;intro aj' cj' u7 ho hf hn2;replace HI:=Lib.hid (HI.out.val ho hf hn2);clear ho hf hn2)
              go_roundw
              case rel => exact ⟨j + 1,cj',aj',c2,by go_num,by rw [HLL.out];simp,by rw [HLL.out];exact HI⟩
              case measure => simp [intOf];omega
            · obtain rfl:j=X:=by omega
              clear c2
              obtain ⟨⟨a0,a1,a2,a3⟩,_⟩:=HI.out.rd.hand.at
              obtain ⟨⟨l0,l1,l2,l3⟩,m0,m1,m2,m3⟩:=HI.out.rd.slot.at
              have HFIN:=Lib.hid (HI.out.rd.kept HJ2.out HNX.out)
              generalize out ++ List.replicate j p=L at *
              go_wp2
              go_roundw
              case rel => exact ⟨n + 1,cj2,aj2,L,p,c,by go_num,rfl,HFIN⟩
              case measure => simp [intOf];omega
        · rw [hpl] at hq
          clear hpl
          go_upto_region 11 with fail
          clear l0 l1 l2 l3 m0 m1 m2 m3 hq hmc x1 x2
          go_upto_region 12 with (go_at_call 163;refine (T2.out _).mono ?_;rintro e w5 ⟨rfl,hb⟩;replace HRD:=Lib.hid (HRD.out.more hb);have HIN:=Lib.hid HRD.out.copied;clear hb;generalize hg10:w5.heap.size=g10 at *)
          generalize w5.alloc (.cells #[.int .i64 p.k,.int .i64 p.i,.bool p.b,.string p.s] 24)=u6 at *
          clear a0 a1 a2 a3
          have hmc:=(HIN.out.rd.below.cell (p:=⟨bm,om + n,none⟩) (World.block_lt_of_cell? w _ HMC.out)).trans HMC.out
          have H1:Hid (JoinIn w u6 g8 g10 p aj cj (out ++ List.replicate 0 p) lv):=by unfold Hid;rw [List.replicate_zero,List.append_nil];exact HIN.out
          go_upto_region 13 with fail
          clear hmc
          go_loopw [6,55] (fun jv iv wi => ∃ (j cj:Nat) (aj:Option Addr),j≤X∧iv=.int .i64 j∧jv=.slice aj (out ++ List.replicate j p).length cj∧Hid (JoinIn w wi g8 g10 p aj cj (out ++ List.replicate j p) lv)) (fun _ iv _ => X - (intOf iv).toNat)
          case atStart => exact ⟨0,cj,aj,Nat.zero_le _,rfl,by simp,H1⟩
          case round =>
            obtain ⟨j,cj2,aj2,hj,rfl,rfl,HI⟩:=hrel
            by_cases c2:j < X
            · have hL:out ++ List.replicate (j + 1) p=(out ++ List.replicate j p) ++ [p]:=by rw [List.replicate_succ',List.append_assoc]
              have HLL:=Lib.hid hL
              have hlen:(out ++ List.replicate j p).length≤3518437208882:=by rw [List.length_append,List.length_replicate];omega
              have HLE:=Lib.hid hlen
              clear hL hlen
              obtain ⟨⟨a0,a1,a2,a3⟩,_⟩:=HI.out.copy.at
              generalize out ++ List.replicate j p=L at *
              go_wp2_with (at_builtin;refine wp_val HI.out.rd.vals (by have:=HI.out.rd.gt;have:=HI.out.rd.hand.lt;omega) HLE.out rfl _ _ rfl p rfl rfl ?_;intro aj' cj' u7 ho hf hn2;replace HI:=Lib.hid (HI.out.val ho hf hn2);clear ho hf hn2)
              go_roundw
              case rel => exact ⟨j + 1,cj',aj',c2,by go_num,by rw [HLL.out];simp,by rw [HLL.out];exact HI⟩
              case measure => simp [intOf];omega
            · obtain rfl:j=X:=by omega
              clear c2
              obtain ⟨⟨a0,a1,a2,a3⟩,_⟩:=HI.out.rd.hand.at
              obtain ⟨⟨l0,l1,l2,l3⟩,m0,m1,m2,m3⟩:=HI.out.rd.slot.at
              have HFIN:=Lib.hid (HI.out.rd.kept HJ2.out HNX.out)
              generalize out ++ List.replicate j p=L at *
              go_wp2
              go_roundw
              case rel => exact ⟨n + 1,cj2,aj2,L,p,c,by go_num,rfl,HFIN⟩
              case measure => simp [intOf];omega
      · obtain rfl:n=vs.length:=by omega
        have hR:R=(out,0):=by rw [HR.out];exact joinA_some HLN.out HC.out.is
        subst hR
        clear c
        go_wp2
        go_ret2
        exact ⟨aj,cj,rfl,HC.out.vals.lower (by omega),HC.out.below⟩
  · rw [joinA_len hlen]
    have hne:((ms.length:Int) != (vs.length:Int))=true:=by simp;omega
    clear hm ha hs hmx hlen
    go_enter Tryz.func154,Tryz.ntmps154
    go_wp2
    go_ret2
    exact ⟨none,0,rfl,OwnV.nil _ _,Below.refl _ _⟩
end Go.Proofs.YtfbmlefhjoblbaaGreat
