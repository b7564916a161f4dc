/- Spaces and remarks left out: a claim is at most so large. Spaces and remarks left out: a claim is at most so large. -/
import Derived.Test.YtfbmlefhjoblbaaGreatWmathGz
import Derived.Test.YtfbmlefhjoblbaaGreatValLGz
import Derived.Test.YtfbmlefhjoblbaaGreatVOrdGz
import Derived.Test.YtfbmlefhjoblbaaGreatBitsGz
namespace Go.Proofs.YtfbmlefhjoblbaaGreat
open Go.Conc Go.RowKit
set_option linter.unusedVariables false
set_option linter.unusedSimpArgs false
structure RCutAt (w wr:World) (vs:List V) (n:Nat) (am ae:Option Addr) (cm ce:Nat) (m:List Int) (e:List V):Prop where
  is:cutA (vs.take n)=(m,e)
  nums:OwnI w.heap.size wr am cm m
  vals:OwnV w.heap.size wr ae ce e
  below:Below w.heap.size w wr
section
variable {w u u':World} {g n cm ce:Nat} {v lv:V} {vs:List V} {am ae:Option Addr} {m:List Int} {e:List V}
theorem RCutAt.more (h:RCutAt w u vs n am ae cm ce m e) (hb:Below u.heap.size u u'):RCutAt w u' vs n am ae cm ce m e :=
  ⟨h.is,h.nums.below hb,h.vals.below hb,h.below.trans (hb.mono h.below.size)⟩
theorem RCutAt.again {gm k:Nat} (h:RCutAt w u vs n (some ⟨gm,0,none⟩) ae cm ce m e) (z:Int) {n':Nat} (hc:cutA (vs.take n')=(m.set k z,e)):RCutAt w (u.setCell ⟨gm,k,none⟩ (.int .i64 z)) vs n' (some ⟨gm,0,none⟩) ae cm ce (m.set k z) e:=by
  have hf:Frm (fun k => k=gm) u (u.setCell ⟨gm,k,none⟩ (.int .i64 z)):=(Frm.refl (fun k => k=gm) u).setCell (p:=⟨gm,k,none⟩) rfl _
  have hgm:=(h.nums.at_ge (k:=gm) rfl).1
  exact ⟨hc,h.nums.stored k z,h.vals.frm hf fun k hk _ e => apart_iv h.nums h.vals (k:=gm) rfl (e ▸ hk),Frm.to_below h.below hf (fun k e => by omega) (Nat.le_refl _)⟩
structure RCutNum (w u:World) (am ae:Option Addr) (cm ce:Nat) (m:List Int) (e:List V):Prop where
  nums:OwnI w.heap.size u am cm m
  vals:OwnV w.heap.size u ae ce e
  below:Below w.heap.size w u
theorem RCutAt.num {am':Option Addr} {cm':Nat} {z:Int} (h:RCutAt w u vs n am ae cm ce m e) (ho:OwnI w.heap.size u' am' cm' (m ++ [z])) (hf:Frm (At am) u u'):RCutNum w u' am' ae cm' ce (m ++ [z]) e :=
  ⟨ho,h.vals.frm hf fun k hk _ hk2 => apart_iv h.nums h.vals hk2 hk,Frm.to_below h.below hf (fun k hk => (h.nums.at_ge hk).1) (Nat.le_refl _)⟩
theorem RCutNum.more (h:RCutNum w u am ae cm ce m e) (hb:Below u.heap.size u u'):RCutNum w u' am ae cm ce m e :=
  ⟨h.nums.below hb,h.vals.below hb,h.below.trans (hb.mono h.below.size)⟩
theorem RCutNum.val {ae':Option Addr} {ce' n:Nat} {p:V} (h:RCutNum w u am ae cm ce m e) (ho:OwnV w.heap.size u' ae' ce' (e ++ [p])) (hf:Frm (At ae) u u') (hc:cutA (vs.take n)=(m,e ++ [p])):RCutAt w u' vs n am ae' cm ce' m (e ++ [p]) :=
  ⟨hc,h.nums.frm hf fun k hk _ hk2 => apart_iv h.nums h.vals hk hk2,ho,Frm.to_below h.below hf (fun k hk => (h.vals.at_ge hk).1) (Nat.le_refl _)⟩
end
set_option maxRecDepth 100000 in
set_option maxHeartbeats 4000000 in
theorem urcut_any (w:World) (a:Option Addr) (cap:Nat) (vs:List V) (ha:IsV w a vs) (hx:vs.length * 40≤140737488355328) (hs:∀ v ∈ vs,v.s.size≤281474976710656) :
    Calls Tryz.prog 86 #[.slice a vs.length cap] w fun e w' => ∃ am cm ae ce,e=.returned (.tuple #[.slice am (cutA vs).1.length cm,.slice ae (cutA vs).2.length ce])∧OwnI w.heap.size w' am cm (cutA vs).1∧OwnV w.heap.size w' ae ce (cutA vs).2∧Below w.heap.size w w':=by
  obtain ⟨R,hR⟩:∃ R,R=cutA vs:=⟨_,rfl⟩
  rw [← hR]
  have HR:=Lib.hid hR
  have HA:=Lib.hid ha
  have HS:=Lib.hid hs
  have H0:Hid (RCutAt w w vs 0 none none 0 0 [] []):=⟨rfl,OwnI.nil _ _,OwnV.nil _ _,Below.refl _ _⟩
  have T1:Hid (∀ (x y:V),x.s.size≤281474976710656→y.s.size≤281474976710656→∀ u,Calls Tryz.prog 20 #[.agg #[.int .i64 x.k,.int .i64 x.i,.bool x.b,.string x.s],.agg #[.int .i64 y.k,.int .i64 y.i,.bool y.b,.string y.s]] u fun e w' => e=.returned (.int .i64 (ordV x y))∧Below u.heap.size u w'):=fun x y hx hy u => rcmp_any x y (by omega) (by omega) u
  have T2:=Lib.hid rclean_any
  clear hR ha hs
  go_enter Tryz.func86,Tryz.ntmps86
  go_wp2
  go_loopw [4,5,6] (fun mv ev iv wr => ∃ (n cm ce:Nat) (am ae:Option Addr) (m:List Int) (e:List V),n≤vs.length∧iv=.int .i64 n∧mv=.slice am m.length cm∧ev=.slice ae e.length ce∧Hid (RCutAt w wr vs n am ae cm ce m e)) (fun _ _ iv _ => vs.length - (intOf iv).toNat)
  case atStart => exact ⟨0,0,0,none,none,[],[],Nat.zero_le _,rfl,rfl,rfl,H0⟩
  case round =>
    obtain ⟨n,cm,ce,am,ae,m,e,hn,rfl,rfl,rfl,HC⟩:=hrel
    by_cases c:n < vs.length
    · rcases HA.out with h | ⟨bb,off,rfl,hcells⟩
      · subst h;simp at c
      have HVW:=Lib.hid (hcells n c)
      have HV:=Lib.hid (HVW.out.below HC.out.below)
      have hsz:=HS.out vs[n] (List.getElem_mem _)
      have HST:=Lib.hid (cutA_take vs n c)
      clear hcells
      generalize vs[n]=v at *
      obtain ⟨p,hp⟩:∃ p,p=plainV v:=⟨_,rfl⟩
      have HP:=Lib.hid hp
      have T3:Hid (∀ u,Calls Tryz.prog 27 #[.agg #[.int .i64 v.k,.int .i64 v.i,.bool v.b,.string v.s]] u fun e w' => e=.returned (.agg #[.int .i64 p.k,.int .i64 p.i,.bool p.b,.string p.s])∧Below u.heap.size u w'):=by rw [hp];exact fun u => rclean_any v u
      clear hp
      have hml:m.length=e.length:=by have h:=(cutd (vs.take n)).len;rw [HC.out.is] at h;exact h
      have hel:e.length≤n:=by have h:=(cutd (vs.take n)).le;rw [HC.out.is,List.length_take] at h;simp only at h;omega
      have hmb:m.length≤17592186044000:=by omega
      have HEB:Hid (e.length≤3518437208882):=by unfold Hid;omega
      by_cases he0:e=[]
      · subst he0
        have hm0:m=[]:=List.eq_nil_of_length_eq_zero hml
        subst hm0
        have HEN:Hid (cutA (vs.take (n + 1))=([] ++ [1],[] ++ [p])):=by
          unfold Hid
          rw [HST.out,HC.out.is,cutStep,← HP.out]
          rfl
        clear hml hel HST HP
        go_upto_region 7 with fail
        go_quiet (fail)
        replace HC:=Lib.hid (HC.out.more (bel_drewN (n:=nq) (Below.refl _ wr)))
        generalize wr.drewN nq=w2 at *
        clear HV
        go_upto_region 10 with (at_builtin;refine wp_num HC.out.nums HC.out.below.size hmb rfl _ _ rfl 1 rfl rfl ?_;intro am' cm' u4 ho hf;have HN:=Lib.hid (HC.out.num ho hf);clear ho hf)
        obtain ⟨v0,v1,v2,v3⟩:=HVW.out.below HN.out.below
        go_wp2_with (first
          | (go_at_call 27;refine (T3.out _).mono ?_;rintro e w5 ⟨rfl,hb⟩;replace HN:=Lib.hid (HN.out.more hb);clear hb)
          | (at_builtin;refine wp_val HN.out.vals HN.out.below.size HEB.out rfl _ _ rfl p rfl rfl ?_;intro ae' ce' u6 ho hf _;have HFIN:=Lib.hid (HN.out.val (vs:=vs) ho hf HEN.out);clear ho hf))
        go_roundw
        case rel => exact ⟨_,cm',ce',am',ae',_,[] ++ [p],c,by go_num,by simp,by simp,HFIN⟩
        case measure => simp [intOf];omega
      · obtain ⟨k,hk⟩:∃ k,e.length=k + 1:=⟨e.length - 1,by have:=List.length_pos_iff.2 he0;omega⟩
        obtain ⟨ge,rfl⟩:=HC.out.vals.there he0
        have HL:=Lib.hid (HC.out.vals.get k (by omega))
        obtain ⟨l,hl⟩:∃ l,l=e[k]'(by omega):=⟨_,rfl⟩
        rw [← hl] at HL
        have hlp:plainV l=l:=by
          have h:=(cutd (vs.take n)).plain l (by rw [HC.out.is,hl];exact List.getElem_mem _)
          exact h
        have hls:l.s.size≤281474976710656:=by
          obtain ⟨u,hu,h⟩:=(cutd (vs.take n)).size l (by rw [HC.out.is,hl];exact List.getElem_mem _)
          exact Nat.le_trans h (HS.out u (List.mem_of_mem_take hu))
        have hlast:e.getLast? = some l:=by rw [List.getLast?_eq_getElem?,hk,Nat.add_sub_cancel,List.getElem?_eq_getElem (by omega),hl]
        have HLP:=Lib.hid hlp
        have HLS:=Lib.hid hls
        have HSZ:=Lib.hid hsz
        have HLA:=Lib.hid hlast
        have HK:=Lib.hid hk
        have HML:=Lib.hid hml
        rw [hml,hk]
        have hkw:IntKind.i64.wrap (k:Int)=(k:Int):=wrap_i64_nat k (by omega)
        have hkn:k + 1≤n:=by omega
        have hki:(k:Int) < (k:Int) + 1:=by omega
        have hni:(n:Int) < (vs.length:Int):=by omega
        clear hl hlp hls hlast hsz hml hk he0
        go_upto_region 7 with fail
        obtain ⟨v0,v1,v2,v3⟩:=HV.out
        obtain ⟨l0,l1,l2,l3⟩:=HL.out
        refine region_class (fun w' => Below wr.heap.size wr w') (by kernel_rfl) (by kernel_rfl) (Below.refl _ _).drew ?_
        repeat (
          refine wpQuiet_step (fun K hK => ?_)
          go_simp
          first
          | (refine hK _ ?_;clear hK K)
          | (apply Exists.intro
             refine ⟨fun w1 hw1 => ?_,hK _ ?_⟩
             (first
               | (exact rfl)
               | (obtain ⟨p0,p1,p2,p3⟩:=HL.out.below hw1;simp only [p0,p1,p2,p3,Result.andThen];exact ⟨trivial,rfl⟩)
               | (obtain ⟨p0,p1,p2,p3⟩:=HV.out.below hw1;simp only [p0,p1,p2,p3,Result.andThen];exact ⟨trivial,rfl⟩)
               | (go_at_call 20;exact (T1.out _ _ HLS.out HSZ.out _).mono fun e w2 ⟨he,hb⟩ => ⟨he,hw1.trans (hb.mono hw1.size)⟩))
             clear hK K))
        refine wpQuiet_nil ?_
        intro w2 hw2
        replace HC:=Lib.hid (HC.out.more hw2)
        clear hw2 v0 v1 v2 v3 l0 l1 l2 l3 HL HV HSZ HLS T1
        have hz:(ordV l v == 0)=decide (l=p):=by
          have h:=ordV_zero l v
          rw [HLP.out,← HP.out] at h
          by_cases e:l=p
          · rw [decide_eq_true e,h.2 e];rfl
          · rw [decide_eq_false e]
            have:=fun e2 => e (h.1 e2)
            simpa using this
        rw [hz]
        clear hz
        by_cases hlp:l=p
        · rw [decide_eq_true hlp]
          subst hlp
          have hm0:m ≠ []:=fun h => by have:=HML.out;rw [h,HK.out] at this;simp at this
          obtain ⟨gm,rfl⟩:=HC.out.nums.there hm0
          have hmk:m.length=k + 1:=by rw [HML.out,HK.out]
          obtain ⟨n0,n1⟩:=HC.out.nums.get k (by omega)
          obtain ⟨x,hx'⟩:∃ x,x=m.getD k 0:=⟨_,rfl⟩
          have hle:x≤n:=by
            have h:=cut_num_le (vs.take n) k (by rw [HC.out.is];show k < m.length;omega)
            rw [HC.out.is,List.length_take,← hx'] at h
            omega
          have hge:1≤x:=by
            have h:=(cutd (vs.take n)).pos k (by rw [HC.out.is];show k < m.length;omega)
            rw [HC.out.is,← hx'] at h
            exact h
          rw [← getD_in (d:=0),← hx'] at n0
          have HEN:Hid (cutA (vs.take (n + 1))=(m.set k (x + 1),e)):=by
            unfold Hid
            rw [HST.out,HC.out.is,cutStep,← HP.out]
            simp only
            rw [if_pos HLA.out,hmk,Nat.add_sub_cancel,← hx']
          clear hm0 hmk hx' HST HP HLA hki hni
          go_wp2
          go_roundw
          case rel => exact ⟨n + 1,cm,ce,some ⟨gm,0,none⟩,some ⟨ge,0,none⟩,m.set k (x + 1),e,c,by go_num,by rw [List.length_set,HML.out,HK.out],by rw [HK.out],Lib.hid (HC.out.again (x + 1) HEN.out)⟩
          case measure => simp [intOf];omega
        · rw [decide_eq_false hlp]
          have HEN:Hid (cutA (vs.take (n + 1))=(m ++ [1],e ++ [p])):=by
            unfold Hid
            rw [HST.out,HC.out.is,cutStep,← HP.out]
            simp only
            rw [if_neg (by rw [HLA.out];simpa using hlp)]
          have hmk:m.length=k + 1:=by rw [HML.out,HK.out]
          clear hlp HST HP HLA hki hni
          go_upto_region 10 with (at_builtin;refine wp_num HC.out.nums HC.out.below.size hmb rfl _ _ rfl 1 (by rw [hmk];rfl) rfl ?_;intro am' cm' u4 ho hf;have HN:=Lib.hid (HC.out.num ho hf);clear ho hf)
          obtain ⟨v0,v1,v2,v3⟩:=HVW.out.below HN.out.below
          go_wp2_with (first
            | (go_at_call 27;refine (T3.out _).mono ?_;rintro e w5 ⟨rfl,hb⟩;replace HN:=Lib.hid (HN.out.more hb);clear hb)
            | (at_builtin;refine wp_val HN.out.vals HN.out.below.size HEB.out rfl _ _ rfl p (by rw [HK.out];rfl) rfl ?_;intro ae' ce' u6 ho hf _;have HFIN:=Lib.hid (HN.out.val (vs:=vs) ho hf HEN.out);clear ho hf))
          go_roundw
          case rel => exact ⟨_,cm',ce',am',ae',_,e ++ [p],c,by go_num,by simp [hmk],by simp [HK.out],HFIN⟩
          case measure => simp [intOf];omega
    · obtain rfl:n=vs.length:=by omega
      have hR:R=(m,e):=by rw [HR.out,← HC.out.is,List.take_length]
      subst hR
      clear c
      go_wp2
      go_ret2
      exact ⟨am,cm,ae,ce,rfl,HC.out.nums,HC.out.vals,HC.out.below⟩
end Go.Proofs.YtfbmlefhjoblbaaGreat

namespace Go.Proofs.YtfbmlefhjoblbaaGreat
open Go.Conc Go.RowKit
set_option linter.unusedVariables false
set_option linter.unusedSimpArgs false
structure RWAt (w wr:World) (vs:List V) (n:Nat) (aw ai:Option Addr) (cw ci:Nat) (ws:List V) (at_:List Int):Prop where
  is:buildA (vs.take n)=(ws,at_)
  words:OwnV w.heap.size wr aw cw ws
  nums:OwnI w.heap.size wr ai ci at_
  below:Below w.heap.size w wr
structure RWMid (w u:World) (aw ai:Option Addr) (cw ci:Nat) (ws:List V) (at_:List Int):Prop where
  words:OwnV w.heap.size u aw cw ws
  nums:OwnI w.heap.size u ai ci at_
  below:Below w.heap.size w u
section
variable {w u u':World} {n cw ci:Nat} {v p:V} {vs ws:List V} {aw ai:Option Addr} {at_:List Int}
theorem RWAt.more (h:RWAt w u vs n aw ai cw ci ws at_) (hb:Below u.heap.size u u'):RWAt w u' vs n aw ai cw ci ws at_ :=
  ⟨h.is,h.words.below hb,h.nums.below hb,h.below.trans (hb.mono h.below.size)⟩
theorem RWMid.more (h:RWMid w u aw ai cw ci ws at_) (hb:Below u.heap.size u u'):RWMid w u' aw ai cw ci ws at_ :=
  ⟨h.words.below hb,h.nums.below hb,h.below.trans (hb.mono h.below.size)⟩
theorem RWAt.mid (h:RWAt w u vs n aw ai cw ci ws at_):RWMid w u aw ai cw ci ws at_:=⟨h.words,h.nums,h.below⟩
theorem RWMid.val {aw':Option Addr} {cw':Nat} {ws':List V} (h:RWMid w u aw ai cw ci ws at_) (ho:OwnV w.heap.size u' aw' cw' ws') (hf:Frm (At aw) u u'):RWMid w u' aw' ai cw' ci ws' at_ :=
  ⟨ho,h.nums.frm hf fun k hk _ hk2 => apart_iv h.nums h.words hk hk2,Frm.to_below h.below hf (fun k hk => (h.words.at_ge hk).1) (Nat.le_refl _)⟩
theorem RWMid.num {ai':Option Addr} {ci' n:Nat} {at':List Int} (h:RWMid w u aw ai cw ci ws at_) (ho:OwnI w.heap.size u' ai' ci' at') (hf:Frm (At ai) u u') (hc:buildA (vs.take n)=(ws,at')):RWAt w u' vs n aw ai' cw ci' ws at' :=
  ⟨hc,h.words.frm hf fun k hk _ hk2 => apart_iv h.nums h.words hk2 hk,ho,Frm.to_below h.below hf (fun k hk => (h.nums.at_ge hk).1) (Nat.le_refl _)⟩
end
set_option maxRecDepth 100000 in
set_option maxHeartbeats 4000000 in
theorem urbuild_any (w:World) (a:Option Addr) (cap:Nat) (vs:List V) (ha:IsV w a vs) (hx:vs.length * 40≤140737488355328) (hs:∀ v ∈ vs,v.s.size≤281474976710656) :
    Calls Tryz.prog 87 #[.slice a vs.length cap] w fun e w' => ∃ aw cw ai ci,e=.returned (.tuple #[.slice aw (buildA vs).1.length cw,.slice ai (buildA vs).2.length ci])∧OwnV w.heap.size w' aw cw (buildA vs).1∧OwnI w.heap.size w' ai ci (buildA vs).2∧Below w.heap.size w w':=by
  obtain ⟨R,hR⟩:∃ R,R=buildA vs:=⟨_,rfl⟩
  rw [← hR]
  have HR:=Lib.hid hR
  have HA:=Lib.hid ha
  have HS:=Lib.hid hs
  have H0:Hid (RWAt w w vs 0 none none 0 0 [] []):=⟨rfl,OwnV.nil _ _,OwnI.nil _ _,Below.refl _ _⟩
  have T1:Hid (∀ (x y:V),x.s.size≤281474976710656→y.s.size≤281474976710656→∀ u,Calls Tryz.prog 20 #[.agg #[.int .i64 x.k,.int .i64 x.i,.bool x.b,.string x.s],.agg #[.int .i64 y.k,.int .i64 y.i,.bool y.b,.string y.s]] u fun e w' => e=.returned (.int .i64 (ordV x y))∧Below u.heap.size u w'):=fun x y hx hy u => rcmp_any x y (by omega) (by omega) u
  clear hR ha hs
  go_enter Tryz.func87,Tryz.ntmps87
  go_wp2
  go_loopw [4,5,6] (fun wv tv iv wr => ∃ (n cw ci:Nat) (aw ai:Option Addr) (ws:List V) (at_:List Int),n≤vs.length∧iv=.int .i64 n∧wv=.slice aw ws.length cw∧tv=.slice ai at_.length ci∧Hid (RWAt w wr vs n aw ai cw ci ws at_)) (fun _ _ iv _ => vs.length - (intOf iv).toNat)
  case atStart => exact ⟨0,0,0,none,none,[],[],Nat.zero_le _,rfl,rfl,rfl,H0⟩
  case round =>
    obtain ⟨n,cw,ci,aw,ai,ws,at_,hn,rfl,rfl,rfl,HC⟩:=hrel
    by_cases c:n < vs.length
    · rcases HA.out with h | ⟨bb,off,rfl,hcells⟩
      · subst h;simp at c
      have HVW:=Lib.hid (hcells n c)
      have HSZ:=Lib.hid (HS.out vs[n] (List.getElem_mem _))
      have HST:=Lib.hid (buildA_take vs n c)
      clear hcells
      generalize vs[n]=v at *
      obtain ⟨p,hp⟩:∃ p,p=plainV v:=⟨_,rfl⟩
      have HP:=Lib.hid hp
      have T3:Hid (∀ u,Calls Tryz.prog 27 #[.agg #[.int .i64 v.k,.int .i64 v.i,.bool v.b,.string v.s]] u fun e w' => e=.returned (.agg #[.int .i64 p.k,.int .i64 p.i,.bool p.b,.string p.s])∧Below u.heap.size u w'):=by rw [hp];exact fun u => rclean_any v u
      clear hp
      have HB:=built (vs.take n)
      rw [HC.out.is] at HB
      have htl:at_.length=n:=by rw [HB.len,List.length_take];omega
      have hwl:ws.length≤n:=by have:=HB.le;simp only [List.length_take] at this;omega
      have HPL:Hid (∀ k (hk:k < ws.length),plainV ws[k]=ws[k]):=fun k hk => by have:=HB.plain k hk;rwa [getD_in hk] at this
      have HLS:Hid (∀ k (hk:k < ws.length),(ws[k]).s.size≤281474976710656):=fun k hk => by
        obtain ⟨u,hu,h⟩:=HB.size ws[k] (List.getElem_mem _)
        exact Nat.le_trans h (HS.out u (List.mem_of_mem_take hu))
      have HEN:Hid (buildA (vs.take (n + 1))=(if placeV p ws=ws.length then ws ++ [p] else ws,at_ ++ [((placeV p ws:Nat):Int)])):=by
        unfold Hid
        rw [HST.out,HC.out.is,buildStep,← HP.out]
      have hib:at_.length≤17592186044000:=by omega
      have hwb:ws.length≤3518437208882:=by omega
      have HIB:=Lib.hid hib
      have HWB:=Lib.hid hwb
      have HN:=Lib.hid hn
      have hni:(n:Int) < (vs.length:Int):=by omega
      clear HB HST htl hwl hib
      have HQ0:Hid (∀ i,i < 0→ws.getD i zeroV ≠ p):=fun i hi => absurd hi (Nat.not_lt_zero i)
      go_wp2
      go_loopw [7] (fun kv wi => ∃ k:Nat,k≤ws.length∧kv=.int .i64 k∧Hid (∀ i,i < k→ws.getD i zeroV ≠ p)∧Hid (RWAt w wi vs n aw ai cw ci ws at_)) (fun kv _ => ws.length - (intOf kv).toNat)
      case atStart => exact ⟨0,Nat.zero_le _,rfl,HQ0,HC⟩
      case round =>
        obtain ⟨k,hk,rfl,HQ,HI⟩:=hrel
        by_cases c2:k < ws.length
        · obtain ⟨ge,rfl⟩:=HI.out.words.there (by intro h;rw [h] at c2;simp at c2)
          have HL:=Lib.hid (HI.out.words.get k c2)
          have HV:=Lib.hid (HVW.out.below HI.out.below)
          have HL1:=Lib.hid (HPL.out k c2)
          have HL2:=Lib.hid (HLS.out k c2)
          obtain ⟨l,hl⟩:∃ l,ws[k]=l:=⟨_,rfl⟩
          rw [hl] at HL HL1 HL2
          have HLE:=Lib.hid hl
          have hki:(k:Int) < (ws.length:Int):=by omega
          clear hl
          obtain ⟨v0,v1,v2,v3⟩:=HV.out
          obtain ⟨l0,l1,l2,l3⟩:=HL.out
          go_upto_region 7 with fail
          refine region_class (fun w' => Below wr.heap.size wr w') (by kernel_rfl) (by kernel_rfl) (Below.refl _ _).drew ?_
          repeat (
            refine wpQuiet_step (fun K hK => ?_)
            go_simp
            first
            | (refine hK _ ?_;clear hK K)
            | (apply Exists.intro
               refine ⟨fun w1 hw1 => ?_,hK _ ?_⟩
               (first
                 | (exact rfl)
                 | (obtain ⟨p0,p1,p2,p3⟩:=HL.out.below hw1;simp only [p0,p1,p2,p3,Result.andThen];exact ⟨trivial,rfl⟩)
                 | (obtain ⟨p0,p1,p2,p3⟩:=HV.out.below hw1;simp only [p0,p1,p2,p3,Result.andThen];exact ⟨trivial,rfl⟩)
                 | (go_at_call 20;exact (T1.out _ _ HL2.out HSZ.out _).mono fun e w2 ⟨he,hb⟩ => ⟨he,hw1.trans (hb.mono hw1.size)⟩))
               clear hK K))
          refine wpQuiet_nil ?_
          intro w2 hw2
          replace HI:=Lib.hid (HI.out.more hw2)
          clear hw2 v0 v1 v2 v3 l0 l1 l2 l3 HL HV HL2
          have hz:(ordV l v != 0) = !decide (l=p):=by
            have h:=ordV_zero l v
            rw [HL1.out,← HP.out] at h
            by_cases e:l=p
            · rw [decide_eq_true e,h.2 e];rfl
            · rw [decide_eq_false e]
              have:=fun e2 => e (h.1 e2)
              simpa using this
          rw [hz]
          clear hz
          by_cases hlp:l=p
          · rw [decide_eq_true hlp]
            have hpk:placeV p ws=k:=placeV_is p ws k (by omega) HQ.out (.inr (by rw [getD_in c2,HLE.out,hlp]))
            have HEN2:Hid (buildA (vs.take (n + 1))=(ws,at_ ++ [(k:Int)])):=by
              unfold Hid
              rw [HEN.out,hpk,if_neg (by omega)]
            have hne:((k:Int) == (ws.length:Int))=false:=by simp;omega
            have HM:=Lib.hid HI.out.mid
            clear hlp hpk HEN HQ HI HL1 HLE HC hki
            go_wp2_with (at_builtin;refine wp_num HM.out.nums HM.out.below.size HIB.out rfl _ _ rfl k rfl rfl ?_;intro ai' ci' u7 ho hf;have HFIN:=Lib.hid (HM.out.num (vs:=vs) ho hf HEN2.out);clear ho hf)
            go_roundw
            case rel => exact ⟨n + 1,cw,ci',some ⟨ge,0,none⟩,ai',ws,at_ ++ [(k:Int)],c,by go_num,rfl,by simp,HFIN⟩
            case measure => simp [intOf];omega
          · rw [decide_eq_false hlp]
            have HQ2:Hid (∀ i,i < k + 1→ws.getD i zeroV ≠ p):=fun i hi => by
              by_cases e:i < k
              · exact HQ.out i e
              · obtain rfl:i=k:=by omega
                rw [getD_in c2,HLE.out];exact hlp
            have hkw:IntKind.i64.wrap ((k:Int) + 1)=(k:Int) + 1:=by have:=HWB.out;exact wrap_i64_nat (k + 1) (by omega)
            clear hlp HQ HL1 HLE HC hki hwb hni hk
            go_wp2
            go_roundw
            case rel => exact ⟨k + 1,c2,by go_num,HQ2,HI⟩
            case measure => simp [intOf];omega
        · have hki:¬ ((k:Int) < (ws.length:Int)):=by omega
          go_upto_region 7 with fail
          go_quiet (fail)
          have HM:=Lib.hid (HI.out.mid.more (bel_drewN (n:=nq) (Below.refl _ wr)))
          generalize wr.drewN nq=w2 at *
          obtain rfl:k=ws.length:=by omega
          have hpk:placeV p ws=ws.length:=(placeV_none p ws).2 HQ.out
          have HEN2:Hid (buildA (vs.take (n + 1))=(ws ++ [p],at_ ++ [(ws.length:Int)])):=by
            unfold Hid
            rw [HEN.out,hpk,if_pos rfl]
          clear hpk HEN HQ HI HC hki c2
          obtain ⟨v0,v1,v2,v3⟩:=HVW.out.below HM.out.below
          go_upto_region 11 with (first
            | (go_at_call 27;refine (T3.out _).mono ?_;rintro e w5 ⟨rfl,hb⟩;replace HM:=Lib.hid (HM.out.more hb);clear hb)
            | (at_builtin;refine wp_val HM.out.words HM.out.below.size HWB.out rfl _ _ rfl p rfl rfl ?_;intro aw' cw' u6 ho hf _;replace HM:=Lib.hid (HM.out.val ho hf);clear ho hf))
          go_wp2_with (at_builtin;refine wp_num HM.out.nums HM.out.below.size HIB.out rfl _ _ rfl (ws.length:Int) rfl rfl ?_;intro ai' ci' u7 ho hf;have HFIN:=Lib.hid (HM.out.num (vs:=vs) ho hf HEN2.out);clear ho hf)
          go_roundw
          case rel => exact ⟨n + 1,cw',ci',aw',ai',ws ++ [p],at_ ++ [(ws.length:Int)],c,by go_num,by simp,by simp,HFIN⟩
          case measure => simp [intOf];omega
    · obtain rfl:n=vs.length:=by omega
      have hR:R=(ws,at_):=by rw [HR.out,← HC.out.is,List.take_length]
      subst hR
      clear c
      go_wp2
      go_ret2
      exact ⟨aw,cw,ai,ci,rfl,HC.out.words,HC.out.nums,HC.out.below⟩
end Go.Proofs.YtfbmlefhjoblbaaGreat
