/- Spaces and remarks left out: a claim is at most so large. -/
import Derived.Test.YtfbmlefhjoblbaaGreatFmGz
import Derived.Test.YtfbmlefhjoblbaaGreatDatLGz
import Derived.Test.YtfbmlefhjoblbaaGreatPutGGz
import Derived.Test.YtfbmlefhjoblbaaGreatStatRGz
import Derived.Test.YtfbmlefhjoblbaaGreatStatFGz
import Derived.Test.YtfbmlefhjoblbaaGreatQeGz
import Derived.Handy
import Derived.Test.YtfbmlefhjoblbaaGreatOpenGz
namespace Go.Proofs.YtfbmlefhjoblbaaGreat
open Go.Conc Go.RowKit
set_option linter.unusedVariables false
set_option linter.unusedSimpArgs false
set_option maxRecDepth 100000 in
theorem cellput_null (i:Int) (b:Bool) (s:ByteArray) (w:World) :
    Calls Tryz.prog 136 #[.agg #[.int .i64 0,.int .i64 i,.bool b,.string s]] w fun e w' => e=.returned (.string ByteArray.empty)∧Below w.heap.size w w':=by
  go_enter Tryz.func136,Tryz.ntmps136
  go_wp2
  go_ret
  exact ⟨rfl,(Below.refl _ _).alloc (Nat.le_refl _) _⟩
set_option maxRecDepth 100000 in
set_option maxHeartbeats 4000000 in
theorem filebound_any (v:V) (hb:BdIn v) (w:World) :
    Calls Tryz.prog 104 #[.agg #[.int .i64 v.k,.int .i64 v.i,.bool v.b,.string v.s]] w fun e w' => e=.returned (.string (textB (boundB v)))∧Below w.heap.size w w':=by
  obtain ⟨X,hX,hXz,TP⟩:∃ X:ByteArray,textB (boundB v)=textB [u8 v.k.toNat] ++ X∧X.size≤1000∧Hid (∀ u,Calls Tryz.prog 136 #[.agg #[.int .i64 v.k,.int .i64 v.i,.bool v.b,.string v.s]] u fun e w' => e=.returned (.string X)∧Below u.heap.size u w'):=by
    have hl:=boundB_len hb
    obtain ⟨⟨i0,i1⟩,⟨k0,k3⟩,hs⟩:=hb
    by_cases c:v.k=0
    · obtain ⟨k,i,b,s⟩:=v
      simp only at c
      subst c
      refine ⟨ByteArray.empty,?_,Nat.zero_le _,fun u => cellput_null i b s u⟩
      have e:boundB ⟨0,i,b,s⟩=[u8 0]:=if_pos rfl
      rw [e]
      rfl
    · have hk:kindV v=v.k:=kindV_in ⟨k0,k3⟩
      have e:boundB v=u8 v.k.toNat :: plainB v:=by unfold boundB;rw [if_neg (by rw [hk];exact c)]
      refine ⟨textB (plainB v),?_,?_,fun u => cellput_any v (by omega) i0 i1 (by omega) u⟩
      · rw [e,← textB_append];rfl
      · rw [e,List.length_cons] at hl
        rw [textB_size];omega
  have hk:=hb.k
  obtain ⟨k,i,b,s⟩:=v
  simp only at hk hX TP ⊢
  rw [hX]
  have hone:(textB [u8 k.toNat]).size=1:=textB_size _
  have hl1:¬ 9223372036854775807 < (textB [u8 k.toNat]).size + X.size:=by omega
  have HBY:Hid (∀ j (h:j < [u8 k.toNat].length),(#[Value.int .u8 k]:Array Value)[j]? = some (.int .u8 ([u8 k.toNat][j].toNat:Int))):=fun j h => by
    have:j=0:=by simp at h;omega
    subst this
    show some (Value.int .u8 k)=some (.int .u8 ((u8 k.toNat).toNat:Int))
    rw [u8_toNat _ (by omega),Int.toNat_of_nonneg hk.1]
  have hwr:IntKind.u8.wrap k=k:=by rw [IntKind.wrap_u8];omega
  have hbx:Slot (w.alloc (.cells #[.int .i64 k,.int .i64 i,.bool b,.string s] 24)) w.heap.size ⟨k,i,b,s⟩:=Slot.new w ⟨k,i,b,s⟩
  have hb0:Below w.heap.size w (w.alloc (.cells #[.int .i64 k,.int .i64 i,.bool b,.string s] 24)):=(Below.refl _ _).alloc (Nat.le_refl _) _
  have HX:=Lib.hid hbx
  have HB:=Lib.hid hb0
  clear hbx hb0 hX hXz hb hk
  obtain ⟨xb,hxb⟩:∃ xb,xb=textB [u8 k.toNat]:=⟨_,rfl⟩
  have HXB:=Lib.hid hxb
  rw [← hxb] at hl1 ⊢
  clear hxb hone
  go_enter Tryz.func104,Tryz.ntmps104
  go_upto_region 1 with fail
  generalize w.alloc (.cells #[.int .i64 k,.int .i64 i,.bool b,.string s] 24)=u1 at *
  obtain ⟨⟨a0,a1,a2,a3⟩,_⟩:=(HX.out).at
  (try simp only at a0 a1 a2 a3)
  obtain ⟨⟨b0,b1,b2,b3⟩,_⟩:=(HX.out.alloc (.cells #[.int .u8 k] 5)).at
  (try simp only at b0 b1 b2 b3)
  have HAL:Hid (Below u1.heap.size u1 (u1.alloc (.cells #[.int .u8 k] 5))):=(Below.refl _ _).alloc (Nat.le_refl _) _
  have hnb:(u1.alloc (.cells #[.int .u8 k] 5)).heap[u1.heap.size]? = some (.cells #[.int .u8 k] 5 (0,0)):=heap_alloc_new u1 _
  have HNB:=Lib.hid hnb
  have hcv1:=arr_back (u1.alloc (.cells #[.int .u8 k] 5)).drew u1.heap.size [u8 k.toNat] _ _ hnb HBY.out 1 1 rfl
  rw [← HXB.out] at hcv1
  have HLT:=Lib.hid HX.out.lt
  clear hnb
  go_region_law (first
    | (go_simp;go_at_call 136;refine (TP.out (u1.alloc (.cells #[.int .u8 k] 5)).drew).mono ?_;rintro e w6 ⟨rfl,hb6⟩;have HW:=Lib.hid (HB.out.trans ((HAL.out.drew.trans (hb6.mono HAL.out.size)).mono HB.out.size));have hcv6:=arr_back w6 u1.heap.size [u8 k.toNat] _ _ ((hb6.block u1.heap.size (by simp)).trans HNB.out) HBY.out 1 1 rfl;rw [← HXB.out] at hcv6;clear hb6)
    | (go_simp;go_at_call 136;refine (TP.out u1.drew).mono ?_;rintro e w6 ⟨rfl,hb6⟩;have HW0:=Lib.hid (show Below u1.heap.size u1 w6 from ⟨hb6.os,hb6.tape,hb6.output,hb6.size,hb6.block⟩);have HW:=Lib.hid (HB.out.trans ((HW0.out.alloc HW0.out.size (.cells #[.int .u8 k] 5)).mono HB.out.size));have hcv6:=arr_back (w6.alloc (.cells #[.int .u8 k] 5)) w6.heap.size [u8 k.toNat] _ _ (heap_alloc_new w6 _) HBY.out 1 1 rfl;rw [← HXB.out] at hcv6;obtain ⟨⟨d0,d1,d2,d3⟩,_⟩:=((HX.out.below HW0.out).alloc (.cells #[.int .u8 k] 5)).at;(try simp only at d0 d1 d2 d3);obtain ⟨⟨e0,e1,e2,e3⟩,_⟩:=(HX.out.below HW0.out).at;(try simp only at e0 e1 e2 e3);clear hb6))
  all_goals (
    go_wp2
    go_ret
    exact ⟨rfl,HW.out⟩)
def blockP (n:Int) (c:Co) (r:List V):Prop:=(c.nm=ByteArray.empty∧(r.length:Int)=n)∧(colPut c.kd r).2.2=0
instance instBlockP (n:Int) (c:Co) (r:List V):Decidable (blockP n c r):=by unfold blockP;exact inferInstance
def blockS (n:Int) (c:Co) (r:List V):ByteArray:=if c.nm=ByteArray.empty∧(r.length:Int)=n then (colPut c.kd r).1 else ByteArray.empty
theorem blockS_yes {n:Int} {c:Co} {r:List V} (h:blockP n c r):blockS n c r=(colPut c.kd r).1:=if_pos h.1
set_option maxRecDepth 100000 in
set_option maxHeartbeats 2000000 in
theorem blockof_any (w:World) (c:Co) (a:Option Addr) (cap:Nat) (r:List V) (n:Int) (ha:IsV w a r) (hl:r.length≤9223372036854775807) (hf:Fine r) :
    Calls Tryz.prog 103 #[.agg #[.int .i64 c.id,.string c.nm,.int .i64 c.kd],.slice a r.length cap,.int .i64 n] w fun e w' => e=.returned (.tuple #[.string (blockS n c r),.bool (decide (blockP n c r))])∧Below w.heap.size w w':=by
  obtain ⟨u,hu⟩:∃ u,u=w.alloc (.cells #[.int .i64 c.id,.string c.nm,.int .i64 c.kd] 80):=⟨_,rfl⟩
  have hs0:CSlot u w.heap.size c:=by rw [hu];exact CSlot.new w c
  have hb0:Below w.heap.size w u:=by rw [hu];exact (Below.refl _ _).alloc (Nat.le_refl _) _
  obtain ⟨⟨c0,c1,c2⟩,_⟩:=hs0.at
  have HB:=Lib.hid hb0
  have T:=Lib.hid (fun (v:World) (hv:Below w.heap.size w v) => vecput_any v c.kd a cap r (ha.below hv) hl hf)
  by_cases cN:c.nm=ByteArray.empty
  · have dD:(c.nm.toList == [])=true:=by rw [cN,ByteArray.toList_eq];rfl
    have dD2:(c.nm.toList != [])=false:=by rw [cN,ByteArray.toList_eq];rfl
    by_cases cE:(r.length:Int)=n
    · have dE:((r.length:Int) != n)=false:=by simpa using cE
      have hP:decide (blockP n c r)=decide ((colPut c.kd r).2.2=0):=decide_eq_decide.2 ⟨fun h => h.2,fun h => ⟨⟨cN,cE⟩,h⟩⟩
      have hS:blockS n c r=(colPut c.kd r).1:=if_pos ⟨cN,cE⟩
      rw [hP,hS]
      have hq:decide ((colPut c.kd r).2.2=0)=((colPut c.kd r).2.2 == 0):=rfl
      rw [hq]
      clear hP hS hq hs0 hb0 cN cE ha hf
      generalize (colPut c.kd r).2.2=E at *
      generalize (colPut c.kd r).1=x at *
      go_enter Tryz.func103,Tryz.ntmps103
      go_upto_region 1 with fail
      rw [← hu]
      clear hu
      go_wp2_with (go_at_call 14;refine (T.out _ HB.out).mono ?_;rintro e w1 ⟨rfl,hb⟩;have HB1:=Lib.hid (HB.out.trans (hb.mono HB.out.size));clear hb)
      go_ret2
      exact ⟨rfl,HB1.out⟩
    · have dE:((r.length:Int) != n)=true:=by simpa using cE
      rw [decide_eq_false (fun h:blockP n c r => cE h.1.2),show blockS n c r=ByteArray.empty from if_neg fun h => cE h.2]
      clear hs0 hb0 cN cE T ha hf
      go_enter Tryz.func103,Tryz.ntmps103
      go_upto_region 1 with fail
      rw [← hu]
      clear hu
      go_wp2
      go_ret2
      exact ⟨rfl,HB.out⟩
  · have dD:(c.nm.toList == [])=false:=by
      rw [beq_eq_false_iff_ne]
      intro h
      exact cN (text_inj (by rw [h,ByteArray.toList_eq];rfl))
    have dD2:(c.nm.toList != [])=true:=by rw [bne,dD];rfl
    rw [decide_eq_false (fun h:blockP n c r => cN h.1.1),show blockS n c r=ByteArray.empty from if_neg fun h => cN h.1]
    clear hs0 hb0 cN T ha hf
    go_enter Tryz.func103,Tryz.ntmps103
    go_upto_region 1 with fail
    rw [← hu]
    clear hu
    go_wp2
    go_ret2
    exact ⟨rfl,HB.out⟩
set_option maxRecDepth 100000 in
set_option maxHeartbeats 4000000 in
theorem fileblocks_any (w:World) (p:DaAt) (d:Da) (hd:DaIs w p d) (hf:∀ r ∈ d.rs,r.length≤9223372036854775807∧Fine r) :
    Calls Tryz.prog 67 #[.agg #[.int .i64 d.n,.slice p.ac d.cs.length p.kc,.slice p.ar d.rs.length p.kr]] w fun e w' => ∃ a c L,e=.returned (.tuple #[.slice a L.length c,.bool (mayA d)])∧(mayA d=true→L=blocksA d.cs d.rs)∧OwnT w.heap.size w' a c L∧Below w.heap.size w w':=by
  obtain ⟨ac,kc,ar,kr⟩:=p
  simp only at *
  obtain ⟨R,hR⟩:∃ R,R=mayA d:=⟨_,rfl⟩
  have hno:¬ ((1≤d.cs.length∧d.cs.length≤12)∧d.rs.length=d.cs.length)→R=false:=fun h => by rw [hR,← Bool.not_eq_true];exact fun e => h (may_len e)
  have hbad:∀ n,n < d.cs.length→¬ okP d n→R=false:=fun n hn h => hR.trans (may_bad hn (okP_no h))
  have hgood:((1≤d.cs.length∧d.cs.length≤12)∧d.rs.length=d.cs.length)→(∀ n,n < d.cs.length→okAt d n=true)→R=true:=fun h ha => hR.trans (may_P h ha)
  rw [← hR]
  clear hR
  obtain ⟨u,hu⟩:∃ u,u=w.alloc (.cells #[.int .i64 d.n,.slice ac d.cs.length kc,.slice ar d.rs.length kr] 55):=⟨_,rfl⟩
  have hs0:DSlot u w.heap.size ⟨ac,kc,ar,kr⟩ d:=by rw [hu];exact DSlot.new w ⟨ac,kc,ar,kr⟩ d
  have hb0:Below w.heap.size w u:=by rw [hu];exact (Below.refl _ _).alloc (Nat.le_refl _) _
  have HD:=Lib.hid (hd.below hb0)
  have HS:=Lib.hid hs0
  have HB0:=Lib.hid hb0
  have HF:=Lib.hid hf
  have HNO:=Lib.hid hno
  have HBAD:=Lib.hid hbad
  have HGOOD:=Lib.hid hgood
  clear hs0 hb0 hd hf hno hbad hgood
  obtain ⟨b0,b1,b2⟩:=HS.out.at
  simp only at b0 b1 b2
  by_cases hh:(1≤d.cs.length∧d.cs.length≤12)∧d.rs.length=d.cs.length
  · have HH:=Lib.hid hh
    obtain ⟨⟨g3,g4⟩,g5⟩:=hh
    have g3':decide ((d.cs.length:Int) < 1)=false:=decide_eq_false (by omega)
    have g4':decide ((12:Int) < (d.cs.length:Int))=false:=decide_eq_false (by omega)
    have g5':((d.rs.length:Int) != (d.cs.length:Int))=false:=by simp;omega
    have G5:=Lib.hid g5
    clear g5
    go_enter Tryz.func67,Tryz.ntmps67
    go_upto_region 1 with fail
    rw [← hu]
    clear hu
    go_wp2
    clear b0 b1 b2 g3' g4' g5'
    go_loopw [5,6,30] (fun av lv iv wr => ∃ (n:Nat) (a:Option Addr) (c:Nat),n≤d.cs.length∧iv=.int .i64 n∧lv=.int .i64 (lastId d n)∧av=.slice a (blocksA (d.cs.take n) (d.rs.take n)).length c∧Hid (∀ m,m < n→okAt d m=true)∧Hid (OwnT u.heap.size wr a c (blocksA (d.cs.take n) (d.rs.take n)))∧Hid (Below u.heap.size u wr)) (fun av lv iv _ => d.cs.length - (intOf iv).toNat)
    case atStart => exact ⟨0,none,0,Nat.zero_le _,rfl,rfl,rfl,fun m hm => absurd hm (Nat.not_lt_zero m),OwnT.nil _ _,Below.refl _ _⟩
    case round =>
      obtain ⟨n,a,c,hle,rfl,rfl,rfl,HOK,HW,HB⟩:=hrel
      by_cases cn:n < d.cs.length
      · have cr:n < d.rs.length:=by have:=G5.out;omega
        have hcc:=HD.out.c
        have hrr:=HD.out.r
        rcases hcc with e | ⟨bc,oc,rfl,hcc⟩
        · rw [e] at cn;simp at cn
        rcases hrr with e2 | ⟨br,orr,rfl,hrr⟩
        · rw [e2] at cr;simp at cr
        have hco:=(hcc n cn).below HB.out
        obtain ⟨ur,hpr,ax,kx,rfl,vx,nx⟩:=hrr n cr
        have hfr:=HF.out _ (List.getElem_mem cr)
        have hrow:wr.cell? ⟨br,orr + n,none⟩=some (.slice ax d.rs[n].length kx):=(World.cell?_of_block (HB.out.block br (World.block_lt_of_cell? u ⟨br,orr + n,none⟩ hpr))).trans hpr
        have hgc:d.cs.getD n zeroCo=d.cs[n]:=getD_in cn
        have hgr:d.rs.getD n []=d.rs[n]:=getD_in cr
        have hokp:okP d n ↔ (blockP d.n d.cs[n] d.rs[n]∧lastId d n < d.cs[n].id):=by unfold okP blockP;rw [hgc,hgr];exact ⟨fun h => ⟨⟨h.1,h.2.1⟩,h.2.2⟩,fun h => ⟨h.1.1,h.1.2,h.2⟩⟩
        have hlast:lastId d (n + 1)=d.cs[n].id:=by unfold lastId;rw [if_neg (by omega),show n + 1 - 1=n by omega,hgc]
        have htk:=blocksA_take cn cr
        have hbl:=blocksA_len (cs:=d.cs) (rs:=d.rs) (n:=n) hle (by omega)
        have HBN:=Lib.hid (HBAD.out n cn)
        have T:=Lib.hid (fun (v:World) (hv:Below wr.heap.size wr v) => blockof_any v d.cs[n] ax kx d.rs[n] d.n ((vx.below HB.out).below hv) hfr.1 hfr.2)
        obtain ⟨c0,c1,c2⟩:=hco
        have HOKP:=Lib.hid hokp
        have HLAST:=Lib.hid hlast
        have HTK:=Lib.hid htk
        have HBL:=Lib.hid hbl
        have hni:(n:Int) < (d.cs.length:Int):=by omega
        have hnr:(n:Int) < (d.rs.length:Int):=by omega
        have hS:=fun h:blockP d.n d.cs[n] d.rs[n] => blockS_yes h
        have HS2:=Lib.hid hS
        clear hcc hrr hpr vx nx hfr hgc hgr hokp hlast htk hbl hS
        generalize d.cs[n]=cc at *
        generalize d.rs[n]=rr at *
        generalize lastId d n=la at *
        go_upto_region 9 with fail
        obtain ⟨u9,hu9⟩:∃ u9,u9=wr.alloc (.cells #[.int .i64 cc.id,.string cc.nm,.int .i64 cc.kd] 80):=⟨_,rfl⟩
        rw [← hu9]
        have hb9:Below wr.heap.size wr u9:=by rw [hu9];exact (Below.refl _ _).alloc (Nat.le_refl _) _
        have hc9:CSlot u9 wr.heap.size cc:=by rw [hu9];exact CSlot.new wr cc
        have HC9:=Lib.hid hc9
        have HB9:=Lib.hid hb9
        have HROW:=Lib.hid hrow
        clear hu9 hc9 hb9 c0 c1 c2 hrow
        have HR0:Hid (∀ v,Below wr.heap.size wr v→v.cell? ⟨br,orr + n,none⟩=some (.slice ax rr.length kx)):=fun v hv => (World.cell?_of_block (hv.block br (World.block_lt_of_cell? wr ⟨br,orr + n,none⟩ HROW.out))).trans HROW.out
        have HSR:=Lib.hid (HS.out.below HB.out)
        obtain ⟨gc,hgc⟩:∃ gc,gc=wr.heap.size:=⟨_,rfl⟩
        have HGC:=Lib.hid hgc
        rw [← hgc] at HC9 ⊢
        clear hgc HROW
        refine region_class (fun w' => Below u9.heap.size u9 w') (by kernel_rfl) (by kernel_rfl) (Below.refl _ _).drew ?_
        repeat (
          refine wpQuiet_step (fun K9 hK => ?_)
          go_simp
          first
          | (refine hK _ ?_;clear hK K9)
          | (apply Exists.intro
             refine ⟨fun w1 hw1 => ?_,hK _ ?_⟩
             (first
               | (exact rfl)
               | (go_at_call 103;exact (T.out _ (HB9.out.trans (hw1.mono HB9.out.size))).mono fun e w2 ⟨he,hb⟩ => ⟨he,hw1.trans (hb.mono hw1.size)⟩)
               | (obtain ⟨⟨c0,c1,c2⟩,_⟩:=(HC9.out.below hw1).at;simp only [c0,c1,c2,Result.andThen];exact ⟨trivial,rfl⟩)
               | (obtain ⟨b0,b1,b2⟩:=(HSR.out.below (HB9.out.trans (hw1.mono HB9.out.size))).at;simp only at b0 b1 b2;simp only [b0,b1,b2,Result.andThen];exact ⟨trivial,rfl⟩)
               | (have r0:=HR0.out _ (HB9.out.trans (hw1.mono HB9.out.size));simp only [r0,Result.andThen];exact ⟨trivial,rfl⟩)
               | (exact ⟨trivial,rfl⟩))
             clear hK K9))
        refine wpQuiet_nil ?_
        intro w1 hw1
        have HC1:=Lib.hid (HC9.out.below hw1)
        have HX1:=Lib.hid (HB9.out.trans (hw1.mono HB9.out.size))
        have HW1:=Lib.hid (HW.out.below HX1.out)
        have HB1:=Lib.hid (HB.out.trans (HX1.out.mono HB.out.size))
        have HAG:Hid (∀ k,At a k→k < gc):=fun k hk => by rw [HGC.out];exact (HW.out.at_ge hk).2
        clear hw1 T HR0 HSR HC9 HB9 HW HB
        obtain ⟨⟨c0,c1,c2⟩,_⟩:=HC1.out.at
        by_cases hP:blockP d.n cc rr
        · have dP:decide (blockP d.n cc rr)=true:=decide_eq_true hP
          by_cases hI:la < cc.id
          · have dI:decide (cc.id≤la)=false:=decide_eq_false (by omega)
            have hok:=okP_yes (HOKP.out.2 ⟨hP,hI⟩) HOK.out
            have hokS:Hid (∀ m,m < n + 1→okAt d m=true):=fun m hm => by
              by_cases e:m=n
              · rw [e];exact hok
              · exact HOK.out m (by omega)
            have hbs:=HS2.out hP
            have hz1:u.heap.size≤w1.heap.size:=HB1.out.size
            have hz2:(blocksA (d.cs.take n) (d.rs.take n)).length≤12:=by rw [HBL.out];omega
            clear hok HBN
            generalize blockS d.n cc rr=bs at *
            rw [hbs] at *
            go_wp2_with (at_builtin;refine wp_text HW1.out hz1 (by omega) rfl _ _ rfl (colPut cc.kd rr).1 rfl rfl ?_;intro a' c' w2 hx hf hnew;have HB2:=Lib.hid (Frm.to_below HB1.out hf (fun k hk => (HW1.out.at_ge hk).1) (Nat.le_refl _));have HW2:=Lib.hid hx;have hc2:=HC1.out.same (hf.block gc HC1.out.lt (fun hk => by have:=HAG.out gc hk;omega));clear c0 c1 c2;obtain ⟨⟨c0,c1,c2⟩,_⟩:=hc2.at;clear hx hf hnew hz1 hz2 HW1 HB1 hc2)
            go_roundw
            case rel => exact ⟨n + 1,a',c',by omega,by go_num,by rw [HLAST.out],by rw [HTK.out];simp,hokS,by rw [HTK.out];exact HW2,HB2⟩
            case measure => simp [intOf];omega
          · have dI:decide (cc.id≤la)=true:=decide_eq_true (by omega)
            have hRf:R=false:=HBN.out fun h => hI (HOKP.out.1 h).2
            subst hRf
            clear HBN
            go_wp2
            go_ret2
            exact ⟨none,0,[],rfl,OwnT.nil _ _,HB0.out.trans (HB1.out.mono HB0.out.size)⟩
        · have dP:decide (blockP d.n cc rr)=false:=decide_eq_false hP
          have hRf:R=false:=HBN.out fun h => hP (HOKP.out.1 h).1
          subst hRf
          clear HBN
          go_wp2
          go_ret2
          exact ⟨none,0,[],rfl,OwnT.nil _ _,HB0.out.trans (HB1.out.mono HB0.out.size)⟩
      · obtain rfl:n=d.cs.length:=by omega
        have hRt:R=true:=HGOOD.out HH.out HOK.out
        subst hRt
        have hfin:blocksA (d.cs.take d.cs.length) (d.rs.take d.cs.length)=blocksA d.cs d.rs:=by
          unfold blocksA;rw [List.take_length,zip_take]
        rw [hfin] at HW
        have hbl:=blocksA_len (cs:=d.cs) (rs:=d.rs) (n:=d.cs.length) (Nat.le_refl _) (by have:=G5.out;omega)
        clear cn
        go_wp2
        go_ret2
        have hfin2:blocksA d.cs (d.rs.take d.cs.length)=blocksA d.cs d.rs:=by unfold blocksA;rw [zip_take]
        exact ⟨a,c,blocksA d.cs d.rs,by show Ending.returned (.tuple #[.slice a (blocksA d.cs (d.rs.take d.cs.length)).length c,.bool true])=_;rw [hfin2],rfl,OwnT.lower HW.out HB0.out.size,HB0.out.trans (HB.out.mono HB0.out.size)⟩
  · have hRf:R=false:=HNO.out hh
    subst hRf
    clear HNO HBAD HGOOD
    go_enter Tryz.func67,Tryz.ntmps67
    go_upto_region 1 with fail
    rw [← hu]
    clear hu
    by_cases h1:d.cs.length < 1
    · have d1:decide ((d.cs.length:Int) < 1)=true:=decide_eq_true (by omega)
      go_wp2
      go_ret2
      exact ⟨none,0,[],rfl,(fun h => Bool.noConfusion h),OwnT.nil _ _,HB0.out⟩
    · have d1:decide ((d.cs.length:Int) < 1)=false:=decide_eq_false (by omega)
      by_cases h2:12 < d.cs.length
      · have d2:decide ((12:Int) < (d.cs.length:Int))=true:=decide_eq_true (by omega)
        go_wp2
        go_ret2
        exact ⟨none,0,[],rfl,(fun h => Bool.noConfusion h),OwnT.nil _ _,HB0.out⟩
      · have d2:decide ((12:Int) < (d.cs.length:Int))=false:=decide_eq_false (by omega)
        have d3:((d.rs.length:Int) != (d.cs.length:Int))=true:=by simp;omega
        go_wp2
        go_ret2
        exact ⟨none,0,[],rfl,(fun h => Bool.noConfusion h),OwnT.nil _ _,HB0.out⟩
end Go.Proofs.YtfbmlefhjoblbaaGreat
namespace Go.Proofs.YtfbmlefhjoblbaaGreat
open Go.Conc Go.RowKit
set_option linter.unusedVariables false
set_option linter.unusedSimpArgs false
set_option maxRecDepth 100000 in
set_option maxHeartbeats 2000000 in
theorem fileeach_any (w:World) (p:DaAt) (d:Da) (hd:DaIs w p d) (hl:d.cs.length≤d.rs.length) (h1:d.cs.length≤1000000) (h2:∀ r ∈ d.rs,r.length≤140737488355328∧∀ v ∈ r,v.s.size≤140737488351232) :
    Calls Tryz.prog 71 #[.agg #[.int .i64 d.n,.slice p.ac d.cs.length p.kc,.slice p.ar d.rs.length p.kr]] w fun e w' => ∃ a c,e=.returned (.slice a d.cs.length c)∧OwnS w.heap.size w' a c (statsA d.cs d.rs)∧Below w.heap.size w w':=by
  obtain ⟨ac,kc,ar,kr⟩:=p
  simp only at *
  have hfin:statsA (d.cs.take d.cs.length) (d.rs.take d.cs.length)=statsA d.cs d.rs:=by
    unfold statsA
    rw [List.take_length,zip_take]
  have HFIN:=Lib.hid hfin
  obtain ⟨u,hu⟩:∃ u,u=w.alloc (.cells #[.int .i64 d.n,.slice ac d.cs.length kc,.slice ar d.rs.length kr] 55):=⟨_,rfl⟩
  have hs0:DSlot u w.heap.size ⟨ac,kc,ar,kr⟩ d:=by rw [hu];exact DSlot.new w ⟨ac,kc,ar,kr⟩ d
  have hb0:Below w.heap.size w u:=by rw [hu];exact (Below.refl _ _).alloc (Nat.le_refl _) _
  have HD:=Lib.hid (hd.below hb0)
  have HS:=Lib.hid hs0
  have HB0:=Lib.hid hb0
  have H2:=Lib.hid h2
  obtain ⟨b0,b1,b2⟩:=hs0.at
  simp only at b0 b1 b2
  clear hfin hs0 hb0 hd h2
  go_enter Tryz.func71,Tryz.ntmps71
  go_upto_region 1 with fail
  rw [← hu]
  clear hu
  go_wp2
  clear b0 b1 b2
  go_loopw [3,9] (fun ov iv wr => ∃ (n:Nat) (a:Option Addr) (c:Nat),n≤d.cs.length∧iv=.int .i64 n∧ov=.slice a (statsA (d.cs.take n) (d.rs.take n)).length c∧Hid (OwnS u.heap.size wr a c (statsA (d.cs.take n) (d.rs.take n)))∧Hid (Below u.heap.size u wr)) (fun ov iv _ => d.cs.length - (intOf iv).toNat)
  case atStart => exact ⟨0,none,0,Nat.zero_le _,rfl,rfl,OwnS.nil _ _,Below.refl _ _⟩
  case round =>
    obtain ⟨n,a,c,hle,rfl,rfl,HW,HB⟩:=hrel
    by_cases cn:n < d.cs.length
    · have hcc:=HD.out.c
      have hrr:=HD.out.r
      rcases hcc with e | ⟨bc,oc,rfl,hcc⟩
      · rw [e] at cn;simp at cn
      rcases hrr with e2 | ⟨br,orr,rfl,hrr⟩
      · rw [e2] at hl;simp at hl;rw [hl] at cn;simp at cn
      have cr:n < d.rs.length:=by omega
      have hco:=(hcc n cn).below HB.out
      obtain ⟨ur,hpr,ax,kx,rfl,vx,nx⟩:=hrr n cr
      have hrz:=H2.out _ (List.getElem_mem cr)
      have htk:=statsA_take cn cr
      have hsl:=statsA_len (cs:=d.cs) (rs:=d.rs) (n:=n) hle (by omega)
      have HTK:=Lib.hid htk
      have HSL:=Lib.hid hsl
      clear hsl
      have hni:(n:Int) < (d.cs.length:Int):=by omega
      have hnr:(n:Int) < (d.rs.length:Int):=by omega
      have T:=Lib.hid (fun (v:World) (hv:Below wr.heap.size wr v) => statof_any d.cs[n].id ax kx d.rs[n] v ((vx.below HB.out).below hv) hrz.1 hrz.2)
      have hpr2:wr.cell? ⟨br,orr + n,none⟩=some (.slice ax d.rs[n].length kx):=(World.cell?_of_block (HB.out.block br (World.block_lt_of_cell? u ⟨br,orr + n,none⟩ hpr))).trans hpr
      have hR0:∀ v,Below wr.heap.size wr v→v.cell? ⟨br,orr + n,none⟩=some (.slice ax d.rs[n].length kx):=fun v hv => (World.cell?_of_block (hv.block br (World.block_lt_of_cell? wr ⟨br,orr + n,none⟩ hpr2))).trans hpr2
      have HR0:=Lib.hid hR0
      have HSR:=Lib.hid (HS.out.below HB.out)
      obtain ⟨c0,c1,c2⟩:=hco
      clear hcc hrr hpr vx nx hrz htk hpr2 hR0
      generalize d.rs[n]=rr at *
      generalize d.cs[n]=cc at *
      go_upto_region 5 with fail
      obtain ⟨u9,hu9⟩:∃ u9,u9=wr.alloc (.cells #[.int .i64 cc.id,.string cc.nm,.int .i64 cc.kd] 80):=⟨_,rfl⟩
      rw [← hu9]
      have hb9:Below wr.heap.size wr u9:=by rw [hu9];exact (Below.refl _ _).alloc (Nat.le_refl _) _
      have hc9:CSlot u9 wr.heap.size cc:=by rw [hu9];exact CSlot.new wr cc
      have HC9:=Lib.hid hc9
      have HB9:=Lib.hid hb9
      clear hu9 hc9 hb9 c0 c1 c2
      obtain ⟨gc,hgc⟩:∃ gc,gc=wr.heap.size:=⟨_,rfl⟩
      rw [← hgc] at HC9 ⊢
      clear hgc
      refine wp_region_any (by kernel_rfl) ?_
      change wpAny _ _ _ _ _ _ _ (World.drew _)
      refine wpAny_take (i:=0) (v:=.slice a (statsA (d.cs.take n) (d.rs.take n)).length c) rfl (by kernel_rfl) (by kernel_rfl) (by kernel_rfl) (fun _ _ _ h => h) (Or.inl ⟨by rfl,fun w => ?_⟩) ?_
      · go_simp
      try simp only [Go.Act.put,List.setIfInBounds_toArray,List.set_cons_zero,List.set_cons_succ]
      refine any_late (fun w' => Below u9.heap.size u9 w') 1 10 (by kernel_rfl) (by kernel_rfl) (by kernel_rfl) (Below.refl _ _).drew ?_
      simp only [List.take_succ_cons,List.take_zero,List.drop_succ_cons,List.drop_zero]
      repeat (
        refine wpQuiet_step (fun K9 hK => ?_)
        go_simp
        first
        | (refine hK _ ?_;clear hK K9)
        | (apply Exists.intro
           refine ⟨fun w1 hw1 => ?_,hK _ ?_⟩
           (first
             | (exact rfl)
             | (go_at_call 108;exact (T.out _ (HB9.out.trans (hw1.mono HB9.out.size))).mono fun e w2 ⟨he,hb⟩ => ⟨he,hw1.trans (hb.mono hw1.size)⟩)
             | (obtain ⟨⟨c0,c1,c2⟩,_⟩:=(HC9.out.below hw1).at;simp only [c0,c1,c2,Result.andThen];exact ⟨trivial,rfl⟩)
             | (obtain ⟨b0,b1,b2⟩:=(HSR.out.below (HB9.out.trans (hw1.mono HB9.out.size))).at;simp only at b0 b1 b2;simp only [b0,b1,b2,Result.andThen];exact ⟨trivial,rfl⟩)
             | (have r0:=HR0.out _ (HB9.out.trans (hw1.mono HB9.out.size));simp only [r0,Result.andThen];exact ⟨trivial,rfl⟩)
             | (exact ⟨trivial,rfl⟩))
           clear hK K9))
      refine wpQuiet_nil ?_
      intro w1 hw1
      have HX1:=Lib.hid (HB9.out.trans (hw1.mono HB9.out.size))
      have HW1:=Lib.hid (HW.out.below HX1.out)
      have HB1:=Lib.hid (HB.out.trans (HX1.out.mono HB.out.size))
      have hz1:u.heap.size≤w1.heap.size:=HB1.out.size
      have hz2:(statsA (d.cs.take n) (d.rs.take n)).length≤1000000:=by rw [HSL.out];omega
      clear hw1 HW HB T HR0 HSR HX1
      go_wp2_with (at_builtin;refine wp_stat HW1.out hz1 (by omega) rfl _ _ rfl (ofA cc.id rr) rfl rfl ?_;intro a' c' w2 hx hf hnew;have HB2:=Lib.hid (Frm.to_below HB1.out hf (fun k hk => (HW1.out.at_ge hk).1) (Nat.le_refl _));have HW2:=Lib.hid hx;clear hx hf hnew hz1 hz2 HW1 HB1)
      go_roundw
      case rel => exact ⟨n + 1,a',c',by omega,by go_num,by rw [HTK.out];simp,by rw [HTK.out];exact HW2,HB2⟩
      case measure => simp [intOf];omega
    · obtain rfl:n=d.cs.length:=by omega
      have hln:=statsA_len (cs:=d.cs) (rs:=d.rs) (n:=d.cs.length) (Nat.le_refl _) hl
      have HLN:=Lib.hid hln
      clear hln cn
      go_wp2
      go_ret
      refine ⟨a,c,by show Ending.returned (.slice a (statsA (d.cs.take d.cs.length) (d.rs.take d.cs.length)).length c)=_;rw [HLN.out],?_,HB0.out.trans (HB.out.mono HB0.out.size)⟩
      have h:=HW.out
      rw [HFIN.out] at h
      exact h.lower HB0.out.size
end Go.Proofs.YtfbmlefhjoblbaaGreat
namespace Go.Proofs.YtfbmlefhjoblbaaGreat
open Go.Conc Go.RowKit
set_option linter.unusedVariables false
set_option linter.unusedSimpArgs false
theorem colB_texts (c:Co) (r:List V):colB c r=(textB (vp c.id.toNat)).data.toList ++ [u8 c.kd.toNat] ++ (textB (vp (colPut c.kd r).1.size)).data.toList ++ (colPut c.kd r).1.data.toList:=by
  unfold colB;simp [textB]
theorem statB_texts (x:S):statB x=(textB (vp x.n.toNat)).data.toList ++ (textB (boundB x.lo)).data.toList ++ (textB (boundB x.hi)).data.toList:=by
  unfold statB;simp [textB]
theorem flatS_take (xs:List S) (n:Nat) (h:n < xs.length):(xs.take (n + 1)).flatMap statB=(xs.take n).flatMap statB ++ statB xs[n]:=by
  rw [← List.take_append_getElem h,List.flatMap_append];simp
theorem zip_in {α β:Type} {xs:List α} {ys:List β} {n:Nat} (h1:n < xs.length) (h2:n < ys.length):(xs[n],ys[n]) ∈ xs.zip ys:=by
  have h:n < (xs.zip ys).length:=by rw [List.length_zip];omega
  have:=List.getElem_mem h
  rwa [List.getElem_zip] at this
theorem mem_take_zip {α β:Type} {xs:List α} {ys:List β} {n:Nat} {x:α × β} (h:x ∈ (xs.take n).zip (ys.take n)):x ∈ xs.zip ys:=by
  obtain ⟨i,hi,rfl⟩:=List.mem_iff_getElem.1 h
  rw [List.length_zip,List.length_take,List.length_take] at hi
  rw [List.getElem_zip,List.getElem_take,List.getElem_take]
  exact zip_in (by omega) (by omega)
theorem kept_stat {b g:Nat} {w w':World} {cur:Array Value} (hk:SbKept b w w') (h:w.heap[g]? = some (.cells cur 77 (0,0))) (hb:g ≠ b):w'.heap[g]? = some (.cells cur 77 (0,0)) :=
  hk g _ h (by simpa using hb) (fun c fz e => by injection e with _ e2 _;exact absurd e2 (by decide))
theorem sb_type {B b:Nat} {l:List UInt8} {w:World} (h:SbAt B b l w):∃ c,w.heap[b]? = some (.cells c 123 (0,0)):=by
  rcases h with ⟨_,v,h2,_⟩ | ⟨_,v,h2,_⟩ <;> exact ⟨_,h2⟩
theorem head_texts (d:Da) (h0:0≤d.n):headB d=[76,75,49] ++ (textB (vp d.n.toNat)).data.toList ++ (textB (vp d.cs.length)).data.toList:=by
  unfold headB markF;simp [textB]
set_option maxRecDepth 100000 in
set_option maxHeartbeats 8000000 in
theorem filebody_any (w:World) (p:DaAt) (d:Da) (hd:DaIs w p d) (hm:mayA d=true) (hf:FinD d) (a:Option Addr) (cap:Nat) (ht:IsT w a (blocksA d.cs d.rs)) :
    Calls Tryz.prog 68 #[.agg #[.int .i64 d.n,.slice p.ac d.cs.length p.kc,.slice p.ar d.rs.length p.kr],.slice a (blocksA d.cs d.rs).length cap] w fun e w' => e=.returned (.string (textB (fileB d)))∧Below w.heap.size w w':=by
  obtain ⟨ac,kc,ar,kr⟩:=p
  simp only at *
  obtain ⟨⟨n0,n1,g3,g4,g5⟩,_⟩:=may_ok hm
  have hbl:(blocksA d.cs d.rs).length=d.cs.length:=by unfold blocksA;rw [List.length_zipWith,g5];omega
  have hsl:(statsA d.cs d.rs).length=d.cs.length:=by unfold statsA;rw [List.length_zipWith,g5];omega
  have hz:=may_zip hm
  have hin:=hf.inD.ins
  have hh:=head_texts d n0
  have hfile:=fileB_head d
  have hhl:=headB_len d
  have hcl:=fun n => colsB_len (d.cs.take n) (d.rs.take n) (fun x hx => hz x (mem_take_zip hx)) (fun r hr => hin r (List.mem_of_mem_take hr))
  have hall:=colsB_len d.cs d.rs hz hin
  have hstl:∀ n,(((statsA d.cs d.rs).take n).flatMap statB).length≤4000:=fun n => by
    have h1:=statsB_len d.cs d.rs hz hin
    have h2:(statsA d.cs d.rs).flatMap statB=((statsA d.cs d.rs).take n).flatMap statB ++ ((statsA d.cs d.rs).drop n).flatMap statB:=by rw [← List.flatMap_append,List.take_append_drop]
    rw [h2,List.length_append] at h1
    omega
  have T1:=Lib.hid (fun u => count_any d.n n0 (by omega) u)
  have T2:=Lib.hid (fun u => count_any (d.cs.length:Int) (by omega) (by omega) u)
  rw [Int.toNat_natCast] at T2
  obtain ⟨u,hu⟩:∃ u,u=w.alloc (.cells #[.int .i64 d.n,.slice ac d.cs.length kc,.slice ar d.rs.length kr] 55):=⟨_,rfl⟩
  have hs0:DSlot u w.heap.size ⟨ac,kc,ar,kr⟩ d:=by rw [hu];exact DSlot.new w ⟨ac,kc,ar,kr⟩ d
  have hb0:Below w.heap.size w u:=by rw [hu];exact (Below.refl _ _).alloc (Nat.le_refl _) _
  have hsb:BAt u (u.alloc (.cells #[.pointer none,.slice none 0 0] 123)) u.heap.size []:=⟨SbAt.new u (Nat.le_refl _),(Below.refl _ _).alloc (Nat.le_refl _) _⟩
  have HD:=Lib.hid (hd.below hb0)
  have HT:=Lib.hid (ht.below hb0)
  have HS:=Lib.hid hs0
  have HB0:=Lib.hid hb0
  have H0:=Lib.hid hsb
  have HF:=Lib.hid hf
  have HZ:=Lib.hid hz
  have HIN:=Lib.hid hin
  have HFILE:=Lib.hid hfile
  have HCL:=Lib.hid hcl
  have HALL:=Lib.hid hall
  have HSTL:=Lib.hid hstl
  have HHL:=Lib.hid hhl
  have HSL:=Lib.hid hsl
  have HH:=Lib.hid hh
  have hk1:(textB (vp d.n.toNat)).size≤10:=by rw [textB_size];exact vp_le _
  have hk2:(textB (vp d.cs.length)).size≤10:=by rw [textB_size];exact vp_le _
  have hq1:(textB (vp d.n.toNat)).data.toList.length=(textB (vp d.n.toNat)).size:=(size_list _).symm
  have HK:=Lib.hid (And.intro hk1 (And.intro hk2 hq1))
  have HMK:Hid ((⟨#[76,75,49]⟩:ByteArray).data.toList=[76,75,49]):=rfl
  have G5:=Lib.hid g5
  clear g5 hs0 hb0 hd ht hsb hf hz hin hfile hcl hall hstl hhl hsl hm hh hk1 hk2 hq1
  rw [hbl]
  clear hbl
  obtain ⟨x1,hx1⟩:∃ x1,x1=textB (vp d.n.toNat):=⟨_,rfl⟩
  obtain ⟨x2,hx2⟩:∃ x2,x2=textB (vp d.cs.length):=⟨_,rfl⟩
  rw [← hx1,← hx2] at HH
  rw [← hx1,← hx2] at HK
  rw [← hx1] at T1
  rw [← hx2] at T2
  clear hx1 hx2
  obtain ⟨b0,b1,b2⟩:=(HS.out.below H0.out.below).at
  simp only at b0 b1 b2
  go_enter Tryz.func68,Tryz.ntmps68
  go_upto_region 1 with fail
  rw [← hu]
  clear hu
  go_upto_region 2 with fail
  obtain ⟨b,hb⟩:∃ b,b=u.heap.size:=⟨_,rfl⟩
  rw [← hb] at H0 ⊢
  clear hb
  generalize u.alloc (.cells #[.pointer none,.slice none 0 0] 123)=v0 at *
  go_upto_region 3 with (go_at_call 78;refine (sbwstr_any u.heap.size b [] ⟨#[76,75,49]⟩ _ H0.out.sb (by decide) H0.out.below.size).mono ?_;rintro e v1 ⟨rfl,hs1,hb1,_⟩;have HC1:Hid (BAt u v1 b [76,75,49]):=⟨hs1,H0.out.below.trans hb1⟩;clear hs1 hb1)
  clear b0 b1 b2
  obtain ⟨b0,b1,b2⟩:=(HS.out.below HC1.out.below).at
  simp only at b0 b1 b2
  go_upto_region 4 with (first
    | (go_at_call 79;refine (T1.out _).mono ?_;rintro e v2 ⟨rfl,hb2⟩;have HC2:=Lib.hid (HC1.out.more hb2);clear hb2)
    | (go_at_call 78;refine (sbwstr_any u.heap.size b [76,75,49] x1 v2 HC2.out.sb (by have h1:=HK.out;simp only [List.length_cons,List.length_nil];omega) HC2.out.below.size).mono ?_;rintro e v3 ⟨rfl,hs3,hb3,_⟩;have HC3:Hid (BAt u v3 b ([76,75,49] ++ x1.data.toList)):=⟨hs3,HC2.out.below.trans hb3⟩;clear hs3 hb3))
  clear b0 b1 b2
  go_wp2_with (first
    | (go_at_call 79;refine (T2.out _).mono ?_;rintro e v4 ⟨rfl,hb4⟩;have HC4:=Lib.hid (HC3.out.more hb4);clear hb4)
    | (go_at_call 78;refine (sbwstr_any u.heap.size b ([76,75,49] ++ x1.data.toList) x2 v4 HC4.out.sb (by have h1:=HK.out;simp only [List.length_append,List.length_cons,List.length_nil,h1.2.2];omega) HC4.out.below.size).mono ?_;rintro e v5 ⟨rfl,hs5,hb5,_⟩;have HC5:Hid (BAt u v5 b ([76,75,49] ++ x1.data.toList ++ x2.data.toList)):=⟨hs5,HC4.out.below.trans hb5⟩;clear hs5 hb5))
  rw [← HH.out] at HC5
  clear H0 HC1 HC2 HC3 HC4 T1 T2 HH HK
  go_loopw [21] (fun iv wr => ∃ (n:Nat) (L:List UInt8),n≤d.cs.length∧iv=.int .i64 n∧Hid (L=headB d ++ colsB (d.cs.take n) (d.rs.take n))∧Hid (BAt u wr b L)) (fun iv _ => d.cs.length - (intOf iv).toNat)
  case atStart => exact ⟨0,headB d,Nat.zero_le _,rfl,by unfold Hid;simp [colsB],HC5⟩
  case round =>
    obtain ⟨n,L,hle,rfl,HL,HC⟩:=hrel
    by_cases cn:n < d.cs.length
    · have cr:n < d.rs.length:=by have:=G5.out;omega
      rcases HD.out.c with e | ⟨bc,oc,rfl,hcc⟩
      · rw [e] at cn;simp at cn
      have cb:n < (blocksA d.cs d.rs).length:=by unfold blocksA;rw [List.length_zipWith];have:=G5.out;omega
      rcases HT.out with e | ⟨bt,ot,rfl,htt⟩
      · rw [e] at cb;simp at cb
      have hbk:=htt n cb
      rw [blocksA_get cn cr cb] at hbk
      have hco:=hcc n cn
      have hok:=HZ.out _ (zip_in cn cr)
      have hi2:=HIN.out _ (List.getElem_mem cr)
      have hE:headB d ++ colsB (d.cs.take (n + 1)) (d.rs.take (n + 1))=L ++ colB d.cs[n] d.rs[n]:=by rw [HL.out,colsB_take cn cr];simp
      rw [colB_texts] at hE
      have hkd:=hok.kind
      have hid:=hok.id
      have hid2:=HF.out.ids _ (List.getElem_mem cn)
      have hps:=put_len hok hi2
      have hLl:L.length≤6100000:=by
        rw [HL.out,List.length_append]
        have h1:=HCL.out n
        rw [List.length_take] at h1
        have h2:=HHL.out
        have h3:min n d.cs.length * 500100≤12 * 500100:=Nat.mul_le_mul_right 500100 (by omega)
        omega
      simp only at hkd hid hps hok
      have TC1:=Lib.hid (fun v => count_any d.cs[n].id (by omega) (by omega) v)
      have TC2:=Lib.hid (fun v => count_any ((colPut d.cs[n].kd d.rs[n]).1.size:Int) (by omega) (by omega) v)
      rw [Int.toNat_natCast] at TC2
      have hni:(n:Int) < (d.cs.length:Int):=by omega
      obtain ⟨kn,hkn⟩:∃ kn:Nat,d.cs[n].kd=(kn:Int):=⟨d.cs[n].kd.toNat,(Int.toNat_of_nonneg (by omega)).symm⟩
      have hk3:kn < 256:=by omega
      rw [hkn,Int.toNat_natCast] at hE
      have hwk:IntKind.u8.wrap (kn:Int)=(kn:Int):=by rw [IntKind.wrap_u8];omega
      obtain ⟨c0,c1,c2⟩:=hco
      rw [hkn] at c2 TC2 hbk hps
      have hy1:(textB (vp d.cs[n].id.toNat)).size≤10:=by rw [textB_size];exact vp_le _
      have hy2:(textB (vp (colPut (kn:Int) d.rs[n]).1.size)).size≤10:=by rw [textB_size];exact vp_le _
      generalize hY1:textB (vp d.cs[n].id.toNat)=y1 at *
      generalize hY2:textB (vp (colPut (kn:Int) d.rs[n]).1.size)=y2 at *
      generalize hY3:(colPut (kn:Int) d.rs[n]).1=y3 at *
      have hl1:y1.data.toList.length=y1.size:=(size_list _).symm
      have hl2:y2.data.toList.length=y2.size:=(size_list _).symm
      have HE:=Lib.hid hE
      have HQ:=Lib.hid (And.intro hLl (And.intro hy1 (And.intro hy2 (And.intro hps (And.intro hl1 hl2)))))
      have HK3:=Lib.hid hk3
      have HCU:Hid (∀ v,Below u.heap.size u v→v.cell? ⟨bc,oc + n * 3,none⟩=some (.int .i64 d.cs[n].id)∧v.cell? ⟨bc,oc + n * 3 + 2,none⟩=some (.int .i64 (kn:Int))∧v.cell? ⟨bt,ot + n,none⟩=some (.string y3)):=fun v hv =>
        ⟨(World.cell?_of_block (hv.block bc (World.block_lt_of_cell? u ⟨bc,oc + n * 3,none⟩ c0))).trans c0,(World.cell?_of_block (hv.block bc (World.block_lt_of_cell? u ⟨bc,oc + n * 3 + 2,none⟩ c2))).trans c2,(World.cell?_of_block (hv.block bt (World.block_lt_of_cell? u ⟨bt,ot + n,none⟩ hbk))).trans hbk⟩
      clear hcc htt hbk hok hi2 hE hkd hid hid2 hps hLl hkn hk3 hy1 hy2 hY1 hY2 hY3 hl1 hl2 c0 c1 c2
      generalize d.cs[n]=cc at *
      obtain ⟨b0,b1,b2⟩:=(HS.out.below HC.out.below).at
      simp only at b0 b1 b2
      obtain ⟨c0,c2,k0⟩:=HCU.out _ HC.out.below
      go_upto_region 9 with (first
        | (go_at_call 79;refine (TC1.out _).mono ?_;rintro e v1 ⟨rfl,hb1⟩;have HC1:=Lib.hid (HC.out.more hb1);clear hb1)
        | (go_at_call 78;refine (sbwstr_any u.heap.size b L y1 _ HC1.out.sb (by have h1:=HQ.out;omega) HC1.out.below.size).mono ?_;rintro e v2 ⟨rfl,hs2,hb2,_⟩;have HC2:Hid (BAt u v2 b (L ++ y1.data.toList)):=⟨hs2,HC1.out.below.trans hb2⟩;clear hs2 hb2))
      clear b0 b1 b2 c0 c2 k0
      obtain ⟨b0,b1,b2⟩:=(HS.out.below HC2.out.below).at
      simp only at b0 b1 b2
      obtain ⟨c0,c2,k0⟩:=HCU.out _ HC2.out.below
      go_upto_region 10 with (go_at_call 77;refine (sbbyte_any u.heap.size b (L ++ y1.data.toList) kn HK3.out _ HC2.out.sb (by have h1:=HQ.out;rw [List.length_append,h1.2.2.2.2.1];omega) HC2.out.below.size).mono ?_;rintro e v3 ⟨rfl,hs3,hb3,_⟩;have HC3:Hid (BAt u v3 b (L ++ y1.data.toList ++ [u8 kn])):=⟨hs3,HC2.out.below.trans hb3⟩;clear hs3 hb3)
      clear b0 b1 b2 c0 c2 k0
      go_upto_region 11 with (first
        | (go_at_call 79;refine (TC2.out _).mono ?_;rintro e v4 ⟨rfl,hb4⟩;have HC4:=Lib.hid (HC3.out.more hb4);clear hb4)
        | (go_at_call 78;refine (sbwstr_any u.heap.size b (L ++ y1.data.toList ++ [u8 kn]) y2 v4 HC4.out.sb (by have h1:=HQ.out;simp only [List.length_append,List.length_singleton,h1.2.2.2.2.1];omega) HC4.out.below.size).mono ?_;rintro e v5 ⟨rfl,hs5,hb5,_⟩;have HC5b:Hid (BAt u v5 b (L ++ y1.data.toList ++ [u8 kn] ++ y2.data.toList)):=⟨hs5,HC4.out.below.trans hb5⟩;clear hs5 hb5))
      go_wp2_with (go_at_call 78;refine (sbwstr_any u.heap.size b (L ++ y1.data.toList ++ [u8 kn] ++ y2.data.toList) y3 v5 HC5b.out.sb (by have h1:=HQ.out;simp only [List.length_append,List.length_singleton,h1.2.2.2.2.1,h1.2.2.2.2.2];omega) HC5b.out.below.size).mono ?_;rintro e v6 ⟨rfl,hs6,hb6,_⟩;have HC6:Hid (BAt u v6 b (L ++ y1.data.toList ++ [u8 kn] ++ y2.data.toList ++ y3.data.toList)):=⟨hs6,HC5b.out.below.trans hb6⟩;clear hs6 hb6)
      go_roundw
      case rel => exact ⟨n + 1,_,by omega,by go_num,by unfold Hid;rw [HE.out];simp,HC6⟩
      case measure => simp [intOf];omega
    · obtain rfl:n=d.cs.length:=by omega
      have hL:L=headB d ++ colsB d.cs d.rs:=by
        rw [HL.out,List.take_length,List.take_of_length_le (by have:=G5.out;omega)]
      have hLl:L.length≤6100000:=by
        rw [hL,List.length_append]
        have h1:=HALL.out
        have h2:=HHL.out
        omega
      have HLE:=Lib.hid hL
      have HLL:=Lib.hid hLl
      have TE:=Lib.hid (fun (v:World) (hv:Below u.heap.size u v) => fileeach_any v ⟨ac,kc,ar,kr⟩ d (HD.out.below hv) (by have:=G5.out;omega) (by omega) (fun r hr => ⟨(HF.out.row r hr).1,fun v hv => ((HF.out.row r hr).2 v hv).2⟩))
      obtain ⟨b0,b1,b2⟩:=(HS.out.below HC.out.below).at
      simp only at b0 b1 b2
      clear hL hLl HL cn HCL HALL HHL
      go_wp2_with (go_at_call 71;refine (TE.out _ HC.out.below).mono ?_;rintro e v1 ⟨sa,sc,rfl,ho,hb⟩;have HO:=Lib.hid ho;have HC1:=Lib.hid (HC.out.more hb);clear ho hb)
      clear b0 b1 b2 TE
      have hne:statsA d.cs d.rs ≠ []:=fun e => by have h1:=HSL.out;rw [e] at h1;simp at h1;omega
      obtain ⟨gs,hgs⟩:=HO.out.there hne
      subst hgs
      obtain ⟨cur,hcur⟩:∃ cur,v1.heap[gs]? = some (.cells cur 77 (0,0)):=by
        rcases HO.out.block with ⟨h,_⟩ | ⟨g,h,_,_,_,cur,h2,_⟩
        · cases h
        · injection h with h;injection h with h;subst h;exact ⟨cur,h2⟩
      have HSA:Hid (∀ (i:Nat) (h:i < (statsA d.cs d.rs).length),SAt v1 gs (i * 10) (statsA d.cs d.rs)[i]):=fun i h => HO.out.get i h
      have HST:Hid (∀ (i:Nat) (h:i < (statsA d.cs d.rs).length),BdIn (statsA d.cs d.rs)[i].lo∧BdIn (statsA d.cs d.rs)[i].hi∧(0≤(statsA d.cs d.rs)[i].n∧(statsA d.cs d.rs)[i].n≤4096)):=fun i h => by
        have h1:i < d.cs.length:=by have:=HSL.out;omega
        have h2:i < d.rs.length:=by have:=G5.out;omega
        have e:(statsA d.cs d.rs)[i]=ofA d.cs[i].id d.rs[i]:=List.getElem_zipWith
        rw [e]
        exact of_in (HZ.out _ (zip_in h1 h2)) (HIN.out _ (List.getElem_mem h2)) _
      have HCUR:=Lib.hid hcur
      have HSTL2:=Lib.hid HSTL.out
      have hfin:(statsA d.cs d.rs).take d.cs.length=statsA d.cs d.rs:=List.take_of_length_le (by have:=HSL.out;omega)
      have HFIN:=Lib.hid hfin
      clear hcur hne HO HSTL hfin
      have HSLN:Hid ((statsA d.cs d.rs).length=d.cs.length):=HSL.out
      generalize hxs:statsA d.cs d.rs=xs at *
      have hKS:v1.heap[gs]? = some (.cells cur 77 (0,0)):=HCUR.out
      have HKS:=Lib.hid hKS
      clear hKS HZ HIN HF HD HT HS
      go_loopw [52] (fun iv wr => ∃ (n:Nat) (M:List UInt8),n≤d.cs.length∧iv=.int .i64 n∧Hid (M=L ++ (xs.take n).flatMap statB)∧Hid (BAt u wr b M)∧Hid (wr.heap[gs]? = some (.cells cur 77 (0,0)))) (fun iv _ => d.cs.length - (intOf iv).toNat)
      case atStart => exact ⟨0,L,Nat.zero_le _,rfl,by unfold Hid;simp,HC1,HKS⟩
      case round =>
        obtain ⟨n,M,hle,rfl,HM,HC,HK⟩:=hrel
        by_cases cn:n < d.cs.length
        · have cx:n < xs.length:=by have:=HSLN.out;omega
          have hst:=(HSA.out n cx).block (HK.out.trans HCUR.out.symm)
          have hin:=HST.out n cx
          have hE:L ++ (xs.take (n + 1)).flatMap statB=M ++ statB xs[n]:=by rw [flatS_take xs n cx,HM.out];simp
          rw [statB_texts] at hE
          have hMl:M.length≤6200000:=by
            rw [HM.out,List.length_append]
            have h1:=HSTL2.out n
            have h2:=HLL.out
            omega
          have TC1:=Lib.hid (fun v => count_any xs[n].n hin.2.2.1 (by have:=hin.2.2.2;omega) v)
          have TB1:=Lib.hid (fun v => filebound_any xs[n].lo hin.1 v)
          have TB2:=Lib.hid (fun v => filebound_any xs[n].hi hin.2.1 v)
          have hy1:(textB (vp xs[n].n.toNat)).size≤10:=by rw [textB_size];exact vp_le _
          have hy2:(textB (boundB xs[n].lo)).size≤80:=by rw [textB_size];exact boundB_len hin.1
          have hy3:(textB (boundB xs[n].hi)).size≤80:=by rw [textB_size];exact boundB_len hin.2.1
          generalize hY1:textB (vp xs[n].n.toNat)=y1 at *
          generalize hY2:textB (boundB xs[n].lo)=y2 at *
          generalize hY3:textB (boundB xs[n].hi)=y3 at *
          have hl1:y1.data.toList.length=y1.size:=(size_list _).symm
          have hl2:y2.data.toList.length=y2.size:=(size_list _).symm
          have HE:=Lib.hid hE
          have HQ:=Lib.hid (And.intro hMl (And.intro hy1 (And.intro hy2 (And.intro hy3 (And.intro hl1 hl2)))))
          obtain ⟨z0,z1,z2,z3,z4,z5,z6,z7,z8,z9⟩:=hst
          have hni:(n:Int) < (d.cs.length:Int):=by omega
          clear hin hE hMl hy1 hy2 hy3 hY1 hY2 hY3 hl1 hl2
          generalize xs[n]=st at *
          obtain ⟨cb,hcb⟩:=sb_type HC.out.sb
          have hbl:=(Array.getElem?_eq_some_iff.1 hcb).1
          have hgb:gs ≠ b:=fun e => by
            have h1:=HK.out
            rw [e,hcb] at h1
            injection h1 with h1
            injection h1 with _ h1 _
            exact absurd h1 (by decide)
          have HGB:=Lib.hid hgb
          have HBL:=Lib.hid (show wr.heap.size ≠ b by omega)
          clear hcb hbl hgb
          go_upto_region 16 with fail
          obtain ⟨u9,hu9⟩:∃ u9,u9=wr.alloc (.cells #[.int .i64 st.c,.int .i64 st.n,.int .i64 st.lo.k,.int .i64 st.lo.i,.bool st.lo.b,.string st.lo.s,.int .i64 st.hi.k,.int .i64 st.hi.i,.bool st.hi.b,.string st.hi.s] 77):=⟨_,rfl⟩
          rw [← hu9]
          have HS9:=Lib.hid (show SSlot u9 wr.heap.size st by rw [hu9];exact SSlot.new wr st)
          have HC9:=Lib.hid (show BAt u u9 b M by rw [hu9];exact HC.out.more ((Below.refl _ _).alloc (Nat.le_refl _) _))
          have HK9:=Lib.hid (show u9.heap[gs]? = some (.cells cur 77 (0,0)) by rw [hu9];exact (Below.heap_alloc wr _ gs (Array.getElem?_eq_some_iff.1 HK.out).1).trans HK.out)
          obtain ⟨g9,hg9⟩:∃ g9,g9=wr.heap.size:=⟨_,rfl⟩
          rw [← hg9] at HS9 HBL ⊢
          clear hu9 hg9 z0 z1 z2 z3 z4 z5 z6 z7 z8 z9 HC HK
          obtain ⟨⟨z0,z1,z2,z3,z4,z5,z6,z7,z8,z9⟩,_⟩:=HS9.out.at
          go_upto_region 17 with (first
            | (go_at_call 79;refine (TC1.out _).mono ?_;rintro e v2 ⟨rfl,hb2⟩;have HC2:=Lib.hid (HC9.out.more hb2);have HS2:=Lib.hid (HS9.out.below hb2);have HK2:=Lib.hid ((hb2.block gs (Array.getElem?_eq_some_iff.1 HK9.out).1).trans HK9.out);clear hb2)
            | (go_at_call 78;refine (sbwstr_any u.heap.size b M y1 v2 HC2.out.sb (by have h1:=HQ.out;omega) HC2.out.below.size).mono ?_;rintro e v3 ⟨rfl,hs3,hb3,hk3⟩;have HC3:Hid (BAt u v3 b (M ++ y1.data.toList)):=⟨hs3,HC2.out.below.trans hb3⟩;have HS3:=Lib.hid (SSlot.mk (kept_stat hk3 HS2.out.b HBL.out));have HK3:=Lib.hid (kept_stat hk3 HK2.out HGB.out);clear hs3 hb3 hk3))
          clear z0 z1 z2 z3 z4 z5 z6 z7 z8 z9
          obtain ⟨⟨z0,z1,z2,z3,z4,z5,z6,z7,z8,z9⟩,_⟩:=HS3.out.at
          go_upto_region 18 with (first
            | (go_at_call 104;refine (TB1.out _).mono ?_;rintro e v4 ⟨rfl,hb4⟩;have HC4:=Lib.hid (HC3.out.more hb4);have HS4:=Lib.hid (HS3.out.below hb4);have HK4:=Lib.hid ((hb4.block gs (Array.getElem?_eq_some_iff.1 HK3.out).1).trans HK3.out);clear hb4)
            | (go_at_call 78;refine (sbwstr_any u.heap.size b (M ++ y1.data.toList) y2 v4 HC4.out.sb (by have h1:=HQ.out;rw [List.length_append,h1.2.2.2.2.1];omega) HC4.out.below.size).mono ?_;rintro e v5 ⟨rfl,hs5,hb5,hk5⟩;have HC5b:Hid (BAt u v5 b (M ++ y1.data.toList ++ y2.data.toList)):=⟨hs5,HC4.out.below.trans hb5⟩;have HS5:=Lib.hid (SSlot.mk (kept_stat hk5 HS4.out.b HBL.out));have HK5:=Lib.hid (kept_stat hk5 HK4.out HGB.out);clear hs5 hb5 hk5))
          clear z0 z1 z2 z3 z4 z5 z6 z7 z8 z9
          obtain ⟨⟨z0,z1,z2,z3,z4,z5,z6,z7,z8,z9⟩,_⟩:=HS5.out.at
          go_wp2_with (first
            | (go_at_call 104;refine (TB2.out _).mono ?_;rintro e v6 ⟨rfl,hb6⟩;have HC6:=Lib.hid (HC5b.out.more hb6);have HK6:=Lib.hid ((hb6.block gs (Array.getElem?_eq_some_iff.1 HK5.out).1).trans HK5.out);clear hb6)
            | (go_at_call 78;refine (sbwstr_any u.heap.size b (M ++ y1.data.toList ++ y2.data.toList) y3 v6 HC6.out.sb (by have h1:=HQ.out;simp only [List.length_append,h1.2.2.2.2.1,h1.2.2.2.2.2];omega) HC6.out.below.size).mono ?_;rintro e v7 ⟨rfl,hs7,hb7,hk7⟩;have HC7:Hid (BAt u v7 b (M ++ y1.data.toList ++ y2.data.toList ++ y3.data.toList)):=⟨hs7,HC6.out.below.trans hb7⟩;have HK7:=Lib.hid (kept_stat hk7 HK6.out HGB.out);clear hs7 hb7 hk7))
          go_roundw
          case rel => exact ⟨n + 1,_,by omega,by go_num,by unfold Hid;rw [HE.out];simp,HC7,HK7⟩
          case measure => simp [intOf];omega
        · obtain rfl:n=d.cs.length:=by omega
          have hM:M=fileB d:=by rw [HM.out,HFIN.out,HFILE.out,HLE.out]
          subst hM
          clear cn
          go_wp2_with (go_at_call 81;refine (sbstring_any u.heap.size b (fileB d) _ HC.out.sb HC.out.below.size).mono ?_;rintro e v6 ⟨rfl,hb6,_⟩;have HF9:=Lib.hid (HB0.out.trans ((HC.out.below.trans hb6).mono HB0.out.size));clear hb6)
          go_ret
          exact ⟨rfl,HF9.out⟩
end Go.Proofs.YtfbmlefhjoblbaaGreat
namespace Go.Proofs.YtfbmlefhjoblbaaGreat
open Go.Conc Go.RowKit
set_option linter.unusedVariables false
set_option linter.unusedSimpArgs false
theorem FinD.rows {d:Da} (h:FinD d):∀ r ∈ d.rs,r.length≤9223372036854775807∧Fine r:=fun r hr =>
  ⟨Nat.le_trans (h.row r hr).1 (by decide),fun v hv => ⟨((h.row r hr).2 v hv).1,Nat.le_trans ((h.row r hr).2 v hv).2 (by decide)⟩⟩
set_option maxRecDepth 100000 in
set_option maxHeartbeats 2000000 in
theorem filemay_any (w:World) (p:DaAt) (d:Da) (hd:DaIs w p d) (hf:FinD d) :
    Calls Tryz.prog 31 #[.agg #[.int .i64 d.n,.slice p.ac d.cs.length p.kc,.slice p.ar d.rs.length p.kr]] w fun e w' => e=.returned (.bool (mayA d))∧Below w.heap.size w w':=by
  have T:=Lib.hid (fun (v:World) (hv:Below w.heap.size w v) => fileblocks_any v p d (hd.below hv) hf.rows)
  obtain ⟨ac,kc,ar,kr⟩:=p
  simp only at *
  obtain ⟨u,hu⟩:∃ u,u=w.alloc (.cells #[.int .i64 d.n,.slice ac d.cs.length kc,.slice ar d.rs.length kr] 55):=⟨_,rfl⟩
  have hs0:DSlot u w.heap.size ⟨ac,kc,ar,kr⟩ d:=by rw [hu];exact DSlot.new w ⟨ac,kc,ar,kr⟩ d
  have hb0:Below w.heap.size w u:=by rw [hu];exact (Below.refl _ _).alloc (Nat.le_refl _) _
  have HB0:=Lib.hid hb0
  obtain ⟨b0,b1,b2⟩:=hs0.at
  simp only at b0 b1 b2
  clear hs0 hb0 hd hf
  go_enter Tryz.func31,Tryz.ntmps31
  go_upto_region 1 with fail
  rw [← hu]
  clear hu
  go_wp2_with (go_at_call 67;refine (T.out _ HB0.out).mono ?_;rintro e w1 ⟨a,c,L,rfl,_,_,hb⟩;have HB1:=Lib.hid (HB0.out.trans (hb.mono HB0.out.size));clear hb)
  go_ret
  exact ⟨rfl,HB1.out⟩
set_option maxRecDepth 100000 in
set_option maxHeartbeats 4000000 in
theorem fileput_any (w:World) (p:DaAt) (d:Da) (hd:DaIs w p d) (hf:FinD d) :
    Calls Tryz.prog 29 #[.agg #[.int .i64 d.n,.slice p.ac d.cs.length p.kc,.slice p.ar d.rs.length p.kr]] w fun e w' => e=.returned (.tuple #[.string (fileA d).1,.int .i64 (fileA d).2])∧Below w.heap.size w w':=by
  have T:=Lib.hid (fun (v:World) (hv:Below w.heap.size w v) => fileblocks_any v p d (hd.below hv) hf.rows)
  have TB:=Lib.hid (fun (v:World) (hv:Below w.heap.size w v) (hm:mayA d=true) (a:Option Addr) (c:Nat) (ht:IsT v a (blocksA d.cs d.rs)) => filebody_any v p d (hd.below hv) hm hf a c ht)
  have hlen:=fun hm:mayA d=true => fileB_len hm hf.inD
  obtain ⟨ac,kc,ar,kr⟩:=p
  simp only at *
  obtain ⟨u,hu⟩:∃ u,u=w.alloc (.cells #[.int .i64 d.n,.slice ac d.cs.length kc,.slice ar d.rs.length kr] 55):=⟨_,rfl⟩
  have hs0:DSlot u w.heap.size ⟨ac,kc,ar,kr⟩ d:=by rw [hu];exact DSlot.new w ⟨ac,kc,ar,kr⟩ d
  have hb0:Below w.heap.size w u:=by rw [hu];exact (Below.refl _ _).alloc (Nat.le_refl _) _
  have HB0:=Lib.hid hb0
  have HS0:=Lib.hid hs0
  obtain ⟨b0,b1,b2⟩:=hs0.at
  simp only at b0 b1 b2
  clear hs0 hb0 hd hf
  cases hm:mayA d with
  | false =>
    rw [file_no (by rw [hm];simp)]
    rw [hm] at T
    clear hm hlen TB
    go_enter Tryz.func29,Tryz.ntmps29
    go_upto_region 1 with fail
    rw [← hu]
    clear hu
    go_wp2_with (go_at_call 67;refine (T.out _ HB0.out).mono ?_;rintro e w1 ⟨a,c,L,rfl,_,_,hb⟩;have HB1:=Lib.hid (HB0.out.trans (hb.mono HB0.out.size));clear hb)
    go_ret2
    exact ⟨rfl,HB1.out⟩
  | true =>
    have hlen:=hlen hm
    have TB2:Hid (∀ (v:World) (hv:Below w.heap.size w v) (a:Option Addr) (c:Nat) (ht:IsT v a (blocksA d.cs d.rs)),Calls Tryz.prog 68 #[.agg #[.int .i64 d.n,.slice ac d.cs.length kc,.slice ar d.rs.length kr],.slice a (blocksA d.cs d.rs).length c] v fun e w' => e=.returned (.string (textB (fileB d)))∧Below v.heap.size v w'):=fun v hv a c ht => TB.out v hv hm a c ht
    have TC:=Lib.hid (fun v => cseal_any (textB (fileB d)) (by rw [textB_size];omega) v)
    have hsz:=sealB_size (textB (fileB d))
    rw [textB_size] at hsz
    rw [hm] at T
    by_cases c:(fileB d).length + 4≤65536
    · have e:fileA d=(sealB (textB (fileB d)),0):=if_pos ⟨hm,c⟩
      have hci:decide ((65536:Int) < ((sealB (textB (fileB d))).size:Int))=false:=decide_eq_false (by omega)
      rw [e]
      clear hm hlen TB e c hsz
      generalize blocksA d.cs d.rs=bs at *
      generalize textB (fileB d)=x at *
      generalize sealB x=y at *
      go_enter Tryz.func29,Tryz.ntmps29
      go_upto_region 1 with fail
      rw [← hu]
      clear hu
      go_upto_region 4 with (go_at_call 67;refine (T.out _ HB0.out).mono ?_;rintro e w1 ⟨a,c,L,rfl,hL,ho,hb⟩;have HO1:=Lib.hid ho.isT;have HL:=Lib.hid (hL rfl);have HB1:=Lib.hid (HB0.out.trans (hb.mono HB0.out.size));have HS1:=Lib.hid (HS0.out.below hb);clear hb ho hL)
      have hL:=HL.out
      subst hL
      clear b0 b1 b2
      obtain ⟨b0,b1,b2⟩:=HS1.out.at
      simp only at b0 b1 b2
      go_wp2_with (first
        | (go_at_call 68;refine (TB2.out _ HB1.out _ _ HO1.out).mono ?_;rintro e w2 ⟨rfl,hb⟩;have HB2:=Lib.hid (HB1.out.trans (hb.mono HB1.out.size));clear hb)
        | (go_at_call 48;refine (TC.out _).mono ?_;rintro e w3 ⟨rfl,hb⟩;have HB3:=Lib.hid (HB2.out.trans (hb.mono HB2.out.size));clear hb))
      go_ret2
      exact ⟨rfl,HB3.out⟩
    · have e:fileA d=(ByteArray.empty,1100):=if_neg fun h => c h.2
      have hci:decide ((65536:Int) < ((sealB (textB (fileB d))).size:Int))=true:=decide_eq_true (by omega)
      rw [e]
      clear hm hlen TB e c hsz
      generalize blocksA d.cs d.rs=bs at *
      generalize textB (fileB d)=x at *
      generalize sealB x=y at *
      go_enter Tryz.func29,Tryz.ntmps29
      go_upto_region 1 with fail
      rw [← hu]
      clear hu
      go_upto_region 4 with (go_at_call 67;refine (T.out _ HB0.out).mono ?_;rintro e w1 ⟨a,c,L,rfl,hL,ho,hb⟩;have HO1:=Lib.hid ho.isT;have HL:=Lib.hid (hL rfl);have HB1:=Lib.hid (HB0.out.trans (hb.mono HB0.out.size));have HS1:=Lib.hid (HS0.out.below hb);clear hb ho hL)
      have hL:=HL.out
      subst hL
      clear b0 b1 b2
      obtain ⟨b0,b1,b2⟩:=HS1.out.at
      simp only at b0 b1 b2
      go_wp2_with (first
        | (go_at_call 68;refine (TB2.out _ HB1.out _ _ HO1.out).mono ?_;rintro e w2 ⟨rfl,hb⟩;have HB2:=Lib.hid (HB1.out.trans (hb.mono HB1.out.size));clear hb)
        | (go_at_call 48;refine (TC.out _).mono ?_;rintro e w3 ⟨rfl,hb⟩;have HB3:=Lib.hid (HB2.out.trans (hb.mono HB2.out.size));clear hb))
      go_ret2
      exact ⟨rfl,HB3.out⟩
end Go.Proofs.YtfbmlefhjoblbaaGreat
