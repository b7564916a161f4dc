/- Spaces and remarks left out: a claim is at most so large. -/
import Derived.Test.YtfbmlefhjoblbaaGreatRStatsGz
import Derived.Test.YtfbmlefhjoblbaaGreatRefCGz
import Derived.Test.YtfbmlefhjoblbaaGreatBitsGz
import Derived.Deep.CutRange
import Derived.Deep.QuietTactic
import Derived.BigQuiet
namespace Go.Proofs.YtfbmlefhjoblbaaGreat
open Go.Conc Go.RowKit
set_option linter.unusedVariables false
set_option linter.unusedSimpArgs false
set_option maxRecDepth 100000 in
set_option maxHeartbeats 4000000 in
theorem refmay_any (w:World) (p:DaAt) (d:Da) (hd:DaIs w p d) (hf:∀ r ∈ d.rs,r.length≤9223372036854775807∧Fine r) :
    Calls Tryz.prog 32 #[.agg #[.int .i64 d.n,.slice p.ac d.cs.length p.kc,.slice p.ar d.rs.length p.kr]] w fun e w' => e=.returned (.bool (mayA d))∧Below w.heap.size w w':=by
  obtain ⟨ac,kc,ar,kr⟩:=p
  simp only at *
  obtain ⟨R,hR⟩:∃ R,R=mayA d:=⟨_,rfl⟩
  have hno:¬ headOk d→R=false:=fun h => hR.trans (may_no h)
  have hbad:∀ n,n < d.cs.length→okAt d n=false→R=false:=fun n hn h => hR.trans (may_bad hn h)
  have hgood:headOk d→(∀ n,n < d.cs.length→okAt d n=true)→R=true:=fun h ha => hR.trans (may_good h ha)
  rw [← hR]
  clear hR
  obtain ⟨u,hu⟩:∃ u,u=w.alloc (.cells #[.int .i64 d.n,.slice ac d.cs.length kc,.slice ar d.rs.length kr] 55):=⟨_,rfl⟩
  have hs0:DSlot u w.heap.size ⟨ac,kc,ar,kr⟩ d:=by rw [hu];exact DSlot.new w ⟨ac,kc,ar,kr⟩ d
  have hb0:Below w.heap.size w u:=by rw [hu];exact (Below.refl _ _).alloc (Nat.le_refl _) _
  have HD:=Lib.hid (hd.below hb0)
  have HS:=Lib.hid hs0
  have HB0:=Lib.hid hb0
  have HF:=Lib.hid hf
  have HNO:=Lib.hid hno
  have HBAD:=Lib.hid hbad
  have HGOOD:=Lib.hid hgood
  clear hs0 hb0 hd hf hno hbad hgood
  obtain ⟨b0,b1,b2⟩:=HS.out.at
  simp only at b0 b1 b2
  by_cases hh:headOk d
  · have hh2:=hh
    obtain ⟨g1,g2,g3,g4,g5⟩:=hh2
    have HH:=Lib.hid hh
    clear hh
    have g5':((d.rs.length:Int) != (d.cs.length:Int))=false:=by simp;omega
    have G5:=Lib.hid g5
    clear g5
    go_enter Tryz.func32,Tryz.ntmps32
    go_upto_region 1 with fail
    rw [← hu]
    clear hu
    go_upto_region 4 with fail
    clear b0 b1 b2
    go_loopw [3] (fun iv wr => ∃ n:Nat,n≤d.cs.length∧iv=.int .i64 n∧Hid (∀ m,m < n→okAt d m=true)∧Hid (Below u.heap.size u wr)) (fun iv _ => d.cs.length - (intOf iv).toNat)
    case atStart => exact ⟨0,Nat.zero_le _,rfl,fun m hm => absurd hm (Nat.not_lt_zero m),Below.refl _ _⟩
    case round =>
      obtain ⟨n,hle,rfl,HOK,HB⟩:=hrel
      obtain ⟨b0,b1,b2⟩:=(HS.out.below HB.out).at
      simp only at b0 b1 b2
      by_cases cn:n < d.cs.length
      · have cr:n < d.rs.length:=by have:=G5.out;omega
        rcases HD.out.c with e | ⟨bc,oc,rfl,hcc⟩
        · rw [e] at cn;simp at cn
        rcases HD.out.r with e2 | ⟨br,orr,rfl,hrr⟩
        · rw [e2] at cr;simp at cr
        have hco:=(hcc n cn).below HB.out
        obtain ⟨ur,hpr,ax,kx,rfl,vx,nx⟩:=hrr n cr
        have hfr:=HF.out _ (List.getElem_mem cr)
        have hrow:wr.cell? ⟨br,orr + n,none⟩=some (.slice ax d.rs[n].length kx):=(World.cell?_of_block (HB.out.block br (World.block_lt_of_cell? u ⟨br,orr + n,none⟩ hpr))).trans hpr
        have hgc:d.cs.getD n zeroCo=d.cs[n]:=getD_in cn
        have hgr:d.rs.getD n []=d.rs[n]:=getD_in cr
        have hprev:∀ m,n=m + 1→wr.cell? ⟨bc,oc + m * 3,none⟩=some (.int .i64 (d.cs.getD (n - 1) zeroCo).id):=fun m hm => by
          have h:=((hcc m (by omega)).below HB.out).c0
          rw [show n - 1=m by omega,getD_in (by omega:m < d.cs.length)]
          exact h
        have hokn:okAt d n=(!decide (badHead d.n d.cs d.rs[n] n) && decide ((colPut d.cs[n].kd d.rs[n]).2.2=0)):=by unfold okAt;rw [hgc,hgr]
        have hbd:decide (badHead d.n d.cs d.rs[n] n)=true ↔ (d.cs[n].id < 1∨(0 < n∧d.cs[n].id≤(d.cs.getD (n - 1) zeroCo).id)∨d.cs[n].nm ≠ ByteArray.empty∨(d.rs[n].length:Int) ≠ d.n):=by rw [decide_eq_true_iff];unfold badHead;rw [hgc]
        have HBN:=Lib.hid (HBAD.out n cn)
        have T:=Lib.hid (fun (v:World) (hv:Below wr.heap.size wr v) => refvec_any v d.cs[n].kd ax kx d.rs[n] ((vx.below HB.out).below hv) hfr.1 hfr.2)
        obtain ⟨c0,c1,c2⟩:=hco
        have HPREV:=Lib.hid hprev
        have HOKN:=Lib.hid hokn
        have HBD:=Lib.hid hbd
        have hni:(n:Int) < (d.cs.length:Int):=by omega
        have hnr:(n:Int) < (d.rs.length:Int):=by omega
        clear hcc hrr hpr vx nx hfr hgc hgr hprev hokn hbd
        generalize d.cs[n]=cc at *
        generalize d.rs[n]=rr at *
        generalize (d.cs.getD (n - 1) zeroCo).id=pid at *
        generalize decide (badHead d.n d.cs rr n)=BB at *
        go_upto_region 7 with fail
        obtain ⟨u7,hu7⟩:∃ u7,u7=wr.alloc (.cells #[.int .i64 cc.id,.string cc.nm,.int .i64 cc.kd] 80):=⟨_,rfl⟩
        rw [← hu7]
        have hb7:Below wr.heap.size wr u7:=by rw [hu7];exact (Below.refl _ _).alloc (Nat.le_refl _) _
        have hn7:u7.heap[wr.heap.size]? = some (.cells #[.int .i64 cc.id,.string cc.nm,.int .i64 cc.kd] 80 (0,0)):=by rw [hu7];exact heap_alloc_new wr _
        have hcell7:∀ v:World,Below u7.heap.size u7 v→v.cell? ⟨wr.heap.size,0,none⟩=some (.int .i64 cc.id)∧v.cell? ⟨wr.heap.size,1,none⟩=some (.string cc.nm)∧v.cell? ⟨wr.heap.size,2,none⟩=some (.int .i64 cc.kd):=fun v hv => by
          have e1:=(hv.block _ (Array.getElem?_eq_some_iff.1 hn7).1).trans hn7
          refine ⟨?_,?_,?_⟩ <;> (rw [cell_of_row _ _ _ _ _ _ e1];rfl)
        have HC7:=Lib.hid hcell7
        have HB7:=Lib.hid hb7
        have HROW:=Lib.hid hrow
        clear hu7 hn7 hb7 hcell7 c0 c1 c2 b0 b1 b2 hrow
        generalize wr.heap.size=gc at HC7 ⊢
        go_cut [84] from 37 to 99 (fun s wx => s=.bool BB∧Hid (Below u7.heap.size u7 wx))
        case first =>
          obtain ⟨b0,b1,b2⟩:=((HS.out.below HB.out).below HB7.out).at
          simp only at b0 b1 b2
          obtain ⟨c0,c1,c2⟩:=HC7.out u7 (Below.refl _ _)
          have p0:=(World.cell?_of_block (HB7.out.block br (World.block_lt_of_cell? wr ⟨br,orr + n,none⟩ HROW.out))).trans HROW.out
          by_cases cA:cc.id < 1
          · have dA:decide (cc.id < 1)=true:=decide_eq_true cA
            have hBB:BB=true:=HBD.out.2 (.inl cA)
            subst hBB
            go_quiet (fail)
            go_wp2
            go_meet
            case rel => exact ⟨rfl,bel_drew (Below.refl _ _) _⟩
          have nA:¬ cc.id < 1:=cA
          have dA:decide (cc.id < 1)=false:=decide_eq_false cA
          by_cases cN:0 < n
          · obtain ⟨m,hm⟩:∃ m,n=m + 1:=⟨n - 1,by omega⟩
            have hpm:=HPREV.out m hm
            have q0:=(World.cell?_of_block (HB7.out.block bc (World.block_lt_of_cell? wr ⟨bc,oc + m * 3,none⟩ hpm))).trans hpm
            have hwm:IntKind.i64.wrap ((n:Int) - 1)=(m:Int):=by rw [show (n:Int) - 1=(m:Int) by omega];exact wrap_i64_nat m (by omega)
            have hm1:(m:Int) < (d.cs.length:Int):=by omega
            have dN:decide ((0:Int) < (n:Int))=true:=decide_eq_true (by omega)
            have dN2:decide (0 < n)=true:=decide_eq_true cN
            clear hm hpm
            by_cases cC:cc.id≤pid
            · have dC:decide (cc.id≤pid)=true:=decide_eq_true cC
              have hBB:BB=true:=HBD.out.2 (.inr (.inl ⟨cN,cC⟩))
              subst hBB
              go_quiet (fail)
              go_wp2
              go_meet
              case rel => exact ⟨rfl,bel_drew (Below.refl _ _) _⟩
            have nC:¬ (0 < n∧cc.id≤pid):=fun h => cC h.2
            have dC:decide (cc.id≤pid)=false:=decide_eq_false cC
            by_cases cD:cc.nm=ByteArray.empty
            · have dD:(cc.nm.toList == [])=true:=by rw [cD,ByteArray.toList_eq];rfl
              have dD2:(cc.nm.toList != [])=false:=by rw [cD,ByteArray.toList_eq];rfl
              by_cases cE:(rr.length:Int)=d.n
              · have dE:((rr.length:Int) != d.n)=false:=by simpa using cE
                have hBB:BB=false:=by rw [← Bool.not_eq_true];exact fun h => (HBD.out.1 h).elim (fun h => nA h) fun h => h.elim (fun h => nC h) fun h => h.elim (fun h => h cD) fun h => h cE
                subst hBB
                go_quiet (fail)
                go_wp2
                go_meet
                case rel => exact ⟨rfl,bel_drew (Below.refl _ _) _⟩
              · have dE:((rr.length:Int) != d.n)=true:=by simpa using cE
                have hBB:BB=true:=HBD.out.2 (.inr (.inr (.inr cE)))
                subst hBB
                go_quiet (fail)
                go_wp2
                go_meet
                case rel => exact ⟨rfl,bel_drew (Below.refl _ _) _⟩
            · have dD:(cc.nm.toList == [])=false:=by
                rw [beq_eq_false_iff_ne]
                intro h
                exact cD (text_inj (by rw [h,ByteArray.toList_eq];rfl))
              have dD2:(cc.nm.toList != [])=true:=by rw [bne,dD];rfl
              have hBB:BB=true:=HBD.out.2 (.inr (.inr (.inl cD)))
              subst hBB
              go_quiet (fail)
              go_wp2
              go_meet
              case rel => exact ⟨rfl,bel_drew (Below.refl _ _) _⟩
          · have nC:¬ (0 < n∧cc.id≤pid):=fun h => cN h.1
            have dN:decide ((0:Int) < (n:Int))=false:=decide_eq_false (by omega)
            have dN2:decide (0 < n)=false:=decide_eq_false cN
            by_cases cD:cc.nm=ByteArray.empty
            · have dD:(cc.nm.toList == [])=true:=by rw [cD,ByteArray.toList_eq];rfl
              have dD2:(cc.nm.toList != [])=false:=by rw [cD,ByteArray.toList_eq];rfl
              by_cases cE:(rr.length:Int)=d.n
              · have dE:((rr.length:Int) != d.n)=false:=by simpa using cE
                have hBB:BB=false:=by rw [← Bool.not_eq_true];exact fun h => (HBD.out.1 h).elim (fun h => nA h) fun h => h.elim (fun h => nC h) fun h => h.elim (fun h => h cD) fun h => h cE
                subst hBB
                go_quiet (fail)
                go_wp2
                go_meet
                case rel => exact ⟨rfl,bel_drew (Below.refl _ _) _⟩
              · have dE:((rr.length:Int) != d.n)=true:=by simpa using cE
                have hBB:BB=true:=HBD.out.2 (.inr (.inr (.inr cE)))
                subst hBB
                go_quiet (fail)
                go_wp2
                go_meet
                case rel => exact ⟨rfl,bel_drew (Below.refl _ _) _⟩
            · have dD:(cc.nm.toList == [])=false:=by
                rw [beq_eq_false_iff_ne]
                intro h
                exact cD (text_inj (by rw [h,ByteArray.toList_eq];rfl))
              have dD2:(cc.nm.toList != [])=true:=by rw [bne,dD];rfl
              have hBB:BB=true:=HBD.out.2 (.inr (.inr (.inl cD)))
              subst hBB
              go_quiet (fail)
              go_wp2
              go_meet
              case rel => exact ⟨rfl,bel_drew (Below.refl _ _) _⟩
        case rest =>
          obtain ⟨rfl,HBC⟩:=hcut
          cases BB
          · have HBX:=Lib.hid (HB.out.trans ((HB7.out.trans (HBC.out.mono HB7.out.size)).mono HB.out.size))
            have hbx7:=HB7.out.trans (HBC.out.mono HB7.out.size)
            obtain ⟨c0,c1,c2⟩:=HC7.out _ HBC.out
            go_upto_region 9 with fail
            refine region_class (fun w' => Below wc.heap.size wc w') (by kernel_rfl) (by kernel_rfl) (Below.refl _ _).drew ?_
            repeat (
              refine wpQuiet_step (fun K9 hK => ?_)
              go_simp
              first
              | (refine hK _ ?_;clear hK K9)
              | (apply Exists.intro
                 refine ⟨fun w1 hw1 => ?_,hK _ ?_⟩
                 (first
                   | (exact rfl)
                   | (go_at_call 15;exact (T.out _ (hbx7.trans (hw1.mono hbx7.size))).mono fun e w2 ⟨he,hb⟩ => ⟨he,hw1.trans (hb.mono hw1.size)⟩)
                   | (obtain ⟨c0,c1,c2⟩:=HC7.out _ (HBC.out.trans (hw1.mono HBC.out.size));simp only [c0,c1,c2,Result.andThen];exact ⟨trivial,rfl⟩)
                   | (obtain ⟨b0,b1,b2⟩:=(HS.out.below (HBX.out.trans (hw1.mono HBX.out.size))).at;simp only at b0 b1 b2;simp only [b0,b1,b2,Result.andThen];exact ⟨trivial,rfl⟩)
                   | (have p0:=(World.cell?_of_block ((hbx7.trans (hw1.mono hbx7.size)).block br (World.block_lt_of_cell? wr ⟨br,orr + n,none⟩ HROW.out))).trans HROW.out;simp only [p0,Result.andThen];exact ⟨trivial,rfl⟩)
                   | (exact ⟨trivial,rfl⟩))
                 clear hK K9))
            refine wpQuiet_nil ?_
            intro w9 hw9
            replace HBX:=Lib.hid (HBX.out.trans (hw9.mono HBX.out.size))
            clear hbx7 c0 c1 c2 T
            by_cases cE:(colPut cc.kd rr).2.2=0
            · have hE:((colPut cc.kd rr).2.2 != 0)=false:=by simpa using cE
              have hok:okAt d n=true:=by rw [HOKN.out,decide_eq_true cE];rfl
              have HOKT:=Lib.hid hok
              clear hok cE
              go_wp2
              go_roundw
              case rel =>
                exact ⟨n + 1,by omega,by go_num,Lib.hid (fun m hm => if h:m < n then HOK.out m h else by rw [show m=n by omega];exact HOKT.out),HBX⟩
              case measure => simp [intOf];omega
            · have hE:((colPut cc.kd rr).2.2 != 0)=true:=by simpa using cE
              obtain rfl:R=false:=HBN.out (by rw [HOKN.out,decide_eq_false cE];rfl)
              clear cE
              go_wp2
              go_ret
              exact ⟨rfl,HB0.out.trans (HBX.out.mono HB0.out.size)⟩
          · obtain rfl:R=false:=HBN.out (by rw [HOKN.out];rfl)
            go_wp2
            go_ret
            exact ⟨rfl,HB0.out.trans ((HB.out.trans ((HB7.out.trans (HBC.out.mono HB7.out.size)).mono HB.out.size)).mono HB0.out.size)⟩
      · obtain rfl:n=d.cs.length:=by omega
        obtain rfl:R=true:=HGOOD.out HH.out HOK.out
        go_wp2
        go_ret
        exact ⟨rfl,HB0.out.trans (HB.out.mono HB0.out.size)⟩
  · obtain rfl:=HNO.out hh
    have hh2:d.n < 0∨(0≤d.n∧4096 < d.n)∨(0≤d.n∧d.n≤4096∧d.cs.length < 1)∨(0≤d.n∧d.n≤4096∧1≤d.cs.length∧12 < d.cs.length)∨(0≤d.n∧d.n≤4096∧1≤d.cs.length∧d.cs.length≤12∧¬ d.rs.length=d.cs.length):=by
      unfold headOk at hh
      omega
    clear hh
    rcases hh2 with g | ⟨g1,g⟩ | ⟨g1,g2,g⟩ | ⟨g1,g2,g3,g⟩ | ⟨g1,g2,g3,g4,g⟩
    rotate_right
    · have g':((d.rs.length:Int) != (d.cs.length:Int))=true:=by simp;omega
      clear g
      go_enter Tryz.func32,Tryz.ntmps32
      go_upto_region 1 with fail
      rw [← hu]
      clear hu
      go_wp2
      go_ret
      exact ⟨rfl,HB0.out⟩
    all_goals (
      go_enter Tryz.func32,Tryz.ntmps32
      go_upto_region 1 with fail
      rw [← hu]
      clear hu
      go_wp2
      go_ret
      exact ⟨rfl,HB0.out⟩)
end Go.Proofs.YtfbmlefhjoblbaaGreat
