/- Spaces and remarks left out: a claim is at most so large. -/
import Derived.Test.YtfbmlefhjoblbaaGreatFmGz
import Derived.Test.YtfbmlefhjoblbaaGreatDatLGz
import Derived.Test.YtfbmlefhjoblbaaGreatStatRGz
import Derived.Test.YtfbmlefhjoblbaaGreatRStat2Gz
import Derived.Test.YtfbmlefhjoblbaaGreatQeGz
import Derived.Handy
namespace Go.Proofs.YtfbmlefhjoblbaaGreat
open Go.Conc Go.RowKit
set_option linter.unusedVariables false
set_option linter.unusedSimpArgs false
set_option maxRecDepth 100000 in
set_option maxHeartbeats 2000000 in
theorem refstats_any (w:World) (p:DaAt) (d:Da) (hd:DaIs w p d) (hl:d.cs.length≤d.rs.length) (h1:d.cs.length≤1000000) (h2:∀ r ∈ d.rs,r.length≤140737488355328∧∀ v ∈ r,v.s.size≤140737488351232) :
    Calls Tryz.prog 41 #[.agg #[.int .i64 d.n,.slice p.ac d.cs.length p.kc,.slice p.ar d.rs.length p.kr]] w fun e w' => ∃ a c,e=.returned (.slice a d.cs.length c)∧OwnS w.heap.size w' a c (statsA d.cs d.rs)∧Below w.heap.size w w':=by
  obtain ⟨ac,kc,ar,kr⟩:=p
  simp only at *
  have hfin:statsA (d.cs.take d.cs.length) (d.rs.take d.cs.length)=statsA d.cs d.rs:=by
    unfold statsA
    rw [List.take_length,zip_take]
  have HFIN:=Lib.hid hfin
  obtain ⟨u,hu⟩:∃ u,u=w.alloc (.cells #[.int .i64 d.n,.slice ac d.cs.length kc,.slice ar d.rs.length kr] 55):=⟨_,rfl⟩
  have hs0:DSlot u w.heap.size ⟨ac,kc,ar,kr⟩ d:=by rw [hu];exact DSlot.new w ⟨ac,kc,ar,kr⟩ d
  have hb0:Below w.heap.size w u:=by rw [hu];exact (Below.refl _ _).alloc (Nat.le_refl _) _
  have HD:=Lib.hid (hd.below hb0)
  have HS:=Lib.hid hs0
  have HB0:=Lib.hid hb0
  have H2:=Lib.hid h2
  clear hfin hs0 hb0 hd h2
  go_enter Tryz.func41,Tryz.ntmps41
  go_upto_region 1 with fail
  rw [← hu]
  clear hu
  go_wp2
  go_loopw [3,4] (fun ov iv wr => ∃ (n:Nat) (a:Option Addr) (c:Nat),n≤d.cs.length∧iv=.int .i64 n∧ov=.slice a (statsA (d.cs.take n) (d.rs.take n)).length c∧Hid (OwnS u.heap.size wr a c (statsA (d.cs.take n) (d.rs.take n)))∧Hid (Below u.heap.size u wr)) (fun ov iv _ => d.cs.length - (intOf iv).toNat)
  case atStart => exact ⟨0,none,0,Nat.zero_le _,rfl,rfl,OwnS.nil _ _,Below.refl _ _⟩
  case round =>
    obtain ⟨n,a,c,hle,rfl,rfl,HW,HB⟩:=hrel
    have hbx:=(HS.out.below HB.out).at
    obtain ⟨b0,b1,b2⟩:=hbx
    simp only at b0 b1 b2
    by_cases cn:n < d.cs.length
    · have hcc:=HD.out.c
      have hrr:=HD.out.r
      rcases hcc with e | ⟨bc,oc,rfl,hcc⟩
      · rw [e] at cn;simp at cn
      rcases hrr with e2 | ⟨br,orr,rfl,hrr⟩
      · rw [e2] at hl;simp at hl;rw [hl] at cn;simp at cn
      have cr:n < d.rs.length:=by omega
      have hco:=hcc n cn
      obtain ⟨ur,hpr,ax,kx,rfl,vx,nx⟩:=hrr n cr
      have hrz:=H2.out _ (List.getElem_mem cr)
      have htk:=statsA_take cn cr
      have hsl:=statsA_len (cs:=d.cs) (rs:=d.rs) (n:=n) hle (by omega)
      have HTK:=Lib.hid htk
      have HSL:=Lib.hid hsl
      clear hsl
      have hni:(n:Int) < (d.cs.length:Int):=by omega
      have hnr:(n:Int) < (d.rs.length:Int):=by omega
      have T:=Lib.hid (fun (v:World) (hv:Below wr.heap.size wr v) => refstat_any d.cs[n].id ax kx d.rs[n] v ((vx.below HB.out).below hv) hrz.1 hrz.2)
      have hC0:∀ v,Below wr.heap.size wr v→v.cell? ⟨bc,oc + n * 3,none⟩=some (.int .i64 d.cs[n].id):=fun v hv => ((hco.below HB.out).below hv).c0
      have hpr2:wr.cell? ⟨br,orr + n,none⟩=some (.slice ax d.rs[n].length kx):=(World.cell?_of_block (HB.out.block br (World.block_lt_of_cell? u ⟨br,orr + n,none⟩ hpr))).trans hpr
      have hR0:∀ v,Below wr.heap.size wr v→v.cell? ⟨br,orr + n,none⟩=some (.slice ax d.rs[n].length kx):=fun v hv => (World.cell?_of_block (hv.block br (World.block_lt_of_cell? wr ⟨br,orr + n,none⟩ hpr2))).trans hpr2
      have HC0:=Lib.hid hC0
      have HR0:=Lib.hid hR0
      have HSR:=Lib.hid (HS.out.below HB.out)
      clear hcc hrr hco hpr vx nx hrz htk hC0 hpr2 hR0
      go_upto_region 5 with fail
      clear b0 b1 b2
      refine wp_region_any (by kernel_rfl) ?_
      change wpAny _ _ _ _ _ _ _ (World.drew _)
      refine wpAny_take (i:=0) (v:=.slice a (statsA (d.cs.take n) (d.rs.take n)).length c) rfl (by kernel_rfl) (by kernel_rfl) (by kernel_rfl) (fun _ _ _ h => h) (Or.inl ⟨by rfl,fun w => ?_⟩) ?_
      · go_simp
      try simp only [Go.Act.put,List.setIfInBounds_toArray,List.set_cons_zero,List.set_cons_succ]
      refine any_late (fun w' => Below wr.heap.size wr w') 1 14 (by kernel_rfl) (by kernel_rfl) (by kernel_rfl) (Below.refl _ _).drew ?_
      simp only [List.take_succ_cons,List.take_zero,List.drop_succ_cons,List.drop_zero]
      repeat (
        refine wpQuiet_step (fun K9 hK => ?_)
        go_simp
        first
        | (refine hK _ ?_;clear hK K9)
        | (apply Exists.intro
           refine ⟨fun w1 hw1 => ?_,hK _ ?_⟩
           (first
             | (exact rfl)
             | (go_at_call 45;exact (T.out _ hw1).mono fun e w2 ⟨he,hb⟩ => ⟨he,hw1.trans (hb.mono hw1.size)⟩)
             | (obtain ⟨b0,b1,b2⟩:=(HSR.out.below hw1).at;simp only at b0 b1 b2;simp only [b0,b1,b2,Result.andThen];exact ⟨trivial,rfl⟩)
             | (have c0:=HC0.out _ hw1;simp only [c0,Result.andThen];exact ⟨trivial,rfl⟩)
             | (have r0:=HR0.out _ hw1;simp only [r0,Result.andThen];exact ⟨trivial,rfl⟩)
             | (exact ⟨trivial,rfl⟩))
           clear hK K9))
      refine wpQuiet_nil ?_
      intro w1 hw1
      have HW1:=Lib.hid (HW.out.below hw1)
      have HB1:=Lib.hid (HB.out.trans (hw1.mono HB.out.size))
      have hz1:u.heap.size≤w1.heap.size:=HB1.out.size
      have hz2:(statsA (d.cs.take n) (d.rs.take n)).length≤1000000:=by rw [HSL.out];omega
      clear hw1 HW HB T HC0 HR0 HSR
      go_wp2_with (at_builtin;refine wp_stat HW1.out hz1 (by omega) rfl _ _ rfl (ofA d.cs[n].id d.rs[n]) rfl rfl ?_;intro a' c' w2 hx hf hnew;have HB2:=Lib.hid (Frm.to_below HB1.out hf (fun k hk => (HW1.out.at_ge hk).1) (Nat.le_refl _));have HW2:=Lib.hid hx;clear hx hf hnew hz1 hz2 HW1 HB1)
      go_roundw
      case rel => exact ⟨n + 1,a',c',by omega,by go_num,by rw [HTK.out];simp,by rw [HTK.out];exact HW2,HB2⟩
      case measure => simp [intOf];omega
    · obtain rfl:n=d.cs.length:=by omega
      have hln:=statsA_len (cs:=d.cs) (rs:=d.rs) (n:=d.cs.length) (Nat.le_refl _) hl
      have HLN:=Lib.hid hln
      clear hln cn
      go_wp2
      go_ret
      refine ⟨a,c,by show Ending.returned (.slice a (statsA (d.cs.take d.cs.length) (d.rs.take d.cs.length)).length c)=_;rw [HLN.out],?_,HB0.out.trans (HB.out.mono HB0.out.size)⟩
      have h:=HW.out
      rw [HFIN.out] at h
      exact h.lower HB0.out.size
end Go.Proofs.YtfbmlefhjoblbaaGreat
