/- Spaces and remarks left out: a claim is at most so large. -/
import Derived.Test.YtfbmlefhjoblbaaGreatFmGz
import Derived.Test.YtfbmlefhjoblbaaGreatRMayGz
import Derived.Test.YtfbmlefhjoblbaaGreatRBoundGz
import Derived.Test.YtfbmlefhjoblbaaGreatRStat2Gz
import Derived.Test.YtfbmlefhjoblbaaGreatFPutMGz
import Derived.Test.YtfbmlefhjoblbaaGreatQcGz
namespace Go.Proofs.YtfbmlefhjoblbaaGreat
open Go.Conc Go.RowKit
set_option linter.unusedVariables false
set_option linter.unusedSimpArgs false
theorem textB_three (a b c:List UInt8):textB (a ++ (b ++ c))=textB a ++ textB b ++ textB c:=by
  rw [textB_append,textB_append,ByteArray.append_assoc]
theorem head_text (d:Da):(⟨#[76,75,49]⟩:ByteArray) ++ textB (vp d.n.toNat) ++ textB (vp d.cs.length)=textB (headB d):=by
  unfold headB;rw [textB_three];rfl
theorem colB_text (L:List UInt8) (c:Co) (r:List V):textB L ++ textB (vp c.id.toNat) ++ textB [u8 c.kd.toNat] ++ textB (vp (colPut c.kd r).1.size) ++ (colPut c.kd r).1=textB (L ++ colB c r):=by
  rw [colB_texts]
  simp only [textB_append,text_back,ByteArray.append_assoc]
theorem statB_text (L:List UInt8) (x:S):textB L ++ textB (vp x.n.toNat) ++ textB (boundB x.lo) ++ textB (boundB x.hi)=textB (L ++ statB x):=by
  rw [statB_texts]
  simp only [textB_append,text_back,ByteArray.append_assoc]
set_option maxRecDepth 100000 in
set_option maxHeartbeats 1500000 in
theorem reffile_any (w:World) (p:DaAt) (d:Da) (hd:DaIs w p d) (hf:FinD d) :
    Calls Tryz.prog 30 #[.agg #[.int .i64 d.n,.slice p.ac d.cs.length p.kc,.slice p.ar d.rs.length p.kr]] w fun e w' => e=.returned (.tuple #[.string (fileA d).1,.int .i64 (fileA d).2])∧Below w.heap.size w w':=by
  have TM:=Lib.hid (fun (v:World) (hv:Below w.heap.size w v) => refmay_any v p d (hd.below hv) hf.rows)
  have hlen:=fun hm:mayA d=true => fileB_len hm hf.inD
  obtain ⟨ac,kc,ar,kr⟩:=p
  simp only at *
  obtain ⟨u,hu⟩:∃ u,u=w.alloc (.cells #[.int .i64 d.n,.slice ac d.cs.length kc,.slice ar d.rs.length kr] 55):=⟨_,rfl⟩
  have hs0:DSlot u w.heap.size ⟨ac,kc,ar,kr⟩ d:=by rw [hu];exact DSlot.new w ⟨ac,kc,ar,kr⟩ d
  have hb0:Below w.heap.size w u:=by rw [hu];exact (Below.refl _ _).alloc (Nat.le_refl _) _
  have HB0:=Lib.hid hb0
  have HS0:=Lib.hid hs0
  have HD:=Lib.hid (hd.below hb0)
  obtain ⟨b0,b1,b2⟩:=hs0.at
  simp only at b0 b1 b2
  clear hs0 hb0 hd
  cases hm:mayA d with
  | false =>
    rw [file_no (by rw [hm];simp)]
    rw [hm] at TM
    clear hm hlen hf
    go_enter Tryz.func30,Tryz.ntmps30
    go_upto_region 1 with fail
    rw [← hu]
    clear hu
    go_wp2_with (go_at_call 32;refine (TM.out _ HB0.out).mono ?_;rintro e w1 ⟨rfl,hb⟩;have HB1:=Lib.hid (HB0.out.trans (hb.mono HB0.out.size));clear hb)
    go_ret2
    exact ⟨rfl,HB1.out⟩
  | true =>
    obtain ⟨F1,F2,hF⟩:∃ F1 F2,fileA d=(F1,F2):=⟨_,_,rfl⟩
    rw [hF]
    have HFA:=Lib.hid hF
    clear hF
    have hlen:=hlen hm
    rw [hm] at TM
    obtain ⟨⟨n0,n1,g3,g4,g5⟩,_⟩:=may_ok hm
    have hz:=may_zip hm
    have hin:=hf.inD.ins
    have hsl:(statsA d.cs d.rs).length=d.cs.length:=by unfold statsA;rw [List.length_zipWith,g5];omega
    have hcl:=fun n => colsB_len (d.cs.take n) (d.rs.take n) (fun x hx => hz x (mem_take_zip hx)) (fun r hr => hin r (List.mem_of_mem_take hr))
    have hfile:=fileB_head d
    have hhl:=headB_len d
    have hall:=colsB_len d.cs d.rs hz hin
    have hstl:∀ n,(((statsA d.cs d.rs).take n).flatMap statB).length≤4000:=fun n => by
      have h1:=statsB_len d.cs d.rs hz hin
      have h2:(statsA d.cs d.rs).flatMap statB=((statsA d.cs d.rs).take n).flatMap statB ++ ((statsA d.cs d.rs).drop n).flatMap statB:=by rw [← List.flatMap_append,List.take_append_drop]
      rw [h2,List.length_append] at h1
      omega
    obtain ⟨nn,hnn⟩:∃ nn:Nat,d.n=(nn:Int):=⟨d.n.toNat,(Int.toNat_of_nonneg n0).symm⟩
    have HVB:Hid (nn < 9223372036854775808∧d.cs.length < 9223372036854775808):=⟨by omega,by omega⟩
    have hh:=head_text d
    rw [hnn,Int.toNat_natCast] at hh
    have hk1:(textB (vp nn)).size≤10:=by rw [textB_size];exact vp_le _
    have hk2:(textB (vp d.cs.length)).size≤10:=by rw [textB_size];exact vp_le _
    have hz1:¬ 9223372036854775807 < (⟨#[76,75,49]⟩:ByteArray).size + (textB (vp nn)).size:=by have:(⟨#[76,75,49]⟩:ByteArray).size=3:=rfl;omega
    have hz2:¬ 9223372036854775807 < ((⟨#[76,75,49]⟩:ByteArray) ++ textB (vp nn)).size + (textB (vp d.cs.length)).size:=by rw [ByteArray.size_append];have:(⟨#[76,75,49]⟩:ByteArray).size=3:=rfl;omega
    have hz3:¬ 9223372036854775807 < 3 + (textB (vp nn)).size:=by omega
    have hz4:¬ 9223372036854775807 < 3 + (textB (vp nn)).size + (textB (vp d.cs.length)).size:=by omega
    have hz5:¬ 9223372036854775807 < (⟨#[76,75,49]⟩:ByteArray).size + (textB (vp nn)).size + (textB (vp d.cs.length)).size:=by have:(⟨#[76,75,49]⟩:ByteArray).size=3:=rfl;omega
    have HF:=Lib.hid hf
    have HZ:=Lib.hid hz
    have HIN:=Lib.hid hin
    have HFILE:=Lib.hid hfile
    have HCL:=Lib.hid hcl
    have HALL:=Lib.hid hall
    have HSTL:=Lib.hid hstl
    have HHL:=Lib.hid hhl
    have HSL:=Lib.hid hsl
    have HC12:=Lib.hid g4
    have HH:=Lib.hid hh
    have G5:=Lib.hid g5
    have HLEN:=Lib.hid hlen
    have HM:=Lib.hid hm
    rw [hnn] at b0 TM
    have HNN:=Lib.hid hnn
    clear hf hz hin hfile hcl hall hstl hhl hsl hh g5 hlen hm hnn n0 n1
    go_enter Tryz.func30,Tryz.ntmps30
    go_upto_region 1 with fail
    rw [← hu]
    clear hu
    go_upto_region 3 with (go_at_call 32;refine (TM.out _ HB0.out).mono ?_;rintro e w1 ⟨rfl,hb⟩;have HX1:=Lib.hid hb;clear hb)
    clear b0 b1 b2
    refine region_class (fun w' => Below w1.heap.size w1 w') (by kernel_rfl) (by kernel_rfl) (Below.refl _ _).drew ?_
    repeat (
      refine wpQuiet_step (fun K9 hK => ?_)
      go_simp
      first
      | (refine hK _ ?_;clear hK K9)
      | (apply Exists.intro
         refine ⟨fun w2 hw2 => ?_,hK _ ?_⟩
         (first
           | (exact rfl)
           | (go_at_call 53;refine (rvarint_any _ ?_ w2).mono fun e w3 h => ⟨h.1,hw2.trans (h.2.mono hw2.size)⟩;first | exact HVB.out.1 | exact HVB.out.2)
           | (obtain ⟨b0,b1,b2⟩:=((HS0.out.below HX1.out).below hw2).at;simp only at b0 b1 b2;rw [HNN.out] at b0;simp only [b0,b1,b2,Result.andThen];exact ⟨trivial,rfl⟩)
           | (exact ⟨trivial,rfl⟩))
         clear hK K9))
    refine wpQuiet_nil ?_
    intro w2 hw2
    have HX2:=Lib.hid (HX1.out.trans (hw2.mono HX1.out.size))
    clear hw2 hz1 hz2 hz3 hz4 hz5 hk1 hk2 TM
    rw [HH.out]
    clear HH HVB HNN
    go_wp2
    go_loopw [4,5] (fun sv iv wr => ∃ (n:Nat) (L:List UInt8),n≤d.cs.length∧iv=.int .i64 n∧sv=.string (textB L)∧Hid (L=headB d ++ colsB (d.cs.take n) (d.rs.take n))∧Hid (Below u.heap.size u wr)) (fun sv iv _ => d.cs.length - (intOf iv).toNat)
    case atStart => exact ⟨0,headB d,Nat.zero_le _,rfl,rfl,by unfold Hid;simp [colsB],HX2⟩
    case round =>
      obtain ⟨n,L,hle,rfl,rfl,HL,HB⟩:=hrel
      obtain ⟨b0,b1,b2⟩:=(HS0.out.below HB.out).at
      simp only at b0 b1 b2
      by_cases cn:n < d.cs.length
      · have cr:n < d.rs.length:=by have:=G5.out;omega
        rcases HD.out.c with e | ⟨bc,oc,rfl,hcc⟩
        · rw [e] at cn;simp at cn
        rcases HD.out.r with e2 | ⟨br,orr,rfl,hrr⟩
        · rw [e2] at cr;simp at cr
        have hco:=hcc n cn
        obtain ⟨ur,hpr,ax,kx,rfl,vx,nx⟩:=hrr n cr
        have hok:=HZ.out _ (zip_in cn cr)
        have hi2:=HIN.out _ (List.getElem_mem cr)
        have hE:headB d ++ colsB (d.cs.take (n + 1)) (d.rs.take (n + 1))=L ++ colB d.cs[n] d.rs[n]:=by rw [HL.out,colsB_take cn cr];simp
        have hE2:=colB_text L d.cs[n] d.rs[n]
        have hkd:=hok.kind
        have hid:=hok.id
        have hid2:=HF.out.ids _ (List.getElem_mem cn)
        have hps:=put_len hok hi2
        have hfr:=HF.out.rows _ (List.getElem_mem cr)
        have hLl:L.length≤6100000:=by
          rw [HL.out,List.length_append]
          have h1:=HCL.out n
          rw [List.length_take] at h1
          have h2:=HHL.out
          have h3:min n d.cs.length * 500100≤12 * 500100:=Nat.mul_le_mul_right 500100 (by omega)
          omega
        simp only at hkd hid hps hok
        obtain ⟨kn,hkn⟩:∃ kn:Nat,d.cs[n].kd=(kn:Int):=⟨d.cs[n].kd.toNat,(Int.toNat_of_nonneg (by omega)).symm⟩
        obtain ⟨cn9,hcn9⟩:∃ cn9:Nat,d.cs[n].id=(cn9:Int):=⟨d.cs[n].id.toNat,(Int.toNat_of_nonneg (by omega)).symm⟩
        have hk3:kn < 256:=by omega
        obtain ⟨c0,c1,c2⟩:=hco
        rw [hkn] at c2 hps
        rw [hcn9] at c0
        rw [hkn,hcn9,Int.toNat_natCast,Int.toNat_natCast] at hE2
        have T7:=Lib.hid (fun (v:World) (hv:Below u.heap.size u v) => refvec_any v d.cs[n].kd ax kx d.rs[n] (vx.below hv) hfr.1 hfr.2)
        rw [hkn] at T7
        generalize hY3:(colPut (kn:Int) d.rs[n]).1=y3 at *
        generalize (colPut (kn:Int) d.rs[n]).2.1=q1 at *
        generalize (colPut (kn:Int) d.rs[n]).2.2=q2 at *
        have TV1:=Lib.hid (fun v => rvarint_any cn9 (by omega) v)
        have TV2:=Lib.hid (fun v => rvarint_any y3.size (by omega) v)
        have hy1:(textB (vp cn9)).size≤10:=by rw [textB_size];exact vp_le _
        have hy2:(textB (vp y3.size)).size≤10:=by rw [textB_size];exact vp_le _
        have hSz:(textB L).size≤6100000:=by rw [textB_size];exact hLl
        generalize hY1:textB (vp cn9)=y1 at *
        generalize hY2:textB (vp y3.size)=y2 at *
        have HE:=Lib.hid hE
        have HE2:=Lib.hid hE2
        have HCU:Hid (∀ v,Below u.heap.size u v→v.cell? ⟨bc,oc + n * 3,none⟩=some (.int .i64 (cn9:Int))∧v.cell? ⟨bc,oc + n * 3 + 2,none⟩=some (.int .i64 (kn:Int))∧v.cell? ⟨br,orr + n,none⟩=some (.slice ax d.rs[n].length kx)):=fun v hv =>
          ⟨(World.cell?_of_block (hv.block bc (World.block_lt_of_cell? u ⟨bc,oc + n * 3,none⟩ c0))).trans c0,(World.cell?_of_block (hv.block bc (World.block_lt_of_cell? u ⟨bc,oc + n * 3 + 2,none⟩ c2))).trans c2,(World.cell?_of_block (hv.block br (World.block_lt_of_cell? u ⟨br,orr + n,none⟩ hpr))).trans hpr⟩
        have hni:(n:Int) < (d.cs.length:Int):=by omega
        have hnr:(n:Int) < (d.rs.length:Int):=by omega
        have HQ:=Lib.hid (And.intro hSz (And.intro hy1 (And.intro hy2 (And.intro hps hk3))))
        have HVB1:Hid (cn9 < 9223372036854775808):=by unfold Hid;omega
        clear hcc hrr hpr vx nx hok hi2 hE hE2 hkd hid hid2 hps hfr hLl hkn hk3 c0 c1 c2 hy1 hy2 hY3 hSz hcn9
        generalize d.rs[n]=rr at *
        go_upto_region 7 with fail
        clear b0 b1 b2
        refine region_class (fun w' => Below wr.heap.size wr w') (by kernel_rfl) (by kernel_rfl) (Below.refl _ _).drew ?_
        repeat (
          refine wpQuiet_step (fun K9 hK => ?_)
          go_simp
          first
          | (refine hK _ ?_;clear hK K9)
          | (apply Exists.intro
             refine ⟨fun w1 hw1 => ?_,hK _ ?_⟩
             (first
               | (exact rfl)
               | (go_at_call 15;exact (T7.out _ (HB.out.trans (hw1.mono HB.out.size))).mono fun e w2 ⟨he,hb⟩ => ⟨he,hw1.trans (hb.mono hw1.size)⟩)
               | (obtain ⟨b0,b1,b2⟩:=((HS0.out.below HB.out).below hw1).at;simp only at b0 b1 b2;simp only [b0,b1,b2,Result.andThen];exact ⟨trivial,rfl⟩)
               | (obtain ⟨c0,c2,r0⟩:=HCU.out _ (HB.out.trans (hw1.mono HB.out.size));simp only [c0,c2,r0,Result.andThen];exact ⟨trivial,rfl⟩)
               | (exact ⟨trivial,rfl⟩))
             clear hK K9))
        refine wpQuiet_nil ?_
        intro v0 hv0
        have HV0:=Lib.hid (HB.out.trans (hv0.mono HB.out.size))
        clear hv0 HB T7
        go_upto_region 8 with fail
        have hwk:IntKind.u8.wrap (kn:Int)=(kn:Int):=by rw [IntKind.wrap_u8];have:=HQ.out.2.2.2.2;omega
        have hone:(textB [Go.Proofs.YtfbmlefhjoblbaaGreat.u8 kn]).size=1:=textB_size _
        have hq:=HQ.out
        have HBY:Hid (∀ j (h:j < [Go.Proofs.YtfbmlefhjoblbaaGreat.u8 kn].length),(#[Value.int .u8 (kn:Int)]:Array Value)[j]? = some (.int .u8 ([Go.Proofs.YtfbmlefhjoblbaaGreat.u8 kn][j].toNat:Int))):=fun j h => by
          have:j=0:=by simp at h;omega
          subst this
          show some (Value.int .u8 (kn:Int))=some (.int .u8 ((Go.Proofs.YtfbmlefhjoblbaaGreat.u8 kn).toNat:Int))
          rw [Go.Proofs.YtfbmlefhjoblbaaGreat.u8_toNat _ hq.2.2.2.2]
        generalize hS:textB L=S at *
        have hl1:¬ 9223372036854775807 < S.size + y1.size:=by omega
        have hl2:¬ 9223372036854775807 < (S ++ y1).size + (textB [Go.Proofs.YtfbmlefhjoblbaaGreat.u8 kn]).size:=by rw [ByteArray.size_append];omega
        have hl3:¬ 9223372036854775807 < (S ++ y1 ++ textB [Go.Proofs.YtfbmlefhjoblbaaGreat.u8 kn]).size + y2.size:=by rw [ByteArray.size_append,ByteArray.size_append];omega
        have hl4:¬ 9223372036854775807 < (S ++ y1 ++ textB [Go.Proofs.YtfbmlefhjoblbaaGreat.u8 kn] ++ y2).size + y3.size:=by rw [ByteArray.size_append,ByteArray.size_append,ByteArray.size_append];omega
        have hl2':¬ 9223372036854775807 < S.size + y1.size + (textB [Go.Proofs.YtfbmlefhjoblbaaGreat.u8 kn]).size:=by omega
        have hl3':¬ 9223372036854775807 < S.size + y1.size + (textB [Go.Proofs.YtfbmlefhjoblbaaGreat.u8 kn]).size + y2.size:=by omega
        have hl4':¬ 9223372036854775807 < S.size + y1.size + (textB [Go.Proofs.YtfbmlefhjoblbaaGreat.u8 kn]).size + y2.size + y3.size:=by omega
        obtain ⟨xb,hxb⟩:∃ xb,xb=textB [Go.Proofs.YtfbmlefhjoblbaaGreat.u8 kn]:=⟨_,rfl⟩
        have HXB:=Lib.hid hxb
        rw [← hxb] at hl2 hl3 hl4 hl2' hl3' hl4' HE2
        obtain ⟨b0,b1,b2⟩:=(HS0.out.below HV0.out).at
        simp only at b0 b1 b2
        have HVB2:Hid (cn9 < 9223372036854775808∧y3.size < 9223372036854775808):=⟨HVB1.out,by omega⟩
        subst hY1 hY2
        clear hxb hone hq hni hnr hle TV1 TV2 b0 b1 b2
        refine region_chain (fun w' => Below v0.heap.size v0 w') [16,17,18,22,24,25] [0,1,2,3,4,5,6,7,8,9,10,11,12,13,14,15,19,20,21,23] (fun l => l.take 16 ++ ((l.take 22).drop 19 ++ (l.take 24).drop 23)) (fun l => (l.take 19).drop 16 ++ ((l.take 23).drop 22 ++ (l.take 26).drop 24)) (by kernel_rfl) (by kernel_rfl) (by kernel_rfl) (by kernel_rfl) (Below.refl _ _).drew (fun w1 w2 h1 h2 => h1.trans (h2.mono h1.size)) ?_
        simp only [List.take_succ_cons,List.take_zero,List.drop_succ_cons,List.drop_zero,List.cons_append,List.nil_append]
        repeat (
          refine wpExt_step (fun K9 hK => ?_)
          go_simp
          first
          | (refine hK _ ?_;clear hK K9)
          | (apply Exists.intro
             refine ⟨fun w1 hw1 => ?_,hK _ ?_⟩
             (first
               | (exact rfl)
               | (go_at_call 53;refine (rvarint_any _ ?_ w1).mono fun e w3 h => ⟨h.1,h.2⟩;first | exact HVB2.out.1 | exact HVB2.out.2)
               | (obtain ⟨b0,b1,b2⟩:=((HS0.out.below HV0.out).below hw1).at;simp only at b0 b1 b2;simp only [b0,b1,b2,Result.andThen];exact ⟨trivial,rfl⟩)
               | (obtain ⟨c0,c2,r0⟩:=HCU.out _ (HV0.out.trans (hw1.mono HV0.out.size));simp only [c0,c2,r0,Result.andThen];exact ⟨trivial,rfl⟩)
               | (exact ⟨trivial,rfl⟩))
             clear hK K9))
        refine wpExt_nil ?_
        intro w0 hw0
        refine chainQ_step (fun K9 hK w1 hw1 hb1 => ?_)
        go_simp
        refine ⟨hw1.alloc hw1.size _,hK _ _ ?_⟩
        clear hK K9 hb1
        have hn2:(w1.alloc (.cells #[.int .u8 (kn:Int)] 5)).heap[w1.heap.size]? = some (.cells #[.int .u8 (kn:Int)] 5 (0,0)):=heap_alloc_new w1 _
        have HN2:=Lib.hid hn2
        clear hn2
        generalize w1.heap.size=g2 at HN2 ⊢
        generalize w1.alloc (.cells #[.int .u8 (kn:Int)] 5)=w2 at *
        refine chainQ_step (fun K9 hK w3 hw3 hb3 => ?_)
        have hcv:=arr_back w3 g2 [Go.Proofs.YtfbmlefhjoblbaaGreat.u8 kn] _ _ ((hb3.block g2 (Array.getElem?_eq_some_iff.1 HN2.out).1).trans HN2.out) HBY.out 1 1 rfl
        rw [← HXB.out] at hcv
        clear hb3
        go_simp
        refine ⟨hw3,hK _ _ ?_⟩
        clear hK K9 hcv
        iterate 4 (
          refine chainQ_step (fun K9 hK w4 hw4 hb4 => ?_)
          go_simp
          refine ⟨hw4,hK _ _ ?_⟩
          clear hK K9 hb4)
        refine chainQ_nil (fun w9 hw9 hb9 => ?_)
        have HB9:=Lib.hid (HV0.out.trans (hw9.mono HV0.out.size))
        clear hw9 hb9 hl1 hl2 hl3 hl4 hl2' hl3' hl4'
        rw [HE2.out]
        clear HCU HXB HBY HQ HV0
        go_wp2
        go_roundw
        case rel => exact ⟨n + 1,_,by omega,by go_num,rfl,Lib.hid HE.out.symm,HB9⟩
        case measure => simp [intOf];omega
      · obtain rfl:n=d.cs.length:=by omega
        clear cn hle
        have hL0:L=headB d ++ colsB d.cs d.rs:=by
          have h1:=HL.out
          rw [List.take_length] at h1
          have h2:d.rs.take d.cs.length=d.rs:=by rw [List.take_of_length_le];have:=G5.out;omega
          rw [h2] at h1
          exact h1
        have HL0:=Lib.hid hL0
        clear hL0
        go_wp2
        go_loopw [4,9] (fun sv iv wr => ∃ (n:Nat) (L:List UInt8),n≤d.cs.length∧iv=.int .i64 n∧sv=.string (textB L)∧Hid (L=headB d ++ colsB d.cs d.rs ++ ((statsA d.cs d.rs).take n).flatMap statB)∧Hid (Below u.heap.size u wr)) (fun sv iv _ => d.cs.length - (intOf iv).toNat)
        case atStart => exact ⟨0,L,Nat.zero_le _,rfl,rfl,by unfold Hid;rw [HL0.out];simp,HB⟩
        case round =>
          clear b0 b1 b2 HL HL0 HB
          obtain ⟨n,L,hle,rfl,rfl,HL,HB⟩:=hrel
          obtain ⟨b0,b1,b2⟩:=(HS0.out.below HB.out).at
          simp only at b0 b1 b2
          by_cases cn:n < d.cs.length
          · have cr:n < d.rs.length:=by have:=G5.out;omega
            rcases HD.out.c with e | ⟨bc,oc,rfl,hcc⟩
            · rw [e] at cn;simp at cn
            rcases HD.out.r with e2 | ⟨br,orr,rfl,hrr⟩
            · rw [e2] at cr;simp at cr
            have hco:=hcc n cn
            obtain ⟨ur,hpr,ax,kx,rfl,vx,nx⟩:=hrr n cr
            have hok:=HZ.out _ (zip_in cn cr)
            have hi2:=HIN.out _ (List.getElem_mem cr)
            have hsn:n < (statsA d.cs d.rs).length:=by rw [HSL.out];exact cn
            have hsx:(statsA d.cs d.rs)[n]=ofA d.cs[n].id d.rs[n]:=List.getElem_zipWith
            have hE:headB d ++ colsB d.cs d.rs ++ ((statsA d.cs d.rs).take (n + 1)).flatMap statB=L ++ statB (ofA d.cs[n].id d.rs[n]):=by
              rw [HL.out,← List.take_append_getElem hsn,List.flatMap_append,hsx];simp
            have hE2:=statB_text L (ofA d.cs[n].id d.rs[n])
            obtain ⟨hlo,hhi,hn0,hn1⟩:=of_in hok hi2 d.cs[n].id
            have hfr:=HF.out.rows _ (List.getElem_mem cr)
            have hfr2:=HF.out.row _ (List.getElem_mem cr)
            have hLl:L.length≤6010000:=by
              rw [HL.out,List.length_append,List.length_append]
              have h1:=HALL.out
              have h2:=HHL.out
              have h3:=HSTL.out n
              have h4:d.cs.length * 500100≤12 * 500100:=Nat.mul_le_mul_right 500100 HC12.out
              omega
            simp only at hok
            obtain ⟨c0,c1,c2⟩:=hco
            have hlz:=boundB_len hlo
            have hhz:=boundB_len hhi
            have T12:=Lib.hid (fun (v:World) (hv:Below u.heap.size u v) => refstat_any d.cs[n].id ax kx d.rs[n] v (vx.below hv) (Nat.le_trans hfr2.1 (by decide)) (fun x hx => Nat.le_trans ((hfr2.2 x hx).2) (by decide)))
            have HCU:Hid (∀ v,Below u.heap.size u v→v.cell? ⟨bc,oc + n * 3,none⟩=some (.int .i64 d.cs[n].id)∧v.cell? ⟨br,orr + n,none⟩=some (.slice ax d.rs[n].length kx)):=fun v hv =>
              ⟨(World.cell?_of_block (hv.block bc (World.block_lt_of_cell? u ⟨bc,oc + n * 3,none⟩ c0))).trans c0,(World.cell?_of_block (hv.block br (World.block_lt_of_cell? u ⟨br,orr + n,none⟩ hpr))).trans hpr⟩
            have hni:(n:Int) < (d.cs.length:Int):=by omega
            have hnr:(n:Int) < (d.rs.length:Int):=by omega
            have HE:=Lib.hid hE
            generalize ofA d.cs[n].id d.rs[n]=st at *
            generalize d.cs[n].id=cid at *
            generalize d.rs[n]=rr at *
            obtain ⟨sc,sn,lo,hi⟩:=st
            simp only at hE2 hlo hhi hn0 hn1 hlz hhz T12
            obtain ⟨nn,rfl⟩:∃ nn:Nat,sn=(nn:Int):=⟨sn.toNat,(Int.toNat_of_nonneg hn0).symm⟩
            rw [Int.toNat_natCast] at hE2
            have HE2:=Lib.hid hE2
            have hnn:nn < 9223372036854775808:=by omega
            have HNV:=Lib.hid hnn
            have TB:Hid (∀ v,(v=lo∨v=hi)→∀ w,Calls Tryz.prog 69 #[.agg #[.int .i64 v.k,.int .i64 v.i,.bool v.b,.string v.s]] w fun e w' => e=.returned (.string (textB (boundB v)))∧Below w.heap.size w w'):=fun v hv w => by
              rcases hv with rfl | rfl
              · exact refbound_any _ hlo.i.1 hlo.i.2 hlo.s w
              · exact refbound_any _ hhi.i.1 hhi.i.2 hhi.s w
            have hz1:(textB L).size≤6010000:=by rw [textB_size];exact hLl
            have hz2:(textB (vp nn)).size≤10:=by rw [textB_size];exact vp_le _
            have hz3:(textB (boundB lo)).size≤80:=by rw [textB_size];exact hlz
            have hz4:(textB (boundB hi)).size≤80:=by rw [textB_size];exact hhz
            clear hcc hrr hpr vx nx hok hi2 hE hE2 hfr hfr2 hLl c0 c1 c2 hsx hsn hlz hhz hlo hhi hn0 hn1 hnn
            go_upto_region 12 with fail
            clear b0 b1 b2
            have hwz:=(show wr.heap.size≤wr.heap.size from Nat.le_refl _)
            refine region_new (fun w' => Below wr.heap.size wr w') (NewS wr.heap.size zeroS) 14 13 (some 10) (by kernel_rfl) (by kernel_rfl) (by kernel_rfl) (Below.refl _ _).drew (fun w1 w2 h1 h2 => h1.trans (h2.mono h1.size)) NewS.below ⟨_,rfl,rfl,fun a' w1 hw1 => ?_⟩ ?_
            · exact ⟨_,_,exec_new_stat _ rfl _ _,hw1.alloc hw1.size _,w1.heap.size,rfl,hw1.size,SSlot.new w1 zeroS⟩
            simp only [List.take_succ_cons,List.take_zero,List.drop_succ_cons,List.drop_zero,List.cons_append,List.nil_append,List.append_nil]
            repeat (
              refine wpExt_step (fun K9 hK => ?_)
              go_simp
              first
              | (refine hK _ ?_;clear hK K9)
              | (apply Exists.intro
                 refine ⟨fun w1 hw1 => ?_,hK _ ?_⟩
                 (first
                   | (exact rfl)
                   | (go_at_call 45;exact (T12.out _ (HB.out.trans (hw1.mono HB.out.size))))
                   | (obtain ⟨b0,b1,b2⟩:=((HS0.out.below HB.out).below hw1).at;simp only at b0 b1 b2;simp only [b0,b1,b2,Result.andThen];exact ⟨trivial,rfl⟩)
                   | (obtain ⟨c0,r0⟩:=HCU.out _ (HB.out.trans (hw1.mono HB.out.size));simp only [c0,r0,Result.andThen];exact ⟨trivial,rfl⟩)
                   | (exact ⟨trivial,rfl⟩))
                 clear hK K9))
            refine wpExt_nil ?_
            intro v1 w1 hw1 hv1
            obtain ⟨g,rfl,hg,hs⟩:=hv1
            have HBW:=Lib.hid (HB.out.trans (hw1.mono HB.out.size))
            have HSS:=Lib.hid hs
            have hgu:u.heap.size≤g:=Nat.le_trans HB.out.size hg
            have HGU:=Lib.hid hgu
            clear hw1 hs hg hgu T12 HCU hwz
            obtain ⟨⟨z0,z1,z2,z3,z4,z5,z6,z7,z8,z9⟩,_⟩:=HSS.out.at
            obtain ⟨y0,y1,y2,y3,y4,y5,y6,y7,y8,y9⟩:=HSS.out.froz
            go_upto_region 13 with fail
            change Code.wp _ _ _ _ (putS w1 g ⟨sc,(nn:Int),lo,hi⟩)
            have hz:=HSS.out.put ⟨sc,(nn:Int),lo,hi⟩
            have HSP:=Lib.hid hz
            have HB2:=Lib.hid (putS_below (s:=⟨sc,(nn:Int),lo,hi⟩) HBW.out HGU.out)
            generalize putS w1 g ⟨sc,(nn:Int),lo,hi⟩=w2 at *
            clear hz z0 z1 z2 z3 z4 z5 z6 z7 z8 z9 y0 y1 y2 y3 y4 y5 y6 y7 y8 y9 HSS HBW
            generalize hS:textB L=S at *
            generalize hX1:textB (boundB lo)=x1 at *
            generalize hX2:textB (boundB hi)=x2 at *
            have hv1:¬ 9223372036854775807 < S.size + (textB (vp nn)).size:=by omega
            have hv2:¬ 9223372036854775807 < (S ++ textB (vp nn)).size + x1.size:=by rw [ByteArray.size_append];omega
            have hv3:¬ 9223372036854775807 < (S ++ textB (vp nn) ++ x1).size + x2.size:=by rw [ByteArray.size_append,ByteArray.size_append];omega
            have hv2':¬ 9223372036854775807 < S.size + (textB (vp nn)).size + x1.size:=by omega
            have hv3':¬ 9223372036854775807 < S.size + (textB (vp nn)).size + x1.size + x2.size:=by omega
            subst hX1 hX2
            refine region_class (fun w' => Below w2.heap.size w2 w') (by kernel_rfl) (by kernel_rfl) (Below.refl _ _).drew ?_
            repeat (
              refine wpQuiet_step (fun K9 hK => ?_)
              go_simp
              first
              | (refine hK _ ?_;clear hK K9)
              | (apply Exists.intro
                 refine ⟨fun w3 hw3 => ?_,hK _ ?_⟩
                 (first
                   | (exact rfl)
                   | (go_at_call 53;exact (rvarint_any _ HNV.out w3).mono fun e w4 h => ⟨h.1,hw3.trans (h.2.mono hw3.size)⟩)
                   | (go_at_call 69;refine (TB.out _ ?_ w3).mono fun e w4 h => ⟨h.1,hw3.trans (h.2.mono hw3.size)⟩;first | exact .inl rfl | exact .inr rfl)
                   | (obtain ⟨⟨z0,z1,z2,z3,z4,z5,z6,z7,z8,z9⟩,_⟩:=(HSP.out.below hw3).at;simp only at z0 z1 z2 z3 z4 z5 z6 z7 z8 z9;simp only [z0,z1,z2,z3,z4,z5,z6,z7,z8,z9,Result.andThen];exact ⟨trivial,rfl⟩)
                   | (exact ⟨trivial,rfl⟩))
                 clear hK K9))
            refine wpQuiet_nil ?_
            intro w5 hw5
            have HB5:=Lib.hid (HB2.out.trans (hw5.mono HB2.out.size))
            clear hw5 hv1 hv2 hv3 hv2' hv3' hz1 hz2 hz3 hz4
            rw [HE2.out]
            clear TB HSP HB2
            go_wp2
            go_roundw
            case rel => exact ⟨n + 1,_,by omega,by go_num,rfl,Lib.hid HE.out.symm,HB5⟩
            case measure => simp [intOf];omega
          · obtain rfl:n=d.cs.length:=by omega
            clear cn hle
            have hLf:L=fileB d:=by
              have h1:=HL.out
              rw [← HSL.out,List.take_length] at h1
              rw [h1,HFILE.out]
            subst hLf
            have hln:=HLEN.out
            have hfm:=HM.out
            have hsz:(textB (fileB d)).size=(fileB d).length:=textB_size _
            by_cases hbig:(fileB d).length + 4≤65536
            · have hfa:fileA d=(sealB (textB (fileB d)),0):=if_pos ⟨hfm,hbig⟩
              generalize textB (fileB d)=X at *
              have he:=HFA.out.symm.trans hfa
              injection he with he1 he2
              subst he1 he2
              clear HFA hfa
              have hw4:IntKind.i64.wrap ((X.size:Int) + 4)=(X.size:Int) + 4:=by rw [IntKind.wrap_i64];omega
              have hw5:wrap64 ((X.size:Int) + 4)=(X.size:Int) + 4:=by unfold wrap64;omega
              have hd5:decide ((65536:Int) < (X.size:Int) + 4)=false:=decide_eq_false (by omega)
              have TS:=Lib.hid (rseal_any X (by omega) wr)
              clear hsz hln hbig
              go_wp2_with (go_at_call 22;refine TS.out.mono ?_;rintro e w6 ⟨rfl,hb⟩;have HB6:=Lib.hid (HB.out.trans (hb.mono HB.out.size));clear hb)
              go_ret2
              exact ⟨rfl,HB0.out.trans (HB6.out.mono HB0.out.size)⟩
            · have hfa:fileA d=(ByteArray.empty,1100):=file_no fun h => hbig h.2
              generalize textB (fileB d)=X at *
              have he:=HFA.out.symm.trans hfa
              injection he with he1 he2
              subst he1 he2
              clear HFA hfa
              have hw4:IntKind.i64.wrap ((X.size:Int) + 4)=(X.size:Int) + 4:=by rw [IntKind.wrap_i64];omega
              have hw5:wrap64 ((X.size:Int) + 4)=(X.size:Int) + 4:=by unfold wrap64;omega
              have hd5:decide ((65536:Int) < (X.size:Int) + 4)=true:=decide_eq_true (by omega)
              clear hsz hln hbig
              go_wp2
              go_ret2
              exact ⟨rfl,HB0.out.trans (HB.out.mono HB0.out.size)⟩
end Go.Proofs.YtfbmlefhjoblbaaGreat
