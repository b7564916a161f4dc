/- Spaces and remarks left out: a claim is at most so large. -/
import Derived.Test.YtfbmlefhjoblbaaGreatRStatGz
namespace Go.Proofs.YtfbmlefhjoblbaaGreat
open Go.Conc Go.RowKit
set_option linter.unusedVariables false
set_option linter.unusedSimpArgs false
theorem of_null (c:Int) (vs:List V) {v:V} (h:kindV v=0):ofA c (vs ++ [v])=⟨c,((nullsA vs:Nat):Int) + 1,plainV (leastA vs),plainV (mostA vs)⟩:=by
  unfold ofA
  rw [nullsA_snoc,leastA_snoc,mostA_snoc,less_none _ h,more_none _ h,if_pos h]
  rfl
theorem of_some (c:Int) (vs:List V) {v:V} (h:kindV v ≠ 0):ofA c (vs ++ [v])=⟨c,nullsA vs,lessR (plainV (leastA vs)) v,moreR (plainV (mostA vs)) v⟩:=by
  unfold ofA
  rw [nullsA_snoc,leastA_snoc,mostA_snoc,less_ref _ h,more_ref _ h,if_neg h]
structure StatAt (b0 w:World) (z:S):Prop where
  so:SSlot w (b0.heap.size + 1) z
  sr:SSlot w b0.heap.size zeroS
  hb:Below b0.heap.size b0 w
theorem StatAt.below {b0 w w':World} {z:S} (h:StatAt b0 w z) (hb:Below w.heap.size w w'):StatAt b0 w' z:=⟨h.so.below hb,h.sr.below hb,h.hb.trans (hb.mono h.hb.size)⟩
theorem StatAt.frm {b0 w w':World} {z z':S} (h:StatAt b0 w z) (hf:Frm (fun k => k=b0.heap.size + 1) w w') (hz:SSlot w' (b0.heap.size + 1) z'):StatAt b0 w' z' :=
  ⟨hz,h.sr.frm hf (by omega),Frm.to_below h.hb hf (fun k e => by omega) (Nat.le_refl _)⟩
theorem StatAt.alloc {b0 w:World} {z:S} (h:StatAt b0 w z) (o:Obj):StatAt b0 (w.alloc o) z:=⟨h.so.alloc o,h.sr.alloc o,h.hb.alloc h.hb.size o⟩
set_option maxRecDepth 100000 in
set_option maxHeartbeats 8000000 in
theorem refstat_any (c:Int) (ad:Option Addr) (cap:Nat) (vs:List V) (w:World) (h0:IsV w ad vs) (hn:vs.length≤140737488355328) (hs:∀ v ∈ vs,v.s.size≤140737488351232):Calls Tryz.prog 45 #[.int .i64 c,.slice ad vs.length cap] w fun e w' => e=.returned (.agg #[.int .i64 (ofA c vs).c,.int .i64 (ofA c vs).n,.int .i64 (ofA c vs).lo.k,.int .i64 (ofA c vs).lo.i,.bool (ofA c vs).lo.b,.string (ofA c vs).lo.s,.int .i64 (ofA c vs).hi.k,.int .i64 (ofA c vs).hi.i,.bool (ofA c vs).hi.b,.string (ofA c vs).hi.s])∧Below w.heap.size w w':=by
  have T1:=Lib.hid rclean_any
  have T2:=Lib.hid rnull_any
  have T3:=Lib.hid rcmp_any
  obtain ⟨R,hR⟩:∃ R,R=ofA c vs:=⟨_,rfl⟩
  rw [← hR]
  have HRR:=Lib.hid hR
  clear hR
  have HVS:=Lib.hid h0
  have HS:=Lib.hid hs
  clear h0 hs
  obtain ⟨u,hu⟩:∃ u,u=((w.alloc (.cells #[.int .i64 0,.int .i64 0,.int .i64 0,.int .i64 0,.bool false,.string ⟨#[]⟩,.int .i64 0,.int .i64 0,.bool false,.string ⟨#[]⟩] 77)).alloc (.cells #[.int .i64 c,.int .i64 0,.int .i64 0,.int .i64 0,.bool false,.string ⟨#[]⟩,.int .i64 0,.int .i64 0,.bool false,.string ⟨#[]⟩] 77)):=⟨_,rfl⟩
  have hr0:StatAt w u (ofA c []):=by
    have:=SSlot.new (w.alloc (.cells #[.int .i64 0,.int .i64 0,.int .i64 0,.int .i64 0,.bool false,.string ⟨#[]⟩,.int .i64 0,.int .i64 0,.bool false,.string ⟨#[]⟩] 77)) (ofA c [])
    rw [show (w.alloc (.cells #[.int .i64 0,.int .i64 0,.int .i64 0,.int .i64 0,.bool false,.string ⟨#[]⟩,.int .i64 0,.int .i64 0,.bool false,.string ⟨#[]⟩] 77)).heap.size=w.heap.size + 1 by simp] at this
    rw [hu]
    exact ⟨this,(SSlot.new w zeroS).alloc _,(((Below.refl _ _).alloc (Nat.le_refl _) _).alloc (by simp) _)⟩
  have HR0:=Lib.hid hr0
  clear hr0
  go_enter Tryz.func45,Tryz.ntmps45
  go_upto_region 2 with fail
  rw [← hu]
  clear hu
  go_wp2
  go_loopw [6] (fun iv wr => ∃ n:Nat,n≤vs.length∧iv=.int .i64 n∧Hid (StatAt w wr (ofA c (vs.take n)))) (fun iv _ => vs.length - (intOf iv).toNat)
  case atStart => exact ⟨0,Nat.zero_le _,rfl,HR0⟩
  case round =>
    obtain ⟨n,hle,rfl,HR⟩:=hrel
    clear HR0
    by_cases cn:n < vs.length
    · have h1:=HVS.out
      rcases h1 with h1 | ⟨b,off,rfl,h1⟩
      · subst h1;simp at cn
      have HX:=Lib.hid ((h1 n cn).below HR.out.hb)
      have hsn:=HS.out _ (List.getElem_mem cn)
      have htk:vs.take (n + 1)=vs.take n ++ [vs[n]]:=(List.take_append_getElem cn).symm
      have hsl:(plainV (leastA (vs.take n))).s.size≤9223372036854775807:=Nat.le_trans (plainV_size _) (Nat.le_trans (least_size _ (N:=140737488351232) fun v hv => HS.out v (List.mem_of_mem_take hv)) (by omega))
      have hsm:(plainV (mostA (vs.take n))).s.size≤9223372036854775807:=Nat.le_trans (plainV_size _) (Nat.le_trans (most_size _ (N:=140737488351232) fun v hv => HS.out v (List.mem_of_mem_take hv)) (by omega))
      have hkn:nullsA (vs.take n)≤n:=Nat.le_trans (nullsA_le _) (by rw [List.length_take];omega)
      have hof:ofA c (vs.take n)=⟨c,nullsA (vs.take n),plainV (leastA (vs.take n)),plainV (mostA (vs.take n))⟩:=rfl
      rw [hof] at HR
      have HO1:Hid (kindV vs[n]=0→ofA c (vs.take (n + 1))=⟨c,((nullsA (vs.take n):Nat):Int) + 1,plainV (leastA (vs.take n)),plainV (mostA (vs.take n))⟩):=fun h => by rw [htk];exact of_null c _ h
      have HO2:Hid (kindV vs[n] ≠ 0→ofA c (vs.take (n + 1))=⟨c,nullsA (vs.take n),lessR (plainV (leastA (vs.take n))) vs[n],moreR (plainV (mostA (vs.take n))) vs[n]⟩):=fun h => by rw [htk];exact of_some c _ h
      clear hof htk h1
      generalize nullsA (vs.take n)=k at *
      generalize plainV (leastA (vs.take n))=la at *
      generalize plainV (mostA (vs.take n))=ha at *
      generalize vs[n]=v at *
      have hni:(n:Int) < (vs.length:Int):=by omega
      have hs5:(plainV v).s.size≤9223372036854775807:=Nat.le_trans (plainV_size v) (by omega)
      have e1:wrap64 ((k:Int) + 1)=(k:Int) + 1:=by unfold wrap64;omega
      have HE1:=Lib.hid e1
      clear e1
      obtain ⟨p0,p1,p2,p3⟩:=HX.out
      obtain ⟨⟨z0,z1,z2,z3,z4,z5,z6,z7,z8,z9⟩,_⟩:=HR.out.so.at
      obtain ⟨y0,y1,y2,y3,y4,y5,y6,y7,y8,y9⟩:=HR.out.so.froz
      by_cases c1:kindV v=0
      · have d1:decide (kindV v=0)=true:=decide_eq_true c1
        have HO:=Lib.hid (HO1.out c1)
        clear HO1 HO2 c1
        go_upto_region 4 with (first
        | (go_at_call 49;refine (T2.out _ _).mono ?_;rintro e wf ⟨rfl,hb⟩;replace HR:=Lib.hid (HR.out.below hb);replace HX:=Lib.hid (HX.out.below hb);clear hb;clear p0 p1 p2 p3;clear z0 z1 z2 z3 z4 z5 z6 z7 z8 z9 y0 y1 y2 y3 y4 y5 y6 y7 y8 y9;obtain ⟨p0,p1,p2,p3⟩:=HX.out;obtain ⟨⟨z0,z1,z2,z3,z4,z5,z6,z7,z8,z9⟩,_⟩:=HR.out.so.at;obtain ⟨y0,y1,y2,y3,y4,y5,y6,y7,y8,y9⟩:=HR.out.so.froz)
        | (go_at_call 20;refine (T3.out _ _ (by assumption) (by assumption) _).mono ?_;rintro e wf ⟨rfl,hb⟩;replace HR:=Lib.hid (HR.out.below hb);replace HX:=Lib.hid (HX.out.below hb);clear hb;clear p0 p1 p2 p3;clear z0 z1 z2 z3 z4 z5 z6 z7 z8 z9 y0 y1 y2 y3 y4 y5 y6 y7 y8 y9;obtain ⟨p0,p1,p2,p3⟩:=HX.out;obtain ⟨⟨z0,z1,z2,z3,z4,z5,z6,z7,z8,z9⟩,_⟩:=HR.out.so.at;obtain ⟨y0,y1,y2,y3,y4,y5,y6,y7,y8,y9⟩:=HR.out.so.froz)
        | (go_at_call 27;refine (T1.out _ _).mono ?_;rintro e wf ⟨rfl,hb⟩;replace HR:=Lib.hid (HR.out.below hb);replace HX:=Lib.hid (HX.out.below hb);clear hb;clear p0 p1 p2 p3;clear z0 z1 z2 z3 z4 z5 z6 z7 z8 z9 y0 y1 y2 y3 y4 y5 y6 y7 y8 y9;obtain ⟨p0,p1,p2,p3⟩:=HX.out;obtain ⟨⟨z0,z1,z2,z3,z4,z5,z6,z7,z8,z9⟩,_⟩:=HR.out.so.at;obtain ⟨y0,y1,y2,y3,y4,y5,y6,y7,y8,y9⟩:=HR.out.so.froz))
        change Code.wp _ _ _ _ (wf.setCell ⟨w.heap.size + 1,1,none⟩ (.int .i64 ((k:Int) + 1)))
        have hz:=HR.out.so.putN ((k:Int) + 1)
        simp only at hz
        replace HR:=Lib.hid (HR.out.frm ((Frm.refl (fun j => j=w.heap.size + 1) wf).setCell (p:=⟨w.heap.size + 1,1,none⟩) rfl (.int .i64 ((k:Int) + 1))) hz)
        generalize wf.setCell ⟨w.heap.size + 1,1,none⟩ (.int .i64 ((k:Int) + 1))=wz at *
        clear hz
        clear p0 p1 p2 p3
        clear z0 z1 z2 z3 z4 z5 z6 z7 z8 z9 y0 y1 y2 y3 y4 y5 y6 y7 y8 y9
        go_wp2
        go_roundw
        case rel => exact ⟨n + 1,by omega,by go_num,by rw [HO.out];exact HR⟩
        case measure => simp [intOf];omega
      · have d1:decide (kindV v=0)=false:=decide_eq_false c1
        have HO:=Lib.hid (HO2.out c1)
        clear HO1 HO2 c1
        go_upto_region 8 with (first
        | (go_at_call 49;refine (T2.out _ _).mono ?_;rintro e wf ⟨rfl,hb⟩;replace HR:=Lib.hid (HR.out.below hb);replace HX:=Lib.hid (HX.out.below hb);clear hb;clear p0 p1 p2 p3;clear z0 z1 z2 z3 z4 z5 z6 z7 z8 z9 y0 y1 y2 y3 y4 y5 y6 y7 y8 y9;obtain ⟨p0,p1,p2,p3⟩:=HX.out;obtain ⟨⟨z0,z1,z2,z3,z4,z5,z6,z7,z8,z9⟩,_⟩:=HR.out.so.at;obtain ⟨y0,y1,y2,y3,y4,y5,y6,y7,y8,y9⟩:=HR.out.so.froz)
        | (go_at_call 20;refine (T3.out _ _ (by assumption) (by assumption) _).mono ?_;rintro e wf ⟨rfl,hb⟩;replace HR:=Lib.hid (HR.out.below hb);replace HX:=Lib.hid (HX.out.below hb);clear hb;clear p0 p1 p2 p3;clear z0 z1 z2 z3 z4 z5 z6 z7 z8 z9 y0 y1 y2 y3 y4 y5 y6 y7 y8 y9;obtain ⟨p0,p1,p2,p3⟩:=HX.out;obtain ⟨⟨z0,z1,z2,z3,z4,z5,z6,z7,z8,z9⟩,_⟩:=HR.out.so.at;obtain ⟨y0,y1,y2,y3,y4,y5,y6,y7,y8,y9⟩:=HR.out.so.froz)
        | (go_at_call 27;refine (T1.out _ _).mono ?_;rintro e wf ⟨rfl,hb⟩;replace HR:=Lib.hid (HR.out.below hb);replace HX:=Lib.hid (HX.out.below hb);clear hb;clear p0 p1 p2 p3;clear z0 z1 z2 z3 z4 z5 z6 z7 z8 z9 y0 y1 y2 y3 y4 y5 y6 y7 y8 y9;obtain ⟨p0,p1,p2,p3⟩:=HX.out;obtain ⟨⟨z0,z1,z2,z3,z4,z5,z6,z7,z8,z9⟩,_⟩:=HR.out.so.at;obtain ⟨y0,y1,y2,y3,y4,y5,y6,y7,y8,y9⟩:=HR.out.so.froz))
        obtain ⟨u8,hu8⟩:∃ u8,u8=wf.alloc (.cells #[.int .i64 (plainV v).k,.int .i64 (plainV v).i,.bool (plainV v).b,.string (plainV v).s] 24):=⟨_,rfl⟩
        rw [← hu8]
        have hv:Slot u8 wf.heap.size (plainV v):=by rw [hu8];exact Slot.new wf (plainV v)
        have hr:StatAt w u8 ⟨c,k,la,ha⟩:=by rw [hu8];exact HR.out.alloc _
        have hgv:w.heap.size + 1 < wf.heap.size:=HR.out.so.lt
        have HGV:=Lib.hid hgv
        replace HR:=Lib.hid hr
        have HV:=Lib.hid hv
        clear hu8 hv hr hgv HX HE1 p0 p1 p2 p3 z0 z1 z2 z3 z4 z5 z6 z7 z8 z9 y0 y1 y2 y3 y4 y5 y6 y7 y8 y9
        generalize wf.heap.size=gv at *
        clear wf
        unfold lessR moreR at HO
        generalize plainV v=p at *
        obtain ⟨LO,hLO⟩:∃ x,x=(if kindV la=0∨ordV p la < 0 then p else la):=⟨_,rfl⟩
        obtain ⟨HI,hHI⟩:∃ x,x=(if kindV ha=0∨0 < ordV p ha then p else ha):=⟨_,rfl⟩
        rw [← hLO,← hHI] at HO
        have HLO:=Lib.hid hLO
        have HHI:=Lib.hid hHI
        clear hLO hHI d1
        obtain ⟨⟨z0,z1,z2,z3,z4,z5,z6,z7,z8,z9⟩,_⟩:=HR.out.so.at
        obtain ⟨y0,y1,y2,y3,y4,y5,y6,y7,y8,y9⟩:=HR.out.so.froz
        obtain ⟨⟨v0,v1,v2,v3⟩,_⟩:=HV.out.at
        by_cases c1:kindV la=0
        · have hL:=HLO.out
          rw [if_pos (.inl c1)] at hL
          replace hL:=hL.symm
          subst hL
          have d1:decide (kindV la=0)=true:=decide_eq_true c1
          clear c1
          go_upto_region 10 with (first
          | (go_at_call 49;refine (T2.out _ _).mono ?_;rintro e wf ⟨rfl,hb⟩;replace HR:=Lib.hid (HR.out.below hb);replace HV:=Lib.hid (HV.out.below hb);clear hb;clear v0 v1 v2 v3;clear z0 z1 z2 z3 z4 z5 z6 z7 z8 z9 y0 y1 y2 y3 y4 y5 y6 y7 y8 y9;obtain ⟨⟨v0,v1,v2,v3⟩,_⟩:=HV.out.at;obtain ⟨⟨z0,z1,z2,z3,z4,z5,z6,z7,z8,z9⟩,_⟩:=HR.out.so.at;obtain ⟨y0,y1,y2,y3,y4,y5,y6,y7,y8,y9⟩:=HR.out.so.froz)
          | (go_at_call 20;refine (T3.out _ _ (by assumption) (by assumption) _).mono ?_;rintro e wf ⟨rfl,hb⟩;replace HR:=Lib.hid (HR.out.below hb);replace HV:=Lib.hid (HV.out.below hb);clear hb;clear v0 v1 v2 v3;clear z0 z1 z2 z3 z4 z5 z6 z7 z8 z9 y0 y1 y2 y3 y4 y5 y6 y7 y8 y9;obtain ⟨⟨v0,v1,v2,v3⟩,_⟩:=HV.out.at;obtain ⟨⟨z0,z1,z2,z3,z4,z5,z6,z7,z8,z9⟩,_⟩:=HR.out.so.at;obtain ⟨y0,y1,y2,y3,y4,y5,y6,y7,y8,y9⟩:=HR.out.so.froz)
          | (go_at_call 27;refine (T1.out _ _).mono ?_;rintro e wf ⟨rfl,hb⟩;replace HR:=Lib.hid (HR.out.below hb);replace HV:=Lib.hid (HV.out.below hb);clear hb;clear v0 v1 v2 v3;clear z0 z1 z2 z3 z4 z5 z6 z7 z8 z9 y0 y1 y2 y3 y4 y5 y6 y7 y8 y9;obtain ⟨⟨v0,v1,v2,v3⟩,_⟩:=HV.out.at;obtain ⟨⟨z0,z1,z2,z3,z4,z5,z6,z7,z8,z9⟩,_⟩:=HR.out.so.at;obtain ⟨y0,y1,y2,y3,y4,y5,y6,y7,y8,y9⟩:=HR.out.so.froz))
          change Code.wp _ _ _ _ (putL wf (w.heap.size + 1) p)
          have hz:=HR.out.so.putL p
          try simp only at hz
          have hv:=HV.out.frm (putL_frm wf (w.heap.size + 1) p) (by have:=HGV.out;omega)
          replace HR:=Lib.hid (HR.out.frm (putL_frm wf (w.heap.size + 1) p) hz)
          replace HV:=Lib.hid hv
          generalize putL wf (w.heap.size + 1) p=wz at *
          clear z0 z1 z2 z3 z4 z5 z6 z7 z8 z9 y0 y1 y2 y3 y4 y5 y6 y7 y8 y9
          clear v0 v1 v2 v3
          clear hz hv
          obtain ⟨⟨z0,z1,z2,z3,z4,z5,z6,z7,z8,z9⟩,_⟩:=HR.out.so.at
          obtain ⟨y0,y1,y2,y3,y4,y5,y6,y7,y8,y9⟩:=HR.out.so.froz
          obtain ⟨⟨v0,v1,v2,v3⟩,_⟩:=HV.out.at
          (try clear d1);(try clear d3);(try clear c3)
          by_cases c1:kindV ha=0
          · have hL:=HHI.out
            rw [if_pos (.inl c1)] at hL
            replace hL:=hL.symm
            subst hL
            have d1:decide (kindV ha=0)=true:=decide_eq_true c1
            clear c1
            go_upto_region 4 with (first
            | (go_at_call 49;refine (T2.out _ _).mono ?_;rintro e wf ⟨rfl,hb⟩;replace HR:=Lib.hid (HR.out.below hb);replace HV:=Lib.hid (HV.out.below hb);clear hb;clear v0 v1 v2 v3;clear z0 z1 z2 z3 z4 z5 z6 z7 z8 z9 y0 y1 y2 y3 y4 y5 y6 y7 y8 y9;obtain ⟨⟨v0,v1,v2,v3⟩,_⟩:=HV.out.at;obtain ⟨⟨z0,z1,z2,z3,z4,z5,z6,z7,z8,z9⟩,_⟩:=HR.out.so.at;obtain ⟨y0,y1,y2,y3,y4,y5,y6,y7,y8,y9⟩:=HR.out.so.froz)
            | (go_at_call 20;refine (T3.out _ _ (by assumption) (by assumption) _).mono ?_;rintro e wf ⟨rfl,hb⟩;replace HR:=Lib.hid (HR.out.below hb);replace HV:=Lib.hid (HV.out.below hb);clear hb;clear v0 v1 v2 v3;clear z0 z1 z2 z3 z4 z5 z6 z7 z8 z9 y0 y1 y2 y3 y4 y5 y6 y7 y8 y9;obtain ⟨⟨v0,v1,v2,v3⟩,_⟩:=HV.out.at;obtain ⟨⟨z0,z1,z2,z3,z4,z5,z6,z7,z8,z9⟩,_⟩:=HR.out.so.at;obtain ⟨y0,y1,y2,y3,y4,y5,y6,y7,y8,y9⟩:=HR.out.so.froz)
            | (go_at_call 27;refine (T1.out _ _).mono ?_;rintro e wf ⟨rfl,hb⟩;replace HR:=Lib.hid (HR.out.below hb);replace HV:=Lib.hid (HV.out.below hb);clear hb;clear v0 v1 v2 v3;clear z0 z1 z2 z3 z4 z5 z6 z7 z8 z9 y0 y1 y2 y3 y4 y5 y6 y7 y8 y9;obtain ⟨⟨v0,v1,v2,v3⟩,_⟩:=HV.out.at;obtain ⟨⟨z0,z1,z2,z3,z4,z5,z6,z7,z8,z9⟩,_⟩:=HR.out.so.at;obtain ⟨y0,y1,y2,y3,y4,y5,y6,y7,y8,y9⟩:=HR.out.so.froz))
            change Code.wp _ _ _ _ (putH wf (w.heap.size + 1) p)
            have hz:=HR.out.so.putH p
            try simp only at hz
            have hv:=HV.out.frm (putH_frm wf (w.heap.size + 1) p) (by have:=HGV.out;omega)
            replace HR:=Lib.hid (HR.out.frm (putH_frm wf (w.heap.size + 1) p) hz)
            replace HV:=Lib.hid hv
            generalize putH wf (w.heap.size + 1) p=wz at *
            clear z0 z1 z2 z3 z4 z5 z6 z7 z8 z9 y0 y1 y2 y3 y4 y5 y6 y7 y8 y9
            clear v0 v1 v2 v3
            clear hz hv
            obtain ⟨⟨z0,z1,z2,z3,z4,z5,z6,z7,z8,z9⟩,_⟩:=HR.out.so.at
            obtain ⟨y0,y1,y2,y3,y4,y5,y6,y7,y8,y9⟩:=HR.out.so.froz
            obtain ⟨⟨v0,v1,v2,v3⟩,_⟩:=HV.out.at
            clear z0 z1 z2 z3 z4 z5 z6 z7 z8 z9 y0 y1 y2 y3 y4 y5 y6 y7 y8 y9
            clear v0 v1 v2 v3
            go_wp2
            go_roundw
            case rel => exact ⟨n + 1,by omega,by go_num,by rw [HO.out];exact HR⟩
            case measure => simp [intOf];omega
          by_cases c3:0 < ordV p ha
          · have hL:=HHI.out
            rw [if_pos (.inr c3)] at hL
            replace hL:=hL.symm
            subst hL
            have d1:decide (kindV ha=0)=false:=decide_eq_false c1
            have d3:decide (0 < ordV p ha)=true:=decide_eq_true c3
            clear c1
            go_upto_region 4 with (first
            | (go_at_call 49;refine (T2.out _ _).mono ?_;rintro e wf ⟨rfl,hb⟩;replace HR:=Lib.hid (HR.out.below hb);replace HV:=Lib.hid (HV.out.below hb);clear hb;clear v0 v1 v2 v3;clear z0 z1 z2 z3 z4 z5 z6 z7 z8 z9 y0 y1 y2 y3 y4 y5 y6 y7 y8 y9;obtain ⟨⟨v0,v1,v2,v3⟩,_⟩:=HV.out.at;obtain ⟨⟨z0,z1,z2,z3,z4,z5,z6,z7,z8,z9⟩,_⟩:=HR.out.so.at;obtain ⟨y0,y1,y2,y3,y4,y5,y6,y7,y8,y9⟩:=HR.out.so.froz)
            | (go_at_call 20;refine (T3.out _ _ (by assumption) (by assumption) _).mono ?_;rintro e wf ⟨rfl,hb⟩;replace HR:=Lib.hid (HR.out.below hb);replace HV:=Lib.hid (HV.out.below hb);clear hb;clear v0 v1 v2 v3;clear z0 z1 z2 z3 z4 z5 z6 z7 z8 z9 y0 y1 y2 y3 y4 y5 y6 y7 y8 y9;obtain ⟨⟨v0,v1,v2,v3⟩,_⟩:=HV.out.at;obtain ⟨⟨z0,z1,z2,z3,z4,z5,z6,z7,z8,z9⟩,_⟩:=HR.out.so.at;obtain ⟨y0,y1,y2,y3,y4,y5,y6,y7,y8,y9⟩:=HR.out.so.froz)
            | (go_at_call 27;refine (T1.out _ _).mono ?_;rintro e wf ⟨rfl,hb⟩;replace HR:=Lib.hid (HR.out.below hb);replace HV:=Lib.hid (HV.out.below hb);clear hb;clear v0 v1 v2 v3;clear z0 z1 z2 z3 z4 z5 z6 z7 z8 z9 y0 y1 y2 y3 y4 y5 y6 y7 y8 y9;obtain ⟨⟨v0,v1,v2,v3⟩,_⟩:=HV.out.at;obtain ⟨⟨z0,z1,z2,z3,z4,z5,z6,z7,z8,z9⟩,_⟩:=HR.out.so.at;obtain ⟨y0,y1,y2,y3,y4,y5,y6,y7,y8,y9⟩:=HR.out.so.froz))
            change Code.wp _ _ _ _ (putH wf (w.heap.size + 1) p)
            have hz:=HR.out.so.putH p
            try simp only at hz
            have hv:=HV.out.frm (putH_frm wf (w.heap.size + 1) p) (by have:=HGV.out;omega)
            replace HR:=Lib.hid (HR.out.frm (putH_frm wf (w.heap.size + 1) p) hz)
            replace HV:=Lib.hid hv
            generalize putH wf (w.heap.size + 1) p=wz at *
            clear z0 z1 z2 z3 z4 z5 z6 z7 z8 z9 y0 y1 y2 y3 y4 y5 y6 y7 y8 y9
            clear v0 v1 v2 v3
            clear hz hv
            obtain ⟨⟨z0,z1,z2,z3,z4,z5,z6,z7,z8,z9⟩,_⟩:=HR.out.so.at
            obtain ⟨y0,y1,y2,y3,y4,y5,y6,y7,y8,y9⟩:=HR.out.so.froz
            obtain ⟨⟨v0,v1,v2,v3⟩,_⟩:=HV.out.at
            clear z0 z1 z2 z3 z4 z5 z6 z7 z8 z9 y0 y1 y2 y3 y4 y5 y6 y7 y8 y9
            clear v0 v1 v2 v3
            go_wp2
            go_roundw
            case rel => exact ⟨n + 1,by omega,by go_num,by rw [HO.out];exact HR⟩
            case measure => simp [intOf];omega
          · have hL:=HHI.out
            rw [if_neg (by rintro (h | h);exact c1 h;omega)] at hL
            replace hL:=hL.symm
            subst hL
            have d1:decide (kindV ha=0)=false:=decide_eq_false c1
            have d3:decide (0 < ordV p ha)=false:=decide_eq_false (by omega)
            clear c1
            go_upto_region 4 with (first
            | (go_at_call 49;refine (T2.out _ _).mono ?_;rintro e wf ⟨rfl,hb⟩;replace HR:=Lib.hid (HR.out.below hb);replace HV:=Lib.hid (HV.out.below hb);clear hb;clear v0 v1 v2 v3;clear z0 z1 z2 z3 z4 z5 z6 z7 z8 z9 y0 y1 y2 y3 y4 y5 y6 y7 y8 y9;obtain ⟨⟨v0,v1,v2,v3⟩,_⟩:=HV.out.at;obtain ⟨⟨z0,z1,z2,z3,z4,z5,z6,z7,z8,z9⟩,_⟩:=HR.out.so.at;obtain ⟨y0,y1,y2,y3,y4,y5,y6,y7,y8,y9⟩:=HR.out.so.froz)
            | (go_at_call 20;refine (T3.out _ _ (by assumption) (by assumption) _).mono ?_;rintro e wf ⟨rfl,hb⟩;replace HR:=Lib.hid (HR.out.below hb);replace HV:=Lib.hid (HV.out.below hb);clear hb;clear v0 v1 v2 v3;clear z0 z1 z2 z3 z4 z5 z6 z7 z8 z9 y0 y1 y2 y3 y4 y5 y6 y7 y8 y9;obtain ⟨⟨v0,v1,v2,v3⟩,_⟩:=HV.out.at;obtain ⟨⟨z0,z1,z2,z3,z4,z5,z6,z7,z8,z9⟩,_⟩:=HR.out.so.at;obtain ⟨y0,y1,y2,y3,y4,y5,y6,y7,y8,y9⟩:=HR.out.so.froz)
            | (go_at_call 27;refine (T1.out _ _).mono ?_;rintro e wf ⟨rfl,hb⟩;replace HR:=Lib.hid (HR.out.below hb);replace HV:=Lib.hid (HV.out.below hb);clear hb;clear v0 v1 v2 v3;clear z0 z1 z2 z3 z4 z5 z6 z7 z8 z9 y0 y1 y2 y3 y4 y5 y6 y7 y8 y9;obtain ⟨⟨v0,v1,v2,v3⟩,_⟩:=HV.out.at;obtain ⟨⟨z0,z1,z2,z3,z4,z5,z6,z7,z8,z9⟩,_⟩:=HR.out.so.at;obtain ⟨y0,y1,y2,y3,y4,y5,y6,y7,y8,y9⟩:=HR.out.so.froz))
            clear z0 z1 z2 z3 z4 z5 z6 z7 z8 z9 y0 y1 y2 y3 y4 y5 y6 y7 y8 y9
            clear v0 v1 v2 v3
            go_wp2
            go_roundw
            case rel => exact ⟨n + 1,by omega,by go_num,by rw [HO.out];exact HR⟩
            case measure => simp [intOf];omega
        by_cases c3:ordV p la < 0
        · have hL:=HLO.out
          rw [if_pos (.inr c3)] at hL
          replace hL:=hL.symm
          subst hL
          have d1:decide (kindV la=0)=false:=decide_eq_false c1
          have d3:decide (ordV p la < 0)=true:=decide_eq_true c3
          clear c1
          go_upto_region 10 with (first
          | (go_at_call 49;refine (T2.out _ _).mono ?_;rintro e wf ⟨rfl,hb⟩;replace HR:=Lib.hid (HR.out.below hb);replace HV:=Lib.hid (HV.out.below hb);clear hb;clear v0 v1 v2 v3;clear z0 z1 z2 z3 z4 z5 z6 z7 z8 z9 y0 y1 y2 y3 y4 y5 y6 y7 y8 y9;obtain ⟨⟨v0,v1,v2,v3⟩,_⟩:=HV.out.at;obtain ⟨⟨z0,z1,z2,z3,z4,z5,z6,z7,z8,z9⟩,_⟩:=HR.out.so.at;obtain ⟨y0,y1,y2,y3,y4,y5,y6,y7,y8,y9⟩:=HR.out.so.froz)
          | (go_at_call 20;refine (T3.out _ _ (by assumption) (by assumption) _).mono ?_;rintro e wf ⟨rfl,hb⟩;replace HR:=Lib.hid (HR.out.below hb);replace HV:=Lib.hid (HV.out.below hb);clear hb;clear v0 v1 v2 v3;clear z0 z1 z2 z3 z4 z5 z6 z7 z8 z9 y0 y1 y2 y3 y4 y5 y6 y7 y8 y9;obtain ⟨⟨v0,v1,v2,v3⟩,_⟩:=HV.out.at;obtain ⟨⟨z0,z1,z2,z3,z4,z5,z6,z7,z8,z9⟩,_⟩:=HR.out.so.at;obtain ⟨y0,y1,y2,y3,y4,y5,y6,y7,y8,y9⟩:=HR.out.so.froz)
          | (go_at_call 27;refine (T1.out _ _).mono ?_;rintro e wf ⟨rfl,hb⟩;replace HR:=Lib.hid (HR.out.below hb);replace HV:=Lib.hid (HV.out.below hb);clear hb;clear v0 v1 v2 v3;clear z0 z1 z2 z3 z4 z5 z6 z7 z8 z9 y0 y1 y2 y3 y4 y5 y6 y7 y8 y9;obtain ⟨⟨v0,v1,v2,v3⟩,_⟩:=HV.out.at;obtain ⟨⟨z0,z1,z2,z3,z4,z5,z6,z7,z8,z9⟩,_⟩:=HR.out.so.at;obtain ⟨y0,y1,y2,y3,y4,y5,y6,y7,y8,y9⟩:=HR.out.so.froz))
          change Code.wp _ _ _ _ (putL wf (w.heap.size + 1) p)
          have hz:=HR.out.so.putL p
          try simp only at hz
          have hv:=HV.out.frm (putL_frm wf (w.heap.size + 1) p) (by have:=HGV.out;omega)
          replace HR:=Lib.hid (HR.out.frm (putL_frm wf (w.heap.size + 1) p) hz)
          replace HV:=Lib.hid hv
          generalize putL wf (w.heap.size + 1) p=wz at *
          clear z0 z1 z2 z3 z4 z5 z6 z7 z8 z9 y0 y1 y2 y3 y4 y5 y6 y7 y8 y9
          clear v0 v1 v2 v3
          clear hz hv
          obtain ⟨⟨z0,z1,z2,z3,z4,z5,z6,z7,z8,z9⟩,_⟩:=HR.out.so.at
          obtain ⟨y0,y1,y2,y3,y4,y5,y6,y7,y8,y9⟩:=HR.out.so.froz
          obtain ⟨⟨v0,v1,v2,v3⟩,_⟩:=HV.out.at
          (try clear d1);(try clear d3);(try clear c3)
          by_cases c1:kindV ha=0
          · have hL:=HHI.out
            rw [if_pos (.inl c1)] at hL
            replace hL:=hL.symm
            subst hL
            have d1:decide (kindV ha=0)=true:=decide_eq_true c1
            clear c1
            go_upto_region 4 with (first
            | (go_at_call 49;refine (T2.out _ _).mono ?_;rintro e wf ⟨rfl,hb⟩;replace HR:=Lib.hid (HR.out.below hb);replace HV:=Lib.hid (HV.out.below hb);clear hb;clear v0 v1 v2 v3;clear z0 z1 z2 z3 z4 z5 z6 z7 z8 z9 y0 y1 y2 y3 y4 y5 y6 y7 y8 y9;obtain ⟨⟨v0,v1,v2,v3⟩,_⟩:=HV.out.at;obtain ⟨⟨z0,z1,z2,z3,z4,z5,z6,z7,z8,z9⟩,_⟩:=HR.out.so.at;obtain ⟨y0,y1,y2,y3,y4,y5,y6,y7,y8,y9⟩:=HR.out.so.froz)
            | (go_at_call 20;refine (T3.out _ _ (by assumption) (by assumption) _).mono ?_;rintro e wf ⟨rfl,hb⟩;replace HR:=Lib.hid (HR.out.below hb);replace HV:=Lib.hid (HV.out.below hb);clear hb;clear v0 v1 v2 v3;clear z0 z1 z2 z3 z4 z5 z6 z7 z8 z9 y0 y1 y2 y3 y4 y5 y6 y7 y8 y9;obtain ⟨⟨v0,v1,v2,v3⟩,_⟩:=HV.out.at;obtain ⟨⟨z0,z1,z2,z3,z4,z5,z6,z7,z8,z9⟩,_⟩:=HR.out.so.at;obtain ⟨y0,y1,y2,y3,y4,y5,y6,y7,y8,y9⟩:=HR.out.so.froz)
            | (go_at_call 27;refine (T1.out _ _).mono ?_;rintro e wf ⟨rfl,hb⟩;replace HR:=Lib.hid (HR.out.below hb);replace HV:=Lib.hid (HV.out.below hb);clear hb;clear v0 v1 v2 v3;clear z0 z1 z2 z3 z4 z5 z6 z7 z8 z9 y0 y1 y2 y3 y4 y5 y6 y7 y8 y9;obtain ⟨⟨v0,v1,v2,v3⟩,_⟩:=HV.out.at;obtain ⟨⟨z0,z1,z2,z3,z4,z5,z6,z7,z8,z9⟩,_⟩:=HR.out.so.at;obtain ⟨y0,y1,y2,y3,y4,y5,y6,y7,y8,y9⟩:=HR.out.so.froz))
            change Code.wp _ _ _ _ (putH wf (w.heap.size + 1) p)
            have hz:=HR.out.so.putH p
            try simp only at hz
            have hv:=HV.out.frm (putH_frm wf (w.heap.size + 1) p) (by have:=HGV.out;omega)
            replace HR:=Lib.hid (HR.out.frm (putH_frm wf (w.heap.size + 1) p) hz)
            replace HV:=Lib.hid hv
            generalize putH wf (w.heap.size + 1) p=wz at *
            clear z0 z1 z2 z3 z4 z5 z6 z7 z8 z9 y0 y1 y2 y3 y4 y5 y6 y7 y8 y9
            clear v0 v1 v2 v3
            clear hz hv
            obtain ⟨⟨z0,z1,z2,z3,z4,z5,z6,z7,z8,z9⟩,_⟩:=HR.out.so.at
            obtain ⟨y0,y1,y2,y3,y4,y5,y6,y7,y8,y9⟩:=HR.out.so.froz
            obtain ⟨⟨v0,v1,v2,v3⟩,_⟩:=HV.out.at
            clear z0 z1 z2 z3 z4 z5 z6 z7 z8 z9 y0 y1 y2 y3 y4 y5 y6 y7 y8 y9
            clear v0 v1 v2 v3
            go_wp2
            go_roundw
            case rel => exact ⟨n + 1,by omega,by go_num,by rw [HO.out];exact HR⟩
            case measure => simp [intOf];omega
          by_cases c3:0 < ordV p ha
          · have hL:=HHI.out
            rw [if_pos (.inr c3)] at hL
            replace hL:=hL.symm
            subst hL
            have d1:decide (kindV ha=0)=false:=decide_eq_false c1
            have d3:decide (0 < ordV p ha)=true:=decide_eq_true c3
            clear c1
            go_upto_region 4 with (first
            | (go_at_call 49;refine (T2.out _ _).mono ?_;rintro e wf ⟨rfl,hb⟩;replace HR:=Lib.hid (HR.out.below hb);replace HV:=Lib.hid (HV.out.below hb);clear hb;clear v0 v1 v2 v3;clear z0 z1 z2 z3 z4 z5 z6 z7 z8 z9 y0 y1 y2 y3 y4 y5 y6 y7 y8 y9;obtain ⟨⟨v0,v1,v2,v3⟩,_⟩:=HV.out.at;obtain ⟨⟨z0,z1,z2,z3,z4,z5,z6,z7,z8,z9⟩,_⟩:=HR.out.so.at;obtain ⟨y0,y1,y2,y3,y4,y5,y6,y7,y8,y9⟩:=HR.out.so.froz)
            | (go_at_call 20;refine (T3.out _ _ (by assumption) (by assumption) _).mono ?_;rintro e wf ⟨rfl,hb⟩;replace HR:=Lib.hid (HR.out.below hb);replace HV:=Lib.hid (HV.out.below hb);clear hb;clear v0 v1 v2 v3;clear z0 z1 z2 z3 z4 z5 z6 z7 z8 z9 y0 y1 y2 y3 y4 y5 y6 y7 y8 y9;obtain ⟨⟨v0,v1,v2,v3⟩,_⟩:=HV.out.at;obtain ⟨⟨z0,z1,z2,z3,z4,z5,z6,z7,z8,z9⟩,_⟩:=HR.out.so.at;obtain ⟨y0,y1,y2,y3,y4,y5,y6,y7,y8,y9⟩:=HR.out.so.froz)
            | (go_at_call 27;refine (T1.out _ _).mono ?_;rintro e wf ⟨rfl,hb⟩;replace HR:=Lib.hid (HR.out.below hb);replace HV:=Lib.hid (HV.out.below hb);clear hb;clear v0 v1 v2 v3;clear z0 z1 z2 z3 z4 z5 z6 z7 z8 z9 y0 y1 y2 y3 y4 y5 y6 y7 y8 y9;obtain ⟨⟨v0,v1,v2,v3⟩,_⟩:=HV.out.at;obtain ⟨⟨z0,z1,z2,z3,z4,z5,z6,z7,z8,z9⟩,_⟩:=HR.out.so.at;obtain ⟨y0,y1,y2,y3,y4,y5,y6,y7,y8,y9⟩:=HR.out.so.froz))
            change Code.wp _ _ _ _ (putH wf (w.heap.size + 1) p)
            have hz:=HR.out.so.putH p
            try simp only at hz
            have hv:=HV.out.frm (putH_frm wf (w.heap.size + 1) p) (by have:=HGV.out;omega)
            replace HR:=Lib.hid (HR.out.frm (putH_frm wf (w.heap.size + 1) p) hz)
            replace HV:=Lib.hid hv
            generalize putH wf (w.heap.size + 1) p=wz at *
            clear z0 z1 z2 z3 z4 z5 z6 z7 z8 z9 y0 y1 y2 y3 y4 y5 y6 y7 y8 y9
            clear v0 v1 v2 v3
            clear hz hv
            obtain ⟨⟨z0,z1,z2,z3,z4,z5,z6,z7,z8,z9⟩,_⟩:=HR.out.so.at
            obtain ⟨y0,y1,y2,y3,y4,y5,y6,y7,y8,y9⟩:=HR.out.so.froz
            obtain ⟨⟨v0,v1,v2,v3⟩,_⟩:=HV.out.at
            clear z0 z1 z2 z3 z4 z5 z6 z7 z8 z9 y0 y1 y2 y3 y4 y5 y6 y7 y8 y9
            clear v0 v1 v2 v3
            go_wp2
            go_roundw
            case rel => exact ⟨n + 1,by omega,by go_num,by rw [HO.out];exact HR⟩
            case measure => simp [intOf];omega
          · have hL:=HHI.out
            rw [if_neg (by rintro (h | h);exact c1 h;omega)] at hL
            replace hL:=hL.symm
            subst hL
            have d1:decide (kindV ha=0)=false:=decide_eq_false c1
            have d3:decide (0 < ordV p ha)=false:=decide_eq_false (by omega)
            clear c1
            go_upto_region 4 with (first
            | (go_at_call 49;refine (T2.out _ _).mono ?_;rintro e wf ⟨rfl,hb⟩;replace HR:=Lib.hid (HR.out.below hb);replace HV:=Lib.hid (HV.out.below hb);clear hb;clear v0 v1 v2 v3;clear z0 z1 z2 z3 z4 z5 z6 z7 z8 z9 y0 y1 y2 y3 y4 y5 y6 y7 y8 y9;obtain ⟨⟨v0,v1,v2,v3⟩,_⟩:=HV.out.at;obtain ⟨⟨z0,z1,z2,z3,z4,z5,z6,z7,z8,z9⟩,_⟩:=HR.out.so.at;obtain ⟨y0,y1,y2,y3,y4,y5,y6,y7,y8,y9⟩:=HR.out.so.froz)
            | (go_at_call 20;refine (T3.out _ _ (by assumption) (by assumption) _).mono ?_;rintro e wf ⟨rfl,hb⟩;replace HR:=Lib.hid (HR.out.below hb);replace HV:=Lib.hid (HV.out.below hb);clear hb;clear v0 v1 v2 v3;clear z0 z1 z2 z3 z4 z5 z6 z7 z8 z9 y0 y1 y2 y3 y4 y5 y6 y7 y8 y9;obtain ⟨⟨v0,v1,v2,v3⟩,_⟩:=HV.out.at;obtain ⟨⟨z0,z1,z2,z3,z4,z5,z6,z7,z8,z9⟩,_⟩:=HR.out.so.at;obtain ⟨y0,y1,y2,y3,y4,y5,y6,y7,y8,y9⟩:=HR.out.so.froz)
            | (go_at_call 27;refine (T1.out _ _).mono ?_;rintro e wf ⟨rfl,hb⟩;replace HR:=Lib.hid (HR.out.below hb);replace HV:=Lib.hid (HV.out.below hb);clear hb;clear v0 v1 v2 v3;clear z0 z1 z2 z3 z4 z5 z6 z7 z8 z9 y0 y1 y2 y3 y4 y5 y6 y7 y8 y9;obtain ⟨⟨v0,v1,v2,v3⟩,_⟩:=HV.out.at;obtain ⟨⟨z0,z1,z2,z3,z4,z5,z6,z7,z8,z9⟩,_⟩:=HR.out.so.at;obtain ⟨y0,y1,y2,y3,y4,y5,y6,y7,y8,y9⟩:=HR.out.so.froz))
            clear z0 z1 z2 z3 z4 z5 z6 z7 z8 z9 y0 y1 y2 y3 y4 y5 y6 y7 y8 y9
            clear v0 v1 v2 v3
            go_wp2
            go_roundw
            case rel => exact ⟨n + 1,by omega,by go_num,by rw [HO.out];exact HR⟩
            case measure => simp [intOf];omega
        · have hL:=HLO.out
          rw [if_neg (by rintro (h | h);exact c1 h;omega)] at hL
          replace hL:=hL.symm
          subst hL
          have d1:decide (kindV la=0)=false:=decide_eq_false c1
          have d3:decide (ordV p la < 0)=false:=decide_eq_false (by omega)
          clear c1
          go_upto_region 10 with (first
          | (go_at_call 49;refine (T2.out _ _).mono ?_;rintro e wf ⟨rfl,hb⟩;replace HR:=Lib.hid (HR.out.below hb);replace HV:=Lib.hid (HV.out.below hb);clear hb;clear v0 v1 v2 v3;clear z0 z1 z2 z3 z4 z5 z6 z7 z8 z9 y0 y1 y2 y3 y4 y5 y6 y7 y8 y9;obtain ⟨⟨v0,v1,v2,v3⟩,_⟩:=HV.out.at;obtain ⟨⟨z0,z1,z2,z3,z4,z5,z6,z7,z8,z9⟩,_⟩:=HR.out.so.at;obtain ⟨y0,y1,y2,y3,y4,y5,y6,y7,y8,y9⟩:=HR.out.so.froz)
          | (go_at_call 20;refine (T3.out _ _ (by assumption) (by assumption) _).mono ?_;rintro e wf ⟨rfl,hb⟩;replace HR:=Lib.hid (HR.out.below hb);replace HV:=Lib.hid (HV.out.below hb);clear hb;clear v0 v1 v2 v3;clear z0 z1 z2 z3 z4 z5 z6 z7 z8 z9 y0 y1 y2 y3 y4 y5 y6 y7 y8 y9;obtain ⟨⟨v0,v1,v2,v3⟩,_⟩:=HV.out.at;obtain ⟨⟨z0,z1,z2,z3,z4,z5,z6,z7,z8,z9⟩,_⟩:=HR.out.so.at;obtain ⟨y0,y1,y2,y3,y4,y5,y6,y7,y8,y9⟩:=HR.out.so.froz)
          | (go_at_call 27;refine (T1.out _ _).mono ?_;rintro e wf ⟨rfl,hb⟩;replace HR:=Lib.hid (HR.out.below hb);replace HV:=Lib.hid (HV.out.below hb);clear hb;clear v0 v1 v2 v3;clear z0 z1 z2 z3 z4 z5 z6 z7 z8 z9 y0 y1 y2 y3 y4 y5 y6 y7 y8 y9;obtain ⟨⟨v0,v1,v2,v3⟩,_⟩:=HV.out.at;obtain ⟨⟨z0,z1,z2,z3,z4,z5,z6,z7,z8,z9⟩,_⟩:=HR.out.so.at;obtain ⟨y0,y1,y2,y3,y4,y5,y6,y7,y8,y9⟩:=HR.out.so.froz))
          (try clear d1);(try clear d3);(try clear c3)
          by_cases c1:kindV ha=0
          · have hL:=HHI.out
            rw [if_pos (.inl c1)] at hL
            replace hL:=hL.symm
            subst hL
            have d1:decide (kindV ha=0)=true:=decide_eq_true c1
            clear c1
            go_upto_region 4 with (first
            | (go_at_call 49;refine (T2.out _ _).mono ?_;rintro e wf ⟨rfl,hb⟩;replace HR:=Lib.hid (HR.out.below hb);replace HV:=Lib.hid (HV.out.below hb);clear hb;clear v0 v1 v2 v3;clear z0 z1 z2 z3 z4 z5 z6 z7 z8 z9 y0 y1 y2 y3 y4 y5 y6 y7 y8 y9;obtain ⟨⟨v0,v1,v2,v3⟩,_⟩:=HV.out.at;obtain ⟨⟨z0,z1,z2,z3,z4,z5,z6,z7,z8,z9⟩,_⟩:=HR.out.so.at;obtain ⟨y0,y1,y2,y3,y4,y5,y6,y7,y8,y9⟩:=HR.out.so.froz)
            | (go_at_call 20;refine (T3.out _ _ (by assumption) (by assumption) _).mono ?_;rintro e wf ⟨rfl,hb⟩;replace HR:=Lib.hid (HR.out.below hb);replace HV:=Lib.hid (HV.out.below hb);clear hb;clear v0 v1 v2 v3;clear z0 z1 z2 z3 z4 z5 z6 z7 z8 z9 y0 y1 y2 y3 y4 y5 y6 y7 y8 y9;obtain ⟨⟨v0,v1,v2,v3⟩,_⟩:=HV.out.at;obtain ⟨⟨z0,z1,z2,z3,z4,z5,z6,z7,z8,z9⟩,_⟩:=HR.out.so.at;obtain ⟨y0,y1,y2,y3,y4,y5,y6,y7,y8,y9⟩:=HR.out.so.froz)
            | (go_at_call 27;refine (T1.out _ _).mono ?_;rintro e wf ⟨rfl,hb⟩;replace HR:=Lib.hid (HR.out.below hb);replace HV:=Lib.hid (HV.out.below hb);clear hb;clear v0 v1 v2 v3;clear z0 z1 z2 z3 z4 z5 z6 z7 z8 z9 y0 y1 y2 y3 y4 y5 y6 y7 y8 y9;obtain ⟨⟨v0,v1,v2,v3⟩,_⟩:=HV.out.at;obtain ⟨⟨z0,z1,z2,z3,z4,z5,z6,z7,z8,z9⟩,_⟩:=HR.out.so.at;obtain ⟨y0,y1,y2,y3,y4,y5,y6,y7,y8,y9⟩:=HR.out.so.froz))
            change Code.wp _ _ _ _ (putH wf (w.heap.size + 1) p)
            have hz:=HR.out.so.putH p
            try simp only at hz
            have hv:=HV.out.frm (putH_frm wf (w.heap.size + 1) p) (by have:=HGV.out;omega)
            replace HR:=Lib.hid (HR.out.frm (putH_frm wf (w.heap.size + 1) p) hz)
            replace HV:=Lib.hid hv
            generalize putH wf (w.heap.size + 1) p=wz at *
            clear z0 z1 z2 z3 z4 z5 z6 z7 z8 z9 y0 y1 y2 y3 y4 y5 y6 y7 y8 y9
            clear v0 v1 v2 v3
            clear hz hv
            obtain ⟨⟨z0,z1,z2,z3,z4,z5,z6,z7,z8,z9⟩,_⟩:=HR.out.so.at
            obtain ⟨y0,y1,y2,y3,y4,y5,y6,y7,y8,y9⟩:=HR.out.so.froz
            obtain ⟨⟨v0,v1,v2,v3⟩,_⟩:=HV.out.at
            clear z0 z1 z2 z3 z4 z5 z6 z7 z8 z9 y0 y1 y2 y3 y4 y5 y6 y7 y8 y9
            clear v0 v1 v2 v3
            go_wp2
            go_roundw
            case rel => exact ⟨n + 1,by omega,by go_num,by rw [HO.out];exact HR⟩
            case measure => simp [intOf];omega
          by_cases c3:0 < ordV p ha
          · have hL:=HHI.out
            rw [if_pos (.inr c3)] at hL
            replace hL:=hL.symm
            subst hL
            have d1:decide (kindV ha=0)=false:=decide_eq_false c1
            have d3:decide (0 < ordV p ha)=true:=decide_eq_true c3
            clear c1
            go_upto_region 4 with (first
            | (go_at_call 49;refine (T2.out _ _).mono ?_;rintro e wf ⟨rfl,hb⟩;replace HR:=Lib.hid (HR.out.below hb);replace HV:=Lib.hid (HV.out.below hb);clear hb;clear v0 v1 v2 v3;clear z0 z1 z2 z3 z4 z5 z6 z7 z8 z9 y0 y1 y2 y3 y4 y5 y6 y7 y8 y9;obtain ⟨⟨v0,v1,v2,v3⟩,_⟩:=HV.out.at;obtain ⟨⟨z0,z1,z2,z3,z4,z5,z6,z7,z8,z9⟩,_⟩:=HR.out.so.at;obtain ⟨y0,y1,y2,y3,y4,y5,y6,y7,y8,y9⟩:=HR.out.so.froz)
            | (go_at_call 20;refine (T3.out _ _ (by assumption) (by assumption) _).mono ?_;rintro e wf ⟨rfl,hb⟩;replace HR:=Lib.hid (HR.out.below hb);replace HV:=Lib.hid (HV.out.below hb);clear hb;clear v0 v1 v2 v3;clear z0 z1 z2 z3 z4 z5 z6 z7 z8 z9 y0 y1 y2 y3 y4 y5 y6 y7 y8 y9;obtain ⟨⟨v0,v1,v2,v3⟩,_⟩:=HV.out.at;obtain ⟨⟨z0,z1,z2,z3,z4,z5,z6,z7,z8,z9⟩,_⟩:=HR.out.so.at;obtain ⟨y0,y1,y2,y3,y4,y5,y6,y7,y8,y9⟩:=HR.out.so.froz)
            | (go_at_call 27;refine (T1.out _ _).mono ?_;rintro e wf ⟨rfl,hb⟩;replace HR:=Lib.hid (HR.out.below hb);replace HV:=Lib.hid (HV.out.below hb);clear hb;clear v0 v1 v2 v3;clear z0 z1 z2 z3 z4 z5 z6 z7 z8 z9 y0 y1 y2 y3 y4 y5 y6 y7 y8 y9;obtain ⟨⟨v0,v1,v2,v3⟩,_⟩:=HV.out.at;obtain ⟨⟨z0,z1,z2,z3,z4,z5,z6,z7,z8,z9⟩,_⟩:=HR.out.so.at;obtain ⟨y0,y1,y2,y3,y4,y5,y6,y7,y8,y9⟩:=HR.out.so.froz))
            change Code.wp _ _ _ _ (putH wf (w.heap.size + 1) p)
            have hz:=HR.out.so.putH p
            try simp only at hz
            have hv:=HV.out.frm (putH_frm wf (w.heap.size + 1) p) (by have:=HGV.out;omega)
            replace HR:=Lib.hid (HR.out.frm (putH_frm wf (w.heap.size + 1) p) hz)
            replace HV:=Lib.hid hv
            generalize putH wf (w.heap.size + 1) p=wz at *
            clear z0 z1 z2 z3 z4 z5 z6 z7 z8 z9 y0 y1 y2 y3 y4 y5 y6 y7 y8 y9
            clear v0 v1 v2 v3
            clear hz hv
            obtain ⟨⟨z0,z1,z2,z3,z4,z5,z6,z7,z8,z9⟩,_⟩:=HR.out.so.at
            obtain ⟨y0,y1,y2,y3,y4,y5,y6,y7,y8,y9⟩:=HR.out.so.froz
            obtain ⟨⟨v0,v1,v2,v3⟩,_⟩:=HV.out.at
            clear z0 z1 z2 z3 z4 z5 z6 z7 z8 z9 y0 y1 y2 y3 y4 y5 y6 y7 y8 y9
            clear v0 v1 v2 v3
            go_wp2
            go_roundw
            case rel => exact ⟨n + 1,by omega,by go_num,by rw [HO.out];exact HR⟩
            case measure => simp [intOf];omega
          · have hL:=HHI.out
            rw [if_neg (by rintro (h | h);exact c1 h;omega)] at hL
            replace hL:=hL.symm
            subst hL
            have d1:decide (kindV ha=0)=false:=decide_eq_false c1
            have d3:decide (0 < ordV p ha)=false:=decide_eq_false (by omega)
            clear c1
            go_upto_region 4 with (first
            | (go_at_call 49;refine (T2.out _ _).mono ?_;rintro e wf ⟨rfl,hb⟩;replace HR:=Lib.hid (HR.out.below hb);replace HV:=Lib.hid (HV.out.below hb);clear hb;clear v0 v1 v2 v3;clear z0 z1 z2 z3 z4 z5 z6 z7 z8 z9 y0 y1 y2 y3 y4 y5 y6 y7 y8 y9;obtain ⟨⟨v0,v1,v2,v3⟩,_⟩:=HV.out.at;obtain ⟨⟨z0,z1,z2,z3,z4,z5,z6,z7,z8,z9⟩,_⟩:=HR.out.so.at;obtain ⟨y0,y1,y2,y3,y4,y5,y6,y7,y8,y9⟩:=HR.out.so.froz)
            | (go_at_call 20;refine (T3.out _ _ (by assumption) (by assumption) _).mono ?_;rintro e wf ⟨rfl,hb⟩;replace HR:=Lib.hid (HR.out.below hb);replace HV:=Lib.hid (HV.out.below hb);clear hb;clear v0 v1 v2 v3;clear z0 z1 z2 z3 z4 z5 z6 z7 z8 z9 y0 y1 y2 y3 y4 y5 y6 y7 y8 y9;obtain ⟨⟨v0,v1,v2,v3⟩,_⟩:=HV.out.at;obtain ⟨⟨z0,z1,z2,z3,z4,z5,z6,z7,z8,z9⟩,_⟩:=HR.out.so.at;obtain ⟨y0,y1,y2,y3,y4,y5,y6,y7,y8,y9⟩:=HR.out.so.froz)
            | (go_at_call 27;refine (T1.out _ _).mono ?_;rintro e wf ⟨rfl,hb⟩;replace HR:=Lib.hid (HR.out.below hb);replace HV:=Lib.hid (HV.out.below hb);clear hb;clear v0 v1 v2 v3;clear z0 z1 z2 z3 z4 z5 z6 z7 z8 z9 y0 y1 y2 y3 y4 y5 y6 y7 y8 y9;obtain ⟨⟨v0,v1,v2,v3⟩,_⟩:=HV.out.at;obtain ⟨⟨z0,z1,z2,z3,z4,z5,z6,z7,z8,z9⟩,_⟩:=HR.out.so.at;obtain ⟨y0,y1,y2,y3,y4,y5,y6,y7,y8,y9⟩:=HR.out.so.froz))
            clear z0 z1 z2 z3 z4 z5 z6 z7 z8 z9 y0 y1 y2 y3 y4 y5 y6 y7 y8 y9
            clear v0 v1 v2 v3
            go_wp2
            go_roundw
            case rel => exact ⟨n + 1,by omega,by go_num,by rw [HO.out];exact HR⟩
            case measure => simp [intOf];omega
    · obtain rfl:n=vs.length:=by omega
      rw [List.take_length,← HRR.out] at HR
      obtain ⟨⟨z0,z1,z2,z3,z4,z5,z6,z7,z8,z9⟩,_⟩:=HR.out.so.at
      obtain ⟨y0,y1,y2,y3,y4,y5,y6,y7,y8,y9⟩:=HR.out.so.froz
      obtain ⟨⟨q0,q1,q2,q3,q4,q5,q6,q7,q8,q9⟩,_⟩:=HR.out.sr.at
      obtain ⟨r0,r1,r2,r3,r4,r5,r6,r7,r8,r9⟩:=HR.out.sr.froz
      clear y0 y1 y2 y3 y4 y5 y6 y7 y8 y9
      go_upto_region 12 with fail
      repeat go_step
      change bodyPost _ _ _ _ _ (putS wr w.heap.size R)
      have hp:=HR.out.sr.put R
      have hb:=putS_below (s:=R) HR.out.hb (Nat.le_refl w.heap.size)
      generalize putS wr w.heap.size R=w4 at *
      clear z0 z1 z2 z3 z4 z5 z6 z7 z8 z9 q0 q1 q2 q3 q4 q5 q6 q7 q8 q9 r0 r1 r2 r3 r4 r5 r6 r7 r8 r9
      obtain ⟨⟨z0,z1,z2,z3,z4,z5,z6,z7,z8,z9⟩,_⟩:=hp.at
      refine bodyPost_ret (v:=.agg #[.int .i64 R.c,.int .i64 R.n,.int .i64 R.lo.k,.int .i64 R.lo.i,.bool R.lo.b,.string R.lo.s,.int .i64 R.hi.k,.int .i64 R.hi.i,.bool R.hi.b,.string R.hi.s]) (by simp [results,Tryz.results45,go_sem,z0,z1,z2,z3,z4,z5,z6,z7,z8,z9]) rfl ?_
      exact ⟨rfl,hb⟩
end Go.Proofs.YtfbmlefhjoblbaaGreat
