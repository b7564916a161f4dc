/- Spaces and remarks left out: a claim is at most so large. -/
import Derived.Test.YtfbmlefhjoblbaaGreatRUnfGz
import Derived.Test.YtfbmlefhjoblbaaGreatFAwGz
import Derived.Test.YtfbmlefhjoblbaaGreatRFileGz
import Derived.Test.YtfbmlefhjoblbaaGreatRefUGz
import Derived.Deep.CutRange
namespace Go.Proofs.YtfbmlefhjoblbaaGreat
open Go.Conc Go.RowKit
set_option linter.unusedVariables false
set_option linter.unusedSimpArgs false
def CutU (w5 wx:World) (g gc:Nat) (O:ByteArray) (tq:Tk) (r:List V) (ee:Int) (c:Co) (p v:Value):Prop:=∃ a cap,p=.slice a r.length cap∧v=.int .i64 ee∧OwnV w5.heap.size wx a cap r∧TkAt wx g O tq∧Frm (fun k => k=g) w5 wx∧CSlot wx gc c
set_option maxRecDepth 100000 in
set_option maxHeartbeats 4000000 in
theorem refunfile_mark (w:World) (s:ByteArray) (hs:s.size≤140737488355328) (hsl:isSealed s=true) (hx:(tkHead (openT s).data.toList).1=markF) :
    Calls Tryz.prog 38 #[.string s] w (FGetPost w (fileGet s)):=by
  obtain ⟨R,hR⟩:∃ R,R=fileGet s:=⟨_,rfl⟩
  rw [← hR]
  have T1:=Lib.hid (fun u => ropen_any s (by omega) u)
  have HZ0:=Lib.hid (DSlot.new w ⟨none,0,none,0⟩ zeroD)
  have HB0:=Lib.hid (show Below w.heap.size w (w.alloc (.cells #[.int .i64 0,.slice none 0 0,.slice none 0 0] 55)) from (Below.refl _ _).alloc (Nat.le_refl _) _)
  have hol:(openT s).size≤s.size:=by
    unfold openT
    split <;> first
      | exact Nat.zero_le _
      | (unfold ahead;rw [ByteArray.size_extract];omega)
  have e1:openE s=0:=by unfold openE;rw [if_pos hsl]
  rw [e1] at T1
  rw [fileGet_T hsl,readT_eq] at hR
  have hos:(openT s).size≤281474976710648:=by omega
  have hol2:(openT s).size≤140737488355328:=by omega
  clear e1 hsl hol hs
  generalize openT s=O at *
  have T2:=Lib.hid (fun (u:World) (g:Nat) (h:TkAt u g O ⟨0,false⟩) => tkbytes_any u g O ⟨0,false⟩ h hos 3 (by omega))
  have hri:∀ d,readT O.data.toList=some d→FinD d:=fun d h => (readT_in h).finD
  rw [readT_eq] at hri
  have hhd:tkHead O.data.toList=tkBytes O.data.toList ⟨0,false⟩ 3:=rfl
  rw [← hhd] at T2
  have hmn:tkMany O.data.toList=tkNum O.data.toList (tkNum O.data.toList (tkHead O.data.toList).2 4096).2 12:=rfl
  have hal:tkAll O.data.toList=tkCols O.data.toList (tkMany O.data.toList).1 (tkMany O.data.toList).2 [] []:=rfl
  clear hhd
  generalize tkHead O.data.toList=A at *
  obtain ⟨x,t1⟩:=A
  simp only at T2 hmn hal hR hx hri
  have T3:=Lib.hid (fun (u:World) (g:Nat) (h:TkAt u g O t1) => tknum_any u g O t1 h hos 4096 (by omega))
  generalize tkNum O.data.toList t1 4096=A at *
  obtain ⟨nn,t2⟩:=A
  simp only at T3 hmn hR hri
  have T4:=Lib.hid (fun (u:World) (g:Nat) (h:TkAt u g O t2) => tknum_any u g O t2 h hos 12 (by omega))
  have hm12:=tkNum_most O.data.toList t2 12
  rw [← hmn] at T4 hm12
  clear hmn
  generalize tkMany O.data.toList=A at *
  obtain ⟨m,t3⟩:=A
  simp only at T4 hm12 hal
  generalize tkAll O.data.toList=RR at *
  have T2:Hid (∀ (u:World) (g:Nat) (h:TkAt u g O ⟨0,false⟩),Calls Tryz.prog 72 #[.pointer (some ⟨g,0,none⟩),.int .i64 3] u fun e w' => e=.returned (.string (textB x))∧TkAt w' g O t1∧Frm (fun k => k=g) u w'):=T2
  have T3:Hid (∀ (u:World) (g:Nat) (h:TkAt u g O t1),Calls Tryz.prog 62 #[.pointer (some ⟨g,0,none⟩),.int .i64 4096] u fun e w' => e=.returned (.int .i64 (nn:Int))∧TkAt w' g O t2∧Frm (fun k => k=g) u w'):=T3
  have T4:Hid (∀ (u:World) (g:Nat) (h:TkAt u g O t2),Calls Tryz.prog 62 #[.pointer (some ⟨g,0,none⟩),.int .i64 12] u fun e w' => e=.returned (.int .i64 (m:Int))∧TkAt w' g O t3∧Frm (fun k => k=g) u w'):=T4
  have HAL:=Lib.hid hal
  have HRR:=Lib.hid hR
  have HM12:=Lib.hid hm12
  have HOS:=Lib.hid (And.intro hos hol2)
  have hmk:=mark_eq x
  have hmk2:((textB x).toList != [76,75,49]) = !decide (x=markF):=by rw [bne,hmk]
  rw [decide_eq_true hx] at hmk hmk2
  have HXM:=Lib.hid hx
  have HRI:=Lib.hid hri
  clear hal hR hm12 hos hol2 hx hri
  generalize textB x=X at *
  go_enter Tryz.func38,Tryz.ntmps38
  go_upto_region 1 with fail
  change Code.wp _ _ _ _ (w.alloc (.cells #[.int .i64 0,.slice none 0 0,.slice none 0 0] 55))
  change Hid (DSlot (w.alloc (.cells #[.int .i64 0,.slice none 0 0,.slice none 0 0] 55)) w.heap.size ⟨none,0,none,0⟩ zeroD) at HZ0
  generalize w.alloc (.cells #[.int .i64 0,.slice none 0 0,.slice none 0 0] 55)=u0 at *
  go_upto_region 4 with (go_at_call 61;refine (T1.out _).mono ?_;rintro e w1 ⟨rfl,hb⟩;have HB1:=Lib.hid (HB0.out.trans (hb.mono HB0.out.size));have HZ1:=Lib.hid (HZ0.out.below hb);clear hb)
  obtain ⟨u1,hu1⟩:∃ u1,u1=w1.alloc (.cells #[.string O,.int .i64 0,.bool false] 103):=⟨_,rfl⟩
  have hb1:Below w1.heap.size w1 u1:=by rw [hu1];exact (Below.refl _ _).alloc (Nat.le_refl _) _
  have HK1:=Lib.hid (show TkAt u1 w1.heap.size O ⟨0,false⟩ by rw [hu1];exact ⟨heap_alloc_new w1 _,Nat.zero_le _⟩)
  have HZ2:=Lib.hid (HZ1.out.below hb1)
  have HB2:=Lib.hid (HB1.out.trans (hb1.mono HB1.out.size))
  go_upto_region 5 with fail
  change Code.wp _ _ _ _ (w1.alloc (.cells #[.string O,.int .i64 0,.bool false] 103))
  rw [← hu1]
  have HG:Hid (w.heap.size < w1.heap.size):=HZ1.out.lt
  clear hu1 hb1 HZ0 HZ1 HB0 HB1 T1
  generalize w1.heap.size=g at *
  go_upto_region 6 with (go_at_call 72;refine (T2.out u1 g HK1.out).mono ?_;rintro e w2 ⟨rfl,hk,hf⟩;have HK2:=Lib.hid hk;have HZ3:=Lib.hid (HZ2.out.frm hf (by have:=HG.out;omega));have HB3:=Lib.hid (Frm.to_below HB2.out hf (fun k e => by have:=HG.out;omega) (Nat.le_refl _));clear hk hf)
  obtain ⟨u3,hu3⟩:∃ u3,u3=w2.alloc (.cells #[.int .i64 0,.slice none 0 0,.slice none 0 0] 55):=⟨_,rfl⟩
  have hb3:Below w2.heap.size w2 u3:=by rw [hu3];exact (Below.refl _ _).alloc (Nat.le_refl _) _
  have HD3:=Lib.hid (show DSlot u3 w2.heap.size ⟨none,0,none,0⟩ zeroD by rw [hu3];exact DSlot.new w2 ⟨none,0,none,0⟩ zeroD)
  have HK3:=Lib.hid (HK2.out.below hb3)
  have HZ4:=Lib.hid (HZ3.out.below hb3)
  have HB4:=Lib.hid (HB3.out.trans (hb3.mono HB3.out.size))
  go_upto_region 7 with fail
  change Code.wp _ _ _ _ (w2.alloc (.cells #[.int .i64 0,.slice none 0 0,.slice none 0 0] 55))
  rw [← hu3]
  have HG8:Hid (g < w2.heap.size):=HK2.out.lt
  clear hu3 hb3 HK1 HK2 HZ2 HZ3 HB2 HB3 T2
  generalize w2.heap.size=g8 at *
  obtain ⟨g2,hg2⟩:∃ g2,g2=w.heap.size:=⟨_,rfl⟩
  have HG2:=Lib.hid hg2
  rw [← hg2] at HZ4 HG ⊢
  clear hg2
  go_upto_region 8 with (go_at_call 62;refine (T3.out u3 g HK3.out).mono ?_;rintro e w4 ⟨rfl,hk,hf⟩;have HK4:=Lib.hid hk;have HZ5:=Lib.hid (HZ4.out.frm hf (by have:=HG.out;omega));have HD4:=Lib.hid (HD3.out.frm hf (by have:=HG8.out;omega));have HB5:=Lib.hid (Frm.to_below HB4.out hf (fun k e => by have:=HG.out;have:=HG2.out;omega) (Nat.le_refl _));obtain ⟨e0,e1,e2⟩:=HD4.out.at;obtain ⟨f0,f1,f2⟩:=HD4.out.froz;clear hk hf)
  obtain ⟨u5,hu5⟩:∃ u5,u5=w4.setCell ⟨g8,0,none⟩ (.int .i64 (nn:Int)):=⟨_,rfl⟩
  have hf5:Frm (fun k => k=g8) w4 u5:=by rw [hu5];exact (Frm.refl (fun k => k=g8) w4).setCell (p:=⟨g8,0,none⟩) rfl _
  have HD5:=Lib.hid (show DSlot u5 g8 ⟨none,0,none,0⟩ ⟨(nn:Int),[],[]⟩ by rw [hu5];exact HD4.out.setN (nn:Int))
  have HK5:=Lib.hid (HK4.out.frm hf5 (by have:=HG8.out;omega))
  have HZ6:=Lib.hid (HZ5.out.frm hf5 (by have:=HG8.out;have:=HG.out;omega))
  have HB6:=Lib.hid (Frm.to_below HB5.out hf5 (fun k e => by have:=HG8.out;have:=HG.out;have:=HG2.out;omega) (Nat.le_refl _))
  change Code.wp _ _ _ _ (w4.setCell ⟨g8,0,none⟩ (.int .i64 (nn:Int)))
  rw [← hu5]
  clear hu5 hf5 e0 e1 e2 f0 f1 f2 HD3 HD4 HK3 HK4 HZ4 HZ5 HB4 HB5 T3
  go_upto_region 9 with (go_at_call 62;refine (T4.out u5 g HK5.out).mono ?_;rintro e w6 ⟨rfl,hk,hf⟩;have HK6:=Lib.hid hk;have HZ7:=Lib.hid (HZ6.out.frm hf (by have:=HG.out;omega));have HD6:=Lib.hid (HD5.out.frm hf (by have:=HG8.out;omega));have HB7:=Lib.hid (Frm.to_below HB6.out hf (fun k e => by have:=HG.out;have:=HG2.out;omega) (Nat.le_refl _));clear hk hf)
  clear HD5 HK5 HZ6 HB6 T4
  have HMK:Hid ((X.toList == [76,75,49])=true∧(X.toList != [76,75,49])=false):=⟨hmk,hmk2⟩
  clear hmk hmk2
  obtain ⟨B,hB⟩:∃ B,B=w6.heap.size:=⟨_,rfl⟩
  have HBG:Hid ((g < B∧g8 < B∧g2 < B)∧(g8 ≠ g∧g2 ≠ g∧g2 ≠ g8)∧(w.heap.size≤g∧w.heap.size≤g8∧w.heap.size≤B)):=by
    have h1:=HK6.out.lt
    have h2:=HD6.out.lt
    have h3:=HZ7.out.lt
    have h4:=HG.out
    have h5:=HG8.out
    have h6:=HG2.out
    unfold Hid
    omega
  have HBS:=Lib.hid (show B≤w6.heap.size by omega)
  have HL6:=Lib.hid (show LAt w w6 B g8 (nn:Int) 0 ⟨none,0,none,0⟩ [] [] [] from ⟨HD6.out,DaOwn.nil _ _ _,rfl,rfl,HB7.out⟩)
  clear hB HD6 HB7 HG HG8
  go_wp2
  go_loopw [10] (fun iv wr => ∃ (n:Nat) (p:DaAt) (cs:List Co) (rs:List (List V)) (us:List (Option Addr × Nat)) (t:Tk),n≤m∧iv=.int .i64 n∧Hid (tkCols O.data.toList (m - n) t cs rs=RR)∧Hid (LAt w wr B g8 (nn:Int) n p cs rs us)∧Hid (TkAt wr g O t)∧Hid (DSlot wr g2 ⟨none,0,none,0⟩ zeroD)∧Hid (B≤wr.heap.size)) (fun iv _ => m - (intOf iv).toNat)
  case atStart => exact ⟨0,⟨none,0,none,0⟩,[],[],[],t3,Nat.zero_le _,rfl,HAL.out.symm,HL6,HK6,HZ7,HBS⟩
  case round =>
    clear HL6 HK6 HZ7 HBS HAL
    obtain ⟨n,p,cs,rs,us,t,hle,rfl,HRC,HL,HK,HZ,HBW⟩:=hrel
    obtain ⟨⟨k0,k1,k2⟩,_⟩:=HK.out.at
    obtain ⟨hmk,hmk2⟩:=HMK.out
    by_cases cn:n < m
    · have hni:(n:Int) < (m:Int):=by omega
      have hni2:decide ((n:Int) < (m:Int))=true:=decide_eq_true hni
      have hm13:m < 13:=by have:=HM12.out;omega
      cases htb:t.bad with
      | true =>
        rw [htb] at k2
        have hRR:RR=((cs,rs),t):=by rw [← HRC.out,show m - n=(m - (n + 1)) + 1 by omega,tkCols,if_pos htb]
        have hR:=HRR.out
        rw [hRR,if_pos (Or.inr htb)] at hR
        obtain rfl:R=(zeroD,1100):=hR
        clear hRR htb hmk2
        obtain ⟨z0,z1,z2⟩:=HZ.out.at
        obtain ⟨y0,y1,y2⟩:=HZ.out.froz
        simp only at z0 z1 z2
        go_wp2
        change bodyPost _ _ _ _ _ (putD wr g2 ⟨none,0,none,0⟩ zeroD)
        have hp:=HZ.out.put ⟨none,0,none,0⟩ zeroD
        have hpf:=putD_frm (F:=fun k => k=g2) rfl wr ⟨none,0,none,0⟩ zeroD
        generalize putD wr g2 ⟨none,0,none,0⟩ zeroD=w99 at *
        obtain ⟨b0,b1,b2⟩:=hp.at
        simp only at b0 b1 b2
        clear z0 z1 z2 y0 y1 y2
        refine bodyPost_ret (v:=.tuple #[.agg #[.int .i64 0,.slice none 0 0,.slice none 0 0],.int .i64 1100]) (by simp [results,Tryz.results38,go_sem,b0,b1,b2,zeroD]) rfl ?_
        exact ⟨⟨none,0,none,0⟩,[],rfl,DaOwn.nil _ _ 0,Frm.to_below HL.out.bel hpf (fun k e => by rw [e];exact Nat.le_of_eq HG2.out.symm) (Nat.le_refl _)⟩
      | false =>
        rw [htb] at k2
        have hrc:=HRC.out
        rw [show m - n=(m - (n + 1)) + 1 by omega,tkCols,if_neg (by rw [htb];simp)] at hrc
        simp only [tkCol] at hrc
        have Ta:=Lib.hid (tknum_any wr g O t HK.out HOS.out.1 9223372036854775807 (Nat.le_refl _))
        generalize tkNum O.data.toList t 9223372036854775807=A at *
        obtain ⟨ai,ta⟩:=A
        simp only at Ta hrc
        have Tb:=Lib.hid (fun (u:World) (h:TkAt u g O ta) => tkbytes_any u g O ta h HOS.out.1 1 (by omega))
        have hb1:=fun h => tkBytes_ok (l:=O.data.toList) (t:=ta) (k:=1) h
        generalize tkBytes O.data.toList ta 1=A at *
        obtain ⟨bx,tb⟩:=A
        simp only at Tb hb1 hrc
        have Tm:=Lib.hid (fun (u:World) (h:TkAt u g O tb) => tknum_any u g O tb h HOS.out.1 65536 (by omega))
        have hm6:=tkNum_most O.data.toList tb 65536
        generalize tkNum O.data.toList tb 65536=A at *
        obtain ⟨mi,tm⟩:=A
        simp only at Tm hm6 hrc
        have Tq:=Lib.hid (fun (u:World) (h:TkAt u g O tm) => tkbytes_any u g O tm h HOS.out.1 mi (by omega))
        have hql:=tkBytes_len O.data.toList tm mi
        generalize tkBytes O.data.toList tm mi=A at *
        obtain ⟨qx,tq⟩:=A
        simp only at Tq hql hrc
        have TU:=Lib.hid (fun (u:World) (k:Int) => refunvec_any u k (textB qx) (by rw [textB_size];omega))
        have HB1:=Lib.hid hb1
        have HRC2:=Lib.hid hrc
        have HCN:=Lib.hid cn
        clear hm6 hql hrc hb1 HRC htb hmk2
        go_upto_region 13 with (go_at_call 62;refine Ta.out.mono ?_;rintro e w1 ⟨rfl,hk,hf⟩;have HK1:=Lib.hid hk;have HF1:=Lib.hid hf;clear hk hf)
        obtain ⟨u2,hu2⟩:∃ u2,u2=w1.alloc (.cells #[.int .i64 (ai:Int),.string ByteArray.empty,.int .i64 0] 80):=⟨_,rfl⟩
        change Code.wp _ _ _ _ (w1.alloc (.cells #[.int .i64 (ai:Int),.string ByteArray.empty,.int .i64 0] 80))
        have hb2:Below w1.heap.size w1 u2:=by rw [hu2];exact (Below.refl _ _).alloc (Nat.le_refl _) _
        have HC2:=Lib.hid (show CSlot u2 w1.heap.size ⟨(ai:Int),ByteArray.empty,0⟩ by rw [hu2];exact CSlot.new w1 ⟨(ai:Int),ByteArray.empty,0⟩)
        have HK2:=Lib.hid (HK1.out.below hb2)
        have HF2:=Lib.hid (HF1.out.trans (Frm.of_new hb2 _))
        have HGC:=Lib.hid (And.intro HK1.out.lt HF1.out.size)
        rw [← hu2]
        clear hu2 hb2 HK1 HF1 Ta k0 k1 k2
        generalize w1.heap.size=gc at *
        go_upto_region 14 with (go_at_call 72;refine (Tb.out u2 HK2.out).mono ?_;rintro e w3 ⟨rfl,hk,hf⟩;have HK3:=Lib.hid hk;have HF3:=Lib.hid hf;have HC3:=Lib.hid (HC2.out.frm hf (by have:=HGC.out;omega));clear hk hf)
        obtain ⟨⟨k0,k1,k2⟩,_⟩:=HK3.out.at
        cases htb2:tb.bad with
        | true =>
          rw [htb2] at k2
          have hrc:=HRC2.out
          rw [if_pos htb2] at hrc
          have hR:=HRR.out
          rw [← hrc,if_pos (Or.inr htb2)] at hR
          obtain rfl:R=(zeroD,1100):=hR
          have HZ3:=Lib.hid ((HZ.out.frm HF2.out HBG.out.2.1.2.1).frm HF3.out HBG.out.2.1.2.1)
          have HB3:=Lib.hid (Frm.to_below (Frm.to_below HL.out.bel HF2.out (fun k e => by have:=HBG.out;omega) (Nat.le_refl _)) HF3.out (fun k e => by have:=HBG.out;omega) (Nat.le_refl _))
          clear hrc htb2
          obtain ⟨z0,z1,z2⟩:=HZ3.out.at
          obtain ⟨y0,y1,y2⟩:=HZ3.out.froz
          simp only at z0 z1 z2
          go_wp2
          change bodyPost _ _ _ _ _ (putD w3 g2 ⟨none,0,none,0⟩ zeroD)
          have hp:=HZ3.out.put ⟨none,0,none,0⟩ zeroD
          have hpf:=putD_frm (F:=fun k => k=g2) rfl w3 ⟨none,0,none,0⟩ zeroD
          generalize putD w3 g2 ⟨none,0,none,0⟩ zeroD=w99 at *
          obtain ⟨b0,b1,b2⟩:=hp.at
          simp only at b0 b1 b2
          clear z0 z1 z2 y0 y1 y2
          refine bodyPost_ret (v:=.tuple #[.agg #[.int .i64 0,.slice none 0 0,.slice none 0 0],.int .i64 1100]) (by simp [results,Tryz.results38,go_sem,b0,b1,b2,zeroD]) rfl ?_
          exact ⟨⟨none,0,none,0⟩,[],rfl,DaOwn.nil _ _ 0,Frm.to_below HB3.out hpf (fun k e => by rw [e];exact Nat.le_of_eq HG2.out.symm) (Nat.le_refl _)⟩
        | false =>
          rw [htb2] at k2
          have hrc:=HRC2.out
          rw [if_neg (by rw [htb2];simp)] at hrc
          obtain ⟨y,rfl⟩:∃ y,bx=[y]:=List.length_eq_one_iff.1 (HB1.out htb2)
          have hysz:0 < (textB [y]).size:=by rw [textB_size];exact Nat.one_pos
          have hy0:([y].getD 0 0).toNat=((textB [y])[0]'hysz).toNat:=rfl
          rw [hy0] at hrc
          clear htb2 HB1 HRC2 hy0
          generalize textB [y]=Y at *
          have hc256:Y[0].toNat < 256:=UInt8.toNat_lt _
          have hwk:IntKind.i64.wrap (Y[0].toNat:Int)=(Y[0].toNat:Int):=by rw [IntKind.wrap_i64];omega
          obtain ⟨⟨c0,c1,c2⟩,⟨d0,d1,d2⟩⟩:=HC3.out.at
          simp only at c0 c1 c2
          go_upto_region 16 with fail
          obtain ⟨kd,hkd⟩:∃ kd:Nat,kd=Y[0].toNat:=⟨_,rfl⟩
          rw [← hkd] at hrc
          obtain ⟨u4,hu4⟩:∃ u4,u4=w3.setCell ⟨gc,2,none⟩ (.int .i64 (Y[0].toNat:Int)):=⟨_,rfl⟩
          change Code.wp _ _ _ _ (w3.setCell ⟨gc,2,none⟩ (.int .i64 (Y[0].toNat:Int)))
          rw [← hu4]
          rw [← hkd] at hu4
          have hf4:Frm (fun k => k=gc) w3 u4:=by rw [hu4];exact (Frm.refl (fun k => k=gc) w3).setCell (p:=⟨gc,2,none⟩) rfl _
          have HC4:=Lib.hid (show CSlot u4 gc ⟨(ai:Int),ByteArray.empty,(kd:Int)⟩ by rw [hu4];exact ⟨heap_setCell_same _ _ _ _ _ _ HC3.out.b⟩)
          have HK4:=Lib.hid (HK3.out.frm hf4 (by have:=HGC.out;omega))
          have HF4:=Lib.hid hf4
          clear hu4 hf4 hkd hwk hc256 c0 c1 c2 d0 d1 d2 k0 k1 k2
          have TU2:=Lib.hid (fun u => TU.out u (kd:Int))
          generalize colGet (kd:Int) (textB qx)=G at *
          obtain ⟨r,ee⟩:=G
          simp only at TU2 hrc
          obtain ⟨F9,hF9⟩:∃ F9,F9=(tq.bad || decide (ee ≠ 0)):=⟨_,rfl⟩
          rw [← hF9] at hrc
          have HF9:=Lib.hid hF9
          have HRC3:=Lib.hid hrc
          clear hF9 hrc TU
          go_upto_region 17 with (go_at_call 62;refine (Tm.out u4 HK4.out).mono ?_;rintro e w5 ⟨rfl,hk,hf⟩;have HK5:=Lib.hid hk;have HF5:=Lib.hid hf;have HC5:=Lib.hid (HC4.out.frm hf (by have:=HGC.out;omega));clear hk hf)
          go_cut [14,15] from 36 to 99 (fun p v wx => CutU w5 wx g gc O tq r ee ⟨(ai:Int),ByteArray.empty,(kd:Int)⟩ p v)
          case first =>
            have HC5d:=Lib.hid (show CSlot w5.drew gc ⟨(ai:Int),ByteArray.empty,(kd:Int)⟩ from ⟨HC5.out.b⟩)
            have Tq5:=Lib.hid (Tq.out w5.drew ⟨HK5.out.b,HK5.out.le⟩)
            obtain ⟨⟨c0,c1,c2⟩,_⟩:=HC5d.out.at
            simp only at c0 c1 c2
            generalize hQ:textB qx=Q at *
            clear Tm Tb Tq hQ
            go_region_law (first
              | (go_simp;go_at_call 72;refine Tq5.out.mono ?_;rintro e w7 ⟨rfl,hk,hf⟩;have HK7:=Lib.hid hk;have HF7:=Lib.hid hf;have HC7:=Lib.hid (HC5d.out.frm hf (by have:=HGC.out;omega));obtain ⟨⟨e0,e1,e2⟩,_⟩:=HC7.out.at;simp only at e0 e1 e2;clear hk hf)
              | (go_simp;go_at_call 24;refine (TU2.out w7).mono ?_;rintro e w8 ⟨a,cap,rfl,ho,hb⟩;have HV8:=Lib.hid ho;have HX8:=Lib.hid hb;clear ho hb))
            all_goals (
              have HK8:=HK7.out.below HX8.out
              have hz7:w5.heap.size≤w7.heap.size:=HF7.out.size
              have hv8:=HV8.out.lower hz7
              have hf8:Frm (fun k => k=g) w5 w8:=((Frm.refl _ w5).drew.trans HF7.out).trans (Frm.of_new HX8.out _)
              have hc8:=HC7.out.below HX8.out
              clear c0 c1 c2 e0 e1 e2
              go_wp2
              try simp only [Go.Act.put,List.setIfInBounds_toArray,List.set_cons_zero,List.set_cons_succ]
              go_meet
              exact ⟨a,cap,rfl,rfl,hv8,HK8,hf8,hc8⟩)
          case rest =>
            obtain ⟨a,cap,rfl,rfl,ho,hk,hf,hc⟩:=hcut
            have HV8:=Lib.hid ho
            have HK8:=Lib.hid hk
            have HF8:=Lib.hid hf
            have HC8:=Lib.hid hc
            clear ho hk hf hc Tm Tb Tq TU2
            generalize wc=w8 at *
            obtain ⟨⟨k0,k1,k2⟩,⟨l0,l1,l2⟩⟩:=HK8.out.at
            go_upto_region 18 with fail
            go_cut [84] from 36 to 99 (fun v wx => wx=w8.setCell ⟨g,2,none⟩ (.bool F9))
            case first =>
              cases hqb:tq.bad with
              | true =>
                rw [hqb] at k2
                obtain rfl:F9=true:=by rw [HF9.out,hqb];rfl
                clear hqb HF9
                go_wp2
                go_meet
                exact rfl
              | false =>
                rw [hqb] at k2
                by_cases hee:ee=0
                · subst hee
                  obtain rfl:F9=false:=by rw [HF9.out,hqb];rfl
                  clear hqb HF9
                  go_wp2
                  go_meet
                  exact rfl
                · have hne:(ee != 0)=true:=by simpa using hee
                  obtain rfl:F9=true:=by rw [HF9.out,hqb,decide_eq_true hee];rfl
                  clear hqb HF9 hee
                  go_wp2
                  go_meet
                  exact rfl
            case rest =>
              obtain ⟨w9,hw9⟩:∃ w9,w9=w8.setCell ⟨g,2,none⟩ (.bool F9):=⟨_,rfl⟩
              rw [← hw9] at hcut
              subst hcut
              have hf9:Frm (fun k => k=g) w8 wc:=by rw [hw9];exact (Frm.refl (fun k => k=g) w8).setCell (p:=⟨g,2,none⟩) rfl _
              have HK9:=Lib.hid (show TkAt wc g O ⟨tq.pos,F9⟩ by rw [hw9];exact HK8.out.mark F9)
              have hF:Frm (fun k => k=g∨k=gc) wr wc :=
                (((((HF2.out.mono fun k _ e => Or.inl e).trans (HF3.out.mono fun k _ e => Or.inl e)).trans (HF4.out.mono fun k _ e => Or.inr e)).trans (HF5.out.mono fun k _ e => Or.inl e)).trans (HF8.out.mono fun k _ e => Or.inl e)).trans (hf9.mono fun k _ e => Or.inl e)
              have HF:=Lib.hid (hF.mono (F':=fun k => k=g) fun k hk e => e.elim id fun e => by have:=HGC.out;omega)
              have hz7:wr.heap.size≤w5.heap.size:=by
                have h1:=HF2.out.size
                have h2:=HF3.out.size
                have h3:=HF4.out.size
                have h4:=HF5.out.size
                omega
              have HV:=Lib.hid ((HV8.out.frm hf9 fun k hk _ e => by have h1:=(HV8.out.at_ge hk).1;have h2:=HK5.out.lt;omega).lower hz7)
              have HC9:=Lib.hid (HC8.out.frm hf9 (by have:=HGC.out;omega))
              clear hw9 hf9 hF hz7 HK8 HV8 HF8 HC8 HF5 HF4 HF3 HF2 HC5 HC4 HC3 HC2 HK5 HK4 HK3 HK2 k0 k1 k2 l0 l1 l2 HF9
              have hf6:=HL.out.first HBG.out.1.1 HBG.out.1.2.1 HBG.out.2.1.1 HF.out (Frm.refl (fun _ => False) wc)
              have HO6:=Lib.hid hf6.1
              obtain ⟨⟨c0,c1,c2⟩,_⟩:=HC9.out.at
              obtain ⟨b0,b1,b2⟩:=hf6.2.at
              simp only at b0 b1 b2 c0 c1 c2
              have hz6:B≤wc.heap.size:=Nat.le_trans HBW.out HF.out.size
              have hcl:cs.length≤12:=by rw [HL.out.lc];have:=HM12.out;omega
              have hrl:rs.length≤12:=by rw [HL.out.lr];have:=HM12.out;omega
              clear hf6
              go_upto_region 20 with (at_builtin;refine wp_co HO6.out hz6 (by omega) rfl _ _ rfl ⟨(ai:Int),ByteArray.empty,(kd:Int)⟩ rfl rfl ?_;intro a' c' w2 hx hf2 hnew;have HX2:=Lib.hid hx;have HF2:=Lib.hid hf2;have hd2:=HL.out.second HBG.out.1.1 HBG.out.1.2.1 HBG.out.2.1.1 HF.out (Frm.refl (fun _ => False) wc) hf2;clear b0 b1 b2 c0 c1 c2;obtain ⟨b0,b1,b2⟩:=hd2.at;simp only at b0 b1 b2;obtain ⟨y0,y1,y2⟩:=hd2.froz;have HD2:=Lib.hid hd2;clear hx hf2 hnew hd2)
              obtain ⟨c9,hc9⟩:∃ c9:Co,c9=⟨(ai:Int),ByteArray.empty,(kd:Int)⟩:=⟨_,rfl⟩
              rw [← hc9] at HX2 HRC3
              clear hc9
              obtain ⟨w3x,hw3⟩:∃ w3,w3=w2.setCell ⟨g8,1,none⟩ (.slice a' (cs ++ [c9]).length c'):=⟨_,rfl⟩
              have hlc:(cs ++ [c9]).length=cs.length + 1:=by simp
              have hw3':=hw3
              rw [hlc] at hw3'
              change Code.wp _ _ _ _ (w2.setCell ⟨g8,1,none⟩ (.slice a' (cs.length + 1:Nat) c'))
              rw [← hw3']
              clear hw3'
              have hd3:DSlot w3x g8 ⟨a',c',p.ar,p.kr⟩ ⟨(nn:Int),cs ++ [c9],rs⟩:=by rw [hw3];exact HD2.out.setC a' c' (cs ++ [c9])
              have hth:=HL.out.third HBG.out.1.1 HBG.out.1.2.1 HBG.out.2.1.1 HF.out (Frm.refl (fun _ => False) wc) HF2.out (.slice a' (cs ++ [c9]).length c')
              rw [← hw3] at hth
              have HD3:=Lib.hid hd3
              have HO3:=Lib.hid hth.1
              have HVL:=Lib.hid (show (rowCells us rs).length=rs.length from rowCells_length HL.out.own.vs.len)
              clear b0 b1 b2 y0 y1 y2
              obtain ⟨b0,b1,b2⟩:=hd3.at
              simp only at b0 b1 b2
              have HW3:=Lib.hid hw3
              have hz3:B≤w3x.heap.size:=Nat.le_trans hz6 (Nat.le_trans HF2.out.size (by rw [hw3];simp))
              have HG5:=Lib.hid HBG.out.1.2.1
              clear hw3 hth hd3 HD2 hlc hcl
              go_wp2_with (at_builtin;refine wp_one oneRow HO3.out HVL.out hz3 (by omega) rfl _ _ rfl (.slice a r.length cap) rfl rfl rfl ?_;intro ar' cr' w4 hx hf4 hnew;have HX4:=Lib.hid hx;have HF4:=Lib.hid hf4;have hd4:=HD3.out.frm hf4 (fun hk => by have h1:=(own_ge HO3.out hk).1;have h2:=HG5.out;omega);clear b0 b1 b2;obtain ⟨b0,b1,b2⟩:=hd4.at;simp only at b0 b1 b2;obtain ⟨y0,y1,y2⟩:=hd4.froz;clear hx hf4 hnew hd4)
              have hf4:=HF4.out
              rw [HW3.out] at hf4
              obtain ⟨hN,hNF⟩:=HL.out.next HBG.out.1.1 HBG.out.1.2.1 HBG.out.2.1.1 HBG.out.2.2 HBW.out HF.out HV.out (Frm.refl (fun _ => False) wc) HX2.out HF2.out HX4.out hf4
              rw [show (rs ++ [r]).length=rs.length + 1 by simp] at hN hNF
              have HN:=Lib.hid hN
              have HRX:=Lib.hid (HK9.out.frm hNF (fun e => by have:=HBG.out;omega))
              have HZX:=Lib.hid ((HZ.out.frm HF.out HBG.out.2.1.2.1).frm hNF (fun e => by have:=HBG.out;omega))
              have HBX:=Lib.hid (show B≤(w4.setCell ⟨g8,2,none⟩ (.slice ar' (rs.length + 1:Nat) cr')).heap.size from Nat.le_trans (Nat.le_trans HBW.out HF.out.size) hNF.size)
              clear hN hNF hf4 b0 b1 b2 y0 y1 y2
              go_roundw
              case rel => exact ⟨n + 1,⟨a',c',ar',cr'⟩,cs ++ [c9],rs ++ [r],us ++ [(a,cap)],⟨tq.pos,F9⟩,by have:=HCN.out;omega,by go_num,HRC3,HN,HRX,HZX,HBX⟩
              case measure => have:=HCN.out;simp [intOf];omega
    · obtain rfl:n=m:=by omega
      have hni2:decide ((n:Int) < (n:Int))=false:=decide_eq_false (by omega)
      have hRR:RR=((cs,rs),t):=by rw [← HRC.out,Nat.sub_self];rfl
      clear HRC cn
      cases htb:t.bad with
      | true =>
        rw [htb] at k2
        have hR:=HRR.out
        rw [hRR,if_pos (Or.inr htb)] at hR
        obtain rfl:R=(zeroD,1100):=hR
        clear hRR htb
        obtain ⟨z0,z1,z2⟩:=HZ.out.at
        obtain ⟨y0,y1,y2⟩:=HZ.out.froz
        simp only at z0 z1 z2
        go_wp2
        change bodyPost _ _ _ _ _ (putD wr g2 ⟨none,0,none,0⟩ zeroD)
        have hp:=HZ.out.put ⟨none,0,none,0⟩ zeroD
        have hpf:=putD_frm (F:=fun k => k=g2) rfl wr ⟨none,0,none,0⟩ zeroD
        generalize putD wr g2 ⟨none,0,none,0⟩ zeroD=w99 at *
        obtain ⟨b0,b1,b2⟩:=hp.at
        simp only at b0 b1 b2
        clear z0 z1 z2 y0 y1 y2
        refine bodyPost_ret (v:=.tuple #[.agg #[.int .i64 0,.slice none 0 0,.slice none 0 0],.int .i64 1100]) (by simp [results,Tryz.results38,go_sem,b0,b1,b2,zeroD]) rfl ?_
        exact ⟨⟨none,0,none,0⟩,[],rfl,DaOwn.nil _ _ 0,Frm.to_below HL.out.bel hpf (fun k e => by rw [e];exact Nat.le_of_eq HG2.out.symm) (Nat.le_refl _)⟩
      | false =>
        rw [htb] at k2
        have hnot:¬ (x ≠ markF∨RR.2.bad=true):=fun h => h.elim (fun h => h HXM.out) fun h => by rw [hRR,htb] at h;cases h
        have hR:=HRR.out
        have hfin:=HRI.out ⟨(nn:Int),RR.1.1,RR.1.2⟩ (if_neg hnot)
        rw [if_neg hnot] at hR
        rw [hRR] at hR hfin
        simp only [ansD] at hR hfin
        have TP2:=Lib.hid (reffile_any wr p ⟨(nn:Int),cs,rs⟩ HL.out.own.is hfin)
        have HO:=Lib.hid HL.out.own
        clear hRR htb hnot hfin
        obtain ⟨d9,hd9⟩:∃ d9:Da,d9=⟨(nn:Int),cs,rs⟩:=⟨_,rfl⟩
        rw [← hd9] at TP2 hR HO
        generalize fileA d9=FF at *
        obtain ⟨x9,E⟩:=FF
        simp only at TP2 hR
        have HR9:=Lib.hid hR
        have HD9:=Lib.hid hd9
        obtain ⟨b0,b1,b2⟩:=HL.out.slot.at
        simp only at b0 b1 b2
        have HS:=Lib.hid HL.out.slot
        have HBL:=Lib.hid HL.out.bel
        have T9:Hid (Calls Tryz.prog 30 #[.agg #[.int .i64 (nn:Int),.slice p.ac cs.length p.kc,.slice p.ar rs.length p.kr]] wr fun e w' => e=.returned (.tuple #[.string x9,.int .i64 E])∧Below wr.heap.size wr w'):=by have h:=TP2.out;rw [hd9] at h;exact h
        clear hR hd9 TP2
        go_upto_region 24 with (go_at_call 30;refine T9.out.mono ?_;rintro e w4 ⟨rfl,hb⟩;have HB4:=Lib.hid (HBL.out.trans (hb.mono HBL.out.size));have HZ4:=Lib.hid (HZ.out.below hb);have HO4:=Lib.hid (HO.out.below hb);have HS4:=Lib.hid (HS.out.below hb);clear hb T9)
        clear b0 b1 b2 k0 k1 k2
        by_cases hE:E=0
        · subst hE
          by_cases hxs:x9=s
          · have hR:=HR9.out
            rw [if_pos ⟨rfl,hxs⟩] at hR
            have hq:(x9.toList == s.toList)=true:=toList_same hxs
            have hq2:(x9.toList != s.toList)=false:=by rw [bne,hq];rfl
            obtain ⟨z0,z1,z2⟩:=HZ4.out.at
            obtain ⟨y0,y1,y2⟩:=HZ4.out.froz
            obtain ⟨b0,b1,b2⟩:=HS4.out.at
            simp only at z0 z1 z2 b0 b1 b2
            rw [HD9.out] at hR
            subst hR
            clear hxs
            go_wp2
            change bodyPost _ _ _ _ _ (putD w4 g2 p ⟨(nn:Int),cs,rs⟩)
            have hp:=HZ4.out.put p ⟨(nn:Int),cs,rs⟩
            have hpf:=putD_frm (F:=fun k => k=g2) rfl w4 p ⟨(nn:Int),cs,rs⟩
            generalize putD w4 g2 p ⟨(nn:Int),cs,rs⟩=w99 at *
            clear z0 z1 z2 y0 y1 y2 b0 b1 b2
            obtain ⟨b0,b1,b2⟩:=hp.at
            simp only at b0 b1 b2
            refine bodyPost_ret (v:=.tuple #[.agg #[.int .i64 (nn:Int),.slice p.ac cs.length p.kc,.slice p.ar rs.length p.kr],.int .i64 0]) (by simp [results,Tryz.results38,go_sem,b0,b1,b2]) rfl ?_
            refine ⟨p,us,rfl,?_,Frm.to_below HB4.out hpf (fun k e => by rw [e];exact Nat.le_of_eq HG2.out.symm) (Nat.le_refl _)⟩
            have ho:=HO4.out
            rw [HD9.out] at ho
            refine (ho.frm hpf fun k hk _ e => ?_).lower HBG.out.2.2.2.2
            have:=HBG.out.1.2.2
            omega
          · have hR:=HR9.out
            rw [if_neg (fun e => hxs e.2)] at hR
            obtain rfl:R=(zeroD,1100):=hR
            have hq:(x9.toList == s.toList)=false:=toList_ne hxs
            have hq2:(x9.toList != s.toList)=true:=by rw [bne,hq];rfl
            clear hxs
            obtain ⟨z0,z1,z2⟩:=HZ4.out.at
            obtain ⟨y0,y1,y2⟩:=HZ4.out.froz
            simp only at z0 z1 z2
            go_wp2
            change bodyPost _ _ _ _ _ (putD w4 g2 ⟨none,0,none,0⟩ zeroD)
            have hp:=HZ4.out.put ⟨none,0,none,0⟩ zeroD
            have hpf:=putD_frm (F:=fun k => k=g2) rfl w4 ⟨none,0,none,0⟩ zeroD
            generalize putD w4 g2 ⟨none,0,none,0⟩ zeroD=w99 at *
            obtain ⟨b0,b1,b2⟩:=hp.at
            simp only at b0 b1 b2
            clear z0 z1 z2 y0 y1 y2
            refine bodyPost_ret (v:=.tuple #[.agg #[.int .i64 0,.slice none 0 0,.slice none 0 0],.int .i64 1100]) (by simp [results,Tryz.results38,go_sem,b0,b1,b2,zeroD]) rfl ?_
            exact ⟨⟨none,0,none,0⟩,[],rfl,DaOwn.nil _ _ 0,Frm.to_below HB4.out hpf (fun k e => by rw [e];exact Nat.le_of_eq HG2.out.symm) (Nat.le_refl _)⟩
        · have hR:=HR9.out
          rw [if_neg (fun e => hE e.1)] at hR
          obtain rfl:R=(zeroD,1100):=hR
          have hne:(E != 0)=true:=by simpa using hE
          clear hE
          obtain ⟨z0,z1,z2⟩:=HZ4.out.at
          obtain ⟨y0,y1,y2⟩:=HZ4.out.froz
          simp only at z0 z1 z2
          go_wp2
          change bodyPost _ _ _ _ _ (putD w4 g2 ⟨none,0,none,0⟩ zeroD)
          have hp:=HZ4.out.put ⟨none,0,none,0⟩ zeroD
          have hpf:=putD_frm (F:=fun k => k=g2) rfl w4 ⟨none,0,none,0⟩ zeroD
          generalize putD w4 g2 ⟨none,0,none,0⟩ zeroD=w99 at *
          obtain ⟨b0,b1,b2⟩:=hp.at
          simp only at b0 b1 b2
          clear z0 z1 z2 y0 y1 y2
          refine bodyPost_ret (v:=.tuple #[.agg #[.int .i64 0,.slice none 0 0,.slice none 0 0],.int .i64 1100]) (by simp [results,Tryz.results38,go_sem,b0,b1,b2,zeroD]) rfl ?_
          exact ⟨⟨none,0,none,0⟩,[],rfl,DaOwn.nil _ _ 0,Frm.to_below HB4.out hpf (fun k e => by rw [e];exact Nat.le_of_eq HG2.out.symm) (Nat.le_refl _)⟩
theorem refunfile_any (w:World) (s:ByteArray) (hs:s.size≤140737488355328):Calls Tryz.prog 38 #[.string s] w (FGetPost w (fileGet s)):=by
  cases hsl:isSealed s with
  | false => exact refunfile_sum w s hs hsl
  | true =>
    by_cases hx:(tkHead (openT s).data.toList).1=markF
    · exact refunfile_mark w s hs hsl hx
    · exact refunfile_head w s hs hsl hx
end Go.Proofs.YtfbmlefhjoblbaaGreat
