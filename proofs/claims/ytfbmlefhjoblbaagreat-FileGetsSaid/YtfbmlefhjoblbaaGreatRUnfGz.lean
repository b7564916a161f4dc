/- Spaces and remarks left out: a claim is at most so large. -/
import Derived.Test.YtfbmlefhjoblbaaGreatFAwGz
import Derived.Test.YtfbmlefhjoblbaaGreatRFileGz
import Derived.Test.YtfbmlefhjoblbaaGreatRefUGz
import Derived.Deep.CutRange
namespace Go.Proofs.YtfbmlefhjoblbaaGreat
open Go.Conc Go.RowKit
set_option linter.unusedVariables false
set_option linter.unusedSimpArgs false
theorem tkBytes_ok {l:List UInt8} {t:Tk} {k:Nat} (h:(tkBytes l t k).2.bad=false):(tkBytes l t k).1.length=k:=by
  unfold tkBytes at h ⊢
  by_cases c:t.bad=true∨l.length < t.pos + k
  · rw [if_pos c] at h;cases h
  · rw [if_neg c]
    simp only [not_or] at c
    rw [List.length_take,List.length_drop]
    omega
theorem readT_eq (l:List UInt8):readT l=if (tkHead l).1 ≠ markF∨(tkAll l).2.bad=true then none else some ⟨((tkNum l (tkHead l).2 4096).1:Int),(tkAll l).1.1,(tkAll l).1.2⟩:=rfl
set_option maxRecDepth 100000 in
set_option maxHeartbeats 4000000 in
theorem refunfile_sum (w:World) (s:ByteArray) (hs:s.size≤140737488355328) (hsl:isSealed s=false) :
    Calls Tryz.prog 38 #[.string s] w (FGetPost w (fileGet s)):=by
  obtain ⟨R,hR⟩:∃ R,R=fileGet s:=⟨_,rfl⟩
  rw [← hR]
  have T1:=Lib.hid (fun u => ropen_any s (by omega) u)
  have HZ0:=Lib.hid (DSlot.new w ⟨none,0,none,0⟩ zeroD)
  have HB0:=Lib.hid (show Below w.heap.size w (w.alloc (.cells #[.int .i64 0,.slice none 0 0,.slice none 0 0] 55)) from (Below.refl _ _).alloc (Nat.le_refl _) _)
  have hol:(openT s).size≤s.size:=by
    unfold openT
    split <;> first
      | exact Nat.zero_le _
      | (unfold ahead;rw [ByteArray.size_extract];omega)
  rw [fileGet_sum hsl] at hR
  subst hR
  have e1:openE s=400:=by unfold openE;rw [if_neg (by rw [hsl];simp)]
  rw [e1] at T1
  clear e1 hsl hol
  go_enter Tryz.func38,Tryz.ntmps38
  go_upto_region 1 with fail
  change Code.wp _ _ _ _ (w.alloc (.cells #[.int .i64 0,.slice none 0 0,.slice none 0 0] 55))
  change Hid (DSlot (w.alloc (.cells #[.int .i64 0,.slice none 0 0,.slice none 0 0] 55)) w.heap.size ⟨none,0,none,0⟩ zeroD) at HZ0
  generalize w.alloc (.cells #[.int .i64 0,.slice none 0 0,.slice none 0 0] 55)=u0 at *
  go_upto_region 2 with (go_at_call 61;refine (T1.out _).mono ?_;rintro e w1 ⟨rfl,hb⟩;have HB1:=Lib.hid (HB0.out.trans (hb.mono HB0.out.size));have HZ1:=Lib.hid (HZ0.out.below hb);clear hb)
  obtain ⟨z0,z1,z2⟩:=HZ1.out.at
  obtain ⟨y0,y1,y2⟩:=HZ1.out.froz
  simp only at z0 z1 z2
  go_wp2
  change bodyPost _ _ _ _ _ (putD w1 w.heap.size ⟨none,0,none,0⟩ zeroD)
  have hp:=HZ1.out.put ⟨none,0,none,0⟩ zeroD
  have hpf:=putD_frm (F:=fun k => k=w.heap.size) rfl w1 ⟨none,0,none,0⟩ zeroD
  generalize putD w1 w.heap.size ⟨none,0,none,0⟩ zeroD=w99 at *
  obtain ⟨b0,b1,b2⟩:=hp.at
  simp only at b0 b1 b2
  clear z0 z1 z2 y0 y1 y2
  refine bodyPost_ret (v:=.tuple #[.agg #[.int .i64 0,.slice none 0 0,.slice none 0 0],.int .i64 1101]) (by simp [results,Tryz.results38,go_sem,b0,b1,b2,zeroD]) rfl ?_
  exact ⟨⟨none,0,none,0⟩,[],rfl,DaOwn.nil _ _ 0,Frm.to_below HB1.out hpf (fun k e => by rw [e];exact Nat.le_refl _) (Nat.le_refl _)⟩
set_option maxRecDepth 100000 in
set_option maxHeartbeats 4000000 in
theorem refunfile_head (w:World) (s:ByteArray) (hs:s.size≤140737488355328) (hsl:isSealed s=true) (hx:(tkHead (openT s).data.toList).1 ≠ markF) :
    Calls Tryz.prog 38 #[.string s] w (FGetPost w (fileGet s)):=by
  obtain ⟨R,hR⟩:∃ R,R=fileGet s:=⟨_,rfl⟩
  rw [← hR]
  have T1:=Lib.hid (fun u => ropen_any s (by omega) u)
  have HZ0:=Lib.hid (DSlot.new w ⟨none,0,none,0⟩ zeroD)
  have HB0:=Lib.hid (show Below w.heap.size w (w.alloc (.cells #[.int .i64 0,.slice none 0 0,.slice none 0 0] 55)) from (Below.refl _ _).alloc (Nat.le_refl _) _)
  have hol:(openT s).size≤s.size:=by
    unfold openT
    split <;> first
      | exact Nat.zero_le _
      | (unfold ahead;rw [ByteArray.size_extract];omega)
  have e1:openE s=0:=by unfold openE;rw [if_pos hsl]
  rw [e1] at T1
  rw [fileGet_T hsl,readT_eq] at hR
  have hos:(openT s).size≤281474976710648:=by omega
  have hol2:(openT s).size≤140737488355328:=by omega
  clear e1 hsl hol hs
  generalize openT s=O at *
  have T2:=Lib.hid (fun (u:World) (g:Nat) (h:TkAt u g O ⟨0,false⟩) => tkbytes_any u g O ⟨0,false⟩ h hos 3 (by omega))
  have hhd:tkHead O.data.toList=tkBytes O.data.toList ⟨0,false⟩ 3:=rfl
  rw [← hhd] at T2
  have hmn:tkMany O.data.toList=tkNum O.data.toList (tkNum O.data.toList (tkHead O.data.toList).2 4096).2 12:=rfl
  have hal:tkAll O.data.toList=tkCols O.data.toList (tkMany O.data.toList).1 (tkMany O.data.toList).2 [] []:=rfl
  clear hhd
  generalize tkHead O.data.toList=A at *
  obtain ⟨x,t1⟩:=A
  simp only at T2 hmn hal hR hx
  have T3:=Lib.hid (fun (u:World) (g:Nat) (h:TkAt u g O t1) => tknum_any u g O t1 h hos 4096 (by omega))
  generalize tkNum O.data.toList t1 4096=A at *
  obtain ⟨nn,t2⟩:=A
  simp only at T3 hmn hR
  have T4:=Lib.hid (fun (u:World) (g:Nat) (h:TkAt u g O t2) => tknum_any u g O t2 h hos 12 (by omega))
  have hm12:=tkNum_most O.data.toList t2 12
  rw [← hmn] at T4 hm12
  clear hmn
  generalize tkMany O.data.toList=A at *
  obtain ⟨m,t3⟩:=A
  simp only at T4 hm12 hal
  generalize tkAll O.data.toList=RR at *
  have T2:Hid (∀ (u:World) (g:Nat) (h:TkAt u g O ⟨0,false⟩),Calls Tryz.prog 72 #[.pointer (some ⟨g,0,none⟩),.int .i64 3] u fun e w' => e=.returned (.string (textB x))∧TkAt w' g O t1∧Frm (fun k => k=g) u w'):=T2
  have T3:Hid (∀ (u:World) (g:Nat) (h:TkAt u g O t1),Calls Tryz.prog 62 #[.pointer (some ⟨g,0,none⟩),.int .i64 4096] u fun e w' => e=.returned (.int .i64 (nn:Int))∧TkAt w' g O t2∧Frm (fun k => k=g) u w'):=T3
  have T4:Hid (∀ (u:World) (g:Nat) (h:TkAt u g O t2),Calls Tryz.prog 62 #[.pointer (some ⟨g,0,none⟩),.int .i64 12] u fun e w' => e=.returned (.int .i64 (m:Int))∧TkAt w' g O t3∧Frm (fun k => k=g) u w'):=T4
  have HAL:=Lib.hid hal
  have HRR:=Lib.hid hR
  have HM12:=Lib.hid hm12
  have HOS:=Lib.hid (And.intro hos hol2)
  have hmk:=mark_eq x
  have hmk2:((textB x).toList != [76,75,49]) = !decide (x=markF):=by rw [bne,hmk]
  rw [decide_eq_false hx] at hmk hmk2
  rw [if_pos (Or.inl hx)] at hR HRR
  obtain rfl:R=(zeroD,1100):=hR
  clear hal hm12 hos hol2 hx HRR HAL
  generalize textB x=X at *
  go_enter Tryz.func38,Tryz.ntmps38
  go_upto_region 1 with fail
  change Code.wp _ _ _ _ (w.alloc (.cells #[.int .i64 0,.slice none 0 0,.slice none 0 0] 55))
  change Hid (DSlot (w.alloc (.cells #[.int .i64 0,.slice none 0 0,.slice none 0 0] 55)) w.heap.size ⟨none,0,none,0⟩ zeroD) at HZ0
  generalize w.alloc (.cells #[.int .i64 0,.slice none 0 0,.slice none 0 0] 55)=u0 at *
  go_upto_region 4 with (go_at_call 61;refine (T1.out _).mono ?_;rintro e w1 ⟨rfl,hb⟩;have HB1:=Lib.hid (HB0.out.trans (hb.mono HB0.out.size));have HZ1:=Lib.hid (HZ0.out.below hb);clear hb)
  obtain ⟨u1,hu1⟩:∃ u1,u1=w1.alloc (.cells #[.string O,.int .i64 0,.bool false] 103):=⟨_,rfl⟩
  have hb1:Below w1.heap.size w1 u1:=by rw [hu1];exact (Below.refl _ _).alloc (Nat.le_refl _) _
  have HK1:=Lib.hid (show TkAt u1 w1.heap.size O ⟨0,false⟩ by rw [hu1];exact ⟨heap_alloc_new w1 _,Nat.zero_le _⟩)
  have HZ2:=Lib.hid (HZ1.out.below hb1)
  have HB2:=Lib.hid (HB1.out.trans (hb1.mono HB1.out.size))
  go_upto_region 5 with fail
  change Code.wp _ _ _ _ (w1.alloc (.cells #[.string O,.int .i64 0,.bool false] 103))
  rw [← hu1]
  have HG:Hid (w.heap.size < w1.heap.size):=HZ1.out.lt
  clear hu1 hb1 HZ0 HZ1 HB0 HB1 T1
  generalize w1.heap.size=g at *
  go_upto_region 6 with (go_at_call 72;refine (T2.out u1 g HK1.out).mono ?_;rintro e w2 ⟨rfl,hk,hf⟩;have HK2:=Lib.hid hk;have HZ3:=Lib.hid (HZ2.out.frm hf (by have:=HG.out;omega));have HB3:=Lib.hid (Frm.to_below HB2.out hf (fun k e => by have:=HG.out;omega) (Nat.le_refl _));clear hk hf)
  obtain ⟨u3,hu3⟩:∃ u3,u3=w2.alloc (.cells #[.int .i64 0,.slice none 0 0,.slice none 0 0] 55):=⟨_,rfl⟩
  have hb3:Below w2.heap.size w2 u3:=by rw [hu3];exact (Below.refl _ _).alloc (Nat.le_refl _) _
  have HD3:=Lib.hid (show DSlot u3 w2.heap.size ⟨none,0,none,0⟩ zeroD by rw [hu3];exact DSlot.new w2 ⟨none,0,none,0⟩ zeroD)
  have HK3:=Lib.hid (HK2.out.below hb3)
  have HZ4:=Lib.hid (HZ3.out.below hb3)
  have HB4:=Lib.hid (HB3.out.trans (hb3.mono HB3.out.size))
  go_upto_region 7 with fail
  change Code.wp _ _ _ _ (w2.alloc (.cells #[.int .i64 0,.slice none 0 0,.slice none 0 0] 55))
  rw [← hu3]
  have HG8:Hid (g < w2.heap.size):=HK2.out.lt
  clear hu3 hb3 HK1 HK2 HZ2 HZ3 HB2 HB3 T2
  generalize w2.heap.size=g8 at *
  obtain ⟨g2,hg2⟩:∃ g2,g2=w.heap.size:=⟨_,rfl⟩
  have HG2:=Lib.hid hg2
  rw [← hg2] at HZ4 HG ⊢
  clear hg2
  go_upto_region 8 with (go_at_call 62;refine (T3.out u3 g HK3.out).mono ?_;rintro e w4 ⟨rfl,hk,hf⟩;have HK4:=Lib.hid hk;have HZ5:=Lib.hid (HZ4.out.frm hf (by have:=HG.out;omega));have HD4:=Lib.hid (HD3.out.frm hf (by have:=HG8.out;omega));have HB5:=Lib.hid (Frm.to_below HB4.out hf (fun k e => by have:=HG.out;have:=HG2.out;omega) (Nat.le_refl _));obtain ⟨e0,e1,e2⟩:=HD4.out.at;obtain ⟨f0,f1,f2⟩:=HD4.out.froz;clear hk hf)
  obtain ⟨u5,hu5⟩:∃ u5,u5=w4.setCell ⟨g8,0,none⟩ (.int .i64 (nn:Int)):=⟨_,rfl⟩
  have hf5:Frm (fun k => k=g8) w4 u5:=by rw [hu5];exact (Frm.refl (fun k => k=g8) w4).setCell (p:=⟨g8,0,none⟩) rfl _
  have HD5:=Lib.hid (show DSlot u5 g8 ⟨none,0,none,0⟩ ⟨(nn:Int),[],[]⟩ by rw [hu5];exact HD4.out.setN (nn:Int))
  have HK5:=Lib.hid (HK4.out.frm hf5 (by have:=HG8.out;omega))
  have HZ6:=Lib.hid (HZ5.out.frm hf5 (by have:=HG8.out;have:=HG.out;omega))
  have HB6:=Lib.hid (Frm.to_below HB5.out hf5 (fun k e => by have:=HG8.out;have:=HG.out;have:=HG2.out;omega) (Nat.le_refl _))
  change Code.wp _ _ _ _ (w4.setCell ⟨g8,0,none⟩ (.int .i64 (nn:Int)))
  rw [← hu5]
  clear hu5 hf5 e0 e1 e2 f0 f1 f2 HD3 HD4 HK3 HK4 HZ4 HZ5 HB4 HB5 T3
  go_upto_region 9 with (go_at_call 62;refine (T4.out u5 g HK5.out).mono ?_;rintro e w6 ⟨rfl,hk,hf⟩;have HK6:=Lib.hid hk;have HZ7:=Lib.hid (HZ6.out.frm hf (by have:=HG.out;omega));have HD6:=Lib.hid (HD5.out.frm hf (by have:=HG8.out;omega));have HB7:=Lib.hid (Frm.to_below HB6.out hf (fun k e => by have:=HG.out;have:=HG2.out;omega) (Nat.le_refl _));clear hk hf)
  clear HD5 HK5 HZ6 HB6 T4
  obtain ⟨⟨k0,k1,k2⟩,_⟩:=HK6.out.at
  by_cases hm0:m=0
  · subst hm0
    go_wp2
    go_loop [10] (fun iv => iv=.int .i64 0) (fun _ => 0)
    case atStart => rfl
    case round =>
      subst hrel
      have hd0:decide ((0:Int) < ((0:Nat):Int))=false:=rfl
      cases htb:t3.bad with
      | true =>
        rw [htb] at k2
        obtain ⟨z0,z1,z2⟩:=HZ7.out.at
        obtain ⟨y0,y1,y2⟩:=HZ7.out.froz
        simp only at z0 z1 z2
        go_wp2
        change bodyPost _ _ _ _ _ (putD w6 g2 ⟨none,0,none,0⟩ zeroD)
        have hp:=HZ7.out.put ⟨none,0,none,0⟩ zeroD
        have hpf:=putD_frm (F:=fun k => k=g2) rfl w6 ⟨none,0,none,0⟩ zeroD
        generalize putD w6 g2 ⟨none,0,none,0⟩ zeroD=w99 at *
        obtain ⟨b0,b1,b2⟩:=hp.at
        simp only at b0 b1 b2
        clear z0 z1 z2 y0 y1 y2
        refine bodyPost_ret (v:=.tuple #[.agg #[.int .i64 0,.slice none 0 0,.slice none 0 0],.int .i64 1100]) (by simp [results,Tryz.results38,go_sem,b0,b1,b2,zeroD]) rfl ?_
        exact ⟨⟨none,0,none,0⟩,[],rfl,DaOwn.nil _ _ 0,Frm.to_below HB7.out hpf (fun k e => by rw [e];exact Nat.le_of_eq HG2.out.symm) (Nat.le_refl _)⟩
      | false =>
        rw [htb] at k2
        obtain ⟨z0,z1,z2⟩:=HZ7.out.at
        obtain ⟨y0,y1,y2⟩:=HZ7.out.froz
        simp only at z0 z1 z2
        go_wp2
        change bodyPost _ _ _ _ _ (putD w6 g2 ⟨none,0,none,0⟩ zeroD)
        have hp:=HZ7.out.put ⟨none,0,none,0⟩ zeroD
        have hpf:=putD_frm (F:=fun k => k=g2) rfl w6 ⟨none,0,none,0⟩ zeroD
        generalize putD w6 g2 ⟨none,0,none,0⟩ zeroD=w99 at *
        obtain ⟨b0,b1,b2⟩:=hp.at
        simp only at b0 b1 b2
        clear z0 z1 z2 y0 y1 y2
        refine bodyPost_ret (v:=.tuple #[.agg #[.int .i64 0,.slice none 0 0,.slice none 0 0],.int .i64 1100]) (by simp [results,Tryz.results38,go_sem,b0,b1,b2,zeroD]) rfl ?_
        exact ⟨⟨none,0,none,0⟩,[],rfl,DaOwn.nil _ _ 0,Frm.to_below HB7.out hpf (fun k e => by rw [e];exact Nat.le_of_eq HG2.out.symm) (Nat.le_refl _)⟩
  · have hd0:decide ((0:Int) < (m:Int))=true:=decide_eq_true (by omega)
    go_wp2
    go_loop [10] (fun iv => iv=.int .i64 0) (fun _ => 0)
    case atStart => rfl
    case round =>
      subst hrel
      cases htb:t3.bad with
      | true =>
        rw [htb] at k2
        obtain ⟨z0,z1,z2⟩:=HZ7.out.at
        obtain ⟨y0,y1,y2⟩:=HZ7.out.froz
        simp only at z0 z1 z2
        go_wp2
        change bodyPost _ _ _ _ _ (putD w6 g2 ⟨none,0,none,0⟩ zeroD)
        have hp:=HZ7.out.put ⟨none,0,none,0⟩ zeroD
        have hpf:=putD_frm (F:=fun k => k=g2) rfl w6 ⟨none,0,none,0⟩ zeroD
        generalize putD w6 g2 ⟨none,0,none,0⟩ zeroD=w99 at *
        obtain ⟨b0,b1,b2⟩:=hp.at
        simp only at b0 b1 b2
        clear z0 z1 z2 y0 y1 y2
        refine bodyPost_ret (v:=.tuple #[.agg #[.int .i64 0,.slice none 0 0,.slice none 0 0],.int .i64 1100]) (by simp [results,Tryz.results38,go_sem,b0,b1,b2,zeroD]) rfl ?_
        exact ⟨⟨none,0,none,0⟩,[],rfl,DaOwn.nil _ _ 0,Frm.to_below HB7.out hpf (fun k e => by rw [e];exact Nat.le_of_eq HG2.out.symm) (Nat.le_refl _)⟩
      | false =>
        rw [htb] at k2
        obtain ⟨z0,z1,z2⟩:=HZ7.out.at
        obtain ⟨y0,y1,y2⟩:=HZ7.out.froz
        simp only at z0 z1 z2
        go_wp2
        change bodyPost _ _ _ _ _ (putD w6 g2 ⟨none,0,none,0⟩ zeroD)
        have hp:=HZ7.out.put ⟨none,0,none,0⟩ zeroD
        have hpf:=putD_frm (F:=fun k => k=g2) rfl w6 ⟨none,0,none,0⟩ zeroD
        generalize putD w6 g2 ⟨none,0,none,0⟩ zeroD=w99 at *
        obtain ⟨b0,b1,b2⟩:=hp.at
        simp only at b0 b1 b2
        clear z0 z1 z2 y0 y1 y2
        refine bodyPost_ret (v:=.tuple #[.agg #[.int .i64 0,.slice none 0 0,.slice none 0 0],.int .i64 1100]) (by simp [results,Tryz.results38,go_sem,b0,b1,b2,zeroD]) rfl ?_
        exact ⟨⟨none,0,none,0⟩,[],rfl,DaOwn.nil _ _ 0,Frm.to_below HB7.out hpf (fun k e => by rw [e];exact Nat.le_of_eq HG2.out.symm) (Nat.le_refl _)⟩
end Go.Proofs.YtfbmlefhjoblbaaGreat
