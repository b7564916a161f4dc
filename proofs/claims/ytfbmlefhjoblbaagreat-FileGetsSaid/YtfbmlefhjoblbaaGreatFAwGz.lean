/- Spaces and remarks left out: a claim is at most so large. -/
import Derived.Test.YtfbmlefhjoblbaaGreatFReadGz
import Derived.Test.YtfbmlefhjoblbaaGreatFPutMGz
import Derived.Test.YtfbmlefhjoblbaaGreatNum
import Derived.Test.YtfbmlefhjoblbaaGreatNPFileGetsGz8
namespace Go.Proofs.YtfbmlefhjoblbaaGreat
open Go.Conc Go.RowKit
set_option linter.unusedVariables false
set_option linter.unusedSimpArgs false
def FGetPost (w:World) (r:Da × Int) (e:Ending) (w':World):Prop:=∃ p us,e=.returned (.tuple #[.agg #[.int .i64 r.1.n,.slice p.ac r.1.cs.length p.kc,.slice p.ar r.1.rs.length p.kr],.int .i64 r.2])∧DaOwn w.heap.size w' p r.1 us∧Below w.heap.size w w'
set_option maxRecDepth 100000 in
set_option maxHeartbeats 4000000 in
theorem fileget_any (w:World) (s:ByteArray) (hs:s.size≤140737488355328) :
    Calls Tryz.prog 36 #[.string s] w (FGetPost w (fileGet s)):=by
  obtain ⟨R,hR⟩:∃ R,R=fileGet s:=⟨_,rfl⟩
  rw [← hR]
  have T1:=Lib.hid (fun u => copen_any s (by omega) u)
  have HZ0:=Lib.hid (DSlot.new w ⟨none,0,none,0⟩ zeroD)
  have HB0:=Lib.hid (show Below w.heap.size w (w.alloc (.cells #[.int .i64 0,.slice none 0 0,.slice none 0 0] 55)) from (Below.refl _ _).alloc (Nat.le_refl _) _)
  have hol:(openT s).size≤s.size:=by
    unfold openT
    split
    · rename_i h
      unfold ahead
      rw [ByteArray.size_extract]
      omega
    · exact Nat.zero_le _
  cases hsl:isSealed s with
  | false =>
    rw [fileGet_sum hsl] at hR
    subst hR
    have e1:openE s=400:=by unfold openE;rw [if_neg (by rw [hsl];simp)]
    rw [e1] at T1
    clear e1 hsl hol
    go_enter Tryz.func36,Tryz.ntmps36
    go_upto_region 1 with fail
    change Code.wp _ _ _ _ (w.alloc (.cells #[.int .i64 0,.slice none 0 0,.slice none 0 0] 55))
    change Hid (DSlot (w.alloc (.cells #[.int .i64 0,.slice none 0 0,.slice none 0 0] 55)) w.heap.size ⟨none,0,none,0⟩ zeroD) at HZ0
    generalize w.alloc (.cells #[.int .i64 0,.slice none 0 0,.slice none 0 0] 55)=u0 at *
    go_upto_region 2 with (go_at_call 59;refine (T1.out _).mono ?_;rintro e w1 ⟨rfl,hb⟩;have HB1:=Lib.hid (HB0.out.trans (hb.mono HB0.out.size));have HZ1:=Lib.hid (HZ0.out.below hb);clear hb)
    obtain ⟨z0,z1,z2⟩:=HZ1.out.at
    obtain ⟨y0,y1,y2⟩:=HZ1.out.froz
    simp only at z0 z1 z2
    go_wp2
    change bodyPost _ _ _ _ _ (putD w1 w.heap.size ⟨none,0,none,0⟩ zeroD)
    have hp:=HZ1.out.put ⟨none,0,none,0⟩ zeroD
    have hpf:=putD_frm (F:=fun k => k=w.heap.size) rfl w1 ⟨none,0,none,0⟩ zeroD
    generalize putD w1 w.heap.size ⟨none,0,none,0⟩ zeroD=w9 at *
    obtain ⟨b0,b1,b2⟩:=hp.at
    simp only at b0 b1 b2
    clear z0 z1 z2 y0 y1 y2
    refine bodyPost_ret (v:=.tuple #[.agg #[.int .i64 0,.slice none 0 0,.slice none 0 0],.int .i64 1101]) (by simp [results,Tryz.results36,go_sem,b0,b1,b2,zeroD]) rfl ?_
    exact ⟨⟨none,0,none,0⟩,[],rfl,DaOwn.nil _ _ 0,Frm.to_below HB1.out hpf (fun k e => by rw [e];exact Nat.le_refl _) (Nat.le_refl _)⟩
  | true =>
    have e1:openE s=0:=by unfold openE;rw [if_pos hsl]
    rw [e1] at T1
    rw [fileGet_F hsl] at hR
    have HRR:=Lib.hid hR
    clear hR
    have TR:=Lib.hid (fun u => fileread_any u (openT s) (by omega))
    have TP:=Lib.hid (fun (u:World) (p:DaAt) (d:Da) (h:DaIs u p d) (hf:FinD d) => fileput_any u p d h hf)
    have HRI:=Lib.hid (fun (d:Da) (h:readF (openT s).data.toList=some d) => (readF_in h).finD)
    clear e1 hsl hol hs
    generalize openT s=O at *
    go_enter Tryz.func36,Tryz.ntmps36
    go_upto_region 1 with fail
    change Code.wp _ _ _ _ (w.alloc (.cells #[.int .i64 0,.slice none 0 0,.slice none 0 0] 55))
    change Hid (DSlot (w.alloc (.cells #[.int .i64 0,.slice none 0 0,.slice none 0 0] 55)) w.heap.size ⟨none,0,none,0⟩ zeroD) at HZ0
    generalize w.alloc (.cells #[.int .i64 0,.slice none 0 0,.slice none 0 0] 55)=u0 at *
    go_upto_region 5 with (first
      | (go_at_call 59;refine (T1.out _).mono ?_;rintro e w1 ⟨rfl,hb⟩;have HB1:=Lib.hid (HB0.out.trans (hb.mono HB0.out.size));have HZ1:=Lib.hid (HZ0.out.below hb);clear hb)
      | (go_at_call 70;refine (TR.out _).mono ?_;rintro e w2 ⟨p,d,us,f,rfl,hrd,ho,hb⟩;have HB2:=Lib.hid (HB1.out.trans (hb.mono HB1.out.size));have HZ2:=Lib.hid (HZ1.out.below hb);have HO2:=Lib.hid ho;have HG1:=Lib.hid (And.intro HB1.out.size HZ1.out.lt);have HRD:=Lib.hid hrd;clear hb ho hrd))
    obtain ⟨u3,hu3⟩:∃ u3,u3=w2.alloc (.cells #[.int .i64 d.n,.slice p.ac d.cs.length p.kc,.slice p.ar d.rs.length p.kr] 55):=⟨_,rfl⟩
    change Code.wp _ _ _ _ (w2.alloc (.cells #[.int .i64 d.n,.slice p.ac d.cs.length p.kc,.slice p.ar d.rs.length p.kr] 55))
    have HS3:=Lib.hid (show DSlot u3 w2.heap.size p d by rw [hu3];exact DSlot.new w2 p d)
    have hb3:Below w2.heap.size w2 u3:=by rw [hu3];exact (Below.refl _ _).alloc (Nat.le_refl _) _
    have HB3:=Lib.hid (HB2.out.trans (hb3.mono HB2.out.size))
    have HZ3:=Lib.hid (HZ2.out.below hb3)
    have HO3:=Lib.hid (HO2.out.below hb3)
    rw [← hu3]
    clear hu3 hb3 HB0 HB1 HB2 HZ0 HZ1 HZ2 HO2
    generalize w2.heap.size=g6 at HS3 ⊢
    cases f with
    | false =>
      have hrd:=HRD.out
      rw [if_neg (by simp)] at hrd
      have hR:=HRR.out
      rw [hrd] at hR
      simp only [ansD] at hR
      subst hR
      obtain ⟨z0,z1,z2⟩:=HZ3.out.at
      obtain ⟨y0,y1,y2⟩:=HZ3.out.froz
      simp only at z0 z1 z2
      go_wp2
      change bodyPost _ _ _ _ _ (putD u3 w.heap.size ⟨none,0,none,0⟩ zeroD)
      have hp:=HZ3.out.put ⟨none,0,none,0⟩ zeroD
      have hpf:=putD_frm (F:=fun k => k=w.heap.size) rfl u3 ⟨none,0,none,0⟩ zeroD
      generalize putD u3 w.heap.size ⟨none,0,none,0⟩ zeroD=w9 at *
      obtain ⟨b0,b1,b2⟩:=hp.at
      simp only at b0 b1 b2
      clear z0 z1 z2 y0 y1 y2
      refine bodyPost_ret (v:=.tuple #[.agg #[.int .i64 0,.slice none 0 0,.slice none 0 0],.int .i64 1100]) (by simp [results,Tryz.results36,go_sem,b0,b1,b2,zeroD]) rfl ?_
      exact ⟨⟨none,0,none,0⟩,[],rfl,DaOwn.nil _ _ 0,Frm.to_below HB3.out hpf (fun k e => by rw [e];exact Nat.le_refl _) (Nat.le_refl _)⟩
    | true =>
      have hrd:=HRD.out
      rw [if_pos rfl] at hrd
      have hR:=HRR.out
      rw [hrd] at hR
      simp only [ansD] at hR
      clear HRR
      have TP2:=Lib.hid (TP.out u3 p d HO3.out.is (HRI.out d hrd))
      clear hrd HRD HRI TP
      generalize fileA d=F at *
      obtain ⟨x,E⟩:=F
      simp only at TP2 hR
      have HRR:=Lib.hid hR
      clear hR
      obtain ⟨b0,b1,b2⟩:=HS3.out.at
      go_upto_region 8 with (go_at_call 29;refine TP2.out.mono ?_;rintro e w4 ⟨rfl,hb⟩;have HB4:=Lib.hid (HB3.out.trans (hb.mono HB3.out.size));have HZ4:=Lib.hid (HZ3.out.below hb);have HO4:=Lib.hid (HO3.out.below hb);have HS4:=Lib.hid (HS3.out.below hb);clear hb TP2)
      clear b0 b1 b2
      obtain ⟨z0,z1,z2⟩:=HZ4.out.at
      obtain ⟨y0,y1,y2⟩:=HZ4.out.froz
      obtain ⟨b0,b1,b2⟩:=HS4.out.at
      simp only at z0 z1 z2
      by_cases hE:E=0
      · subst hE
        by_cases hx:x=s
        · have hR:=HRR.out
          rw [if_pos ⟨rfl,hx⟩] at hR
          subst hR
          have hq:(x.toList == s.toList)=true:=toList_same hx
          have hq2:(x.toList != s.toList)=false:=by rw [bne,hq];rfl
          clear hx
          go_wp2
          change bodyPost _ _ _ _ _ (putD w4 w.heap.size p d)
          have hp:=HZ4.out.put p d
          have hpf:=putD_frm (F:=fun k => k=w.heap.size) rfl w4 p d
          generalize putD w4 w.heap.size p d=w9 at *
          clear z0 z1 z2 y0 y1 y2 b0 b1 b2
          obtain ⟨b0,b1,b2⟩:=hp.at
          refine bodyPost_ret (v:=.tuple #[.agg #[.int .i64 d.n,.slice p.ac d.cs.length p.kc,.slice p.ar d.rs.length p.kr],.int .i64 0]) (by simp [results,Tryz.results36,go_sem,b0,b1,b2]) rfl ?_
          refine ⟨p,us,rfl,?_,Frm.to_below HB4.out hpf (fun k e => by rw [e];exact Nat.le_refl _) (Nat.le_refl _)⟩
          refine (HO4.out.frm hpf fun k hk _ e => ?_).lower HG1.out.1
          have:=HG1.out.2
          omega
        · have hR:=HRR.out
          rw [if_neg (fun e => hx e.2)] at hR
          subst hR
          have hq:(x.toList == s.toList)=false:=toList_ne hx
          have hq2:(x.toList != s.toList)=true:=by rw [bne,hq];rfl
          clear hx b0 b1 b2
          go_wp2
          change bodyPost _ _ _ _ _ (putD w4 w.heap.size ⟨none,0,none,0⟩ zeroD)
          have hp:=HZ4.out.put ⟨none,0,none,0⟩ zeroD
          have hpf:=putD_frm (F:=fun k => k=w.heap.size) rfl w4 ⟨none,0,none,0⟩ zeroD
          generalize putD w4 w.heap.size ⟨none,0,none,0⟩ zeroD=w9 at *
          obtain ⟨b0,b1,b2⟩:=hp.at
          simp only at b0 b1 b2
          clear z0 z1 z2 y0 y1 y2
          refine bodyPost_ret (v:=.tuple #[.agg #[.int .i64 0,.slice none 0 0,.slice none 0 0],.int .i64 1100]) (by simp [results,Tryz.results36,go_sem,b0,b1,b2,zeroD]) rfl ?_
          exact ⟨⟨none,0,none,0⟩,[],rfl,DaOwn.nil _ _ 0,Frm.to_below HB4.out hpf (fun k e => by rw [e];exact Nat.le_refl _) (Nat.le_refl _)⟩
      · have hR:=HRR.out
        rw [if_neg (fun e => hE e.1)] at hR
        subst hR
        have hne:(E != 0)=true:=by simpa using hE
        clear hE b0 b1 b2
        go_wp2
        change bodyPost _ _ _ _ _ (putD w4 w.heap.size ⟨none,0,none,0⟩ zeroD)
        have hp:=HZ4.out.put ⟨none,0,none,0⟩ zeroD
        have hpf:=putD_frm (F:=fun k => k=w.heap.size) rfl w4 ⟨none,0,none,0⟩ zeroD
        generalize putD w4 w.heap.size ⟨none,0,none,0⟩ zeroD=w9 at *
        obtain ⟨b0,b1,b2⟩:=hp.at
        simp only at b0 b1 b2
        clear z0 z1 z2 y0 y1 y2
        refine bodyPost_ret (v:=.tuple #[.agg #[.int .i64 0,.slice none 0 0,.slice none 0 0],.int .i64 1100]) (by simp [results,Tryz.results36,go_sem,b0,b1,b2,zeroD]) rfl ?_
        exact ⟨⟨none,0,none,0⟩,[],rfl,DaOwn.nil _ _ 0,Frm.to_below HB4.out hpf (fun k e => by rw [e];exact Nat.le_refl _) (Nat.le_refl _)⟩
end Go.Proofs.YtfbmlefhjoblbaaGreat
namespace Go.Proofs.YtfbmlefhjoblbaaGreat
open Go.Conc Go.RowKit
set_option linter.unusedVariables false
set_option linter.unusedSimpArgs false
def statsOf (d:Da):List S:=statsA d.cs d.rs
theorem statsOf_len {d:Da} (h:d.rs.length=d.cs.length):(statsOf d).length=d.cs.length:=by unfold statsOf statsA;rw [List.length_zipWith,h];omega
def FStaPost (w:World) (r:Da × Int) (e:Ending) (w':World):Prop:=∃ a c,e=.returned (.tuple #[.slice a (statsOf r.1).length c,.int .i64 r.2])∧OwnS w.heap.size w' a c (statsOf r.1)∧Below w.heap.size w w'
set_option maxRecDepth 100000 in
set_option maxHeartbeats 1000000 in
theorem filestats_any (w:World) (s:ByteArray) (hs:s.size≤140737488355328) :
    Calls Tryz.prog 37 #[.string s] w (FStaPost w (fileGet s)):=by
  have T1:=Lib.hid (fun u => fileget_any u s hs)
  have hin:=fileGet_in s
  have herr:=fun h => fileGet_err (s:=s) h
  have hsl:=statsOf_len hin.len
  generalize fileGet s=R at *
  obtain ⟨d,E⟩:=R
  simp only at hin herr hsl
  have TE:=Lib.hid (fun (u:World) (p:DaAt) (h:DaIs u p d) => fileeach_any u p d h (by rw [hin.len];exact Nat.le_refl _) (Nat.le_trans hin.many (by decide)) (fun r hr => ⟨(hin.finD.row r hr).1,fun v hv => ((hin.finD.row r hr).2 v hv).2⟩))
  have HSL:=Lib.hid hsl
  have HERR:=Lib.hid herr
  clear hin herr hsl hs
  go_enter Tryz.func37,Tryz.ntmps37
  go_upto_region 2 with (go_at_call 36;refine (T1.out _).mono ?_;rintro e w1 ⟨p,us,rfl,ho,hb⟩;have HO1:=Lib.hid ho.is;have HB1:=Lib.hid hb;clear ho hb)
  change Code.wp _ _ _ _ (w1.alloc (.cells #[.int .i64 d.n,.slice p.ac d.cs.length p.kc,.slice p.ar d.rs.length p.kr] 55))
  obtain ⟨u1,hu1⟩:∃ u1,u1=w1.alloc (.cells #[.int .i64 d.n,.slice p.ac d.cs.length p.kc,.slice p.ar d.rs.length p.kr] 55):=⟨_,rfl⟩
  have hb1:Below w1.heap.size w1 u1:=by rw [hu1];exact (Below.refl _ _).alloc (Nat.le_refl _) _
  have HS1:=Lib.hid (show DSlot u1 w1.heap.size p d by rw [hu1];exact DSlot.new w1 p d)
  have HU:=Lib.hid (HO1.out.below hb1)
  have HB2:=Lib.hid (HB1.out.trans (hb1.mono HB1.out.size))
  rw [← hu1]
  clear hu1 hb1 HO1 HB1
  by_cases hE:E=0
  · subst hE
    obtain ⟨b0,b1,b2⟩:=HS1.out.at
    go_wp2_with (go_at_call 71;refine (TE.out _ p HU.out).mono ?_;rintro e w2 ⟨a,c,rfl,ho,hb⟩;have HO2:=Lib.hid ho;have HB3:=Lib.hid (HB2.out.trans (hb.mono HB2.out.size));clear ho hb)
    go_ret2
    exact ⟨a,c,by show _=Ending.returned (.tuple #[.slice a (statsOf d).length c,.int .i64 0]);rw [HSL.out];rfl,HO2.out.lower HB2.out.size,HB3.out⟩
  · have hne:(E != 0)=true:=by simpa using hE
    have hd:d=zeroD:=HERR.out hE
    subst hd
    go_wp2
    go_ret2
    exact ⟨none,0,rfl,OwnS.nil _ _,HB2.out⟩
end Go.Proofs.YtfbmlefhjoblbaaGreat
namespace Go.Proofs.YtfbmlefhjoblbaaGreat
open Go.Conc Go.RowKit
set_option linter.unusedVariables false
set_option linter.unusedSimpArgs false
def faD:Da:=⟨1,[⟨2,ByteArray.empty,1⟩],[[⟨1,7,false,ByteArray.empty⟩]]⟩
theorem fa_ok:(fileA faD).2=0:=by kernel_rfl
theorem fa_plain:plainD faD=faD:=by kernel_rfl
theorem fa_fin:FinD faD:=by
  refine ⟨fun c hc => ?_,fun r hr => ?_⟩
  · simp only [faD,List.mem_singleton] at hc;subst hc;decide
  · simp only [faD,List.mem_singleton] at hr;subst hr
    refine ⟨by decide,fun v hv => ?_⟩
    simp only [List.mem_singleton] at hv;subst hv
    exact ⟨⟨by decide,by decide⟩,by decide⟩
theorem fa_may:mayA faD=true:=(file_ok fa_ok).1
theorem fa_get:fileGet (fileA faD).1=(faD,0):=by rw [fileGet_put fa_ok fa_fin.inD,fa_plain]
def faX:ByteArray:=⟨#[120,120,120,120,120]⟩
theorem fa_bad:fileGet faX=(zeroD,1101):=fileGet_sum (by kernel_rfl)
theorem zero_may:mayA zeroD=false:=by kernel_rfl
theorem zero_fin:FinD zeroD:=zeroD_in.finD
theorem zero_is (w:World):DaIs w ⟨none,0,none,0⟩ zeroD:=(DaOwn.nil 0 w 0).is
theorem same_self (d:Da):sameD d d=true:=(sameD_iff d d).2 rfl
set_option maxRecDepth 100000 in
set_option maxHeartbeats 1000000 in
theorem fileawake_any (w:World):Calls Tryz.prog 35 #[] w fun e w' => e=.returned (.bool true)∧Below w.heap.size w w':=by
  obtain ⟨X,hX⟩:∃ X,X=(fileA faD).1:=⟨_,rfl⟩
  have hXz:X.size≤65536:=by
    obtain ⟨_,h2,h3⟩:=file_ok fa_ok
    rw [hX,h3];simp only;rw [sealB_size,textB_size];omega
  have T1:Hid (∀ (u:World) (p:DaAt),DaIs u p faD→Calls Tryz.prog 29 #[.agg #[.int .i64 1,.slice p.ac 1 p.kc,.slice p.ar 1 p.kr]] u fun e w' => e=.returned (.tuple #[.string X,.int .i64 0])∧Below u.heap.size u w'):=fun u p h => by
    have h2:=fileput_any u p faD h fa_fin
    rw [fa_ok,← hX] at h2
    exact h2
  have T2:Hid (∀ u,Calls Tryz.prog 36 #[.string X] u (FGetPost u (faD,0))):=fun u => by
    have h2:=fileget_any u X (by omega)
    rw [hX,fa_get] at h2
    rw [hX];exact h2
  have T3:Hid (∀ u,Calls Tryz.prog 37 #[.string X] u (FStaPost u (faD,0))):=fun u => by
    have h2:=filestats_any u X (by omega)
    rw [hX,fa_get] at h2
    rw [hX];exact h2
  have T4:Hid (∀ u,Calls Tryz.prog 36 #[.string ⟨#[120,120,120,120,120]⟩] u (FGetPost u (zeroD,1101))):=fun u => by
    have h2:=fileget_any u faX (by decide)
    rw [fa_bad] at h2
    exact h2
  have T5:Hid (∀ (u:World) (p:DaAt),DaIs u p faD→Calls Tryz.prog 31 #[.agg #[.int .i64 1,.slice p.ac 1 p.kc,.slice p.ar 1 p.kr]] u fun e w' => e=.returned (.bool true)∧Below u.heap.size u w'):=fun u p h => by
    have h2:=filemay_any u p faD h fa_fin
    rw [fa_may] at h2
    exact h2
  have T6:Hid (∀ (u:World),Calls Tryz.prog 31 #[.agg #[.int .i64 0,.slice none 0 0,.slice none 0 0]] u fun e w' => e=.returned (.bool false)∧Below u.heap.size u w'):=fun u => by
    have h2:=filemay_any u ⟨none,0,none,0⟩ zeroD (zero_is u) zero_fin
    rw [zero_may] at h2
    exact h2
  have T7:Hid (∀ (u:World) (p q:DaAt),DaIs u p faD→DaIs u q faD→Calls Tryz.prog 39 #[.agg #[.int .i64 1,.slice p.ac 1 p.kc,.slice p.ar 1 p.kr],.agg #[.int .i64 1,.slice q.ac 1 q.kc,.slice q.ar 1 q.kr]] u fun e w' => e=.returned (.bool true)∧Below u.heap.size u w'):=fun u p q h1 h2 => by
    have h:=samedata_any u p q faD faD h1 h2 (by decide) (by decide) (fun r hr => by simp only [faD,List.mem_singleton] at hr;subst hr;decide)
    rw [same_self] at h
    exact h
  have hsl:(statsOf faD).length=1:=by kernel_rfl
  obtain ⟨u1,hu1⟩:∃ u1,u1=w.alloc (.cells #[.int .i64 2,.string ByteArray.empty,.int .i64 1] 80):=⟨_,rfl⟩
  obtain ⟨u2,hu2⟩:∃ u2,u2=u1.alloc (.cells #[.int .i64 1,.int .i64 7,.bool false,.string ByteArray.empty] 24):=⟨_,rfl⟩
  obtain ⟨u3,hu3⟩:∃ u3,u3=u2.alloc (.cells #[.slice (some ⟨u1.heap.size,0,none⟩) 1 1] 82):=⟨_,rfl⟩
  obtain ⟨u4,hu4⟩:∃ u4,u4=u3.alloc (.cells #[.int .i64 1,.slice (some ⟨w.heap.size,0,none⟩) 1 1,.slice (some ⟨u2.heap.size,0,none⟩) 1 1] 55):=⟨_,rfl⟩
  have b1:Below w.heap.size w u1:=by rw [hu1];exact (Below.refl _ _).alloc (Nat.le_refl _) _
  have b2:Below u1.heap.size u1 u2:=by rw [hu2];exact (Below.refl _ _).alloc (Nat.le_refl _) _
  have b3:Below u2.heap.size u2 u3:=by rw [hu3];exact (Below.refl _ _).alloc (Nat.le_refl _) _
  have b4:Below u3.heap.size u3 u4:=by rw [hu4];exact (Below.refl _ _).alloc (Nat.le_refl _) _
  have c1:IsCo u1 (some ⟨w.heap.size,0,none⟩) faD.cs:=by rw [hu1];exact isco_new w faD.cs _ rfl
  have v2:IsV u2 (some ⟨u1.heap.size,0,none⟩) [⟨1,7,false,ByteArray.empty⟩]:=by rw [hu2];exact isv_new u1 [⟨1,7,false,ByteArray.empty⟩] _ rfl
  have r3:IsR u3 (some ⟨u2.heap.size,0,none⟩) faD.rs:=by
    refine .inr ⟨u2.heap.size,0,rfl,fun i hi => ?_⟩
    have hi0:i=0:=by simp [faD] at hi;omega
    subst hi0
    refine ⟨.slice (some ⟨u1.heap.size,0,none⟩) 1 1,?_,some ⟨u1.heap.size,0,none⟩,1,rfl,v2.below b3,fun e => by cases e⟩
    rw [hu3,cell_of_row _ _ _ _ _ _ (heap_alloc_new u2 _)];rfl
  have HD:=Lib.hid (show DaIs u4 ⟨some ⟨w.heap.size,0,none⟩,1,some ⟨u2.heap.size,0,none⟩,1⟩ faD from ⟨((c1.below b2).below b3).below b4,r3.below b4,(fun e => by cases e),(fun e => by cases e)⟩)
  have HS:=Lib.hid (show DSlot u4 u3.heap.size ⟨some ⟨w.heap.size,0,none⟩,1,some ⟨u2.heap.size,0,none⟩,1⟩ faD by rw [hu4];exact DSlot.new u3 ⟨some ⟨w.heap.size,0,none⟩,1,some ⟨u2.heap.size,0,none⟩,1⟩ faD)
  have k1:=b1.trans (b2.mono b1.size)
  have k2:=k1.trans (b3.mono k1.size)
  have HB:=Lib.hid (k2.trans (b4.mono k2.size))
  have z1:u1.heap.size=w.heap.size + 1:=by rw [hu1];simp
  have z2:u2.heap.size=w.heap.size + 1 + 1:=by rw [hu2];simp [z1]
  have z3:u3.heap.size=w.heap.size + 1 + 1 + 1:=by rw [hu3];simp [z2]
  have hw4:u4=(((w.alloc (.cells #[.int .i64 2,.string ByteArray.empty,.int .i64 1] 80)).alloc (.cells #[.int .i64 1,.int .i64 7,.bool false,.string ByteArray.empty] 24)).alloc (.cells #[.slice (some ⟨w.heap.size + 1,0,none⟩) 1 1] 82)).alloc (.cells #[.int .i64 1,.slice (some ⟨w.heap.size,0,none⟩) 1 1,.slice (some ⟨w.heap.size + 1 + 1,0,none⟩) 1 1] 55):=by
    rw [hu4,hu3,hu2,hu1];simp
  rw [z2] at HD
  rw [z2,z3] at HS
  clear hX hXz b1 b2 b3 b4 c1 v2 r3 k1 k2 z1 z2 z3 hu1 hu2 hu3 hu4
  go_enter Tryz.func35,Tryz.ntmps35
  go_upto_region 2 with fail
  change Code.wp _ _ _ _ ((((w.alloc (.cells #[.int .i64 2,.string ByteArray.empty,.int .i64 1] 80)).alloc (.cells #[.int .i64 1,.int .i64 7,.bool false,.string ByteArray.empty] 24)).alloc (.cells #[.slice (some ⟨w.heap.size + 1,0,none⟩) 1 1] 82)).alloc (.cells #[.int .i64 1,.slice (some ⟨w.heap.size,0,none⟩) 1 1,.slice (some ⟨w.heap.size + 1 + 1,0,none⟩) 1 1] 55))
  rw [← hw4]
  clear hw4
  obtain ⟨b0,b1,b2⟩:=HS.out.at
  simp only [faD,List.length_cons,List.length_nil] at b0 b1 b2
  go_upto_region 3 with (go_at_call 29;refine (T1.out _ _ HD.out).mono ?_;rintro e w1 ⟨rfl,hb⟩;have HB1:=Lib.hid (HB.out.trans (hb.mono HB.out.size));have HD1:=Lib.hid (HD.out.below hb);have HS1:=Lib.hid (HS.out.below hb);clear hb T1 HS HD HB)
  clear b0 b1 b2
  go_upto_region 4 with (go_at_call 36;refine (T2.out _).mono ?_;rintro e w2 ⟨p,us,rfl,ho,hb⟩;have HB2:=Lib.hid (HB1.out.trans (hb.mono HB1.out.size));have HD2:=Lib.hid (HD1.out.below hb);have HS2:=Lib.hid (HS1.out.below hb);have HO2:=Lib.hid ho.is;clear hb ho T2)
  change Code.wp _ _ _ _ (w2.alloc (.cells #[.int .i64 1,.slice p.ac 1 p.kc,.slice p.ar 1 p.kr] 55))
  obtain ⟨u5,hu5⟩:∃ u5,u5=w2.alloc (.cells #[.int .i64 1,.slice p.ac 1 p.kc,.slice p.ar 1 p.kr] 55):=⟨_,rfl⟩
  have hb5:Below w2.heap.size w2 u5:=by rw [hu5];exact (Below.refl _ _).alloc (Nat.le_refl _) _
  have HS5:=Lib.hid (show DSlot u5 w2.heap.size p faD by rw [hu5];exact DSlot.new w2 p faD)
  have HB5:=Lib.hid (HB2.out.trans (hb5.mono HB2.out.size))
  have HD5:=Lib.hid (HD2.out.below hb5)
  have HS15:=Lib.hid (HS2.out.below hb5)
  have HO5:=Lib.hid (HO2.out.below hb5)
  rw [← hu5]
  clear hu5 hb5 HB1 HD1 HS1 HB2 HD2 HS2 HO2
  go_upto_region 5 with (go_at_call 37;refine (T3.out _).mono ?_;rintro e w6 ⟨a,c,rfl,ho,hb⟩;have HB6:=Lib.hid (HB5.out.trans (hb.mono HB5.out.size));have HD6:=Lib.hid (HD5.out.below hb);have HS16:=Lib.hid (HS15.out.below hb);have HS6:=Lib.hid (HS5.out.below hb);have HO6:=Lib.hid (HO5.out.below hb);clear hb ho T3 HB5 HD5 HS15 HS5 HO5)
  go_upto_region 6 with (go_at_call 36;refine (T4.out _).mono ?_;rintro e w7 ⟨q,vs,rfl,ho,hb⟩;have HB7:=Lib.hid (HB6.out.trans (hb.mono HB6.out.size));have HD7:=Lib.hid (HD6.out.below hb);have HS17:=Lib.hid (HS16.out.below hb);have HS7:=Lib.hid (HS6.out.below hb);have HO7:=Lib.hid (HO6.out.below hb);clear hb ho T4 HB6 HD6 HS16 HS6 HO6)
  change Code.wp _ _ _ _ (w7.alloc (.cells #[.int .i64 0,.slice q.ac 0 q.kc,.slice q.ar 0 q.kr] 55))
  obtain ⟨u8,hu8⟩:∃ u8,u8=w7.alloc (.cells #[.int .i64 0,.slice q.ac 0 q.kc,.slice q.ar 0 q.kr] 55):=⟨_,rfl⟩
  have hb8:Below w7.heap.size w7 u8:=by rw [hu8];exact (Below.refl _ _).alloc (Nat.le_refl _) _
  have HB8:=Lib.hid (HB7.out.trans (hb8.mono HB7.out.size))
  have HD8:=Lib.hid (HD7.out.below hb8)
  have HS18:=Lib.hid (HS17.out.below hb8)
  have HS8:=Lib.hid (HS7.out.below hb8)
  have HO8:=Lib.hid (HO7.out.below hb8)
  rw [← hu8]
  clear hu8 hb8 HB7 HD7 HS17 HS7 HO7
  obtain ⟨b0,b1,b2⟩:=HS18.out.at
  obtain ⟨c0,c1,c2⟩:=HS8.out.at
  simp only [faD,List.length_cons,List.length_nil] at b0 b1 b2 c0 c1 c2
  go_wp2_with (first
    | (go_at_call 17;refine (num_any _ _).mono ?_;rintro e w' ⟨rfl,rfl⟩)
    | (go_at_call 39;refine (T7.out _ _ _ HO8.out HD8.out).mono ?_;rintro e w9 ⟨rfl,hb⟩;have HB9:=Lib.hid (HB8.out.trans (hb.mono HB8.out.size));have HD9:=Lib.hid (HD8.out.below hb);have HS19:=Lib.hid (HS18.out.below hb);clear b0 b1 b2 c0 c1 c2;obtain ⟨b0,b1,b2⟩:=HS19.out.at;simp only [faD,List.length_cons,List.length_nil] at b0 b1 b2;clear hb)
    | (have hx:=HB10.out;clear hx;go_at_call 31;refine (T6.out _).mono ?_;rintro e w11 ⟨rfl,hb⟩;have HB11:=Lib.hid (HB10.out.trans (hb.mono HB10.out.size));clear hb)
    | (go_at_call 31;refine (T5.out _ _ HD9.out).mono ?_;rintro e w10 ⟨rfl,hb⟩;have HB10:=Lib.hid (HB9.out.trans (hb.mono HB9.out.size));clear hb))
  go_ret
  exact ⟨rfl,HB11.out⟩
end Go.Proofs.YtfbmlefhjoblbaaGreat
