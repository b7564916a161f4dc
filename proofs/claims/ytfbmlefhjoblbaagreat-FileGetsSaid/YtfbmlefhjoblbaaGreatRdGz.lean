/- Spaces and remarks left out: a claim is at most so large. -/
import Derived.Test.YtfbmlefhjoblbaaGreatFacesGz
import Derived.Test.YtfbmlefhjoblbaaGreatYmathGz
import Derived.Test.YtfbmlefhjoblbaaGreatNPFileGetsGz3
import Derived.Test.YtfbmlefhjoblbaaGreatNPFileGetsGz6
import Derived.Test.YtfbmlefhjoblbaaGreatNPFileGetsGz2
import Derived.Deep.RegionHeld3
import Derived.Test.YtfbmlefhjoblbaaGreatPackGz
import Derived.Test.YtfbmlefhjoblbaaGreatValLGz
import Derived.Deep.RegionLaw
import Derived.Deep.QuietTactic
import Derived.BigQuiet
namespace Go.Proofs.YtfbmlefhjoblbaaGreat
open Go.Conc Go.RowKit
set_option linter.unusedVariables false
set_option linter.unusedSimpArgs false
set_option maxRecDepth 100000 in
theorem cellsize_any (s:ByteArray) (hs:s.size < 9223372036854775808) (w:World):Calls Tryz.prog 160 #[.string s] w fun e w' => e=.returned (.string (textB (vp s.size)))∧Below w.heap.size w w':=by
  have T:=Lib.hid (vput_yes s.size hs)
  go_enter Tryz.func160,Tryz.ntmps160
  go_wp2_with (go_at_call 113;refine (T.out _).mono ?_;rintro e w' ⟨rfl,hb⟩;have HB:=Lib.hid hb;clear hb)
  go_ret
  exact ⟨rfl,HB.out⟩
theorem textB_append (a b:List UInt8):textB (a ++ b)=textB a ++ textB b:=by
  apply bytes_eq;simp [textB]
theorem textB_text (l:List UInt8) (s:ByteArray):textB (l ++ s.data.toList)=textB l ++ s:=by
  rw [textB_append,text_back]
set_option maxRecDepth 100000 in
theorem cellput_any (v:V) (hk:1≤v.k∧v.k≤3) (h0:-9223372036854775808≤v.i) (h1:v.i≤9223372036854775807) (hs:v.s.size≤140737488355328) (w:World) :
    Calls Tryz.prog 136 #[.agg #[.int .i64 v.k,.int .i64 v.i,.bool v.b,.string v.s]] w fun e w' => e=.returned (.string (textB (plainB v)))∧Below w.heap.size w w':=by
  obtain ⟨k,i,b,s⟩:=v
  simp only at hk h0 h1 hs ⊢
  rcases (show k=1∨k=2∨k=3 by omega) with rfl | rfl | rfl
  · have e:plainB ⟨1,i,b,s⟩=vp (zz i):=if_pos rfl
    rw [e]
    have T:=Lib.hid (vzig_any i h0 (by omega))
    clear h0 h1 hk e
    go_enter Tryz.func136,Tryz.ntmps136
    go_wp2_with (go_at_call 159;refine (T.out _).mono ?_;rintro e w' ⟨rfl,hb⟩;have HB:=Lib.hid hb;clear hb)
    go_ret
    exact ⟨rfl,((Below.refl _ _).alloc (Nat.le_refl _) _).trans (HB.out.mono (by simp))⟩
  · have e:plainB ⟨2,i,b,s⟩=[if b=true then 1 else 0]:=by unfold plainB;rw [if_neg (by simp),if_pos rfl]
    rw [e]
    cases b with
    | true =>
      go_enter Tryz.func136,Tryz.ntmps136
      go_wp2
      go_ret
      exact ⟨rfl,(Below.refl _ _).alloc (Nat.le_refl _) _⟩
    | false =>
      go_enter Tryz.func136,Tryz.ntmps136
      go_wp2
      go_ret
      exact ⟨rfl,(Below.refl _ _).alloc (Nat.le_refl _) _⟩
  · have e:plainB ⟨3,i,b,s⟩=vp s.size ++ s.data.toList:=by unfold plainB;rw [if_neg (by simp),if_neg (by simp)]
    rw [e,textB_text]
    have T:=Lib.hid (cellsize_any s (by omega))
    have hl:¬ 9223372036854775807 < (textB (vp s.size)).size + s.size:=by
      rw [textB_size];have:=vp_le s.size;omega
    clear e h0 h1 hk
    generalize textB (vp s.size)=x at *
    go_enter Tryz.func136,Tryz.ntmps136
    go_upto_region 9 with fail
    have hs1:=Slot.new w ⟨3,i,b,s⟩
    have hb1:Below w.heap.size w (w.alloc (.cells #[.int .i64 3,.int .i64 i,.bool b,.string s] 24)):=(Below.refl _ _).alloc (Nat.le_refl _) _
    simp only at hs1
    have HS:=Lib.hid hs1
    have HB:=Lib.hid hb1
    clear hs1 hb1
    generalize w.alloc (.cells #[.int .i64 3,.int .i64 i,.bool b,.string s] 24)=u at *
    refine region_class (fun w' => Below u.heap.size u w') (by kernel_rfl) (by kernel_rfl) (Below.refl _ _).drew ?_
    repeat (
      refine wpQuiet_step (fun K hK => ?_)
      go_simp
      first
      | (refine hK _ ?_;clear hK K)
      | (apply Exists.intro
         refine ⟨fun w1 hw1 => ?_,hK _ ?_⟩
         (first
           | (exact rfl)
           | (obtain ⟨⟨p0,p1,p2,p3⟩,_⟩:=(HS.out.below hw1).at;simp only [p0,p1,p2,p3,Result.andThen];exact ⟨trivial,rfl⟩)
           | (go_at_call 160;exact (T.out _).mono fun e w2 ⟨he,hb⟩ => ⟨he,hw1.trans (hb.mono hw1.size)⟩)
           | (rw [if_neg hl];exact ⟨rfl,rfl⟩))
         clear hK K))
    refine wpQuiet_nil ?_
    intro w2 hw2
    go_wp2
    go_ret
    exact ⟨rfl,HB.out.trans (hw2.mono HB.out.size)⟩
theorem slice_text (s:ByteArray) (q n:Nat):s.extract q (q + n)=textB ((s.data.toList.drop q).take n):=by
  apply bytes_eq
  simp [textB,ByteArray.data_extract,Array.toList_extract,List.extract_eq_take_drop]
set_option maxRecDepth 100000 in
theorem cellnumber_any (s:ByteArray) (hs:s.size≤281474976710648) (p:Nat) (w:World) :
    Calls Tryz.prog 167 #[.string s,.int .i64 (p:Int)] w fun e w' => e=.returned (.tuple #[.agg #[.int .i64 (cellN s.data.toList p).1.k,.int .i64 (cellN s.data.toList p).1.i,.bool (cellN s.data.toList p).1.b,.string (cellN s.data.toList p).1.s],.int .i64 ((cellN s.data.toList p).2.1:Int),.bool (cellN s.data.toList p).2.2])∧Below w.heap.size w w':=by
  have T:=Lib.hid (vzag_any s hs (p:Int))
  have hE:=readN_E s.data.toList (p:Int)
  have hA:=@readN_at s.data.toList p
  unfold cellN
  generalize readN s.data.toList (p:Int)=r at *
  obtain ⟨N,P,E⟩:=r
  simp only at hE hA
  by_cases hz:E=0
  · subst hz
    obtain ⟨q,rfl,_,_⟩:=hA rfl
    have T:Hid (∀ w:World,Calls Tryz.prog 174 #[.string s,.int .i64 (p:Int)] w fun e w' => e=.returned (.tuple #[.int .i64 (unzz N),.int .i64 (q:Int),.int .i64 0])∧w=w'):=T
    simp only [if_true,Int.toNat_natCast]
    generalize unzz N=x at *
    clear hE hA
    go_enter Tryz.func167,Tryz.ntmps167
    go_wp2_with (go_at_call 174;refine (T.out _).mono ?_;rintro e w' ⟨rfl,rfl⟩)
    go_returns
    exact ⟨rfl,((Below.refl _ _).alloc (Nat.le_refl _) _)⟩
  · have T:Hid (∀ w:World,Calls Tryz.prog 174 #[.string s,.int .i64 (p:Int)] w fun e w' => e=.returned (.tuple #[.int .i64 0,.int .i64 0,.int .i64 E])∧w=w'):=by
      have:=T
      unfold zagA at this
      simp only [if_neg hz] at this
      exact this
    simp only [if_neg hz]
    have hne:(E != 0)=true:=by simpa using hz
    clear hE hA
    go_enter Tryz.func167,Tryz.ntmps167
    go_wp2_with (go_at_call 174;refine (T.out _).mono ?_;rintro e w' ⟨rfl,rfl⟩)
    go_returns
    exact ⟨rfl,((Below.refl _ _).alloc (Nat.le_refl _) _)⟩
end Go.Proofs.YtfbmlefhjoblbaaGreat
namespace Go.Proofs.YtfbmlefhjoblbaaGreat
open Go.Conc Go.RowKit
set_option linter.unusedVariables false
set_option linter.unusedSimpArgs false
theorem byte_text (s:ByteArray) (p:Nat) (h:p < s.size):(s.extract p (p + 1)).toList=[s.data.toList.getD p 0]:=by
  rw [slice_text,ByteArray.toList_eq,textB_list]
  have h1:p < s.data.toList.length:=by rw [← size_list];exact h
  rw [List.drop_eq_getElem_cons h1,List.take_succ_cons,List.take_zero,List.getD_eq_getElem?_getD,List.getElem?_eq_getElem h1]
  rfl
set_option maxRecDepth 100000 in
theorem celltruth_any (s:ByteArray) (hs:s.size≤281474976710648) (p:Nat) (w:World) :
    Calls Tryz.prog 168 #[.string s,.int .i64 (p:Int)] w fun e w' => e=.returned (.tuple #[.agg #[.int .i64 (cellB s.data.toList p).1.k,.int .i64 (cellB s.data.toList p).1.i,.bool (cellB s.data.toList p).1.b,.string (cellB s.data.toList p).1.s],.int .i64 ((cellB s.data.toList p).2.1:Int),.bool (cellB s.data.toList p).2.2])∧Below w.heap.size w w':=by
  have hl:s.data.toList.length=s.size:=(size_list s).symm
  by_cases hp:p < s.size
  · have hx:=byte_text s p hp
    unfold cellB
    rw [hl]
    generalize s.data.toList.getD p 0=c at *
    obtain ⟨x,hxe⟩:∃ x,x=s.extract p (p + 1):=⟨_,rfl⟩
    rw [← hxe] at hx
    have HXE:=Lib.hid hxe
    have hpi:(p:Int) < (s.size:Int):=by omega
    have hge:¬ (s.size≤p):=by omega
    have hle:p + 1≤s.size:=by omega
    by_cases c0:c=0
    · subst c0
      rw [if_pos ⟨hp,.inl rfl⟩]
      have q0:(x.toList == [0])=true:=by rw [hx];rfl
      have q1:(x.toList == [1])=false:=by rw [hx];rfl
      clear hx hxe
      go_enter Tryz.func168,Tryz.ntmps168
      go_upto_region 4 with fail
      rw [show s.extract p (p + 1)=x from HXE.out.symm]
      go_wp2
      go_returns
      exact ⟨rfl,((Below.refl _ _).alloc (Nat.le_refl _) _)⟩
    by_cases c1:c=1
    · subst c1
      rw [if_pos ⟨hp,.inr rfl⟩]
      have q0:(x.toList == [0])=false:=by rw [hx];rfl
      have q1:(x.toList == [1])=true:=by rw [hx];rfl
      clear hx hxe
      go_enter Tryz.func168,Tryz.ntmps168
      go_upto_region 4 with fail
      rw [show s.extract p (p + 1)=x from HXE.out.symm]
      go_wp2
      go_returns
      exact ⟨rfl,((Below.refl _ _).alloc (Nat.le_refl _) _)⟩
    · rw [if_neg (by rintro ⟨_,h | h⟩;exact c0 h;exact c1 h)]
      have q0:(x.toList == [0])=false:=by rw [hx];simpa using c0
      have q1:(x.toList == [1])=false:=by rw [hx];simpa using c1
      clear hx hxe
      go_enter Tryz.func168,Tryz.ntmps168
      go_upto_region 4 with fail
      rw [show s.extract p (p + 1)=x from HXE.out.symm]
      go_wp2
      go_returns
      exact ⟨rfl,((Below.refl _ _).alloc (Nat.le_refl _) _)⟩
  · unfold cellB
    rw [hl,if_neg (fun h => hp h.1)]
    have hge:s.size≤p:=by omega
    have hgi:decide ((s.size:Int)≤(p:Int))=true:=by simpa using hge
    go_enter Tryz.func168,Tryz.ntmps168
    go_wp2
    go_returns
    exact ⟨rfl,((Below.refl _ _).alloc (Nat.le_refl _) _)⟩
set_option maxRecDepth 100000 in
theorem celltext_any (s:ByteArray) (hs:s.size≤281474976710648) (p:Nat) (w:World) :
    Calls Tryz.prog 169 #[.string s,.int .i64 (p:Int)] w fun e w' => e=.returned (.tuple #[.agg #[.int .i64 (cellT s.data.toList p).1.k,.int .i64 (cellT s.data.toList p).1.i,.bool (cellT s.data.toList p).1.b,.string (cellT s.data.toList p).1.s],.int .i64 ((cellT s.data.toList p).2.1:Int),.bool (cellT s.data.toList p).2.2])∧Below w.heap.size w w':=by
  have T:=Lib.hid (vget_any s hs (p:Int))
  have hA:=@readN_at s.data.toList p
  have hl:s.data.toList.length=s.size:=(size_list s).symm
  have HT:=Lib.hid (fun q n => slice_text s q n)
  unfold cellT
  generalize readN s.data.toList (p:Int)=r at *
  obtain ⟨N,P,E⟩:=r
  simp only at hA
  by_cases hz:E=0
  · subst hz
    obtain ⟨q,rfl,_,hq⟩:=hA rfl
    rw [hl] at hq
    simp only [Int.toNat_natCast,true_and]
    by_cases hN:9223372036854775807 < N
    · have T:Hid (∀ w:World,Calls Tryz.prog 133 #[.string s,.int .i64 (p:Int)] w fun e w' => e=.returned (.tuple #[.int .i64 0,.int .i64 0,.int .i64 501])∧w=w'):=by
        have:=T
        unfold getA at this
        simp only [if_true,if_pos hN] at this
        exact this
      rw [if_neg (by rw [hl];omega)]
      clear hA HT hN hq
      go_enter Tryz.func169,Tryz.ntmps169
      go_wp2_with (go_at_call 133;refine (T.out _).mono ?_;rintro e w' ⟨rfl,rfl⟩)
      go_returns
      exact ⟨rfl,((Below.refl _ _).alloc (Nat.le_refl _) _)⟩
    · have T:Hid (∀ w:World,Calls Tryz.prog 133 #[.string s,.int .i64 (p:Int)] w fun e w' => e=.returned (.tuple #[.int .i64 (N:Int),.int .i64 (q:Int),.int .i64 0])∧w=w'):=by
        have:=T
        unfold getA at this
        simp only [if_true,if_neg hN] at this
        exact this
      have hsub:wrap64 ((s.size:Int) - (q:Int))=(s.size:Int) - (q:Int):=by unfold wrap64;omega
      by_cases hc:q + N≤s.size
      · rw [if_pos (by rw [hl];exact hc),← HT.out q N]
        have hgt:decide ((s.size:Int) - (q:Int) < (N:Int))=false:=by simp;omega
        have hadd:wrap64 ((q:Int) + (N:Int))=((q + N:Nat):Int):=by unfold wrap64;omega
        have hsz:(s.extract q (q + N)).size≤281474976710656:=by rw [ByteArray.size_extract];omega
        have T3:=Lib.hid (fun u => Tryz.stringslite_Clone (s.extract q (q + N)) u hsz)
        have HX:=Lib.hid (rfl:s.extract q (q + N)=s.extract q (q + N))
        generalize hz2:q + N=z at *
        have hqz:q≤z:=by omega
        clear hA HT hN hsz HX hz2
        go_enter Tryz.func169,Tryz.ntmps169
        go_upto_region 5 with (go_at_call 133;refine (T.out _).mono ?_;rintro e w' ⟨rfl,rfl⟩)
        have hs1:Slot (w.alloc (.cells #[.int .i64 0,.int .i64 0,.bool false,.string ⟨#[]⟩] 24)) w.heap.size ⟨0,0,false,⟨#[]⟩⟩:=Slot.new w ⟨0,0,false,⟨#[]⟩⟩
        have HS:=Lib.hid hs1
        have HB:=Lib.hid (show Below w.heap.size w (w.alloc (.cells #[.int .i64 0,.int .i64 0,.bool false,.string ⟨#[]⟩] 24)) from (Below.refl _ _).alloc (Nat.le_refl _) _)
        obtain ⟨g,hg⟩:∃ g,g=w.heap.size:=⟨_,rfl⟩
        have HG:=Lib.hid hg
        rw [← hg] at HS ⊢
        clear hs1 hg
        generalize w.alloc (.cells #[.int .i64 0,.int .i64 0,.bool false,.string ⟨#[]⟩] 24)=u at *
        go_wp2_with (first
          | (go_at_call 90;go_enter Tryz.func90,Tryz.ntmps90)
          | (go_at_call 118;refine (T3.out _).mono ?_;rintro e w3 ⟨rfl,hb3⟩;have hs3:=HS.out.below hb3;have HS3:=Lib.hid hs3;obtain ⟨⟨d0,d1,d2,d3⟩,f0,f1,f2,f3⟩:=hs3.at;have HB3:=Lib.hid (HB.out.trans (hb3.mono HB.out.size));clear hb3 hs3))
        have h4:=HS3.out.store ⟨3,0,false,s.extract q z⟩
        have hb4:Below w.heap.size w ((((w3.setCell ⟨g,0,none⟩ (.int .i64 3)).setCell ⟨g,1,none⟩ (.int .i64 0)).setCell ⟨g,2,none⟩ (.bool false)).setCell ⟨g,3,none⟩ (.string (s.extract q z))):=by
          have hg:w.heap.size≤g:=by rw [HG.out];exact Nat.le_refl _
          exact (((HB3.out.setCell hg _).setCell hg _).setCell hg _).setCell hg _
        simp only at h4
        generalize ((((w3.setCell ⟨g,0,none⟩ (.int .i64 3)).setCell ⟨g,1,none⟩ (.int .i64 0)).setCell ⟨g,2,none⟩ (.bool false)).setCell ⟨g,3,none⟩ (.string (s.extract q z)))=w4 at *
        clear d0 d1 d2 d3 f0 f1 f2 f3 HS3
        obtain ⟨⟨c0,c1,c2,c3⟩,_⟩:=h4.at
        try simp only [Exit.inBlock,Exit.then]
        refine bodyPost_ret (v:=.tuple #[.agg #[.int .i64 3,.int .i64 0,.bool false,.string (s.extract q z)],.int .i64 (z:Int),.bool true]) (by simp [results,Tryz.results169,go_sem,c0,c1,c2,c3,hadd]) rfl ?_
        exact ⟨rfl,hb4⟩
      · rw [if_neg (by rw [hl];exact hc)]
        have hgt:decide ((s.size:Int) - (q:Int) < (N:Int))=true:=by simp;omega
        clear hA HT hN
        go_enter Tryz.func169,Tryz.ntmps169
        go_wp2_with (go_at_call 133;refine (T.out _).mono ?_;rintro e w' ⟨rfl,rfl⟩)
        go_returns
        exact ⟨rfl,((Below.refl _ _).alloc (Nat.le_refl _) _)⟩
  · have T:Hid (∀ w:World,Calls Tryz.prog 133 #[.string s,.int .i64 (p:Int)] w fun e w' => e=.returned (.tuple #[.int .i64 0,.int .i64 0,.int .i64 E])∧w=w'):=by
      have:=T
      unfold getA at this
      simp only [if_neg hz] at this
      exact this
    rw [if_neg (fun h => hz h.1)]
    have hne:(E != 0)=true:=by simpa using hz
    clear hA HT
    go_enter Tryz.func169,Tryz.ntmps169
    go_wp2_with (go_at_call 133;refine (T.out _).mono ?_;rintro e w' ⟨rfl,rfl⟩)
    go_returns
    exact ⟨rfl,((Below.refl _ _).alloc (Nat.le_refl _) _)⟩
set_option maxRecDepth 100000 in
theorem cellget_any (k:Int) (hk:1≤k∧k≤3) (s:ByteArray) (hs:s.size≤281474976710648) (p:Nat) (w:World) :
    Calls Tryz.prog 151 #[.int .i64 k,.string s,.int .i64 (p:Int)] w fun e w' => e=.returned (.tuple #[.agg #[.int .i64 (cellA k s.data.toList p).1.k,.int .i64 (cellA k s.data.toList p).1.i,.bool (cellA k s.data.toList p).1.b,.string (cellA k s.data.toList p).1.s],.int .i64 ((cellA k s.data.toList p).2.1:Int),.bool (cellA k s.data.toList p).2.2])∧Below w.heap.size w w':=by
  have T1:=Lib.hid (cellnumber_any s hs p)
  have T2:=Lib.hid (celltruth_any s hs p)
  have T3:=Lib.hid (celltext_any s hs p)
  have HS0:=Slot.new w ⟨0,0,false,⟨#[]⟩⟩
  have HS:=Lib.hid HS0
  have HB:=Lib.hid (show Below w.heap.size w (w.alloc (.cells #[.int .i64 0,.int .i64 0,.bool false,.string ⟨#[]⟩] 24)) from (Below.refl _ _).alloc (Nat.le_refl _) _)
  clear HS0
  rcases (show k=1∨k=2∨k=3 by omega) with rfl | rfl | rfl
  · have e:cellA 1 s.data.toList p=cellN s.data.toList p:=rfl
    rw [e]
    clear e hk T2 T3
    generalize cellN s.data.toList p=r at *
    obtain ⟨⟨vk,vi,vb,vs⟩,z,f⟩:=r
    go_enter Tryz.func151,Tryz.ntmps151
    go_upto_region 3 with fail
    obtain ⟨g,hg⟩:∃ g,g=w.heap.size:=⟨_,rfl⟩
    have HG:=Lib.hid hg
    rw [← hg] at HS ⊢
    clear hg
    generalize w.alloc (.cells #[.int .i64 0,.int .i64 0,.bool false,.string ⟨#[]⟩] 24)=u at *
    go_wp2_with (go_at_call 167;refine (T1.out _).mono ?_;rintro e w3 ⟨rfl,hb3⟩;have hs3:=HS.out.below hb3;have HS3:=Lib.hid hs3;obtain ⟨⟨d0,d1,d2,d3⟩,f0,f1,f2,f3⟩:=hs3.at;have HB3:=Lib.hid (HB.out.trans (hb3.mono HB.out.size));clear hb3 hs3)
    have h4:=HS3.out.store ⟨vk,vi,vb,vs⟩
    have hb4:Below w.heap.size w ((((w3.setCell ⟨g,0,none⟩ (.int .i64 vk)).setCell ⟨g,1,none⟩ (.int .i64 vi)).setCell ⟨g,2,none⟩ (.bool vb)).setCell ⟨g,3,none⟩ (.string vs)):=by
      have hg:w.heap.size≤g:=by rw [HG.out];exact Nat.le_refl _
      exact (((HB3.out.setCell hg _).setCell hg _).setCell hg _).setCell hg _
    simp only at h4
    generalize ((((w3.setCell ⟨g,0,none⟩ (.int .i64 vk)).setCell ⟨g,1,none⟩ (.int .i64 vi)).setCell ⟨g,2,none⟩ (.bool vb)).setCell ⟨g,3,none⟩ (.string vs))=w4 at *
    clear d0 d1 d2 d3 f0 f1 f2 f3 HS3
    obtain ⟨⟨c0,c1,c2,c3⟩,_⟩:=h4.at
    try simp only [Exit.inBlock,Exit.then]
    refine bodyPost_ret (v:=.tuple #[.agg #[.int .i64 vk,.int .i64 vi,.bool vb,.string vs],.int .i64 (z:Int),.bool f]) (by simp [results,Tryz.results151,go_sem,c0,c1,c2,c3]) rfl ?_
    exact ⟨rfl,hb4⟩
  · have e:cellA 2 s.data.toList p=cellB s.data.toList p:=rfl
    rw [e]
    clear e hk T1 T3
    generalize cellB s.data.toList p=r at *
    obtain ⟨⟨vk,vi,vb,vs⟩,z,f⟩:=r
    go_enter Tryz.func151,Tryz.ntmps151
    go_upto_region 5 with fail
    obtain ⟨g,hg⟩:∃ g,g=w.heap.size:=⟨_,rfl⟩
    have HG:=Lib.hid hg
    rw [← hg] at HS ⊢
    clear hg
    generalize w.alloc (.cells #[.int .i64 0,.int .i64 0,.bool false,.string ⟨#[]⟩] 24)=u at *
    go_wp2_with (go_at_call 168;refine (T2.out _).mono ?_;rintro e w3 ⟨rfl,hb3⟩;have hs3:=HS.out.below hb3;have HS3:=Lib.hid hs3;obtain ⟨⟨d0,d1,d2,d3⟩,f0,f1,f2,f3⟩:=hs3.at;have HB3:=Lib.hid (HB.out.trans (hb3.mono HB.out.size));clear hb3 hs3)
    have h4:=HS3.out.store ⟨vk,vi,vb,vs⟩
    have hb4:Below w.heap.size w ((((w3.setCell ⟨g,0,none⟩ (.int .i64 vk)).setCell ⟨g,1,none⟩ (.int .i64 vi)).setCell ⟨g,2,none⟩ (.bool vb)).setCell ⟨g,3,none⟩ (.string vs)):=by
      have hg:w.heap.size≤g:=by rw [HG.out];exact Nat.le_refl _
      exact (((HB3.out.setCell hg _).setCell hg _).setCell hg _).setCell hg _
    simp only at h4
    generalize ((((w3.setCell ⟨g,0,none⟩ (.int .i64 vk)).setCell ⟨g,1,none⟩ (.int .i64 vi)).setCell ⟨g,2,none⟩ (.bool vb)).setCell ⟨g,3,none⟩ (.string vs))=w4 at *
    clear d0 d1 d2 d3 f0 f1 f2 f3 HS3
    obtain ⟨⟨c0,c1,c2,c3⟩,_⟩:=h4.at
    try simp only [Exit.inBlock,Exit.then]
    refine bodyPost_ret (v:=.tuple #[.agg #[.int .i64 vk,.int .i64 vi,.bool vb,.string vs],.int .i64 (z:Int),.bool f]) (by simp [results,Tryz.results151,go_sem,c0,c1,c2,c3]) rfl ?_
    exact ⟨rfl,hb4⟩
  · have e:cellA 3 s.data.toList p=cellT s.data.toList p:=rfl
    rw [e]
    clear e hk T1 T2
    generalize cellT s.data.toList p=r at *
    obtain ⟨⟨vk,vi,vb,vs⟩,z,f⟩:=r
    go_enter Tryz.func151,Tryz.ntmps151
    go_upto_region 7 with fail
    obtain ⟨g,hg⟩:∃ g,g=w.heap.size:=⟨_,rfl⟩
    have HG:=Lib.hid hg
    rw [← hg] at HS ⊢
    clear hg
    generalize w.alloc (.cells #[.int .i64 0,.int .i64 0,.bool false,.string ⟨#[]⟩] 24)=u at *
    go_wp2_with (go_at_call 169;refine (T3.out _).mono ?_;rintro e w3 ⟨rfl,hb3⟩;have hs3:=HS.out.below hb3;have HS3:=Lib.hid hs3;obtain ⟨⟨d0,d1,d2,d3⟩,f0,f1,f2,f3⟩:=hs3.at;have HB3:=Lib.hid (HB.out.trans (hb3.mono HB.out.size));clear hb3 hs3)
    have h4:=HS3.out.store ⟨vk,vi,vb,vs⟩
    have hb4:Below w.heap.size w ((((w3.setCell ⟨g,0,none⟩ (.int .i64 vk)).setCell ⟨g,1,none⟩ (.int .i64 vi)).setCell ⟨g,2,none⟩ (.bool vb)).setCell ⟨g,3,none⟩ (.string vs)):=by
      have hg:w.heap.size≤g:=by rw [HG.out];exact Nat.le_refl _
      exact (((HB3.out.setCell hg _).setCell hg _).setCell hg _).setCell hg _
    simp only at h4
    generalize ((((w3.setCell ⟨g,0,none⟩ (.int .i64 vk)).setCell ⟨g,1,none⟩ (.int .i64 vi)).setCell ⟨g,2,none⟩ (.bool vb)).setCell ⟨g,3,none⟩ (.string vs))=w4 at *
    clear d0 d1 d2 d3 f0 f1 f2 f3 HS3
    obtain ⟨⟨c0,c1,c2,c3⟩,_⟩:=h4.at
    try simp only [Exit.inBlock,Exit.then]
    refine bodyPost_ret (v:=.tuple #[.agg #[.int .i64 vk,.int .i64 vi,.bool vb,.string vs],.int .i64 (z:Int),.bool f]) (by simp [results,Tryz.results151,go_sem,c0,c1,c2,c3]) rfl ?_
    exact ⟨rfl,hb4⟩
end Go.Proofs.YtfbmlefhjoblbaaGreat
namespace Go.Proofs.YtfbmlefhjoblbaaGreat
open Go.Conc Go.RowKit
set_option linter.unusedVariables false
set_option linter.unusedSimpArgs false
structure RdAt (w:World) (g:Nat) (s:ByteArray) (t:Tk):Prop where
  b:w.heap[g]? = some (.cells #[.string s,.int .i64 (t.pos:Int),.bool t.bad] 168 (0,0))
section
variable {w w':World} {g:Nat} {s:ByteArray} {t:Tk}
theorem RdAt.at (h:RdAt w g s t):(w.cell? ⟨g,0,none⟩=some (.string s)∧w.cell? ⟨g,1,none⟩=some (.int .i64 (t.pos:Int))∧w.cell? ⟨g,2,none⟩=some (.bool t.bad))∧(w.frozen? ⟨g,0,none⟩=false∧w.frozen? ⟨g,1,none⟩=false∧w.frozen? ⟨g,2,none⟩=false):=by
  have hb:=h.b
  refine ⟨⟨?_,?_,?_⟩,frozen_of_row w g 0 _ _ hb,frozen_of_row w g 1 _ _ hb,frozen_of_row w g 2 _ _ hb⟩ <;> (rw [cell_of_row _ _ _ _ _ _ hb];rfl)
theorem RdAt.same (h:RdAt w g s t) (hb:w'.heap[g]? = w.heap[g]?):RdAt w' g s t:=⟨by rw [hb];exact h.b⟩
theorem RdAt.lt (h:RdAt w g s t):g < w.heap.size:=(Array.getElem?_eq_some_iff.1 h.b).1
theorem RdAt.below (h:RdAt w g s t) (hb:Below w.heap.size w w'):RdAt w' g s t:=h.same (hb.block g h.lt)
theorem RdAt.frm {F:Nat→Prop} (h:RdAt w g s t) (hf:Frm F w w') (hF:¬ F g):RdAt w' g s t:=h.same (hf.block g h.lt hF)
theorem RdAt.alloc (h:RdAt w g s t) (o:Obj):RdAt (w.alloc o) g s t:=h.same (Below.heap_alloc w o g h.lt)
theorem RdAt.brk (h:RdAt w g s t):RdAt (w.setCell ⟨g,2,none⟩ (.bool true)) g s ⟨t.pos,true⟩:=⟨heap_setCell_same _ _ _ _ _ _ h.b⟩
theorem RdAt.go (h:RdAt w g s t) (p:Nat):RdAt (w.setCell ⟨g,1,none⟩ (.int .i64 (p:Int))) g s ⟨p,t.bad⟩:=⟨heap_setCell_same _ _ _ _ _ _ h.b⟩
end
theorem frm_cell (w:World) (g j:Nat) (u:Value):Frm (fun k => k=g) w (w.setCell ⟨g,j,none⟩ u):=(Frm.refl (fun k => k=g) w).setCell (p:=⟨g,j,none⟩) rfl u
set_option maxRecDepth 100000 in
theorem rdhold_any (w:World) (g:Nat) (s:ByteArray) (t:Tk) (h:RdAt w g s t) (f:Bool) :
    Calls Tryz.prog 105 #[.pointer (some ⟨g,0,none⟩),.bool f] w fun e w' => e=.returned (.tuple #[])∧RdAt w' g s ⟨t.pos,t.bad || !f⟩∧Frm (fun k => k=g) w w':=by
  have H:=Lib.hid h
  obtain ⟨⟨c0,c1,c2⟩,f0,f1,f2⟩:=h.at
  clear h
  cases f with
  | true =>
    go_enter Tryz.func105,Tryz.ntmps105
    go_wp2
    go_end0
    exact ⟨rfl,by rw [Bool.not_true,Bool.or_false];exact H.out,Frm.refl _ _⟩
  | false =>
    go_enter Tryz.func105,Tryz.ntmps105
    go_wp2
    go_end0
    exact ⟨rfl,by rw [Bool.not_false,Bool.or_true];exact H.out.brk,frm_cell w g 2 _⟩
set_option maxRecDepth 100000 in
theorem rdnew_any (w:World) (s:ByteArray):Calls Tryz.prog 92 #[.string s] w fun e w' => ∃ g,e=.returned (.pointer (some ⟨g,0,none⟩))∧w.heap.size≤g∧RdAt w' g s ⟨0,false⟩∧Below w.heap.size w w':=by
  go_enter Tryz.func92,Tryz.ntmps92
  go_wp2
  go_ret
  exact ⟨_,rfl,Nat.le_refl _,⟨heap_alloc_new w _⟩,(Below.refl _ _).alloc (Nat.le_refl _) _⟩
set_option maxRecDepth 100000 in
theorem rdbroken_any (w:World) (g:Nat) (s:ByteArray) (t:Tk) (h:RdAt w g s t) :
    Calls Tryz.prog 97 #[.pointer (some ⟨g,0,none⟩)] w fun e w' => e=.returned (.bool t.bad)∧w=w':=by
  obtain ⟨⟨c0,c1,c2⟩,f0,f1,f2⟩:=h.at
  clear h
  go_enter Tryz.func97,Tryz.ntmps97
  go_wp2
  go_ret
  exact ⟨rfl,rfl⟩
theorem frm_drewN {F:Nat→Prop} {w w':World} (h:Frm F w w') (n:Nat):Frm F w (w'.drewN n):=⟨h.os,h.tape,h.output,h.size,h.block⟩
set_option maxRecDepth 100000 in
set_option maxHeartbeats 1000000 in
theorem rdpiece_any (w:World) (g:Nat) (s:ByteArray) (t:Tk) (h:RdAt w g s t) (hs:s.size≤281474976710648) (hp:t.pos≤s.size) (m:Nat) (hm:m≤9007199254740992) :
    Calls Tryz.prog 106 #[.pointer (some ⟨g,0,none⟩),.int .i64 (m:Int)] w fun e w' => e=.returned (.string (textB (rdPiece s.data.toList t m).1))∧RdAt w' g s (rdPiece s.data.toList t m).2∧Frm (fun k => k=g) w w':=by
  have hl:s.data.toList.length=s.size:=(size_list s).symm
  have HX:=Lib.hid (slice_text s t.pos m)
  unfold rdPiece
  rw [hl]
  have H:=Lib.hid h
  obtain ⟨⟨c0,c1,c2⟩,f0,f1,f2⟩:=h.at
  have h0:¬ ((m:Int) < 0):=by omega
  have h0':decide ((m:Int) < 0)=false:=decide_eq_false h0
  obtain ⟨r,hr⟩:∃ r,r=s.size - t.pos:=⟨_,rfl⟩
  have hw1:wrap64 ((s.size:Int) - (t.pos:Int))=(r:Int):=by unfold wrap64;omega
  obtain ⟨z,hz⟩:∃ z,z=t.pos + m:=⟨_,rfl⟩
  rw [← hr]
  by_cases c:r < m
  · rw [if_pos c]
    have hci:decide ((r:Int) < (m:Int))=true:=decide_eq_true (by omega)
    have hcx:(s.size:Int) - (t.pos:Int) < (m:Int):=by omega
    have hcd:decide ((s.size:Int) - (t.pos:Int) < (m:Int))=true:=decide_eq_true hcx
    clear HX hl hr hz h
    go_enter Tryz.func106,Tryz.ntmps106
    go_upto_region 1 with fail
    go_quiet (fail)
    go_wp2
    go_ret
    exact ⟨rfl,RdAt.brk (w:=w.drewN nq) ⟨H.out.b⟩,(frm_drewN (Frm.refl _ _) _).trans (frm_cell (w.drewN nq) g 2 _)⟩
  · rw [if_neg c]
    have hci:decide ((r:Int) < (m:Int))=false:=decide_eq_false (by omega)
    have hcx:¬ ((s.size:Int) - (t.pos:Int) < (m:Int)):=by omega
    have hcd:decide ((s.size:Int) - (t.pos:Int) < (m:Int))=false:=decide_eq_false hcx
    have hw2:wrap64 ((t.pos:Int) + (m:Int))=(z:Int):=by unfold wrap64;omega
    have hpz:t.pos≤z:=by omega
    have hzs:z≤s.size:=by omega
    rw [← HX.out]
    have hz2:(t.pos:Int) + (m:Int)=(z:Int):=by omega
    have HG:Hid (∀ u:World,RdAt u g s t→RdAt (u.setCell ⟨g,1,none⟩ (.int .i64 ((t.pos:Int) + (m:Int)))) g s ⟨t.pos + m,t.bad⟩):=fun u hu => by have:=hu.go (t.pos + m);rwa [Int.natCast_add] at this
    clear HX hl hr hz hz2 h
    go_enter Tryz.func106,Tryz.ntmps106
    go_upto_region 1 with fail
    go_quiet (fail)
    go_upto_region 6 with fail
    go_quiet (fail)
    go_wp2
    go_ret
    exact ⟨rfl,⟨(HG.out (w.drewN _) ⟨H.out.b⟩).b⟩,frm_drewN ((frm_drewN (Frm.refl _ _) _).trans (frm_cell (w.drewN _) g 1 _)) _⟩
set_option maxRecDepth 100000 in
set_option maxHeartbeats 1000000 in
theorem rdbyte_any (w:World) (g:Nat) (s:ByteArray) (t:Tk) (h:RdAt w g s t) (hs:s.size≤281474976710648) (hp:t.pos≤s.size) :
    Calls Tryz.prog 93 #[.pointer (some ⟨g,0,none⟩)] w fun e w' => e=.returned (.int .i64 ((rdByte s.data.toList t).1:Int))∧RdAt w' g s (rdByte s.data.toList t).2∧Frm (fun k => k=g) w w':=by
  have hl:s.data.toList.length=s.size:=(size_list s).symm
  have T:=Lib.hid (rdpiece_any w g s t h hs hp 1 (by omega))
  unfold rdByte
  by_cases c:s.data.toList.length≤t.pos
  · rw [if_pos c]
    have e:rdPiece s.data.toList t 1=([],⟨t.pos,true⟩):=if_pos (by omega)
    rw [e] at T
    have he:((textB []).toList == [])=true:=by rw [ByteArray.toList_eq];rfl
    clear e hl c h
    generalize textB []=x at *
    go_enter Tryz.func93,Tryz.ntmps93
    go_wp2_with (go_at_call 106;refine T.out.mono ?_;rintro e w1 ⟨rfl,hr1,hf1⟩;have HR1:=Lib.hid hr1;have HF1:=Lib.hid hf1;clear hr1 hf1)
    go_ret
    exact ⟨rfl,HR1.out,HF1.out⟩
  · rw [if_neg c]
    have e1:rdPiece s.data.toList t 1=((s.data.toList.drop t.pos).take 1,⟨t.pos + 1,t.bad⟩):=if_neg (by omega)
    have e2:(s.data.toList.drop t.pos).take 1=[s.data.toList.getD t.pos 0]:=by
      rw [List.getD_eq_getElem?_getD,List.getElem?_eq_getElem (by omega),List.drop_eq_getElem_cons (by omega)]
      rfl
    rw [e1,e2] at T
    simp only at T ⊢
    generalize s.data.toList.getD t.pos 0=b at *
    have he:((textB [b]).toList == [])=false:=by rw [ByteArray.toList_eq];rfl
    have hsz:(textB [b]).size=1:=rfl
    have hb:b.toNat < 256:=UInt8.toNat_lt b
    have hw:wrap64 (b.toNat:Int)=(b.toNat:Int):=by unfold wrap64;omega
    have h0:(textB [b])[0]=b:=rfl
    clear e1 e2 hl c h
    go_enter Tryz.func93,Tryz.ntmps93
    go_wp2_with (go_at_call 106;refine T.out.mono ?_;rintro e w1 ⟨rfl,hr1,hf1⟩;have HR1:=Lib.hid hr1;have HF1:=Lib.hid hf1;clear hr1 hf1)
    go_ret
    exact ⟨rfl,HR1.out,HF1.out⟩
theorem getA_count (l:List UInt8) (t:Tk) (most:Nat) (hm:most≤9223372036854775807) :
    (∃ x z e,getA (readN l t.pos)=(x,z,e)∧e ≠ 0∧rdCount l t most=(0,⟨t.pos,true⟩)) ∨
    (∃ N q:Nat,getA (readN l t.pos)=((N:Int),(q:Int),0)∧((most < N∧rdCount l t most=(0,⟨t.pos,true⟩))∨(N≤most∧rdCount l t most=(N,⟨q,t.bad⟩)))):=by
  unfold rdCount getA
  have hA:=@readN_at l t.pos
  generalize readN l t.pos=r at *
  obtain ⟨N,P,E⟩:=r
  simp only at hA ⊢
  by_cases hz:E=0
  · subst hz
    obtain ⟨q,rfl,_,_⟩:=hA rfl
    simp only [if_true,Int.toNat_natCast]
    by_cases hN:9223372036854775807 < N
    · rw [if_pos hN,if_pos (.inr (by omega))]
      exact .inl ⟨0,0,501,rfl,by decide,rfl⟩
    · rw [if_neg hN]
      refine .inr ⟨N,q,rfl,?_⟩
      by_cases c:most < N
      · exact .inl ⟨c,if_pos (.inr c)⟩
      · exact .inr ⟨by omega,if_neg (by rintro (h | h);exact h rfl;exact c h)⟩
  · rw [if_neg hz]
    exact .inl ⟨0,0,E,rfl,hz,if_pos (.inl hz)⟩
set_option maxRecDepth 100000 in
set_option maxHeartbeats 1000000 in
theorem rdcount_any (w:World) (g:Nat) (s:ByteArray) (t:Tk) (h:RdAt w g s t) (hs:s.size≤281474976710648) (most:Nat) (hm:most≤9223372036854775807) :
    Calls Tryz.prog 95 #[.pointer (some ⟨g,0,none⟩),.int .i64 (most:Int)] w fun e w' => e=.returned (.int .i64 ((rdCount s.data.toList t most).1:Int))∧RdAt w' g s (rdCount s.data.toList t most).2∧Frm (fun k => k=g) w w':=by
  have T:=Lib.hid (vget_any s hs (t.pos:Int))
  have H:=Lib.hid h
  have hc:=getA_count s.data.toList t most hm
  generalize getA (readN s.data.toList (t.pos:Int))=r at *
  obtain ⟨x,z,e⟩:=r
  have T:Hid (∀ w:World,Calls Tryz.prog 133 #[.string s,.int .i64 (t.pos:Int)] w fun e' w' => e'=.returned (.tuple #[.int .i64 x,.int .i64 z,.int .i64 e])∧w=w'):=T
  rcases hc with ⟨x',z',e',he,hne,hR⟩ | ⟨N,q,he,hR⟩
  · rw [hR]
    injection he with h1 h2
    injection h2 with h2 h3
    subst h1 h2 h3
    have hnb:(e != 0)=true:=by simpa using hne
    clear hR hne h
    go_enter Tryz.func95,Tryz.ntmps95
    go_upto_region 1 with fail
    refine region_class (fun w' => Below w.heap.size w w') (by kernel_rfl) (by kernel_rfl) (Below.refl _ _).drew ?_
    repeat (
      refine wpQuiet_step (fun K hK => ?_)
      go_simp
      first
      | (refine hK _ ?_;clear hK K)
      | (apply Exists.intro
         refine ⟨fun w1 hw1 => ?_,hK _ ?_⟩
         (first
           | (exact rfl)
           | (obtain ⟨⟨p0,p1,p2⟩,_⟩:=(H.out.below hw1).at;simp only [p0,p1,p2,Result.andThen];exact ⟨trivial,rfl⟩)
           | (go_at_call 133;exact (T.out _).mono fun e w2 ⟨he,hb⟩ => ⟨he,by rw [← hb];exact hw1⟩))
         clear hK K))
    refine wpQuiet_nil ?_
    intro w2 hw2
    have HR:=Lib.hid (H.out.below hw2)
    have HW:=Lib.hid hw2
    clear hw2
    obtain ⟨⟨c0,c1,c2⟩,f0,f1,f2⟩:=HR.out.at
    go_wp2
    go_ret
    exact ⟨rfl,HR.out.brk,(Frm.of_new HW.out _).trans (frm_cell w2 g 2 _)⟩
  · injection he with h1 h2
    injection h2 with h2 h3
    subst h1 h2 h3
    rcases hR with ⟨hlt,hR⟩ | ⟨hle,hR⟩
    · rw [hR]
      have hnb:decide ((most:Int) < (N:Int))=true:=by simpa using hlt
      clear hR h
      go_enter Tryz.func95,Tryz.ntmps95
      go_upto_region 1 with fail
      refine region_class (fun w' => Below w.heap.size w w') (by kernel_rfl) (by kernel_rfl) (Below.refl _ _).drew ?_
      repeat (
        refine wpQuiet_step (fun K hK => ?_)
        go_simp
        first
        | (refine hK _ ?_;clear hK K)
        | (apply Exists.intro
           refine ⟨fun w1 hw1 => ?_,hK _ ?_⟩
           (first
             | (exact rfl)
             | (obtain ⟨⟨p0,p1,p2⟩,_⟩:=(H.out.below hw1).at;simp only [p0,p1,p2,Result.andThen];exact ⟨trivial,rfl⟩)
             | (go_at_call 133;exact (T.out _).mono fun e w2 ⟨he,hb⟩ => ⟨he,by rw [← hb];exact hw1⟩))
           clear hK K))
      refine wpQuiet_nil ?_
      intro w2 hw2
      have HR:=Lib.hid (H.out.below hw2)
      have HW:=Lib.hid hw2
      clear hw2
      obtain ⟨⟨c0,c1,c2⟩,f0,f1,f2⟩:=HR.out.at
      go_wp2
      go_ret
      exact ⟨rfl,HR.out.brk,(Frm.of_new HW.out _).trans (frm_cell w2 g 2 _)⟩
    · rw [hR]
      have hnb:decide ((most:Int) < (N:Int))=false:=by simpa using hle
      have hnl:¬ most < N:=by omega
      clear hR hle h
      go_enter Tryz.func95,Tryz.ntmps95
      go_upto_region 1 with fail
      refine region_class (fun w' => Below w.heap.size w w') (by kernel_rfl) (by kernel_rfl) (Below.refl _ _).drew ?_
      repeat (
        refine wpQuiet_step (fun K hK => ?_)
        go_simp
        first
        | (refine hK _ ?_;clear hK K)
        | (apply Exists.intro
           refine ⟨fun w1 hw1 => ?_,hK _ ?_⟩
           (first
             | (exact rfl)
             | (obtain ⟨⟨p0,p1,p2⟩,_⟩:=(H.out.below hw1).at;simp only [p0,p1,p2,Result.andThen];exact ⟨trivial,rfl⟩)
             | (go_at_call 133;exact (T.out _).mono fun e w2 ⟨he,hb⟩ => ⟨he,by rw [← hb];exact hw1⟩))
           clear hK K))
      refine wpQuiet_nil ?_
      intro w2 hw2
      have HR:=Lib.hid (H.out.below hw2)
      have HW:=Lib.hid hw2
      clear hw2
      obtain ⟨⟨c0,c1,c2⟩,f0,f1,f2⟩:=HR.out.at
      go_wp2
      go_ret
      exact ⟨rfl,HR.out.go q,(Frm.of_new HW.out _).trans (frm_cell w2 g 1 _)⟩
end Go.Proofs.YtfbmlefhjoblbaaGreat
namespace Go.Proofs.YtfbmlefhjoblbaaGreat
open Go.Conc Go.RowKit
set_option linter.unusedVariables false
set_option linter.unusedSimpArgs false
set_option maxRecDepth 100000 in
set_option maxHeartbeats 1000000 in
theorem rdvalue_any (w:World) (g:Nat) (s:ByteArray) (t:Tk) (h:RdAt w g s t) (hs:s.size≤281474976710648) (k:Int) (hk:1≤k∧k≤3) :
    Calls Tryz.prog 120 #[.pointer (some ⟨g,0,none⟩),.int .i64 k] w fun e w' => e=.returned (.agg #[.int .i64 (rdValue s.data.toList k t).1.k,.int .i64 (rdValue s.data.toList k t).1.i,.bool (rdValue s.data.toList k t).1.b,.string (rdValue s.data.toList k t).1.s])∧RdAt w' g s (rdValue s.data.toList k t).2∧Frm (fun k => k=g) w w':=by
  have T:=Lib.hid (cellget_any k hk s hs t.pos)
  unfold rdValue
  generalize cellA k s.data.toList t.pos=r at *
  obtain ⟨⟨vk,vi,vb,vs⟩,z,f⟩:=r
  simp only at *
  have hlt:=h.lt
  have HL:=Lib.hid hlt
  have HR0:=Lib.hid (h.alloc (.cells #[.int .i64 0,.int .i64 0,.bool false,.string ⟨#[]⟩] 24))
  have HS0:=Lib.hid (Slot.new w ⟨0,0,false,⟨#[]⟩⟩)
  have HZ0:=Lib.hid (show (w.alloc (.cells #[.int .i64 0,.int .i64 0,.bool false,.string ⟨#[]⟩] 24)).heap.size=w.heap.size + 1 by simp)
  have HB0:=Lib.hid (show Frm (fun k => k=g) w (w.alloc (.cells #[.int .i64 0,.int .i64 0,.bool false,.string ⟨#[]⟩] 24)) from (Frm.refl _ _).alloc _)
  clear h hlt
  go_enter Tryz.func120,Tryz.ntmps120
  go_upto_region 1 with fail
  obtain ⟨r0,hr0⟩:∃ r0,r0=w.heap.size:=⟨_,rfl⟩
  have HR00:=Lib.hid hr0
  rw [← hr0] at HS0 HL HZ0 ⊢
  clear hr0
  generalize w.alloc (.cells #[.int .i64 0,.int .i64 0,.bool false,.string ⟨#[]⟩] 24)=u at *
  obtain ⟨⟨g0,g1,g2⟩,_⟩:=HR0.out.at
  have hne:¬ u.heap.size=g:=by have:=HR0.out.lt;omega
  have hne2:¬ g=u.heap.size:=by have:=HR0.out.lt;omega
  go_region_held3 (fun w' => w'.cell? ⟨g,0,none⟩=some (.string s)∧w'.cell? ⟨g,1,none⟩=some (.int .i64 (t.pos:Int))) (go_keep)
    (first | (go_at_call 151;refine (T.out _).mono ?_;rintro e w5 ⟨rfl,hb5⟩;have hr5:=RdAt.below (t:=t) (s:=s) (g:=g) (by first | exact ⟨HR0.out.b⟩ | exact ⟨(HR0.out.alloc _).b⟩) hb5;have HR5:=Lib.hid hr5;obtain ⟨⟨q0,q1,q2⟩,_⟩:=hr5.at;have HB5:=Lib.hid hb5;clear hr5 hb5;try (have hv5:=Slot.below (w:=(u.alloc (.cells #[.int .i64 0,.int .i64 0,.bool false,.string ⟨#[]⟩] 24)).drew) (g:=u.heap.size) (v:=⟨0,0,false,⟨#[]⟩⟩) ⟨(Slot.new u ⟨0,0,false,⟨#[]⟩⟩).b⟩ HB5.out;have HV5:=Lib.hid hv5;obtain ⟨⟨s0,s1,s2,s3⟩,e0,e1,e2,e3⟩:=hv5.at;clear hv5)))
  · have hrw:RdAt (w5.alloc (.cells #[.int .i64 vk,.int .i64 vi,.bool vb,.string vs] 24)) g s t:=HR5.out.alloc _
    have hvw:Slot (w5.alloc (.cells #[.int .i64 vk,.int .i64 vi,.bool vb,.string vs] 24)) (w5.heap.size) ⟨vk,vi,vb,vs⟩:=Slot.new w5 ⟨vk,vi,vb,vs⟩
    have hsw:Slot (w5.alloc (.cells #[.int .i64 vk,.int .i64 vi,.bool vb,.string vs] 24)) r0 ⟨0,0,false,⟨#[]⟩⟩:=(Slot.below (w:=u.drew) (g:=r0) (v:=⟨0,0,false,⟨#[]⟩⟩) ⟨HS0.out.b⟩ HB5.out).alloc _
    have hfw:Frm (fun k => k=g) w (w5.alloc (.cells #[.int .i64 vk,.int .i64 vi,.bool vb,.string vs] 24)):=(HB0.out.drew.trans (Frm.of_new HB5.out _)).alloc _
    have hvg:¬ w5.heap.size=g:=by have:=HR5.out.lt;omega
    have hvr:¬ w5.heap.size=r0:=by have h1:=HB5.out.size;have h2:=HZ0.out;have h3:u.drew.heap.size=u.heap.size:=rfl;omega
    have hgr:¬ g=r0:=by have:=HL.out;omega
    have hrg:¬ r0=g:=by have:=HL.out;omega
    clear HR5 HB5 HB0 HS0 HZ0 HR0 g0 g1 g2 q0 q1 q2 hne hne2
    generalize w5.alloc (.cells #[.int .i64 vk,.int .i64 vi,.bool vb,.string vs] 24)=w6 at *
    generalize w5.heap.size=b6 at *
    have HRW:=Lib.hid hrw
    have HVW:=Lib.hid hvw
    have HSW:=Lib.hid hsw
    have HFW:=Lib.hid hfw
    obtain ⟨⟨a0,a1,a2⟩,z0,z1,z2⟩:=hrw.at
    obtain ⟨⟨v0,v1,v2,v3⟩,x0,x1,x2,x3⟩:=hvw.at
    obtain ⟨⟨m0,m1,m2,m3⟩,y0,y1,y2,y3⟩:=hsw.at
    clear hrw hvw hsw hfw
    cases f with
    | true =>
      go_wp2
      have k1:=(HRW.out.go z).frm (Frm.chain (u:=w6.setCell ⟨g,1,none⟩ (.int .i64 (z:Int))) (g:=r0) (F:=fun k => k=r0) rfl ⟨vk,vi,vb,vs⟩) hgr
      have k2:=(HSW.out.other (a:=⟨g,1,none⟩) (u:=.int .i64 (z:Int)) hgr).store ⟨vk,vi,vb,vs⟩
      have k3:Frm (fun k => k=g) w ((((((w6.setCell ⟨g,1,none⟩ (.int .i64 (z:Int))).setCell ⟨r0,0,none⟩ (.int .i64 vk)).setCell ⟨r0,1,none⟩ (.int .i64 vi)).setCell ⟨r0,2,none⟩ (.bool vb)).setCell ⟨r0,3,none⟩ (.string vs))):=by
        have hA:=(HFW.out.trans (frm_cell w6 g 1 (.int .i64 (z:Int)))).mono (F':=fun k => k=g∨k=r0) (fun k _ hk => .inl hk)
        refine (hA.trans (Frm.chain (u:=w6.setCell ⟨g,1,none⟩ (.int .i64 (z:Int))) (g:=r0) (F:=fun k => k=g∨k=r0) (.inr rfl) ⟨vk,vi,vb,vs⟩)).mono (fun k hk h => ?_)
        rcases h with h | h
        · exact h
        · have:=HR00.out;omega
      simp only at k1 k2
      generalize (((((w6.setCell ⟨g,1,none⟩ (.int .i64 (z:Int))).setCell ⟨r0,0,none⟩ (.int .i64 vk)).setCell ⟨r0,1,none⟩ (.int .i64 vi)).setCell ⟨r0,2,none⟩ (.bool vb)).setCell ⟨r0,3,none⟩ (.string vs))=w7 at *
      clear a0 a1 a2 z0 z1 z2 v0 v1 v2 v3 x0 x1 x2 x3 m0 m1 m2 m3 y0 y1 y2 y3
      obtain ⟨⟨c0,c1,c2,c3⟩,_⟩:=k2.at
      try simp only [Exit.inBlock,Exit.then]
      refine bodyPost_ret (v:=.agg #[.int .i64 vk,.int .i64 vi,.bool vb,.string vs]) (by simp [results,Tryz.results120,go_sem,c0,c1,c2,c3]) rfl ?_
      exact ⟨rfl,k1,k3⟩
    | false =>
      go_wp2
      have k1:=HRW.out.brk.frm (Frm.chain (u:=w6.setCell ⟨g,2,none⟩ (.bool true)) (g:=r0) (F:=fun k => k=r0) rfl ⟨0,0,false,⟨#[]⟩⟩) hgr
      have k2:=(HSW.out.other (a:=⟨g,2,none⟩) (u:=.bool true) hgr).store ⟨0,0,false,⟨#[]⟩⟩
      have k3:Frm (fun k => k=g) w ((((((w6.setCell ⟨g,2,none⟩ (.bool true)).setCell ⟨r0,0,none⟩ (.int .i64 0)).setCell ⟨r0,1,none⟩ (.int .i64 0)).setCell ⟨r0,2,none⟩ (.bool false)).setCell ⟨r0,3,none⟩ (.string ⟨#[]⟩))):=by
        have hA:=(HFW.out.trans (frm_cell w6 g 2 (.bool true))).mono (F':=fun k => k=g∨k=r0) (fun k _ hk => .inl hk)
        refine (hA.trans (Frm.chain (u:=w6.setCell ⟨g,2,none⟩ (.bool true)) (g:=r0) (F:=fun k => k=g∨k=r0) (.inr rfl) ⟨0,0,false,⟨#[]⟩⟩)).mono (fun k hk h => ?_)
        rcases h with h | h
        · exact h
        · have:=HR00.out;omega
      simp only at k1 k2
      generalize (((((w6.setCell ⟨g,2,none⟩ (.bool true)).setCell ⟨r0,0,none⟩ (.int .i64 0)).setCell ⟨r0,1,none⟩ (.int .i64 0)).setCell ⟨r0,2,none⟩ (.bool false)).setCell ⟨r0,3,none⟩ (.string ⟨#[]⟩))=w7 at *
      clear a0 a1 a2 z0 z1 z2 v0 v1 v2 v3 x0 x1 x2 x3 m0 m1 m2 m3 y0 y1 y2 y3
      obtain ⟨⟨c0,c1,c2,c3⟩,_⟩:=k2.at
      try simp only [Exit.inBlock,Exit.then]
      refine bodyPost_ret (v:=.agg #[.int .i64 0,.int .i64 0,.bool false,.string ⟨#[]⟩]) (by simp [results,Tryz.results120,go_sem,c0,c1,c2,c3]) rfl ?_
      exact ⟨rfl,k1,k3⟩
  · have hrw:RdAt ((((w5.setCell ⟨u.heap.size,0,none⟩ (.int .i64 vk)).setCell ⟨u.heap.size,1,none⟩ (.int .i64 vi)).setCell ⟨u.heap.size,2,none⟩ (.bool vb)).setCell ⟨u.heap.size,3,none⟩ (.string vs)) g s t:=HR5.out.frm (Frm.chain (u:=w5) (g:=u.heap.size) (F:=fun k => k=u.heap.size) rfl ⟨vk,vi,vb,vs⟩) hne2
    have hvw:Slot ((((w5.setCell ⟨u.heap.size,0,none⟩ (.int .i64 vk)).setCell ⟨u.heap.size,1,none⟩ (.int .i64 vi)).setCell ⟨u.heap.size,2,none⟩ (.bool vb)).setCell ⟨u.heap.size,3,none⟩ (.string vs)) (u.heap.size) ⟨vk,vi,vb,vs⟩:=HV5.out.store ⟨vk,vi,vb,vs⟩
    have hsw:Slot ((((w5.setCell ⟨u.heap.size,0,none⟩ (.int .i64 vk)).setCell ⟨u.heap.size,1,none⟩ (.int .i64 vi)).setCell ⟨u.heap.size,2,none⟩ (.bool vb)).setCell ⟨u.heap.size,3,none⟩ (.string vs)) r0 ⟨0,0,false,⟨#[]⟩⟩:=((Slot.below (w:=(u.alloc (.cells #[.int .i64 0,.int .i64 0,.bool false,.string ⟨#[]⟩] 24)).drew) (g:=r0) (v:=⟨0,0,false,⟨#[]⟩⟩) ⟨(HS0.out.alloc _).b⟩ HB5.out)).same ((Frm.chain (u:=w5) (g:=u.heap.size) (F:=fun k => k=u.heap.size) rfl ⟨vk,vi,vb,vs⟩).block r0 (by have h1:=HB5.out.size;have h2:=HZ0.out;have h3:(u.alloc (.cells #[.int .i64 0,.int .i64 0,.bool false,.string ⟨#[]⟩] 24)).drew.heap.size=u.heap.size + 1:=(by show (u.alloc (.cells #[.int .i64 0,.int .i64 0,.bool false,.string ⟨#[]⟩] 24)).heap.size=_;simp);omega) (by have h2:=HZ0.out;omega))
    have hfw:Frm (fun k => k=g) w ((((w5.setCell ⟨u.heap.size,0,none⟩ (.int .i64 vk)).setCell ⟨u.heap.size,1,none⟩ (.int .i64 vi)).setCell ⟨u.heap.size,2,none⟩ (.bool vb)).setCell ⟨u.heap.size,3,none⟩ (.string vs)):=by
      have hA:Frm (fun k => k=g∨k=u.heap.size) w w5:=((HB0.out.alloc (.cells #[.int .i64 0,.int .i64 0,.bool false,.string ⟨#[]⟩] 24)).drew.trans (Frm.of_new HB5.out _)).mono (fun k _ hk => .inl hk)
      refine (hA.trans (Frm.chain (u:=w5) (g:=u.heap.size) (F:=fun k => k=g∨k=u.heap.size) (.inr rfl) ⟨vk,vi,vb,vs⟩)).mono (fun k hk h => ?_)
      rcases h with h | h
      · exact h
      · have h2:=HZ0.out;have h3:=HR00.out;omega
    have hvg:¬ u.heap.size=g:=by exact hne
    have hvr:¬ u.heap.size=r0:=by have h2:=HZ0.out;omega
    have hgr:¬ g=r0:=by have:=HL.out;omega
    have hrg:¬ r0=g:=by have:=HL.out;omega
    clear HR5 HV5 HB5 HB0 HS0 HZ0 HR0 g0 g1 g2 q0 q1 q2 hne hne2 s0 s1 s2 s3 e0 e1 e2 e3
    generalize (((w5.setCell ⟨u.heap.size,0,none⟩ (.int .i64 vk)).setCell ⟨u.heap.size,1,none⟩ (.int .i64 vi)).setCell ⟨u.heap.size,2,none⟩ (.bool vb)).setCell ⟨u.heap.size,3,none⟩ (.string vs)=w6 at *
    generalize u.heap.size=b6 at *
    have HRW:=Lib.hid hrw
    have HVW:=Lib.hid hvw
    have HSW:=Lib.hid hsw
    have HFW:=Lib.hid hfw
    obtain ⟨⟨a0,a1,a2⟩,z0,z1,z2⟩:=hrw.at
    obtain ⟨⟨v0,v1,v2,v3⟩,x0,x1,x2,x3⟩:=hvw.at
    obtain ⟨⟨m0,m1,m2,m3⟩,y0,y1,y2,y3⟩:=hsw.at
    clear hrw hvw hsw hfw
    cases f with
    | true =>
      go_wp2
      have k1:=(HRW.out.go z).frm (Frm.chain (u:=w6.setCell ⟨g,1,none⟩ (.int .i64 (z:Int))) (g:=r0) (F:=fun k => k=r0) rfl ⟨vk,vi,vb,vs⟩) hgr
      have k2:=(HSW.out.other (a:=⟨g,1,none⟩) (u:=.int .i64 (z:Int)) hgr).store ⟨vk,vi,vb,vs⟩
      have k3:Frm (fun k => k=g) w ((((((w6.setCell ⟨g,1,none⟩ (.int .i64 (z:Int))).setCell ⟨r0,0,none⟩ (.int .i64 vk)).setCell ⟨r0,1,none⟩ (.int .i64 vi)).setCell ⟨r0,2,none⟩ (.bool vb)).setCell ⟨r0,3,none⟩ (.string vs))):=by
        have hA:=(HFW.out.trans (frm_cell w6 g 1 (.int .i64 (z:Int)))).mono (F':=fun k => k=g∨k=r0) (fun k _ hk => .inl hk)
        refine (hA.trans (Frm.chain (u:=w6.setCell ⟨g,1,none⟩ (.int .i64 (z:Int))) (g:=r0) (F:=fun k => k=g∨k=r0) (.inr rfl) ⟨vk,vi,vb,vs⟩)).mono (fun k hk h => ?_)
        rcases h with h | h
        · exact h
        · have:=HR00.out;omega
      simp only at k1 k2
      generalize (((((w6.setCell ⟨g,1,none⟩ (.int .i64 (z:Int))).setCell ⟨r0,0,none⟩ (.int .i64 vk)).setCell ⟨r0,1,none⟩ (.int .i64 vi)).setCell ⟨r0,2,none⟩ (.bool vb)).setCell ⟨r0,3,none⟩ (.string vs))=w7 at *
      clear a0 a1 a2 z0 z1 z2 v0 v1 v2 v3 x0 x1 x2 x3 m0 m1 m2 m3 y0 y1 y2 y3
      obtain ⟨⟨c0,c1,c2,c3⟩,_⟩:=k2.at
      try simp only [Exit.inBlock,Exit.then]
      refine bodyPost_ret (v:=.agg #[.int .i64 vk,.int .i64 vi,.bool vb,.string vs]) (by simp [results,Tryz.results120,go_sem,c0,c1,c2,c3]) rfl ?_
      exact ⟨rfl,k1,k3⟩
    | false =>
      go_wp2
      have k1:=HRW.out.brk.frm (Frm.chain (u:=w6.setCell ⟨g,2,none⟩ (.bool true)) (g:=r0) (F:=fun k => k=r0) rfl ⟨0,0,false,⟨#[]⟩⟩) hgr
      have k2:=(HSW.out.other (a:=⟨g,2,none⟩) (u:=.bool true) hgr).store ⟨0,0,false,⟨#[]⟩⟩
      have k3:Frm (fun k => k=g) w ((((((w6.setCell ⟨g,2,none⟩ (.bool true)).setCell ⟨r0,0,none⟩ (.int .i64 0)).setCell ⟨r0,1,none⟩ (.int .i64 0)).setCell ⟨r0,2,none⟩ (.bool false)).setCell ⟨r0,3,none⟩ (.string ⟨#[]⟩))):=by
        have hA:=(HFW.out.trans (frm_cell w6 g 2 (.bool true))).mono (F':=fun k => k=g∨k=r0) (fun k _ hk => .inl hk)
        refine (hA.trans (Frm.chain (u:=w6.setCell ⟨g,2,none⟩ (.bool true)) (g:=r0) (F:=fun k => k=g∨k=r0) (.inr rfl) ⟨0,0,false,⟨#[]⟩⟩)).mono (fun k hk h => ?_)
        rcases h with h | h
        · exact h
        · have:=HR00.out;omega
      simp only at k1 k2
      generalize (((((w6.setCell ⟨g,2,none⟩ (.bool true)).setCell ⟨r0,0,none⟩ (.int .i64 0)).setCell ⟨r0,1,none⟩ (.int .i64 0)).setCell ⟨r0,2,none⟩ (.bool false)).setCell ⟨r0,3,none⟩ (.string ⟨#[]⟩))=w7 at *
      clear a0 a1 a2 z0 z1 z2 v0 v1 v2 v3 x0 x1 x2 x3 m0 m1 m2 m3 y0 y1 y2 y3
      obtain ⟨⟨c0,c1,c2,c3⟩,_⟩:=k2.at
      try simp only [Exit.inBlock,Exit.then]
      refine bodyPost_ret (v:=.agg #[.int .i64 0,.int .i64 0,.bool false,.string ⟨#[]⟩]) (by simp [results,Tryz.results120,go_sem,c0,c1,c2,c3]) rfl ?_
      exact ⟨rfl,k1,k3⟩
end Go.Proofs.YtfbmlefhjoblbaaGreat
namespace Go.Proofs.YtfbmlefhjoblbaaGreat
open Go.Conc Go.RowKit
set_option linter.unusedVariables false
set_option linter.unusedSimpArgs false
theorem pk_sums (p pos:Nat) (hp:p≤1048576) (hpos:pos≤281474976710648):wrap64 (p:Int)=(p:Int)∧wrap64 ((p:Int) + 8)=(p:Int) + 8∧wrap64 ((p:Int) + 8 - 1)=(p:Int) + 7 ∧
    wrap64 (((p:Int) + 7).tdiv 8)=(((p + 7) / 8:Nat):Int)∧wrap64 ((pos:Int) + (((p + 7) / 8:Nat):Int))=((pos + (p + 7) / 8:Nat):Int):=by
  refine ⟨?_,?_,?_,?_,?_⟩
  · unfold wrap64;omega
  · unfold wrap64;omega
  · unfold wrap64;omega
  · rw [Int.tdiv_eq_ediv_of_nonneg (by omega)];unfold wrap64;omega
  · unfold wrap64;omega
theorem bytes_most (many wd:Nat) (hm:many≤65536) (hw:wd≤16):many * wd≤1048576:=Nat.le_trans (Nat.mul_le_mul hm hw) (by omega)
set_option maxRecDepth 100000 in
set_option maxHeartbeats 1000000 in
theorem rdpacked_any (w:World) (g:Nat) (s:ByteArray) (t:Tk) (h:RdAt w g s t) (hs:s.size≤281474976710648) (hp:t.pos≤s.size) (many wd:Nat) (hm:many≤65536) (hw:wd≤16) :
    Calls Tryz.prog 94 #[.pointer (some ⟨g,0,none⟩),.int .i64 (many:Int),.int .i64 (wd:Int)] w fun e w' => ∃ a cap,e=.returned (.slice a (rdPacked s.data.toList t many wd).1.length cap)∧OwnI w.heap.size w' a cap (rdPacked s.data.toList t many wd).1∧RdAt w' g s (rdPacked s.data.toList t many wd).2∧Frm (fun k => k=g) w w':=by
  have hl:s.data.toList.length=s.size:=(size_list s).symm
  rw [packed_piece (by rw [hl];exact hp) hm hw]
  have hq2:(many * wd + 7) / 8≤1000000:=by have:=bytes_most many wd hm hw;omega
  obtain ⟨e1',e2,e3,e4,e5⟩:=pk_sums (many * wd) 0 (bytes_most many wd hm hw) (by omega)
  have e1:wrap64 ((many:Int) * (wd:Int))=((many * wd:Nat):Int):=by rw [← Int.natCast_mul];exact e1'
  have hbf:bytesFor many wd=(many * wd + 7) / 8:=rfl
  obtain ⟨q,hq⟩:∃ q,q=(many * wd + 7) / 8:=⟨_,rfl⟩
  rw [← hq] at e4 hbf hq2
  rw [hbf]
  have T1:=Lib.hid (rdpiece_any w g s t h hs hp q (Nat.le_trans hq2 (by decide)))
  have hpl:=piece_len s.data.toList t q
  generalize rdPiece s.data.toList t q=P at *
  obtain ⟨x,t1⟩:=P
  simp only at T1 hpl ⊢
  have hsz:(textB x).size≤281474976710648:=by clear e1 e1' e2 e3 e4 e5;rw [textB_size];omega
  have T:=Lib.hid (fun u => kunpack_any u (textB x) hsz many wd)
  have T2:=Lib.hid (fun u t f h => rdhold_any u g s t h f)
  generalize many * wd=p at *
  generalize unpackA (textB x) (many:Int) (wd:Int)=r at *
  obtain ⟨xs,E⟩:=r
  have T:Hid (∀ u:World,Calls Tryz.prog 132 #[.string (textB x),.int .i64 (many:Int),.int .i64 (wd:Int)] u fun e w' => ∃ a cap,e=.returned (.tuple #[.slice a xs.length cap,.int .i64 E])∧OwnI u.heap.size w' a cap xs∧Below u.heap.size u w'):=T
  simp only at *
  have HL:=Lib.hid h.lt
  clear hsz hpl hl hbf hq hq2 e1' e5 h
  generalize textB x=X at *
  go_enter Tryz.func94,Tryz.ntmps94
  go_wp2_with (first
    | (go_at_call 106;refine T1.out.mono ?_;rintro e w1 ⟨rfl,hr1,hf1⟩;have HR1:=Lib.hid hr1;have HF1:=Lib.hid hf1;clear hr1 hf1)
    | (go_at_call 132;refine (T.out _).mono ?_;rintro e w5 ⟨a,cap,rfl,ho,hb5⟩;have HR5:=Lib.hid (HR1.out.below hb5);have HB5:=Lib.hid hb5;have HO5:=Lib.hid ho;clear hb5 ho)
    | (go_at_call 105;refine (T2.out _ _ _ HR5.out).mono ?_;rintro e w6 ⟨rfl,hr6,hf6⟩;have HR6:=Lib.hid hr6;have HF6:=Lib.hid hf6;clear hr6 hf6))
  go_ret
  have hz:=HF1.out.size
  have hlt:=HL.out
  have hE:(!(E == 0))=decide (E ≠ 0):=by by_cases e:E=0 <;> simp [e]
  refine ⟨a,cap,rfl,?_,?_,?_⟩
  · exact (OwnI.frm HO5.out HF6.out fun k hk _ e => by have:=(HO5.out.at_ge hk).1;omega).lower hz
  · rw [← hE];exact HR6.out
  · exact (HF1.out.trans (Frm.of_new HB5.out _)).trans HF6.out
end Go.Proofs.YtfbmlefhjoblbaaGreat
namespace Go.Proofs.YtfbmlefhjoblbaaGreat
open Go.Conc Go.RowKit
set_option linter.unusedVariables false
set_option linter.unusedSimpArgs false
def oneF (kb:Nat):Value:=.func (.func 119) #[] #[.pointer (some ⟨kb,0,none⟩)]
set_option maxRecDepth 100000 in
set_option maxHeartbeats 1000000 in
theorem one_any (w:World) (g kb:Nat) (s:ByteArray) (t:Tk) (h:RdAt w g s t) (hs:s.size≤281474976710648) (k:Int) (hk:1≤k∧k≤3) (hkb:w.cell? ⟨kb,0,none⟩=some (.int .i64 k)) :
    Calls Tryz.prog 119 #[.pointer (some ⟨g,0,none⟩),.pointer (some ⟨kb,0,none⟩)] w fun e w' => e=.returned (.agg #[.int .i64 (rdValue s.data.toList k t).1.k,.int .i64 (rdValue s.data.toList k t).1.i,.bool (rdValue s.data.toList k t).1.b,.string (rdValue s.data.toList k t).1.s])∧RdAt w' g s (rdValue s.data.toList k t).2∧Frm (fun k => k=g) w w':=by
  have T:=Lib.hid (rdvalue_any (w.alloc (.cells #[.int .i64 0,.int .i64 0,.bool false,.string ⟨#[]⟩] 24)) g s t (h.alloc _) hs k hk)
  generalize rdValue s.data.toList k t=r at *
  obtain ⟨⟨vk,vi,vb,vs⟩,t'⟩:=r
  simp only at *
  have HL:=Lib.hid h.lt
  have HS0:=Lib.hid (Slot.new w ⟨0,0,false,⟨#[]⟩⟩)
  have hkl:=World.block_lt_of_cell? w ⟨kb,0,none⟩ hkb
  have c0:(w.alloc (.cells #[.int .i64 0,.int .i64 0,.bool false,.string ⟨#[]⟩] 24)).cell? ⟨kb,0,none⟩=some (.int .i64 k):=(World.cell?_of_block (Below.heap_alloc w _ kb hkl)).trans hkb
  have HF0:=Lib.hid (show Frm (fun k => k=g) w (w.alloc (.cells #[.int .i64 0,.int .i64 0,.bool false,.string ⟨#[]⟩] 24)) from (Frm.refl _ _).alloc _)
  clear h hkb hkl
  go_enter Tryz.func119,Tryz.ntmps119
  go_upto_region 1 with fail
  obtain ⟨r0,hr0⟩:∃ r0,r0=w.heap.size:=⟨_,rfl⟩
  have HR00:=Lib.hid hr0
  rw [← hr0] at HS0 HL ⊢
  clear hr0
  generalize w.alloc (.cells #[.int .i64 0,.int .i64 0,.bool false,.string ⟨#[]⟩] 24)=u at *
  go_wp2_with (go_at_call 120;refine T.out.mono ?_;rintro e w5 ⟨rfl,hr5,hf5⟩;have HR5:=Lib.hid hr5;have HF5:=Lib.hid hf5;have hgr:¬ r0=g:=(by have:=HL.out;omega);have hs5:=HS0.out.same (hf5.block r0 HS0.out.lt hgr);have HS5:=Lib.hid hs5;obtain ⟨⟨m0,m1,m2,m3⟩,y0,y1,y2,y3⟩:=hs5.at;clear hr5 hf5 hs5)
  have hgr2:¬ g=r0:=by have:=HL.out;omega
  have k1:=HR5.out.frm (Frm.chain (u:=w5) (g:=r0) (F:=fun k => k=r0) rfl ⟨vk,vi,vb,vs⟩) hgr2
  have k2:=HS5.out.store ⟨vk,vi,vb,vs⟩
  have k3:Frm (fun k => k=g) w (((((w5.setCell ⟨r0,0,none⟩ (.int .i64 vk)).setCell ⟨r0,1,none⟩ (.int .i64 vi)).setCell ⟨r0,2,none⟩ (.bool vb)).setCell ⟨r0,3,none⟩ (.string vs))):=by
    have hA:=(HF0.out.trans HF5.out).mono (F':=fun k => k=g∨k=r0) (fun k _ hk => .inl hk)
    refine (hA.trans (Frm.chain (u:=w5) (g:=r0) (F:=fun k => k=g∨k=r0) (.inr rfl) ⟨vk,vi,vb,vs⟩)).mono (fun k hk h => ?_)
    rcases h with h | h
    · exact h
    · have:=HR00.out;omega
  simp only at k1 k2
  generalize ((((w5.setCell ⟨r0,0,none⟩ (.int .i64 vk)).setCell ⟨r0,1,none⟩ (.int .i64 vi)).setCell ⟨r0,2,none⟩ (.bool vb)).setCell ⟨r0,3,none⟩ (.string vs))=w7 at *
  clear m0 m1 m2 m3 y0 y1 y2 y3 c0
  obtain ⟨⟨c0,c1,c2,c3⟩,_⟩:=k2.at
  try simp only [Exit.inBlock,Exit.then]
  refine bodyPost_ret (v:=.agg #[.int .i64 vk,.int .i64 vi,.bool vb,.string vs]) (by simp [results,Tryz.results119,go_sem,c0,c1,c2,c3]) rfl ?_
  exact ⟨rfl,k1,k3⟩
structure EAt (w wr:World) (g kb:Nat) (s:ByteArray) (k:Int) (many:Nat) (R:List V × Tk) (vs:List V) (t:Tk) (av:Option Addr) (cv:Nat):Prop where
  is:rdEach s.data.toList k (many - vs.length) t vs=R
  rd:RdAt wr g s t
  kind:wr.cell? ⟨kb,0,none⟩=some (.int .i64 k)
  own:OwnV w.heap.size wr av cv vs
  frm:Frm (fun k => k=g) w wr
section
variable {w u u':World} {g kb many cv:Nat} {s:ByteArray} {k:Int} {R:List V × Tk} {vs:List V} {t t':Tk} {av:Option Addr} {v:V}
theorem EAt.val (h:EAt w u g kb s k many R vs t av cv) (hg:g < w.heap.size) (hkb:kb < w.heap.size) {av':Option Addr} {cv':Nat} {u1:World} (hr:RdAt u1 g s t') (hf1:Frm (fun k => k=g) u u1) (hne:¬ kb=g)
    (ho:OwnV w.heap.size u' av' cv' (vs ++ [v])) (hf:Frm (At av) u1 u') (hi:rdEach s.data.toList k (many - (vs ++ [v]).length) t' (vs ++ [v])=R):EAt w u' g kb s k many R (vs ++ [v]) t' av' cv':=by
  have hnv:∀ k,At av k→w.heap.size≤k:=fun k hk => (h.own.at_ge hk).1
  have hk1:=World.block_lt_of_cell? u ⟨kb,0,none⟩ h.kind
  refine ⟨hi,hr.frm hf fun hk => by have:=hnv g hk;omega,?_,ho,?_⟩
  · rw [World.cell?_of_block (hf.block kb (Nat.lt_of_lt_of_le hk1 hf1.size) fun hk => by have:=hnv kb hk;omega),World.cell?_of_block (hf1.block kb hk1 hne)]
    exact h.kind
  · refine ((h.frm.trans hf1).mono (F':=fun k => k=g∨w.heap.size≤k) fun k _ hk => .inl hk).trans (hf.mono (F':=fun k => k=g∨w.heap.size≤k) fun k _ hk => .inr (hnv k hk)) |>.mono fun k hk h => ?_
    rcases h with h | h
    · exact h
    · omega
end
set_option maxRecDepth 100000 in
set_option maxHeartbeats 4000000 in
theorem each_any (w:World) (g kb:Nat) (s:ByteArray) (t:Tk) (h:RdAt w g s t) (hs:s.size≤281474976710648) (k:Int) (hk:1≤k∧k≤3) (hkb:w.cell? ⟨kb,0,none⟩=some (.int .i64 k)) (hne:¬ kb=g) (many:Nat) (hm:many≤65536) :
    Calls Tryz.prog 123 #[.pointer (some ⟨g,0,none⟩),.int .i64 (many:Int),oneF kb] w fun e w' => ∃ a cap,e=.returned (.slice a (rdEach s.data.toList k many t []).1.length cap)∧OwnV w.heap.size w' a cap (rdEach s.data.toList k many t []).1∧RdAt w' g s (rdEach s.data.toList k many t []).2∧Frm (fun k => k=g) w w':=by
  obtain ⟨R,hR⟩:∃ R,R=rdEach s.data.toList k many t []:=⟨_,rfl⟩
  rw [← hR]
  have T:=Lib.hid (fun (u:World) (t:Tk) (h:RdAt u g s t) (hc:u.cell? ⟨kb,0,none⟩=some (.int .i64 k)) => one_any u g kb s t h hs k hk hc)
  have H0:Hid (EAt w w g kb s k many R [] t none 0):=⟨by rw [hR];rfl,h,hkb,OwnV.nil _ _,Frm.refl _ _⟩
  have HG:=Lib.hid h.lt
  have HKB:=Lib.hid (World.block_lt_of_cell? w ⟨kb,0,none⟩ hkb)
  have HNE:=Lib.hid hne
  have HM:=Lib.hid hm
  clear hR h hkb hne hm
  unfold oneF
  go_enter Tryz.func123,Tryz.ntmps123
  go_wp2
  go_loopw [7] (fun vv wr => ∃ (cv:Nat) (av:Option Addr) (vs:List V) (t:Tk),vv=.slice av vs.length cv∧vs.length≤many∧Hid (EAt w wr g kb s k many R vs t av cv)) (fun vv _ => many - (match vv with | .slice _ n _ => n | _ => 0))
  case atStart => exact ⟨0,none,[],t,rfl,Nat.zero_le _,H0⟩
  case round =>
    obtain ⟨cv,av,vs,t,rfl,hle,HC⟩:=hrel
    obtain ⟨⟨c0,c1,c2⟩,f0,f1,f2⟩:=HC.out.rd.at
    by_cases c:vs.length < many
    · cases hb:t.bad with
      | true =>
        have TBK:Hid (Calls Tryz.prog 97 #[.pointer (some ⟨g,0,none⟩)] wr fun e w' => e=.returned (.bool true)∧wr=w'):=by have:=rdbroken_any wr g s t HC.out.rd;rw [hb] at this;exact this
        have hR:R=(vs,t):=by
          rw [← HC.out.is,show many - vs.length=(many - vs.length - 1) + 1 by omega,rdEach,if_pos hb]
        subst hR
        have hci:(vs.length:Int) < (many:Int):=by omega
        go_wp2_with (go_at_call 97;refine TBK.out.mono ?_;rintro e w5 ⟨rfl,rfl⟩)
        go_ret
        exact ⟨av,cv,rfl,HC.out.own,HC.out.rd,HC.out.frm⟩
      | false =>
        have TBK:Hid (Calls Tryz.prog 97 #[.pointer (some ⟨g,0,none⟩)] wr fun e w' => e=.returned (.bool false)∧wr=w'):=by have:=rdbroken_any wr g s t HC.out.rd;rw [hb] at this;exact this
        have HN:Hid (rdEach s.data.toList k (many - (vs ++ [(rdValue s.data.toList k t).1]).length) (rdValue s.data.toList k t).2 (vs ++ [(rdValue s.data.toList k t).1])=R):=by
          unfold Hid
          rw [← HC.out.is,show many - vs.length=(many - (vs ++ [(rdValue s.data.toList k t).1]).length) + 1 by rw [List.length_append,List.length_singleton];omega,rdEach,if_neg (by rw [hb];simp)]
        have T1:=Lib.hid (T.out wr t HC.out.rd HC.out.kind)
        generalize rdValue s.data.toList k t=r at *
        obtain ⟨v,t'⟩:=r
        simp only at HN T1
        have hci:(vs.length:Int) < (many:Int):=by omega
        have hwb:vs.length≤3518437208882:=by have:=HM.out;omega
        have HWB:=Lib.hid hwb
        clear hwb
        go_upto_region 3 with (go_at_call 97;refine TBK.out.mono ?_;rintro e w4 ⟨rfl,rfl⟩)
        go_wp2_with (first
          | (go_at_call 119;refine T1.out.mono ?_;rintro e w5 ⟨rfl,hr5,hf5⟩;have HR5:=Lib.hid hr5;have HF5:=Lib.hid hf5;have HO5:=Lib.hid (HC.out.own.frm hf5 fun k hk _ e => by have:=(HC.out.own.at_ge hk).1;have:=HG.out;omega);clear hr5 hf5 c0 c1 c2 f0 f1 f2)
          | (at_builtin;refine wp_val HO5.out (by have:=HC.out.frm.size;have:=HF5.out.size;omega) HWB.out rfl _ _ rfl v rfl rfl ?_;intro av' cv' u6 ho hf _;have HFIN:=Lib.hid (HC.out.val HG.out HKB.out HR5.out HF5.out HNE.out ho hf HN.out);clear ho hf))
        go_roundw
        case rel => exact ⟨cv',av',vs ++ [v],t',by simp,by simp;omega,HFIN⟩
        case measure => simp;omega
    · have hv:vs.length=many:=by omega
      have hR:R=(vs,t):=by rw [← HC.out.is,hv,Nat.sub_self];rfl
      subst hR
      have hci:¬ ((vs.length:Int) < (many:Int)):=by omega
      have hci2:decide ((vs.length:Int) < (many:Int))=false:=decide_eq_false hci
      go_wp2
      go_ret
      exact ⟨av,cv,rfl,HC.out.own,HC.out.rd,HC.out.frm⟩
end Go.Proofs.YtfbmlefhjoblbaaGreat
namespace Go.Proofs.YtfbmlefhjoblbaaGreat
open Go.Conc Go.RowKit
set_option linter.unusedVariables false
set_option linter.unusedSimpArgs false
theorem step_num {base:Nat} {w:World} {ad:Option Addr} {cap:Nat} {xs:List Int} (h:OwnI base w ad cap xs) (hb:base≤w.heap.size) (hO:xs.length≤17592186044000) {ops:Array Oper} {op:Oper} {A:Act} {K:Act→World→Prop} {Q:Exit→Act→World→Prop} {E:Prop} (hgd:op.guard=none) (sl x:Operand)
    (ho:op.op=.call { callee:=.builtin .append,args:=#[sl,x],argTypes:=#[86,86] }) (z:Int) (hs:A.eval sl=.slice ad xs.length cap) (hx:A.eval x=.slice (some ⟨w.heap.size,0,none⟩) 1 1)
    (hK:∀ ad' cap' w',OwnI base w' ad' cap' (xs ++ [z])→Frm (At ad) w w'→K (A.put op.dst (.slice ad' (xs ++ [z]).length cap')) w'):if Region.wanted op (yielded ops A.tmps)=true then Oper.wp Tryz.prog op A (w.alloc (.cells #[.int .i64 z] 3)) K Q else E:=by
  have hwt:Region.wanted op (yielded ops A.tmps)=true:=by simp [Region.wanted,hgd]
  rw [if_pos hwt]
  obtain ⟨i0,hi,hz0,hz1,hz2⟩:=info_parts infoInt
  have ha:=h.alloc (.cells #[.int .i64 z] 3)
  have hb2:(w.alloc (.cells #[.int .i64 z] 3)).heap[w.heap.size]? = some (.cells #[.int .i64 z] 3 (0,0)):=heap_alloc_new w _
  refine wp_append_own _ sl x 86 ho base 3 i0 (.int .i64 0) 1 8 Tryz.underlying86 hi hz0 hz1 hz2 rfl (by decide) (.slice ad xs.length cap) xs.length (intCells xs) hs ha ⟨w.heap.size,0,none⟩ 1 1 (intCells [z]) hx rfl (fun j u hj => ?_) (int_one _) (by simp only [maxLen];omega) (by omega) (Nat.le_trans hb (by simp)) ?_
  · have hj1:j < 1:=by have:=(List.getElem?_eq_some_iff.1 hj).1;simpa [intCells] using this
    have hj0:j=0:=by omega
    subst hj0
    rw [show (⟨w.heap.size,0,none⟩:Addr).add 0=⟨w.heap.size,0,none⟩ by simp [Addr.add],cell_of_row _ _ _ _ _ _ hb2]
    simpa [intCells] using hj
  intro v' w' hown hgrow _
  obtain ⟨ad',cap',rfl⟩:=own_form hown
  have hl:(xs ++ [z]).length=xs.length + 1:=by simp
  have ho':OwnI base w' ad' cap' (xs ++ [z]):=by
    unfold OwnI
    rw [hl,intCells_append]
    exact hown
  have:=hK ad' cap' w' ho' (grown_frm _ hgrow (own_head h))
  rwa [hl] at this
structure NumAt (B:Nat) (w:World) (g lb mb ob kb:Nat) (s:ByteArray) (k:Int) (many:Nat) (t:Tk) (a:Option Addr) (cap:Nat) (ms:List Int):Prop where
  rd:RdAt w g s t
  lens:w.heap[lb]? = some (.cells #[.slice a ms.length cap] 86 (0,0))
  many:w.cell? ⟨mb,0,none⟩=some (.int .i64 (many:Int))
  one:w.cell? ⟨ob,0,none⟩=some (oneF kb)
  kind:w.cell? ⟨kb,0,none⟩=some (.int .i64 k)
  own:OwnI B w a cap ms
  size:B≤w.heap.size
structure NumB (B g lb mb ob kb:Nat):Prop where
  xg:g < B
  xlb:lb < B
  xmb:mb < B
  xob:ob < B
  xkb:kb < B
  gl:g ≠ lb
  gm:g ≠ mb
  go:g ≠ ob
  gk:g ≠ kb
  lm:lb ≠ mb
  lo:lb ≠ ob
  lk:lb ≠ kb
section
variable {B g lb mb ob kb many cap:Nat} {w w':World} {s:ByteArray} {k:Int} {t t':Tk} {a:Option Addr} {ms:List Int}
theorem cell_frm {F:Nat→Prop} {w w':World} {b:Nat} {v:Value} (h:w.cell? ⟨b,0,none⟩=some v) (hf:Frm F w w') (hF:¬ F b):w'.cell? ⟨b,0,none⟩=some v:=by
  rw [World.cell?_of_block (hf.block b (World.block_lt_of_cell? w ⟨b,0,none⟩ h) hF)];exact h
theorem NumAt.frm {F:Nat→Prop} (h:NumAt B w g lb mb ob kb s k many t a cap ms) (hf:Frm F w w') (hB:NumB B g lb mb ob kb) (hF:∀ k,F k→k=g) (hr:RdAt w' g s t'):NumAt B w' g lb mb ob kb s k many t' a cap ms:=by
  refine ⟨hr,?_,cell_frm h.many hf fun e => hB.gm (hF _ e).symm,cell_frm h.one hf fun e => hB.go (hF _ e).symm,cell_frm h.kind hf fun e => hB.gk (hF _ e).symm,h.own.frm hf fun k hk _ e => ?_,Nat.le_trans h.size hf.size⟩
  · rw [hf.block lb (Array.getElem?_eq_some_iff.1 h.lens).1 fun e => hB.gl (hF _ e).symm];exact h.lens
  · have h1:=(h.own.at_ge hk).1;have h2:=hF _ e;have h3:=hB.xg;omega
theorem NumAt.cellL (h:NumAt B w g lb mb ob kb s k many t a cap ms):w.cell? ⟨lb,0,none⟩=some (.slice a ms.length cap)∧w.frozen? ⟨lb,0,none⟩=false:=by
  refine ⟨?_,frozen_of_row w lb 0 _ _ h.lens⟩
  rw [cell_of_row _ _ _ _ _ _ h.lens];rfl
theorem NumAt.var {u u':World} (h:NumAt B u g lb mb ob kb s k many t a cap ms) (hB:NumB B g lb mb ob kb) (hf:Frm (At a) u u'):u'.cell? ⟨lb,0,none⟩=some (.slice a ms.length cap)∧u'.frozen? ⟨lb,0,none⟩=false:=by
  have hl:u'.heap[lb]? = some (.cells #[.slice a ms.length cap] 86 (0,0)):=by
    rw [hf.block lb (Array.getElem?_eq_some_iff.1 h.lens).1 fun e => by have:=(h.own.at_ge e).1;have:=hB.xlb;omega];exact h.lens
  refine ⟨?_,frozen_of_row u' lb 0 _ _ hl⟩
  rw [cell_of_row _ _ _ _ _ _ hl];rfl
theorem own_slot {base cap g:Nat} {w:World} {a:Option Addr} {xs:List Int} {v:V} (h:OwnI base w a cap xs) (hs:Slot w g v):¬ At a g:=by
  intro hk
  rcases h.block with ⟨rfl,_⟩ | ⟨b,rfl,_,_,_,cur,hc,_⟩
  · simp [At] at hk
  · simp [At] at hk
    subst hk
    rw [hs.b] at hc
    injection hc with hc
    injection hc with _ h3 _
    exact absurd h3 types_apart.1
theorem NumAt.other {r:Nat} (h:NumAt B w g lb mb ob kb s k many t a cap ms) (hB:NumB B g lb mb ob kb) (hf:Frm (fun k => k=r) w w') (hr:B≤r) (hn:¬ At a r):NumAt B w' g lb mb ob kb s k many t a cap ms:=by
  refine ⟨h.rd.frm hf fun e => by have:=hB.xg;omega,?_,cell_frm h.many hf fun e => by have:=hB.xmb;omega,cell_frm h.one hf fun e => by have:=hB.xob;omega,cell_frm h.kind hf fun e => by have:=hB.xkb;omega,h.own.frm hf fun k hk _ e => hn (e ▸ hk),Nat.le_trans h.size hf.size⟩
  rw [hf.block lb (Array.getElem?_eq_some_iff.1 h.lens).1 fun e => by have:=hB.xlb;omega];exact h.lens
theorem NumAt.more {u u':World} {a':Option Addr} {cap':Nat} {z:Int} (h:NumAt B u g lb mb ob kb s k many t a cap ms) (hB:NumB B g lb mb ob kb) (ho:OwnI B u' a' cap' (ms ++ [z])) (hf:Frm (At a) u u') :
    NumAt B (u'.setCell ⟨lb,0,none⟩ (.slice a' (ms ++ [z]).length cap')) g lb mb ob kb s k many t a' cap' (ms ++ [z]):=by
  have hn:∀ k,At a k→B≤k:=fun k hk => (h.own.at_ge hk).1
  have hf2:Frm (fun k => k=lb) u' (u'.setCell ⟨lb,0,none⟩ (.slice a' (ms ++ [z]).length cap')):=frm_cell _ _ _ _
  have hl:u'.heap[lb]? = some (.cells #[.slice a ms.length cap] 86 (0,0)):=by
    rw [hf.block lb (Array.getElem?_eq_some_iff.1 h.lens).1 fun e => by have:=hn _ e;have:=hB.xlb;omega];exact h.lens
  refine ⟨(h.rd.frm hf fun e => by have:=hn _ e;have:=hB.xg;omega).frm hf2 hB.gl,heap_setCell_same _ _ _ _ _ _ hl,cell_frm (cell_frm h.many hf fun e => by have:=hn _ e;have:=hB.xmb;omega) hf2 fun e => hB.lm e.symm,
    cell_frm (cell_frm h.one hf fun e => by have:=hn _ e;have:=hB.xob;omega) hf2 fun e => hB.lo e.symm,cell_frm (cell_frm h.kind hf fun e => by have:=hn _ e;have:=hB.xkb;omega) hf2 fun e => hB.lk e.symm,
    ho.frm hf2 fun k hk _ e => by have:=(ho.at_ge hk).1;have:=hB.xlb;omega,?_⟩
  have:=hf.size;have:=hf2.size;have:=h.size;omega
end
set_option maxRecDepth 100000 in
set_option maxHeartbeats 4000000 in
theorem numbered_any (B:Nat) (w:World) (g lb mb ob kb:Nat) (s:ByteArray) (t:Tk) (k:Int) (many:Nat) (a:Option Addr) (cap:Nat) (ms:List Int) (h:NumAt B w g lb mb ob kb s k many t a cap ms) (hB:NumB B g lb mb ob kb) (hs:s.size≤281474976710648) (hk:1≤k∧k≤3) (hm:many≤65536) (hl:ms.length≤65536) :
    Calls Tryz.prog 153 #[.pointer (some ⟨g,0,none⟩),.pointer (some ⟨lb,0,none⟩),.pointer (some ⟨mb,0,none⟩),.pointer (some ⟨ob,0,none⟩)] w fun e w' => ∃ a' cap',
      e=.returned (.agg #[.int .i64 (rdValue s.data.toList k (rdCount s.data.toList t many).2).1.k,.int .i64 (rdValue s.data.toList k (rdCount s.data.toList t many).2).1.i,.bool (rdValue s.data.toList k (rdCount s.data.toList t many).2).1.b,.string (rdValue s.data.toList k (rdCount s.data.toList t many).2).1.s]) ∧
      NumAt B w' g lb mb ob kb s k many (rdValue s.data.toList k (rdCount s.data.toList t many).2).2 a' cap' (ms ++ [((rdCount s.data.toList t many).1:Int)])∧Frm (fun k => k=g∨k=lb∨At a k) w w':=by
  obtain ⟨C,hC⟩:∃ C,C=rdCount s.data.toList t many:=⟨_,rfl⟩
  have T1:Hid (∀ u,RdAt u g s t→Calls Tryz.prog 95 #[.pointer (some ⟨g,0,none⟩),.int .i64 (many:Int)] u fun e w' => e=.returned (.int .i64 (C.1:Int))∧RdAt w' g s C.2∧Frm (fun k => k=g) u w'):=by
    rw [hC];exact fun u h => rdcount_any u g s t h hs many (by omega)
  rw [← hC]
  clear hC
  have T2:=Lib.hid (fun (u:World) (h:RdAt u g s C.2) (hc:u.cell? ⟨kb,0,none⟩=some (.int .i64 k)) => one_any u g kb s C.2 h hs k hk hc)
  obtain ⟨c1,t1⟩:=C
  simp only at *
  generalize rdValue s.data.toList k t1=r at *
  obtain ⟨⟨vk,vi,vb,vs⟩,t'⟩:=r
  simp only at *
  have HB:=Lib.hid hB
  have HL:=Lib.hid (show ms.length≤17592186044000 by omega)
  have HS0:=Lib.hid (Slot.new w ⟨0,0,false,⟨#[]⟩⟩)
  have HF0:=Lib.hid (show Frm (fun _ => False) w (w.alloc (.cells #[.int .i64 0,.int .i64 0,.bool false,.string ⟨#[]⟩] 24)) from (Frm.refl _ _).alloc _)
  have HN0:=Lib.hid (h.frm HF0.out hB (fun _ e => e.elim) (h.rd.alloc _))
  have HW:=Lib.hid h.size
  have HA:=Lib.hid (fun k (hk:At a k) => (h.own.at_ge hk))
  clear h hB hl
  go_enter Tryz.func153,Tryz.ntmps153
  go_upto_region 1 with fail
  obtain ⟨r0,hr0⟩:∃ r0,r0=w.heap.size:=⟨_,rfl⟩
  have HR00:=Lib.hid hr0
  rw [← hr0] at HS0 HW HA ⊢
  clear hr0
  generalize w.alloc (.cells #[.int .i64 0,.int .i64 0,.bool false,.string ⟨#[]⟩] 24)=u at *
  have hln:=HN0.out.cellL.1
  have hmn:=HN0.out.many
  go_region_law (first
    | (refine step_num HO5.out (by have:=HN5.out.size;exact this) HL.out rfl _ _ rfl (c1:Int) (by simp [Act.eval]) (by simp [Act.eval]) ?_;intro a' cap' w6 ho6 hf6;have HO6:=Lib.hid ho6;have HF6:=Lib.hid hf6;have hl6:=(HN5.out.var HB.out hf6).1;have hfl6:=(HN5.out.var HB.out hf6).2;clear ho6 hf6)
    | (go_simp;go_at_call 95;refine (T1.out u.drew ⟨HN0.out.rd.b⟩).mono ?_;rintro e w5 ⟨rfl,hr5,hf5⟩;have hn5:=NumAt.frm (w:=u.drew) ⟨⟨HN0.out.rd.b⟩,HN0.out.lens,HN0.out.many,HN0.out.one,HN0.out.kind,HN0.out.own,HN0.out.size⟩ hf5 HB.out (fun _ e => e) hr5;have HN5:=Lib.hid hn5;have HO5:=Lib.hid hn5.own;have HF5:=Lib.hid hf5;have hl5:=hn5.cellL.1;have hfl5:=hn5.cellL.2;have hm5:=hn5.many;have hl5a:=(World.cell?_of_block (Below.heap_alloc w5 (.cells #[.int .i64 (c1:Int)] 3) lb (World.block_lt_of_cell? w5 ⟨lb,0,none⟩ hl5))).trans hl5;clear hr5 hf5 hn5))
  all_goals (
    have hnw:=HN5.out.more HB.out HO6.out HF6.out
    have hsw:Slot (w6.setCell ⟨lb,0,none⟩ (.slice a' (ms ++ [(c1:Int)]).length cap')) r0 ⟨0,0,false,⟨#[]⟩⟩:=by
      have hB:=HB.out
      have h1:=HW.out
      have h2:r0 < w5.heap.size:=Nat.lt_of_lt_of_le (show r0 < u.drew.heap.size from HS0.out.lt) HF5.out.size
      have h3:=HF6.out.size
      exact (((show Slot u.drew r0 ⟨0,0,false,⟨#[]⟩⟩ from ⟨HS0.out.b⟩).same (HF5.out.block r0 HS0.out.lt fun e => by have:=hB.xg;omega)).same (HF6.out.block r0 h2 fun e => by have:=(HA.out _ e).2;omega)).other (a:=⟨lb,0,none⟩) (fun e => by have:=hB.xlb;have e2:lb=r0:=e;omega)
    have hfw:Frm (fun k => k=g∨k=lb∨At a k) w (w6.setCell ⟨lb,0,none⟩ (.slice a' (ms ++ [(c1:Int)]).length cap')) :=
      ((((HF0.out.drew.mono (fun _ _ e => e.elim)).trans (HF5.out.mono (fun _ _ e => .inl e))).trans (HF6.out.mono (fun _ _ e => .inr (.inr e)))).trans ((frm_cell w6 lb 0 _).mono (fun _ _ e => .inr (.inl e))))
    have hll:(ms ++ [(c1:Int)]).length=ms.length + 1:=by simp
    have HNW:=Lib.hid hnw
    have HSW:=Lib.hid hsw
    have HFW:=Lib.hid hfw
    clear hnw hsw hfw hl5 hfl5 hm5 hl5a hl6 hfl6 hln hmn HN5 HO5 HF5 HO6 HF6 HN0 HS0 HF0
    rw [← hll]
    generalize w6.setCell ⟨lb,0,none⟩ (.slice a' (ms ++ [(c1:Int)]).length cap')=w7 at *
    clear hll
    have hon:=HNW.out.one
    unfold oneF at hon
    go_wp2_with (go_at_call 119;refine (T2.out _ HNW.out.rd HNW.out.kind).mono ?_;rintro e w8 ⟨rfl,hr8,hf8⟩;have HN8:=Lib.hid (HNW.out.frm hf8 HB.out (fun _ e => e) hr8);have HF8:=Lib.hid hf8;have hs8:=HSW.out.same (hf8.block r0 HSW.out.lt (by have:=HB.out.xg;have:=HW.out;omega));have HS8:=Lib.hid hs8;obtain ⟨⟨m0,m1,m2,m3⟩,y0,y1,y2,y3⟩:=hs8.at;clear hr8 hf8 hs8 hon)
    have hBl:=HB.out
    have hWl:=HW.out
    have k0:=Frm.chain (u:=w8) (g:=r0) (F:=fun k => k=r0) rfl ⟨vk,vi,vb,vs⟩
    have k1:=HN8.out.other HB.out k0 hWl (own_slot HN8.out.own HS8.out)
    have k2:=HS8.out.store ⟨vk,vi,vb,vs⟩
    have k3:Frm (fun k => k=g∨k=lb∨At a k) w (((((w8.setCell ⟨r0,0,none⟩ (.int .i64 vk)).setCell ⟨r0,1,none⟩ (.int .i64 vi)).setCell ⟨r0,2,none⟩ (.bool vb)).setCell ⟨r0,3,none⟩ (.string vs))):=by
      have hA:=(HFW.out.trans (HF8.out.mono fun _ _ e => .inl e)).mono (F':=fun k => (k=g∨k=lb∨At a k)∨k=r0) (fun k _ hk => .inl hk)
      refine (hA.trans (Frm.chain (u:=w8) (g:=r0) (F:=fun k => (k=g∨k=lb∨At a k)∨k=r0) (.inr rfl) ⟨vk,vi,vb,vs⟩)).mono (fun k hk h => ?_)
      rcases h with h | h
      · exact h
      · have:=HR00.out;omega
    simp only at k0 k1 k2
    generalize ((((w8.setCell ⟨r0,0,none⟩ (.int .i64 vk)).setCell ⟨r0,1,none⟩ (.int .i64 vi)).setCell ⟨r0,2,none⟩ (.bool vb)).setCell ⟨r0,3,none⟩ (.string vs))=w9 at *
    clear m0 m1 m2 m3 y0 y1 y2 y3
    obtain ⟨⟨c0,c1',c2,c3⟩,_⟩:=k2.at
    try simp only [Exit.inBlock,Exit.then]
    refine bodyPost_ret (v:=.agg #[.int .i64 vk,.int .i64 vi,.bool vb,.string vs]) (by simp [results,Tryz.results153,go_sem,c0,c1',c2,c3]) rfl ?_
    exact ⟨a',cap',rfl,k1,k3⟩)
structure NEAt (w wr:World) (g lb mb ob kb:Nat) (s:ByteArray) (k:Int) (many N:Nat) (R:List Int × List V × Tk) (ms:List Int) (vs:List V) (t:Tk) (a av:Option Addr) (cap cv:Nat):Prop where
  is:rdNums s.data.toList k many (N - vs.length) t ms vs=R
  num:NumAt w.heap.size wr g lb mb ob kb s k many t a cap ms
  own:OwnV w.heap.size wr av cv vs
  len:ms.length=vs.length
  frm:Frm (fun k => k=g∨k=lb) w wr
section
variable {w u u1 u':World} {g lb mb ob kb many N cap cv cap':Nat} {s:ByteArray} {k:Int} {R:List Int × List V × Tk} {vs:List V} {ms:List Int} {t t':Tk} {a a' av:Option Addr} {v:V} {z:Int}
theorem NEAt.mid (h:NEAt w u g lb mb ob kb s k many N R ms vs t a av cap cv) (hB:NumB w.heap.size g lb mb ob kb) (hf1:Frm (fun k => k=g∨k=lb∨At a k) u u1):OwnV w.heap.size u1 av cv vs :=
  h.own.frm hf1 fun k hk _ e => by
    have h1:=(h.own.at_ge hk).1
    rcases e with e | e | e
    · have:=hB.xg;omega
    · have:=hB.xlb;omega
    · exact apart_iv h.num.own h.own e hk
theorem NEAt.val (h:NEAt w u g lb mb ob kb s k many N R ms vs t a av cap cv) (hB:NumB w.heap.size g lb mb ob kb) (hn:NumAt w.heap.size u1 g lb mb ob kb s k many t' a' cap' (ms ++ [z])) (hf1:Frm (fun k => k=g∨k=lb∨At a k) u u1)
    {av':Option Addr} {cv':Nat} (ho:OwnV w.heap.size u' av' cv' (vs ++ [v])) (hf:Frm (At av) u1 u') (hi:rdNums s.data.toList k many (N - (vs ++ [v]).length) t' (ms ++ [z]) (vs ++ [v])=R):NEAt w u' g lb mb ob kb s k many N R (ms ++ [z]) (vs ++ [v]) t' a' av' cap' cv':=by
  have hmid:=h.mid hB hf1
  have hnv:∀ k,At av k→w.heap.size≤k:=fun k hk => (h.own.at_ge hk).1
  refine ⟨hi,?_,ho,by rw [List.length_append,List.length_append,h.len];rfl,?_⟩
  · refine ⟨hn.rd.frm hf fun e => by have:=hnv _ e;have:=hB.xg;omega,?_,cell_frm hn.many hf fun e => by have:=hnv _ e;have:=hB.xmb;omega,cell_frm hn.one hf fun e => by have:=hnv _ e;have:=hB.xob;omega,cell_frm hn.kind hf fun e => by have:=hnv _ e;have:=hB.xkb;omega,hn.own.frm hf fun k hk _ e => apart_iv hn.own hmid hk e,Nat.le_trans hn.size hf.size⟩
    rw [hf.block lb (Array.getElem?_eq_some_iff.1 hn.lens).1 fun e => by have:=hnv _ e;have:=hB.xlb;omega];exact hn.lens
  · refine ((h.frm.mono (F':=fun k => (k=g∨k=lb)∨w.heap.size≤k) fun k _ hk => .inl hk).trans (hf1.mono (F':=fun k => (k=g∨k=lb)∨w.heap.size≤k) fun k _ hk => ?_)).trans (hf.mono (F':=fun k => (k=g∨k=lb)∨w.heap.size≤k) fun k _ hk => .inr (hnv k hk)) |>.mono fun k hk h => ?_
    · rcases hk with hk | hk | hk
      · exact .inl (.inl hk)
      · exact .inl (.inr hk)
      · exact .inr (h.num.own.at_ge hk).1
    · rcases h with h | h
      · exact h
      · omega
end
set_option maxRecDepth 100000 in
set_option maxHeartbeats 4000000 in
theorem eachnum_any (w:World) (g lb mb ob kb:Nat) (s:ByteArray) (t:Tk) (k:Int) (many N:Nat) (h:NumAt w.heap.size w g lb mb ob kb s k many t none 0 []) (hB:NumB w.heap.size g lb mb ob kb) (hs:s.size≤281474976710648) (hk:1≤k∧k≤3) (hm:many≤65536) (hN:N≤65536) :
    Calls Tryz.prog 123 #[.pointer (some ⟨g,0,none⟩),.int .i64 (N:Int),.func (.func 153) #[] #[.pointer (some ⟨lb,0,none⟩),.pointer (some ⟨mb,0,none⟩),.pointer (some ⟨ob,0,none⟩)]] w fun e w' => ∃ av cv a cap,e=.returned (.slice av (rdNums s.data.toList k many N t [] []).2.1.length cv) ∧
      OwnV w.heap.size w' av cv (rdNums s.data.toList k many N t [] []).2.1∧NumAt w.heap.size w' g lb mb ob kb s k many (rdNums s.data.toList k many N t [] []).2.2 a cap (rdNums s.data.toList k many N t [] []).1∧Frm (fun k => k=g∨k=lb) w w':=by
  obtain ⟨R,hR⟩:∃ R,R=rdNums s.data.toList k many N t [] []:=⟨_,rfl⟩
  rw [← hR]
  have HB:=Lib.hid hB
  have T:=Lib.hid (fun (u:World) (t:Tk) (a:Option Addr) (cap:Nat) (ms:List Int) (h:NumAt w.heap.size u g lb mb ob kb s k many t a cap ms) (hl:ms.length≤65536) => numbered_any w.heap.size u g lb mb ob kb s t k many a cap ms h hB hs hk hm hl)
  have H0:Hid (NEAt w w g lb mb ob kb s k many N R [] [] t none none 0 0):=⟨by rw [hR];rfl,h,OwnV.nil _ _,rfl,Frm.refl _ _⟩
  have HM:=Lib.hid hN
  clear hR h hB hm hN
  go_enter Tryz.func123,Tryz.ntmps123
  go_wp2
  go_loopw [7] (fun vv wr => ∃ (cap cv:Nat) (a av:Option Addr) (ms:List Int) (vs:List V) (t:Tk),vv=.slice av vs.length cv∧vs.length≤N∧Hid (NEAt w wr g lb mb ob kb s k many N R ms vs t a av cap cv)) (fun vv _ => N - (match vv with | .slice _ n _ => n | _ => 0))
  case atStart => exact ⟨0,0,none,none,[],[],t,rfl,Nat.zero_le _,H0⟩
  case round =>
    obtain ⟨cap,cv,a,av,ms,vs,t,rfl,hle,HC⟩:=hrel
    obtain ⟨⟨c0,c1,c2⟩,f0,f1,f2⟩:=HC.out.num.rd.at
    by_cases c:vs.length < N
    · cases hb:t.bad with
      | true =>
        have TBK:Hid (Calls Tryz.prog 97 #[.pointer (some ⟨g,0,none⟩)] wr fun e w' => e=.returned (.bool true)∧wr=w'):=by have:=rdbroken_any wr g s t HC.out.num.rd;rw [hb] at this;exact this
        have hR:R=(ms,vs,t):=by
          rw [← HC.out.is,show N - vs.length=(N - vs.length - 1) + 1 by omega,rdNums,if_pos hb]
        subst hR
        have hci:(vs.length:Int) < (N:Int):=by omega
        go_wp2_with (go_at_call 97;refine TBK.out.mono ?_;rintro e w5 ⟨rfl,rfl⟩)
        go_ret
        exact ⟨av,cv,rfl,HC.out.own,⟨a,cap,HC.out.num⟩,HC.out.frm⟩
      | false =>
        have TBK:Hid (Calls Tryz.prog 97 #[.pointer (some ⟨g,0,none⟩)] wr fun e w' => e=.returned (.bool false)∧wr=w'):=by have:=rdbroken_any wr g s t HC.out.num.rd;rw [hb] at this;exact this
        have HN:Hid (rdNums s.data.toList k many (N - (vs ++ [(rdValue s.data.toList k (rdCount s.data.toList t many).2).1]).length) (rdValue s.data.toList k (rdCount s.data.toList t many).2).2 (ms ++ [((rdCount s.data.toList t many).1:Int)]) (vs ++ [(rdValue s.data.toList k (rdCount s.data.toList t many).2).1])=R):=by
          unfold Hid
          rw [← HC.out.is,show N - vs.length=(N - (vs ++ [(rdValue s.data.toList k (rdCount s.data.toList t many).2).1]).length) + 1 by rw [List.length_append,List.length_singleton];omega,rdNums,if_neg (by rw [hb];simp)]
        have T1:=Lib.hid (T.out wr t a cap ms HC.out.num (by have:=HC.out.len;have:=HM.out;omega))
        generalize rdValue s.data.toList k (rdCount s.data.toList t many).2=r at *
        generalize rdCount s.data.toList t many=q at *
        obtain ⟨v,t'⟩:=r
        obtain ⟨z,_⟩:=q
        simp only at HN T1
        have hci:(vs.length:Int) < (N:Int):=by omega
        have hwb:vs.length≤3518437208882:=by have:=HM.out;omega
        have HWB:=Lib.hid hwb
        clear hwb
        go_upto_region 3 with (go_at_call 97;refine TBK.out.mono ?_;rintro e w4 ⟨rfl,rfl⟩)
        go_wp2_with (first
          | (go_at_call 153;refine T1.out.mono ?_;rintro e w5 ⟨a',cap',rfl,hn5,hf5⟩;have HN5:=Lib.hid hn5;have HF5:=Lib.hid hf5;have HO5:=Lib.hid (HC.out.mid HB.out hf5);clear hn5 hf5 c0 c1 c2 f0 f1 f2)
          | (at_builtin;refine wp_val HO5.out HN5.out.size HWB.out rfl _ _ rfl v rfl rfl ?_;intro av' cv' u6 ho hf _;have HFIN:=Lib.hid (HC.out.val HB.out HN5.out HF5.out ho hf HN.out);clear ho hf))
        go_roundw
        case rel => exact ⟨cap',cv',a',av',ms ++ [(z:Int)],vs ++ [v],t',by simp,by simp;omega,HFIN⟩
        case measure => simp;omega
    · have hv:vs.length=N:=by omega
      have hR:R=(ms,vs,t):=by rw [← HC.out.is,hv,Nat.sub_self];rfl
      subst hR
      have hci:¬ ((vs.length:Int) < (N:Int)):=by omega
      have hci2:decide ((vs.length:Int) < (N:Int))=false:=decide_eq_false hci
      go_wp2
      go_ret
      exact ⟨av,cv,rfl,HC.out.own,⟨a,cap,HC.out.num⟩,HC.out.frm⟩
end Go.Proofs.YtfbmlefhjoblbaaGreat
