/- Spaces and remarks left out: a claim is at most so large. -/
import Derived.Test.YtfbmlefhjoblbaaGreatFmGz
import Derived.Test.YtfbmlefhjoblbaaGreatRefBGz
import Derived.Test.YtfbmlefhjoblbaaGreatRStatGz
import Derived.Test.YtfbmlefhjoblbaaGreatFacesGz
namespace Go.Proofs.YtfbmlefhjoblbaaGreat
open Go.Conc Go.RowKit
set_option linter.unusedVariables false
set_option linter.unusedSimpArgs false
set_option maxRecDepth 100000 in
set_option maxHeartbeats 4000000 in
theorem refbound1 (i:Int) (b:Bool) (s:ByteArray) (h0:-9223372036854775808≤i) (h1:i≤9223372036854775807) (hs:s.size≤64) (w:World) :
    Calls Tryz.prog 69 #[.agg #[.int .i64 1,.int .i64 i,.bool b,.string s]] w fun e w' => e=.returned (.string (textB (u8 1 :: plainB ⟨1,i,b,s⟩)))∧Below w.heap.size w w':=by
  have T2:Hid (∀ u,Calls Tryz.prog 49 #[.agg #[.int .i64 1,.int .i64 i,.bool b,.string s]] u fun e w' => e=.returned (.bool false)∧Below u.heap.size u w'):=fun u => by
    have h:=rnull_any ⟨1,i,b,s⟩ u
    rw [decide_eq_false (by show ¬ kindV ⟨1,i,b,s⟩=0;unfold kindV;simp)] at h
    exact h
  have TP:=Lib.hid (fun u => refplain_any ⟨1,i,b,s⟩ ⟨by show (1:Int)≤1;omega,by show (1:Int)≤3;omega⟩ h0 h1 (by simp only;omega) u)
  have hjoin:textB (u8 1 :: plainB ⟨1,i,b,s⟩)=textB [u8 1] ++ textB (plainB ⟨1,i,b,s⟩):=by
    rw [← textB_append];rfl
  have hone:(textB [u8 1]).size=1:=textB_size _
  have hpz:(textB (plainB ⟨1,i,b,s⟩)).size≤1000:=by
    rw [textB_size]
    unfold plainB
    rw [if_pos rfl]
    have:=vp_le (zz i)
    show (vp (zz i)).length≤1000
    omega
  rw [hjoin]
  simp only at TP
  generalize textB (plainB ⟨1,i,b,s⟩)=xp at *
  have hl1:¬ 9223372036854775807 < (textB [u8 1]).size + xp.size:=by omega
  have HBY:Hid (∀ j (h:j < [u8 1].length),(#[Value.int .u8 1]:Array Value)[j]? = some (.int .u8 ([u8 1][j].toNat:Int))):=fun j h => by
    have:j=0:=by simp at h;omega
    subst this;rfl
  have hbx:Slot (w.alloc (.cells #[.int .i64 1,.int .i64 i,.bool b,.string s] 24)) w.heap.size ⟨1,i,b,s⟩:=Slot.new w ⟨1,i,b,s⟩
  have hb0:Below w.heap.size w (w.alloc (.cells #[.int .i64 1,.int .i64 i,.bool b,.string s] 24)):=(Below.refl _ _).alloc (Nat.le_refl _) _
  have HX:=Lib.hid hbx
  have HB:=Lib.hid hb0
  clear hbx hb0 hjoin hpz h0 h1 hs
  obtain ⟨xb,hxb⟩:∃ xb,xb=textB [u8 1]:=⟨_,rfl⟩
  have HXB:=Lib.hid hxb
  rw [← hxb] at hl1 ⊢
  clear hxb hone
  go_enter Tryz.func69,Tryz.ntmps69
  go_upto_region 1 with fail
  generalize w.alloc (.cells #[.int .i64 1,.int .i64 i,.bool b,.string s] 24)=u1 at *
  obtain ⟨⟨a0,a1,a2,a3⟩,_⟩:=(HX.out).at
  (try simp only at a0 a1 a2 a3)
  go_upto_region 3 with (go_at_call 49;refine (T2.out _).mono ?_;rintro e w1 ⟨rfl,hb⟩;replace HX:=Lib.hid (HX.out.below hb);replace HB:=Lib.hid (HB.out.trans (hb.mono HB.out.size));clear hb T2 a0 a1 a2 a3)
  obtain ⟨⟨a0,a1,a2,a3⟩,_⟩:=(HX.out).at
  (try simp only at a0 a1 a2 a3)
  obtain ⟨⟨b0,b1,b2,b3⟩,_⟩:=(HX.out.alloc (.cells #[.int .u8 1] 5)).at
  (try simp only at b0 b1 b2 b3)
  have HAL:Hid (Below w1.heap.size w1 (w1.alloc (.cells #[.int .u8 1] 5))):=(Below.refl _ _).alloc (Nat.le_refl _) _
  have hnb:(w1.alloc (.cells #[.int .u8 1] 5)).heap[w1.heap.size]? = some (.cells #[.int .u8 1] 5 (0,0)):=heap_alloc_new w1 _
  have HNB:=Lib.hid hnb
  have hcv1:=arr_back (w1.alloc (.cells #[.int .u8 1] 5)).drew w1.heap.size [u8 1] _ _ hnb HBY.out 1 1 rfl
  rw [← HXB.out] at hcv1
  have HLT:=Lib.hid HX.out.lt
  have hwr:IntKind.u8.wrap 1=1:=by rfl
  clear hnb
  go_region_law (first
    | (go_simp;go_at_call 85;refine (TP.out (w1.alloc (.cells #[.int .u8 1] 5)).drew).mono ?_;rintro e w6 ⟨rfl,hb6⟩;have HW:=Lib.hid (HB.out.trans ((HAL.out.drew.trans (hb6.mono HAL.out.size)).mono HB.out.size));have hcv6:=arr_back w6 w1.heap.size [u8 1] _ _ ((hb6.block w1.heap.size (by simp)).trans HNB.out) HBY.out 1 1 rfl;rw [← HXB.out] at hcv6;clear hb6)
    | (go_simp;go_at_call 85;refine (TP.out w1.drew).mono ?_;rintro e w6 ⟨rfl,hb6⟩;have HW0:=Lib.hid (show Below w1.heap.size w1 w6 from ⟨hb6.os,hb6.tape,hb6.output,hb6.size,hb6.block⟩);have HW:=Lib.hid (HB.out.trans ((HW0.out.alloc HW0.out.size (.cells #[.int .u8 1] 5)).mono HB.out.size));have hcv6:=arr_back (w6.alloc (.cells #[.int .u8 1] 5)) w6.heap.size [u8 1] _ _ (heap_alloc_new w6 _) HBY.out 1 1 rfl;rw [← HXB.out] at hcv6;obtain ⟨⟨d0,d1,d2,d3⟩,_⟩:=((HX.out.below HW0.out).alloc (.cells #[.int .u8 1] 5)).at;(try simp only at d0 d1 d2 d3);obtain ⟨⟨e0,e1,e2,e3⟩,_⟩:=(HX.out.below HW0.out).at;(try simp only at e0 e1 e2 e3);clear hb6))
  all_goals (
    go_wp2
    go_ret
    exact ⟨rfl,HW.out⟩)
set_option maxRecDepth 100000 in
set_option maxHeartbeats 4000000 in
theorem refbound2 (i:Int) (b:Bool) (s:ByteArray) (h0:-9223372036854775808≤i) (h1:i≤9223372036854775807) (hs:s.size≤64) (w:World) :
    Calls Tryz.prog 69 #[.agg #[.int .i64 2,.int .i64 i,.bool b,.string s]] w fun e w' => e=.returned (.string (textB (u8 2 :: plainB ⟨2,i,b,s⟩)))∧Below w.heap.size w w':=by
  have T2:Hid (∀ u,Calls Tryz.prog 49 #[.agg #[.int .i64 2,.int .i64 i,.bool b,.string s]] u fun e w' => e=.returned (.bool false)∧Below u.heap.size u w'):=fun u => by
    have h:=rnull_any ⟨2,i,b,s⟩ u
    rw [decide_eq_false (by show ¬ kindV ⟨2,i,b,s⟩=0;unfold kindV;simp)] at h
    exact h
  have TP:=Lib.hid (fun u => refplain_any ⟨2,i,b,s⟩ ⟨by show (1:Int)≤2;omega,by show (2:Int)≤3;omega⟩ h0 h1 (by simp only;omega) u)
  have hjoin:textB (u8 2 :: plainB ⟨2,i,b,s⟩)=textB [u8 2] ++ textB (plainB ⟨2,i,b,s⟩):=by
    rw [← textB_append];rfl
  have hone:(textB [u8 2]).size=1:=textB_size _
  have hpz:(textB (plainB ⟨2,i,b,s⟩)).size≤1000:=by
    rw [textB_size]
    unfold plainB
    rw [if_neg (by show ¬ (2:Int)=1;omega),if_pos rfl]
    simp
  rw [hjoin]
  simp only at TP
  generalize textB (plainB ⟨2,i,b,s⟩)=xp at *
  have hl1:¬ 9223372036854775807 < (textB [u8 2]).size + xp.size:=by omega
  have HBY:Hid (∀ j (h:j < [u8 2].length),(#[Value.int .u8 2]:Array Value)[j]? = some (.int .u8 ([u8 2][j].toNat:Int))):=fun j h => by
    have:j=0:=by simp at h;omega
    subst this;rfl
  have hbx:Slot (w.alloc (.cells #[.int .i64 2,.int .i64 i,.bool b,.string s] 24)) w.heap.size ⟨2,i,b,s⟩:=Slot.new w ⟨2,i,b,s⟩
  have hb0:Below w.heap.size w (w.alloc (.cells #[.int .i64 2,.int .i64 i,.bool b,.string s] 24)):=(Below.refl _ _).alloc (Nat.le_refl _) _
  have HX:=Lib.hid hbx
  have HB:=Lib.hid hb0
  clear hbx hb0 hjoin hpz h0 h1 hs
  obtain ⟨xb,hxb⟩:∃ xb,xb=textB [u8 2]:=⟨_,rfl⟩
  have HXB:=Lib.hid hxb
  rw [← hxb] at hl1 ⊢
  clear hxb hone
  go_enter Tryz.func69,Tryz.ntmps69
  go_upto_region 1 with fail
  generalize w.alloc (.cells #[.int .i64 2,.int .i64 i,.bool b,.string s] 24)=u1 at *
  obtain ⟨⟨a0,a1,a2,a3⟩,_⟩:=(HX.out).at
  (try simp only at a0 a1 a2 a3)
  go_upto_region 3 with (go_at_call 49;refine (T2.out _).mono ?_;rintro e w1 ⟨rfl,hb⟩;replace HX:=Lib.hid (HX.out.below hb);replace HB:=Lib.hid (HB.out.trans (hb.mono HB.out.size));clear hb T2 a0 a1 a2 a3)
  obtain ⟨⟨a0,a1,a2,a3⟩,_⟩:=(HX.out).at
  (try simp only at a0 a1 a2 a3)
  obtain ⟨⟨b0,b1,b2,b3⟩,_⟩:=(HX.out.alloc (.cells #[.int .u8 2] 5)).at
  (try simp only at b0 b1 b2 b3)
  have HAL:Hid (Below w1.heap.size w1 (w1.alloc (.cells #[.int .u8 2] 5))):=(Below.refl _ _).alloc (Nat.le_refl _) _
  have hnb:(w1.alloc (.cells #[.int .u8 2] 5)).heap[w1.heap.size]? = some (.cells #[.int .u8 2] 5 (0,0)):=heap_alloc_new w1 _
  have HNB:=Lib.hid hnb
  have hcv1:=arr_back (w1.alloc (.cells #[.int .u8 2] 5)).drew w1.heap.size [u8 2] _ _ hnb HBY.out 1 1 rfl
  rw [← HXB.out] at hcv1
  have HLT:=Lib.hid HX.out.lt
  have hwr:IntKind.u8.wrap 2=2:=by rfl
  clear hnb
  go_region_law (first
    | (go_simp;go_at_call 85;refine (TP.out (w1.alloc (.cells #[.int .u8 2] 5)).drew).mono ?_;rintro e w6 ⟨rfl,hb6⟩;have HW:=Lib.hid (HB.out.trans ((HAL.out.drew.trans (hb6.mono HAL.out.size)).mono HB.out.size));have hcv6:=arr_back w6 w1.heap.size [u8 2] _ _ ((hb6.block w1.heap.size (by simp)).trans HNB.out) HBY.out 1 1 rfl;rw [← HXB.out] at hcv6;clear hb6)
    | (go_simp;go_at_call 85;refine (TP.out w1.drew).mono ?_;rintro e w6 ⟨rfl,hb6⟩;have HW0:=Lib.hid (show Below w1.heap.size w1 w6 from ⟨hb6.os,hb6.tape,hb6.output,hb6.size,hb6.block⟩);have HW:=Lib.hid (HB.out.trans ((HW0.out.alloc HW0.out.size (.cells #[.int .u8 2] 5)).mono HB.out.size));have hcv6:=arr_back (w6.alloc (.cells #[.int .u8 2] 5)) w6.heap.size [u8 2] _ _ (heap_alloc_new w6 _) HBY.out 1 1 rfl;rw [← HXB.out] at hcv6;obtain ⟨⟨d0,d1,d2,d3⟩,_⟩:=((HX.out.below HW0.out).alloc (.cells #[.int .u8 2] 5)).at;(try simp only at d0 d1 d2 d3);obtain ⟨⟨e0,e1,e2,e3⟩,_⟩:=(HX.out.below HW0.out).at;(try simp only at e0 e1 e2 e3);clear hb6))
  all_goals (
    go_wp2
    go_ret
    exact ⟨rfl,HW.out⟩)
set_option maxRecDepth 100000 in
set_option maxHeartbeats 4000000 in
theorem refbound3 (i:Int) (b:Bool) (s:ByteArray) (h0:-9223372036854775808≤i) (h1:i≤9223372036854775807) (hs:s.size≤64) (w:World) :
    Calls Tryz.prog 69 #[.agg #[.int .i64 3,.int .i64 i,.bool b,.string s]] w fun e w' => e=.returned (.string (textB (u8 3 :: plainB ⟨3,i,b,s⟩)))∧Below w.heap.size w w':=by
  have T2:Hid (∀ u,Calls Tryz.prog 49 #[.agg #[.int .i64 3,.int .i64 i,.bool b,.string s]] u fun e w' => e=.returned (.bool false)∧Below u.heap.size u w'):=fun u => by
    have h:=rnull_any ⟨3,i,b,s⟩ u
    rw [decide_eq_false (by show ¬ kindV ⟨3,i,b,s⟩=0;unfold kindV;simp)] at h
    exact h
  have TP:=Lib.hid (fun u => refplain_any ⟨3,i,b,s⟩ ⟨by show (1:Int)≤3;omega,by show (3:Int)≤3;omega⟩ h0 h1 (by simp only;omega) u)
  have hjoin:textB (u8 3 :: plainB ⟨3,i,b,s⟩)=textB [u8 3] ++ textB (plainB ⟨3,i,b,s⟩):=by
    rw [← textB_append];rfl
  have hone:(textB [u8 3]).size=1:=textB_size _
  have hpz:(textB (plainB ⟨3,i,b,s⟩)).size≤1000:=by
    rw [textB_size]
    unfold plainB
    rw [if_neg (by show ¬ (3:Int)=1;omega),if_neg (by show ¬ (3:Int)=2;omega),List.length_append]
    have:=vp_le s.size
    have e:s.data.toList.length=s.size:=by simp
    simp only
    omega
  rw [hjoin]
  simp only at TP
  generalize textB (plainB ⟨3,i,b,s⟩)=xp at *
  have hl1:¬ 9223372036854775807 < (textB [u8 3]).size + xp.size:=by omega
  have HBY:Hid (∀ j (h:j < [u8 3].length),(#[Value.int .u8 3]:Array Value)[j]? = some (.int .u8 ([u8 3][j].toNat:Int))):=fun j h => by
    have:j=0:=by simp at h;omega
    subst this;rfl
  have hbx:Slot (w.alloc (.cells #[.int .i64 3,.int .i64 i,.bool b,.string s] 24)) w.heap.size ⟨3,i,b,s⟩:=Slot.new w ⟨3,i,b,s⟩
  have hb0:Below w.heap.size w (w.alloc (.cells #[.int .i64 3,.int .i64 i,.bool b,.string s] 24)):=(Below.refl _ _).alloc (Nat.le_refl _) _
  have HX:=Lib.hid hbx
  have HB:=Lib.hid hb0
  clear hbx hb0 hjoin hpz h0 h1 hs
  obtain ⟨xb,hxb⟩:∃ xb,xb=textB [u8 3]:=⟨_,rfl⟩
  have HXB:=Lib.hid hxb
  rw [← hxb] at hl1 ⊢
  clear hxb hone
  go_enter Tryz.func69,Tryz.ntmps69
  go_upto_region 1 with fail
  generalize w.alloc (.cells #[.int .i64 3,.int .i64 i,.bool b,.string s] 24)=u1 at *
  obtain ⟨⟨a0,a1,a2,a3⟩,_⟩:=(HX.out).at
  (try simp only at a0 a1 a2 a3)
  go_upto_region 3 with (go_at_call 49;refine (T2.out _).mono ?_;rintro e w1 ⟨rfl,hb⟩;replace HX:=Lib.hid (HX.out.below hb);replace HB:=Lib.hid (HB.out.trans (hb.mono HB.out.size));clear hb T2 a0 a1 a2 a3)
  obtain ⟨⟨a0,a1,a2,a3⟩,_⟩:=(HX.out).at
  (try simp only at a0 a1 a2 a3)
  obtain ⟨⟨b0,b1,b2,b3⟩,_⟩:=(HX.out.alloc (.cells #[.int .u8 3] 5)).at
  (try simp only at b0 b1 b2 b3)
  have HAL:Hid (Below w1.heap.size w1 (w1.alloc (.cells #[.int .u8 3] 5))):=(Below.refl _ _).alloc (Nat.le_refl _) _
  have hnb:(w1.alloc (.cells #[.int .u8 3] 5)).heap[w1.heap.size]? = some (.cells #[.int .u8 3] 5 (0,0)):=heap_alloc_new w1 _
  have HNB:=Lib.hid hnb
  have hcv1:=arr_back (w1.alloc (.cells #[.int .u8 3] 5)).drew w1.heap.size [u8 3] _ _ hnb HBY.out 1 1 rfl
  rw [← HXB.out] at hcv1
  have HLT:=Lib.hid HX.out.lt
  have hwr:IntKind.u8.wrap 3=3:=by rfl
  clear hnb
  go_region_law (first
    | (go_simp;go_at_call 85;refine (TP.out (w1.alloc (.cells #[.int .u8 3] 5)).drew).mono ?_;rintro e w6 ⟨rfl,hb6⟩;have HW:=Lib.hid (HB.out.trans ((HAL.out.drew.trans (hb6.mono HAL.out.size)).mono HB.out.size));have hcv6:=arr_back w6 w1.heap.size [u8 3] _ _ ((hb6.block w1.heap.size (by simp)).trans HNB.out) HBY.out 1 1 rfl;rw [← HXB.out] at hcv6;clear hb6)
    | (go_simp;go_at_call 85;refine (TP.out w1.drew).mono ?_;rintro e w6 ⟨rfl,hb6⟩;have HW0:=Lib.hid (show Below w1.heap.size w1 w6 from ⟨hb6.os,hb6.tape,hb6.output,hb6.size,hb6.block⟩);have HW:=Lib.hid (HB.out.trans ((HW0.out.alloc HW0.out.size (.cells #[.int .u8 3] 5)).mono HB.out.size));have hcv6:=arr_back (w6.alloc (.cells #[.int .u8 3] 5)) w6.heap.size [u8 3] _ _ (heap_alloc_new w6 _) HBY.out 1 1 rfl;rw [← HXB.out] at hcv6;obtain ⟨⟨d0,d1,d2,d3⟩,_⟩:=((HX.out.below HW0.out).alloc (.cells #[.int .u8 3] 5)).at;(try simp only at d0 d1 d2 d3);obtain ⟨⟨e0,e1,e2,e3⟩,_⟩:=(HX.out.below HW0.out).at;(try simp only at e0 e1 e2 e3);clear hb6))
  all_goals (
    go_wp2
    go_ret
    exact ⟨rfl,HW.out⟩)
set_option maxRecDepth 100000 in
theorem refbound_any (v:V) (h0:-9223372036854775808≤v.i) (h1:v.i≤9223372036854775807) (hs:v.s.size≤64) (w:World) :
    Calls Tryz.prog 69 #[.agg #[.int .i64 v.k,.int .i64 v.i,.bool v.b,.string v.s]] w fun e w' => e=.returned (.string (textB (boundB v)))∧Below w.heap.size w w':=by
  by_cases c:kindV v=0
  · have T2:Hid (∀ u,Calls Tryz.prog 49 #[.agg #[.int .i64 v.k,.int .i64 v.i,.bool v.b,.string v.s]] u fun e w' => e=.returned (.bool true)∧Below u.heap.size u w'):=fun u => by
      have h:=rnull_any v u
      rw [decide_eq_true c] at h
      exact h
    have hB:textB (boundB v)=⟨#[0]⟩:=by unfold boundB;rw [if_pos c];rfl
    rw [hB]
    have HB:=Lib.hid (show Below w.heap.size w (w.alloc (.cells #[.int .i64 v.k,.int .i64 v.i,.bool v.b,.string v.s] 24)) from (Below.refl _ _).alloc (Nat.le_refl _) _)
    clear hB c h0 h1 hs
    go_enter Tryz.func69,Tryz.ntmps69
    go_wp2_with (go_at_call 49;refine (T2.out _).mono ?_;rintro e w1 ⟨rfl,hb⟩;replace HB:=Lib.hid (HB.out.trans (hb.mono HB.out.size));clear hb)
    go_ret
    exact ⟨rfl,HB.out⟩
  · have hk:=kindV_range v
    have e:boundB v=u8 v.k.toNat :: plainB v:=by unfold boundB;rw [if_neg c]
    rw [e]
    obtain ⟨k,i,b,s⟩:=v
    rcases (show kindV ⟨k,i,b,s⟩=1∨kindV ⟨k,i,b,s⟩=2∨kindV ⟨k,i,b,s⟩=3 by omega) with h | h | h
    · obtain rfl:k=1:=kind_one.1 h
      exact refbound1 i b s h0 h1 hs w
    · obtain rfl:k=2:=kind_two.1 h
      exact refbound2 i b s h0 h1 hs w
    · obtain rfl:k=3:=kind_three.1 h
      exact refbound3 i b s h0 h1 hs w
end Go.Proofs.YtfbmlefhjoblbaaGreat
