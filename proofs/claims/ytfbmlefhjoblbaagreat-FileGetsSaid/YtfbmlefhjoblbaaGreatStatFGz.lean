/- Spaces and remarks left out: a claim is at most so large. -/
import Derived.Test.YtfbmlefhjoblbaaGreatStatLGz
import Derived.Test.YtfbmlefhjoblbaaGreatQeGz
namespace Go.Proofs.YtfbmlefhjoblbaaGreat
open Go.Conc Go.RowKit
set_option linter.unusedVariables false
set_option linter.unusedSimpArgs false
theorem null_dec (v:V):decide (plainV v=zeroV)=decide (kindV v=0):=decide_eq_decide.2 (plain_null_iff v)
set_option maxRecDepth 100000 in
theorem unull_any (v:V) (w:World):Calls Tryz.prog 111 #[.agg #[.int .i64 v.k,.int .i64 v.i,.bool v.b,.string v.s]] w fun e w' => e=.returned (.bool (decide (kindV v=0)))∧Below w.heap.size w w':=by
  have T:=Lib.hid (fun u => plain_any v u)
  rw [← null_dec v]
  generalize plainV v=p at *
  have hq:∀ w,(binOp .eql 24 (.agg #[.int .i64 p.k,.int .i64 p.i,.bool p.b,.string p.s]) (.agg #[.int .i64 0,.int .i64 0,.bool false,.string ⟨#[]⟩])).run Tryz.prog w=.ok (.bool (decide (p=zeroV))) w:=run_eql_val p zeroV
  have HB0:=Lib.hid (show Below w.heap.size w (w.alloc (.cells #[.int .i64 v.k,.int .i64 v.i,.bool v.b,.string v.s] 24)) from (Below.refl _ _).alloc (Nat.le_refl _) _)
  go_enter Tryz.func111,Tryz.ntmps111
  go_wp2_with (go_at_call 54;refine (T.out _).mono ?_;rintro e w1 ⟨rfl,hb⟩;have HB:=Lib.hid (HB0.out.trans (hb.mono HB0.out.size));clear hb)
  go_ret
  exact ⟨rfl,HB.out⟩
def singleS (v:V):S:=if kindV v=0 then ⟨0,1,zeroV,zeroV⟩ else ⟨0,0,v,v⟩
set_option maxRecDepth 100000 in
theorem single_any (v:V) (w:World):Calls Tryz.prog 138 #[.agg #[.int .i64 v.k,.int .i64 v.i,.bool v.b,.string v.s]] w fun e w' => e=.returned (.agg #[.int .i64 (singleS v).c,.int .i64 (singleS v).n,.int .i64 (singleS v).lo.k,.int .i64 (singleS v).lo.i,.bool (singleS v).lo.b,.string (singleS v).lo.s,.int .i64 (singleS v).hi.k,.int .i64 (singleS v).hi.i,.bool (singleS v).hi.b,.string (singleS v).hi.s])∧Below w.heap.size w w':=by
  have T:=Lib.hid (fun u => unull_any v u)
  have hss:singleS v=if kindV v=0 then ⟨0,1,zeroV,zeroV⟩ else ⟨0,0,v,v⟩:=rfl
  generalize singleS v=p at *
  obtain ⟨u,hu⟩:∃ u,u=((w.alloc (.cells #[.int .i64 v.k,.int .i64 v.i,.bool v.b,.string v.s] 24)).alloc (.cells #[.int .i64 0,.int .i64 0,.int .i64 0,.int .i64 0,.bool false,.string ⟨#[]⟩,.int .i64 0,.int .i64 0,.bool false,.string ⟨#[]⟩] 77)):=⟨_,rfl⟩
  have hs0:Slot u w.heap.size v:=by rw [hu];exact (Slot.new w v).alloc _
  have hs1:SSlot u (w.heap.size + 1) zeroS:=by
    have:=SSlot.new (w.alloc (.cells #[.int .i64 v.k,.int .i64 v.i,.bool v.b,.string v.s] 24)) zeroS
    rw [show (w.alloc (.cells #[.int .i64 v.k,.int .i64 v.i,.bool v.b,.string v.s] 24)).heap.size=w.heap.size + 1 by simp] at this
    rw [hu];exact this
  have hb0:Below w.heap.size w u:=by rw [hu];exact (((Below.refl _ _).alloc (Nat.le_refl _) _).alloc (by simp) _)
  have HS0:=Lib.hid hs0
  have HS1:=Lib.hid hs1
  have HB0:=Lib.hid hb0
  clear hs1 hb0 hs0
  by_cases c:kindV v=0
  · rw [if_pos c] at hss
    subst hss
    simp only [decide_eq_true c] at T
    clear c
    go_enter Tryz.func138,Tryz.ntmps138
    go_upto_region 1 with fail
    rw [← hu]
    clear hu
    obtain ⟨⟨a0,a1,a2,a3⟩,_⟩:=HS0.out.at
    go_wp2_with (go_at_call 111;refine (T.out _).mono ?_;rintro e w1 ⟨rfl,hb1⟩;have hs1:=HS1.out.below hb1;obtain ⟨⟨z0,z1,z2,z3,z4,z5,z6,z7,z8,z9⟩,_⟩:=hs1.at;obtain ⟨y0,y1,y2,y3,y4,y5,y6,y7,y8,y9⟩:=hs1.froz;have HZ1:=Lib.hid hs1;have HB1:=Lib.hid (HB0.out.trans (hb1.mono HB0.out.size));clear hb1 hs1)
    change bodyPost _ _ _ _ _ (putS w1 (w.heap.size + 1) ⟨0,1,zeroV,zeroV⟩)
    have hp:=HZ1.out.put ⟨0,1,zeroV,zeroV⟩
    have hb:=putS_below (s:=⟨0,1,zeroV,zeroV⟩) HB1.out (Nat.le_succ w.heap.size)
    generalize putS w1 (w.heap.size + 1) ⟨0,1,zeroV,zeroV⟩=w4 at *
    clear z0 z1 z2 z3 z4 z5 z6 z7 z8 z9 y0 y1 y2 y3 y4 y5 y6 y7 y8 y9
    obtain ⟨⟨z0,z1,z2,z3,z4,z5,z6,z7,z8,z9⟩,_⟩:=hp.at
    refine bodyPost_ret (v:=.agg #[.int .i64 ({ c:=0,n:=1,lo:=zeroV,hi:=zeroV }:S).c,.int .i64 ({ c:=0,n:=1,lo:=zeroV,hi:=zeroV }:S).n,.int .i64 ({ c:=0,n:=1,lo:=zeroV,hi:=zeroV }:S).lo.k,.int .i64 ({ c:=0,n:=1,lo:=zeroV,hi:=zeroV }:S).lo.i,.bool ({ c:=0,n:=1,lo:=zeroV,hi:=zeroV }:S).lo.b,.string ({ c:=0,n:=1,lo:=zeroV,hi:=zeroV }:S).lo.s,.int .i64 ({ c:=0,n:=1,lo:=zeroV,hi:=zeroV }:S).hi.k,.int .i64 ({ c:=0,n:=1,lo:=zeroV,hi:=zeroV }:S).hi.i,.bool ({ c:=0,n:=1,lo:=zeroV,hi:=zeroV }:S).hi.b,.string ({ c:=0,n:=1,lo:=zeroV,hi:=zeroV }:S).hi.s]) (by simp [results,Tryz.results138,go_sem,z0,z1,z2,z3,z4,z5,z6,z7,z8,z9]) rfl ?_
    exact ⟨rfl,hb⟩
  · rw [if_neg c] at hss
    subst hss
    simp only [decide_eq_false c] at T
    clear c
    go_enter Tryz.func138,Tryz.ntmps138
    go_upto_region 1 with fail
    rw [← hu]
    clear hu
    obtain ⟨⟨a0,a1,a2,a3⟩,_⟩:=HS0.out.at
    go_wp2_with (go_at_call 111;refine (T.out _).mono ?_;rintro e w1 ⟨rfl,hb1⟩;have hs1:=HS1.out.below hb1;obtain ⟨⟨z0,z1,z2,z3,z4,z5,z6,z7,z8,z9⟩,_⟩:=hs1.at;obtain ⟨y0,y1,y2,y3,y4,y5,y6,y7,y8,y9⟩:=hs1.froz;obtain ⟨⟨c0,c1,c2,c3⟩,_⟩:=(HS0.out.below hb1).at;have HZ1:=Lib.hid hs1;have HB1:=Lib.hid (HB0.out.trans (hb1.mono HB0.out.size));clear hb1 hs1)
    change bodyPost _ _ _ _ _ (putS w1 (w.heap.size + 1) ⟨0,0,v,v⟩)
    have hp:=HZ1.out.put ⟨0,0,v,v⟩
    have hb:=putS_below (s:=⟨0,0,v,v⟩) HB1.out (Nat.le_succ w.heap.size)
    generalize putS w1 (w.heap.size + 1) ⟨0,0,v,v⟩=w4 at *
    clear z0 z1 z2 z3 z4 z5 z6 z7 z8 z9 y0 y1 y2 y3 y4 y5 y6 y7 y8 y9
    obtain ⟨⟨z0,z1,z2,z3,z4,z5,z6,z7,z8,z9⟩,_⟩:=hp.at
    refine bodyPost_ret (v:=.agg #[.int .i64 ({ c:=0,n:=0,lo:=v,hi:=v }:S).c,.int .i64 ({ c:=0,n:=0,lo:=v,hi:=v }:S).n,.int .i64 ({ c:=0,n:=0,lo:=v,hi:=v }:S).lo.k,.int .i64 ({ c:=0,n:=0,lo:=v,hi:=v }:S).lo.i,.bool ({ c:=0,n:=0,lo:=v,hi:=v }:S).lo.b,.string ({ c:=0,n:=0,lo:=v,hi:=v }:S).lo.s,.int .i64 ({ c:=0,n:=0,lo:=v,hi:=v }:S).hi.k,.int .i64 ({ c:=0,n:=0,lo:=v,hi:=v }:S).hi.i,.bool ({ c:=0,n:=0,lo:=v,hi:=v }:S).hi.b,.string ({ c:=0,n:=0,lo:=v,hi:=v }:S).hi.s]) (by simp [results,Tryz.results138,go_sem,z0,z1,z2,z3,z4,z5,z6,z7,z8,z9]) rfl ?_
    exact ⟨rfl,hb⟩
set_option maxRecDepth 100000 in
theorem statmore_any (a b:V) (w:World):Calls Tryz.prog 162 #[.agg #[.int .i64 a.k,.int .i64 a.i,.bool a.b,.string a.s],.agg #[.int .i64 b.k,.int .i64 b.i,.bool b.b,.string b.s]] w fun e w' => e=.returned (.agg #[.int .i64 (moreA a b).k,.int .i64 (moreA a b).i,.bool (moreA a b).b,.string (moreA a b).s])∧Below w.heap.size w w':=by
  have T3:=Lib.hid (fun u => vecless_any a b u)
  obtain ⟨u,hu⟩:∃ u,u=(((w.alloc (.cells #[.int .i64 a.k,.int .i64 a.i,.bool a.b,.string a.s] 24)).alloc (.cells #[.int .i64 b.k,.int .i64 b.i,.bool b.b,.string b.s] 24)).alloc (.cells #[.int .i64 0,.int .i64 0,.bool false,.string ⟨#[]⟩] 24)):=⟨_,rfl⟩
  have hsa:Slot u w.heap.size a:=by rw [hu];exact ((Slot.new w a).alloc _).alloc _
  have hsb:Slot u (w.heap.size + 1) b:=by
    have:=(Slot.new (w.alloc (.cells #[.int .i64 a.k,.int .i64 a.i,.bool a.b,.string a.s] 24)) b).alloc (.cells #[.int .i64 0,.int .i64 0,.bool false,.string ⟨#[]⟩] 24)
    rw [show (w.alloc (.cells #[.int .i64 a.k,.int .i64 a.i,.bool a.b,.string a.s] 24)).heap.size=w.heap.size + 1 by simp] at this
    rw [hu];exact this
  have hsz:Slot u (w.heap.size + 2) zeroV:=by
    have:=Slot.new ((w.alloc (.cells #[.int .i64 a.k,.int .i64 a.i,.bool a.b,.string a.s] 24)).alloc (.cells #[.int .i64 b.k,.int .i64 b.i,.bool b.b,.string b.s] 24)) zeroV
    rw [show ((w.alloc (.cells #[.int .i64 a.k,.int .i64 a.i,.bool a.b,.string a.s] 24)).alloc (.cells #[.int .i64 b.k,.int .i64 b.i,.bool b.b,.string b.s] 24)).heap.size=w.heap.size + 2 by simp] at this
    rw [hu];exact this
  have hb0:Below w.heap.size w u:=by rw [hu];exact ((((Below.refl _ _).alloc (Nat.le_refl _) _).alloc (by simp) _).alloc (by simp;omega) _)
  have HSA:=Lib.hid hsa
  have HSB:=Lib.hid hsb
  have HSZ:=Lib.hid hsz
  have HB0:=Lib.hid hb0
  clear hsa hsb hsz hb0
  unfold moreA
  by_cases c:ordV a b < 0
  · rw [if_pos c]
    simp only [decide_eq_true c] at T3
    clear c
    go_enter Tryz.func162,Tryz.ntmps162
    go_upto_region 1 with fail
    rw [← hu]
    clear hu
    obtain ⟨⟨a0,a1,a2,a3⟩,_⟩:=HSA.out.at
    obtain ⟨⟨b0,b1,b2,b3⟩,_⟩:=HSB.out.at
    go_wp2_with (go_at_call 19;refine (T3.out _).mono ?_;rintro e wf ⟨rfl,hb1⟩;clear T3;replace HSA:=Lib.hid (HSA.out.below hb1);replace HSB:=Lib.hid (HSB.out.below hb1);replace HSZ:=Lib.hid (HSZ.out.below hb1);replace HB0:=Lib.hid (HB0.out.trans (hb1.mono HB0.out.size));clear hb1;obtain ⟨⟨a0,a1,a2,a3⟩,_⟩:=HSA.out.at;obtain ⟨⟨b0,b1,b2,b3⟩,_⟩:=HSB.out.at;obtain ⟨⟨z0,z1,z2,z3⟩,y0,y1,y2,y3⟩:=HSZ.out.at)
    obtain ⟨w4,hw4,h4,hb4⟩:=slot_ret HSZ.out HB0.out (Nat.le_add_right w.heap.size 2) b
    obtain ⟨⟨x0,x1,x2,x3⟩,_⟩:=h4.at
    try simp only at hw4 x0 x1 x2 x3
    change bodyPost _ _ _ _ _ ((((wf.setCell ⟨w.heap.size + 2,0,none⟩ (.int .i64 b.k)).setCell ⟨w.heap.size + 2,1,none⟩ (.int .i64 b.i)).setCell ⟨w.heap.size + 2,2,none⟩ (.bool b.b)).setCell ⟨w.heap.size + 2,3,none⟩ (.string b.s))
    rw [← hw4]
    clear hw4 h4
    refine bodyPost_ret (v:=.agg #[.int .i64 b.k,.int .i64 b.i,.bool b.b,.string b.s]) (by simp [results,Tryz.results162,go_sem,x0,x1,x2,x3]) rfl ?_
    exact ⟨rfl,hb4⟩
  · rw [if_neg c]
    simp only [decide_eq_false c] at T3
    clear c
    go_enter Tryz.func162,Tryz.ntmps162
    go_upto_region 1 with fail
    rw [← hu]
    clear hu
    obtain ⟨⟨a0,a1,a2,a3⟩,_⟩:=HSA.out.at
    obtain ⟨⟨b0,b1,b2,b3⟩,_⟩:=HSB.out.at
    go_wp2_with (go_at_call 19;refine (T3.out _).mono ?_;rintro e wf ⟨rfl,hb1⟩;clear T3;replace HSA:=Lib.hid (HSA.out.below hb1);replace HSB:=Lib.hid (HSB.out.below hb1);replace HSZ:=Lib.hid (HSZ.out.below hb1);replace HB0:=Lib.hid (HB0.out.trans (hb1.mono HB0.out.size));clear hb1;obtain ⟨⟨a0,a1,a2,a3⟩,_⟩:=HSA.out.at;obtain ⟨⟨b0,b1,b2,b3⟩,_⟩:=HSB.out.at;obtain ⟨⟨z0,z1,z2,z3⟩,y0,y1,y2,y3⟩:=HSZ.out.at)
    obtain ⟨w4,hw4,h4,hb4⟩:=slot_ret HSZ.out HB0.out (Nat.le_add_right w.heap.size 2) a
    obtain ⟨⟨x0,x1,x2,x3⟩,_⟩:=h4.at
    try simp only at hw4 x0 x1 x2 x3
    change bodyPost _ _ _ _ _ ((((wf.setCell ⟨w.heap.size + 2,0,none⟩ (.int .i64 a.k)).setCell ⟨w.heap.size + 2,1,none⟩ (.int .i64 a.i)).setCell ⟨w.heap.size + 2,2,none⟩ (.bool a.b)).setCell ⟨w.heap.size + 2,3,none⟩ (.string a.s))
    rw [← hw4]
    clear hw4 h4
    refine bodyPost_ret (v:=.agg #[.int .i64 a.k,.int .i64 a.i,.bool a.b,.string a.s]) (by simp [results,Tryz.results162,go_sem,x0,x1,x2,x3]) rfl ?_
    exact ⟨rfl,hb4⟩
set_option maxRecDepth 100000 in
theorem statless_any (a b:V) (w:World):Calls Tryz.prog 161 #[.agg #[.int .i64 a.k,.int .i64 a.i,.bool a.b,.string a.s],.agg #[.int .i64 b.k,.int .i64 b.i,.bool b.b,.string b.s]] w fun e w' => e=.returned (.agg #[.int .i64 (lessA a b).k,.int .i64 (lessA a b).i,.bool (lessA a b).b,.string (lessA a b).s])∧Below w.heap.size w w':=by
  have T1:=Lib.hid (fun u => unull_any a u)
  have T2:=Lib.hid (fun u => unull_any b u)
  have T3:=Lib.hid (fun u => vecless_any b a u)
  obtain ⟨u,hu⟩:∃ u,u=(((w.alloc (.cells #[.int .i64 a.k,.int .i64 a.i,.bool a.b,.string a.s] 24)).alloc (.cells #[.int .i64 b.k,.int .i64 b.i,.bool b.b,.string b.s] 24)).alloc (.cells #[.int .i64 0,.int .i64 0,.bool false,.string ⟨#[]⟩] 24)):=⟨_,rfl⟩
  have hsa:Slot u w.heap.size a:=by rw [hu];exact ((Slot.new w a).alloc _).alloc _
  have hsb:Slot u (w.heap.size + 1) b:=by
    have:=(Slot.new (w.alloc (.cells #[.int .i64 a.k,.int .i64 a.i,.bool a.b,.string a.s] 24)) b).alloc (.cells #[.int .i64 0,.int .i64 0,.bool false,.string ⟨#[]⟩] 24)
    rw [show (w.alloc (.cells #[.int .i64 a.k,.int .i64 a.i,.bool a.b,.string a.s] 24)).heap.size=w.heap.size + 1 by simp] at this
    rw [hu];exact this
  have hsz:Slot u (w.heap.size + 2) zeroV:=by
    have:=Slot.new ((w.alloc (.cells #[.int .i64 a.k,.int .i64 a.i,.bool a.b,.string a.s] 24)).alloc (.cells #[.int .i64 b.k,.int .i64 b.i,.bool b.b,.string b.s] 24)) zeroV
    rw [show ((w.alloc (.cells #[.int .i64 a.k,.int .i64 a.i,.bool a.b,.string a.s] 24)).alloc (.cells #[.int .i64 b.k,.int .i64 b.i,.bool b.b,.string b.s] 24)).heap.size=w.heap.size + 2 by simp] at this
    rw [hu];exact this
  have hb0:Below w.heap.size w u:=by rw [hu];exact ((((Below.refl _ _).alloc (Nat.le_refl _) _).alloc (by simp) _).alloc (by simp;omega) _)
  have HSA:=Lib.hid hsa
  have HSB:=Lib.hid hsb
  have HSZ:=Lib.hid hsz
  have HB0:=Lib.hid hb0
  clear hsa hsb hsz hb0
  unfold lessA
  by_cases c:kindV a=0
  · rw [if_pos (.inl c)]
    simp only [decide_eq_true c] at T1
    clear c T2 T3
    go_enter Tryz.func161,Tryz.ntmps161
    go_upto_region 1 with fail
    rw [← hu]
    clear hu
    obtain ⟨⟨a0,a1,a2,a3⟩,_⟩:=HSA.out.at
    obtain ⟨⟨b0,b1,b2,b3⟩,_⟩:=HSB.out.at
    go_wp2_with (go_at_call 111;refine (T1.out _).mono ?_;rintro e wf ⟨rfl,hb1⟩;clear T1;replace HSA:=Lib.hid (HSA.out.below hb1);replace HSB:=Lib.hid (HSB.out.below hb1);replace HSZ:=Lib.hid (HSZ.out.below hb1);replace HB0:=Lib.hid (HB0.out.trans (hb1.mono HB0.out.size));clear hb1;obtain ⟨⟨a0,a1,a2,a3⟩,_⟩:=HSA.out.at;obtain ⟨⟨b0,b1,b2,b3⟩,_⟩:=HSB.out.at;obtain ⟨⟨z0,z1,z2,z3⟩,y0,y1,y2,y3⟩:=HSZ.out.at)
    obtain ⟨w4,hw4,h4,hb4⟩:=slot_ret HSZ.out HB0.out (Nat.le_add_right w.heap.size 2) b
    obtain ⟨⟨x0,x1,x2,x3⟩,_⟩:=h4.at
    try simp only at hw4 x0 x1 x2 x3
    change bodyPost _ _ _ _ _ ((((wf.setCell ⟨w.heap.size + 2,0,none⟩ (.int .i64 b.k)).setCell ⟨w.heap.size + 2,1,none⟩ (.int .i64 b.i)).setCell ⟨w.heap.size + 2,2,none⟩ (.bool b.b)).setCell ⟨w.heap.size + 2,3,none⟩ (.string b.s))
    rw [← hw4]
    clear hw4 h4
    refine bodyPost_ret (v:=.agg #[.int .i64 b.k,.int .i64 b.i,.bool b.b,.string b.s]) (by simp [results,Tryz.results161,go_sem,x0,x1,x2,x3]) rfl ?_
    exact ⟨rfl,hb4⟩
  simp only [decide_eq_false c] at T1
  by_cases d:kindV b=0
  · rw [if_neg (by rintro (h | h);exact c h;exact h.1 d)]
    simp only [decide_eq_true d] at T2
    clear c d T3
    go_enter Tryz.func161,Tryz.ntmps161
    go_upto_region 1 with fail
    rw [← hu]
    clear hu
    obtain ⟨⟨a0,a1,a2,a3⟩,_⟩:=HSA.out.at
    obtain ⟨⟨b0,b1,b2,b3⟩,_⟩:=HSB.out.at
    go_wp2_with (first
      | (go_at_call 111;refine (T1.out _).mono ?_;rintro e wf ⟨rfl,hb1⟩;clear T1;replace HSA:=Lib.hid (HSA.out.below hb1);replace HSB:=Lib.hid (HSB.out.below hb1);replace HSZ:=Lib.hid (HSZ.out.below hb1);replace HB0:=Lib.hid (HB0.out.trans (hb1.mono HB0.out.size));clear hb1;obtain ⟨⟨a0,a1,a2,a3⟩,_⟩:=HSA.out.at;obtain ⟨⟨b0,b1,b2,b3⟩,_⟩:=HSB.out.at;obtain ⟨⟨z0,z1,z2,z3⟩,y0,y1,y2,y3⟩:=HSZ.out.at)
      | (go_at_call 111;refine (T2.out _).mono ?_;rintro e wf ⟨rfl,hb1⟩;clear T2;replace HSA:=Lib.hid (HSA.out.below hb1);replace HSB:=Lib.hid (HSB.out.below hb1);replace HSZ:=Lib.hid (HSZ.out.below hb1);replace HB0:=Lib.hid (HB0.out.trans (hb1.mono HB0.out.size));clear hb1;obtain ⟨⟨a0,a1,a2,a3⟩,_⟩:=HSA.out.at;obtain ⟨⟨b0,b1,b2,b3⟩,_⟩:=HSB.out.at;obtain ⟨⟨z0,z1,z2,z3⟩,y0,y1,y2,y3⟩:=HSZ.out.at))
    obtain ⟨w4,hw4,h4,hb4⟩:=slot_ret HSZ.out HB0.out (Nat.le_add_right w.heap.size 2) a
    obtain ⟨⟨x0,x1,x2,x3⟩,_⟩:=h4.at
    try simp only at hw4 x0 x1 x2 x3
    change bodyPost _ _ _ _ _ ((((wf.setCell ⟨w.heap.size + 2,0,none⟩ (.int .i64 a.k)).setCell ⟨w.heap.size + 2,1,none⟩ (.int .i64 a.i)).setCell ⟨w.heap.size + 2,2,none⟩ (.bool a.b)).setCell ⟨w.heap.size + 2,3,none⟩ (.string a.s))
    rw [← hw4]
    clear hw4 h4
    refine bodyPost_ret (v:=.agg #[.int .i64 a.k,.int .i64 a.i,.bool a.b,.string a.s]) (by simp [results,Tryz.results161,go_sem,x0,x1,x2,x3]) rfl ?_
    exact ⟨rfl,hb4⟩
  simp only [decide_eq_false d] at T2
  by_cases l:ordV b a < 0
  · rw [if_pos (.inr ⟨d,l⟩)]
    simp only [decide_eq_true l] at T3
    clear c d l
    go_enter Tryz.func161,Tryz.ntmps161
    go_upto_region 1 with fail
    rw [← hu]
    clear hu
    obtain ⟨⟨a0,a1,a2,a3⟩,_⟩:=HSA.out.at
    obtain ⟨⟨b0,b1,b2,b3⟩,_⟩:=HSB.out.at
    go_wp2_with (first
      | (go_at_call 111;refine (T1.out _).mono ?_;rintro e wf ⟨rfl,hb1⟩;clear T1;replace HSA:=Lib.hid (HSA.out.below hb1);replace HSB:=Lib.hid (HSB.out.below hb1);replace HSZ:=Lib.hid (HSZ.out.below hb1);replace HB0:=Lib.hid (HB0.out.trans (hb1.mono HB0.out.size));clear hb1;obtain ⟨⟨a0,a1,a2,a3⟩,_⟩:=HSA.out.at;obtain ⟨⟨b0,b1,b2,b3⟩,_⟩:=HSB.out.at;obtain ⟨⟨z0,z1,z2,z3⟩,y0,y1,y2,y3⟩:=HSZ.out.at)
      | (go_at_call 111;refine (T2.out _).mono ?_;rintro e wf ⟨rfl,hb1⟩;clear T2;replace HSA:=Lib.hid (HSA.out.below hb1);replace HSB:=Lib.hid (HSB.out.below hb1);replace HSZ:=Lib.hid (HSZ.out.below hb1);replace HB0:=Lib.hid (HB0.out.trans (hb1.mono HB0.out.size));clear hb1;obtain ⟨⟨a0,a1,a2,a3⟩,_⟩:=HSA.out.at;obtain ⟨⟨b0,b1,b2,b3⟩,_⟩:=HSB.out.at;obtain ⟨⟨z0,z1,z2,z3⟩,y0,y1,y2,y3⟩:=HSZ.out.at)
      | (go_at_call 19;refine (T3.out _).mono ?_;rintro e wf ⟨rfl,hb1⟩;clear T3;replace HSA:=Lib.hid (HSA.out.below hb1);replace HSB:=Lib.hid (HSB.out.below hb1);replace HSZ:=Lib.hid (HSZ.out.below hb1);replace HB0:=Lib.hid (HB0.out.trans (hb1.mono HB0.out.size));clear hb1;obtain ⟨⟨a0,a1,a2,a3⟩,_⟩:=HSA.out.at;obtain ⟨⟨b0,b1,b2,b3⟩,_⟩:=HSB.out.at;obtain ⟨⟨z0,z1,z2,z3⟩,y0,y1,y2,y3⟩:=HSZ.out.at))
    obtain ⟨w4,hw4,h4,hb4⟩:=slot_ret HSZ.out HB0.out (Nat.le_add_right w.heap.size 2) b
    obtain ⟨⟨x0,x1,x2,x3⟩,_⟩:=h4.at
    try simp only at hw4 x0 x1 x2 x3
    change bodyPost _ _ _ _ _ ((((wf.setCell ⟨w.heap.size + 2,0,none⟩ (.int .i64 b.k)).setCell ⟨w.heap.size + 2,1,none⟩ (.int .i64 b.i)).setCell ⟨w.heap.size + 2,2,none⟩ (.bool b.b)).setCell ⟨w.heap.size + 2,3,none⟩ (.string b.s))
    rw [← hw4]
    clear hw4 h4
    refine bodyPost_ret (v:=.agg #[.int .i64 b.k,.int .i64 b.i,.bool b.b,.string b.s]) (by simp [results,Tryz.results161,go_sem,x0,x1,x2,x3]) rfl ?_
    exact ⟨rfl,hb4⟩
  · rw [if_neg (by rintro (h | h);exact c h;exact l h.2)]
    simp only [decide_eq_false l] at T3
    clear c d l
    go_enter Tryz.func161,Tryz.ntmps161
    go_upto_region 1 with fail
    rw [← hu]
    clear hu
    obtain ⟨⟨a0,a1,a2,a3⟩,_⟩:=HSA.out.at
    obtain ⟨⟨b0,b1,b2,b3⟩,_⟩:=HSB.out.at
    go_wp2_with (first
      | (go_at_call 111;refine (T1.out _).mono ?_;rintro e wf ⟨rfl,hb1⟩;clear T1;replace HSA:=Lib.hid (HSA.out.below hb1);replace HSB:=Lib.hid (HSB.out.below hb1);replace HSZ:=Lib.hid (HSZ.out.below hb1);replace HB0:=Lib.hid (HB0.out.trans (hb1.mono HB0.out.size));clear hb1;obtain ⟨⟨a0,a1,a2,a3⟩,_⟩:=HSA.out.at;obtain ⟨⟨b0,b1,b2,b3⟩,_⟩:=HSB.out.at;obtain ⟨⟨z0,z1,z2,z3⟩,y0,y1,y2,y3⟩:=HSZ.out.at)
      | (go_at_call 111;refine (T2.out _).mono ?_;rintro e wf ⟨rfl,hb1⟩;clear T2;replace HSA:=Lib.hid (HSA.out.below hb1);replace HSB:=Lib.hid (HSB.out.below hb1);replace HSZ:=Lib.hid (HSZ.out.below hb1);replace HB0:=Lib.hid (HB0.out.trans (hb1.mono HB0.out.size));clear hb1;obtain ⟨⟨a0,a1,a2,a3⟩,_⟩:=HSA.out.at;obtain ⟨⟨b0,b1,b2,b3⟩,_⟩:=HSB.out.at;obtain ⟨⟨z0,z1,z2,z3⟩,y0,y1,y2,y3⟩:=HSZ.out.at)
      | (go_at_call 19;refine (T3.out _).mono ?_;rintro e wf ⟨rfl,hb1⟩;clear T3;replace HSA:=Lib.hid (HSA.out.below hb1);replace HSB:=Lib.hid (HSB.out.below hb1);replace HSZ:=Lib.hid (HSZ.out.below hb1);replace HB0:=Lib.hid (HB0.out.trans (hb1.mono HB0.out.size));clear hb1;obtain ⟨⟨a0,a1,a2,a3⟩,_⟩:=HSA.out.at;obtain ⟨⟨b0,b1,b2,b3⟩,_⟩:=HSB.out.at;obtain ⟨⟨z0,z1,z2,z3⟩,y0,y1,y2,y3⟩:=HSZ.out.at))
    obtain ⟨w4,hw4,h4,hb4⟩:=slot_ret HSZ.out HB0.out (Nat.le_add_right w.heap.size 2) a
    obtain ⟨⟨x0,x1,x2,x3⟩,_⟩:=h4.at
    try simp only at hw4 x0 x1 x2 x3
    change bodyPost _ _ _ _ _ ((((wf.setCell ⟨w.heap.size + 2,0,none⟩ (.int .i64 a.k)).setCell ⟨w.heap.size + 2,1,none⟩ (.int .i64 a.i)).setCell ⟨w.heap.size + 2,2,none⟩ (.bool a.b)).setCell ⟨w.heap.size + 2,3,none⟩ (.string a.s))
    rw [← hw4]
    clear hw4 h4
    refine bodyPost_ret (v:=.agg #[.int .i64 a.k,.int .i64 a.i,.bool a.b,.string a.s]) (by simp [results,Tryz.results161,go_sem,x0,x1,x2,x3]) rfl ?_
    exact ⟨rfl,hb4⟩
end Go.Proofs.YtfbmlefhjoblbaaGreat
namespace Go.Proofs.YtfbmlefhjoblbaaGreat
open Go.Conc Go.RowKit
set_option linter.unusedVariables false
set_option linter.unusedSimpArgs false
def putTog (a b:S):S:=⟨a.c,wrap64 (a.n + b.n),lessA a.lo b.lo,moreA a.hi b.hi⟩
set_option maxRecDepth 100000 in
set_option maxHeartbeats 2000000 in
theorem stjoined_any (a b:S) (w:World):Calls Tryz.prog 137 #[.agg #[.int .i64 a.c,.int .i64 a.n,.int .i64 a.lo.k,.int .i64 a.lo.i,.bool a.lo.b,.string a.lo.s,.int .i64 a.hi.k,.int .i64 a.hi.i,.bool a.hi.b,.string a.hi.s],.agg #[.int .i64 b.c,.int .i64 b.n,.int .i64 b.lo.k,.int .i64 b.lo.i,.bool b.lo.b,.string b.lo.s,.int .i64 b.hi.k,.int .i64 b.hi.i,.bool b.hi.b,.string b.hi.s]] w fun e w' => e=.returned (.agg #[.int .i64 (putTog a b).c,.int .i64 (putTog a b).n,.int .i64 (putTog a b).lo.k,.int .i64 (putTog a b).lo.i,.bool (putTog a b).lo.b,.string (putTog a b).lo.s,.int .i64 (putTog a b).hi.k,.int .i64 (putTog a b).hi.i,.bool (putTog a b).hi.b,.string (putTog a b).hi.s])∧Below w.heap.size w w':=by
  have T1:=Lib.hid (fun u => statless_any a.lo b.lo u)
  have T2:=Lib.hid (fun u => statmore_any a.hi b.hi u)
  have hpt:putTog a b=⟨a.c,wrap64 (a.n + b.n),lessA a.lo b.lo,moreA a.hi b.hi⟩:=rfl
  rw [hpt]
  clear hpt
  generalize lessA a.lo b.lo=x at *
  generalize moreA a.hi b.hi=y at *
  obtain ⟨u,hu⟩:∃ u,u=(((w.alloc (.cells #[.int .i64 a.c,.int .i64 a.n,.int .i64 a.lo.k,.int .i64 a.lo.i,.bool a.lo.b,.string a.lo.s,.int .i64 a.hi.k,.int .i64 a.hi.i,.bool a.hi.b,.string a.hi.s] 77)).alloc (.cells #[.int .i64 b.c,.int .i64 b.n,.int .i64 b.lo.k,.int .i64 b.lo.i,.bool b.lo.b,.string b.lo.s,.int .i64 b.hi.k,.int .i64 b.hi.i,.bool b.hi.b,.string b.hi.s] 77)).alloc (.cells #[.int .i64 0,.int .i64 0,.int .i64 0,.int .i64 0,.bool false,.string ⟨#[]⟩,.int .i64 0,.int .i64 0,.bool false,.string ⟨#[]⟩] 77)):=⟨_,rfl⟩
  have hsa:SSlot u w.heap.size a:=by rw [hu];exact ((SSlot.new w a).alloc _).alloc _
  have hsb:SSlot u (w.heap.size + 1) b:=by
    have:=(SSlot.new (w.alloc (.cells #[.int .i64 a.c,.int .i64 a.n,.int .i64 a.lo.k,.int .i64 a.lo.i,.bool a.lo.b,.string a.lo.s,.int .i64 a.hi.k,.int .i64 a.hi.i,.bool a.hi.b,.string a.hi.s] 77)) b).alloc (.cells #[.int .i64 0,.int .i64 0,.int .i64 0,.int .i64 0,.bool false,.string ⟨#[]⟩,.int .i64 0,.int .i64 0,.bool false,.string ⟨#[]⟩] 77)
    rw [show (w.alloc (.cells #[.int .i64 a.c,.int .i64 a.n,.int .i64 a.lo.k,.int .i64 a.lo.i,.bool a.lo.b,.string a.lo.s,.int .i64 a.hi.k,.int .i64 a.hi.i,.bool a.hi.b,.string a.hi.s] 77)).heap.size=w.heap.size + 1 by simp] at this
    rw [hu];exact this
  have hsz:SSlot u (w.heap.size + 2) zeroS:=by
    have:=SSlot.new ((w.alloc (.cells #[.int .i64 a.c,.int .i64 a.n,.int .i64 a.lo.k,.int .i64 a.lo.i,.bool a.lo.b,.string a.lo.s,.int .i64 a.hi.k,.int .i64 a.hi.i,.bool a.hi.b,.string a.hi.s] 77)).alloc (.cells #[.int .i64 b.c,.int .i64 b.n,.int .i64 b.lo.k,.int .i64 b.lo.i,.bool b.lo.b,.string b.lo.s,.int .i64 b.hi.k,.int .i64 b.hi.i,.bool b.hi.b,.string b.hi.s] 77)) zeroS
    rw [show ((w.alloc (.cells #[.int .i64 a.c,.int .i64 a.n,.int .i64 a.lo.k,.int .i64 a.lo.i,.bool a.lo.b,.string a.lo.s,.int .i64 a.hi.k,.int .i64 a.hi.i,.bool a.hi.b,.string a.hi.s] 77)).alloc (.cells #[.int .i64 b.c,.int .i64 b.n,.int .i64 b.lo.k,.int .i64 b.lo.i,.bool b.lo.b,.string b.lo.s,.int .i64 b.hi.k,.int .i64 b.hi.i,.bool b.hi.b,.string b.hi.s] 77)).heap.size=w.heap.size + 2 by simp] at this
    rw [hu];exact this
  have hb0:Below w.heap.size w u:=by rw [hu];exact ((((Below.refl _ _).alloc (Nat.le_refl _) _).alloc (by simp) _).alloc (by simp;omega) _)
  have HSA:=Lib.hid hsa
  have HSB:=Lib.hid hsb
  have HSZ:=Lib.hid hsz
  have HB0:=Lib.hid hb0
  clear hsa hsb hsz hb0
  go_enter Tryz.func137,Tryz.ntmps137
  go_upto_region 1 with fail
  rw [← hu]
  clear hu
  refine region_class_tail (fun w' => Below u.heap.size u w') 18 (by kernel_rfl) (by kernel_rfl) (Below.refl _ _).drew ?_
  simp only [List.take_succ_cons,List.take_zero,List.drop_succ_cons,List.drop_zero]
  repeat (
    refine wpQuiet_step (fun K hK => ?_)
    go_simp
    first
    | (refine hK _ ?_;clear hK K)
    | (apply Exists.intro
       refine ⟨fun w1 hw1 => ?_,hK _ ?_⟩
       (first
         | (exact rfl)
         | (go_at_call 161;exact (T1.out _).mono fun e w2 ⟨he,hb⟩ => ⟨he,hw1.trans (hb.mono hw1.size)⟩)
         | (go_at_call 162;exact (T2.out _).mono fun e w2 ⟨he,hb⟩ => ⟨he,hw1.trans (hb.mono hw1.size)⟩)
         | (obtain ⟨⟨z0,z1,z2,z3,z4,z5,z6,z7,z8,z9⟩,_⟩:=(HSA.out.below hw1).at;simp only [z0,z1,z2,z3,z4,z5,z6,z7,z8,z9,Result.andThen];exact ⟨trivial,rfl⟩)
         | (obtain ⟨⟨z0,z1,z2,z3,z4,z5,z6,z7,z8,z9⟩,_⟩:=(HSB.out.below hw1).at;simp only [z0,z1,z2,z3,z4,z5,z6,z7,z8,z9,Result.andThen];exact ⟨trivial,rfl⟩)
         | (exact ⟨trivial,rfl⟩))
       clear hK K))
  refine wpQuiet_nil ?_
  intro w1 hw1
  have hs1:=HSZ.out.below hw1
  have HB1:=Lib.hid (HB0.out.trans (hw1.mono HB0.out.size))
  clear HSA HSB HSZ HB0 hw1 T1 T2
  obtain ⟨⟨z0,z1,z2,z3,z4,z5,z6,z7,z8,z9⟩,_⟩:=hs1.at
  obtain ⟨y0,y1,y2,y3,y4,y5,y6,y7,y8,y9⟩:=hs1.froz
  have HZ1:=Lib.hid hs1
  clear hs1
  go_wp2
  change bodyPost _ _ _ _ _ (putS w1 (w.heap.size + 2) ⟨a.c,wrap64 (a.n + b.n),x,y⟩)
  have hp:=HZ1.out.put ⟨a.c,wrap64 (a.n + b.n),x,y⟩
  have hb:=putS_below (s:=⟨a.c,wrap64 (a.n + b.n),x,y⟩) HB1.out (Nat.le_add_right w.heap.size 2)
  generalize putS w1 (w.heap.size + 2) ⟨a.c,wrap64 (a.n + b.n),x,y⟩=w4 at *
  clear z0 z1 z2 z3 z4 z5 z6 z7 z8 z9 y0 y1 y2 y3 y4 y5 y6 y7 y8 y9
  obtain ⟨⟨z0,z1,z2,z3,z4,z5,z6,z7,z8,z9⟩,_⟩:=hp.at
  refine bodyPost_ret (v:=.agg #[.int .i64 a.c,.int .i64 (wrap64 (a.n + b.n)),.int .i64 x.k,.int .i64 x.i,.bool x.b,.string x.s,.int .i64 y.k,.int .i64 y.i,.bool y.b,.string y.s]) (by simp [results,Tryz.results137,go_sem,z0,z1,z2,z3,z4,z5,z6,z7,z8,z9]) rfl ?_
  exact ⟨rfl,hb⟩
def putB (w:World) (g:Nat) (p q:V):World:=((((((((w.setCell ⟨g,2,none⟩ (.int .i64 p.k)).setCell ⟨g,3,none⟩ (.int .i64 p.i)).setCell ⟨g,4,none⟩ (.bool p.b)).setCell ⟨g,5,none⟩ (.string p.s)).setCell ⟨g,6,none⟩ (.int .i64 q.k)).setCell ⟨g,7,none⟩ (.int .i64 q.i)).setCell ⟨g,8,none⟩ (.bool q.b)).setCell ⟨g,9,none⟩ (.string q.s))
theorem SSlot.putB {w:World} {g:Nat} {z:S} (h:SSlot w g z) (p q:V):SSlot (putB w g p q) g ⟨z.c,z.n,p,q⟩:=by
  have h0:=h.b
  have h1:=heap_setCell_same _ g 2 _ _ (.int .i64 p.k) h0
  have h2:=heap_setCell_same _ g 3 _ _ (.int .i64 p.i) h1
  have h3:=heap_setCell_same _ g 4 _ _ (.bool p.b) h2
  have h4:=heap_setCell_same _ g 5 _ _ (.string p.s) h3
  have h5:=heap_setCell_same _ g 6 _ _ (.int .i64 q.k) h4
  have h6:=heap_setCell_same _ g 7 _ _ (.int .i64 q.i) h5
  have h7:=heap_setCell_same _ g 8 _ _ (.bool q.b) h6
  have h8:=heap_setCell_same _ g 9 _ _ (.string q.s) h7
  refine ⟨Eq.trans h8 ?_⟩
  simp
theorem putB_below {a w:World} {B g:Nat} {p q:V} (h:Below B a w) (hg:B≤g):Below B a (putB w g p q) :=
  ((((((((h.setCell hg _).setCell hg _).setCell hg _).setCell hg _).setCell hg _).setCell hg _).setCell hg _).setCell hg _)
theorem putB_other {w:World} {g k:Nat} {p q:V} {z:S} (h:SSlot w k z) (hk:k ≠ g):SSlot (putB w g p q) k z:=by
  refine h.same ?_
  unfold putB
  rw [Below.heap_setCell _ _ _ _ hk]
  rw [Below.heap_setCell _ _ _ _ hk]
  rw [Below.heap_setCell _ _ _ _ hk]
  rw [Below.heap_setCell _ _ _ _ hk]
  rw [Below.heap_setCell _ _ _ _ hk]
  rw [Below.heap_setCell _ _ _ _ hk]
  rw [Below.heap_setCell _ _ _ _ hk]
  rw [Below.heap_setCell _ _ _ _ hk]
def ownS (s:S):S:=⟨s.c,s.n,plainV s.lo,plainV s.hi⟩
set_option maxRecDepth 100000 in
set_option maxHeartbeats 2000000 in
theorem owned_any (s:S) (h1:s.lo.s.size≤281474976710656) (h2:s.hi.s.size≤281474976710656) (w:World):Calls Tryz.prog 139 #[.agg #[.int .i64 s.c,.int .i64 s.n,.int .i64 s.lo.k,.int .i64 s.lo.i,.bool s.lo.b,.string s.lo.s,.int .i64 s.hi.k,.int .i64 s.hi.i,.bool s.hi.b,.string s.hi.s]] w fun e w' => e=.returned (.agg #[.int .i64 (ownS s).c,.int .i64 (ownS s).n,.int .i64 (ownS s).lo.k,.int .i64 (ownS s).lo.i,.bool (ownS s).lo.b,.string (ownS s).lo.s,.int .i64 (ownS s).hi.k,.int .i64 (ownS s).hi.i,.bool (ownS s).hi.b,.string (ownS s).hi.s])∧Below w.heap.size w w':=by
  have T1:=Lib.hid vcopy_any
  have hpt:ownS s=⟨s.c,s.n,plainV s.lo,plainV s.hi⟩:=rfl
  rw [hpt]
  clear hpt
  obtain ⟨u,hu⟩:∃ u,u=((w.alloc (.cells #[.int .i64 s.c,.int .i64 s.n,.int .i64 s.lo.k,.int .i64 s.lo.i,.bool s.lo.b,.string s.lo.s,.int .i64 s.hi.k,.int .i64 s.hi.i,.bool s.hi.b,.string s.hi.s] 77)).alloc (.cells #[.int .i64 0,.int .i64 0,.int .i64 0,.int .i64 0,.bool false,.string ⟨#[]⟩,.int .i64 0,.int .i64 0,.bool false,.string ⟨#[]⟩] 77)):=⟨_,rfl⟩
  have hsa:SSlot u w.heap.size s:=by rw [hu];exact (SSlot.new w s).alloc _
  have hsz:SSlot u (w.heap.size + 1) zeroS:=by
    have:=SSlot.new (w.alloc (.cells #[.int .i64 s.c,.int .i64 s.n,.int .i64 s.lo.k,.int .i64 s.lo.i,.bool s.lo.b,.string s.lo.s,.int .i64 s.hi.k,.int .i64 s.hi.i,.bool s.hi.b,.string s.hi.s] 77)) zeroS
    rw [show (w.alloc (.cells #[.int .i64 s.c,.int .i64 s.n,.int .i64 s.lo.k,.int .i64 s.lo.i,.bool s.lo.b,.string s.lo.s,.int .i64 s.hi.k,.int .i64 s.hi.i,.bool s.hi.b,.string s.hi.s] 77)).heap.size=w.heap.size + 1 by simp] at this
    rw [hu];exact this
  have hb0:Below w.heap.size w u:=by rw [hu];exact (((Below.refl _ _).alloc (Nat.le_refl _) _).alloc (by simp) _)
  have HSA:=Lib.hid hsa
  have HSZ:=Lib.hid hsz
  have HB0:=Lib.hid hb0
  clear hsa hsz hb0
  go_enter Tryz.func139,Tryz.ntmps139
  go_upto_region 1 with fail
  rw [← hu]
  clear hu
  refine region_class_tail (fun w' => Below u.heap.size u w') 7 (by kernel_rfl) (by kernel_rfl) (Below.refl _ _).drew ?_
  simp only [List.take_succ_cons,List.take_zero,List.drop_succ_cons,List.drop_zero]
  repeat (
    refine wpQuiet_step (fun K hK => ?_)
    go_simp
    first
    | (refine hK _ ?_;clear hK K)
    | (apply Exists.intro
       refine ⟨fun w1 hw1 => ?_,hK _ ?_⟩
       (first
         | (exact rfl)
         | (go_at_call 163;exact (T1.out _ (by assumption) _).mono fun e w2 ⟨he,hb⟩ => ⟨he,hw1.trans (hb.mono hw1.size)⟩)
         | (obtain ⟨⟨z0,z1,z2,z3,z4,z5,z6,z7,z8,z9⟩,_⟩:=(HSA.out.below hw1).at;simp only [z0,z1,z2,z3,z4,z5,z6,z7,z8,z9,Result.andThen];exact ⟨trivial,rfl⟩)
         | (exact ⟨trivial,rfl⟩))
       clear hK K))
  refine wpQuiet_nil ?_
  intro w1 hw1
  have ha1:=HSA.out.below hw1
  have hs1:=HSZ.out.below hw1
  have HB1:=Lib.hid (HB0.out.trans (hw1.mono HB0.out.size))
  clear HSA HSZ HB0 hw1 T1 h1 h2
  have HA1:=Lib.hid ha1
  have HZ1:=Lib.hid hs1
  obtain ⟨⟨z0,z1,z2,z3,z4,z5,z6,z7,z8,z9⟩,_⟩:=ha1.at
  obtain ⟨y0,y1,y2,y3,y4,y5,y6,y7,y8,y9⟩:=ha1.froz
  clear hs1 ha1
  go_upto_region 2 with fail
  change Code.wp _ _ _ _ (putB w1 w.heap.size (plainV s.lo) (plainV s.hi))
  have hp:=HA1.out.putB (plainV s.lo) (plainV s.hi)
  have hz:=putB_other (p:=plainV s.lo) (q:=plainV s.hi) HZ1.out (Nat.succ_ne_self w.heap.size)
  have hb:=putB_below (p:=plainV s.lo) (q:=plainV s.hi) HB1.out (Nat.le_refl w.heap.size)
  generalize putB w1 w.heap.size (plainV s.lo) (plainV s.hi)=w2 at *
  clear z0 z1 z2 z3 z4 z5 z6 z7 z8 z9 y0 y1 y2 y3 y4 y5 y6 y7 y8 y9 HA1 HZ1 HB1
  obtain ⟨⟨z0,z1,z2,z3,z4,z5,z6,z7,z8,z9⟩,_⟩:=hp.at
  obtain ⟨⟨x0,x1,x2,x3,x4,x5,x6,x7,x8,x9⟩,_⟩:=hz.at
  obtain ⟨y0,y1,y2,y3,y4,y5,y6,y7,y8,y9⟩:=hz.froz
  have HZ:=Lib.hid hz
  have HB:=Lib.hid hb
  clear hp hz hb
  go_wp2
  change bodyPost _ _ _ _ _ (putS w2 (w.heap.size + 1) ⟨s.c,s.n,plainV s.lo,plainV s.hi⟩)
  have hp:=HZ.out.put ⟨s.c,s.n,plainV s.lo,plainV s.hi⟩
  have hb:=putS_below (s:=⟨s.c,s.n,plainV s.lo,plainV s.hi⟩) HB.out (Nat.le_add_right w.heap.size 1)
  generalize putS w2 (w.heap.size + 1) ⟨s.c,s.n,plainV s.lo,plainV s.hi⟩=w4 at *
  clear z0 z1 z2 z3 z4 z5 z6 z7 z8 z9 y0 y1 y2 y3 y4 y5 y6 y7 y8 y9 x0 x1 x2 x3 x4 x5 x6 x7 x8 x9
  obtain ⟨⟨z0,z1,z2,z3,z4,z5,z6,z7,z8,z9⟩,_⟩:=hp.at
  refine bodyPost_ret (v:=.agg #[.int .i64 s.c,.int .i64 s.n,.int .i64 (plainV s.lo).k,.int .i64 (plainV s.lo).i,.bool (plainV s.lo).b,.string (plainV s.lo).s,.int .i64 (plainV s.hi).k,.int .i64 (plainV s.hi).i,.bool (plainV s.hi).b,.string (plainV s.hi).s]) (by simp [results,Tryz.results139,go_sem,z0,z1,z2,z3,z4,z5,z6,z7,z8,z9]) rfl ?_
  exact ⟨rfl,hb⟩
end Go.Proofs.YtfbmlefhjoblbaaGreat
namespace Go.Proofs.YtfbmlefhjoblbaaGreat
open Go.Conc Go.RowKit
set_option linter.unusedVariables false
set_option linter.unusedSimpArgs false
def stA (c:Int) (vs:List V):S:=⟨c,nullsA vs,leastA vs,mostA vs⟩
theorem own_st (c:Int) (vs:List V):ownS (stA c vs)=ofA c vs:=rfl
theorem st_snoc (c:Int) (vs:List V) (v:V) (h:vs.length < 9223372036854775807):putTog (stA c vs) (singleS v)=stA c (vs ++ [v]):=by
  have h1:=nullsA_le vs
  unfold putTog stA singleS
  rw [leastA_snoc,mostA_snoc,nullsA_snoc]
  by_cases k:kindV v=0
  · rw [if_pos k,if_pos k,bnd_null k]
    simp only
    rw [show wrap64 ((nullsA vs:Int) + 1)=((nullsA vs + 1:Nat):Int) by unfold wrap64;omega]
  · rw [if_neg k,if_neg k,bnd_some k]
    simp only
    rw [show wrap64 ((nullsA vs:Int) + 0)=(nullsA vs:Int) by unfold wrap64;omega]
set_option maxRecDepth 100000 in
set_option maxHeartbeats 4000000 in
theorem statof_any (c:Int) (ad:Option Addr) (cap:Nat) (vs:List V) (w:World) (h0:IsV w ad vs) (hn:vs.length≤140737488355328) (hs:∀ v ∈ vs,v.s.size≤140737488351232):Calls Tryz.prog 108 #[.int .i64 c,.slice ad vs.length cap] w fun e w' => e=.returned (.agg #[.int .i64 (ofA c vs).c,.int .i64 (ofA c vs).n,.int .i64 (ofA c vs).lo.k,.int .i64 (ofA c vs).lo.i,.bool (ofA c vs).lo.b,.string (ofA c vs).lo.s,.int .i64 (ofA c vs).hi.k,.int .i64 (ofA c vs).hi.i,.bool (ofA c vs).hi.b,.string (ofA c vs).hi.s])∧Below w.heap.size w w':=by
  have T1:=Lib.hid single_any
  have T2:=Lib.hid stjoined_any
  have T3:=Lib.hid (fun u => owned_any (stA c vs) (Nat.le_trans (least_size vs hs) (by omega)) (Nat.le_trans (most_size vs hs) (by omega)) u)
  rw [own_st] at T3
  generalize ofA c vs=R at *
  have HV:=Lib.hid h0
  have HS:=Lib.hid hs
  clear h0 hs
  obtain ⟨u,hu⟩:∃ u,u=((w.alloc (.cells #[.int .i64 0,.int .i64 0,.int .i64 0,.int .i64 0,.bool false,.string ⟨#[]⟩,.int .i64 0,.int .i64 0,.bool false,.string ⟨#[]⟩] 77)).alloc (.cells #[.int .i64 c,.int .i64 0,.int .i64 0,.int .i64 0,.bool false,.string ⟨#[]⟩,.int .i64 0,.int .i64 0,.bool false,.string ⟨#[]⟩] 77)):=⟨_,rfl⟩
  have hsz:SSlot u w.heap.size zeroS:=by rw [hu];exact (SSlot.new w zeroS).alloc _
  have hsa:SSlot u (w.heap.size + 1) (stA c []):=by
    have:=SSlot.new (w.alloc (.cells #[.int .i64 0,.int .i64 0,.int .i64 0,.int .i64 0,.bool false,.string ⟨#[]⟩,.int .i64 0,.int .i64 0,.bool false,.string ⟨#[]⟩] 77)) (stA c [])
    rw [show (w.alloc (.cells #[.int .i64 0,.int .i64 0,.int .i64 0,.int .i64 0,.bool false,.string ⟨#[]⟩,.int .i64 0,.int .i64 0,.bool false,.string ⟨#[]⟩] 77)).heap.size=w.heap.size + 1 by simp] at this
    rw [hu];exact this
  have hb0:Below w.heap.size w u:=by rw [hu];exact (((Below.refl _ _).alloc (Nat.le_refl _) _).alloc (by simp) _)
  have HSA:=Lib.hid hsa
  have HSZ:=Lib.hid hsz
  have HB0:=Lib.hid hb0
  clear hsa hsz hb0
  go_enter Tryz.func108,Tryz.ntmps108
  go_upto_region 2 with fail
  rw [← hu]
  clear hu
  go_wp2
  go_loopw [12] (fun iv wr => ∃ n:Nat,n≤vs.length∧iv=.int .i64 n∧Hid (SSlot wr (w.heap.size + 1) (stA c (vs.take n)))∧Hid (SSlot wr w.heap.size zeroS)∧Hid (Below w.heap.size w wr)) (fun iv _ => vs.length - (intOf iv).toNat)
  case atStart => exact ⟨0,Nat.zero_le _,rfl,HSA,HSZ,HB0⟩
  case round =>
    obtain ⟨n,hle,rfl,HA,HZ,HB⟩:=hrel
    clear HSA HSZ HB0
    by_cases cn:n < vs.length
    · have h1:=HV.out
      rcases h1 with h1 | ⟨b,off,rfl,h1⟩
      · subst h1;simp at cn
      have h2:=(h1 n cn).below HB.out
      have hx:putTog (stA c (vs.take n)) (singleS vs[n])=stA c (vs.take (n + 1)):=by
        rw [st_snoc _ _ _ (by rw [List.length_take];omega),List.take_append_getElem cn]
      have HX:=Lib.hid hx
      have HHV:=Lib.hid h1
      clear hx h1
      generalize vs[n]=v at *
      generalize stA c (vs.take n)=s0 at *
      obtain ⟨p0,p1,p2,p3⟩:=h2
      have hni:(n:Int) < (vs.length:Int):=by omega
      go_upto_region 5 with fail
      obtain ⟨u5,hu5⟩:∃ u5,u5=wr.alloc (.cells #[.int .i64 v.k,.int .i64 v.i,.bool v.b,.string v.s] 24):=⟨_,rfl⟩
      rw [← hu5]
      have hsv:Slot u5 wr.heap.size v:=by rw [hu5];exact Slot.new wr v
      have hsa5:SSlot u5 (w.heap.size + 1) s0:=by rw [hu5];exact HA.out.alloc _
      have hsz5:SSlot u5 w.heap.size zeroS:=by rw [hu5];exact HZ.out.alloc _
      have hb5:Below w.heap.size w u5:=by rw [hu5];exact HB.out.alloc HB.out.size _
      have HSV5:=Lib.hid hsv
      have HSA5:=Lib.hid hsa5
      have HSZ5:=Lib.hid hsz5
      have HB5:=Lib.hid hb5
      clear hsv hsa5 hsz5 hb5 hu5 HA HZ HB p0 p1 p2 p3
      generalize wr.heap.size=gv at *
      refine region_class_tail (fun w' => Below u5.heap.size u5 w') 4 (by kernel_rfl) (by kernel_rfl) (Below.refl _ _).drew ?_
      simp only [List.take_succ_cons,List.take_zero,List.drop_succ_cons,List.drop_zero]
      repeat (
        refine wpQuiet_step (fun K hK => ?_)
        go_simp
        first
        | (refine hK _ ?_;clear hK K)
        | (apply Exists.intro
           refine ⟨fun w1 hw1 => ?_,hK _ ?_⟩
           (first
             | (exact rfl)
             | (go_at_call 138;exact (T1.out _ _).mono fun e w2 ⟨he,hb⟩ => ⟨he,hw1.trans (hb.mono hw1.size)⟩)
             | (go_at_call 137;exact (T2.out _ _ _).mono fun e w2 ⟨he,hb⟩ => ⟨he,hw1.trans (hb.mono hw1.size)⟩)
             | (obtain ⟨⟨z0,z1,z2,z3,z4,z5,z6,z7,z8,z9⟩,_⟩:=(HSA5.out.below hw1).at;simp only [z0,z1,z2,z3,z4,z5,z6,z7,z8,z9,Result.andThen];exact ⟨trivial,rfl⟩)
             | (obtain ⟨⟨z0,z1,z2,z3⟩,_⟩:=(HSV5.out.below hw1).at;simp only [z0,z1,z2,z3,Result.andThen];exact ⟨trivial,rfl⟩)
             | (exact ⟨trivial,rfl⟩))
           clear hK K))
      refine wpQuiet_nil ?_
      intro w1 hw1
      have ha1:=HSA5.out.below hw1
      have hz1:=HSZ5.out.below hw1
      have hb1:=HB5.out.trans (hw1.mono HB5.out.size)
      clear HSA5 HSZ5 HB5 HSV5 hw1
      have HA1:=Lib.hid ha1
      have HZ1:=Lib.hid hz1
      have HB1:=Lib.hid hb1
      obtain ⟨⟨z0,z1,z2,z3,z4,z5,z6,z7,z8,z9⟩,_⟩:=ha1.at
      obtain ⟨y0,y1,y2,y3,y4,y5,y6,y7,y8,y9⟩:=ha1.froz
      clear ha1 hz1 hb1
      go_upto_region 6 with fail
      change Code.wp _ _ _ _ (putS w1 (w.heap.size + 1) (putTog s0 (singleS v)))
      have hp:=HA1.out.put (putTog s0 (singleS v))
      have hz:=HZ1.out.frm (putS_frm w1 (w.heap.size + 1) (putTog s0 (singleS v))) (by omega)
      have hb:=putS_below (s:=putTog s0 (singleS v)) HB1.out (Nat.le_add_right w.heap.size 1)
      generalize putS w1 (w.heap.size + 1) (putTog s0 (singleS v))=w2 at *
      rw [HX.out] at hp
      have HP:=Lib.hid hp
      have HZ2:=Lib.hid hz
      have HB2:=Lib.hid hb
      clear hp hz hb z0 z1 z2 z3 z4 z5 z6 z7 z8 z9 y0 y1 y2 y3 y4 y5 y6 y7 y8 y9 HA1 HZ1 HB1
      go_wp2
      go_roundw
      case rel => exact ⟨n + 1,by omega,by go_num,HP,HZ2,HB2⟩
      case measure => simp [intOf];omega
    · obtain rfl:n=vs.length:=by omega
      rw [List.take_length] at HA
      generalize stA c vs=s0 at *
      obtain ⟨⟨z0,z1,z2,z3,z4,z5,z6,z7,z8,z9⟩,_⟩:=HA.out.at
      go_wp2_with (go_at_call 139;refine (T3.out _).mono ?_;rintro e w2 ⟨rfl,hb⟩;replace HZ:=Lib.hid (HZ.out.below hb);replace HB:=Lib.hid (HB.out.trans (hb.mono HB.out.size));clear hb z0 z1 z2 z3 z4 z5 z6 z7 z8 z9;obtain ⟨⟨z0,z1,z2,z3,z4,z5,z6,z7,z8,z9⟩,_⟩:=HZ.out.at;obtain ⟨y0,y1,y2,y3,y4,y5,y6,y7,y8,y9⟩:=HZ.out.froz)
      change bodyPost _ _ _ _ _ (putS w2 w.heap.size R)
      have hp:=HZ.out.put R
      have hb:=putS_below (s:=R) HB.out (Nat.le_refl w.heap.size)
      generalize putS w2 w.heap.size R=w4 at *
      clear z0 z1 z2 z3 z4 z5 z6 z7 z8 z9 y0 y1 y2 y3 y4 y5 y6 y7 y8 y9
      obtain ⟨⟨z0,z1,z2,z3,z4,z5,z6,z7,z8,z9⟩,_⟩:=hp.at
      refine bodyPost_ret (v:=.agg #[.int .i64 R.c,.int .i64 R.n,.int .i64 R.lo.k,.int .i64 R.lo.i,.bool R.lo.b,.string R.lo.s,.int .i64 R.hi.k,.int .i64 R.hi.i,.bool R.hi.b,.string R.hi.s]) (by simp [results,Tryz.results108,go_sem,z0,z1,z2,z3,z4,z5,z6,z7,z8,z9]) rfl ?_
      exact ⟨rfl,hb⟩
end Go.Proofs.YtfbmlefhjoblbaaGreat
