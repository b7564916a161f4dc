/- Spaces and remarks left out: a claim is at most so large. Spaces and remarks left out: a claim is at most so large. -/
import Derived.Test.YtfbmlefhjoblbaaGreatValLGz
import Derived.Deep.Cut
import Derived.Handy
import Derived.Test.YtfbmlefhjoblbaaGreatShelf
namespace Go.Proofs.YtfbmlefhjoblbaaGreat
open Go.Conc Go.RowKit
set_option linter.unusedVariables false
set_option linter.unusedSimpArgs false
def plainV (v:V):V :=
  if v.k=1 then ⟨1,v.i,false,ByteArray.empty⟩ else if v.k=2 then ⟨2,0,v.b,ByteArray.empty⟩ else if v.k=3 then ⟨3,0,false,v.s⟩ else ⟨0,0,false,ByteArray.empty⟩
theorem plainV_int {v:V} (h:v.k=1):plainV v=⟨1,v.i,false,ByteArray.empty⟩:=by unfold plainV;rw [if_pos h]
theorem plainV_bool {v:V} (h:v.k=2):plainV v=⟨2,0,v.b,ByteArray.empty⟩:=by unfold plainV;rw [if_neg (by omega),if_pos h]
theorem plainV_text {v:V} (h:v.k=3):plainV v=⟨3,0,false,v.s⟩:=by unfold plainV;rw [if_neg (by omega),if_neg (by omega),if_pos h]
theorem plainV_null {v:V} (h1:v.k ≠ 1) (h2:v.k ≠ 2) (h3:v.k ≠ 3):plainV v=⟨0,0,false,ByteArray.empty⟩:=by unfold plainV;rw [if_neg h1,if_neg h2,if_neg h3]
theorem plainV_twice (v:V):plainV (plainV v)=plainV v:=by
  by_cases h1:v.k=1
  · rw [plainV_int h1,plainV_int rfl]
  by_cases h2:v.k=2
  · rw [plainV_bool h2,plainV_bool rfl]
  by_cases h3:v.k=3
  · rw [plainV_text h3,plainV_text rfl]
  · rw [plainV_null h1 h2 h3,plainV_null (by show (0:Int) ≠ 1;omega) (by show (0:Int) ≠ 2;omega) (by show (0:Int) ≠ 3;omega)]
theorem plainV_size (v:V):(plainV v).s.size≤v.s.size:=by
  by_cases h1:v.k=1
  · rw [plainV_int h1];exact Nat.zero_le _
  by_cases h2:v.k=2
  · rw [plainV_bool h2];exact Nat.zero_le _
  by_cases h3:v.k=3
  · rw [plainV_text h3];exact Nat.le_refl _
  · rw [plainV_null h1 h2 h3];exact Nat.zero_le _
def kindV (v:V):Int:=if v.k < 0∨3 < v.k then 0 else v.k
theorem kindV_in {v:V} (h:0≤v.k∧v.k≤3):kindV v=v.k:=by unfold kindV;rw [if_neg (by omega)]
theorem kindV_out {v:V} (h:v.k < 0∨3 < v.k):kindV v=0:=by unfold kindV;rw [if_pos h]
theorem kindV_range (v:V):0≤kindV v∧kindV v≤3:=by unfold kindV;split <;> omega
theorem plainV_kind (v:V):(plainV v).k=kindV v:=by
  by_cases h1:v.k=1
  · rw [plainV_int h1,kindV_in (by omega)];exact h1.symm
  by_cases h2:v.k=2
  · rw [plainV_bool h2,kindV_in (by omega)];exact h2.symm
  by_cases h3:v.k=3
  · rw [plainV_text h3,kindV_in (by omega)];exact h3.symm
  · rw [plainV_null h1 h2 h3]
    by_cases h0:v.k=0
    · rw [kindV_in (by omega),h0]
    · rw [kindV_out (by omega)]
theorem kind_one {v:V}:kindV v=1 ↔ v.k=1:=by unfold kindV;split <;> omega
theorem kind_two {v:V}:kindV v=2 ↔ v.k=2:=by unfold kindV;split <;> omega
theorem kind_three {v:V}:kindV v=3 ↔ v.k=3:=by unfold kindV;split <;> omega
structure Slot (w:World) (g:Nat) (v:V):Prop where
  b:w.heap[g]? = some (.cells #[.int .i64 v.k,.int .i64 v.i,.bool v.b,.string v.s] 24 (0,0))
theorem Slot.at {w:World} {g:Nat} {v:V} (h:Slot w g v):(w.cell? ⟨g,0,none⟩=some (.int .i64 v.k)∧w.cell? ⟨g,1,none⟩=some (.int .i64 v.i)∧w.cell? ⟨g,2,none⟩=some (.bool v.b)∧w.cell? ⟨g,3,none⟩=some (.string v.s))∧(w.frozen? ⟨g,0,none⟩=false∧w.frozen? ⟨g,1,none⟩=false∧w.frozen? ⟨g,2,none⟩=false∧w.frozen? ⟨g,3,none⟩=false):=by
  have hb:=h.b
  refine ⟨⟨?_,?_,?_,?_⟩,frozen_of_row w g 0 _ _ hb,frozen_of_row w g 1 _ _ hb,frozen_of_row w g 2 _ _ hb,frozen_of_row w g 3 _ _ hb⟩ <;> (rw [cell_of_row _ _ _ _ _ _ hb];rfl)
theorem Slot.same {w w':World} {g:Nat} {v:V} (h:Slot w g v) (hb:w'.heap[g]? = w.heap[g]?):Slot w' g v:=⟨by rw [hb];exact h.b⟩
theorem Slot.lt {w:World} {g:Nat} {v:V} (h:Slot w g v):g < w.heap.size:=(Array.getElem?_eq_some_iff.1 h.b).1
theorem Slot.below {w w':World} {g:Nat} {v:V} (h:Slot w g v) (hb:Below w.heap.size w w'):Slot w' g v:=h.same (hb.block g h.lt)
theorem Slot.alloc {w:World} {g:Nat} {v:V} (h:Slot w g v) (o:Obj):Slot (w.alloc o) g v:=h.same (Below.heap_alloc w o g h.lt)
theorem Slot.new (w:World) (v:V):Slot (w.alloc (.cells #[.int .i64 v.k,.int .i64 v.i,.bool v.b,.string v.s] 24)) w.heap.size v:=⟨heap_alloc_new w _⟩
theorem Slot.other {w:World} {g:Nat} {v:V} (h:Slot w g v) {a:Addr} {u:Value} (hne:a.block ≠ g):Slot (w.setCell a u) g v:=h.same (Below.heap_setCell _ _ _ _ (fun e => hne e.symm))
theorem Slot.store {w:World} {g:Nat} {v:V} (h:Slot w g v) (p:V):Slot ((((w.setCell ⟨g,0,none⟩ (.int .i64 p.k)).setCell ⟨g,1,none⟩ (.int .i64 p.i)).setCell ⟨g,2,none⟩ (.bool p.b)).setCell ⟨g,3,none⟩ (.string p.s)) g p :=
  ⟨heap_setCell_same _ _ _ _ _ _ (heap_setCell_same _ _ _ _ _ _ (heap_setCell_same _ _ _ _ _ _ (heap_setCell_same _ _ _ _ _ _ h.b)))⟩
theorem slot_ret {a w1:World} {B g:Nat} {z:V} (h:Slot w1 g z) (hb:Below B a w1) (hg:B≤g) (p:V):∃ w4,w4=((((w1.setCell ⟨g,0,none⟩ (.int .i64 p.k)).setCell ⟨g,1,none⟩ (.int .i64 p.i)).setCell ⟨g,2,none⟩ (.bool p.b)).setCell ⟨g,3,none⟩ (.string p.s))∧Slot w4 g p∧Below B a w4 :=
  ⟨_,rfl,h.store p,(((hb.setCell hg _).setCell hg _).setCell hg _).setCell hg _⟩
theorem Frm.chain {u:World} {g:Nat} {F:Nat→Prop} (hg:F g) (p:V):Frm F u ((((u.setCell ⟨g,0,none⟩ (.int .i64 p.k)).setCell ⟨g,1,none⟩ (.int .i64 p.i)).setCell ⟨g,2,none⟩ (.bool p.b)).setCell ⟨g,3,none⟩ (.string p.s)) :=
  ((((Frm.refl F u).setCell (p:=⟨g,0,none⟩) hg _).setCell (p:=⟨g,1,none⟩) hg _).setCell (p:=⟨g,2,none⟩) hg _).setCell (p:=⟨g,3,none⟩) hg _
end Go.Proofs.YtfbmlefhjoblbaaGreat
namespace Go.Proofs.YtfbmlefhjoblbaaGreat
open Go.Conc Go.RowKit
set_option linter.unusedVariables false
set_option linter.unusedSimpArgs false
set_option maxRecDepth 100000 in
theorem plain_any (v:V) (w:World):Calls Tryz.prog 54 #[.agg #[.int .i64 v.k,.int .i64 v.i,.bool v.b,.string v.s]] w fun e w' => e=.returned (.agg #[.int .i64 (plainV v).k,.int .i64 (plainV v).i,.bool (plainV v).b,.string (plainV v).s])∧Below w.heap.size w w':=by
  have HB:∀ w':World,w'=w→True:=fun _ _ => trivial
  by_cases h1:v.k=1
  · rw [plainV_int h1]
    obtain ⟨k,i,b,s⟩:=v
    simp only at h1 ⊢
    subst h1
    go_enter Tryz.func54,Tryz.ntmps54
    go_wp2
    go_returns
    exact ⟨rfl,((((Below.refl _ _).alloc (Nat.le_refl _) _).alloc (by simp) _))⟩
  by_cases h2:v.k=2
  · rw [plainV_bool h2]
    obtain ⟨k,i,b,s⟩:=v
    simp only at h2 ⊢
    subst h2
    go_enter Tryz.func54,Tryz.ntmps54
    go_wp2
    go_returns
    exact ⟨rfl,((((Below.refl _ _).alloc (Nat.le_refl _) _).alloc (by simp) _))⟩
  by_cases h3:v.k=3
  · rw [plainV_text h3]
    obtain ⟨k,i,b,s⟩:=v
    simp only at h3 ⊢
    subst h3
    go_enter Tryz.func54,Tryz.ntmps54
    go_wp2
    go_returns
    exact ⟨rfl,((((Below.refl _ _).alloc (Nat.le_refl _) _).alloc (by simp) _))⟩
  · rw [plainV_null h1 h2 h3]
    obtain ⟨k,i,b,s⟩:=v
    simp only at h1 h2 h3 ⊢
    have e1:(k == 1)=false:=by simpa using h1
    have e2:(k == 2)=false:=by simpa using h2
    have e3:(k == 3)=false:=by simpa using h3
    clear h1 h2 h3
    go_enter Tryz.func54,Tryz.ntmps54
    go_wp2
    go_returns
    exact ⟨rfl,((((Below.refl _ _).alloc (Nat.le_refl _) _).alloc (by simp) _))⟩
set_option maxRecDepth 100000 in
theorem vcopy_any (v:V) (hs:v.s.size≤281474976710656) (w:World):Calls Tryz.prog 163 #[.agg #[.int .i64 v.k,.int .i64 v.i,.bool v.b,.string v.s]] w fun e w' => e=.returned (.agg #[.int .i64 (plainV v).k,.int .i64 (plainV v).i,.bool (plainV v).b,.string (plainV v).s])∧Below w.heap.size w w':=by
  have T1:=Lib.hid (fun u => plain_any v u)
  have T3:=Lib.hid (fun u => Tryz.stringslite_Clone (plainV v).s u (Nat.le_trans (plainV_size v) hs))
  generalize plainV v=p at *
  obtain ⟨pk,pi,pb,ps⟩:=p
  simp only at *
  go_enter Tryz.func163,Tryz.ntmps163
  go_upto_region 1 with fail
  obtain ⟨u,hu⟩:∃ u,u=((w.alloc (.cells #[.int .i64 v.k,.int .i64 v.i,.bool v.b,.string v.s] 24)).alloc (.cells #[.int .i64 0,.int .i64 0,.bool false,.string ⟨#[]⟩] 24)):=⟨_,rfl⟩
  rw [← hu]
  have hs0:Slot u w.heap.size v:=by rw [hu];exact (Slot.new w v).alloc _
  have hs1:Slot u (w.heap.size + 1) ⟨0,0,false,⟨#[]⟩⟩:=by
    have:=Slot.new (w.alloc (.cells #[.int .i64 v.k,.int .i64 v.i,.bool v.b,.string v.s] 24)) ⟨0,0,false,⟨#[]⟩⟩
    rw [hu];simpa using this
  have hb0:Below w.heap.size w u:=by rw [hu];exact (((Below.refl _ _).alloc (Nat.le_refl _) _).alloc (by simp) _)
  have hz0:u.heap.size=w.heap.size + 2:=by rw [hu];simp
  obtain ⟨⟨c0,c1,c2,c3⟩,_⟩:=hs0.at
  clear hu hs0
  have HS1:=Lib.hid hs1
  have HB0:=Lib.hid hb0
  have HZ0:=Lib.hid hz0
  clear hs1 hb0 hz0
  go_upto_region 2 with (go_at_call 54;refine (T1.out _).mono ?_;rintro e w1 ⟨rfl,hb1⟩;have HB1:=Lib.hid hb1;clear hb1)
  clear c0 c1 c2 c3
  obtain ⟨u2,hu2⟩:∃ u2,u2=w1.alloc (.cells #[.int .i64 pk,.int .i64 pi,.bool pb,.string ps] 24):=⟨_,rfl⟩
  rw [← hu2]
  have hs2:Slot u2 w1.heap.size ⟨pk,pi,pb,ps⟩:=by rw [hu2];exact Slot.new w1 ⟨pk,pi,pb,ps⟩
  have hs3:Slot u2 (w.heap.size + 1) ⟨0,0,false,⟨#[]⟩⟩:=by rw [hu2];exact (HS1.out.below HB1.out).alloc _
  have hb2:Below w.heap.size w u2:=by rw [hu2];exact (HB0.out.trans (HB1.out.mono (HB0.out.size))).alloc (Nat.le_trans HB0.out.size HB1.out.size) _
  have hz2:w.heap.size + 2≤w1.heap.size:=by have:=HB1.out.size;rw [HZ0.out] at this;exact this
  obtain ⟨⟨c0,c1,c2,c3⟩,_⟩:=hs2.at
  have HS2:=Lib.hid hs2
  have HS3:=Lib.hid hs3
  have HB2:=Lib.hid hb2
  have HZ2:=Lib.hid hz2
  clear hs2 hs3 hb2 hz2 hu2 HS1 HB0 HZ0 HB1 T1
  generalize w1.heap.size=g1 at *
  go_wp2_with (first
    | (go_at_call 90;go_enter Tryz.func90,Tryz.ntmps90)
    | (go_at_call 118;refine (T3.out _).mono ?_;rintro e w3 ⟨rfl,hb3⟩;obtain ⟨⟨d0,d1,d2,d3⟩,f0,f1,f2,f3⟩:=(HS2.out.below hb3).at;obtain ⟨⟨z0,z1,z2,z3⟩,y0,y1,y2,y3⟩:=(HS3.out.below hb3).at;have hz3:=(HS3.out.below hb3).b;have HZ3:=Lib.hid hz3;clear hz3;have HB3:=Lib.hid (HB2.out.trans (hb3.mono HB2.out.size));have hne:g1 ≠ w.heap.size + 1:=(by have:=HZ2.out;omega);clear hb3 c0 c1 c2 c3))
  obtain ⟨w4,hw4⟩:∃ w4,w4=(((((w3.setCell ⟨g1,3,none⟩ (.string ps)).setCell ⟨w.heap.size + 1,0,none⟩ (.int .i64 pk)).setCell ⟨w.heap.size + 1,1,none⟩ (.int .i64 pi)).setCell ⟨w.heap.size + 1,2,none⟩ (.bool pb)).setCell ⟨w.heap.size + 1,3,none⟩ (.string ps)):=⟨_,rfl⟩
  have h4:Slot w4 (w.heap.size + 1) ⟨pk,pi,pb,ps⟩:=by rw [hw4];exact Slot.store (Slot.other (v:=⟨0,0,false,⟨#[]⟩⟩) ⟨HZ3.out⟩ hne) ⟨pk,pi,pb,ps⟩
  have hb4:Below w.heap.size w w4:=by
    rw [hw4]
    have hg:w.heap.size≤g1:=by have:=HZ2.out;omega
    exact ((((HB3.out.setCell hg _).setCell (by simp) _).setCell (by simp) _).setCell (by simp) _).setCell (by simp) _
  obtain ⟨⟨c0,c1,c2,c3⟩,_⟩:=h4.at
  rw [← hw4]
  clear hw4 h4 d0 d1 d2 d3 f0 f1 f2 f3 z0 z1 z2 z3 y0 y1 y2 y3
  try simp only [Exit.inBlock,Exit.then]
  refine bodyPost_ret (v:=.agg #[.int .i64 pk,.int .i64 pi,.bool pb,.string ps]) (by simp [results,Tryz.results163,go_sem,c0,c1,c2,c3]) rfl ?_
  exact ⟨rfl,hb4⟩
end Go.Proofs.YtfbmlefhjoblbaaGreat

namespace Go.Proofs.YtfbmlefhjoblbaaGreat
open Go.Conc Go.RowKit
set_option linter.unusedVariables false
set_option linter.unusedSimpArgs false
set_option maxRecDepth 100000 in
theorem rkind_any (v:V) (w:World):Calls Tryz.prog 55 #[.agg #[.int .i64 v.k,.int .i64 v.i,.bool v.b,.string v.s]] w fun e w' => e=.returned (.int .i64 (kindV v))∧Below w.heap.size w w':=by
  by_cases h1:v.k < 0
  · rw [kindV_out (.inl h1)]
    go_enter Tryz.func55,Tryz.ntmps55
    go_wp2
    go_ret
    exact ⟨rfl,((Below.refl _ _).alloc (Nat.le_refl _) _)⟩
  by_cases h2:3 < v.k
  · rw [kindV_out (.inr h2)]
    go_enter Tryz.func55,Tryz.ntmps55
    go_wp2
    go_ret
    exact ⟨rfl,((Below.refl _ _).alloc (Nat.le_refl _) _)⟩
  rw [kindV_in (by omega)]
  go_enter Tryz.func55,Tryz.ntmps55
  go_wp2
  go_ret
  exact ⟨rfl,((Below.refl _ _).alloc (Nat.le_refl _) _)⟩
set_option maxRecDepth 100000 in
theorem rclean_any (v:V) (w:World):Calls Tryz.prog 27 #[.agg #[.int .i64 v.k,.int .i64 v.i,.bool v.b,.string v.s]] w fun e w' => e=.returned (.agg #[.int .i64 (plainV v).k,.int .i64 (plainV v).i,.bool (plainV v).b,.string (plainV v).s])∧Below w.heap.size w w':=by
  have T1:=Lib.hid (fun u => rkind_any v u)
  obtain ⟨p,hp⟩:∃ p,p=plainV v:=⟨_,rfl⟩
  have HP:=Lib.hid hp
  rw [← hp]
  have hkr:=kindV_range v
  have hk:(kindV v=1∧p=⟨1,v.i,false,ByteArray.empty⟩)∨(kindV v=2∧p=⟨2,0,v.b,ByteArray.empty⟩)∨(kindV v=3∧p=⟨3,0,false,v.s⟩)∨(kindV v=0∧p=⟨0,0,false,ByteArray.empty⟩):=by
    by_cases h1:v.k=1
    · exact .inl ⟨by rw [kindV_in (by omega),h1],by rw [hp,plainV_int h1]⟩
    by_cases h2:v.k=2
    · exact .inr (.inl ⟨by rw [kindV_in (by omega),h2],by rw [hp,plainV_bool h2]⟩)
    by_cases h3:v.k=3
    · exact .inr (.inr (.inl ⟨by rw [kindV_in (by omega),h3],by rw [hp,plainV_text h3]⟩))
    · refine .inr (.inr (.inr ⟨?_,by rw [hp,plainV_null h1 h2 h3]⟩))
      by_cases h0:v.k=0
      · rw [kindV_in (by omega),h0]
      · rw [kindV_out (by omega)]
  clear hp HP hkr
  generalize kindV v=kd at *
  obtain ⟨u,hu⟩:∃ u,u=((w.alloc (.cells #[.int .i64 v.k,.int .i64 v.i,.bool v.b,.string v.s] 24)).alloc (.cells #[.int .i64 0,.int .i64 0,.bool false,.string ⟨#[]⟩] 24)):=⟨_,rfl⟩
  have hs0:Slot u w.heap.size v:=by rw [hu];exact (Slot.new w v).alloc _
  have hs1:Slot u (w.heap.size + 1) ⟨0,0,false,⟨#[]⟩⟩:=by
    have:=Slot.new (w.alloc (.cells #[.int .i64 v.k,.int .i64 v.i,.bool v.b,.string v.s] 24)) ⟨0,0,false,⟨#[]⟩⟩
    rw [hu];simpa using this
  have hb0:Below w.heap.size w u:=by rw [hu];exact (((Below.refl _ _).alloc (Nat.le_refl _) _).alloc (by simp) _)
  have HS0:=Lib.hid hs0
  have HS1:=Lib.hid hs1
  have HB0:=Lib.hid hb0
  clear hs1 hb0
  go_enter Tryz.func27,Tryz.ntmps27
  go_upto_region 1 with fail
  rw [← hu]
  clear hu
  obtain ⟨⟨a0,a1,a2,a3⟩,_⟩:=hs0.at
  clear hs0
  go_upto_region 2 with (go_at_call 55;refine (T1.out _).mono ?_;rintro e w1 ⟨rfl,hb1⟩;obtain ⟨⟨c0,c1,c2,c3⟩,_⟩:=(HS0.out.below hb1).at;have hs1:=HS1.out.below hb1;obtain ⟨⟨z0,z1,z2,z3⟩,y0,y1,y2,y3⟩:=hs1.at;have HZ1:=Lib.hid hs1;have HB1:=Lib.hid (HB0.out.trans (hb1.mono HB0.out.size));clear hb1 hs1)
  clear a0 a1 a2 a3 HS0 HS1 HB0 T1
  rcases hk with ⟨rfl,rfl⟩ | ⟨rfl,rfl⟩ | ⟨rfl,rfl⟩ | ⟨rfl,rfl⟩
  · go_wp2
    obtain ⟨w4,hw4,h4,hb4⟩:=slot_ret HZ1.out HB1.out (Nat.le_succ _) ⟨1,v.i,false,ByteArray.empty⟩
    obtain ⟨⟨c0,c1,c2,c3⟩,_⟩:=h4.at
    simp only at hw4 c0 c1 c2 c3
    change bodyPost _ _ _ _ _ ((((w1.setCell ⟨w.heap.size + 1,0,none⟩ (.int .i64 1)).setCell ⟨w.heap.size + 1,1,none⟩ (.int .i64 (v.i))).setCell ⟨w.heap.size + 1,2,none⟩ (.bool false)).setCell ⟨w.heap.size + 1,3,none⟩ (.string ByteArray.empty))
    rw [← hw4]
    clear hw4 h4 z0 z1 z2 z3 y0 y1 y2 y3
    refine bodyPost_ret (v:=.agg #[.int .i64 1,.int .i64 (v.i),.bool false,.string ByteArray.empty]) (by simp [results,Tryz.results27,go_sem,c0,c1,c2,c3]) rfl ?_
    exact ⟨rfl,hb4⟩
  · go_wp2
    obtain ⟨w4,hw4,h4,hb4⟩:=slot_ret HZ1.out HB1.out (Nat.le_succ _) ⟨2,0,v.b,ByteArray.empty⟩
    obtain ⟨⟨c0,c1,c2,c3⟩,_⟩:=h4.at
    simp only at hw4 c0 c1 c2 c3
    change bodyPost _ _ _ _ _ ((((w1.setCell ⟨w.heap.size + 1,0,none⟩ (.int .i64 2)).setCell ⟨w.heap.size + 1,1,none⟩ (.int .i64 (0))).setCell ⟨w.heap.size + 1,2,none⟩ (.bool v.b)).setCell ⟨w.heap.size + 1,3,none⟩ (.string ByteArray.empty))
    rw [← hw4]
    clear hw4 h4 z0 z1 z2 z3 y0 y1 y2 y3
    refine bodyPost_ret (v:=.agg #[.int .i64 2,.int .i64 (0),.bool v.b,.string ByteArray.empty]) (by simp [results,Tryz.results27,go_sem,c0,c1,c2,c3]) rfl ?_
    exact ⟨rfl,hb4⟩
  · go_wp2
    obtain ⟨w4,hw4,h4,hb4⟩:=slot_ret HZ1.out HB1.out (Nat.le_succ _) ⟨3,0,false,v.s⟩
    obtain ⟨⟨c0,c1,c2,c3⟩,_⟩:=h4.at
    simp only at hw4 c0 c1 c2 c3
    change bodyPost _ _ _ _ _ ((((w1.setCell ⟨w.heap.size + 1,0,none⟩ (.int .i64 3)).setCell ⟨w.heap.size + 1,1,none⟩ (.int .i64 (0))).setCell ⟨w.heap.size + 1,2,none⟩ (.bool false)).setCell ⟨w.heap.size + 1,3,none⟩ (.string v.s))
    rw [← hw4]
    clear hw4 h4 z0 z1 z2 z3 y0 y1 y2 y3
    refine bodyPost_ret (v:=.agg #[.int .i64 3,.int .i64 (0),.bool false,.string v.s]) (by simp [results,Tryz.results27,go_sem,c0,c1,c2,c3]) rfl ?_
    exact ⟨rfl,hb4⟩
  · go_wp2
    obtain ⟨w4,hw4,h4,hb4⟩:=slot_ret HZ1.out HB1.out (Nat.le_succ _) ⟨0,0,false,ByteArray.empty⟩
    obtain ⟨⟨c0,c1,c2,c3⟩,_⟩:=h4.at
    simp only at hw4 c0 c1 c2 c3
    change bodyPost _ _ _ _ _ ((((w1.setCell ⟨w.heap.size + 1,0,none⟩ (.int .i64 0)).setCell ⟨w.heap.size + 1,1,none⟩ (.int .i64 (0))).setCell ⟨w.heap.size + 1,2,none⟩ (.bool false)).setCell ⟨w.heap.size + 1,3,none⟩ (.string ByteArray.empty))
    rw [← hw4]
    clear hw4 h4 z0 z1 z2 z3 y0 y1 y2 y3
    refine bodyPost_ret (v:=.agg #[.int .i64 0,.int .i64 (0),.bool false,.string ByteArray.empty]) (by simp [results,Tryz.results27,go_sem,c0,c1,c2,c3]) rfl ?_
    exact ⟨rfl,hb4⟩
end Go.Proofs.YtfbmlefhjoblbaaGreat
