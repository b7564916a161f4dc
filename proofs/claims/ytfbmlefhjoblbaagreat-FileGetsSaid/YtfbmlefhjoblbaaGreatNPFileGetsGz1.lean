/- Spaces and remarks left out: a claim is at most so large. Spaces and remarks left out: a claim is at most so large. -/
import Derived.Test.YtfbmlefhjoblbaaGreatVOrdGz
import Derived.Test.YtfbmlefhjoblbaaGreatNPFileGetsGz3
import Derived.Test.YtfbmlefhjoblbaaGreatValLGz
import Derived.Deep.RegionLaw
namespace Go.Proofs.YtfbmlefhjoblbaaGreat
open Go.Conc Go.RowKit
set_option linter.unusedVariables false
set_option linter.unusedSimpArgs false
theorem less_cmp:∀ x y:List UInt8,Op.bytesLess x y=decide (Lib.compareBytes x y < 0)
  | [],[] => by simp [Op.bytesLess,Lib.compareBytes]
  | _ :: _,[] => by simp [Op.bytesLess,Lib.compareBytes]
  | [],_ :: _ => by simp [Op.bytesLess,Lib.compareBytes]
  | a :: x,b :: y => by
    rw [Op.bytesLess,Lib.compareBytes,less_cmp x y]
    by_cases h:a < b
    · simp [h]
    · by_cases h2:b < a
      · have:¬ a=b:=fun e => by subst e;exact h h2
        simp [h,h2,this]
      · have h3:a=b:=by
          have h4:¬ a.toNat < b.toNat:=h
          have h5:¬ b.toNat < a.toNat:=h2
          exact UInt8.toNat_inj.1 (by omega)
        subst h3
        simp [h]
def ordP (p q:V):Prop:=p.k < q.k∨(p.k=q.k∧((p.k=1∧p.i < q.i)∨(p.k=2∧p.b=false∧q.b=true)∨(p.k=3∧cmpK p.s q.s < 0)))
theorem ord_plain (a b:V):ordV a b < 0 ↔ ordP (plainV a) (plainV b):=by
  rw [ord_lt_iff]
  unfold ordP
  rw [plainV_kind,plainV_kind]
  have key:kindV a=kindV b→(((kindV a=1∧a.i < b.i)∨(kindV a=2∧a.b=false∧b.b=true)∨(kindV a=3∧cmpK a.s b.s < 0)) ↔ ((kindV a=1∧(plainV a).i < (plainV b).i)∨(kindV a=2∧(plainV a).b=false∧(plainV b).b=true)∨(kindV a=3∧cmpK (plainV a).s (plainV b).s < 0))):=by
    intro h
    have hr:=kindV_range a
    rcases (show kindV a=1∨kindV a=2∨kindV a=3∨kindV a=0 by omega) with e | e | e | e
    · rw [plainV_int (kind_one.1 e),plainV_int (kind_one.1 (h ▸ e))];simp [e]
    · rw [plainV_bool (kind_two.1 e),plainV_bool (kind_two.1 (h ▸ e))];simp [e]
    · rw [plainV_text (kind_three.1 e),plainV_text (kind_three.1 (h ▸ e))];simp [e]
    · simp [e]
  constructor
  · rintro (h | ⟨h,h2⟩)
    · exact .inl h
    · exact .inr ⟨h,(key h).1 h2⟩
  · rintro (h | ⟨h,h2⟩)
    · exact .inl h
    · exact .inr ⟨h,(key h).2 h2⟩
set_option maxRecDepth 100000 in
set_option maxHeartbeats 4000000 in
theorem vecless_any (a b:V) (w:World):Calls Tryz.prog 19 #[.agg #[.int .i64 a.k,.int .i64 a.i,.bool a.b,.string a.s],.agg #[.int .i64 b.k,.int .i64 b.i,.bool b.b,.string b.s]] w fun e w' => e=.returned (.bool (decide (ordV a b < 0)))∧Below w.heap.size w w':=by
  have T1:=Lib.hid (fun u => plain_any a u)
  have T2:=Lib.hid (fun u => plain_any b u)
  obtain ⟨p,hp⟩:∃ p,p=plainV a:=⟨_,rfl⟩
  obtain ⟨q,hq⟩:∃ q,q=plainV b:=⟨_,rfl⟩
  rw [← hp] at T1
  rw [← hq] at T2
  have HP:=Lib.hid hp
  have HQ:=Lib.hid hq
  have hord:decide (ordV a b < 0)=decide (ordV a b < 0):=rfl
  obtain ⟨D,hD⟩:∃ D,D=decide (ordV a b < 0):=⟨_,rfl⟩
  rw [← hD]
  have hD2:D=true ↔ ordP p q:=by rw [hD,decide_eq_true_iff,ord_plain,hp,hq]
  have HD:=Lib.hid hD2
  clear hp hq hD hD2 hord
  have hb0:Below w.heap.size w ((w.alloc (.cells #[.int .i64 a.k,.int .i64 a.i,.bool a.b,.string a.s] 24)).alloc (.cells #[.int .i64 b.k,.int .i64 b.i,.bool b.b,.string b.s] 24)):=((Below.refl _ _).alloc (Nat.le_refl _) _).alloc (by simp) _
  have hsa:=(Slot.new w a).alloc (.cells #[.int .i64 b.k,.int .i64 b.i,.bool b.b,.string b.s] 24)
  have hsb:=Slot.new (w.alloc (.cells #[.int .i64 a.k,.int .i64 a.i,.bool a.b,.string a.s] 24)) b
  rw [show (w.alloc (.cells #[.int .i64 a.k,.int .i64 a.i,.bool a.b,.string a.s] 24)).heap.size=w.heap.size + 1 by simp] at hsb
  have HB0:=Lib.hid hb0
  have HSA:=Lib.hid hsa
  have HSB:=Lib.hid hsb
  clear hb0 hsa hsb
  go_enter Tryz.func19,Tryz.ntmps19
  go_upto_region 1 with fail
  obtain ⟨ga,hga⟩:∃ ga,ga=w.heap.size:=⟨_,rfl⟩
  have HGA:=Lib.hid hga
  rw [← hga] at HSA HSB ⊢
  obtain ⟨gb,hgb⟩:∃ gb,gb=ga + 1:=⟨_,rfl⟩
  have HGB:=Lib.hid hgb
  rw [← hgb] at HSB ⊢
  clear hga hgb
  generalize ((w.alloc (.cells #[.int .i64 a.k,.int .i64 a.i,.bool a.b,.string a.s] 24)).alloc (.cells #[.int .i64 b.k,.int .i64 b.i,.bool b.b,.string b.s] 24))=u at *
  obtain ⟨⟨a0,a1,a2,a3⟩,fa0,fa1,fa2,fa3⟩:=HSA.out.at
  obtain ⟨⟨b0,b1,b2,b3⟩,fb0,fb1,fb2,fb3⟩:=HSB.out.at
  have hne:¬ ga=gb:=by have:=HGB.out;omega
  have hne2:¬ gb=ga:=by have:=HGB.out;omega
  go_region_law (first
    | (have hx:=HSA1.out;clear hx;go_simp;go_at_call 54;refine (T2.out _).mono ?_;rintro e w3 ⟨rfl,hb3⟩
       have HB3:=Lib.hid hb3
       first
         | (have hsa3:=HSA1.out.below hb3;have hsb3:=HSB1.out.below hb3;have HSA3:=Lib.hid hsa3;have HSB3:=Lib.hid hsb3;obtain ⟨⟨g0,g1,g2,g3⟩,fg0,fg1,fg2,fg3⟩:=hsa3.at;obtain ⟨⟨h0,h1,h2,h3⟩,fh0,fh1,fh2,fh3⟩:=hsb3.at;clear hsa3 hsb3 hb3)
         | (have hsa3:=(HSA1.out.store p).below hb3;have hsb3:=(HSB1.out.same ((Frm.chain (u:=w1) (g:=ga) (F:=fun k => k=ga) rfl p).block gb HSB1.out.lt hne2)).below hb3;have HSA3:=Lib.hid hsa3;have HSB3:=Lib.hid hsb3;obtain ⟨⟨g0,g1,g2,g3⟩,fg0,fg1,fg2,fg3⟩:=hsa3.at;obtain ⟨⟨h0,h1,h2,h3⟩,fh0,fh1,fh2,fh3⟩:=hsb3.at;clear hsa3 hsb3 hb3))
    | (go_simp;go_at_call 54;refine (T1.out u.drew).mono ?_;rintro e w1 ⟨rfl,hb1⟩
       have hsa1:=Slot.below (w:=u.drew) (g:=ga) (v:=a) ⟨HSA.out.b⟩ hb1;have hsb1:=Slot.below (w:=u.drew) (g:=gb) (v:=b) ⟨HSB.out.b⟩ hb1
       have HSA1:=Lib.hid hsa1;have HSB1:=Lib.hid hsb1;have HB1:=Lib.hid hb1
       obtain ⟨⟨c0,c1,c2,c3⟩,fc0,fc1,fc2,fc3⟩:=hsa1.at;obtain ⟨⟨d0,d1,d2,d3⟩,fd0,fd1,fd2,fd3⟩:=hsb1.at;clear hsa1 hsb1 hb1 T1))
  all_goals (
    have k0:=Frm.chain (u:=w3) (g:=ga) (F:=fun k => k=ga) rfl p
    have k1:=HSA3.out.store p
    have k2:=HSB3.out.same (k0.block gb HSB3.out.lt hne2)
    have hw:=Frm.to_below (Frm.to_below (HB0.out.drew.trans ((HB1.out.mono HB0.out.size).trans (HB3.out.mono (Nat.le_trans HB0.out.size HB1.out.size)))) k0 (fun k e => by rw [e,HGA.out];exact Nat.le_refl _) (Nat.le_refl _)) (Frm.chain (u:=((((w3.setCell ⟨ga,0,none⟩ (.int .i64 p.k)).setCell ⟨ga,1,none⟩ (.int .i64 p.i)).setCell ⟨ga,2,none⟩ (.bool p.b)).setCell ⟨ga,3,none⟩ (.string p.s))) (g:=gb) (F:=fun k => k=gb) rfl q) (fun k e => by rw [e,HGB.out,HGA.out];exact Nat.le_succ _) (Nat.le_refl _)
    have k3:=Frm.chain (u:=((((w3.setCell ⟨ga,0,none⟩ (.int .i64 p.k)).setCell ⟨ga,1,none⟩ (.int .i64 p.i)).setCell ⟨ga,2,none⟩ (.bool p.b)).setCell ⟨ga,3,none⟩ (.string p.s))) (g:=gb) (F:=fun k => k=gb) rfl q
    have k4:=k1.same (k3.block ga k1.lt hne)
    have k5:=k2.store q
    have HW:=Lib.hid hw
    have HK4:=Lib.hid k4
    have HK5:=Lib.hid k5
    clear k0 k1 k2 k3 k4 k5 hw HSA3 HSB3 HB3 HSA1 HSB1 HB1 HB0 HSA HSB g0 g1 g2 g3 fg0 fg1 fg2 fg3 h0 h1 h2 h3 fh0 fh1 fh2 fh3 c0 c1 c2 c3 fc0 fc1 fc2 fc3 d0 d1 d2 d3 fd0 fd1 fd2 fd3 a0 a1 a2 a3 fa0 fa1 fa2 fa3 b0 b1 b2 b3 fb0 fb1 fb2 fb3 hne hne2
    generalize ((((((((w3.setCell ⟨ga,0,none⟩ (.int .i64 p.k)).setCell ⟨ga,1,none⟩ (.int .i64 p.i)).setCell ⟨ga,2,none⟩ (.bool p.b)).setCell ⟨ga,3,none⟩ (.string p.s)).setCell ⟨gb,0,none⟩ (.int .i64 q.k)).setCell ⟨gb,1,none⟩ (.int .i64 q.i)).setCell ⟨gb,2,none⟩ (.bool q.b)).setCell ⟨gb,3,none⟩ (.string q.s))=w5 at *
    obtain ⟨⟨x0,x1,x2,x3⟩,_⟩:=HK4.out.at
    obtain ⟨⟨y0,y1,y2,y3⟩,_⟩:=HK5.out.at
    clear HK4 HK5 HGA HGB
    obtain ⟨pk,pi,pb,ps⟩:=p
    obtain ⟨qk,qi,qb,qs⟩:=q
    simp only at x0 x1 x2 x3 y0 y1 y2 y3
    by_cases hk:pk=qk
    · subst hk
      rcases (show pk=1∨pk=2∨pk=3∨(pk ≠ 1∧pk ≠ 2∧pk ≠ 3) by omega) with rfl | rfl | rfl | ⟨n1,n2,n3⟩
      · have hd:D=decide (pi < qi):=by
          have:=HD.out
          unfold ordP at this
          simp at this
          rw [Bool.eq_iff_iff,this,decide_eq_true_iff]
        subst hd
        go_wp2
        go_ret
        exact ⟨rfl,HW.out⟩
      · have hd:D=(!pb && qb):=by
          have:=HD.out
          unfold ordP at this
          simp at this
          rw [Bool.eq_iff_iff,this]
          cases pb <;> cases qb <;> simp
        subst hd
        cases pb <;> cases qb
        all_goals (
          go_wp2
          go_ret
          exact ⟨rfl,HW.out⟩)
      · have hd:D=true ↔ cmpK ps qs < 0:=by
          have:=HD.out
          unfold ordP at this
          simpa using this
        have hd2:D=Op.bytesLess ps.toList qs.toList:=by
          rw [less_cmp,ByteArray.toList_eq,ByteArray.toList_eq,Bool.eq_iff_iff,hd,decide_eq_true_iff]
        subst hd2
        go_wp2
        go_ret
        exact ⟨rfl,HW.out⟩
      · have hd:D=false:=by
          have:=HD.out
          unfold ordP at this
          simp [n1,n2,n3] at this
          exact this
        subst hd
        have e1:(pk == 1)=false:=by simpa using n1
        have e2:(pk == 2)=false:=by simpa using n2
        have e3:(pk == 3)=false:=by simpa using n3
        clear n1 n2 n3
        go_wp2
        go_ret
        exact ⟨rfl,HW.out⟩
    · have hd:D=decide (pk < qk):=by
        have:=HD.out
        unfold ordP at this
        simp [hk] at this
        rw [Bool.eq_iff_iff,this,decide_eq_true_iff]
      subst hd
      have hne:(pk != qk)=true:=by simpa using hk
      clear hk
      go_wp2
      go_ret
      exact ⟨rfl,HW.out⟩)
end Go.Proofs.YtfbmlefhjoblbaaGreat

namespace Go.Proofs.YtfbmlefhjoblbaaGreat
open Go.Conc Go.RowKit
set_option linter.unusedVariables false
set_option linter.unusedSimpArgs false
theorem kind_plain (v:V):kindV (plainV v)=kindV v:=by
  have h:=plainV_kind v
  have h2:=kindV_range v
  rw [kindV_in (by omega),h]
theorem kind_zero_plain {v:V} (h:kindV v=0):plainV v=zeroV :=
  plainV_null (fun e => by rw [kind_one.2 e] at h;omega) (fun e => by rw [kind_two.2 e] at h;omega) (fun e => by rw [kind_three.2 e] at h;omega)
theorem kind_zeroV:kindV zeroV=0:=rfl
theorem plain_null_iff (v:V):plainV v=zeroV ↔ kindV v=0:=by
  constructor
  · intro h
    have:=plainV_kind v
    rw [h] at this
    exact this.symm
  · exact kind_zero_plain
theorem ord_pl (a b:V):(ordV (plainV a) b < 0)=(ordV a b < 0):=by
  rw [ord_plain,ord_plain,plainV_twice]
theorem ord_pr (a b:V):(ordV a (plainV b) < 0)=(ordV a b < 0):=by
  rw [ord_plain,ord_plain,plainV_twice]
theorem ord_pos (a b:V):0 < ordV a b ↔ ordV b a < 0:=by
  have h0:ordV a b=0 ↔ ¬ ordV a b < 0∧¬ ordV b a < 0:=(ordV_zero a b).trans (ord_same a b)
  have h1:=ord_asym b a
  omega
theorem ord_null_r {a b:V} (h:kindV b=0):¬ ordV a b < 0:=by
  rw [ord_lt_iff]
  have:=kindV_range a
  rintro (h2 | ⟨h2,h3⟩) <;> omega
theorem ord_null_l {a b:V} (h:kindV a=0):ordV a b < 0 ↔ kindV b ≠ 0:=by
  rw [ord_lt_iff]
  have:=kindV_range b
  constructor
  · rintro (h2 | ⟨h2,h3⟩) <;> omega
  · intro h2;left;omega
def lessA (a b:V):V:=if kindV a=0∨(kindV b ≠ 0∧ordV b a < 0) then b else a
def moreA (a b:V):V:=if ordV a b < 0 then b else a
def bnd (v:V):V:=if kindV v=0 then zeroV else v
theorem bnd_null {v:V} (h:kindV v=0):bnd v=zeroV:=by unfold bnd;rw [if_pos h]
theorem bnd_some {v:V} (h:kindV v ≠ 0):bnd v=v:=by unfold bnd;rw [if_neg h]
theorem bnd_size (v:V):(bnd v).s.size≤v.s.size:=by
  unfold bnd;split
  · exact Nat.zero_le _
  · exact Nat.le_refl _
def leastA (vs:List V):V:=vs.foldl (fun m v => lessA m (bnd v)) zeroV
def mostA (vs:List V):V:=vs.foldl (fun m v => moreA m (bnd v)) zeroV
def nullsA (vs:List V):Nat:=vs.foldl (fun n v => if kindV v=0 then n + 1 else n) 0
theorem leastA_snoc (vs:List V) (v:V):leastA (vs ++ [v])=lessA (leastA vs) (bnd v):=by simp [leastA]
theorem mostA_snoc (vs:List V) (v:V):mostA (vs ++ [v])=moreA (mostA vs) (bnd v):=by simp [mostA]
theorem nullsA_snoc (vs:List V) (v:V):nullsA (vs ++ [v])=if kindV v=0 then nullsA vs + 1 else nullsA vs:=by simp [nullsA]
theorem nullsA_le (vs:List V):nullsA vs≤vs.length:=by
  induction vs using snoc_ind with
  | h0 => exact Nat.le_refl _
  | h1 vs v ih => rw [nullsA_snoc,List.length_append];simp only [List.length_singleton];split <;> omega
def lessR (m v:V):V:=if kindV m=0∨ordV (plainV v) m < 0 then plainV v else m
def moreR (m v:V):V:=if kindV m=0∨0 < ordV (plainV v) m then plainV v else m
theorem less_ref {v:V} (m:V) (h:kindV v ≠ 0):plainV (lessA m (bnd v))=lessR (plainV m) v:=by
  unfold lessA lessR
  rw [bnd_some h,kind_plain]
  simp only [ord_pl,ord_pr]
  by_cases c:kindV m=0∨ordV v m < 0
  · rw [if_pos c,if_pos (c.elim .inl fun c => .inr ⟨h,c⟩)]
  · rw [if_neg c,if_neg fun c2 => c (c2.elim .inl fun c3 => .inr c3.2)]
theorem more_ref {v:V} (m:V) (h:kindV v ≠ 0):plainV (moreA m (bnd v))=moreR (plainV m) v:=by
  unfold moreA moreR
  rw [bnd_some h,kind_plain]
  simp only [ord_pos,ord_pl,ord_pr]
  by_cases c:kindV m=0
  · rw [if_pos ((ord_null_l c).2 h),if_pos (.inl c)]
  · by_cases c2:ordV m v < 0
    · rw [if_pos c2,if_pos (.inr c2)]
    · rw [if_neg c2,if_neg (by rintro (x | x);exact c x;exact c2 x)]
theorem less_none {v:V} (m:V) (h:kindV v=0):plainV (lessA m (bnd v))=plainV m:=by
  unfold lessA
  rw [bnd_null h]
  by_cases c:kindV m=0
  · rw [if_pos (.inl c),kind_zero_plain c];rfl
  · rw [if_neg]
    rintro (x | ⟨x,_⟩)
    · exact c x
    · exact x kind_zeroV
theorem more_none {v:V} (m:V) (h:kindV v=0):moreA m (bnd v)=m:=by
  unfold moreA
  rw [bnd_null h,if_neg (ord_null_r kind_zeroV)]
theorem less_plain (a b:V):plainV (lessA a b)=lessA (plainV a) (plainV b):=by
  unfold lessA
  rw [kind_plain,kind_plain]
  simp only [ord_pl,ord_pr]
  split <;> rfl
theorem more_plain (a b:V):plainV (moreA a b)=moreA (plainV a) (plainV b):=by
  unfold moreA
  simp only [ord_pl,ord_pr]
  split <;> rfl
def LtA (b a:V):Prop:=kindV b ≠ 0∧(kindV a=0∨ordV b a < 0)
instance instLtA (a b:V):Decidable (LtA a b):=by unfold LtA;exact inferInstance
theorem lessA_size {N:Nat} {a b:V} (ha:a.s.size≤N) (hb:b.s.size≤N):(lessA a b).s.size≤N:=by unfold lessA;split <;> assumption
theorem moreA_size {N:Nat} {a b:V} (ha:a.s.size≤N) (hb:b.s.size≤N):(moreA a b).s.size≤N:=by unfold moreA;split <;> assumption
theorem least_size {N:Nat} (vs:List V):(∀ v ∈ vs,v.s.size≤N)→(leastA vs).s.size≤N:=by
  induction vs using snoc_ind with
  | h0 => intro _;exact Nat.zero_le _
  | h1 vs v ih =>
    intro h
    rw [leastA_snoc]
    exact lessA_size (ih fun x hx => h x (by simp [hx])) (Nat.le_trans (bnd_size v) (h v (by simp)))
theorem most_size {N:Nat} (vs:List V):(∀ v ∈ vs,v.s.size≤N)→(mostA vs).s.size≤N:=by
  induction vs using snoc_ind with
  | h0 => intro _;exact Nat.zero_le _
  | h1 vs v ih =>
    intro h
    rw [mostA_snoc]
    exact moreA_size (ih fun x hx => h x (by simp [hx])) (Nat.le_trans (bnd_size v) (h v (by simp)))
structure S where
  c:Int
  n:Int
  lo:V
  hi:V
def ofA (c:Int) (vs:List V):S:=⟨c,nullsA vs,plainV (leastA vs),plainV (mostA vs)⟩
end Go.Proofs.YtfbmlefhjoblbaaGreat
