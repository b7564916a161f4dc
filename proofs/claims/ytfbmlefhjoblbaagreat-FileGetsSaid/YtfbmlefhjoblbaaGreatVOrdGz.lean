/- Spaces and remarks left out: a claim is at most so large. -/
import Derived.Lib.Bytealg
import Derived.Test.YtfbmlefhjoblbaaGreatNPFileGetsGz6
import Derived.Deep.QuietTactic
import Derived.Test.YtfbmlefhjoblbaaGreatNPFileGetsGz3
namespace Go.Proofs.YtfbmlefhjoblbaaGreat
open Go
abbrev cmpL (a b:List UInt8):Int:=Lib.compareBytes a b
abbrev cmpK (a b:ByteArray):Int:=Lib.compareBytes a.data.toList b.data.toList
theorem cmpL_refl (a:List UInt8):cmpL a a=0:=by
  induction a with
  | nil => rfl
  | cons x a ih => simp only [cmpL,Lib.compareBytes];rw [if_neg (by simp),if_neg (by simp)];exact ih
theorem cmpL_cons (x y:UInt8) (a b:List UInt8):cmpL (x :: a) (y :: b)=if x < y then -1 else if y < x then 1 else cmpL a b:=rfl
theorem cmpL_eq (a b:List UInt8) (h:cmpL a b=0):a=b:=by
  induction a generalizing b with
  | nil => cases b with
    | nil => rfl
    | cons y b => simp [cmpL,Lib.compareBytes] at h
  | cons x a ih =>
    cases b with
    | nil => simp [cmpL,Lib.compareBytes] at h
    | cons y b =>
      rw [cmpL_cons] at h
      split at h; · simp at h
      split at h; · simp at h
      rename_i h1 h2
      have:x=y:=by
        rw [UInt8.lt_iff_toNat_lt] at h1 h2
        exact UInt8.toNat_inj.1 (by omega)
      rw [this,ih b h]
theorem cmpL_swap (a b:List UInt8):cmpL a b = - cmpL b a:=by
  induction a generalizing b with
  | nil => cases b <;> simp [cmpL,Lib.compareBytes]
  | cons x a ih =>
    cases b with
    | nil => simp [cmpL,Lib.compareBytes]
    | cons y b =>
      rw [cmpL_cons,cmpL_cons,ih b]
      simp only [UInt8.lt_iff_toNat_lt]
      by_cases h1:x.toNat < y.toNat
      · rw [if_pos h1,if_neg (by omega),if_pos h1]
      · by_cases h2:y.toNat < x.toNat
        · rw [if_neg h1,if_pos h2,if_pos h2];rfl
        · rw [if_neg h1,if_neg h2,if_neg h2,if_neg h1]
theorem cmpK_refl (a:ByteArray):cmpK a a=0:=cmpL_refl _
theorem cmpK_eq (a b:ByteArray) (h:cmpK a b=0):a=b:=by
  have:=cmpL_eq _ _ h
  cases a;cases b
  exact congrArg ByteArray.mk (Array.toList_inj.1 this)
theorem cmpK_swap (a b:ByteArray):cmpK a b = - cmpK b a:=cmpL_swap _ _
end Go.Proofs.YtfbmlefhjoblbaaGreat
namespace Go.Proofs.YtfbmlefhjoblbaaGreat
open Go.Conc Go.RowKit
theorem bel_drewN {B:Nat} {a w:World} {n:Nat} (h:Below B a w):Below B a (w.drewN n):=⟨h.os,h.tape,h.output,h.size,h.block⟩
theorem cmpL_drop:∀ (i:Nat) (a b:List UInt8),a.take i=b.take i→i≤a.length→i≤b.length→cmpL a b=cmpL (a.drop i) (b.drop i)
  | 0,_,_,_,_,_ => rfl
  | i + 1,[],_,_,h,_ => absurd h (by simp)
  | i + 1,_ :: _,[],_,_,h => absurd h (by simp)
  | i + 1,x :: a,y :: b,h,ha,hb => by
    simp only [List.take_succ_cons,List.cons.injEq] at h
    obtain ⟨rfl,h⟩:=h
    rw [cmpL_cons,if_neg (by simp),if_neg (by simp)]
    simpa using cmpL_drop i a b h (by simpa using ha) (by simpa using hb)
theorem cmpK_take {a b:ByteArray} {i:Nat} (h:a.data.toList.take i=b.data.toList.take i) (ha:i≤a.size) (hb:i≤b.size):cmpK a b=cmpL (a.data.toList.drop i) (b.data.toList.drop i) :=
  cmpL_drop i _ _ h (by simpa using ha) (by simpa using hb)
theorem cmpK_other {a b:ByteArray} {i:Nat} (h:a.data.toList.take i=b.data.toList.take i) (ha:i < a.size) (hb:i < b.size) (hne:a[i].toNat ≠ b[i].toNat):decide (cmpK a b < 0)=decide (a[i].toNat < b[i].toNat):=by
  rw [cmpK_take h (by omega) (by omega)]
  have e1:a.data.toList.drop i=a[i] :: a.data.toList.drop (i + 1):=by
    rw [List.drop_eq_getElem_cons (by simpa using ha)]
    simp
    rfl
  have e2:b.data.toList.drop i=b[i] :: b.data.toList.drop (i + 1):=by
    rw [List.drop_eq_getElem_cons (by simpa using hb)]
    simp
    rfl
  rw [e1,e2,cmpL_cons]
  simp only [UInt8.lt_iff_toNat_lt]
  by_cases h1:a[i].toNat < b[i].toNat
  · rw [if_pos h1]
    have:a[i].toNat < b[i].toNat:=by omega
    simp [this]
  · rw [if_neg h1,if_pos (by omega)]
    have:¬ a[i].toNat < b[i].toNat:=by omega
    simp [this]
theorem cmpK_short {a b:ByteArray} {i:Nat} (h:a.data.toList.take i=b.data.toList.take i) (ha:i≤a.size) (hb:i≤b.size) (hs:i=a.size∨i=b.size):decide (cmpK a b < 0)=decide (a.size < b.size):=by
  rw [cmpK_take h ha hb]
  have la:a.data.toList.length=a.size:=by simp
  have lb:b.data.toList.length=b.size:=by simp
  by_cases h1:i=a.size
  · have e1:a.data.toList.drop i=[]:=List.drop_eq_nil_of_le (by omega)
    rw [e1]
    by_cases h2:i=b.size
    · have e2:b.data.toList.drop i=[]:=List.drop_eq_nil_of_le (by omega)
      rw [e2]
      have:¬ a.size < b.size:=by omega
      simp [this,cmpL,Lib.compareBytes]
    · obtain ⟨x,r,e2⟩:∃ x r,b.data.toList.drop i=x :: r:=⟨_,_,List.drop_eq_getElem_cons (by omega)⟩
      rw [e2]
      have:a.size < b.size:=by omega
      simp [this,cmpL,Lib.compareBytes]
  · have h2:i=b.size:=by omega
    have e2:b.data.toList.drop i=[]:=List.drop_eq_nil_of_le (by omega)
    obtain ⟨x,r,e1⟩:∃ x r,a.data.toList.drop i=x :: r:=⟨_,_,List.drop_eq_getElem_cons (by omega)⟩
    rw [e1,e2]
    have:¬ a.size < b.size:=by omega
    simp [this,cmpL,Lib.compareBytes]
theorem take_next {a b:ByteArray} {i:Nat} (h:a.data.toList.take i=b.data.toList.take i) (ha:i < a.size) (hb:i < b.size) (he:a[i].toNat=b[i].toNat):a.data.toList.take (i + 1)=b.data.toList.take (i + 1):=by
  rw [List.take_add_one,List.take_add_one,h]
  have e1:a.data.toList[i]? = some a[i]:=by
    rw [List.getElem?_eq_getElem (by simpa using ha)]
    simp
    rfl
  have e2:b.data.toList[i]? = some b[i]:=by
    rw [List.getElem?_eq_getElem (by simpa using hb)]
    simp
    rfl
  rw [e1,e2,UInt8.toNat_inj.1 he]
set_option maxHeartbeats 800000 in
theorem rbelow_any (a b:ByteArray) (w:World) (hs:b.size≤9223372036854775807) :
    Calls Tryz.prog 56 #[.string a,.string b] w fun e w' => e=.returned (.bool (decide (cmpK a b < 0)))∧Below w.heap.size w w':=by
  go_enter Tryz.func56,Tryz.ntmps56
  go_wp2
  go_loopw [5] (fun i wr => ∃ n:Nat,n≤a.size∧n≤b.size∧i=.int .i64 n∧Hid (a.data.toList.take n=b.data.toList.take n)∧Below w.heap.size w wr) (fun i _ => b.size - (intOf i).toNat)
  case atStart => exact ⟨0,Nat.zero_le _,Nat.zero_le _,rfl,rfl,Below.refl _ _⟩
  case round =>
    obtain ⟨n,hna,hnb,rfl,HT,hbel⟩:=hrel
    have HBel:=Lib.hid hbel
    clear hbel
    by_cases h1:n < a.size
    · by_cases h2:n < b.size
      · by_cases he:a[n].toNat=b[n].toNat
        · go_wp2
          go_quiet (fail)
          go_wp2
          go_roundw
          case rel => exact ⟨n + 1,by omega,by omega,by go_num,take_next HT.out h1 h2 he,bel_drewN HBel.out⟩
          case measure => simp [intOf];omega
        · have HO:=Lib.hid (cmpK_other HT.out h1 h2 he)
          go_wp2
          go_quiet (fail)
          go_wp2
          go_quiet (fail)
          go_wp2
          go_ret
          exact ⟨by rw [HO.out];rfl,bel_drewN (bel_drewN HBel.out)⟩
      · have HO:=Lib.hid (cmpK_short HT.out hna hnb (.inr (by omega)))
        go_wp2
        go_ret
        exact ⟨by rw [HO.out];rfl,HBel.out⟩
    · have HO:=Lib.hid (cmpK_short HT.out hna hnb (.inl (by omega)))
      go_wp2
      go_ret
      exact ⟨by rw [HO.out];rfl,HBel.out⟩
end Go.Proofs.YtfbmlefhjoblbaaGreat
namespace Go.Proofs.YtfbmlefhjoblbaaGreat
open Go.Conc Go.RowKit
set_option linter.unusedVariables false
set_option linter.unusedSimpArgs false
def ordV (a b:V):Int :=
  if kindV a < kindV b then -1 else if kindV b < kindV a then 1 else
  if kindV a=1 then (if a.i < b.i then -1 else if b.i < a.i then 1 else 0)
  else if kindV a=2 then (if (!a.b && b.b)=true then -1 else if (a.b && !b.b)=true then 1 else 0)
  else if kindV a=3 then (if cmpK a.s b.s < 0 then -1 else if cmpK b.s a.s < 0 then 1 else 0) else 0
set_option maxRecDepth 100000 in
set_option maxHeartbeats 4000000 in
theorem rcmp_any (a b:V) (ha:a.s.size≤9223372036854775807) (hb:b.s.size≤9223372036854775807) (w:World):Calls Tryz.prog 20 #[.agg #[.int .i64 a.k,.int .i64 a.i,.bool a.b,.string a.s],.agg #[.int .i64 b.k,.int .i64 b.i,.bool b.b,.string b.s]] w fun e w' => e=.returned (.int .i64 (ordV a b))∧Below w.heap.size w w':=by
  obtain ⟨R,hR⟩:∃ R,R=ordV a b:=⟨_,rfl⟩
  rw [← hR]
  have HR:=Lib.hid hR
  clear hR
  have T1:=Lib.hid rkind_any
  have T3:Hid (∀ (x y:ByteArray),y.size≤9223372036854775807→∀ u,Calls Tryz.prog 56 #[.string x,.string y] u fun e w' => e=.returned (.bool (decide (cmpK x y < 0)))∧Below u.heap.size u w'):=fun x y h u => rbelow_any x y u h
  obtain ⟨u,hu⟩:∃ u,u=((w.alloc (.cells #[.int .i64 a.k,.int .i64 a.i,.bool a.b,.string a.s] 24)).alloc (.cells #[.int .i64 b.k,.int .i64 b.i,.bool b.b,.string b.s] 24)):=⟨_,rfl⟩
  have hs0:Slot u w.heap.size a:=by rw [hu];exact (Slot.new w a).alloc _
  have hs1:Slot u (w.heap.size + 1) b:=by
    have:=Slot.new (w.alloc (.cells #[.int .i64 a.k,.int .i64 a.i,.bool a.b,.string a.s] 24)) b
    rw [hu];simpa using this
  have hb0:Below w.heap.size w u:=by rw [hu];exact (((Below.refl _ _).alloc (Nat.le_refl _) _).alloc (by simp) _)
  have HS0:=Lib.hid hs0
  have HS1:=Lib.hid hs1
  have HB0:=Lib.hid hb0
  clear hs0 hs1 hb0
  go_enter Tryz.func20,Tryz.ntmps20
  go_upto_region 1 with fail
  rw [← hu]
  clear hu
  refine region_class (fun w' => Below u.heap.size u w') (by kernel_rfl) (by kernel_rfl) (Below.refl _ _).drew ?_
  repeat (
    refine wpQuiet_step (fun K hK => ?_)
    go_simp
    first
    | (refine hK _ ?_;clear hK K)
    | (apply Exists.intro
       refine ⟨fun w1 hw1 => ?_,hK _ ?_⟩
       (first
         | (obtain ⟨⟨p0,p1,p2,p3⟩,_⟩:=(HS0.out.below hw1).at;simp only [p0,p1,p2,p3,Result.andThen];exact ⟨trivial,rfl⟩)
         | (obtain ⟨⟨p0,p1,p2,p3⟩,_⟩:=(HS1.out.below hw1).at;simp only [p0,p1,p2,p3,Result.andThen];exact ⟨trivial,rfl⟩)
         | (go_at_call 55;exact (T1.out _ _).mono fun e w2 ⟨he,hb⟩ => ⟨he,hw1.trans (hb.mono hw1.size)⟩)
         | (exact rfl))
       clear hK K))
  refine wpQuiet_nil ?_
  intro w1 hw1
  have HS0':=Lib.hid (HS0.out.below hw1)
  have HS1':=Lib.hid (HS1.out.below hw1)
  have HB1:=Lib.hid (HB0.out.trans (hw1.mono HB0.out.size))
  clear HS0 HS1 HB0 hw1 T1
  have hka:=kindV_range a
  have hkb:=kindV_range b
  have hR:=HR.out
  clear HR
  unfold ordV at hR
  generalize kindV a=ka at *
  generalize kindV b=kb at *
  obtain ⟨⟨p0,p1,p2,p3⟩,_⟩:=HS0'.out.at
  obtain ⟨⟨q0,q1,q2,q3⟩,_⟩:=HS1'.out.at
  by_cases hlt:ka < kb
  · rw [if_pos hlt] at hR
    subst hR
    have hne:(ka != kb)=true:=by simp;omega
    clear p0 p1 p2 p3 q0 q1 q2 q3
    go_wp2
    go_ret
    exact ⟨rfl,HB1.out⟩
  rw [if_neg hlt] at hR
  by_cases hgt:kb < ka
  · rw [if_pos hgt] at hR
    subst hR
    have hne:(ka != kb)=true:=by simp;omega
    clear p0 p1 p2 p3 q0 q1 q2 q3
    go_wp2
    go_ret
    exact ⟨rfl,HB1.out⟩
  rw [if_neg hgt] at hR
  obtain rfl:ka=kb:=by omega
  clear hlt hgt hkb
  by_cases h1:ka=1
  · rw [if_pos h1] at hR
    subst h1
    clear p0 p2 p3 q0 q2 q3 hka
    by_cases hlt:a.i < b.i
    · rw [if_pos hlt] at hR
      subst hR
      have hng:¬ b.i < a.i:=by omega
      go_wp2
      go_quiet (fail)
      go_wp2
      go_ret
      exact ⟨rfl,bel_drewN HB1.out⟩
    rw [if_neg hlt] at hR
    by_cases hgt:b.i < a.i
    · rw [if_pos hgt] at hR
      subst hR
      go_wp2
      go_quiet (fail)
      go_wp2
      go_ret
      exact ⟨rfl,bel_drewN HB1.out⟩
    · rw [if_neg hgt] at hR
      subst hR
      go_wp2
      go_quiet (fail)
      go_wp2
      go_ret
      exact ⟨rfl,bel_drewN HB1.out⟩
  rw [if_neg h1] at hR
  by_cases h2:ka=2
  · rw [if_pos h2] at hR
    subst h2
    clear p0 p1 p3 q0 q1 q3 hka h1
    generalize a.b=x at *
    generalize b.b=y at *
    cases x <;> cases y
    all_goals
      simp at hR
      subst hR
      go_wp2
      go_quiet (fail)
      go_wp2
      go_ret
      exact ⟨rfl,bel_drewN HB1.out⟩
  rw [if_neg h2] at hR
  by_cases h3:ka=3
  · rw [if_pos h3] at hR
    subst h3
    clear p0 p1 p2 p3 q0 q1 q2 q3 hka h1 h2
    go_upto_region 13 with fail
    refine region_class (fun w' => Below w1.heap.size w1 w') (by kernel_rfl) (by kernel_rfl) (Below.refl _ _).drew ?_
    repeat (
      refine wpQuiet_step (fun K hK => ?_)
      go_simp
      first
      | (refine hK _ ?_;clear hK K)
      | (apply Exists.intro
         refine ⟨fun w2 hw2 => ?_,hK _ ?_⟩
         (first
           | (obtain ⟨⟨p0,p1,p2,p3⟩,_⟩:=(HS0'.out.below hw2).at;simp only [p3,Result.andThen];exact ⟨trivial,rfl⟩)
           | (obtain ⟨⟨p0,p1,p2,p3⟩,_⟩:=(HS1'.out.below hw2).at;simp only [p3,Result.andThen];exact ⟨trivial,rfl⟩)
           | (go_at_call 56;exact (T3.out _ _ (by assumption) _).mono fun e w3 ⟨he,hb⟩ => ⟨he,hw2.trans (hb.mono hw2.size)⟩)
           | (exact rfl))
         clear hK K))
    refine wpQuiet_nil ?_
    intro w2 hw2
    have HB2:=Lib.hid (HB1.out.trans (hw2.mono HB1.out.size))
    clear HS0' HS1' hw2 T3 HB1 ha hb
    by_cases c1:cmpK a.s b.s < 0
    · rw [if_pos c1] at hR
      subst hR
      have e1:decide (cmpK a.s b.s < 0)=true:=decide_eq_true c1
      generalize decide (cmpK a.s b.s < 0)=x1 at *
      generalize decide (cmpK b.s a.s < 0)=x2 at *
      subst e1
      clear c1
      go_wp2
      go_ret
      exact ⟨rfl,HB2.out⟩
    rw [if_neg c1] at hR
    have e1:decide (cmpK a.s b.s < 0)=false:=decide_eq_false c1
    by_cases c2:cmpK b.s a.s < 0
    · rw [if_pos c2] at hR
      subst hR
      have e2:decide (cmpK b.s a.s < 0)=true:=decide_eq_true c2
      generalize decide (cmpK a.s b.s < 0)=x1 at *
      generalize decide (cmpK b.s a.s < 0)=x2 at *
      subst e1 e2
      clear c1 c2
      go_wp2
      go_ret
      exact ⟨rfl,HB2.out⟩
    · rw [if_neg c2] at hR
      subst hR
      have e2:decide (cmpK b.s a.s < 0)=false:=decide_eq_false c2
      generalize decide (cmpK a.s b.s < 0)=x1 at *
      generalize decide (cmpK b.s a.s < 0)=x2 at *
      subst e1 e2
      clear c1 c2
      go_wp2
      go_ret
      exact ⟨rfl,HB2.out⟩
  rw [if_neg h3] at hR
  obtain rfl:ka=0:=by omega
  clear p0 p1 p2 p3 q0 q1 q2 q3 hka h1 h2 h3
  subst hR
  go_wp2
  go_ret
  exact ⟨rfl,HB1.out⟩
theorem cmpK_zero {a b:ByteArray} (h1:¬ cmpK a b < 0) (h2:¬ cmpK b a < 0):a=b:=by
  have h3:=cmpK_swap a b
  exact cmpK_eq a b (by omega)
theorem ordV_zero (a b:V):ordV a b=0 ↔ plainV a=plainV b:=by
  by_cases hk:kindV a=kindV b
  · unfold ordV
    rw [if_neg (by omega),if_neg (by omega)]
    by_cases h1:kindV a=1
    · rw [if_pos h1,plainV_int (kind_one.1 h1),plainV_int (kind_one.1 (hk ▸ h1))]
      constructor
      · intro h
        split at h
        · omega
        · split at h
          · omega
          · have:a.i=b.i:=by omega
            rw [this]
      · intro h
        injection h with _ h2 _ _
        rw [h2,if_neg (by omega),if_neg (by omega)]
    rw [if_neg h1]
    by_cases h2:kindV a=2
    · rw [if_pos h2,plainV_bool (kind_two.1 h2),plainV_bool (kind_two.1 (hk ▸ h2))]
      generalize a.b=x
      generalize b.b=y
      cases x <;> cases y <;> simp
    rw [if_neg h2]
    by_cases h3:kindV a=3
    · rw [if_pos h3,plainV_text (kind_three.1 h3),plainV_text (kind_three.1 (hk ▸ h3))]
      constructor
      · intro h
        split at h
        · omega
        · split at h
          · omega
          · rename_i c1 c2
            rw [cmpK_zero c1 c2]
      · intro h
        injection h with _ _ _ h4
        rw [h4,cmpK_refl,if_neg (by omega),if_neg (by omega)]
    · rw [if_neg h3]
      have n1:¬ a.k=1:=fun e => h1 (kind_one.2 e)
      have n2:¬ a.k=2:=fun e => h2 (kind_two.2 e)
      have n3:¬ a.k=3:=fun e => h3 (kind_three.2 e)
      have m1:¬ b.k=1:=fun e => h1 (hk ▸ kind_one.2 e)
      have m2:¬ b.k=2:=fun e => h2 (hk ▸ kind_two.2 e)
      have m3:¬ b.k=3:=fun e => h3 (hk ▸ kind_three.2 e)
      rw [plainV_null n1 n2 n3,plainV_null m1 m2 m3]
      simp
  · constructor
    · intro h
      exfalso
      unfold ordV at h
      split at h
      · omega
      · split at h
        · omega
        · omega
    · intro h
      exact absurd (by rw [← plainV_kind,← plainV_kind,h]) hk
end Go.Proofs.YtfbmlefhjoblbaaGreat
namespace Go.Proofs.YtfbmlefhjoblbaaGreat
open Go.Conc Go.RowKit
set_option linter.unusedVariables false
set_option linter.unusedSimpArgs false
theorem ord_lt_iff (a b:V):ordV a b < 0 ↔ kindV a < kindV b∨(kindV a=kindV b∧((kindV a=1∧a.i < b.i)∨(kindV a=2∧a.b=false∧b.b=true)∨(kindV a=3∧cmpK a.s b.s < 0))):=by
  unfold ordV
  by_cases h1:kindV a < kindV b
  · rw [if_pos h1];constructor
    · intro _;exact .inl h1
    · intro _;omega
  rw [if_neg h1]
  by_cases h2:kindV b < kindV a
  · rw [if_pos h2];constructor
    · intro h;omega
    · rintro (h | ⟨h,_⟩) <;> omega
  rw [if_neg h2]
  have he:kindV a=kindV b:=by omega
  by_cases k1:kindV a=1
  · rw [if_pos k1]
    constructor
    · intro h
      refine .inr ⟨he,.inl ⟨k1,?_⟩⟩
      split at h
      · assumption
      · split at h <;> omega
    · rintro (h | ⟨_,⟨_,h⟩ | ⟨h,_⟩ | ⟨h,_⟩⟩)
      · omega
      · rw [if_pos h];omega
      · omega
      · omega
  rw [if_neg k1]
  by_cases k2:kindV a=2
  · rw [if_pos k2]
    constructor
    · intro h
      refine .inr ⟨he,.inr (.inl ⟨k2,?_⟩)⟩
      cases ha:a.b <;> cases hb:b.b <;> rw [ha,hb] at h <;> simp at h ⊢
    · rintro (h | ⟨_,⟨h,_⟩ | ⟨_,h,h3⟩ | ⟨h,_⟩⟩)
      · omega
      · omega
      · rw [h,h3];decide
      · omega
  rw [if_neg k2]
  by_cases k3:kindV a=3
  · rw [if_pos k3]
    constructor
    · intro h
      refine .inr ⟨he,.inr (.inr ⟨k3,?_⟩)⟩
      split at h
      · assumption
      · split at h <;> omega
    · rintro (h | ⟨_,⟨h,_⟩ | ⟨h,_⟩ | ⟨_,h⟩⟩)
      · omega
      · omega
      · omega
      · rw [if_pos h];omega
  rw [if_neg k3]
  constructor
  · intro h;omega
  · rintro (h | ⟨_,⟨h,_⟩ | ⟨h,_⟩ | ⟨h,_⟩⟩) <;> omega
theorem ord_asym (a b:V) (h:ordV a b < 0):¬ ordV b a < 0:=by
  rw [ord_lt_iff] at h ⊢
  rintro h2
  rcases h with h | ⟨e,⟨k,h⟩ | ⟨k,h,h3⟩ | ⟨k,h⟩⟩ <;> rcases h2 with h2 | ⟨e2,⟨k2,h2⟩ | ⟨k2,h2,h4⟩ | ⟨k2,h2⟩⟩ <;> try omega
  · rw [h] at h4;cases h4
  · have h3:=cmpL_swap a.s.data.toList b.s.data.toList;simp only [cmpK,cmpL] at h h2 h3;omega
theorem ord_same (a b:V):plainV a=plainV b ↔ ¬ ordV a b < 0∧¬ ordV b a < 0:=by
  rw [← ordV_zero]
  constructor
  · intro h
    have h2:=(ordV_zero b a).2 ((ordV_zero a b).1 h).symm
    omega
  · rintro ⟨h1,h2⟩
    rw [ord_lt_iff] at h1 h2
    unfold ordV
    have hk:kindV a=kindV b:=by
      by_cases c:kindV a < kindV b
      · exact absurd (.inl c) h1
      · by_cases c2:kindV b < kindV a
        · exact absurd (.inl c2) h2
        · omega
    rw [if_neg (by omega),if_neg (by omega)]
    by_cases k1:kindV a=1
    · rw [if_pos k1,if_neg fun c => h1 (.inr ⟨hk,.inl ⟨k1,c⟩⟩),if_neg fun c => h2 (.inr ⟨hk.symm,.inl ⟨by omega,c⟩⟩)]
    rw [if_neg k1]
    by_cases k2:kindV a=2
    · rw [if_pos k2]
      cases ha:a.b <;> cases hb:b.b
      · rfl
      · exact absurd (.inr ⟨hk,.inr (.inl ⟨k2,ha,hb⟩)⟩) h1
      · exact absurd (.inr ⟨hk.symm,.inr (.inl ⟨by omega,hb,ha⟩)⟩) h2
      · rfl
    rw [if_neg k2]
    by_cases k3:kindV a=3
    · rw [if_pos k3,if_neg fun c => h1 (.inr ⟨hk,.inr (.inr ⟨k3,c⟩)⟩),if_neg fun c => h2 (.inr ⟨hk.symm,.inr (.inr ⟨by omega,c⟩)⟩)]
    rw [if_neg k3]
end Go.Proofs.YtfbmlefhjoblbaaGreat
