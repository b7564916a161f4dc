/- Spaces and remarks left out: a claim is at most so large. -/
import Derived.Test.YtfbmlefhjoblbaaGreatWmathGz
import Derived.Test.YtfbmlefhjoblbaaGreatPmathGz
import Derived.Test.YtfbmlefhjoblbaaGreatSmathGz
namespace Go.Proofs.YtfbmlefhjoblbaaGreat
open Go.Conc Go.RowKit
set_option linter.unusedVariables false
set_option linter.unusedSimpArgs false
def plainB (v:V):List UInt8:=if v.k=1 then vp (zz v.i) else if v.k=2 then [if v.b=true then 1 else 0] else vp v.s.size ++ v.s.data.toList
structure ValK (k:Int) (v:V):Prop where
  kind:v.k=k
  plain:plainV v=v
  lo:-9223372036854775808≤v.i
  hi:v.i≤9223372036854775807
  size:k=3→v.s.size≤64
structure Tk where
  pos:Nat
  bad:Bool
structure Ahead (l:List UInt8) (p:Nat) (r:List UInt8):Prop where
  le:p≤l.length
  is:l.drop p=r
theorem Ahead.split {l:List UInt8} {p:Nat} {x r:List UInt8} (h:Ahead l p (x ++ r)):l=l.take p ++ x ++ r∧(l.take p).length=p :=
  ⟨by rw [List.append_assoc,← h.is,List.take_append_drop],by rw [List.length_take];exact Nat.min_eq_left h.le⟩
theorem Ahead.len {l:List UInt8} {p:Nat} {r:List UInt8} (h:Ahead l p r):l.length=p + r.length:=by
  rw [← h.is,List.length_drop];have:=h.le;omega
theorem Ahead.next {l:List UInt8} {p:Nat} {x r:List UInt8} (h:Ahead l p (x ++ r)):Ahead l (p + x.length) r :=
  ⟨by have:=h.len;rw [List.length_append] at this;omega,by rw [← List.drop_drop,h.is,List.drop_left]⟩
theorem Ahead.assoc {l:List UInt8} {p:Nat} {x y r:List UInt8} (h:Ahead l p (x ++ y ++ r)):Ahead l p (x ++ (y ++ r)):=⟨h.le,by rw [h.is,List.append_assoc]⟩
def tkNum (l:List UInt8) (t:Tk) (most:Nat):Nat × Tk :=
  if t.bad=true∨(readN l t.pos).2.2 ≠ 0∨most < (readN l t.pos).1 then (0,⟨t.pos,true⟩) else ((readN l t.pos).1,⟨(readN l t.pos).2.1.toNat,false⟩)
def tkBytes (l:List UInt8) (t:Tk) (k:Nat):List UInt8 × Tk :=
  if t.bad=true∨l.length < t.pos + k then ([],⟨t.pos,true⟩) else ((l.drop t.pos).take k,⟨t.pos + k,false⟩)
def tkValue (l:List UInt8) (t:Tk) (k:Int):V × Tk :=
  if k=1 then (if t.bad=true∨(readN l t.pos).2.2 ≠ 0 then (zeroV,⟨t.pos,true⟩) else (⟨1,unzz (readN l t.pos).1,false,ByteArray.empty⟩,⟨(readN l t.pos).2.1.toNat,false⟩))
  else if k=2 then (⟨2,0,decide ((tkBytes l t 1).1=[1]),ByteArray.empty⟩,(tkBytes l t 1).2)
  else (⟨k,0,false,textB (tkBytes l (tkNum l t 64).2 (tkNum l t 64).1).1⟩,(tkBytes l (tkNum l t 64).2 (tkNum l t 64).1).2)
def tkPacked (l:List UInt8) (t:Tk) (many w:Nat):List Int × Tk :=
  if t.bad=true∨4096 < many then ([],⟨t.pos,true⟩)
  else ((unpackA (textB (tkBytes l t ((many * w + 7) / 8)).1) many w).1,⟨(tkBytes l t ((many * w + 7) / 8)).2.pos,(tkBytes l t ((many * w + 7) / 8)).2.bad || decide ((unpackA (textB (tkBytes l t ((many * w + 7) / 8)).1) many w).2 ≠ 0)⟩)
def tkRuns (l:List UInt8) (k:Int) (many:Nat):Nat→Tk→List V→List V × Tk
  | 0,t,vs => (vs,t)
  | r + 1,t,vs => if t.bad=true then (vs,t) else
      tkRuns l k many r (tkValue l (tkNum l t 4096).2 k).2 (vs ++ List.replicate (min (tkNum l t 4096).1 (many - vs.length)) (tkValue l (tkNum l t 4096).2 k).1)
def tkWords (l:List UInt8) (k:Int):Nat→Tk→List V→List V × Tk
  | 0,t,vs => (vs,t)
  | r + 1,t,vs => if t.bad=true then (vs,t) else tkWords l k r (tkValue l t k).2 (vs ++ [(tkValue l t k).1])
def tkPick (ws:List V):List Int→List V→List V × Bool
  | [],vs => (vs,false)
  | x :: xs,vs => if (ws.length:Int)≤x then (vs,true) else tkPick ws xs (vs ++ [ws.getD x.toNat zeroV])
def tkSome (l:List UInt8) (t:Tk) (enc:Nat) (k:Int) (many:Nat):List V × Tk :=
  if enc=1 then tkRuns l k many (tkNum l t 4096).1 (tkNum l t 4096).2 []
  else if enc=2 then
    (if (tkPacked l (tkWords l k (tkNum l t 4096).1 (tkNum l t 4096).2 []).2 many (wid ((tkNum l t 4096).1 - 1))).2.bad=true then ([],(tkPacked l (tkWords l k (tkNum l t 4096).1 (tkNum l t 4096).2 []).2 many (wid ((tkNum l t 4096).1 - 1))).2)
     else ((tkPick (tkWords l k (tkNum l t 4096).1 (tkNum l t 4096).2 []).1 (tkPacked l (tkWords l k (tkNum l t 4096).1 (tkNum l t 4096).2 []).2 many (wid ((tkNum l t 4096).1 - 1))).1 []).1,
       ⟨(tkPacked l (tkWords l k (tkNum l t 4096).1 (tkNum l t 4096).2 []).2 many (wid ((tkNum l t 4096).1 - 1))).2.pos,(tkPick (tkWords l k (tkNum l t 4096).1 (tkNum l t 4096).2 []).1 (tkPacked l (tkWords l k (tkNum l t 4096).1 (tkNum l t 4096).2 []).2 many (wid ((tkNum l t 4096).1 - 1))).1 []).2⟩))
  else if k=2 then ((tkPacked l t many 1).1.map fun x => ⟨2,0,decide (x=1),ByteArray.empty⟩,(tkPacked l t many 1).2)
  else tkWords l k many t []
theorem num_there {l r:List UInt8} {p n most:Nat} (h:Ahead l p (vp n ++ r)) (hn:n < 18446744073709551616) (hm:n≤most):tkNum l ⟨p,false⟩ most=(n,⟨p + (vp n).length,false⟩):=by
  obtain ⟨h1,h2⟩:=h.split
  have hr:=readN_vp (l.take p) r n hn
  rw [← h1,h2] at hr
  unfold tkNum
  simp only [hr]
  rw [if_neg (by simp;omega)]
  congr 2
theorem bytes_there {l x r:List UInt8} {p n:Nat} (h:Ahead l p (x ++ r)) (hn:x.length=n):tkBytes l ⟨p,false⟩ n=(x,⟨p + x.length,false⟩):=by
  subst hn
  have hl:=h.len
  rw [List.length_append] at hl
  unfold tkBytes
  rw [if_neg (by simp;omega),h.is,List.take_left]
theorem text_back (s:ByteArray):textB s.data.toList=s:=by
  cases s;rfl
theorem value_there {l r:List UInt8} {p:Nat} {k:Int} {v:V} (hv:ValK k v) (hk:1≤k∧k≤3) (h:Ahead l p (plainB v ++ r)):tkValue l ⟨p,false⟩ k=(v,⟨p + (plainB v).length,false⟩):=by
  have hkv:=hv.kind
  have hp:=hv.plain
  rcases (show k=1∨k=2∨k=3 by omega) with rfl | rfl | rfl
  · have e:plainB v=vp (zz v.i):=if_pos hkv
    rw [e] at h ⊢
    obtain ⟨h1,h2⟩:=h.split
    have hr:=readN_vp (l.take p) r (zz v.i) (zz_lt hv.lo hv.hi)
    rw [← h1,h2] at hr
    unfold tkValue
    rw [if_pos rfl]
    simp only [hr]
    rw [if_neg (by simp),unzz_zz]
    rw [plainV_int hkv] at hp
    rw [hp]
    congr 2
  · have e:plainB v=[if v.b=true then 1 else 0]:=by unfold plainB;rw [if_neg (by omega),if_pos hkv]
    rw [e] at h ⊢
    have hb:=bytes_there h (n:=1) rfl
    unfold tkValue
    rw [if_neg (by omega),if_pos rfl,hb]
    rw [plainV_bool hkv] at hp
    refine Prod.ext ?_ rfl
    rw [← hp]
    simp only
    cases v.b <;> simp
  · have e:plainB v=vp v.s.size ++ v.s.data.toList:=by unfold plainB;rw [if_neg (by omega),if_neg (by omega)]
    rw [e] at h ⊢
    have hs:=hv.size rfl
    have hn:=num_there h.assoc (most:=64) (by omega) hs
    have hb:=bytes_there h.assoc.next (n:=v.s.size) rfl
    unfold tkValue
    rw [if_neg (by omega),if_neg (by omega),hn]
    simp only [hb,text_back]
    rw [plainV_text hkv] at hp
    rw [hp,List.length_append,Nat.add_assoc]
def packB (w:Nat) (xs:List Int):List UInt8:=bytesN (bytesFor xs.length w) (packN w (nats xs))
theorem packB_length (w:Nat) (xs:List Int):(packB w xs).length=bytesFor xs.length w:=bytesN_length _ _
theorem packA_B {w:Nat} {xs:List Int} (hw:w≤16) (hf:fits w xs):packA xs w=(textB (packB w xs),0):=by
  unfold packA packB
  rw [if_pos (by omega),Int.toNat_natCast,if_pos hf]
theorem packed_there {l r:List UInt8} {p w n:Nat} {xs:List Int} (hf:fits w xs) (hw:w≤16) (hn:xs.length=n) (hl:n≤4096) (h:Ahead l p (packB w xs ++ r)):tkPacked l ⟨p,false⟩ n w=(xs,⟨p + (packB w xs).length,false⟩):=by
  subst hn
  have hb:=bytes_there h (n:=(xs.length * w + 7) / 8) (packB_length w xs)
  obtain ⟨t,h1,h2,h3⟩:=pack_there xs w hw (by omega) hf
  rw [packA_B hw hf] at h1
  injection h1 with h1 _
  unfold tkPacked
  rw [if_neg (by simp;omega),hb]
  simp only [h1,h3]
  rfl
def runsB (rs:List (Int × V)):List UInt8:=rs.flatMap fun x => vp x.1.toNat ++ plainB x.2
def expand (rs:List (Int × V)):List V:=rs.flatMap fun x => List.replicate x.1.toNat x.2
theorem runs_there {l r:List UInt8} {k:Int} {many:Nat} (hk:1≤k∧k≤3):∀ (rs:List (Int × V)) (vs:List V) (p:Nat),(∀ x ∈ rs,x.1.toNat≤4096∧ValK k x.2)→vs.length + (expand rs).length≤many →
    Ahead l p (runsB rs ++ r)→tkRuns l k many rs.length ⟨p,false⟩ vs=(vs ++ expand rs,⟨p + (runsB rs).length,false⟩)
  | [],vs,p,_,_,_ => by simp [tkRuns,expand,runsB]
  | x :: rs,vs,p,hx,hm,h => by
    have e1:runsB (x :: rs)=vp x.1.toNat ++ (plainB x.2 ++ runsB rs):=by simp [runsB]
    have e2:expand (x :: rs)=List.replicate x.1.toNat x.2 ++ expand rs:=by simp [expand]
    rw [e1] at h ⊢
    rw [e2] at hm ⊢
    obtain ⟨h1,h2⟩:=hx x (by simp)
    have ha:Ahead l p (vp x.1.toNat ++ (plainB x.2 ++ (runsB rs ++ r))):=⟨h.le,by rw [h.is];simp⟩
    have hn:=num_there ha (most:=4096) (by omega) h1
    have hv:=value_there h2 hk ha.next
    rw [List.length_append,List.length_replicate] at hm
    rw [List.length_cons,tkRuns,if_neg (by simp),hn]
    simp only [hv]
    rw [Nat.min_eq_left (by omega)]
    rw [runs_there hk rs _ _ (fun y hy => hx y (by simp [hy])) (by rw [List.length_append,List.length_replicate];omega) ha.next.next]
    simp [Nat.add_assoc]
theorem words_there {l r:List UInt8} {k:Int} (hk:1≤k∧k≤3):∀ (ws vs:List V) (p:Nat),(∀ x ∈ ws,ValK k x) →
    Ahead l p (ws.flatMap plainB ++ r)→tkWords l k ws.length ⟨p,false⟩ vs=(vs ++ ws,⟨p + (ws.flatMap plainB).length,false⟩)
  | [],vs,p,_,_ => by simp [tkWords]
  | x :: ws,vs,p,hx,h => by
    rw [List.flatMap_cons] at h ⊢
    have hv:=value_there (hx x (by simp)) hk h.assoc
    rw [List.length_cons,tkWords,if_neg (by simp),hv]
    simp only
    rw [words_there hk ws _ _ (fun y hy => hx y (by simp [hy])) h.assoc.next]
    simp [Nat.add_assoc]
theorem pick_all {ws:List V}:∀ (xs:List Int) (vs:List V),(∀ x ∈ xs,x < ws.length)→tkPick ws xs vs=(vs ++ xs.map fun x => ws.getD x.toNat zeroV,false)
  | [],vs,_ => by simp [tkPick]
  | x :: xs,vs,h => by
    rw [tkPick,if_neg (by have:=h x (by simp);omega),pick_all xs _ fun y hy => h y (by simp [hy])]
    simp
end Go.Proofs.YtfbmlefhjoblbaaGreat
namespace Go.Proofs.YtfbmlefhjoblbaaGreat
open Go.Conc Go.RowKit
set_option linter.unusedVariables false
set_option linter.unusedSimpArgs false
def bitV (v:V):Int:=if v.b=true then 1 else 0
def wayP (k:Int) (vs:List V):List UInt8:=if k=2 then packB 1 (vs.map bitV) else vs.flatMap plainB
def wayR (vs:List V):List UInt8:=vp (cutA vs).2.length ++ runsB ((cutA vs).1.zip (cutA vs).2)
def wayW (vs:List V):List UInt8:=vp (buildA vs).1.length ++ ((buildA vs).1.flatMap plainB ++ packB (wid ((buildA vs).1.length - 1)) (buildA vs).2)
def ways (k:Int) (vs:List V) (e:Nat):List UInt8:=if e=1 then wayR vs else if e=2 then wayW vs else wayP k vs
def best1 (k:Int) (vs:List V):Nat:=if (wayR vs).length < (wayP k vs).length then 1 else 0
def best (k:Int) (vs:List V):Nat:=if (wayW vs).length < (ways k vs (best1 k vs)).length then 2 else best1 k vs
theorem best1_le (k:Int) (vs:List V):best1 k vs≤1:=by unfold best1;split <;> omega
theorem best_le (k:Int) (vs:List V):best k vs≤2:=by unfold best;have:=best1_le k vs;split <;> omega
def isNull (v:V):Bool:=decide (kindV v=0)
def someV (vs:List V):List V:=(vs.filter fun v => !isNull v).map plainV
def nullI (vs:List V):List Int:=vs.map fun v => if isNull v=true then 1 else 0
def bodyB (k:Int) (vs:List V):List UInt8:=u8 (best k (someV vs)) :: (vp vs.length ++ (packB 1 (nullI vs) ++ ways k (someV vs) (best k (someV vs))))
structure OkV (k:Int) (v:V):Prop where
  kind:isNull v=true∨(v.k=k∧(k=3→v.s.size≤64∧first v.s.data.toList = -1))
  lo:-9223372036854775808≤v.i
  hi:v.i≤9223372036854775807
theorem OkV.some {k:Int} {v:V} (h:OkV k v) (hk:1≤k∧k≤3) (hn:isNull v=false):ValK k (plainV v):=by
  obtain ⟨h1,h2,h3⟩:=h
  rcases h1 with h1 | ⟨h1,h4⟩
  · rw [hn] at h1;cases h1
  · refine ⟨by rw [plainV_kind,kindV_in (by omega),h1],plainV_twice v,?_,?_,fun e => Nat.le_trans (plainV_size v) (h4 e).1⟩
    · rcases (show v.k=1∨v.k=2∨v.k=3 by omega) with e | e | e
      · rw [plainV_int e];exact h2
      · rw [plainV_bool e];show (-9223372036854775808:Int)≤0;omega
      · rw [plainV_text e];show (-9223372036854775808:Int)≤0;omega
    · rcases (show v.k=1∨v.k=2∨v.k=3 by omega) with e | e | e
      · rw [plainV_int e];exact h3
      · rw [plainV_bool e];show (0:Int)≤9223372036854775807;omega
      · rw [plainV_text e];show (0:Int)≤9223372036854775807;omega
theorem some_ok {k:Int} {vs:List V} (hk:1≤k∧k≤3) (h:∀ v ∈ vs,OkV k v):∀ v ∈ someV vs,ValK k v:=by
  intro v hv
  unfold someV at hv
  obtain ⟨u,hu,rfl⟩:=List.mem_map.1 hv
  obtain ⟨h1,h2⟩:=List.mem_filter.1 hu
  exact (h u h1).some hk (by simpa using h2)
theorem some_le (vs:List V):(someV vs).length≤vs.length:=by unfold someV;rw [List.length_map];exact List.length_filter_le _ _
theorem null_len (vs:List V):(nullI vs).length=vs.length:=by simp [nullI]
theorem null_plain {v:V} (h:isNull v=true):plainV v=zeroV:=by
  have h0:kindV v=0:=of_decide_eq_true h
  have h1:v.k ≠ 1:=fun e => by have:=kind_one.2 e;omega
  have h2:v.k ≠ 2:=fun e => by have:=kind_two.2 e;omega
  have h3:v.k ≠ 3:=fun e => by have:=kind_three.2 e;omega
  exact plainV_null h1 h2 h3
theorem map_plain {vs:List V} (h:∀ v ∈ vs,plainV v=v):vs.map plainV=vs:=by
  conv => rhs;rw [← List.map_id vs]
  exact List.map_congr_left h
theorem expand_expN {m:List Int} {e:List V} (hl:m.length=e.length) (hp:∀ v ∈ e,plainV v=v):∀ n,n≤m.length→expand ((m.zip e).take n)=expN m e n
  | 0,_ => rfl
  | n + 1,h => by
    have h1:n < (m.zip e).length:=by rw [List.length_zip];omega
    rw [← List.take_append_getElem h1,expN,← expand_expN hl hp n (by omega)]
    unfold expand
    rw [List.flatMap_append,List.getElem_zip]
    simp only [List.flatMap_cons,List.flatMap_nil,List.append_nil]
    rw [getD_in (show n < m.length by omega),getD_in (show n < e.length by omega),hp _ (List.getElem_mem _)]
theorem expand_cut (vs:List V):expand ((cutA vs).1.zip (cutA vs).2)=vs.map plainV:=by
  have h:=cutd vs
  have h2:=expand_expN h.len h.plain (cutA vs).1.length (Nat.le_refl _)
  rw [h.all,List.take_of_length_le (by rw [List.length_zip];omega)] at h2
  exact h2
theorem cut_of {vs:List V} (hp:∀ v ∈ vs,plainV v=v):∀ v ∈ (cutA vs).2,v ∈ vs:=by
  intro v hv
  have h:=cutd vs
  have he:=expand_cut vs
  rw [map_plain hp] at he
  obtain ⟨i,hi,rfl⟩:=List.getElem_of_mem hv
  have hi2:i < (cutA vs).1.length:=by rw [h.len];exact hi
  have h1:=h.pos i hi2
  rw [getD_in hi2] at h1
  refine (show ∀ x,x ∈ expand ((cutA vs).1.zip (cutA vs).2)→x ∈ vs by rw [he];exact fun _ h => h) _ ?_
  unfold expand
  refine List.mem_flatMap.2 ⟨((cutA vs).1[i],(cutA vs).2[i]),?_,?_⟩
  · rw [← List.getElem_zip (h:=by rw [List.length_zip];omega)];exact List.getElem_mem _
  · rw [List.mem_replicate];exact ⟨by simp only;omega,rfl⟩
theorem build_of {vs:List V} (hp:∀ v ∈ vs,plainV v=v):∀ v ∈ (buildA vs).1,v ∈ vs:=by
  refine snoc_ind (P:=fun vs => (∀ v ∈ vs,plainV v=v)→∀ v ∈ (buildA vs).1,v ∈ vs) (fun _ v hv => by simp [buildA] at hv) (fun vs u ih hp v hv => ?_) vs hp
  have h1:=ih fun v hv => hp v (List.mem_append_left _ hv)
  rw [buildA_snoc,buildStep] at hv
  simp only at hv
  split at hv
  · rcases List.mem_append.1 hv with hv | hv
    · exact List.mem_append_left _ (h1 v hv)
    · simp at hv
      rw [hv,hp u (by simp)]
      simp
  · exact List.mem_append_left _ (h1 v hv)
theorem bits_fit (vs:List V) (f:V→Int) (hf:∀ v,f v=0∨f v=1):fits 1 (vs.map f):=by
  intro x hx
  obtain ⟨v,_,rfl⟩:=List.mem_map.1 hx
  have:=hf v
  simp only [Int.pow_one] at *
  omega
theorem wid_most {n:Nat} (h:n≤4096):wid (n - 1)≤12:=(wid_le 12 (n - 1)).2 (by omega)
theorem places_fit {vs:List V} (h:vs.length≤4096):fits (wid ((buildA vs).1.length - 1)) (buildA vs).2:=by
  intro x hx
  have hb:=built vs
  obtain ⟨i,hi,rfl⟩:=List.getElem_of_mem hx
  obtain ⟨k,h1,h2,_⟩:=hb.place i (by rw [← hb.len];exact hi)
  rw [getD_in hi] at h1
  have h3:=(wid_le (wid ((buildA vs).1.length - 1)) ((buildA vs).1.length - 1)).1 (Nat.le_refl _)
  rw [h1]
  refine ⟨by omega,?_⟩
  have h4:((2:Int) ^ wid ((buildA vs).1.length - 1))=((2 ^ wid ((buildA vs).1.length - 1):Nat):Int):=by simp
  rw [h4]
  omega
theorem some_there {l r:List UInt8} {p e:Nat} {k:Int} {vs:List V} (hk:1≤k∧k≤3) (hv:∀ v ∈ vs,ValK k v) (hn:vs.length≤4096) (he:e≤2) (h:Ahead l p (ways k vs e ++ r)) :
    tkSome l ⟨p,false⟩ e k vs.length=(vs,⟨p + (ways k vs e).length,false⟩):=by
  have hpl:∀ v ∈ vs,plainV v=v:=fun v hm => (hv v hm).plain
  rcases (show e=1∨e=2∨e=0 by omega) with rfl | rfl | rfl
  · have e1:ways k vs 1=vp (cutA vs).2.length ++ runsB ((cutA vs).1.zip (cutA vs).2):=if_pos rfl
    rw [e1] at h ⊢
    have hc:=cutd vs
    have hcl:=hc.le
    have hnum:=num_there h.assoc (most:=4096) (by omega) (by omega)
    have hz:((cutA vs).1.zip (cutA vs).2).length=(cutA vs).2.length:=by rw [List.length_zip,hc.len,Nat.min_self]
    have hrs:∀ x ∈ (cutA vs).1.zip (cutA vs).2,x.1.toNat≤4096∧ValK k x.2:=by
      intro x hx
      obtain ⟨h1,h2⟩:=List.of_mem_zip (a:=x.1) (b:=x.2) hx
      refine ⟨?_,hv _ (cut_of hpl _ h2)⟩
      obtain ⟨i,hi,h3⟩:=List.getElem_of_mem h1
      have h4:=cut_num_le vs i hi
      rw [getD_in hi,h3] at h4
      omega
    have hr:=runs_there (many:=vs.length) hk ((cutA vs).1.zip (cutA vs).2) [] (p + (vp (cutA vs).2.length).length) hrs (by rw [expand_cut];simp) h.assoc.next
    rw [hz,expand_cut,map_plain hpl] at hr
    unfold tkSome
    rw [if_pos rfl,hnum]
    simp only
    rw [hr,List.length_append,Nat.add_assoc]
    rfl
  · have e1:ways k vs 2=vp (buildA vs).1.length ++ ((buildA vs).1.flatMap plainB ++ packB (wid ((buildA vs).1.length - 1)) (buildA vs).2):=rfl
    rw [e1] at h ⊢
    have hb:=built vs
    have hbl:=hb.le
    have hnum:=num_there h.assoc (most:=4096) (by omega) (by omega)
    have h2:=h.assoc.next.assoc
    have hw:=words_there hk (buildA vs).1 [] _ (fun x hx => hv _ (build_of hpl _ hx)) h2
    have hp:=packed_there (places_fit hn) (Nat.le_trans (wid_most (by omega)) (by omega)) hb.len hn h2.next
    have hat:∀ x ∈ (buildA vs).2,0≤x∧x < (buildA vs).1.length:=by
      intro x hx
      obtain ⟨i,hi,rfl⟩:=List.getElem_of_mem hx
      obtain ⟨k,k1,k2,_⟩:=hb.place i (by rw [← hb.len];exact hi)
      rw [getD_in hi] at k1
      omega
    have hpk:=pick_all (ws:=(buildA vs).1) (buildA vs).2 [] fun x hx => (hat x hx).2
    have hlk:=look_built vs
    rw [lookA_yes (built_apart vs) hat] at hlk
    injection hlk with hlk _
    have hlk2:(buildA vs).2.map (fun x => (buildA vs).1.getD x.toNat zeroV)=vs:=by
      rw [map_plain hpl] at hlk
      refine Eq.trans (List.map_congr_left fun x hx => ?_) hlk
      have:=hat x hx
      exact (hb.plain x.toNat (by omega)).symm
    rw [List.nil_append] at hpk hw
    rw [hlk2] at hpk
    unfold tkSome
    rw [if_neg (by omega),if_pos rfl,hnum]
    simp only [hw,hp]
    rw [if_neg (by simp),hpk]
    simp [Nat.add_assoc]
  · have e1:ways k vs 0=wayP k vs:=rfl
    rw [e1] at h ⊢
    unfold tkSome
    rw [if_neg (by omega),if_neg (by omega)]
    by_cases k2:k=2
    · have e2:wayP k vs=packB 1 (vs.map bitV):=if_pos k2
      rw [e2] at h ⊢
      have hp:=packed_there (bits_fit vs bitV fun v => by unfold bitV;split <;> omega) (by omega) (List.length_map bitV) hn h
      rw [if_pos k2,hp]
      refine Prod.ext ?_ rfl
      simp only [List.map_map]
      conv => rhs;rw [← List.map_id vs]
      refine List.map_congr_left fun v hm => ?_
      have h1:=(hv v hm).kind
      have h2:=(hv v hm).plain
      rw [plainV_bool (by omega)] at h2
      rw [← h2]
      simp only [Function.comp,bitV,id]
      cases v.b <;> simp
    · have e2:wayP k vs=vs.flatMap plainB:=if_neg k2
      rw [e2] at h ⊢
      rw [if_neg k2,words_there hk vs [] p hv h]
      rfl
def mergeV:List Int→List V→List V
  | [],_ => []
  | n :: ns,vs => if n=1 then zeroV :: mergeV ns vs else vs.headD zeroV :: mergeV ns vs.tail
theorem merge_back:∀ vs:List V,mergeV (nullI vs) (someV vs)=vs.map plainV
  | [] => rfl
  | v :: vs => by
    by_cases h:isNull v=true
    · have e1:nullI (v :: vs)=1 :: nullI vs:=by simp [nullI,h]
      have e2:someV (v :: vs)=someV vs:=by simp [someV,h]
      rw [e1,e2,mergeV,if_pos rfl,merge_back vs,List.map_cons,null_plain h]
    · have h':isNull v=false:=by simpa using h
      have e1:nullI (v :: vs)=0 :: nullI vs:=by simp [nullI,h']
      have e2:someV (v :: vs)=plainV v :: someV vs:=by simp [someV,h']
      rw [e1,e2,mergeV,if_neg (by omega),List.headD_cons,List.tail_cons,merge_back vs,List.map_cons]
def zerosI (ns:List Int):Nat:=ns.countP fun n => n ≠ 1
theorem zeros_some:∀ vs:List V,zerosI (nullI vs)=(someV vs).length
  | [] => rfl
  | v :: vs => by
    have ih:=zeros_some vs
    unfold zerosI at ih ⊢
    by_cases h:isNull v=true
    · have e1:nullI (v :: vs)=1 :: nullI vs:=by simp [nullI,h]
      have e2:someV (v :: vs)=someV vs:=by simp [someV,h]
      rw [e1,e2,List.countP_cons,ih];simp
    · have h':isNull v=false:=by simpa using h
      have e1:nullI (v :: vs)=0 :: nullI vs:=by simp [nullI,h']
      have e2:someV (v :: vs)=plainV v :: someV vs:=by simp [someV,h']
      rw [e1,e2,List.countP_cons,ih];simp
def parseV (k:Int) (l:List UInt8):Option (List V) :=
  if (tkSome l (tkPacked l (tkNum l ⟨1,false⟩ 4096).2 (tkNum l ⟨1,false⟩ 4096).1 1).2 (l.getD 0 0).toNat k (zerosI (tkPacked l (tkNum l ⟨1,false⟩ 4096).2 (tkNum l ⟨1,false⟩ 4096).1 1).1)).2.bad=true ∨
      (tkSome l (tkPacked l (tkNum l ⟨1,false⟩ 4096).2 (tkNum l ⟨1,false⟩ 4096).1 1).2 (l.getD 0 0).toNat k (zerosI (tkPacked l (tkNum l ⟨1,false⟩ 4096).2 (tkNum l ⟨1,false⟩ 4096).1 1).1)).1.length ≠ zerosI (tkPacked l (tkNum l ⟨1,false⟩ 4096).2 (tkNum l ⟨1,false⟩ 4096).1 1).1
  then none
  else some (mergeV (tkPacked l (tkNum l ⟨1,false⟩ 4096).2 (tkNum l ⟨1,false⟩ 4096).1 1).1 (tkSome l (tkPacked l (tkNum l ⟨1,false⟩ 4096).2 (tkNum l ⟨1,false⟩ 4096).1 1).2 (l.getD 0 0).toNat k (zerosI (tkPacked l (tkNum l ⟨1,false⟩ 4096).2 (tkNum l ⟨1,false⟩ 4096).1 1).1)).1)
theorem parse_there {k:Int} {vs:List V} (hk:1≤k∧k≤3) (hv:∀ v ∈ vs,OkV k v) (hn:vs.length≤4096):parseV k (bodyB k vs)=some (vs.map plainV):=by
  have hb:=best_le k (someV vs)
  have hl:=some_le vs
  have h0:Ahead (bodyB k vs) 1 (vp vs.length ++ (packB 1 (nullI vs) ++ ways k (someV vs) (best k (someV vs)))):=⟨by simp [bodyB],rfl⟩
  have h1:=num_there h0 (most:=4096) (by omega) hn
  have h2:=packed_there (bits_fit vs _ fun v => by split <;> omega) (by omega) (null_len vs) hn h0.next
  have h3:Ahead (bodyB k vs) _ (ways k (someV vs) (best k (someV vs)) ++ []):=⟨h0.next.next.le,by rw [List.append_nil];exact h0.next.next.is⟩
  have h4:=some_there hk (some_ok hk hv) (by omega) hb h3
  have h5:((bodyB k vs).getD 0 0).toNat=best k (someV vs):=by
    show (u8 (best k (someV vs))).toNat=_
    exact u8_toNat _ (by omega)
  unfold parseV
  rw [h1]
  simp only
  rw [show packB 1 (nullI vs)=packB 1 (vs.map fun v => if isNull v=true then 1 else 0) from rfl] at *
  rw [h2]
  simp only [h5]
  rw [show (vs.map fun v => if isNull v=true then (1:Int) else 0)=nullI vs from rfl] at *
  rw [zeros_some,h4]
  simp only
  rw [if_neg (by simp),merge_back]
end Go.Proofs.YtfbmlefhjoblbaaGreat
namespace Go.Proofs.YtfbmlefhjoblbaaGreat
open Go.Conc Go.RowKit
set_option linter.unusedVariables false
set_option linter.unusedSimpArgs false
def okK (k:Int) (v:V):Bool:=isNull v || (decide (v.k=k) && (decide (k ≠ 3) || (decide (v.s.size≤64) && decide (first v.s.data.toList = -1))))
theorem okK_ok {k:Int} {v:V} (h:okK k v=true) (lo:-9223372036854775808≤v.i) (hi:v.i≤9223372036854775807):OkV k v:=by
  refine ⟨?_,lo,hi⟩
  simp only [okK,Bool.or_eq_true,Bool.and_eq_true,decide_eq_true_eq] at h
  rcases h with h | ⟨h1,h2⟩
  · exact .inl h
  · refine .inr ⟨h1,fun e => ?_⟩
    rcases h2 with h2 | h2
    · exact absurd e h2
    · exact h2
theorem ok_okK {k:Int} {v:V} (h:OkV k v):okK k v=true:=by
  simp only [okK,Bool.or_eq_true,Bool.and_eq_true,decide_eq_true_eq]
  rcases h.kind with h | ⟨h1,h2⟩
  · exact .inl h
  · refine .inr ⟨h1,?_⟩
    by_cases e:k=3
    · exact .inr (h2 e)
    · exact .inl e
def colPut (k:Int) (vs:List V):ByteArray × Int × Int :=
  if ¬ (1≤k∧k≤3) then (ByteArray.empty,0,900) else if 4096 < vs.length∨¬ vs.all (okK k)=true then (ByteArray.empty,0,901) else (sealB (textB (bodyB k vs)),(best k (someV vs):Int),0)
theorem putA_kind {k:Int} {vs:List V} (h:¬ (1≤k∧k≤3)):colPut k vs=(ByteArray.empty,0,900):=if_pos h
theorem putA_form {k:Int} {vs:List V} (hk:1≤k∧k≤3) (h:4096 < vs.length∨∃ v ∈ vs,okK k v=false):colPut k vs=(ByteArray.empty,0,901):=by
  unfold colPut
  rw [if_neg (by omega),if_pos]
  rcases h with h | ⟨v,hv,h⟩
  · exact .inl h
  · refine .inr fun e => ?_
    rw [List.all_eq_true] at e
    rw [e v hv] at h;cases h
theorem putA_yes {k:Int} {vs:List V} (hk:1≤k∧k≤3) (hn:vs.length≤4096) (h:∀ v ∈ vs,okK k v=true):colPut k vs=(sealB (textB (bodyB k vs)),(best k (someV vs):Int),0):=by
  unfold colPut
  rw [if_neg (by omega),if_neg]
  rintro (h1 | h1)
  · omega
  · exact h1 (List.all_eq_true.2 h)
theorem putA_ok {k:Int} {vs:List V} (h:(colPut k vs).2.2=0):(1≤k∧k≤3)∧vs.length≤4096∧∀ v ∈ vs,okK k v=true:=by
  unfold colPut at h
  by_cases c:¬ (1≤k∧k≤3)
  · rw [if_pos c] at h;simp at h
  rw [if_neg c] at h
  by_cases c2:4096 < vs.length∨¬ vs.all (okK k)=true
  · rw [if_pos c2] at h;simp at h
  refine ⟨by omega,by omega,fun v hv => ?_⟩
  have:vs.all (okK k)=true:=by
    cases e:vs.all (okK k) with
    | true => rfl
    | false => exact absurd (.inr (by rw [e];simp)) c2
  exact List.all_eq_true.1 this v hv
theorem null_twice (v:V):isNull (plainV v)=isNull v:=by
  unfold isNull
  have e:kindV (plainV v)=kindV v:=by
    rw [← plainV_kind,plainV_twice,plainV_kind]
  rw [e]
theorem nullI_plain (vs:List V):nullI (vs.map plainV)=nullI vs:=by
  unfold nullI
  rw [List.map_map]
  refine List.map_congr_left fun v _ => ?_
  simp only [Function.comp,null_twice]
theorem someV_plain:∀ vs:List V,someV (vs.map plainV)=someV vs
  | [] => rfl
  | v :: vs => by
    have ih:=someV_plain vs
    unfold someV at ih ⊢
    rw [List.map_cons,List.filter_cons,List.filter_cons,null_twice]
    cases isNull v with
    | true => simpa using ih
    | false => simp only [Bool.not_false,if_true,List.map_cons,plainV_twice];rw [ih]
theorem bodyB_plain (k:Int) (vs:List V):bodyB k (vs.map plainV)=bodyB k vs:=by
  unfold bodyB
  rw [someV_plain,nullI_plain,List.length_map]
theorem OkV.plain {k:Int} {v:V} (h:OkV k v) (hk:1≤k∧k≤3):OkV k (plainV v):=by
  by_cases hn:isNull v=true
  · refine ⟨.inl (by rw [null_twice];exact hn),?_,?_⟩ <;> rw [null_plain hn] <;> simp [zeroV]
  · have hn':isNull v=false:=by simpa using hn
    have hs:=h.some hk hn'
    refine ⟨.inr ⟨hs.kind,fun e => ?_⟩,hs.lo,hs.hi⟩
    rcases h.kind with h1 | ⟨h1,h2⟩
    · exact absurd h1 hn
    · have h3:=h2 e
      rw [plainV_text (by omega)]
      exact h3
theorem putA_plain {k:Int} {vs:List V} (hk:1≤k∧k≤3) (hn:vs.length≤4096) (h:∀ v ∈ vs,OkV k v):colPut k (vs.map plainV)=colPut k vs:=by
  rw [putA_yes hk hn fun v hv => ok_okK (h v hv),putA_yes hk (by rw [List.length_map];exact hn) fun v hv => by
    obtain ⟨u,hu,rfl⟩:=List.mem_map.1 hv
    exact ok_okK ((h u hu).plain hk),bodyB_plain,someV_plain]
def ansOf (k:Int) (s:ByteArray) (o:Option (List V)):List V × Int :=
  match o with
  | none => ([],901)
  | some vs => if (colPut k vs).2.2=0∧(colPut k vs).1=s then (vs,0) else ([],901)
def colGet (k:Int) (s:ByteArray):List V × Int :=
  if ¬ (1≤k∧k≤3) then ([],900) else if isSealed s=false then ([],902) else ansOf k s (parseV k (openT s).data.toList)
structure Reads (k:Int) (P:List UInt8→Option (List V)):Prop where
  there:∀ vs,vs.length≤4096→(∀ v ∈ vs,OkV k v)→P (bodyB k vs)=some (vs.map plainV)
  bound:∀ l vs,P l=some vs→∀ v ∈ vs,-9223372036854775808≤v.i∧v.i≤9223372036854775807
theorem reads_yes {k:Int} {P:List UInt8→Option (List V)} (hP:Reads k P) {s:ByteArray} {vs:List V} (h:P (openT s).data.toList=some vs) (h0:(colPut k vs).2.2=0) (h1:(colPut k vs).1=s) :
    (openT s).data.toList=bodyB k vs∧vs.map plainV=vs∧∀ v ∈ vs,OkV k v:=by
  obtain ⟨hk,hn,hok⟩:=putA_ok h0
  have hv:∀ v ∈ vs,OkV k v:=fun v hm => okK_ok (hok v hm) (hP.bound _ _ h v hm).1 (hP.bound _ _ h v hm).2
  have e:(openT s).data.toList=bodyB k vs:=by
    rw [← h1,putA_yes hk hn hok]
    simp only
    rw [seal_openT,textB_list]
  refine ⟨e,?_,hv⟩
  rw [e,hP.there vs hn hv] at h
  exact Option.some.inj h
theorem reads_same {k:Int} {P Q:List UInt8→Option (List V)} (hP:Reads k P) (hQ:Reads k Q) (s:ByteArray):ansOf k s (P (openT s).data.toList)=ansOf k s (Q (openT s).data.toList):=by
  have key:∀ {P Q:List UInt8→Option (List V)},Reads k P→Reads k Q→∀ vs,P (openT s).data.toList=some vs→(colPut k vs).2.2=0∧(colPut k vs).1=s→Q (openT s).data.toList=some vs:=by
    intro P Q hP hQ vs h h1
    obtain ⟨h2,h3,h4⟩:=reads_yes hP h h1.1 h1.2
    obtain ⟨hk,hn,_⟩:=putA_ok h1.1
    rw [h2,hQ.there vs hn h4,h3]
  cases hp:P (openT s).data.toList with
  | none =>
    cases hq:Q (openT s).data.toList with
    | none => rfl
    | some vs =>
      by_cases c:(colPut k vs).2.2=0∧(colPut k vs).1=s
      · have:=key hQ hP vs hq c
        rw [hp] at this;cases this
      · simp only [ansOf];rw [if_neg c]
  | some vs =>
    by_cases c:(colPut k vs).2.2=0∧(colPut k vs).1=s
    · rw [key hP hQ vs hp c]
    · cases hq:Q (openT s).data.toList with
      | none => simp only [ansOf];rw [if_neg c]
      | some us =>
        by_cases c2:(colPut k us).2.2=0∧(colPut k us).1=s
        · have:=key hQ hP us hq c2
          rw [hp] at this
          cases this
          exact absurd c2 c
        · simp only [ansOf];rw [if_neg c,if_neg c2]
theorem get_put {k:Int} {vs:List V} (hr:Reads k (parseV k)) (h0:(colPut k vs).2.2=0) (hb:∀ v ∈ vs,-9223372036854775808≤v.i∧v.i≤9223372036854775807):colGet k (colPut k vs).1=(vs.map plainV,0):=by
  obtain ⟨hk,hn,hok⟩:=putA_ok h0
  have hv:∀ v ∈ vs,OkV k v:=fun v hm => okK_ok (hok v hm) (hb v hm).1 (hb v hm).2
  unfold colGet
  rw [if_neg (by omega)]
  have e1:(colPut k vs).1=sealB (textB (bodyB k vs)):=by rw [putA_yes hk hn hok]
  rw [e1,seal_sealed,if_neg (by simp),seal_openT,textB_list,hr.there vs hn hv]
  simp only [ansOf]
  rw [putA_plain hk hn hv,if_pos ⟨h0,e1⟩]
theorem get_back {k:Int} {s:ByteArray} (hr:Reads k (parseV k)) (h:(colGet k s).2=0):(colPut k (colGet k s).1).2.2=0∧(colPut k (colGet k s).1).1=s∧(colGet k s).1.map plainV=(colGet k s).1:=by
  unfold colGet at h ⊢
  by_cases c:¬ (1≤k∧k≤3)
  · rw [if_pos c] at h;simp at h
  rw [if_neg c] at h ⊢
  by_cases c2:isSealed s=false
  · rw [if_pos c2] at h;simp at h
  rw [if_neg c2] at h ⊢
  cases hp:parseV k (openT s).data.toList with
  | none => rw [hp] at h;simp [ansOf] at h
  | some vs =>
    rw [hp] at h
    simp only [ansOf] at h ⊢
    by_cases c3:(colPut k vs).2.2=0∧(colPut k vs).1=s
    · rw [if_pos c3]
      exact ⟨c3.1,c3.2,(reads_yes hr hp c3.1 c3.2).2.1⟩
    · rw [if_neg c3] at h;simp at h
theorem get_err {k:Int} {s:ByteArray} (h:(colGet k s).2 ≠ 0):(colGet k s).1=[]:=by
  unfold colGet at h ⊢
  split at h
  · rename_i c;rw [if_pos c]
  · rename_i c
    rw [if_neg c]
    split at h
    · rename_i c2;rw [if_pos c2]
    · rename_i c2
      rw [if_neg c2]
      cases hp:parseV k (openT s).data.toList with
      | none => rfl
      | some vs =>
        rw [hp] at h
        simp only [ansOf] at h ⊢
        split at h
        · simp at h
        · rename_i c3;rw [if_neg c3]
end Go.Proofs.YtfbmlefhjoblbaaGreat
namespace Go.Proofs.YtfbmlefhjoblbaaGreat
open Go.Conc Go.RowKit
set_option linter.unusedVariables false
set_option linter.unusedSimpArgs false
def InI (v:V):Prop:=-9223372036854775808≤v.i∧v.i≤9223372036854775807
theorem zero_in:InI zeroV:=by unfold InI zeroV;simp
theorem unzz_in {m:Nat} (h:m < 18446744073709551616):-9223372036854775808≤unzz m∧unzz m≤9223372036854775807:=by
  unfold unzz;split <;> omega
theorem value_in (l:List UInt8) (t:Tk) (k:Int):InI (tkValue l t k).1:=by
  unfold tkValue
  split
  · split
    · exact zero_in
    · exact unzz_in (readN_lt l t.pos)
  · split
    · simp [InI]
    · simp [InI]
theorem runs_in (l:List UInt8) (k:Int) (many:Nat):∀ (r:Nat) (t:Tk) (vs:List V),(∀ v ∈ vs,InI v)→∀ v ∈ (tkRuns l k many r t vs).1,InI v
  | 0,t,vs,h => h
  | r + 1,t,vs,h => by
    rw [tkRuns]
    split
    · exact h
    · refine runs_in l k many r _ _ fun v hv => ?_
      rcases List.mem_append.1 hv with hv | hv
      · exact h v hv
      · rw [(List.mem_replicate.1 hv).2];exact value_in _ _ _
theorem words_in (l:List UInt8) (k:Int):∀ (r:Nat) (t:Tk) (vs:List V),(∀ v ∈ vs,InI v)→∀ v ∈ (tkWords l k r t vs).1,InI v
  | 0,t,vs,h => h
  | r + 1,t,vs,h => by
    rw [tkWords]
    split
    · exact h
    · refine words_in l k r _ _ fun v hv => ?_
      rcases List.mem_append.1 hv with hv | hv
      · exact h v hv
      · rw [List.mem_singleton.1 hv];exact value_in _ _ _
theorem getD_in_all {ws:List V} (h:∀ v ∈ ws,InI v) (i:Nat):InI (ws.getD i zeroV):=by
  by_cases c:i < ws.length
  · rw [getD_in c];exact h _ (List.getElem_mem _)
  · rw [List.getD_eq_getElem?_getD,List.getElem?_eq_none (by omega)];exact zero_in
theorem pick_in {ws:List V} (hw:∀ v ∈ ws,InI v):∀ (xs:List Int) (vs:List V),(∀ v ∈ vs,InI v)→∀ v ∈ (tkPick ws xs vs).1,InI v
  | [],vs,h => h
  | x :: xs,vs,h => by
    rw [tkPick]
    split
    · exact h
    · refine pick_in hw xs _ fun v hv => ?_
      rcases List.mem_append.1 hv with hv | hv
      · exact h v hv
      · rw [List.mem_singleton.1 hv];exact getD_in_all hw _
theorem nil_in:∀ v ∈ ([]:List V),InI v:=fun v hv => by cases hv
theorem some_in (l:List UInt8) (t:Tk) (e:Nat) (k:Int) (many:Nat):∀ v ∈ (tkSome l t e k many).1,InI v:=by
  unfold tkSome
  split
  · exact runs_in _ _ _ _ _ _ nil_in
  · split
    · split
      · exact nil_in
      · exact pick_in (words_in _ _ _ _ _ nil_in) _ _ nil_in
    · split
      · intro v hv
        obtain ⟨x,_,rfl⟩:=List.mem_map.1 hv
        simp [InI]
      · exact words_in _ _ _ _ _ nil_in
theorem merge_in:∀ (ns:List Int) (vs:List V),(∀ v ∈ vs,InI v)→∀ v ∈ mergeV ns vs,InI v
  | [],vs,_,v,hv => by cases hv
  | n :: ns,vs,h,v,hv => by
    rw [mergeV] at hv
    split at hv
    · rcases List.mem_cons.1 hv with rfl | hv
      · exact zero_in
      · exact merge_in ns vs h v hv
    · rcases List.mem_cons.1 hv with rfl | hv
      · cases vs with
        | nil => exact zero_in
        | cons x r => exact h x (by simp)
      · exact merge_in ns vs.tail (fun u hu => h u (List.mem_of_mem_tail hu)) v hv
theorem reads_parse {k:Int} (hk:1≤k∧k≤3):Reads k (parseV k):=by
  refine ⟨fun vs hn hv => parse_there hk hv hn,fun l vs h => ?_⟩
  unfold parseV at h
  split at h
  · cases h
  · injection h with h
    subst h
    exact merge_in _ _ (some_in _ _ _ _ _)
theorem plainB_len {k:Int} {v:V} (h:ValK k v) (hk:1≤k∧k≤3):1≤(plainB v).length∧(plainB v).length≤74:=by
  unfold plainB
  have hkv:=h.kind
  split
  · have h1:=vp_le (zz v.i);have h2:=vp_pos (zz v.i);omega
  · split
    · simp
    · have h1:=vp_le v.s.size;have h2:=vp_pos v.s.size
      have h3:=h.size (by omega)
      rw [List.length_append,← size_list];omega
theorem flat_len {vs:List V} {f:V→List UInt8} {c:Nat} (h:∀ v ∈ vs,(f v).length≤c):(vs.flatMap f).length≤vs.length * c:=by
  induction vs with
  | nil => simp
  | cons v vs ih =>
    rw [List.flatMap_cons,List.length_append,List.length_cons]
    have h1:=h v (by simp)
    have h2:=ih fun u hu => h u (by simp [hu])
    rw [Nat.add_mul,Nat.one_mul];omega
theorem runsB_len {rs:List (Int × V)} {c:Nat} (h:∀ x ∈ rs,(plainB x.2).length≤c):(runsB rs).length≤rs.length * (10 + c):=by
  induction rs with
  | nil => simp [runsB]
  | cons x rs ih =>
    have e1:runsB (x :: rs)=vp x.1.toNat ++ plainB x.2 ++ runsB rs:=by simp [runsB]
    rw [e1,List.length_append,List.length_append,List.length_cons]
    have h1:=h x (by simp)
    have h2:=ih fun u hu => h u (by simp [hu])
    have h3:=vp_le x.1.toNat
    rw [Nat.add_mul,Nat.one_mul];omega
theorem wayP_len {k:Int} {vs:List V} (hk:1≤k∧k≤3) (hv:∀ v ∈ vs,ValK k v) (hn:vs.length≤4096):(wayP k vs).length≤400000:=by
  unfold wayP
  split
  · rw [packB_length,List.length_map];unfold bytesFor;omega
  · have:=flat_len (f:=plainB) (c:=74) fun v h => (plainB_len (hv v h) hk).2
    omega
theorem wayR_len {k:Int} {vs:List V} (hk:1≤k∧k≤3) (hv:∀ v ∈ vs,ValK k v) (hn:vs.length≤4096):(wayR vs).length≤400000:=by
  unfold wayR
  have hc:=cutd vs
  have hpl:∀ v ∈ vs,plainV v=v:=fun v hm => (hv v hm).plain
  have h1:=vp_le (cutA vs).2.length
  have h2:=runsB_len (rs:=(cutA vs).1.zip (cutA vs).2) (c:=74) fun x hx => (plainB_len (hv _ (cut_of hpl _ (List.of_mem_zip (a:=x.1) (b:=x.2) hx).2)) hk).2
  have h3:((cutA vs).1.zip (cutA vs).2).length≤4096:=by rw [List.length_zip];have:=hc.le;omega
  rw [List.length_append]
  have h4:=Nat.mul_le_mul_right (10 + 74) h3
  omega
theorem wayW_len {k:Int} {vs:List V} (hk:1≤k∧k≤3) (hv:∀ v ∈ vs,ValK k v) (hn:vs.length≤4096):(wayW vs).length≤400000:=by
  unfold wayW
  have hb:=built vs
  have hpl:∀ v ∈ vs,plainV v=v:=fun v hm => (hv v hm).plain
  have h1:=vp_le (buildA vs).1.length
  have h2:=flat_len (f:=plainB) (c:=74) fun v h => (plainB_len (hv _ (build_of hpl v h)) hk).2
  have h3:=hb.le
  have h4:=Nat.mul_le_mul_right 74 (Nat.le_trans h3 hn)
  have h5:bytesFor (buildA vs).2.length (wid ((buildA vs).1.length - 1))≤8192:=by
    unfold bytesFor
    have h6:=wid_most (n:=(buildA vs).1.length) (by omega)
    have h7:(buildA vs).2.length * wid ((buildA vs).1.length - 1)≤4096 * 12:=Nat.mul_le_mul (by rw [hb.len];exact hn) h6
    omega
  rw [List.length_append,List.length_append,packB_length]
  omega
theorem ways_len {k:Int} {vs:List V} (hk:1≤k∧k≤3) (hv:∀ v ∈ vs,ValK k v) (hn:vs.length≤4096) (e:Nat):(ways k vs e).length≤400000:=by
  unfold ways
  split
  · exact wayR_len hk hv hn
  · split
    · exact wayW_len hk hv hn
    · exact wayP_len hk hv hn
theorem bodyB_len {k:Int} {vs:List V} (hk:1≤k∧k≤3) (hv:∀ v ∈ vs,OkV k v) (hn:vs.length≤4096):(bodyB k vs).length≤500000:=by
  unfold bodyB
  have h1:=vp_le vs.length
  have h2:=ways_len hk (some_ok hk hv) (Nat.le_trans (some_le vs) hn) (best k (someV vs))
  rw [List.length_cons,List.length_append,List.length_append,packB_length,null_len]
  unfold bytesFor
  omega
end Go.Proofs.YtfbmlefhjoblbaaGreat
namespace Go.Proofs.YtfbmlefhjoblbaaGreat
open Go.Conc Go.RowKit
set_option linter.unusedVariables false
set_option linter.unusedSimpArgs false
end Go.Proofs.YtfbmlefhjoblbaaGreat
namespace Go.Proofs.YtfbmlefhjoblbaaGreat
open Go.Conc Go.RowKit
set_option linter.unusedVariables false
set_option linter.unusedSimpArgs false
def cellN (l:List UInt8) (p:Nat):V × Nat × Bool:=if (readN l p).2.2=0 then (⟨1,unzz (readN l p).1,false,ByteArray.empty⟩,(readN l p).2.1.toNat,true) else (zeroV,0,false)
def cellB (l:List UInt8) (p:Nat):V × Nat × Bool:=if p < l.length∧(l.getD p 0=0∨l.getD p 0=1) then (⟨2,0,decide (l.getD p 0=1),ByteArray.empty⟩,p + 1,true) else (zeroV,0,false)
def cellT (l:List UInt8) (p:Nat):V × Nat × Bool :=
  if (readN l p).2.2=0∧(readN l p).2.1.toNat + (readN l p).1≤l.length then (⟨3,0,false,textB ((l.drop (readN l p).2.1.toNat).take (readN l p).1)⟩,(readN l p).2.1.toNat + (readN l p).1,true) else (zeroV,0,false)
def cellA (k:Int) (l:List UInt8) (p:Nat):V × Nat × Bool:=if k=1 then cellN l p else if k=2 then cellB l p else cellT l p
theorem readN_at {l:List UInt8} {p:Nat} (h:(readN l p).2.2=0):∃ q:Nat,(readN l p).2.1=(q:Int)∧p < q∧q≤l.length:=by
  unfold readN at h ⊢
  split at h
  · simp at h
  rename_i c1
  split at h
  · simp at h
  rename_i c2
  split at h
  · simp at h
  rename_i c3
  rw [if_neg c1,if_neg c2,if_neg c3]
  rw [Int.toNat_natCast] at c2 ⊢
  have:=run_le (l.drop p)
  rw [List.length_drop] at this c2
  refine ⟨p + run (l.drop p) + 1,by simp,by omega,by omega⟩
def rdCount (l:List UInt8) (t:Tk) (most:Nat):Nat × Tk :=
  if (readN l t.pos).2.2 ≠ 0∨most < (readN l t.pos).1 then (0,⟨t.pos,true⟩) else ((readN l t.pos).1,⟨(readN l t.pos).2.1.toNat,t.bad⟩)
def rdValue (l:List UInt8) (k:Int) (t:Tk):V × Tk :=
  if (cellA k l t.pos).2.2=true then ((cellA k l t.pos).1,⟨(cellA k l t.pos).2.1,t.bad⟩) else (zeroV,⟨t.pos,true⟩)
def rdPacked (l:List UInt8) (t:Tk) (many w:Nat):List Int × Tk :=
  if l.length < t.pos + bytesFor many w then ([],⟨t.pos,true⟩)
  else ((unpackA (textB ((l.drop t.pos).take (bytesFor many w))) many w).1,⟨t.pos + bytesFor many w,t.bad || decide ((unpackA (textB ((l.drop t.pos).take (bytesFor many w))) many w).2 ≠ 0)⟩)
def rdEach (l:List UInt8) (k:Int):Nat→Tk→List V→List V × Tk
  | 0,t,vs => (vs,t)
  | r + 1,t,vs => if t.bad=true then (vs,t) else rdEach l k r (rdValue l k t).2 (vs ++ [(rdValue l k t).1])
def rdNums (l:List UInt8) (k:Int) (many:Nat):Nat→Tk→List Int→List V→List Int × List V × Tk
  | 0,t,ms,vs => (ms,vs,t)
  | r + 1,t,ms,vs => if t.bad=true then (ms,vs,t) else
      rdNums l k many r (rdValue l k (rdCount l t many).2).2 (ms ++ [((rdCount l t many).1:Int)]) (vs ++ [(rdValue l k (rdCount l t many).2).1])
def rdRuns (l:List UInt8) (k:Int) (t:Tk) (many:Nat):List V × Tk :=
  ((joinA (rdNums l k many (rdCount l t many).1 (rdCount l t many).2 [] []).1 (rdNums l k many (rdCount l t many).1 (rdCount l t many).2 [] []).2.1).1,
   ⟨(rdNums l k many (rdCount l t many).1 (rdCount l t many).2 [] []).2.2.pos,
    (rdNums l k many (rdCount l t many).1 (rdCount l t many).2 [] []).2.2.bad || !(decide ((joinA (rdNums l k many (rdCount l t many).1 (rdCount l t many).2 [] []).1 (rdNums l k many (rdCount l t many).1 (rdCount l t many).2 [] []).2.1).2=0) && decide ((joinA (rdNums l k many (rdCount l t many).1 (rdCount l t many).2 [] []).1 (rdNums l k many (rdCount l t many).1 (rdCount l t many).2 [] []).2.1).1.length=many))⟩)
noncomputable def rdLook (l:List UInt8) (k:Int) (t:Tk) (many:Nat) (ws:List V):List V × Tk :=
  ((lookA ws (rdPacked l t many (wid (ws.length - 1))).1).1,⟨(rdPacked l t many (wid (ws.length - 1))).2.pos,(rdPacked l t many (wid (ws.length - 1))).2.bad || decide ((lookA ws (rdPacked l t many (wid (ws.length - 1))).1).2 ≠ 0)⟩)
noncomputable def rdWords (l:List UInt8) (k:Int) (t:Tk) (many:Nat):List V × Tk :=
  rdLook l k (rdEach l k (rdCount l t many).1 (rdCount l t many).2 []).2 many (rdEach l k (rdCount l t many).1 (rdCount l t many).2 []).1
def rdTruths (l:List UInt8) (t:Tk) (many:Nat):List V × Tk :=
  ((rdPacked l t many 1).1.map fun x => ⟨2,0,decide (x=1),ByteArray.empty⟩,(rdPacked l t many 1).2)
noncomputable def rdSome (l:List UInt8) (k:Int) (e:Nat) (t:Tk) (many:Nat):List V × Tk :=
  if e=1 then rdRuns l k t many else if e=2 then rdWords l k t many else if k=2 then rdTruths l t many else rdEach l k many t []
theorem count_there {l r:List UInt8} {p n most:Nat} (h:Ahead l p (vp n ++ r)) (hn:n < 18446744073709551616) (hm:n≤most):rdCount l ⟨p,false⟩ most=(n,⟨p + (vp n).length,false⟩):=by
  obtain ⟨h1,h2⟩:=h.split
  have hr:=readN_vp (l.take p) r n hn
  rw [← h1,h2] at hr
  unfold rdCount
  simp only [hr]
  rw [if_neg (by simp;omega)]
  congr 2
theorem getD_ahead {l r:List UInt8} {p:Nat} {b:UInt8} (h:Ahead l p (b :: r)):l.getD p 0=b:=by
  have hl:=h.len
  rw [List.length_cons] at hl
  have h1:p < l.length:=by omega
  rw [List.getD_eq_getElem?_getD,List.getElem?_eq_getElem h1]
  have:=h.is
  rw [List.drop_eq_getElem_cons h1] at this
  injection this
theorem rdValue_there {l r:List UInt8} {p:Nat} {k:Int} {v:V} (hv:ValK k v) (hk:1≤k∧k≤3) (h:Ahead l p (plainB v ++ r)):rdValue l k ⟨p,false⟩=(v,⟨p + (plainB v).length,false⟩):=by
  have hkv:=hv.kind
  have hp:=hv.plain
  rcases (show k=1∨k=2∨k=3 by omega) with rfl | rfl | rfl
  · have e:plainB v=vp (zz v.i):=if_pos hkv
    rw [e] at h ⊢
    obtain ⟨h1,h2⟩:=h.split
    have hr:=readN_vp (l.take p) r (zz v.i) (zz_lt hv.lo hv.hi)
    rw [← h1,h2] at hr
    have hc:cellA 1 l p=(⟨1,unzz (zz v.i),false,ByteArray.empty⟩,p + (vp (zz v.i)).length,true):=by
      unfold cellA cellN
      rw [if_pos rfl]
      simp only [hr]
      rw [if_pos trivial]
      congr 2
    unfold rdValue
    simp only [hc]
    rw [if_pos trivial,unzz_zz]
    rw [plainV_int hkv] at hp
    rw [hp]
  · have e:plainB v=[if v.b=true then 1 else 0]:=by unfold plainB;rw [if_neg (by omega),if_pos hkv]
    rw [e] at h ⊢
    have hg:=getD_ahead h
    have hl:=h.len
    rw [List.length_append,List.length_singleton] at hl
    have hc:cellA 2 l p=(⟨2,0,v.b,ByteArray.empty⟩,p + 1,true):=by
      unfold cellA cellB
      rw [if_neg (by omega),if_pos rfl,hg]
      rw [if_pos ⟨by omega,by cases v.b <;> simp⟩]
      cases v.b <;> simp
    unfold rdValue
    simp only [hc]
    rw [if_pos trivial]
    rw [plainV_bool hkv] at hp
    rw [hp]
    rfl
  · have e:plainB v=vp v.s.size ++ v.s.data.toList:=by unfold plainB;rw [if_neg (by omega),if_neg (by omega)]
    rw [e] at h ⊢
    have hs:=hv.size rfl
    obtain ⟨h1,h2⟩:=h.assoc.split
    have hr:=readN_vp (l.take p) (v.s.data.toList ++ r) v.s.size (by omega)
    rw [← h1,h2] at hr
    have hn:=h.assoc.next
    have hl:=hn.len
    rw [List.length_append,← size_list] at hl
    have hc:cellA 3 l p=(⟨3,0,false,v.s⟩,p + (vp v.s.size).length + v.s.size,true):=by
      unfold cellA cellT
      rw [if_neg (by omega),if_neg (by omega)]
      simp only [hr]
      have e1:((p:Int) + ((vp v.s.size).length:Int)).toNat=p + (vp v.s.size).length:=by omega
      rw [e1,if_pos ⟨trivial,by omega⟩,hn.is,size_list,List.take_left,text_back]
    unfold rdValue
    simp only [hc]
    rw [if_pos trivial]
    rw [plainV_text hkv] at hp
    rw [hp,List.length_append,← size_list,Nat.add_assoc]
theorem rdPacked_there {l r:List UInt8} {p w n:Nat} {xs:List Int} (hf:fits w xs) (hw:w≤16) (hn:xs.length=n) (hl:n≤4096) (h:Ahead l p (packB w xs ++ r)):rdPacked l ⟨p,false⟩ n w=(xs,⟨p + (packB w xs).length,false⟩):=by
  subst hn
  have hlen:=h.len
  rw [List.length_append,packB_length] at hlen
  obtain ⟨t,h1,h2,h3⟩:=pack_there xs w hw (by omega) hf
  rw [packA_B hw hf] at h1
  injection h1 with h1 _
  have e1:(l.drop p).take (bytesFor xs.length w)=packB w xs:=by
    rw [h.is,← packB_length w xs,List.take_left]
  unfold rdPacked
  simp only
  rw [if_neg (by omega),e1,h1,h3,packB_length]
  rfl
theorem rdEach_there {l r:List UInt8} {k:Int} (hk:1≤k∧k≤3):∀ (ws vs:List V) (p:Nat),(∀ x ∈ ws,ValK k x) →
    Ahead l p (ws.flatMap plainB ++ r)→rdEach l k ws.length ⟨p,false⟩ vs=(vs ++ ws,⟨p + (ws.flatMap plainB).length,false⟩)
  | [],vs,p,_,_ => by simp [rdEach]
  | x :: ws,vs,p,hx,h => by
    rw [List.flatMap_cons] at h ⊢
    have hv:=rdValue_there (hx x (by simp)) hk h.assoc
    rw [List.length_cons,rdEach,if_neg (by simp),hv]
    simp only
    rw [rdEach_there hk ws _ _ (fun y hy => hx y (by simp [hy])) h.assoc.next]
    simp [Nat.add_assoc]
theorem rdNums_there {l r:List UInt8} {k:Int} {many:Nat} (hk:1≤k∧k≤3) (hm:many < 18446744073709551616):∀ (rs:List (Int × V)) (ms:List Int) (vs:List V) (p:Nat),(∀ x ∈ rs,0≤x.1∧x.1.toNat≤many∧ValK k x.2) →
    Ahead l p (runsB rs ++ r)→rdNums l k many rs.length ⟨p,false⟩ ms vs=(ms ++ rs.map Prod.fst,vs ++ rs.map Prod.snd,⟨p + (runsB rs).length,false⟩)
  | [],ms,vs,p,_,_ => by simp [rdNums,runsB]
  | x :: rs,ms,vs,p,hx,h => by
    have e1:runsB (x :: rs)=vp x.1.toNat ++ (plainB x.2 ++ runsB rs):=by simp [runsB]
    rw [e1] at h ⊢
    obtain ⟨h0,h1,h2⟩:=hx x (by simp)
    have ha:Ahead l p (vp x.1.toNat ++ (plainB x.2 ++ (runsB rs ++ r))):=⟨h.le,by rw [h.is];simp⟩
    have hn:=count_there ha (most:=many) (by omega) h1
    have hv:=rdValue_there h2 hk ha.next
    rw [List.length_cons,rdNums,if_neg (by simp),hn]
    simp only [hv]
    rw [rdNums_there hk hm rs _ _ _ (fun y hy => hx y (by simp [hy])) ha.next.next,Int.toNat_of_nonneg h0]
    simp [Nat.add_assoc]
theorem rdSome_there {l r:List UInt8} {p e:Nat} {k:Int} {vs:List V} (hk:1≤k∧k≤3) (hv:∀ v ∈ vs,ValK k v) (hn:vs.length≤4096) (he:e≤2) (h:Ahead l p (ways k vs e ++ r)) :
    rdSome l k e ⟨p,false⟩ vs.length=(vs,⟨p + (ways k vs e).length,false⟩):=by
  have hpl:∀ v ∈ vs,plainV v=v:=fun v hm => (hv v hm).plain
  rcases (show e=1∨e=2∨e=0 by omega) with rfl | rfl | rfl
  · have e1:ways k vs 1=vp (cutA vs).2.length ++ runsB ((cutA vs).1.zip (cutA vs).2):=if_pos rfl
    rw [e1] at h ⊢
    have hc:=cutd vs
    have hcl:=hc.le
    have hz:((cutA vs).1.zip (cutA vs).2).length=(cutA vs).2.length:=by rw [List.length_zip,hc.len,Nat.min_self]
    have hnum:=count_there h.assoc (most:=vs.length) (by omega) hcl
    have hrs:∀ x ∈ (cutA vs).1.zip (cutA vs).2,0≤x.1∧x.1.toNat≤vs.length∧ValK k x.2:=by
      intro x hx
      obtain ⟨h1,h2⟩:=List.of_mem_zip (a:=x.1) (b:=x.2) hx
      obtain ⟨i,hi,h3⟩:=List.getElem_of_mem h1
      have h4:=cut_num_le vs i hi
      have h5:=hc.pos i hi
      rw [getD_in hi,h3] at h4 h5
      exact ⟨by omega,by omega,hv _ (cut_of hpl _ h2)⟩
    have hr:=rdNums_there (many:=vs.length) hk (by omega) ((cutA vs).1.zip (cutA vs).2) [] [] (p + (vp (cutA vs).2.length).length) hrs h.assoc.next
    rw [hz,List.nil_append,List.nil_append,List.map_fst_zip (by rw [hc.len];exact Nat.le_refl _),List.map_snd_zip (by rw [hc.len];exact Nat.le_refl _)] at hr
    have hj:=join_cut vs
    rw [if_pos hn,map_plain hpl] at hj
    unfold rdSome rdRuns
    rw [if_pos rfl,hnum]
    simp only [hr,hj]
    simp [Nat.add_assoc]
  · have e1:ways k vs 2=vp (buildA vs).1.length ++ ((buildA vs).1.flatMap plainB ++ packB (wid ((buildA vs).1.length - 1)) (buildA vs).2):=rfl
    rw [e1] at h ⊢
    have hb:=built vs
    have hbl:=hb.le
    have hnum:=count_there h.assoc (most:=vs.length) (by omega) hbl
    have h2:=h.assoc.next.assoc
    have hw:=rdEach_there hk (buildA vs).1 [] _ (fun x hx => hv _ (build_of hpl _ hx)) h2
    have hp:=rdPacked_there (places_fit hn) (Nat.le_trans (wid_most (by omega)) (by omega)) hb.len hn h2.next
    have hlk:=look_built vs
    rw [map_plain hpl] at hlk
    rw [List.nil_append] at hw
    unfold rdSome rdWords rdLook
    rw [if_neg (by omega),if_pos rfl,hnum]
    simp only [hw,hp,hlk]
    simp [Nat.add_assoc]
  · have e1:ways k vs 0=wayP k vs:=rfl
    rw [e1] at h ⊢
    unfold rdSome
    rw [if_neg (by omega),if_neg (by omega)]
    by_cases k2:k=2
    · have e2:wayP k vs=packB 1 (vs.map bitV):=if_pos k2
      rw [e2] at h ⊢
      have hp:=rdPacked_there (bits_fit vs bitV fun v => by unfold bitV;split <;> omega) (by omega) (List.length_map bitV) hn h
      rw [if_pos k2]
      unfold rdTruths
      rw [hp]
      refine Prod.ext ?_ rfl
      simp only [List.map_map]
      conv => rhs;rw [← List.map_id vs]
      refine List.map_congr_left fun v hm => ?_
      have h1:=(hv v hm).kind
      have h2:=(hv v hm).plain
      rw [plainV_bool (by omega)] at h2
      rw [← h2]
      simp only [Function.comp,bitV,id]
      cases v.b <;> simp
    · have e2:wayP k vs=vs.flatMap plainB:=if_neg k2
      rw [e2] at h ⊢
      rw [if_neg k2,rdEach_there hk vs [] p hv h]
      rfl
theorem rdCount_pos {l:List UInt8} {t:Tk} {most:Nat} (h:t.pos≤l.length):(rdCount l t most).2.pos≤l.length∧(rdCount l t most).1≤most:=by
  unfold rdCount
  split
  · exact ⟨h,Nat.zero_le _⟩
  · rename_i c
    have h0:(readN l t.pos).2.2=0:=by by_cases e:(readN l t.pos).2.2=0;exact e;exact absurd (.inl e) c
    obtain ⟨q,h1,_,h2⟩:=readN_at h0
    refine ⟨by simp only [h1,Int.toNat_natCast];exact h2,?_⟩
    simp only
    omega
theorem cellA_pos {k:Int} {l:List UInt8} {p:Nat} (h:(cellA k l p).2.2=true):(cellA k l p).2.1≤l.length:=by
  unfold cellA at h ⊢
  split at h
  · rename_i c;rw [if_pos c]
    unfold cellN at h ⊢
    split at h
    · rename_i c2;rw [if_pos c2]
      obtain ⟨q,h1,_,h2⟩:=readN_at c2
      simp only [h1,Int.toNat_natCast];exact h2
    · simp at h
  · rename_i c;rw [if_neg c]
    split at h
    · rename_i c2;rw [if_pos c2]
      unfold cellB at h ⊢
      split at h
      · rename_i c3;rw [if_pos c3];simp only;omega
      · simp at h
    · rename_i c2;rw [if_neg c2]
      unfold cellT at h ⊢
      split at h
      · rename_i c3;rw [if_pos c3];exact c3.2
      · simp at h
theorem cellA_in {k:Int} {l:List UInt8} {p:Nat}:InI (cellA k l p).1∧(cellA k l p).1.s.size≤l.length∧plainV (cellA k l p).1=(cellA k l p).1:=by
  have hz:InI zeroV∧zeroV.s.size≤l.length∧plainV zeroV=zeroV:=⟨zero_in,Nat.zero_le _,rfl⟩
  unfold cellA
  split
  · unfold cellN
    split
    · exact ⟨unzz_in (readN_lt l p),Nat.zero_le _,rfl⟩
    · exact hz
  · split
    · unfold cellB
      split
      · exact ⟨by simp [InI],Nat.zero_le _,rfl⟩
      · exact hz
    · unfold cellT
      split
      · refine ⟨by simp [InI],?_,rfl⟩
        simp only [textB_size,List.length_take,List.length_drop]
        omega
      · exact hz
theorem rdValue_pos {l:List UInt8} {k:Int} {t:Tk} (h:t.pos≤l.length):(rdValue l k t).2.pos≤l.length:=by
  unfold rdValue
  split
  · rename_i c;exact cellA_pos c
  · exact h
def Read1 (l:List UInt8) (v:V):Prop:=InI v∧v.s.size≤l.length∧plainV v=v
theorem zero_read (l:List UInt8):Read1 l zeroV:=⟨zero_in,Nat.zero_le _,rfl⟩
theorem rdValue_in (l:List UInt8) (k:Int) (t:Tk):Read1 l (rdValue l k t).1:=by
  unfold rdValue
  split
  · exact cellA_in
  · exact zero_read l
theorem rdPacked_pos {l:List UInt8} {t:Tk} {many w:Nat} (h:t.pos≤l.length):(rdPacked l t many w).2.pos≤l.length:=by
  unfold rdPacked
  split
  · exact h
  · rename_i c;simp only;omega
theorem unpack_len (s:ByteArray) (n w:Nat):(unpackA s n w).1.length≤n∧((unpackA s n w).2=0→(unpackA s n w).1.length=n):=by
  unfold unpackA
  split
  · split
    · split
      · simp
      · simp
    · simp
  · simp
theorem rdPacked_len (l:List UInt8) (t:Tk) (many w:Nat):(rdPacked l t many w).1.length≤many∧((rdPacked l t many w).2.bad=false→(rdPacked l t many w).1.length=many∧t.bad=false):=by
  unfold rdPacked
  split
  · simp
  · have:=unpack_len (textB ((l.drop t.pos).take (bytesFor many w))) many w
    refine ⟨this.1,fun h => ?_⟩
    simp only [Bool.or_eq_false_iff,decide_eq_false_iff_not,ne_eq,Decidable.not_not] at h
    exact ⟨this.2 h.2,h.1⟩
theorem unpack_digits (s:ByteArray) (n w:Nat):∀ x ∈ (unpackA s n w).1,0≤x∧x < 2 ^ w:=by
  intro x hx
  unfold unpackA at hx
  split at hx
  · split at hx
    · split at hx
      · simp only [List.mem_map] at hx
        obtain ⟨i,_,rfl⟩:=hx
        have:=dig_lt w (numT s) i
        refine ⟨by omega,?_⟩
        rw [Int.toNat_natCast]
        have h4:((2:Int) ^ w)=((2 ^ w:Nat):Int):=by simp
        rw [h4];omega
      · simp at hx
    · simp at hx
  · simp at hx
theorem rdPacked_digits (l:List UInt8) (t:Tk) (many w:Nat):∀ x ∈ (rdPacked l t many w).1,0≤x∧x < 2 ^ w:=by
  unfold rdPacked
  split
  · simp
  · exact unpack_digits _ _ _
theorem rdEach_all (l:List UInt8) (k:Int):∀ (r:Nat) (t:Tk) (vs:List V),t.pos≤l.length→(∀ v ∈ vs,Read1 l v) →
    (rdEach l k r t vs).2.pos≤l.length∧(∀ v ∈ (rdEach l k r t vs).1,Read1 l v)∧(rdEach l k r t vs).1.length≤vs.length + r∧((rdEach l k r t vs).2.bad=false→(rdEach l k r t vs).1.length=vs.length + r∧t.bad=false)
  | 0,t,vs,hp,hv => ⟨hp,hv,Nat.le_refl _,fun h => ⟨rfl,h⟩⟩
  | r + 1,t,vs,hp,hv => by
    rw [rdEach]
    split
    · rename_i c
      exact ⟨hp,hv,by simp only;omega,fun h => by simp only at h;rw [c] at h;cases h⟩
    · rename_i c
      obtain ⟨h1,h2,h3,h4⟩:=rdEach_all l k r (rdValue l k t).2 (vs ++ [(rdValue l k t).1]) (rdValue_pos hp) (fun v hm => by
        rcases List.mem_append.1 hm with hm | hm
        · exact hv v hm
        · rw [List.mem_singleton.1 hm];exact rdValue_in l k t)
      rw [List.length_append,List.length_singleton] at h3 h4
      refine ⟨h1,h2,by omega,fun h => ⟨by have:=(h4 h).1;omega,by simpa using c⟩⟩
theorem rdNums_all (l:List UInt8) (k:Int) (many:Nat):∀ (r:Nat) (t:Tk) (ms:List Int) (vs:List V),t.pos≤l.length→(∀ v ∈ vs,Read1 l v)→(∀ x ∈ ms,0≤x∧x≤many) →
    (rdNums l k many r t ms vs).2.2.pos≤l.length∧(∀ v ∈ (rdNums l k many r t ms vs).2.1,Read1 l v)∧(∀ x ∈ (rdNums l k many r t ms vs).1,0≤x∧x≤many)∧(rdNums l k many r t ms vs).2.1.length≤vs.length + r∧(rdNums l k many r t ms vs).1.length≤ms.length + r∧((rdNums l k many r t ms vs).2.2.bad=false→t.bad=false)
  | 0,t,ms,vs,hp,hv,hm => ⟨hp,hv,hm,Nat.le_refl _,Nat.le_refl _,fun h => h⟩
  | r + 1,t,ms,vs,hp,hv,hm => by
    rw [rdNums]
    split
    · rename_i c
      exact ⟨hp,hv,hm,by simp only;omega,by simp only;omega,fun h => by simp only at h;rw [c] at h;cases h⟩
    · rename_i c
      obtain ⟨hc1,hc2⟩:=rdCount_pos (most:=many) hp
      obtain ⟨h1,h2,h3,h4,h5,h6⟩:=rdNums_all l k many r (rdValue l k (rdCount l t many).2).2 (ms ++ [((rdCount l t many).1:Int)]) (vs ++ [(rdValue l k (rdCount l t many).2).1]) (rdValue_pos hc1) (fun v hx => by
        rcases List.mem_append.1 hx with hx | hx
        · exact hv v hx
        · rw [List.mem_singleton.1 hx];exact rdValue_in l k _) (fun x hx => by
        rcases List.mem_append.1 hx with hx | hx
        · exact hm x hx
        · rw [List.mem_singleton.1 hx];omega)
      rw [List.length_append,List.length_singleton] at h4 h5
      exact ⟨h1,h2,h3,by omega,by omega,fun h => by simpa using c⟩
end Go.Proofs.YtfbmlefhjoblbaaGreat
namespace Go.Proofs.YtfbmlefhjoblbaaGreat
open Go.Conc Go.RowKit
set_option linter.unusedVariables false
set_option linter.unusedSimpArgs false
theorem merge_all {P:V→Prop} (h0:P zeroV):∀ (ns:List Int) (vs:List V),(∀ v ∈ vs,P v)→∀ v ∈ mergeV ns vs,P v
  | [],vs,_,v,hv => by cases hv
  | n :: ns,vs,h,v,hv => by
    rw [mergeV] at hv
    split at hv
    · rcases List.mem_cons.1 hv with rfl | hv
      · exact h0
      · exact merge_all h0 ns vs h v hv
    · rcases List.mem_cons.1 hv with rfl | hv
      · cases vs with
        | nil => exact h0
        | cons x r => exact h x (by simp)
      · exact merge_all h0 ns vs.tail (fun u hu => h u (List.mem_of_mem_tail hu)) v hv
theorem getD_all {P:V→Prop} (h0:P zeroV) {ws:List V} (h:∀ v ∈ ws,P v) (i:Nat):P (ws.getD i zeroV):=by
  by_cases c:i < ws.length
  · rw [getD_in c];exact h _ (List.getElem_mem _)
  · rw [List.getD_eq_getElem?_getD,List.getElem?_eq_none (by omega)];exact h0
theorem read_plain {l:List UInt8} {v:V} (h:Read1 l v):Read1 l (plainV v):=by rw [h.2.2];exact h
theorem joinN_all {P:V→Prop} (h0:P zeroV) (hp:∀ v,P v→P (plainV v)) {m:List Int} {e:List V} (he:∀ v ∈ e,P v):∀ (k:Nat) (out:List V),joinN m e k=some out→∀ v ∈ out,P v
  | 0,out,h,v,hv => by injection h with h;subst h;cases hv
  | k + 1,out,h,v,hv => by
    rw [joinN] at h
    split at h
    · cases h
    · rename_i o ho
      split at h
      · cases h
      · injection h with h
        subst h
        rcases List.mem_append.1 hv with hv | hv
        · exact joinN_all h0 hp he k o ho v hv
        · rw [(List.mem_replicate.1 hv).2];exact hp _ (getD_all h0 he k)
theorem joinA_all {P:V→Prop} (h0:P zeroV) (hp:∀ v,P v→P (plainV v)) {m:List Int} {e:List V} (he:∀ v ∈ e,P v):∀ v ∈ (joinA m e).1,P v:=by
  unfold joinA
  split
  · split
    · intro v hv;cases hv
    · rename_i out ho;exact joinN_all h0 hp he _ _ ho
  · intro v hv;cases hv
theorem lookA_all {P:V→Prop} (h0:P zeroV) (hp:∀ v,P v→P (plainV v)) {ws:List V} {at_:List Int} (hw:∀ v ∈ ws,P v):∀ v ∈ (lookA ws at_).1,P v:=by
  unfold lookA
  split
  · intro v hv;cases hv
  · intro v hv
    obtain ⟨x,_,rfl⟩:=List.mem_map.1 hv
    exact hp _ (getD_all h0 hw _)
theorem lookA_len {ws:List V} {at_:List Int} (h:(lookA ws at_).2=0):(lookA ws at_).1.length=at_.length:=by
  unfold lookA at h ⊢
  split at h
  · simp at h
  · rename_i c;rw [if_neg c];simp
theorem rdRuns_all {l:List UInt8} {k:Int} {t:Tk} {many:Nat} (hp:t.pos≤l.length):(rdRuns l k t many).2.pos≤l.length∧(∀ v ∈ (rdRuns l k t many).1,Read1 l v)∧((rdRuns l k t many).2.bad=false→(rdRuns l k t many).1.length=many):=by
  unfold rdRuns
  obtain ⟨h1,h2⟩:=rdCount_pos (most:=many) hp
  obtain ⟨a,b,c,d,e,f⟩:=rdNums_all l k many (rdCount l t many).1 (rdCount l t many).2 [] [] h1 (fun v hv => by cases hv) (fun x hx => by cases hx)
  refine ⟨a,joinA_all (zero_read l) (fun v h => read_plain h) b,fun h => ?_⟩
  simp only [Bool.or_eq_false_iff,Bool.not_eq_false',Bool.and_eq_true,decide_eq_true_eq] at h
  exact h.2.2
theorem rdWords_all {l:List UInt8} {k:Int} {t:Tk} {many:Nat} (hp:t.pos≤l.length):(rdWords l k t many).2.pos≤l.length∧(∀ v ∈ (rdWords l k t many).1,Read1 l v)∧((rdWords l k t many).2.bad=false→(rdWords l k t many).1.length=many):=by
  unfold rdWords rdLook
  obtain ⟨h1,h2⟩:=rdCount_pos (most:=many) hp
  obtain ⟨a,b,c,d⟩:=rdEach_all l k (rdCount l t many).1 (rdCount l t many).2 [] h1 (fun v hv => by cases hv)
  refine ⟨rdPacked_pos a,lookA_all (zero_read l) (fun v h => read_plain h) b,fun h => ?_⟩
  simp only [Bool.or_eq_false_iff,decide_eq_false_iff_not,ne_eq,Decidable.not_not] at h
  simp only
  rw [lookA_len h.2]
  exact ((rdPacked_len l _ many _).2 h.1).1
theorem rdTruths_all {l:List UInt8} {t:Tk} {many:Nat} (hp:t.pos≤l.length):(rdTruths l t many).2.pos≤l.length∧(∀ v ∈ (rdTruths l t many).1,Read1 l v)∧((rdTruths l t many).2.bad=false→(rdTruths l t many).1.length=many):=by
  unfold rdTruths
  refine ⟨rdPacked_pos hp,?_,fun h => ?_⟩
  · intro v hv
    obtain ⟨x,_,rfl⟩:=List.mem_map.1 hv
    exact ⟨by simp [InI],Nat.zero_le _,rfl⟩
  · simp only [List.length_map]
    exact ((rdPacked_len l t many 1).2 h).1
theorem rdSome_all {l:List UInt8} {k:Int} {e:Nat} {t:Tk} {many:Nat} (hp:t.pos≤l.length):(rdSome l k e t many).2.pos≤l.length∧(∀ v ∈ (rdSome l k e t many).1,Read1 l v)∧((rdSome l k e t many).2.bad=false→(rdSome l k e t many).1.length=many):=by
  unfold rdSome
  split
  · exact rdRuns_all hp
  · split
    · exact rdWords_all hp
    · split
      · exact rdTruths_all hp
      · obtain ⟨a,b,c,d⟩:=rdEach_all l k many t [] hp (fun v hv => by cases hv)
        exact ⟨a,b,fun h => by have:=(d h).1;simpa using this⟩
noncomputable def rdBody (k:Int) (l:List UInt8) (ns:List Int) (q:List V × Tk):Option (List V):=if q.2.bad=true then none else some (mergeV ns q.1)
noncomputable def readA (k:Int) (l:List UInt8):Option (List V) :=
  if l=[]∨3≤(l.getD 0 0).toNat then none
  else rdBody k l (rdPacked l (rdCount l ⟨1,false⟩ 4096).2 (rdCount l ⟨1,false⟩ 4096).1 1).1 (rdSome l k (l.getD 0 0).toNat (rdPacked l (rdCount l ⟨1,false⟩ 4096).2 (rdCount l ⟨1,false⟩ 4096).1 1).2 (zerosI (rdPacked l (rdCount l ⟨1,false⟩ 4096).2 (rdCount l ⟨1,false⟩ 4096).1 1).1))
theorem readA_read {k:Int} {l:List UInt8} {vs:List V} (h:readA k l=some vs):∀ v ∈ vs,Read1 l v:=by
  unfold readA at h
  split at h
  · cases h
  · rename_i c
    have hl:1≤l.length:=by cases l with | nil => exact absurd (.inl rfl) c | cons a b => simp
    unfold rdBody at h
    split at h
    · cases h
    · injection h with h
      subst h
      exact merge_all (zero_read l) _ _ (rdSome_all (rdPacked_pos (rdCount_pos (t:=⟨1,false⟩) hl).1)).2.1
theorem readA_there {k:Int} {vs:List V} (hk:1≤k∧k≤3) (hv:∀ v ∈ vs,OkV k v) (hn:vs.length≤4096):readA k (bodyB k vs)=some (vs.map plainV):=by
  have hb:=best_le k (someV vs)
  have hl:=some_le vs
  have h0:Ahead (bodyB k vs) 1 (vp vs.length ++ (packB 1 (nullI vs) ++ ways k (someV vs) (best k (someV vs)))):=⟨by simp [bodyB],rfl⟩
  have h1:=count_there h0 (most:=4096) (by omega) hn
  have h2:=rdPacked_there (bits_fit vs _ fun v => by split <;> omega) (by omega) (null_len vs) hn h0.next
  have h3:Ahead (bodyB k vs) _ (ways k (someV vs) (best k (someV vs)) ++ []):=⟨h0.next.next.le,by rw [List.append_nil];exact h0.next.next.is⟩
  have h4:=rdSome_there hk (some_ok hk hv) (by omega) hb h3
  have h5:((bodyB k vs).getD 0 0).toNat=best k (someV vs):=by
    show (u8 (best k (someV vs))).toNat=_
    exact u8_toNat _ (by omega)
  unfold readA
  rw [if_neg (by rw [h5]; rintro (h | h); · simp [bodyB] at h
                 · omega),h1]
  simp only
  rw [show packB 1 (nullI vs)=packB 1 (vs.map fun v => if isNull v=true then 1 else 0) from rfl] at *
  rw [h2]
  simp only [h5]
  rw [show (vs.map fun v => if isNull v=true then (1:Int) else 0)=nullI vs from rfl] at *
  rw [zeros_some,h4]
  unfold rdBody
  simp only
  rw [if_neg (by simp),merge_back]
theorem reads_readA {k:Int} (hk:1≤k∧k≤3):Reads k (readA k) :=
  ⟨fun vs hn hv => readA_there hk hv hn,fun l vs h v hv => (readA_read h v hv).1⟩
def sumB:List Int→Int
  | [] => 0
  | x :: xs => x + sumB xs
theorem sumB_append:∀ (a b:List Int),sumB (a ++ b)=sumB a + sumB b
  | [],b => by simp [sumB]
  | x :: a,b => by rw [List.cons_append,sumB,sumB,sumB_append a b];omega
theorem sumB_bits:∀ (xs:List Int),(∀ x ∈ xs,0≤x∧x < 2)→0≤sumB xs∧sumB xs≤xs.length∧(xs.length:Int) - sumB xs=(zerosI xs:Int)
  | [],_ => by simp [sumB,zerosI]
  | x :: xs,h => by
    obtain ⟨h1,h2,h3⟩:=sumB_bits xs fun y hy => h y (by simp [hy])
    have hx:=h x (by simp)
    unfold zerosI at h3 ⊢
    rw [List.countP_cons,sumB,List.length_cons]
    generalize List.countP (fun n => decide (n ≠ 1)) xs=C at *
    rcases (show x=0∨x=1 by omega) with rfl | rfl
    · rw [if_pos (by decide)];omega
    · rw [if_neg (by decide)];omega
theorem zeros_le (xs:List Int):zerosI xs≤xs.length:=List.countP_le_length
theorem zeros_append (a b:List Int):zerosI (a ++ b)=zerosI a + zerosI b:=List.countP_append
def mergeN (ns:List Int) (vs:List V) (n:Nat):List V:=mergeV (ns.take n) vs ++ List.replicate (ns.length - n) zeroV
theorem merge_len:∀ (ns:List Int) (vs:List V),(mergeV ns vs).length=ns.length
  | [],_ => rfl
  | n :: ns,vs => by
    rw [mergeV]
    split
    · simp [merge_len ns vs]
    · simp [merge_len ns vs.tail]
theorem merge_snoc:∀ (ns:List Int) (n:Int) (vs:List V),mergeV (ns ++ [n]) vs=mergeV ns vs ++ [if n=1 then zeroV else vs.getD (zerosI ns) zeroV]
  | [],n,vs => by
    by_cases c:n=1
    · simp [mergeV,c]
    · cases vs <;> simp [mergeV,zerosI,c]
  | m :: ns,n,vs => by
    rw [List.cons_append,mergeV,mergeV]
    unfold zerosI
    rw [List.countP_cons]
    by_cases c:m=1
    · rw [if_pos c,if_pos c,merge_snoc ns n vs]
      simp [c,zerosI]
    · rw [if_neg c,if_neg c,merge_snoc ns n vs.tail]
      have e:(if decide (m ≠ 1)=true then 1 else 0)=1:=by simp [c]
      rw [e]
      cases vs with
      | nil => simp [zerosI]
      | cons a b => simp [zerosI]
theorem mergeN_zero (ns:List Int) (vs:List V):mergeN ns vs 0=List.replicate ns.length zeroV:=by simp [mergeN,mergeV]
theorem mergeN_all (ns:List Int) (vs:List V):mergeN ns vs ns.length=mergeV ns vs:=by simp [mergeN]
theorem mergeN_len (ns:List Int) (vs:List V) (n:Nat) (h:n≤ns.length):(mergeN ns vs n).length=ns.length:=by
  unfold mergeN;rw [List.length_append,merge_len,List.length_take,List.length_replicate];omega
theorem mergeN_null (ns:List Int) (vs:List V) (n:Nat) (h:n < ns.length) (h1:ns[n]=1):mergeN ns vs (n + 1)=mergeN ns vs n:=by
  unfold mergeN
  rw [← List.take_append_getElem h,merge_snoc,if_pos h1,List.append_assoc,show ns.length - n=(ns.length - (n + 1)) + 1 by omega,List.replicate_succ]
  rfl
theorem mergeN_next (ns:List Int) (vs:List V) (n:Nat) (h:n < ns.length) (h1:ns[n] ≠ 1):mergeN ns vs (n + 1)=(mergeN ns vs n).set n (vs.getD (zerosI (ns.take n)) zeroV):=by
  unfold mergeN
  rw [← List.take_append_getElem h,merge_snoc,if_neg h1,List.append_assoc,show ns.length - n=(ns.length - (n + 1)) + 1 by omega,List.replicate_succ]
  rw [List.set_append_right n _ (by rw [merge_len,List.length_take];omega),merge_len,List.length_take,show n - min n ns.length=0 by omega]
  rfl
theorem zeros_next (ns:List Int) (n:Nat) (h:n < ns.length):zerosI (ns.take (n + 1))=zerosI (ns.take n) + if ns[n]=1 then 0 else 1:=by
  rw [← List.take_append_getElem h,zeros_append]
  unfold zerosI
  by_cases c:ns[n]=1 <;> simp [c]
theorem zeros_take_le (ns:List Int) (n:Nat):zerosI (ns.take n)≤zerosI ns:=by
  have:=zeros_append (ns.take n) (ns.drop n)
  rw [List.take_append_drop] at this
  omega
end Go.Proofs.YtfbmlefhjoblbaaGreat
namespace Go.Proofs.YtfbmlefhjoblbaaGreat
open Go.Conc Go.RowKit
set_option linter.unusedVariables false
set_option linter.unusedSimpArgs false
structure RawK (k:Int) (v:V):Prop where
  kind:v.k=k
  lo:-9223372036854775808≤v.i
  hi:v.i≤9223372036854775807
  size:k=3→v.s.size≤64
  big:v.s.size≤140737488355328
theorem RawK.valk {k:Int} {v:V} (h:RawK k v) (hk:1≤k∧k≤3):ValK k (plainV v):=by
  have hkv:=h.kind
  rcases (show k=1∨k=2∨k=3 by omega) with rfl | rfl | rfl
  · rw [plainV_int hkv];exact ⟨rfl,plainV_int rfl,h.lo,h.hi,fun e => by omega⟩
  · rw [plainV_bool hkv];exact ⟨rfl,plainV_bool rfl,by simp,by simp,fun e => by omega⟩
  · rw [plainV_text hkv];exact ⟨rfl,plainV_text rfl,by simp,by simp,fun e => h.size rfl⟩
theorem plainB_plain {k:Int} {v:V} (h:RawK k v) (hk:1≤k∧k≤3):plainB (plainV v)=plainB v:=by
  have hkv:=h.kind
  rcases (show k=1∨k=2∨k=3 by omega) with rfl | rfl | rfl
  · rw [plainV_int hkv];unfold plainB;simp [hkv]
  · rw [plainV_bool hkv];unfold plainB;simp [hkv]
  · rw [plainV_text hkv];unfold plainB;simp [hkv]
theorem rawB_len {k:Int} {v:V} (h:RawK k v) (hk:1≤k∧k≤3):(plainB v).length≤74:=by
  rw [← plainB_plain h hk];exact (plainB_len (h.valk hk) hk).2
theorem cutStep_plain (r:List Int × List V) (v:V):cutStep r (plainV v)=cutStep r v:=by
  unfold cutStep
  simp only [plainV_twice]
theorem cutA_plain (vs:List V):cutA (vs.map plainV)=cutA vs:=by
  refine snoc_ind (P:=fun vs => cutA (vs.map plainV)=cutA vs) rfl (fun vs v ih => ?_) vs
  rw [List.map_append,List.map_singleton,cutA_snoc,cutA_snoc,ih,cutStep_plain]
theorem buildStep_plain (r:List V × List Int) (v:V):buildStep r (plainV v)=buildStep r v:=by
  unfold buildStep
  simp only [plainV_twice]
theorem buildA_plain (vs:List V):buildA (vs.map plainV)=buildA vs:=by
  refine snoc_ind (P:=fun vs => buildA (vs.map plainV)=buildA vs) rfl (fun vs v ih => ?_) vs
  rw [List.map_append,List.map_singleton,buildA_snoc,buildA_snoc,ih,buildStep_plain]
theorem wayR_plain (vs:List V):wayR (vs.map plainV)=wayR vs:=by unfold wayR;rw [cutA_plain]
theorem wayW_plain (vs:List V):wayW (vs.map plainV)=wayW vs:=by unfold wayW;rw [buildA_plain]
theorem flat_same {vs:List V} {f g:V→List UInt8} (h:∀ v ∈ vs,f v=g v):vs.flatMap f=vs.flatMap g:=by
  induction vs with
  | nil => rfl
  | cons v vs ih => rw [List.flatMap_cons,List.flatMap_cons,h v (by simp),ih fun u hu => h u (by simp [hu])]
theorem wayP_plain {k:Int} (hk:1≤k∧k≤3) {vs:List V} (h:∀ v ∈ vs,RawK k v):wayP k (vs.map plainV)=wayP k vs:=by
  unfold wayP
  split
  · rename_i c
    rw [List.map_map]
    congr 1
    refine List.map_congr_left fun v hv => ?_
    have:=(h v hv).kind
    simp only [Function.comp,bitV]
    rw [plainV_bool (by omega)]
  · rw [List.flatMap_map]
    exact flat_same fun v hv => plainB_plain (h v hv) hk
theorem ways_plain {k:Int} (hk:1≤k∧k≤3) {vs:List V} (h:∀ v ∈ vs,RawK k v) (e:Nat):ways k (vs.map plainV) e=ways k vs e:=by
  unfold ways
  rw [wayR_plain,wayW_plain,wayP_plain hk h]
theorem raw_valk {k:Int} (hk:1≤k∧k≤3) {vs:List V} (h:∀ v ∈ vs,RawK k v):∀ v ∈ vs.map plainV,ValK k v:=by
  intro v hv
  obtain ⟨u,hu,rfl⟩:=List.mem_map.1 hv
  exact (h u hu).valk hk
theorem raw_cut {k:Int} (hk:1≤k∧k≤3) {vs:List V} (h:∀ v ∈ vs,RawK k v):∀ v ∈ (cutA vs).2,ValK k v:=by
  have hp:∀ v ∈ vs.map plainV,plainV v=v:=fun v hv => (raw_valk hk h v hv).plain
  intro v hv
  rw [← cutA_plain] at hv
  exact raw_valk hk h v (cut_of hp v hv)
theorem raw_build {k:Int} (hk:1≤k∧k≤3) {vs:List V} (h:∀ v ∈ vs,RawK k v):∀ v ∈ (buildA vs).1,ValK k v:=by
  have hp:∀ v ∈ vs.map plainV,plainV v=v:=fun v hv => (raw_valk hk h v hv).plain
  intro v hv
  rw [← buildA_plain] at hv
  exact raw_valk hk h v (build_of hp v hv)
theorem rawW_len {k:Int} {vs:List V} (hk:1≤k∧k≤3) (h:∀ v ∈ vs,RawK k v) (hn:vs.length≤4096):(wayW vs).length≤400000:=by
  rw [← wayW_plain];exact wayW_len hk (raw_valk hk h) (by rw [List.length_map];exact hn)
theorem valk_raw {k:Int} {v:V} (hk:1≤k∧k≤3) (h:ValK k v):RawK k v:=by
  refine ⟨h.kind,h.lo,h.hi,h.size,?_⟩
  by_cases e:k=3
  · have:=h.size e;omega
  · have h5:=h.plain;have h6:=h.kind
    rcases (show v.k=1∨v.k=2 by omega) with e | e
    · rw [plainV_int e] at h5;rw [← h5];exact Nat.zero_le _
    · rw [plainV_bool e] at h5;rw [← h5];exact Nat.zero_le _
def rawV (vs:List V):List V:=vs.filter fun v => !isNull v
def rdPiece (l:List UInt8) (t:Tk) (m:Nat):List UInt8 × Tk:=if l.length - t.pos < m then ([],⟨t.pos,true⟩) else ((l.drop t.pos).take m,⟨t.pos + m,t.bad⟩)
def rdByte (l:List UInt8) (t:Tk):Nat × Tk:=if l.length≤t.pos then (0,⟨t.pos,true⟩) else ((l.getD t.pos 0).toNat,⟨t.pos + 1,t.bad⟩)
theorem piece_there {l x r:List UInt8} {p n:Nat} (h:Ahead l p (x ++ r)) (hn:x.length=n):rdPiece l ⟨p,false⟩ n=(x,⟨p + x.length,false⟩):=by
  subst hn
  have hl:=h.len
  rw [List.length_append] at hl
  unfold rdPiece
  rw [if_neg (by simp;omega),h.is,List.take_left]
theorem byte_there {l r:List UInt8} {p:Nat} {b:UInt8} (h:Ahead l p ([b] ++ r)):rdByte l ⟨p,false⟩=(b.toNat,⟨p + [b].length,false⟩):=by
  have hl:=h.len
  have hg:=getD_ahead (b:=b) (r:=r) h
  rw [List.length_append,List.length_singleton] at hl
  unfold rdByte
  rw [if_neg (by simp;omega),hg]
  rfl
theorem piece_pos {l:List UInt8} {t:Tk} {m:Nat} (h:t.pos≤l.length):(rdPiece l t m).2.pos≤l.length:=by
  unfold rdPiece
  split
  · exact h
  · simp only;omega
theorem piece_len (l:List UInt8) (t:Tk) (m:Nat):(rdPiece l t m).1.length≤m:=by
  unfold rdPiece
  split
  · exact Nat.zero_le _
  · exact List.length_take_le _ _
theorem byte_pos {l:List UInt8} {t:Tk} (h:t.pos≤l.length):(rdByte l t).2.pos≤l.length:=by
  unfold rdByte
  split
  · exact h
  · simp only;omega
theorem byte_most (l:List UInt8) (t:Tk):(rdByte l t).1≤255:=by
  unfold rdByte
  split
  · exact Nat.zero_le _
  · have:=UInt8.toNat_lt (l.getD t.pos 0);simp only;omega
theorem packed_piece {l:List UInt8} {t:Tk} {many w:Nat} (hp:t.pos≤l.length) (hm:many≤65536) (hw:w≤16) :
    rdPacked l t many w=((unpackA (textB (rdPiece l t (bytesFor many w)).1) many w).1,⟨(rdPiece l t (bytesFor many w)).2.pos,(rdPiece l t (bytesFor many w)).2.bad || decide ((unpackA (textB (rdPiece l t (bytesFor many w)).1) many w).2 ≠ 0)⟩):=by
  unfold rdPacked rdPiece
  by_cases c:l.length < t.pos + bytesFor many w
  · rw [if_pos c,if_pos (by omega)]
    have e:unpackA (textB []) (many:Int) (w:Int)=([],602):=unpackA_cut hw hm (by rintro ⟨h,_⟩;have h2:(textB []).size=0:=rfl;omega)
    simp only [e]
    rfl
  · rw [if_neg c,if_neg (by omega)]
theorem count_bad {l:List UInt8} {t:Tk} {m:Nat} (h:t.bad=true):(rdCount l t m).2.bad=true:=by
  unfold rdCount
  split
  · rfl
  · exact h
theorem packed_bad {l:List UInt8} {t:Tk} {m w:Nat} (h:t.bad=true):(rdPacked l t m w).2.bad=true:=by
  cases hb:(rdPacked l t m w).2.bad with
  | true => rfl
  | false => have:=((rdPacked_len l t m w).2 hb).2;rw [h] at this;cases this
theorem readA_byte (k:Int) (l:List UInt8):readA k l =
    if 3≤(rdByte l ⟨0,false⟩).1 then none
    else rdBody k l (rdPacked l (rdCount l (rdByte l ⟨0,false⟩).2 4096).2 (rdCount l (rdByte l ⟨0,false⟩).2 4096).1 1).1 (rdSome l k (rdByte l ⟨0,false⟩).1 (rdPacked l (rdCount l (rdByte l ⟨0,false⟩).2 4096).2 (rdCount l (rdByte l ⟨0,false⟩).2 4096).1 1).2 (zerosI (rdPacked l (rdCount l (rdByte l ⟨0,false⟩).2 4096).2 (rdCount l (rdByte l ⟨0,false⟩).2 4096).1 1).1)):=by
  by_cases h:l=[]
  · subst h
    have e:rdByte ([]:List UInt8) ⟨0,false⟩=(0,⟨0,true⟩):=rfl
    rw [e]
    simp only
    rw [if_neg (by omega)]
    have h1:(rdCount ([]:List UInt8) ⟨0,true⟩ 4096).2.bad=true:=count_bad rfl
    generalize rdCount ([]:List UInt8) ⟨0,true⟩ 4096=C at *
    have h2:(rdPacked ([]:List UInt8) C.2 C.1 1).2.bad=true:=packed_bad h1
    generalize rdPacked ([]:List UInt8) C.2 C.1 1=Q at *
    have h3:(rdSome ([]:List UInt8) k 0 Q.2 (zerosI Q.1)).2.bad=true:=by
      have e:rdSome ([]:List UInt8) k 0 Q.2 (zerosI Q.1)=if k=2 then rdTruths [] Q.2 (zerosI Q.1) else rdEach [] k (zerosI Q.1) Q.2 []:=rfl
      rw [e]
      split
      · exact packed_bad h2
      · generalize zerosI Q.1=m
        cases m with
        | zero => exact h2
        | succ m => rw [rdEach,if_pos h2];exact h2
    rw [show readA k []=none from if_pos (.inl rfl)]
    unfold rdBody
    rw [if_pos h3]
  · have e:rdByte l ⟨0,false⟩=((l.getD 0 0).toNat,⟨1,false⟩):=by
      unfold rdByte
      rw [if_neg (by cases l with | nil => exact absurd rfl h | cons a b => simp)]
    rw [e]
    unfold readA
    simp only
    by_cases c:3≤(l.getD 0 0).toNat
    · rw [if_pos (.inr c),if_pos c]
    · rw [if_neg (by rintro (x | x);exact h x;exact c x),if_neg c]
end Go.Proofs.YtfbmlefhjoblbaaGreat
