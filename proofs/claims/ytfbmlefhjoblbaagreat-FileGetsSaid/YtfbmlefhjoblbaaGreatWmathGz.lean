/- Spaces and remarks left out: a claim is at most so large. -/
import Derived.Test.YtfbmlefhjoblbaaGreatNPFileGetsGz3
import Derived.Test.YtfbmlefhjoblbaaGreatValLGz
import Derived.Laws.MakeOwn
namespace Go.Proofs.YtfbmlefhjoblbaaGreat
open Go.Conc Go.RowKit
set_option linter.unusedVariables false
set_option linter.unusedSimpArgs false
def cutStep (r:List Int × List V) (v:V):List Int × List V :=
  if r.2.getLast? = some (plainV v) then (r.1.set (r.1.length - 1) (r.1.getD (r.1.length - 1) 0 + 1),r.2) else (r.1 ++ [1],r.2 ++ [plainV v])
def cutA (vs:List V):List Int × List V:=vs.foldl cutStep ([],[])
theorem cutA_nil:cutA []=([],[]):=rfl
theorem cutA_snoc (vs:List V) (v:V):cutA (vs ++ [v])=cutStep (cutA vs) v:=by unfold cutA;rw [List.foldl_append];rfl
theorem cutA_take (vs:List V) (n:Nat) (h:n < vs.length):cutA (vs.take (n + 1))=cutStep (cutA (vs.take n)) vs[n]:=by
  rw [← List.take_append_getElem h,cutA_snoc]
def expN (m:List Int) (e:List V):Nat→List V
  | 0 => []
  | k + 1 => expN m e k ++ List.replicate (m.getD k 0).toNat (plainV (e.getD k zeroV))
def sumN (m:List Int):Nat→Int
  | 0 => 0
  | k + 1 => sumN m k + m.getD k 0
theorem expN_same {m m':List Int} {e e':List V}:∀ (k:Nat),(∀ i,i < k→m.getD i 0=m'.getD i 0∧e.getD i zeroV=e'.getD i zeroV)→expN m e k=expN m' e' k
  | 0,_ => rfl
  | k + 1,h => by rw [expN,expN,expN_same k fun i hi => h i (by omega),(h k (by omega)).1,(h k (by omega)).2]
theorem expN_length {m:List Int} {e:List V}:∀ (k:Nat),(∀ i,i < k→1≤m.getD i 0)→((expN m e k).length:Int)=sumN m k
  | 0,_ => rfl
  | k + 1,h => by
    rw [expN,sumN,List.length_append,List.length_replicate,← expN_length (e:=e) k fun i hi => h i (by omega)]
    have:=h k (by omega)
    omega
structure Cutd (vs:List V) (m:List Int) (e:List V):Prop where
  len:m.length=e.length
  le:e.length≤vs.length
  pos:∀ i,i < m.length→1≤m.getD i 0
  plain:∀ v ∈ e,plainV v=v
  last:e.getLast? = (vs.getLast?).map plainV
  apart:∀ i,0 < i→i < e.length→e.getD (i - 1) zeroV ≠ e.getD i zeroV
  all:expN m e m.length=vs.map plainV
  size:∀ v ∈ e,∃ u ∈ vs,v.s.size≤u.s.size
theorem cutd (vs:List V):Cutd vs (cutA vs).1 (cutA vs).2:=by
  refine snoc_ind (P:=fun vs => Cutd vs (cutA vs).1 (cutA vs).2) ⟨rfl,Nat.le_refl _,fun i hi => by simp [cutA] at hi,fun v hv => by simp [cutA] at hv,rfl,fun i _ hi => by simp [cutA] at hi,rfl,fun v hv => by simp [cutA] at hv⟩ (fun vs v h => ?_) vs
  rw [cutA_snoc]
  generalize cutA vs=r at *
  obtain ⟨m,e⟩:=r
  simp only at h
  unfold cutStep
  simp only
  by_cases c:e.getLast? = some (plainV v)
  · rw [if_pos c]
    obtain ⟨h0,hl⟩:=last_getD (d:=zeroV) c
    have hm0:0 < m.length:=by have:=h.len;omega
    have hx:=h.pos (m.length - 1) (by omega)
    refine ⟨by rw [List.length_set];exact h.len,by show e.length≤_;rw [List.length_append];have:=h.le;omega,fun i hi => ?_,h.plain,by simp [c],h.apart,?_,fun u hu => ?_⟩
    · rw [List.length_set] at hi
      by_cases e1:m.length - 1=i
      · subst e1
        rw [getD_set_same (by omega)];omega
      · rw [getD_set_other e1];exact h.pos i hi
    · have ha:=h.all
      obtain ⟨k,hk⟩:∃ k,m.length=k + 1:=⟨m.length - 1,by omega⟩
      rw [List.length_set,List.map_append,← ha]
      rw [hk,Nat.add_sub_cancel,expN,expN,getD_set_same (by omega)]
      rw [expN_same (m':=m) (e':=e) k fun i hi => ⟨getD_set_other (by omega),rfl⟩]
      have hek:e.getD k zeroV=plainV v:=by rw [← hl];congr 1;have:=h.len;omega
      rw [hk,Nat.add_sub_cancel] at hx
      rw [hek,show (m.getD k 0 + 1).toNat=(m.getD k 0).toNat + 1 by omega,List.replicate_succ',List.append_assoc,plainV_twice]
      rfl
    · obtain ⟨u',h1,h2⟩:=h.size u hu
      exact ⟨u',List.mem_append_left _ h1,h2⟩
  · rw [if_neg c]
    refine ⟨by simp [h.len],by simp;exact h.le,fun i hi => ?_,fun u hu => ?_,by simp,fun i h0 hi => ?_,?_,fun u hu => ?_⟩
    · rw [List.length_append] at hi
      by_cases e1:i < m.length
      · rw [getD_left e1];exact h.pos i e1
      · have:i=m.length:=by simp at hi;omega
        subst this
        rw [getD_end];omega
    · rcases List.mem_append.1 hu with hu | hu
      · exact h.plain u hu
      · simp at hu;rw [hu,plainV_twice]
    · rw [List.length_append] at hi
      by_cases e1:i < e.length
      · rw [getD_left e1,getD_left (by omega)];exact h.apart i h0 e1
      · have:i=e.length:=by simp at hi;omega
        subst this
        rw [getD_end,getD_left (by omega)]
        intro eq
        refine c ?_
        rw [List.getLast?_eq_getElem?,List.getElem?_eq_getElem (by omega),← eq,getD_in (by omega)]
    · have e1:(m ++ [(1:Int)]).length=m.length + 1:=by simp
      rw [e1,expN,getD_end,List.map_append,← h.all]
      rw [expN_same (m':=m) (e':=e) m.length fun i hi => ⟨getD_left hi,getD_left (by rw [← h.len];exact hi)⟩]
      congr 1
      rw [show (e ++ [plainV v]).getD m.length zeroV=plainV v by rw [h.len];exact getD_end,plainV_twice];rfl
    · rcases List.mem_append.1 hu with hu | hu
      · obtain ⟨u',h1,h2⟩:=h.size u hu
        exact ⟨u',List.mem_append_left _ h1,h2⟩
      · simp at hu
        exact ⟨v,by simp,by rw [hu];exact plainV_size v⟩
def joinN (m:List Int) (e:List V):Nat→Option (List V)
  | 0 => some []
  | k + 1 => match joinN m e k with
    | none => none
    | some out => if m.getD k 0 < 1∨4096 - (out.length:Int) < m.getD k 0∨(0 < k∧plainV (e.getD (k - 1) zeroV)=plainV (e.getD k zeroV)) then none else some (out ++ List.replicate (m.getD k 0).toNat (plainV (e.getD k zeroV)))
def joinA (m:List Int) (e:List V):List V × Int :=
  if m.length=e.length then (match joinN m e e.length with | none => ([],700) | some out => (out,0)) else ([],700)
theorem joinN_none {m:List Int} {e:List V} {k:Nat} (h:joinN m e k=none):∀ n,k≤n→joinN m e n=none
  | 0, hn => by obtain rfl : k = 0 := by omega
                exact h
  | n + 1,hn => by
    rcases Nat.lt_or_ge n k with c | c
    · obtain rfl:k=n + 1:=by omega
      exact h
    · rw [joinN,joinN_none h n c]
theorem joinA_none {m:List Int} {e:List V} {k:Nat} (hk:k≤e.length) (h:joinN m e k=none):joinA m e=([],700):=by
  unfold joinA
  rw [joinN_none h _ hk]
  split <;> rfl
theorem joinA_some {m:List Int} {e out:List V} (hl:m.length=e.length) (h:joinN m e e.length=some out):joinA m e=(out,0):=by
  unfold joinA
  rw [if_pos hl,h]
theorem joinA_len {m:List Int} {e:List V} (hl:¬ m.length=e.length):joinA m e=([],700):=by
  unfold joinA
  rw [if_neg hl]
theorem joinN_le {m:List Int} {e:List V}:∀ (k:Nat) (out:List V),joinN m e k=some out→out.length≤4096
  | 0,out,h => by injection h with h;subst h;simp
  | k + 1,out,h => by
    rw [joinN] at h
    split at h
    · simp at h
    · rename_i o ho
      have:=joinN_le k o ho
      split at h
      · simp at h
      · rename_i c
        injection h with h
        subst h
        rw [List.length_append,List.length_replicate]
        omega
theorem joinN_made {m:List Int} {e:List V}:∀ (k:Nat),(∀ i,i < k→1≤m.getD i 0)→(∀ i,0 < i→i < k→plainV (e.getD (i - 1) zeroV) ≠ plainV (e.getD i zeroV)) →
    joinN m e k=if (expN m e k).length≤4096 then some (expN m e k) else none
  | 0,_,_ => by rw [joinN,expN,if_pos (by simp)]
  | k + 1,h1,h2 => by
    rw [joinN,joinN_made k (fun i hi => h1 i (by omega)) fun i h0 hi => h2 i h0 (by omega),expN]
    have hp:=h1 k (by omega)
    have hlen:(expN m e k ++ List.replicate (m.getD k 0).toNat (plainV (e.getD k zeroV))).length=(expN m e k).length + (m.getD k 0).toNat:=by rw [List.length_append,List.length_replicate]
    by_cases c:(expN m e k).length≤4096
    · rw [if_pos c]
      simp only
      by_cases c2:(expN m e k).length + (m.getD k 0).toNat≤4096
      · have hn:¬ (m.getD k 0 < 1∨4096 - ((expN m e k).length:Int) < m.getD k 0∨(0 < k∧plainV (e.getD (k - 1) zeroV)=plainV (e.getD k zeroV))):=by
          rintro (h | h | ⟨h,hh⟩)
          · omega
          · omega
          · exact h2 k h (by omega) hh
        rw [if_neg hn,if_pos (by rw [hlen];exact c2)]
      · rw [if_pos (.inr (.inl (by omega))),if_neg (by rw [hlen];exact c2)]
    · rw [if_neg c,if_neg (by rw [hlen];omega)]
theorem join_cut (vs:List V):joinA (cutA vs).1 (cutA vs).2=if vs.length≤4096 then (vs.map plainV,0) else ([],700):=by
  have h:=cutd vs
  generalize (cutA vs).1=m at *
  generalize (cutA vs).2=e at *
  have hj:=joinN_made (m:=m) (e:=e) e.length (fun i hi => h.pos i (by rw [h.len];exact hi)) (fun i h0 hi => by
    rw [getD_in (l:=e) (i:=i) hi,getD_in (l:=e) (i:=i - 1) (by omega),h.plain _ (List.getElem_mem _),h.plain _ (List.getElem_mem _)]
    have:=h.apart i h0 hi
    rwa [getD_in (l:=e) (i:=i) hi,getD_in (l:=e) (i:=i - 1) (by omega)] at this)
  have ha:=h.all
  rw [h.len] at ha
  rw [ha,List.length_map] at hj
  by_cases c:vs.length≤4096
  · rw [if_pos c] at hj ⊢
    exact joinA_some h.len hj
  · rw [if_neg c] at hj ⊢
    exact joinA_none (Nat.le_refl _) hj
theorem sum_cut (vs:List V):sumN (cutA vs).1 (cutA vs).1.length=vs.length:=by
  have h:=cutd vs
  rw [← expN_length (e:=(cutA vs).2) _ h.pos,h.all,List.length_map]
theorem sumN_le {m:List Int}:∀ (k:Nat),(∀ i,i < k→1≤m.getD i 0)→0≤sumN m k∧∀ i,i < k→m.getD i 0≤sumN m k
  | 0,_ => ⟨Int.le_refl _,fun i hi => by omega⟩
  | k + 1,h => by
    obtain ⟨h0,h1⟩:=sumN_le k fun i hi => h i (by omega)
    have:=h k (by omega)
    rw [sumN]
    refine ⟨by omega,fun i hi => ?_⟩
    by_cases c:i < k
    · have:=h1 i c;omega
    · obtain rfl:i=k:=by omega
      omega
theorem cut_num_le (vs:List V) (i:Nat) (h:i < (cutA vs).1.length):(cutA vs).1.getD i 0≤vs.length:=by
  rw [← sum_cut]
  exact (sumN_le _ (cutd vs).pos).2 i h
end Go.Proofs.YtfbmlefhjoblbaaGreat
namespace Go.Proofs.YtfbmlefhjoblbaaGreat
open Go.Conc Go.RowKit
set_option linter.unusedVariables false
set_option linter.unusedSimpArgs false
def placeV (p:V):List V→Nat
  | [] => 0
  | w :: r => if w=p then 0 else placeV p r + 1
theorem placeV_le (p:V):∀ ws:List V,placeV p ws≤ws.length
  | [] => Nat.le_refl _
  | w :: r => by
    rw [placeV]
    have:=placeV_le p r
    split <;> simp <;> omega
theorem placeV_is (p:V):∀ (ws:List V) (k:Nat),k≤ws.length→(∀ i,i < k→ws.getD i zeroV ≠ p)→(k=ws.length∨ws.getD k zeroV=p)→placeV p ws=k
  | [], k, hk, _, _ => by have : k = 0 := by simpa using hk
                          rw [this];rfl
  | w :: r,0,_,_,h => by
    rw [placeV]
    rcases h with h | h
    · simp at h
    · rw [if_pos (by simpa using h)]
  | w :: r,k + 1,hk,h1,h2 => by
    have h0:w ≠ p:=by simpa using h1 0 (by omega)
    rw [placeV,if_neg h0,placeV_is p r k (by simpa using hk) (fun i hi => by simpa using h1 (i + 1) (by omega)) (by simpa using h2)]
theorem placeV_at (p:V):∀ ws:List V,placeV p ws < ws.length→ws.getD (placeV p ws) zeroV=p
  | [],h => by simp [placeV] at h
  | w :: r,h => by
    rw [placeV] at h ⊢
    by_cases c:w=p
    · rw [if_pos c];simpa using c
    · rw [if_neg c] at h ⊢
      simpa using placeV_at p r (by simpa using h)
theorem placeV_before (p:V):∀ (ws:List V) (i:Nat),i < placeV p ws→ws.getD i zeroV ≠ p
  | [],i,h => by simp [placeV] at h
  | w :: r,0,h => by
    rw [placeV] at h
    by_cases c:w=p
    · rw [if_pos c] at h;simp at h
    · simpa using c
  | w :: r,i + 1,h => by
    rw [placeV] at h
    by_cases c:w=p
    · rw [if_pos c] at h;simp at h
    · rw [if_neg c] at h
      simpa using placeV_before p r i (by omega)
theorem placeV_none (p:V) (ws:List V):placeV p ws=ws.length ↔ ∀ i,i < ws.length→ws.getD i zeroV ≠ p:=by
  constructor
  · intro h i hi
    exact placeV_before p ws i (by omega)
  · intro h
    exact placeV_is p ws ws.length (Nat.le_refl _) h (.inl rfl)
def buildStep (r:List V × List Int) (v:V):List V × List Int :=
  (if placeV (plainV v) r.1=r.1.length then r.1 ++ [plainV v] else r.1,r.2 ++ [((placeV (plainV v) r.1:Nat):Int)])
def buildA (vs:List V):List V × List Int:=vs.foldl buildStep ([],[])
theorem buildA_snoc (vs:List V) (v:V):buildA (vs ++ [v])=buildStep (buildA vs) v:=by unfold buildA;rw [List.foldl_append];rfl
theorem buildA_take (vs:List V) (n:Nat) (h:n < vs.length):buildA (vs.take (n + 1))=buildStep (buildA (vs.take n)) vs[n]:=by
  rw [← List.take_append_getElem h,buildA_snoc]
structure Built (vs:List V) (ws:List V) (at_:List Int):Prop where
  len:at_.length=vs.length
  le:ws.length≤vs.length
  plain:∀ i,i < ws.length→plainV (ws.getD i zeroV)=ws.getD i zeroV
  apart:∀ i j,i < j→j < ws.length→ws.getD i zeroV ≠ ws.getD j zeroV
  place:∀ i,i < vs.length→∃ k:Nat,at_.getD i 0=(k:Int)∧k < ws.length∧ws.getD k zeroV=plainV (vs.getD i zeroV)
  size:∀ w ∈ ws,∃ u ∈ vs,w.s.size≤u.s.size
theorem built (vs:List V):Built vs (buildA vs).1 (buildA vs).2:=by
  refine snoc_ind (P:=fun vs => Built vs (buildA vs).1 (buildA vs).2) ⟨rfl,Nat.le_refl _,fun i hi => by simp [buildA] at hi,fun i j _ hj => by simp [buildA] at hj,fun i hi => by simp at hi,fun w hw => by simp [buildA] at hw⟩ (fun vs v h => ?_) vs
  rw [buildA_snoc]
  generalize buildA vs=r at *
  obtain ⟨ws,at_⟩:=r
  simp only at h
  unfold buildStep
  simp only
  generalize hp:plainV v=p
  have hpp:plainV p=p:=by rw [← hp,plainV_twice]
  have hps:p.s.size≤v.s.size:=by rw [← hp];exact plainV_size v
  have hle:=placeV_le p ws
  have hplace:∀ (ws':List V),(∀ k,k < ws.length→ws'.getD k zeroV=ws.getD k zeroV)→ws.length≤ws'.length→placeV p ws < ws'.length→ws'.getD (placeV p ws) zeroV=p →
      ∀ i,i < (vs ++ [v]).length→∃ k:Nat,(at_ ++ [((placeV p ws:Nat):Int)]).getD i 0=(k:Int)∧k < ws'.length∧ws'.getD k zeroV=plainV ((vs ++ [v]).getD i zeroV):=by
    intro ws' h1 h2 h3 h4 i hi
    by_cases c:i < vs.length
    · obtain ⟨k,k1,k2,k3⟩:=h.place i c
      exact ⟨k,by rw [getD_left (by rw [h.len];exact c)];exact k1,by omega,by rw [h1 k k2,getD_left c];exact k3⟩
    · obtain rfl:i=vs.length:=by simp at hi;omega
      refine ⟨placeV p ws,by rw [← h.len,getD_end],h3,by rw [h4,getD_end,hp]⟩
  by_cases c:placeV p ws=ws.length
  · rw [if_pos c]
    have hn:=(placeV_none p ws).1 c
    refine ⟨by simp [h.len],by simp;exact h.le,fun i hi => ?_,fun i j hij hj => ?_,hplace _ (fun k hk => getD_left hk) (by simp) (by simp;omega) (by rw [c,getD_end]),fun w hw => ?_⟩
    · by_cases e:i < ws.length
      · rw [getD_left e];exact h.plain i e
      · obtain rfl:i=ws.length:=by simp at hi;omega
        rw [getD_end];exact hpp
    · by_cases e:j < ws.length
      · rw [getD_left e,getD_left (by omega)];exact h.apart i j hij e
      · obtain rfl:j=ws.length:=by simp at hj;omega
        rw [getD_end,getD_left hij];exact hn i hij
    · rcases List.mem_append.1 hw with hw | hw
      · obtain ⟨u,h1,h2⟩:=h.size w hw
        exact ⟨u,List.mem_append_left _ h1,h2⟩
      · simp at hw
        exact ⟨v,by simp,by rw [hw];exact hps⟩
  · rw [if_neg c]
    refine ⟨by simp [h.len],by simp;have:=h.le;omega,h.plain,h.apart,hplace ws (fun _ _ => rfl) (Nat.le_refl _) (by omega) (placeV_at p ws (by omega)),fun w hw => ?_⟩
    obtain ⟨u,h1,h2⟩:=h.size w hw
    exact ⟨u,List.mem_append_left _ h1,h2⟩
def dupV (ws:List V):Prop:=∃ i j,i < j∧j < ws.length∧plainV (ws.getD i zeroV)=plainV (ws.getD j zeroV)
theorem built_apart (vs:List V):¬ dupV (buildA vs).1:=by
  rintro ⟨i,j,hij,hj,h⟩
  have hb:=built vs
  rw [hb.plain i (by omega),hb.plain j hj] at h
  exact hb.apart i j hij hj h
open Classical in
noncomputable def lookA (ws:List V) (at_:List Int):List V × Int :=
  if dupV ws∨∃ x ∈ at_,x < 0∨(ws.length:Int)≤x then ([],800) else (at_.map fun x => plainV (ws.getD x.toNat zeroV),0)
theorem lookA_dup {ws:List V} {at_:List Int} (h:dupV ws):lookA ws at_=([],800):=by unfold lookA;rw [if_pos (.inl h)]
theorem lookA_out {ws:List V} {at_:List Int} {x:Int} (hx:x ∈ at_) (h:x < 0∨(ws.length:Int)≤x):lookA ws at_=([],800):=by unfold lookA;rw [if_pos (.inr ⟨x,hx,h⟩)]
theorem lookA_yes {ws:List V} {at_:List Int} (h1:¬ dupV ws) (h2:∀ x ∈ at_,0≤x∧x < ws.length):lookA ws at_=(at_.map fun x => plainV (ws.getD x.toNat zeroV),0):=by
  unfold lookA
  rw [if_neg]
  rintro (h | ⟨x,hx,h⟩)
  · exact h1 h
  · have:=h2 x hx;omega
theorem look_built (vs:List V):lookA (buildA vs).1 (buildA vs).2=(vs.map plainV,0):=by
  have hb:=built vs
  have hat:∀ x ∈ (buildA vs).2,0≤x∧x < (buildA vs).1.length:=by
    intro x hx
    obtain ⟨i,hi,rfl⟩:=List.getElem_of_mem hx
    obtain ⟨k,k1,k2,_⟩:=hb.place i (by rw [← hb.len];exact hi)
    rw [getD_in hi] at k1
    omega
  rw [lookA_yes (built_apart vs) hat]
  congr 1
  apply List.ext_getElem
  · rw [List.length_map,List.length_map,hb.len]
  · intro i h1 h2
    rw [List.length_map] at h1 h2
    rw [List.getElem_map,List.getElem_map]
    obtain ⟨k,k1,k2,k3⟩:=hb.place i h2
    rw [getD_in h1] at k1
    rw [k1,Int.toNat_natCast,hb.plain k k2,k3,getD_in h2]
theorem dup_more {ws:List V} {v:V} (h:dupV ws):dupV (ws ++ [v]):=by
  obtain ⟨i,j,hij,hj,e⟩:=h
  exact ⟨i,j,hij,by simp;omega,by rw [getD_left (by omega),getD_left hj];exact e⟩
theorem dup_last {ws:List V} {v:V} (h:¬ dupV (ws ++ [v])):∀ i,i < ws.length→plainV (ws.getD i zeroV) ≠ plainV v:=by
  intro i hi e
  exact h ⟨i,ws.length,hi,by simp,by rw [getD_left hi,getD_end];exact e⟩
theorem map_getD {ws:List V} {i:Nat} (hi:i < ws.length):(ws.map plainV).getD i zeroV=plainV (ws.getD i zeroV):=by
  rw [getD_in (by rw [List.length_map];exact hi),getD_in hi,List.getElem_map]
theorem build_whole (ws:List V):¬ dupV ws→(buildA ws).1=ws.map plainV:=by
  refine snoc_ind (P:=fun ws => ¬ dupV ws→(buildA ws).1=ws.map plainV) (fun _ => rfl) (fun ws v ih h => ?_) ws
  have h1:=ih fun e => h (dup_more e)
  rw [buildA_snoc,buildStep,h1]
  simp only
  rw [if_pos,List.map_append,List.map_singleton]
  rw [placeV_none]
  intro i hi
  rw [List.length_map] at hi
  rw [map_getD hi]
  exact dup_last h i hi
theorem build_less (ws:List V):dupV ws→(buildA ws).1.length < ws.length:=by
  intro h
  rcases Nat.lt_or_ge (buildA ws).1.length ws.length with c | c
  · exact c
  · exact absurd h (snoc_ind (P:=fun ws => ws.length≤(buildA ws).1.length→¬ dupV ws) (fun _ => by rintro ⟨i,j,_,hj,_⟩;simp at hj) (fun ws v ih hl => by
      rw [buildA_snoc,buildStep] at hl
      simp only at hl
      have hb:=(built ws).le
      by_cases e:placeV (plainV v) (buildA ws).1=(buildA ws).1.length
      · rw [if_pos e] at hl
        have h1:=ih (by simp at hl;omega)
        rw [build_whole ws h1,placeV_none] at e
        rintro ⟨i,j,hij,hj,e2⟩
        rw [List.length_append,List.length_singleton] at hj
        by_cases c2:j < ws.length
        · rw [getD_left c2,getD_left (by omega)] at e2
          exact h1 ⟨i,j,hij,c2,e2⟩
        · obtain rfl:j=ws.length:=by omega
          rw [getD_end,getD_left hij] at e2
          have:=e i (by rw [List.length_map];exact hij)
          rw [map_getD hij] at this
          exact this e2
      · rw [if_neg e] at hl
        simp at hl
        omega) ws c)
end Go.Proofs.YtfbmlefhjoblbaaGreat
namespace Go.Proofs.YtfbmlefhjoblbaaGreat
open Go.Conc Go.RowKit
set_option linter.unusedVariables false
set_option linter.unusedSimpArgs false
theorem made_int_cells (n:Nat):(madeCells (Value.int .i64 0).cells n).toList=intCells (List.replicate n 0):=by
  apply List.ext_getElem
  · simp [madeCells,intCells]
  · intro i h1 h2
    simp [madeCells,intCells,Value.cells,Nat.mod_one]
theorem made_ints_own (w:World) (n:Nat) (h:n≤17592186044000):∃ C,(Instr.makeSlice 86 (.int .i64 (n:Int)) (.int .i64 (n:Int))).run Tryz.prog w=.ok (.slice (some ⟨w.heap.size,0,none⟩) n n) (w.alloc (.cells C 3))∧OwnI w.heap.size (w.alloc (.cells C 3)) (some ⟨w.heap.size,0,none⟩) n (List.replicate n 0):=by
  obtain ⟨i0,hi,hz0,hz1,hz2⟩:=info_parts infoInt
  have hr:=run_make (P:=Tryz.prog) w 86 3 i0 _ Tryz.underlying86 hi hz0 .i64 .i64 (n:Int) (n:Int) (by omega) (Int.le_refl _) (by rw [hz2];omega) (by omega)
  rw [Int.toNat_natCast,hz1,Nat.mul_one] at hr
  refine ⟨_,hr,?_⟩
  have hc:=made_int_cells n
  have hs:=size_madeCells (Value.int .i64 0).cells n
  refine ⟨by simp [intCells],.inr ⟨w.heap.size,n,_,by rw [List.length_replicate],Nat.le_refl _,heap_alloc_new w _,by rw [List.length_replicate];exact Nat.le_refl _,by simp only [maxLen];omega,by rw [hs,Nat.mul_one],?_⟩⟩
  rw [List.length_replicate,← hc,Nat.mul_one]
  exact List.take_of_length_le (by rw [Array.length_toList,hs];exact Nat.le_refl _)
theorem zVal_cells:zVal.cells = #[.int .i64 0,.int .i64 0,.bool false,.string ByteArray.empty]:=rfl
theorem made_val_cells (n:Nat):(madeCells zVal.cells (n * 4)).toList=rowV (List.replicate n zeroV):=by
  apply List.ext_getElem?
  intro i
  by_cases h:i < n * 4
  · have h1:i / 4 < (List.replicate n zeroV).length:=by rw [List.length_replicate];omega
    have h2:=rowV_at (List.replicate n zeroV) (i / 4) (i % 4) h1 (by omega)
    rw [show i / 4 * 4 + i % 4=i by omega] at h2
    rw [h2,List.getElem_replicate]
    have h3:(madeCells zVal.cells (n * 4)).toList[i]? = some (zVal.cells[i % 4]!):=by
      rw [List.getElem?_eq_getElem (by rw [Array.length_toList,size_madeCells];exact h)]
      simp [madeCells,zVal_cells]
    rw [h3,zVal_cells]
    rcases (show i % 4=0∨i % 4=1∨i % 4=2∨i % 4=3 by omega) with e | e | e | e <;> rw [e] <;> rfl
  · rw [List.getElem?_eq_none (by rw [Array.length_toList,size_madeCells];omega),List.getElem?_eq_none (by rw [rowV_length,List.length_replicate];omega)]
theorem made_vals_own (w:World) (n:Nat) (h:n≤3518437208882):∃ C,(Instr.makeSlice 22 (.int .i64 (n:Int)) (.int .i64 (n:Int))).run Tryz.prog w=.ok (.slice (some ⟨w.heap.size,0,none⟩) n n) (w.alloc (.cells C 24))∧OwnV w.heap.size (w.alloc (.cells C 24)) (some ⟨w.heap.size,0,none⟩) n (List.replicate n zeroV):=by
  obtain ⟨i0,hi,hz0,hz1,hz2⟩:=info_parts infoVal
  have hr:=run_make (P:=Tryz.prog) w 22 24 i0 _ Tryz.underlying22 hi hz0 .i64 .i64 (n:Int) (n:Int) (by omega) (Int.le_refl _) (by rw [hz2];omega) (by omega)
  rw [Int.toNat_natCast,hz1] at hr
  refine ⟨_,hr,?_⟩
  have hc:=made_val_cells n
  have hs:=size_madeCells zVal.cells (n * 4)
  refine ⟨by rw [rowV_length],.inr ⟨w.heap.size,n,_,by rw [List.length_replicate],Nat.le_refl _,heap_alloc_new w _,by rw [List.length_replicate];exact Nat.le_refl _,by simp only [maxLen];omega,hs,?_⟩⟩
  rw [List.length_replicate,← hc]
  exact List.take_of_length_le (by rw [Array.length_toList,hs];exact Nat.le_refl _)
theorem rowV_set:∀ (xs:List V) (j:Nat) (v:V),j < xs.length→rowV (xs.set j v)=((((rowV xs).set (j * 4) (.int .i64 v.k)).set (j * 4 + 1) (.int .i64 v.i)).set (j * 4 + 2) (.bool v.b)).set (j * 4 + 3) (.string v.s)
  | [],j,v,h => by simp at h
  | x :: xs,0,v,h => by
    rw [List.set_cons_zero,rowV_cons,rowV_cons]
    rfl
  | x :: xs,j + 1,v,h => by
    rw [List.set_cons_succ,rowV_cons,rowV_cons,rowV_set xs j v (by simpa using h)]
    simp only [V.cells,List.cons_append,List.nil_append]
    rw [show (j + 1) * 4=j * 4 + 4 by omega,show j * 4 + 4 + 1=j * 4 + 1 + 4 by omega,show j * 4 + 4 + 2=j * 4 + 2 + 4 by omega,show j * 4 + 4 + 3=j * 4 + 3 + 4 by omega]
    rfl
theorem OwnV.stored {base cap g:Nat} {w:World} {xs:List V} (h:OwnV base w (some ⟨g,0,none⟩) cap xs) (j:Nat) (v:V) (hj:j < xs.length) :
    OwnV base ((((w.setCell ⟨g,j * 4,none⟩ (.int .i64 v.k)).setCell ⟨g,j * 4 + 1,none⟩ (.int .i64 v.i)).setCell ⟨g,j * 4 + 2,none⟩ (.bool v.b)).setCell ⟨g,j * 4 + 3,none⟩ (.string v.s)) (some ⟨g,0,none⟩) cap (xs.set j v):=by
  have h1:=(World.ownsRow.stored h (j * 4) (.int .i64 v.k)).1
  have h2:=(World.ownsRow.stored h1 (j * 4 + 1) (.int .i64 v.i)).1
  have h3:=(World.ownsRow.stored h2 (j * 4 + 2) (.bool v.b)).1
  have h4:=(World.ownsRow.stored h3 (j * 4 + 3) (.string v.s)).1
  unfold OwnV
  rw [List.length_set,rowV_set xs j v hj]
  exact h4
theorem OwnV.getF {base cap g:Nat} {w:World} {xs:List V} (h:OwnV base w (some ⟨g,0,none⟩) cap xs) (j:Nat) (hj:j < xs.length) :
    w.frozen? ⟨g,j * 4,none⟩=false∧w.frozen? ⟨g,j * 4 + 1,none⟩=false∧w.frozen? ⟨g,j * 4 + 2,none⟩=false∧w.frozen? ⟨g,j * 4 + 3,none⟩=false :=
  ⟨World.ownsRow.frozenAt h _,World.ownsRow.frozenAt h _,World.ownsRow.frozenAt h _,World.ownsRow.frozenAt h _⟩
theorem Frm.row {u:World} {g j:Nat} {F:Nat→Prop} (hg:F g) (p:V):Frm F u ((((u.setCell ⟨g,j * 4,none⟩ (.int .i64 p.k)).setCell ⟨g,j * 4 + 1,none⟩ (.int .i64 p.i)).setCell ⟨g,j * 4 + 2,none⟩ (.bool p.b)).setCell ⟨g,j * 4 + 3,none⟩ (.string p.s)) :=
  ((((Frm.refl F u).setCell (p:=⟨g,j * 4,none⟩) hg _).setCell (p:=⟨g,j * 4 + 1,none⟩) hg _).setCell (p:=⟨g,j * 4 + 2,none⟩) hg _).setCell (p:=⟨g,j * 4 + 3,none⟩) hg _
end Go.Proofs.YtfbmlefhjoblbaaGreat
