/- Spaces and remarks left out: a claim is at most so large. -/
import Derived.Test.YtfbmlefhjoblbaaGreatDatLGz
import Derived.Test.YtfbmlefhjoblbaaGreatNPFileGetsGz1
import Derived.Test.YtfbmlefhjoblbaaGreatYmathGz
namespace Go.Proofs.YtfbmlefhjoblbaaGreat
open Go.Conc Go.RowKit
set_option linter.unusedVariables false
set_option linter.unusedSimpArgs false
def statsA (cs:List Co) (rs:List (List V)):List S:=List.zipWith (fun c r => ofA c.id r) cs rs
theorem statsA_take {cs:List Co} {rs:List (List V)} {n:Nat} (h1:n < cs.length) (h2:n < rs.length):statsA (cs.take (n + 1)) (rs.take (n + 1))=statsA (cs.take n) (rs.take n) ++ [ofA cs[n].id rs[n]]:=by
  unfold statsA
  rw [(List.take_append_getElem h1).symm,(List.take_append_getElem h2).symm,List.zipWith_append (by rw [List.length_take,List.length_take];omega)]
  rfl
theorem statsA_len {cs:List Co} {rs:List (List V)} {n:Nat} (h1:n≤cs.length) (h2:n≤rs.length):(statsA (cs.take n) (rs.take n)).length=n:=by
  unfold statsA
  rw [List.length_zipWith,List.length_take,List.length_take];omega
theorem zip_take {α β γ:Type} (f:α→β→γ):∀ (cs:List α) (rs:List β),List.zipWith f cs (rs.take cs.length)=List.zipWith f cs rs
  | [],_ => by simp
  | c :: cs,[] => by simp
  | c :: cs,r :: rs => by simp [zip_take f cs rs]
def boundB (v:V):List UInt8:=if kindV v=0 then [u8 0] else u8 v.k.toNat :: plainB v
def badHead (n:Int) (cs:List Co) (r:List V) (i:Nat):Prop:=(cs.getD i zeroCo).id < 1∨(0 < i∧(cs.getD i zeroCo).id≤(cs.getD (i - 1) zeroCo).id)∨(cs.getD i zeroCo).nm ≠ ByteArray.empty∨(r.length:Int) ≠ n
instance instBadHead (n:Int) (cs:List Co) (r:List V) (i:Nat):Decidable (badHead n cs r i):=by unfold badHead;exact inferInstance
def okAt (d:Da) (i:Nat):Bool:=!decide (badHead d.n d.cs (d.rs.getD i []) i) && decide ((colPut (d.cs.getD i zeroCo).kd (d.rs.getD i [])).2.2=0)
def headOk (d:Da):Prop:=0≤d.n∧d.n≤4096∧1≤d.cs.length∧d.cs.length≤12∧d.rs.length=d.cs.length
instance instHeadOk (d:Da):Decidable (headOk d):=by unfold headOk;exact inferInstance
def mayA (d:Da):Bool:=decide (headOk d) && (List.range d.cs.length).all (okAt d)
theorem may_no {d:Da} (h:¬ headOk d):mayA d=false:=by unfold mayA;rw [decide_eq_false h];rfl
theorem may_bad {d:Da} {n:Nat} (hn:n < d.cs.length) (h:okAt d n=false):mayA d=false:=by
  unfold mayA
  rw [Bool.and_eq_false_iff]
  right
  rw [List.all_eq_false]
  exact ⟨n,List.mem_range.2 hn,by rw [h];simp⟩
theorem may_good {d:Da} (h:headOk d) (ha:∀ n,n < d.cs.length→okAt d n=true):mayA d=true:=by
  unfold mayA
  rw [decide_eq_true h,Bool.true_and,List.all_eq_true]
  exact fun n hn => ha n (List.mem_range.1 hn)
theorem may_ok {d:Da} (h:mayA d=true):headOk d∧∀ i,i < d.cs.length→okAt d i=true:=by
  unfold mayA at h
  rw [Bool.and_eq_true,List.all_eq_true] at h
  exact ⟨of_decide_eq_true h.1,fun i hi => h.2 i (List.mem_range.2 hi)⟩
structure ColOk (n:Int) (c:Co) (r:List V):Prop where
  id:1≤c.id
  nm:c.nm=ByteArray.empty
  len:(r.length:Int)=n
  put:(colPut c.kd r).2.2=0
theorem okAt_col {d:Da} {i:Nat} (h1:i < d.cs.length) (h2:i < d.rs.length) (h:okAt d i=true):ColOk d.n d.cs[i] d.rs[i]:=by
  unfold okAt at h
  rw [Bool.and_eq_true] at h
  obtain ⟨ha,hb⟩:=h
  have hb:=of_decide_eq_true hb
  have ha:¬ badHead d.n d.cs (d.rs.getD i []) i:=by simpa using ha
  have e1:d.cs.getD i zeroCo=d.cs[i]:=by rw [List.getD_eq_getElem?_getD,List.getElem?_eq_getElem h1];rfl
  have e2:d.rs.getD i []=d.rs[i]:=by rw [List.getD_eq_getElem?_getD,List.getElem?_eq_getElem h2];rfl
  rw [e1,e2] at hb
  unfold badHead at ha
  rw [e1,e2] at ha
  refine ⟨?_,?_,?_,hb⟩
  · by_cases c:d.cs[i].id < 1
    · exact absurd (.inl c) ha
    · omega
  · by_cases c:d.cs[i].nm=ByteArray.empty
    · exact c
    · exact absurd (.inr (.inr (.inl c))) ha
  · by_cases c:(d.rs[i].length:Int)=d.n
    · exact c
    · exact absurd (.inr (.inr (.inr c))) ha
theorem may_zip {d:Da} (h:mayA d=true):∀ x ∈ d.cs.zip d.rs,ColOk d.n x.1 x.2:=by
  obtain ⟨h1,h2⟩:=may_ok h
  intro x hx
  obtain ⟨i,hi,rfl⟩:=List.mem_iff_getElem.1 hx
  rw [List.length_zip] at hi
  rw [List.getElem_zip]
  exact okAt_col (by omega) (by omega) (h2 i (by omega))
def colB (c:Co) (r:List V):List UInt8:=vp c.id.toNat ++ ([u8 c.kd.toNat] ++ (vp (colPut c.kd r).1.size ++ (colPut c.kd r).1.data.toList))
def colsB:List Co→List (List V)→List UInt8
  | c :: cs,r :: rs => colB c r ++ colsB cs rs
  | _,_ => []
def statB (x:S):List UInt8:=vp x.n.toNat ++ (boundB x.lo ++ boundB x.hi)
def markF:List UInt8:=[76,75,49]
def fileB (d:Da):List UInt8:=markF ++ (vp d.n.toNat ++ (vp d.cs.length ++ (colsB d.cs d.rs ++ (statsA d.cs d.rs).flatMap statB)))
def fileA (d:Da):ByteArray × Int:=if mayA d=true∧(fileB d).length + 4≤65536 then (sealB (textB (fileB d)),0) else (ByteArray.empty,1100)
theorem file_ok {d:Da} (h:(fileA d).2=0):mayA d=true∧(fileB d).length + 4≤65536∧fileA d=(sealB (textB (fileB d)),0):=by
  unfold fileA at h ⊢
  by_cases c:mayA d=true∧(fileB d).length + 4≤65536
  · rw [if_pos c];exact ⟨c.1,c.2,rfl⟩
  · rw [if_neg c] at h;exact absurd h (by decide)
theorem file_no {d:Da} (h:¬ (mayA d=true∧(fileB d).length + 4≤65536)):fileA d=(ByteArray.empty,1100):=if_neg h
theorem colB_size (c:Co) (r:List V):(colPut c.kd r).1.size≤(colB c r).length:=by
  unfold colB
  simp only [List.length_append,← size_list]
  omega
theorem colsB_zip:∀ (cs:List Co) (rs:List (List V)),∀ x ∈ cs.zip rs,(colB x.1 x.2).length≤(colsB cs rs).length
  | [],_,x,hx => by simp at hx
  | c :: cs,[],x,hx => by simp at hx
  | c :: cs,r :: rs,x,hx => by
    rw [List.zip_cons_cons] at hx
    rw [colsB,List.length_append]
    rcases List.mem_cons.1 hx with rfl | hx
    · simp
    · have:=colsB_zip cs rs x hx;omega
theorem colsB_snoc:∀ (cs:List Co) (rs:List (List V)) (c:Co) (r:List V),cs.length=rs.length→colsB (cs ++ [c]) (rs ++ [r])=colsB cs rs ++ colB c r
  | [],[],c,r,_ => by simp [colsB]
  | [],r :: rs,_,_,h => by simp at h
  | c :: cs,[],_,_,h => by simp at h
  | c :: cs,r :: rs,c',r',h => by
    rw [List.cons_append,List.cons_append,colsB,colsB,colsB_snoc cs rs c' r' (by simpa using h),List.append_assoc]
theorem fileB_cols (d:Da):(colsB d.cs d.rs).length≤(fileB d).length:=by
  unfold fileB;simp only [List.length_append];omega
noncomputable def rdCol (l:List UInt8) (t:Tk):(Co × List V) × Tk :=
  let a:=rdCount l t 9223372036854775807
  let b:=rdByte l a.2
  let m:=rdCount l b.2 65536
  let q:=rdPiece l m.2 m.1
  ((⟨(a.1:Int),ByteArray.empty,(b.1:Int)⟩,(colGet (b.1:Int) (textB q.1)).1),⟨q.2.pos,q.2.bad || decide ((colGet (b.1:Int) (textB q.1)).2 ≠ 0)⟩)
noncomputable def rdCols (l:List UInt8):Nat→Tk→List Co→List (List V)→(List Co × List (List V)) × Tk
  | 0,t,cs,rs => ((cs,rs),t)
  | n + 1,t,cs,rs => rdCols l n (rdCol l t).2 (cs ++ [(rdCol l t).1.1]) (rs ++ [(rdCol l t).1.2])
noncomputable def rdHead (l:List UInt8):Tk:=⟨(rdPiece l ⟨0,false⟩ 3).2.pos,(rdPiece l ⟨0,false⟩ 3).2.bad || decide ((rdPiece l ⟨0,false⟩ 3).1 ≠ markF)⟩
noncomputable def rdMany (l:List UInt8):Nat × Tk:=rdCount l (rdCount l (rdHead l) 4096).2 12
noncomputable def rdAll (l:List UInt8):(List Co × List (List V)) × Tk:=rdCols l (rdMany l).1 (rdMany l).2 [] []
noncomputable def readF (l:List UInt8):Option Da :=
  if (rdAll l).2.bad=true then none else some ⟨((rdCount l (rdHead l) 4096).1:Int),(rdAll l).1.1,(rdAll l).1.2⟩
noncomputable def tkCol (l:List UInt8) (t:Tk):(Co × List V) × Tk :=
  let a:=tkNum l t 9223372036854775807
  let b:=tkBytes l a.2 1
  let m:=tkNum l b.2 65536
  let q:=tkBytes l m.2 m.1
  ((⟨(a.1:Int),ByteArray.empty,((b.1.getD 0 0).toNat:Int)⟩,(colGet ((b.1.getD 0 0).toNat:Int) (textB q.1)).1),⟨q.2.pos,q.2.bad || decide ((colGet ((b.1.getD 0 0).toNat:Int) (textB q.1)).2 ≠ 0)⟩)
noncomputable def tkCols (l:List UInt8):Nat→Tk→List Co→List (List V)→(List Co × List (List V)) × Tk
  | 0,t,cs,rs => ((cs,rs),t)
  | n + 1,t,cs,rs => if t.bad=true then ((cs,rs),t)
    else if (tkBytes l (tkNum l t 9223372036854775807).2 1).2.bad=true then ((cs,rs),(tkBytes l (tkNum l t 9223372036854775807).2 1).2)
    else tkCols l n (tkCol l t).2 (cs ++ [(tkCol l t).1.1]) (rs ++ [(tkCol l t).1.2])
noncomputable def tkHead (l:List UInt8):List UInt8 × Tk:=tkBytes l ⟨0,false⟩ 3
noncomputable def tkMany (l:List UInt8):Nat × Tk:=tkNum l (tkNum l (tkHead l).2 4096).2 12
noncomputable def tkAll (l:List UInt8):(List Co × List (List V)) × Tk:=tkCols l (tkMany l).1 (tkMany l).2 [] []
noncomputable def readT (l:List UInt8):Option Da :=
  if (tkHead l).1 ≠ markF∨(tkAll l).2.bad=true then none else some ⟨((tkNum l (tkHead l).2 4096).1:Int),(tkAll l).1.1,(tkAll l).1.2⟩
theorem ColOk.kind {n:Int} {c:Co} {r:List V} (h:ColOk n c r):1≤c.kd∧c.kd≤3:=(putA_ok h.put).1
theorem col_kind {c:Co} (h:1≤c.kd∧c.kd≤3):(((u8 c.kd.toNat).toNat:Nat):Int)=c.kd:=by
  rw [u8_toNat _ (by omega)];omega
theorem co_back {c:Co} (h0:1≤c.id) (h:c.nm=ByteArray.empty):(⟨((c.id.toNat:Nat):Int),ByteArray.empty,c.kd⟩:Co)=c:=by
  obtain ⟨i,n,k⟩:=c
  simp only at h h0
  subst h
  simp only
  rw [Int.toNat_of_nonneg (by omega)]
theorem col_there {l rest:List UInt8} {p:Nat} {c:Co} {r:List V} {n:Int} (hc:ColOk n c r) (hid:c.id≤9223372036854775807) (hin:∀ v ∈ r,InI v) (hz:(colPut c.kd r).1.size≤65536) (h:Ahead l p (colB c r ++ rest)) :
    rdCol l ⟨p,false⟩=((c,r.map plainV),⟨p + (colB c r).length,false⟩):=by
  have hk:=hc.kind
  have hid0:=hc.id
  have h1:Ahead l p (vp c.id.toNat ++ ([u8 c.kd.toNat] ++ (vp (colPut c.kd r).1.size ++ ((colPut c.kd r).1.data.toList ++ rest)))):=⟨h.le,by rw [h.is];simp [colB]⟩
  have e1:=count_there h1 (most:=9223372036854775807) (by omega) (by omega)
  have e2:=byte_there h1.next
  have e3:=count_there h1.next.next (most:=65536) (by omega) hz
  have e4:=piece_there h1.next.next.next (size_list _).symm
  have e5:=get_put (reads_parse hk) hc.put (fun v hv => hin v hv)
  simp only [rdCol,e1,e2,e3,e4,col_kind hk,text_back,e5,co_back hc.id hc.nm]
  simp [colB,Nat.add_assoc]
  omega
theorem tcol_there {l rest:List UInt8} {p:Nat} {c:Co} {r:List V} {n:Int} (hc:ColOk n c r) (hid:c.id≤9223372036854775807) (hin:∀ v ∈ r,InI v) (hz:(colPut c.kd r).1.size≤65536) (h:Ahead l p (colB c r ++ rest)) :
    tkCol l ⟨p,false⟩=((c,r.map plainV),⟨p + (colB c r).length,false⟩)∧(tkBytes l (tkNum l ⟨p,false⟩ 9223372036854775807).2 1).2.bad=false:=by
  have hk:=hc.kind
  have hid0:=hc.id
  have h1:Ahead l p (vp c.id.toNat ++ ([u8 c.kd.toNat] ++ (vp (colPut c.kd r).1.size ++ ((colPut c.kd r).1.data.toList ++ rest)))):=⟨h.le,by rw [h.is];simp [colB]⟩
  have e1:=num_there h1 (most:=9223372036854775807) (by omega) (by omega)
  have e2:=bytes_there (n:=1) h1.next rfl
  have e3:=num_there h1.next.next (most:=65536) (by omega) hz
  have e4:=bytes_there h1.next.next.next (size_list _).symm
  have e5:=get_put (reads_parse hk) hc.put (fun v hv => hin v hv)
  have e6:([u8 c.kd.toNat]:List UInt8).getD 0 0=u8 c.kd.toNat:=rfl
  constructor
  · simp only [tkCol,e1,e2,e3,e4,e6,col_kind hk,text_back,e5,co_back hc.id hc.nm]
    simp [colB,Nat.add_assoc]
    omega
  · rw [e1];simp only;rw [e2]
def AllOk (n:Int) (cs:List Co) (rs:List (List V)):Prop:=∀ x ∈ cs.zip rs,ColOk n x.1 x.2∧x.1.id≤9223372036854775807∧(∀ v ∈ x.2,InI v)∧(colPut x.1.kd x.2).1.size≤65536
theorem cols_there {l rest:List UInt8} {n:Int}:∀ (cs:List Co) (rs:List (List V)) (p:Nat) (c0:List Co) (r0:List (List V)),cs.length=rs.length→AllOk n cs rs→Ahead l p (colsB cs rs ++ rest) →
    rdCols l cs.length ⟨p,false⟩ c0 r0=((c0 ++ cs,r0 ++ rs.map (List.map plainV)),⟨p + (colsB cs rs).length,false⟩)
  | [],[],p,c0,r0,_,_,_ => by simp [rdCols,colsB]
  | [],r :: rs,_,_,_,h,_,_ => by simp at h
  | c :: cs,[],_,_,_,h,_,_ => by simp at h
  | c :: cs,r :: rs,p,c0,r0,hl,ha,h => by
    have h1:=ha (c,r) (by simp)
    rw [colsB] at h
    have e:=col_there h1.1 h1.2.1 h1.2.2.1 h1.2.2.2 h.assoc
    rw [List.length_cons,rdCols,e]
    simp only
    rw [cols_there cs rs _ _ _ (by simpa using hl) (fun x hx => ha x (by simp [hx])) h.assoc.next]
    simp [colsB,Nat.add_assoc]
theorem tcols_there {l rest:List UInt8} {n:Int}:∀ (cs:List Co) (rs:List (List V)) (p:Nat) (c0:List Co) (r0:List (List V)),cs.length=rs.length→AllOk n cs rs→Ahead l p (colsB cs rs ++ rest) →
    tkCols l cs.length ⟨p,false⟩ c0 r0=((c0 ++ cs,r0 ++ rs.map (List.map plainV)),⟨p + (colsB cs rs).length,false⟩)
  | [],[],p,c0,r0,_,_,_ => by simp [tkCols,colsB]
  | [],r :: rs,_,_,_,h,_,_ => by simp at h
  | c :: cs,[],_,_,_,h,_,_ => by simp at h
  | c :: cs,r :: rs,p,c0,r0,hl,ha,h => by
    have h1:=ha (c,r) (by simp)
    rw [colsB] at h
    have e:=tcol_there h1.1 h1.2.1 h1.2.2.1 h1.2.2.2 h.assoc
    rw [List.length_cons,tkCols,if_neg (by simp),if_neg (by rw [e.2];simp),e.1]
    simp only
    rw [tcols_there cs rs _ _ _ (by simpa using hl) (fun x hx => ha x (by simp [hx])) h.assoc.next]
    simp [colsB,Nat.add_assoc]
structure InD (d:Da):Prop where
  ids:∀ c ∈ d.cs,c.id≤9223372036854775807
  ins:∀ r ∈ d.rs,∀ v ∈ r,InI v
def plainD (d:Da):Da:=⟨d.n,d.cs,d.rs.map (List.map plainV)⟩
theorem mem_zip1 {α β:Type} {x:α × β} {a:List α} {b:List β} (h:x ∈ a.zip b):x.1 ∈ a∧x.2 ∈ b:=by
  cases x;exact List.of_mem_zip h
theorem all_ok {d:Da} (h:mayA d=true) (hz:(fileB d).length + 4≤65536) (hi:InD d):AllOk d.n d.cs d.rs:=fun x hx => by
  have hm:=mem_zip1 hx
  refine ⟨may_zip h x hx,hi.ids _ hm.1,hi.ins _ hm.2,?_⟩
  have h1:=colB_size x.1 x.2
  have h2:=colsB_zip _ _ x hx
  have h3:=fileB_cols d
  omega
theorem readF_there {d:Da} (h:mayA d=true) (hz:(fileB d).length + 4≤65536) (hi:InD d):readF (fileB d)=some (plainD d):=by
  obtain ⟨⟨n0,n1,c0,c1,hl⟩,_⟩:=may_ok h
  have ha:=all_ok h hz hi
  have h0:Ahead (fileB d) 0 (markF ++ (vp d.n.toNat ++ (vp d.cs.length ++ (colsB d.cs d.rs ++ (statsA d.cs d.rs).flatMap statB)))):=⟨Nat.zero_le _,rfl⟩
  have e0:=piece_there (n:=3) h0 rfl
  have e1:rdHead (fileB d)=⟨0 + markF.length,false⟩:=by unfold rdHead;rw [e0];simp
  have e2:=count_there h0.next (most:=4096) (by omega) (by omega)
  have e3:=count_there h0.next.next (most:=12) (by omega) c1
  have e4:=cols_there d.cs d.rs _ [] [] hl.symm ha h0.next.next.next
  have e5:rdMany (fileB d)=(d.cs.length,⟨0 + markF.length + (vp d.n.toNat).length + (vp d.cs.length).length,false⟩):=by unfold rdMany;rw [e1,e2];exact e3
  have e6:rdAll (fileB d)=rdCols (fileB d) d.cs.length ⟨0 + markF.length + (vp d.n.toNat).length + (vp d.cs.length).length,false⟩ [] []:=by unfold rdAll;rw [e5]
  rw [e4] at e6
  unfold readF
  rw [e6,e1,e2]
  simp only [List.nil_append]
  rw [if_neg (by simp)]
  unfold plainD
  rw [Int.toNat_of_nonneg n0]
theorem readT_there {d:Da} (h:mayA d=true) (hz:(fileB d).length + 4≤65536) (hi:InD d):readT (fileB d)=some (plainD d):=by
  obtain ⟨⟨n0,n1,c0,c1,hl⟩,_⟩:=may_ok h
  have ha:=all_ok h hz hi
  have h0:Ahead (fileB d) 0 (markF ++ (vp d.n.toNat ++ (vp d.cs.length ++ (colsB d.cs d.rs ++ (statsA d.cs d.rs).flatMap statB)))):=⟨Nat.zero_le _,rfl⟩
  have e1:tkHead (fileB d)=(markF,⟨0 + markF.length,false⟩):=bytes_there (n:=3) h0 rfl
  have e2:=num_there h0.next (most:=4096) (by omega) (by omega)
  have e3:=num_there h0.next.next (most:=12) (by omega) c1
  have e4:=tcols_there d.cs d.rs _ [] [] hl.symm ha h0.next.next.next
  have e5:tkMany (fileB d)=(d.cs.length,⟨0 + markF.length + (vp d.n.toNat).length + (vp d.cs.length).length,false⟩):=by unfold tkMany;rw [e1];simp only;rw [e2];exact e3
  have e6:tkAll (fileB d)=tkCols (fileB d) d.cs.length ⟨0 + markF.length + (vp d.n.toNat).length + (vp d.cs.length).length,false⟩ [] []:=by unfold tkAll;rw [e5]
  rw [e4] at e6
  unfold readT
  rw [e6,e1]
  simp only [List.nil_append]
  rw [e2,if_neg (by simp)]
  unfold plainD
  rw [Int.toNat_of_nonneg n0]
theorem get_in (k:Int) (s:ByteArray):∀ v ∈ (colGet k s).1,InI v:=by
  unfold colGet
  split
  · exact nil_in
  · rename_i c
    split
    · exact nil_in
    · cases hp:parseV k (openT s).data.toList with
      | none => exact nil_in
      | some vs =>
        simp only [ansOf]
        split
        · exact fun v hv => (reads_parse (show 1≤k∧k≤3 by omega)).bound _ _ hp v hv
        · exact nil_in
theorem get_all (k:Int) (s:ByteArray):(colGet k s).1.map plainV=(colGet k s).1∧(colGet k s).1.length≤4096∧∀ v ∈ (colGet k s).1,InI v∧v.s.size≤64:=by
  by_cases h:(colGet k s).2=0
  · have hk:1≤k∧k≤3:=by
      by_cases c:1≤k∧k≤3
      · exact c
      · unfold colGet at h;rw [if_pos c] at h;exact absurd h (by decide)
    obtain ⟨h1,_,h3⟩:=get_back (reads_parse hk) h
    obtain ⟨_,hn,hok⟩:=putA_ok h1
    refine ⟨h3,hn,fun v hv => ⟨get_in k s v hv,?_⟩⟩
    have hi:=get_in k s v hv
    have hv2:=okK_ok (hok v hv) hi.1 hi.2
    have hpl:plainV v=v:=by
      generalize (colGet k s).1=L at *
      obtain ⟨j,hj,rfl⟩:=List.mem_iff_getElem.1 hv
      have:=congrArg (fun l:List V => l[j]?) h3
      simpa [List.getElem?_eq_getElem hj] using this
    cases hnl:isNull v with
    | true =>
      rw [null_plain hnl] at hpl
      rw [← hpl];show (0:Nat)≤64;omega
    | false =>
      have hs:=hv2.some hk hnl
      rw [hpl] at hs
      by_cases k3:k=3
      · exact hs.size k3
      · have hk2:=hs.kind
        rw [← hpl]
        rcases (show v.k=1∨v.k=2 by omega) with e | e
        · rw [plainV_int e];show (0:Nat)≤64;omega
        · rw [plainV_bool e];show (0:Nat)≤64;omega
  · rw [get_err h]
    exact ⟨rfl,by simp,fun v hv => by cases hv⟩
structure RdD (d:Da):Prop where
  n:0≤d.n∧d.n≤4096
  len:d.rs.length=d.cs.length
  many:d.cs.length≤12
  co:∀ c ∈ d.cs,(0≤c.id∧c.id≤9223372036854775807)∧c.nm=ByteArray.empty∧(0≤c.kd∧c.kd≤255)
  row:∀ r ∈ d.rs,r.length≤4096∧∀ v ∈ r,InI v∧v.s.size≤64
theorem RdD.inD {d:Da} (h:RdD d):InD d:=⟨fun c hc => (h.co c hc).1.2,fun r hr v hv => ((h.row r hr).2 v hv).1⟩
def CoIn (c:Co):Prop:=(0≤c.id∧c.id≤9223372036854775807)∧c.nm=ByteArray.empty∧(0≤c.kd∧c.kd≤255)
def RowIn (r:List V):Prop:=r.length≤4096∧∀ v ∈ r,InI v∧v.s.size≤64
theorem count_most (l:List UInt8) (t:Tk) (m:Nat):(rdCount l t m).1≤m:=by
  unfold rdCount
  split
  · exact Nat.zero_le _
  · rename_i c;simp only;omega
theorem rdCol_pos {l:List UInt8} {t:Tk} (h:t.pos≤l.length):(rdCol l t).2.pos≤l.length :=
  piece_pos (rdCount_pos (byte_pos (rdCount_pos h).1)).1
theorem rdCol_in (l:List UInt8) (t:Tk):CoIn (rdCol l t).1.1∧RowIn (rdCol l t).1.2:=by
  have h1:=count_most l t 9223372036854775807
  have h2:=byte_most l (rdCount l t 9223372036854775807).2
  refine ⟨⟨⟨Int.natCast_nonneg _,Int.ofNat_le.2 h1⟩,rfl,Int.natCast_nonneg _,Int.ofNat_le.2 h2⟩,?_⟩
  exact ⟨(get_all _ _).2.1,(get_all _ _).2.2⟩
theorem tkNum_le (l:List UInt8) (t:Tk) (m:Nat):(tkNum l t m).1≤m:=by
  unfold tkNum
  split
  · exact Nat.zero_le _
  · rename_i c;simp only;omega
theorem tkCol_in (l:List UInt8) (t:Tk):CoIn (tkCol l t).1.1∧RowIn (tkCol l t).1.2:=by
  have h1:=tkNum_le l t 9223372036854775807
  have h2:=UInt8.toNat_lt ((tkBytes l (tkNum l t 9223372036854775807).2 1).1.getD 0 0)
  refine ⟨⟨⟨Int.natCast_nonneg _,Int.ofNat_le.2 h1⟩,rfl,Int.natCast_nonneg _,Int.ofNat_le.2 (Nat.le_of_lt_succ h2)⟩,?_⟩
  exact ⟨(get_all _ _).2.1,(get_all _ _).2.2⟩
theorem all_snoc {α:Type} {P:α→Prop} {xs:List α} {x:α} (h:∀ y ∈ xs,P y) (hx:P x):∀ y ∈ xs ++ [x],P y:=fun y hy => by
  rcases List.mem_append.1 hy with hy | hy
  · exact h y hy
  · rw [List.mem_singleton.1 hy];exact hx
theorem rdCols_in (l:List UInt8):∀ (n:Nat) (t:Tk) (cs:List Co) (rs:List (List V)),rs.length=cs.length→(∀ c ∈ cs,CoIn c)→(∀ r ∈ rs,RowIn r) →
    (rdCols l n t cs rs).1.2.length=(rdCols l n t cs rs).1.1.length∧(rdCols l n t cs rs).1.1.length≤cs.length + n∧(∀ c ∈ (rdCols l n t cs rs).1.1,CoIn c)∧∀ r ∈ (rdCols l n t cs rs).1.2,RowIn r
  | 0,t,cs,rs,h,hc,hr => ⟨h,Nat.le_refl _,hc,hr⟩
  | n + 1,t,cs,rs,h,hc,hr => by
    rw [rdCols]
    obtain ⟨a,b,c,d⟩:=rdCols_in l n (rdCol l t).2 (cs ++ [(rdCol l t).1.1]) (rs ++ [(rdCol l t).1.2]) (by simp [h]) (all_snoc hc (rdCol_in l t).1) (all_snoc hr (rdCol_in l t).2)
    exact ⟨a,by rw [List.length_append,List.length_singleton] at b;omega,c,d⟩
theorem tkCols_in (l:List UInt8):∀ (n:Nat) (t:Tk) (cs:List Co) (rs:List (List V)),rs.length=cs.length→(∀ c ∈ cs,CoIn c)→(∀ r ∈ rs,RowIn r) →
    (tkCols l n t cs rs).1.2.length=(tkCols l n t cs rs).1.1.length∧(tkCols l n t cs rs).1.1.length≤cs.length + n∧(∀ c ∈ (tkCols l n t cs rs).1.1,CoIn c)∧∀ r ∈ (tkCols l n t cs rs).1.2,RowIn r
  | 0,t,cs,rs,h,hc,hr => ⟨h,Nat.le_refl _,hc,hr⟩
  | n + 1,t,cs,rs,h,hc,hr => by
    rw [tkCols]
    split
    · exact ⟨h,Nat.le_add_right _ _,hc,hr⟩
    · split
      · exact ⟨h,Nat.le_add_right _ _,hc,hr⟩
      · obtain ⟨a,b,c,d⟩:=tkCols_in l n (tkCol l t).2 (cs ++ [(tkCol l t).1.1]) (rs ++ [(tkCol l t).1.2]) (by simp [h]) (all_snoc hc (tkCol_in l t).1) (all_snoc hr (tkCol_in l t).2)
        exact ⟨a,by rw [List.length_append,List.length_singleton] at b;omega,c,d⟩
theorem readF_in {l:List UInt8} {d:Da} (h:readF l=some d):RdD d:=by
  unfold readF at h
  split at h
  · cases h
  · injection h with h
    subst h
    obtain ⟨a,b,c,e⟩:=rdCols_in l (rdMany l).1 (rdMany l).2 [] [] rfl (fun c hc => by cases hc) (fun r hr => by cases hr)
    have hm:(rdMany l).1≤12:=count_most l _ 12
    exact ⟨⟨Int.natCast_nonneg _,Int.ofNat_le.2 (count_most l _ 4096)⟩,a,Nat.le_trans b (by simpa using hm),c,e⟩
theorem readT_in {l:List UInt8} {d:Da} (h:readT l=some d):RdD d:=by
  unfold readT at h
  split at h
  · cases h
  · injection h with h
    subst h
    obtain ⟨a,b,c,e⟩:=tkCols_in l (tkMany l).1 (tkMany l).2 [] [] rfl (fun c hc => by cases hc) (fun r hr => by cases hr)
    have hm:(tkMany l).1≤12:=tkNum_le l _ 12
    exact ⟨⟨Int.natCast_nonneg _,Int.ofNat_le.2 (tkNum_le l _ 4096)⟩,a,Nat.le_trans b (by simpa using hm),c,e⟩
theorem bnd_plain (v:V):plainV (bnd (plainV v))=plainV (bnd v):=by
  unfold bnd
  rw [kind_plain]
  split
  · rfl
  · exact plainV_twice v
theorem least_plain (vs:List V):plainV (leastA (vs.map plainV))=plainV (leastA vs):=by
  induction vs using snoc_ind with
  | h0 => rfl
  | h1 vs v ih => rw [List.map_append,List.map_singleton,leastA_snoc,leastA_snoc,less_plain,less_plain,ih,bnd_plain]
theorem most_plain (vs:List V):plainV (mostA (vs.map plainV))=plainV (mostA vs):=by
  induction vs using snoc_ind with
  | h0 => rfl
  | h1 vs v ih => rw [List.map_append,List.map_singleton,mostA_snoc,mostA_snoc,more_plain,more_plain,ih,bnd_plain]
theorem nulls_plain (vs:List V):nullsA (vs.map plainV)=nullsA vs:=by
  induction vs using snoc_ind with
  | h0 => rfl
  | h1 vs v ih => rw [List.map_append,List.map_singleton,nullsA_snoc,nullsA_snoc,kind_plain,ih]
theorem of_plain (c:Int) (vs:List V):ofA c (vs.map plainV)=ofA c vs:=by
  unfold ofA;rw [least_plain,most_plain,nulls_plain]
theorem stats_plain (cs:List Co) (rs:List (List V)):statsA cs (rs.map (List.map plainV))=statsA cs rs:=by
  unfold statsA
  rw [List.zipWith_map_right]
  congr 1
  funext c r
  exact of_plain c.id r
theorem ColOk.ok {n:Int} {c:Co} {r:List V} (h:ColOk n c r) (hin:∀ v ∈ r,InI v):∀ v ∈ r,OkV c.kd v:=fun v hv => okK_ok ((putA_ok h.put).2.2 v hv) (hin v hv).1 (hin v hv).2
theorem ColOk.same {n:Int} {c:Co} {r:List V} (h:ColOk n c r) (hin:∀ v ∈ r,InI v):colPut c.kd (r.map plainV)=colPut c.kd r:=putA_plain h.kind (putA_ok h.put).2.1 (h.ok hin)
theorem colsB_plain {n:Int}:∀ (cs:List Co) (rs:List (List V)),(∀ x ∈ cs.zip rs,ColOk n x.1 x.2)→(∀ r ∈ rs,∀ v ∈ r,InI v)→colsB cs (rs.map (List.map plainV))=colsB cs rs
  | [],_,_,_ => by simp [colsB]
  | c :: cs,[],_,_ => by simp [colsB]
  | c :: cs,r :: rs,h,hi => by
    rw [List.map_cons,colsB,colsB,colsB_plain cs rs (fun x hx => h x (by simp [hx])) (fun r hr => hi r (by simp [hr]))]
    unfold colB
    rw [(h (c,r) (by simp)).same (hi r (by simp))]
theorem getD_plain (rs:List (List V)) (i:Nat):(rs.map (List.map plainV)).getD i []=(rs.getD i []).map plainV:=by
  rw [List.getD_eq_getElem?_getD,List.getD_eq_getElem?_getD,List.getElem?_map]
  cases rs[i]? <;> rfl
theorem may_plain {d:Da} (h:mayA d=true) (hi:InD d):mayA (plainD d)=true:=by
  obtain ⟨h1,h2⟩:=may_ok h
  refine may_good (by unfold headOk plainD at *;simpa using h1) fun i hi' => ?_
  have hc:i < d.cs.length:=hi'
  have hr:i < d.rs.length:=by rw [h1.2.2.2.2];exact hc
  have hok:=okAt_col hc hr (h2 i hc)
  have h3:=h2 i hc
  have e1:d.cs.getD i zeroCo=d.cs[i]:=by rw [List.getD_eq_getElem?_getD,List.getElem?_eq_getElem hc];rfl
  have e2:d.rs.getD i []=d.rs[i]:=by rw [List.getD_eq_getElem?_getD,List.getElem?_eq_getElem hr];rfl
  have e3:(plainD d).rs.getD i []=(d.rs.getD i []).map plainV:=getD_plain d.rs i
  have e4:badHead (plainD d).n (plainD d).cs ((d.rs.getD i []).map plainV) i ↔ badHead d.n d.cs (d.rs.getD i []) i:=by unfold badHead;rw [List.length_map];exact Iff.rfl
  have e5:colPut ((plainD d).cs.getD i zeroCo).kd ((d.rs.getD i []).map plainV)=colPut (d.cs.getD i zeroCo).kd (d.rs.getD i []):=by
    show colPut (d.cs.getD i zeroCo).kd ((d.rs.getD i []).map plainV)=_
    rw [e1,e2]
    exact hok.same (hi.ins _ (List.getElem_mem hr))
  unfold okAt at h3 ⊢
  rw [e3,e5,decide_eq_decide.2 e4]
  exact h3
theorem fileB_plain {d:Da} (h:mayA d=true) (hi:InD d):fileB (plainD d)=fileB d:=by
  unfold fileB plainD
  simp only
  rw [colsB_plain d.cs d.rs (may_zip h) hi.ins,stats_plain]
theorem file_plain {d:Da} (h:(fileA d).2=0) (hi:InD d):fileA (plainD d)=fileA d:=by
  obtain ⟨h1,h2,h3⟩:=file_ok h
  rw [h3]
  unfold fileA
  rw [fileB_plain h1 hi,if_pos ⟨may_plain h1 hi,h2⟩]
def zeroD:Da:=⟨0,[],[]⟩
def ansD (s:ByteArray) (o:Option Da):Da × Int :=
  match o with
  | none => (zeroD,1100)
  | some d => if (fileA d).2=0∧(fileA d).1=s then (d,0) else (zeroD,1100)
structure ReadsD (P:List UInt8→Option Da):Prop where
  there:∀ d,mayA d=true→(fileB d).length + 4≤65536→InD d→P (fileB d)=some (plainD d)
  bound:∀ l d,P l=some d→RdD d
theorem readsF:ReadsD readF:=⟨fun _ h hz hi => readF_there h hz hi,fun _ _ h => readF_in h⟩
theorem readsT:ReadsD readT:=⟨fun _ h hz hi => readT_there h hz hi,fun _ _ h => readT_in h⟩
theorem file_open {d:Da} (h:(fileA d).2=0):(openT (fileA d).1).data.toList=fileB d∧isSealed (fileA d).1=true:=by
  obtain ⟨_,_,h3⟩:=file_ok h
  rw [h3]
  exact ⟨by simp only;rw [seal_openT,textB_list],seal_sealed _⟩
theorem readsD_same {P Q:List UInt8→Option Da} (hP:ReadsD P) (hQ:ReadsD Q) (s:ByteArray):ansD s (P (openT s).data.toList)=ansD s (Q (openT s).data.toList):=by
  have key:∀ {P Q:List UInt8→Option Da},ReadsD P→ReadsD Q→∀ d,P (openT s).data.toList=some d→(fileA d).2=0∧(fileA d).1=s→Q (openT s).data.toList=some d:=by
    intro P Q hP hQ d h h1
    obtain ⟨h2,h3,_⟩:=file_ok h1.1
    have hi:=(hP.bound _ _ h).inD
    have e:=(file_open h1.1).1
    rw [h1.2] at e
    rw [e,hP.there d h2 h3 hi] at h
    rw [e,hQ.there d h2 h3 hi]
    exact h
  cases hp:P (openT s).data.toList with
  | none =>
    cases hq:Q (openT s).data.toList with
    | none => rfl
    | some vs =>
      by_cases c:(fileA vs).2=0∧(fileA vs).1=s
      · have:=key hQ hP vs hq c
        rw [hp] at this;cases this
      · simp only [ansD];rw [if_neg c]
  | some vs =>
    by_cases c:(fileA vs).2=0∧(fileA vs).1=s
    · rw [key hP hQ vs hp c]
    · cases hq:Q (openT s).data.toList with
      | none => simp only [ansD];rw [if_neg c]
      | some us =>
        by_cases c2:(fileA us).2=0∧(fileA us).1=s
        · have:=key hQ hP us hq c2
          rw [hp] at this
          cases this
          exact absurd c2 c
        · simp only [ansD];rw [if_neg c,if_neg c2]
noncomputable def fileGet (s:ByteArray):Da × Int:=if isSealed s=false then (zeroD,1101) else ansD s (readF (openT s).data.toList)
theorem fileGet_sum {s:ByteArray} (h:isSealed s=false):fileGet s=(zeroD,1101):=if_pos h
theorem fileGet_F {s:ByteArray} (h:isSealed s=true):fileGet s=ansD s (readF (openT s).data.toList):=if_neg (by rw [h];simp)
theorem fileGet_T {s:ByteArray} (h:isSealed s=true):fileGet s=ansD s (readT (openT s).data.toList):=(fileGet_F h).trans (readsD_same readsF readsT s)
theorem zeroD_in:RdD zeroD:=⟨⟨Int.le_refl _,by decide⟩,rfl,by decide,(fun c hc => by cases hc),(fun r hr => by cases hr)⟩
theorem fileGet_in (s:ByteArray):RdD (fileGet s).1:=by
  unfold fileGet
  split
  · exact zeroD_in
  · cases h:readF (openT s).data.toList with
    | none => exact zeroD_in
    | some d =>
      simp only [ansD]
      split
      · exact readF_in h
      · exact zeroD_in
theorem fileGet_put {d:Da} (h:(fileA d).2=0) (hi:InD d):fileGet (fileA d).1=(plainD d,0):=by
  obtain ⟨h1,h2,_⟩:=file_ok h
  obtain ⟨e1,e2⟩:=file_open h
  rw [fileGet_F e2,e1,readF_there h1 h2 hi]
  simp only [ansD]
  rw [file_plain h hi,if_pos ⟨h,rfl⟩]
theorem fileGet_err {s:ByteArray} (h:(fileGet s).2 ≠ 0):(fileGet s).1=zeroD:=by
  unfold fileGet at h ⊢
  split at h
  · rename_i c;rw [if_pos c]
  · rename_i c
    rw [if_neg c]
    cases hp:readF (openT s).data.toList with
    | none => rfl
    | some d =>
      rw [hp] at h
      simp only [ansD] at h ⊢
      split at h
      · exact absurd rfl h
      · rename_i c2;rw [if_neg c2]
def lastId (d:Da) (n:Nat):Int:=if n=0 then 0 else (d.cs.getD (n - 1) zeroCo).id
def okP (d:Da) (i:Nat):Prop:=((d.cs.getD i zeroCo).nm=ByteArray.empty∧((d.rs.getD i []).length:Int)=d.n)∧(colPut (d.cs.getD i zeroCo).kd (d.rs.getD i [])).2.2=0∧lastId d i < (d.cs.getD i zeroCo).id
theorem okP_no {d:Da} {n:Nat} (h:¬ okP d n):okAt d n=false:=by
  cases ha:okAt d n with
  | false => rfl
  | true =>
    exfalso
    apply h
    unfold okAt at ha
    rw [Bool.and_eq_true] at ha
    obtain ⟨h1,h2⟩:=ha
    have h2:=of_decide_eq_true h2
    have h1:¬ badHead d.n d.cs (d.rs.getD n []) n:=by simpa using h1
    unfold badHead at h1
    refine ⟨⟨?_,?_⟩,h2,?_⟩
    · by_cases c:(d.cs.getD n zeroCo).nm=ByteArray.empty
      · exact c
      · exact absurd (.inr (.inr (.inl c))) h1
    · by_cases c:((d.rs.getD n []).length:Int)=d.n
      · exact c
      · exact absurd (.inr (.inr (.inr c))) h1
    · unfold lastId
      by_cases c:n=0
      · rw [if_pos c]
        by_cases c2:(d.cs.getD n zeroCo).id < 1
        · exact absurd (.inl c2) h1
        · omega
      · rw [if_neg c]
        by_cases c2:(d.cs.getD n zeroCo).id≤(d.cs.getD (n - 1) zeroCo).id
        · exact absurd (.inr (.inl ⟨by omega,c2⟩)) h1
        · omega
theorem okAt_id {d:Da} {n:Nat} (h:okAt d n=true):1≤(d.cs.getD n zeroCo).id:=by
  unfold okAt at h
  rw [Bool.and_eq_true] at h
  have h1:¬ badHead d.n d.cs (d.rs.getD n []) n:=by simpa using h.1
  by_cases c2:(d.cs.getD n zeroCo).id < 1
  · exact absurd (.inl c2) h1
  · omega
theorem okP_yes {d:Da} {n:Nat} (h:okP d n) (hp:∀ m,m < n→okAt d m=true):okAt d n=true:=by
  obtain ⟨⟨h1,h2⟩,h3,h4⟩:=h
  unfold okAt
  rw [decide_eq_true h3,Bool.and_true,Bool.not_eq_true',decide_eq_false_iff_not]
  unfold lastId at h4
  unfold badHead
  by_cases c:n=0
  · rw [if_pos c] at h4
    rintro (e | ⟨e,_⟩ | e | e)
    · omega
    · omega
    · exact e h1
    · exact e h2
  · rw [if_neg c] at h4
    have:=okAt_id (hp (n - 1) (by omega))
    rintro (e | ⟨_,e⟩ | e | e)
    · omega
    · omega
    · exact e h1
    · exact e h2
theorem may_P {d:Da} (hl:(1≤d.cs.length∧d.cs.length≤12)∧d.rs.length=d.cs.length) (ha:∀ n,n < d.cs.length→okAt d n=true):mayA d=true:=by
  have h:=okAt_col (by omega:0 < d.cs.length) (by omega:0 < d.rs.length) (ha 0 (by omega))
  have h2:=(putA_ok h.put).2.1
  have h3:=h.len
  exact may_good ⟨by omega,by omega,hl.1.1,hl.1.2,hl.2⟩ ha
theorem may_len {d:Da} (h:mayA d=true):(1≤d.cs.length∧d.cs.length≤12)∧d.rs.length=d.cs.length:=by
  obtain ⟨⟨_,_,h3,h4,h5⟩,_⟩:=may_ok h
  exact ⟨⟨h3,h4⟩,h5⟩
def blocksA (cs:List Co) (rs:List (List V)):List ByteArray:=List.zipWith (fun c r => (colPut c.kd r).1) cs rs
theorem blocksA_take {cs:List Co} {rs:List (List V)} {n:Nat} (h1:n < cs.length) (h2:n < rs.length):blocksA (cs.take (n + 1)) (rs.take (n + 1))=blocksA (cs.take n) (rs.take n) ++ [(colPut cs[n].kd rs[n]).1]:=by
  unfold blocksA
  rw [(List.take_append_getElem h1).symm,(List.take_append_getElem h2).symm,List.zipWith_append (by rw [List.length_take,List.length_take];omega)]
  rfl
theorem blocksA_len {cs:List Co} {rs:List (List V)} {n:Nat} (h1:n≤cs.length) (h2:n≤rs.length):(blocksA (cs.take n) (rs.take n)).length=n:=by
  unfold blocksA
  rw [List.length_zipWith,List.length_take,List.length_take];omega
theorem blocksA_get {cs:List Co} {rs:List (List V)} {n:Nat} (h1:n < cs.length) (h2:n < rs.length) (h:n < (blocksA cs rs).length):(blocksA cs rs)[n]=(colPut cs[n].kd rs[n]).1:=by
  exact List.getElem_zipWith
theorem colsB_take {cs:List Co} {rs:List (List V)} {n:Nat} (h1:n < cs.length) (h2:n < rs.length):colsB (cs.take (n + 1)) (rs.take (n + 1))=colsB (cs.take n) (rs.take n) ++ colB cs[n] rs[n]:=by
  rw [(List.take_append_getElem h1).symm,(List.take_append_getElem h2).symm]
  exact colsB_snoc _ _ _ _ (by rw [List.length_take,List.length_take];omega)
def headB (d:Da):List UInt8:=markF ++ (vp d.n.toNat ++ vp d.cs.length)
theorem fileB_head (d:Da):fileB d=headB d ++ colsB d.cs d.rs ++ (statsA d.cs d.rs).flatMap statB:=by
  unfold fileB headB;simp
theorem plain_in {v:V} (h:InI v):InI (plainV v):=by
  unfold plainV
  split
  · exact h
  · split
    · exact zero_in
    · split
      · exact zero_in
      · exact zero_in
theorem bnd_in {v:V} (h:InI v):InI (bnd v):=by
  unfold bnd
  split
  · exact zero_in
  · exact h
theorem least_in (vs:List V):(∀ v ∈ vs,InI v)→InI (leastA vs):=by
  induction vs using snoc_ind with
  | h0 => exact fun _ => zero_in
  | h1 vs v ih =>
    intro h
    rw [leastA_snoc]
    unfold lessA
    split
    · exact bnd_in (h v (by simp))
    · exact ih fun u hu => h u (by simp [hu])
theorem most_in (vs:List V):(∀ v ∈ vs,InI v)→InI (mostA vs):=by
  induction vs using snoc_ind with
  | h0 => exact fun _ => zero_in
  | h1 vs v ih =>
    intro h
    rw [mostA_snoc]
    unfold moreA
    split
    · exact bnd_in (h v (by simp))
    · exact ih fun u hu => h u (by simp [hu])
structure BdIn (v:V):Prop where
  i:InI v
  k:0≤v.k∧v.k≤3
  s:v.s.size≤64
theorem plain_bd {v:V} (h:InI v) (hs:(plainV v).s.size≤64):BdIn (plainV v):=by
  refine ⟨plain_in h,?_,hs⟩
  rw [plainV_kind];exact kindV_range v
theorem OkV.short {k:Int} {v:V} (h:OkV k v) (hk:1≤k∧k≤3):(plainV v).s.size≤64:=by
  cases hn:isNull v with
  | true => rw [null_plain hn];show (0:Nat)≤64;omega
  | false =>
    have h2:=h.some hk hn
    by_cases e:k=3
    · exact h2.size e
    · have h3:=h2.kind
      have h4:=h2.plain
      rcases (show (plainV v).k=1∨(plainV v).k=2 by omega) with e | e
      · rw [plainV_int e] at h4;rw [← h4];show (0:Nat)≤64;omega
      · rw [plainV_bool e] at h4;rw [← h4];show (0:Nat)≤64;omega
theorem of_in {n:Int} {c:Co} {r:List V} (h:ColOk n c r) (hin:∀ v ∈ r,InI v) (i:Int):BdIn (ofA i r).lo∧BdIn (ofA i r).hi∧(0≤(ofA i r).n∧(ofA i r).n≤4096):=by
  have hl:=(putA_ok h.put).2.1
  have hs:∀ v ∈ r.map plainV,v.s.size≤64:=fun v hv => by
    obtain ⟨u,hu,rfl⟩:=List.mem_map.1 hv
    exact (h.ok hin u hu).short h.kind
  have hp:∀ v ∈ r.map plainV,InI v:=fun v hv => by
    obtain ⟨u,hu,rfl⟩:=List.mem_map.1 hv
    exact plain_in (hin u hu)
  rw [← of_plain]
  have hn:=nullsA_le (r.map plainV)
  rw [List.length_map] at hn
  refine ⟨plain_bd (least_in _ hp) (Nat.le_trans (plainV_size _) (least_size _ hs)),plain_bd (most_in _ hp) (Nat.le_trans (plainV_size _) (most_size _ hs)),?_⟩
  have e:(ofA i (r.map plainV)).n=(nullsA (r.map plainV):Int):=rfl
  rw [e]
  omega
theorem boundB_len {v:V} (h:BdIn v):(boundB v).length≤80:=by
  have hs:=h.s
  unfold boundB
  split
  · simp
  · unfold plainB
    split
    · have:=vp_le (zz v.i);simp;omega
    · split
      · simp
      · have:=vp_le v.s.size;simp [← size_list];omega
theorem stat_len {n:Int} {c:Co} {r:List V} (h:ColOk n c r) (hin:∀ v ∈ r,InI v) (i:Int):(statB (ofA i r)).length≤170:=by
  obtain ⟨h1,h2,_⟩:=of_in h hin i
  have h3:=boundB_len h1
  have h4:=boundB_len h2
  have h5:=vp_le (ofA i r).n.toNat
  unfold statB
  simp only [List.length_append]
  omega
theorem put_len {n:Int} {c:Co} {r:List V} (h:ColOk n c r) (hin:∀ v ∈ r,InI v):(colPut c.kd r).1.size≤500004:=by
  obtain ⟨hk,hn,hok⟩:=putA_ok h.put
  rw [putA_yes hk hn hok]
  simp only
  rw [sealB_size,textB_size]
  have:=bodyB_len hk (h.ok hin) hn
  omega
theorem colB_len {n:Int} {c:Co} {r:List V} (h:ColOk n c r) (hin:∀ v ∈ r,InI v):(colB c r).length≤500100:=by
  have h1:=put_len h hin
  have h2:=vp_le c.id.toNat
  have h3:=vp_le (colPut c.kd r).1.size
  unfold colB
  simp only [List.length_append,← size_list,List.length_singleton]
  omega
theorem colsB_len {n:Int}:∀ (cs:List Co) (rs:List (List V)),(∀ x ∈ cs.zip rs,ColOk n x.1 x.2)→(∀ r ∈ rs,∀ v ∈ r,InI v)→(colsB cs rs).length≤cs.length * 500100
  | [],_,_,_ => by simp [colsB]
  | c :: cs,[],_,_ => by simp [colsB]
  | c :: cs,r :: rs,h,hi => by
    have h1:=colB_len (h (c,r) (by simp)) (hi r (by simp))
    have h2:=colsB_len cs rs (fun x hx => h x (by simp [hx])) (fun r hr => hi r (by simp [hr]))
    simp only at h1
    rw [colsB,List.length_append,List.length_cons]
    omega
theorem statsB_len {n:Int}:∀ (cs:List Co) (rs:List (List V)),(∀ x ∈ cs.zip rs,ColOk n x.1 x.2)→(∀ r ∈ rs,∀ v ∈ r,InI v)→((statsA cs rs).flatMap statB).length≤cs.length * 170
  | [],_,_,_ => by simp [statsA]
  | c :: cs,[],_,_ => by simp [statsA]
  | c :: cs,r :: rs,h,hi => by
    have h1:(statB (ofA c.id r)).length≤170:=stat_len (h (c,r) (by simp)) (hi r (by simp)) c.id
    have h2:=statsB_len cs rs (fun x hx => h x (by simp [hx])) (fun r hr => hi r (by simp [hr]))
    unfold statsA at h2 ⊢
    rw [List.zipWith_cons_cons,List.flatMap_cons,List.length_append,List.length_cons]
    omega
theorem headB_len (d:Da):(headB d).length≤23:=by
  have h1:=vp_le d.n.toNat
  have h2:=vp_le d.cs.length
  unfold headB markF
  simp only [List.length_append,List.length_cons,List.length_nil]
  omega
theorem fileB_len {d:Da} (h:mayA d=true) (hi:InD d):(fileB d).length≤7000000:=by
  obtain ⟨⟨_,_,_,h4,_⟩,_⟩:=may_ok h
  have h1:=colsB_len d.cs d.rs (may_zip h) hi.ins
  have h2:=statsB_len d.cs d.rs (may_zip h) hi.ins
  have h3:=headB_len d
  rw [fileB_head]
  simp only [List.length_append]
  omega
structure FinD (d:Da):Prop where
  ids:∀ c ∈ d.cs,c.id≤9223372036854775807
  row:∀ r ∈ d.rs,r.length≤140737488355328∧∀ v ∈ r,InI v∧v.s.size≤140737488351232
theorem FinD.inD {d:Da} (h:FinD d):InD d:=⟨h.ids,fun r hr v hv => ((h.row r hr).2 v hv).1⟩
theorem RdD.finD {d:Da} (h:RdD d):FinD d:=⟨fun c hc => (h.co c hc).1.2,fun r hr => ⟨Nat.le_trans (h.row r hr).1 (by decide),fun v hv => ⟨((h.row r hr).2 v hv).1,Nat.le_trans ((h.row r hr).2 v hv).2 (by decide)⟩⟩⟩
end Go.Proofs.YtfbmlefhjoblbaaGreat
