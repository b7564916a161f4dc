/- Spaces and remarks left out: a claim is at most so large. Spaces and remarks left out: a claim is at most so large. -/
import Derived.Test.YtfbmlefhjoblbaaGreatValLGz
import Derived.Test.YtfbmlefhjoblbaaGreatNPFileGetsGz8
import Derived.Deep.Cut
import Derived.Laws.MakeOwn
namespace Go.Proofs.YtfbmlefhjoblbaaGreat
open Go.Conc Go.RowKit
set_option linter.unusedVariables false
set_option linter.unusedSimpArgs false
def RowIs (w:World) (u:Value) (vs:List V):Prop:=∃ a c,u=.slice a vs.length c∧IsV w a vs∧(a=none→vs.length=0∧c=0)
theorem RowIs.below {w w':World} {u:Value} {vs:List V} (h:RowIs w u vs) (hb:Below w.heap.size w w'):RowIs w' u vs:=by
  obtain ⟨a,c,h1,h2,h3⟩:=h
  exact ⟨a,c,h1,h2.below hb,h3⟩
def IsR (w:World) (a:Option Addr) (rs:List (List V)):Prop :=
  rs=[]∨∃ b off,a=some ⟨b,off,none⟩∧∀ i (h:i < rs.length),∃ u,w.cell? ⟨b,off + i,none⟩=some u∧RowIs w u rs[i]
theorem IsR.below {w w':World} {a:Option Addr} {rs:List (List V)} (h:IsR w a rs) (hb:Below w.heap.size w w'):IsR w' a rs:=by
  rcases h with h | ⟨b,off,rfl,h⟩
  · exact .inl h
  · refine .inr ⟨b,off,rfl,fun i hi => ?_⟩
    obtain ⟨u,h1,h2⟩:=h i hi
    exact ⟨u,(World.cell?_of_block (hb.block b (World.block_lt_of_cell? w ⟨b,off + i,none⟩ h1))).trans h1,h2.below hb⟩
theorem IsR.take {w:World} {a:Option Addr} {rs:List (List V)} (h:IsR w a rs) (n:Nat):IsR w a (rs.take n):=by
  rcases h with rfl | ⟨b,off,rfl,h⟩
  · exact .inl (by simp)
  · refine .inr ⟨b,off,rfl,fun i hi => ?_⟩
    rw [List.length_take] at hi
    rw [List.getElem_take]
    exact h i (by omega)
set_option maxRecDepth 100000 in
set_option maxHeartbeats 1000000 in
theorem samerows_any (w:World) (a b:Option Addr) (ca cb:Nat) (xs ys:List (List V)) (ha:IsR w a xs) (hb:IsR w b ys) (hx:xs.length≤maxLen) (hl:∀ r ∈ xs,r.length≤maxLen) :
    Calls Tryz.prog 73 #[.slice a xs.length ca,.slice b ys.length cb] w fun e w' => e=.returned (.bool (decide (xs=ys)))∧Below w.heap.size w w':=by
  unfold maxLen at hx
  by_cases hn:xs.length=ys.length
  · have hd:∀ n,n≤xs.length→xs.take n=ys.take n→(xs=ys ↔ xs.drop n=ys.drop n):=fun n _ h => by
      constructor
      · intro e;rw [e]
      · intro e;rw [← List.take_append_drop n xs,← List.take_append_drop n ys,h,e]
    obtain ⟨R,hR⟩:∃ R,R=decide (xs=ys):=⟨_,rfl⟩
    rw [← hR]
    rw [← hn]
    have HN:=Lib.hid hn
    have HR:=Lib.hid hR
    have HD:=Lib.hid hd
    have HL:=Lib.hid hl
    clear hn hR hd hl
    go_enter Tryz.func73,Tryz.ntmps73
    go_wp2
    go_loopw [5] (fun iv wr => ∃ n:Nat,n≤xs.length∧iv=.int .i64 n∧Hid (xs.take n=ys.take n)∧Hid (Below w.heap.size w wr)) (fun iv _ => xs.length - (intOf iv).toNat)
    case atStart => exact ⟨0,Nat.zero_le _,rfl,rfl,Below.refl _ _⟩
    case round =>
      obtain ⟨n,hle,rfl,HT,HB⟩:=hrel
      by_cases c:n < xs.length
      · have hne:xs ≠ []:=fun e => by rw [e] at c;simp at c
        have hney:ys ≠ []:=fun e => by have:=HN.out;rw [e] at this;simp at this;rw [this] at c;simp at c
        have ha':=ha.below HB.out
        have hb':=hb.below HB.out
        rcases ha' with ha' | ⟨ba,oa,rfl,ha'⟩
        · exact absurd ha' hne
        rcases hb' with hb' | ⟨bb,ob,rfl,hb'⟩
        · exact absurd hb' hney
        have cy:n < ys.length:=by have:=HN.out;omega
        obtain ⟨u1,p1,ax,kx,rfl,vx,_⟩:=ha' n c
        obtain ⟨u2,p2,ay,ky,rfl,vy,_⟩:=hb' n cy
        have hlx:=HL.out _ (List.getElem_mem c)
        have hx1:xs.drop n=xs[n] :: xs.drop (n + 1):=List.drop_eq_getElem_cons c
        have hy1:ys.drop n=ys[n] :: ys.drop (n + 1):=List.drop_eq_getElem_cons cy
        have hx2:xs.take (n + 1)=xs.take n ++ [xs[n]]:=(List.take_append_getElem c).symm
        have hy2:ys.take (n + 1)=ys.take n ++ [ys[n]]:=(List.take_append_getElem cy).symm
        have HE:=Lib.hid (HD.out n (by omega) HT.out)
        have HX1:=Lib.hid hx1
        have HY1:=Lib.hid hy1
        have HX2:=Lib.hid hx2
        have HY2:=Lib.hid hy2
        have hcy:(n:Int) < (ys.length:Int):=by omega
        have P1:=Lib.hid p1
        have P2:=Lib.hid p2
        clear hx1 hy1 hx2 hy2 ha hb ha' hb' hne hney p1 p2
        generalize xs[n]=x at *
        generalize ys[n]=y at *
        have T:=Lib.hid (fun (u:World) (hu:Below wr.heap.size wr u) => samevals_any u ax ay kx ky x y (vx.below hu) (vy.below hu) hlx)
        clear vx vy hlx
        have hpl1:∀ u,Below wr.heap.size wr u→u.cell? ⟨ba,oa + n,none⟩=some (.slice ax x.length kx):=fun u hu => (World.cell?_of_block (hu.block ba (World.block_lt_of_cell? wr ⟨ba,oa + n,none⟩ P1.out))).trans P1.out
        have hpl2:∀ u,Below wr.heap.size wr u→u.cell? ⟨bb,ob + n,none⟩=some (.slice ay y.length ky):=fun u hu => (World.cell?_of_block (hu.block bb (World.block_lt_of_cell? wr ⟨bb,ob + n,none⟩ P2.out))).trans P2.out
        have HP1:=Lib.hid hpl1
        have HP2:=Lib.hid hpl2
        clear hpl1 hpl2 P1 P2
        obtain ⟨D,hD⟩:∃ D,D=decide (x=y):=⟨_,rfl⟩
        rw [← hD] at T
        have HDD:=Lib.hid hD
        clear hD
        go_upto_region 6 with fail
        refine region_class (fun w' => Below wr.heap.size wr w') (by kernel_rfl) (by kernel_rfl) (Below.refl _ _).drew ?_
        repeat (
          refine wpQuiet_step (fun K9 hK => ?_)
          go_simp
          first
          | (refine hK _ ?_;clear hK K9)
          | (apply Exists.intro
             refine ⟨fun w1 hw1 => ?_,hK _ ?_⟩
             (first
               | (exact rfl)
               | (go_at_call 25;exact (T.out _ hw1).mono fun e w2 ⟨he,hb⟩ => ⟨he,hw1.trans (hb.mono hw1.size)⟩)
               | (have p1:=HP1.out _ hw1;have p2:=HP2.out _ hw1;simp only [p1,p2,Result.andThen];exact ⟨trivial,rfl⟩)
               | (exact ⟨trivial,rfl⟩))
             clear hK K9))
        refine wpQuiet_nil ?_
        intro w9 hw9
        have HB9:=Lib.hid (HB.out.trans (hw9.mono HB.out.size))
        clear hw9 T HP1 HP2
        cases D
        · have hf:R=false:=by
            rw [HR.out,decide_eq_false_iff_not,HE.out,HX1.out,HY1.out]
            intro k
            injection k with k1 k2
            exact of_decide_eq_false HDD.out.symm k1
          subst hf
          go_wp2
          go_ret
          exact ⟨rfl,HB9.out⟩
        · have hxy:x=y:=of_decide_eq_true HDD.out.symm
          have HQE:=Lib.hid hxy
          clear hxy
          go_wp2
          go_roundw
          case rel => exact ⟨n + 1,by omega,by go_num,Lib.hid (by rw [HX2.out,HY2.out,HT.out,HQE.out]),HB9⟩
          case measure => simp [intOf];omega
      · obtain rfl:n=xs.length:=by omega
        have ht:R=true:=by
          have h1:=HT.out
          rw [List.take_length,HN.out,List.take_length] at h1
          rw [HR.out,h1];simp
        subst ht
        clear c
        go_wp2
        go_ret
        exact ⟨rfl,HB.out⟩
  · have hne:((xs.length:Int) != (ys.length:Int))=true:=by simp;omega
    have hf:decide (xs=ys)=false:=decide_eq_false fun e => hn (by rw [e])
    rw [hf]
    go_enter Tryz.func73,Tryz.ntmps73
    go_wp2
    go_ret
    exact ⟨rfl,Below.refl _ _⟩
def LentR (base:Nat) (w:World) (cs:List Value) (rs:List (List V)):Prop:=cs.length=rs.length∧∀ i (h:i < rs.length),∃ gi ci,cs[i]? = some (.slice (some ⟨gi,0,none⟩) rs[i].length ci)∧OwnV base w (some ⟨gi,0,none⟩) ci (rs[i] ++ [markV,markV])
theorem LentR.same {base:Nat} {w w':World} {cs:List Value} {rs:List (List V)} (h:LentR base w cs rs) (hs:∀ g c xs,OwnV base w (some ⟨g,0,none⟩) c xs→OwnV base w' (some ⟨g,0,none⟩) c xs):LentR base w' cs rs :=
  ⟨h.1,fun i hi => by obtain ⟨gi,ci,h1,h2⟩:=h.2 i hi;exact ⟨gi,ci,h1,hs _ _ _ h2⟩⟩
theorem LentR.below {base:Nat} {w w':World} {cs:List Value} {rs:List (List V)} (h:LentR base w cs rs) (hb:Below w.heap.size w w'):LentR base w' cs rs:=h.same fun _ _ _ h => h.below hb
theorem LentR.snoc {base:Nat} {w:World} {cs:List Value} {rs:List (List V)} (h:LentR base w cs rs) {g c:Nat} {r:List V} (ho:OwnV base w (some ⟨g,0,none⟩) c (r ++ [markV,markV])):LentR base w (cs ++ [.slice (some ⟨g,0,none⟩) r.length c]) (rs ++ [r]):=by
  refine ⟨by simp [h.1],fun i hi => ?_⟩
  by_cases e:i < rs.length
  · obtain ⟨gi,ci,h1,h2⟩:=h.2 i e
    refine ⟨gi,ci,?_,?_⟩
    · rw [List.getElem?_append_left (by rw [h.1];exact e),List.getElem_append_left e];exact h1
    · rw [List.getElem_append_left e];exact h2
  · have e2:i=rs.length:=by simp at hi;omega
    subst e2
    refine ⟨g,c,?_,?_⟩
    · rw [List.getElem?_append_right (by rw [h.1];exact Nat.le_refl _),h.1,Nat.sub_self];simp
    · simp only [List.getElem_append_right (Nat.le_refl _),Nat.sub_self,List.getElem_singleton];exact ho
def OwnR (base:Nat) (w:World) (a:Option Addr) (n cap:Nat) (cs:List Value):Prop:=w.ownsRow base 82 1 (.slice a n cap) n cs
def zRowVal:Value:=.agg #[.slice none 0 0]
theorem infoRow:(Tryz.prog.info? 82).map (fun i => (i.zero,i.size,i.bytes))=some (some zRowVal,1,24):=by kernel_rfl
theorem OwnR.read {base:Nat} {w:World} {g n cap:Nat} {cs:List Value} (h:OwnR base w (some ⟨g,0,none⟩) n cap cs) (j:Nat) (u:Value) (hj:cs[j]? = some u):w.cell? ⟨g,j,none⟩=some u:=by
  have:=World.ownsRow.cells h (g:=g) rfl j u hj
  rwa [addr_off,Nat.zero_add] at this
end Go.Proofs.YtfbmlefhjoblbaaGreat

namespace Go.Proofs.YtfbmlefhjoblbaaGreat
open Go.Conc Go.RowKit
set_option linter.unusedVariables false
set_option linter.unusedSimpArgs false
structure OneT (e sl:TypeId) (zv:Value) (B:Nat):Prop where
  info:(Tryz.prog.info? e).map (fun i => (i.zero,i.size,i.bytes))=some (some zv,1,B)
  und:Tryz.prog.underlying sl=some (.slice e)
  zero:zv.cells.size=1
  byt:B≤32
theorem run_append_one {e sl:TypeId} {zv:Value} {B:Nat} (O:OneT e sl zv B) (w:World) (base:Nat) (hbase:base≤w.heap.size) (v:Value) (n:Nat) (xs p:List Value) (hown:w.ownsRow base e 1 v n xs) (hxl:xs.length=n * 1) (hl:n≤4000000000000) (hp:p.length=1) (hp1:∀ u ∈ p,u.oneCell'=true)
    (a:Addr) (c:Nat) (hnews:∀ j u,p[j]? = some u→w.cell? (a.add j)=some u) :
    ∃ v' w',(∀ ty,(Builtin.append_ #[sl,sl] ty #[v,.slice (some a) 1 c]).run Tryz.prog w=.ok v' w')∧w'.ownsRow base e 1 v' (n + 1) (xs ++ p)∧w.grownBy w' v.ownBlock∧(∀ k,v'.ownBlock=some k→v.ownBlock=some k∨w.heap.size≤k):=by
  obtain ⟨i0,hi,hz0,hz1,hz2⟩:=info_parts O.info
  have hB:=O.byt
  have hBn:=Nat.mul_le_mul_left (n + 1) O.byt
  have hpl:p.length=1 * i0.size:=by rw [hz1,hp]
  have hpx:(xs ++ p).length=(n + 1) * 1:=by rw [List.length_append,hxl,hp];omega
  have grown:∀ (old:Nat),old < n + 1 →
      (w.drew.alloc (.cells (xs.toArray ++ p.toArray ++ Builtin.zeroCells zv.cells (grownCap w (n + 1) old e - (n + 1))) e)).ownsRow base e 1
        (.slice (some ⟨w.heap.size,0,none⟩) (n + 1) (grownCap w (n + 1) old e)) (n + 1) (xs ++ p):=by
    intro old ho
    have hge:=grownCap_ge w (n + 1) old e
    have hcm:grownCap w (n + 1) old e≤maxLen:=grownCap_le_maxLen w (n + 1) old e (by simp only [maxLen];omega)
    refine ⟨hpx,.inr ⟨w.heap.size,_,_,rfl,hbase,heap_alloc_new w.drew _,hge,hcm,?_,?_⟩⟩
    · simp only [Array.size_append,List.size_toArray,size_zeroCells,hxl,hp]
      rw [O.zero]
      omega
    · simp only [Array.toList_append]
      rw [show (xs ++ p ++ (Builtin.zeroCells zv.cells (grownCap w (n + 1) old e - (n + 1))).toList)=(xs ++ p) ++ (Builtin.zeroCells zv.cells (grownCap w (n + 1) old e - (n + 1))).toList from rfl,← hpx]
      exact List.take_left
  rcases hown.2 with ⟨rfl,h0⟩ | ⟨g,cap,cur,rfl,hb,hgg,hnc,hcm,hcs,htake⟩
  · have e0:xs=[]:=List.eq_nil_of_length_eq_zero (by omega)
    subst e0 h0
    have gr:=grown 0 (by omega)
    refine ⟨_,_,fun ty => run_append_nil w sl ty e i0 zv O.und hi hz0 a 1 c p hpl hnews (by omega) (by omega) (by rw [hz2];omega),by simpa using gr,⟨rfl,rfl,rfl,by simp,fun k hk _ => Below.heap_alloc w.drew _ k hk⟩,?_⟩
    intro k hk
    simp [Value.ownBlock] at hk
    exact .inr (by omega)
  · by_cases hroom:n + 1≤cap
    · have hfit:n * i0.size + p.length≤cur.size:=by rw [hcs,hz1,hp];omega
      have hlt:(cur.toList.take (n * 1) ++ p).length=(n + 1) * 1:=by rw [htake];exact hpx
      refine ⟨_,_,fun ty => run_append_room w sl ty e i0 O.und hi g n cap cur hgg a 1 c p hpl hnews hp1 hroom hfit,⟨hpx,.inr ⟨g,cap,_,rfl,hb,setRow_heap w g cur _ e _ hgg,by omega,hcm,?_,?_⟩⟩,⟨rfl,rfl,rfl,by simp,fun k _ hk => setRow_other w g k _ (fun e => hk (by rw [e];rfl))⟩,fun k hk => .inl hk⟩
      · simp only [List.size_toArray,List.length_append,List.length_take,List.length_drop,Array.length_toList]
        omega
      · rw [hz1,← htake,List.append_assoc]
        rw [← List.append_assoc,← hlt]
        exact List.take_left
    · have hr:=fun ty => run_append_grow (P:=Tryz.prog) w sl ty e i0 zv O.und hi hz0 ⟨g,0,none⟩ n cap xs (by rw [hz1];exact hxl) (hown.cells (g:=g) rfl) a 1 c p hpl hnews (by omega) (by omega) (growslice_fits (by omega) (by rw [hz2];omega))
      refine ⟨_,_,hr,grown cap (by omega),⟨rfl,rfl,rfl,by simp,fun k hk _ => Below.heap_alloc w.drew _ k hk⟩,?_⟩
      intro k hk
      simp [Value.ownBlock] at hk
      exact .inr (by omega)
theorem one_cells (w:World) (u:Value) (e:TypeId):∀ j v,[u][j]? = some v→(w.alloc (.cells #[u] e)).cell? ((⟨w.heap.size,0,none⟩:Addr).add j)=some v:=by
  intro j v hj
  have hj0:j=0:=by have:=(List.getElem?_eq_some_iff.1 hj).1;simp at this;omega
  subst hj0
  rw [addr_off,Nat.zero_add,cell_of_row _ _ _ _ _ _ (heap_alloc_new w (.cells #[u] e))]
  simpa using hj
theorem wp_one {e sl:TypeId} {zv:Value} {B:Nat} (O:OneT e sl zv B) {base:Nat} {w:World} {ad:Option Addr} {n cap:Nat} {xs:List Value} (h:w.ownsRow base e 1 (.slice ad n cap) n xs) (hxl:xs.length=n) (hb:base≤w.heap.size) (hO:n≤4000000000000)
    {ops:Array Oper} {rest:List Oper} {op:Oper} {A:Act} {Q:Exit→Act→World→Prop} (hgd:op.guard=none) (s x:Operand)
    (ho:op.op=.call { callee:=.builtin .append,args:=#[s,x],argTypes:=#[sl,sl] }) (u:Value) (hu1:u.oneCell'=true) (hs:A.eval s=.slice ad n cap) (hx:A.eval x=.slice (some ⟨w.heap.size,0,none⟩) 1 1)
    (hK:∀ ad' cap' w',w'.ownsRow base e 1 (.slice ad' (n + 1) cap') (n + 1) (xs ++ [u])→Frm (At ad) w w'→(∀ k,At ad' k→At ad k∨w.heap.size < k)→wpList Tryz.prog ops Q rest (A.put op.dst (.slice ad' (n + 1) cap')) w') :
    wpList Tryz.prog ops Q (op :: rest) A (w.alloc (.cells #[u] e)):=by
  have ha:(w.alloc (.cells #[u] e)).ownsRow base e 1 (.slice ad n cap) n xs:=own_same h fun k _ hk => Below.heap_alloc w _ k hk
  obtain ⟨v',w',hr,hown,hgrow,hnew⟩:=run_append_one O _ base (Nat.le_trans hb (by simp)) (.slice ad n cap) n xs [u] ha (by omega) hO rfl (fun z hz => by rw [List.mem_singleton.1 hz];exact hu1) ⟨w.heap.size,0,none⟩ 1 (one_cells w u e)
  obtain ⟨ad',cap',rfl⟩:=own_form hown
  have:=hK ad' cap' w' hown (grown_frm _ hgrow (own_head h)) (grown_new _ (own_head h) (own_head hown) hnew)
  exact wpV_append_eq _ hgd s x sl sl ho _ _ hs hx (hr _) this
theorem own_ge {base e size n cap:Nat} {w:World} {a:Option Addr} {xs:List Value} (h:w.ownsRow base e size (.slice a n cap) n xs) {k:Nat} (hk:At a k):base≤k∧k < w.heap.size:=by
  rcases h.2 with ⟨hv,_⟩ | ⟨g,cp,cur,hv,hb,hg,_⟩
  · injection hv with h1;subst h1;simp [At] at hk
  · injection hv with h1;subst h1;simp [At] at hk;subst hk;exact ⟨hb,(Array.getElem?_eq_some_iff.1 hg).1⟩
theorem oneText:OneT 9 109 (.string ByteArray.empty) 16:=⟨by kernel_rfl,Tryz.underlying109,rfl,by decide⟩
def textCells (xs:List ByteArray):List Value:=xs.map fun s => Value.string s
theorem textCells_length (xs:List ByteArray):(textCells xs).length=xs.length:=by simp [textCells]
theorem textCells_append (a b:List ByteArray):textCells (a ++ b)=textCells a ++ textCells b:=by simp [textCells]
def OwnT (base:Nat) (w:World) (a:Option Addr) (cap:Nat) (xs:List ByteArray):Prop:=w.ownsRow base 9 1 (.slice a xs.length cap) xs.length (textCells xs)
def IsT (w:World) (a:Option Addr) (xs:List ByteArray):Prop :=
  xs=[]∨∃ b off,a=some ⟨b,off,none⟩∧∀ i (h:i < xs.length),w.cell? ⟨b,off + i,none⟩=some (.string xs[i])
theorem IsT.below {w w':World} {a:Option Addr} {xs:List ByteArray} (h:IsT w a xs) (hb:Below w.heap.size w w'):IsT w' a xs:=by
  rcases h with h | ⟨b,off,rfl,h⟩
  · exact .inl h
  · exact .inr ⟨b,off,rfl,fun i hi => (hb.cell (p:=⟨b,off + i,none⟩) (World.block_lt_of_cell? w ⟨b,off + i,none⟩ (h i hi))).trans (h i hi)⟩
theorem OwnT.isT {base:Nat} {w:World} {a:Option Addr} {cap:Nat} {xs:List ByteArray} (h:OwnT base w a cap xs):IsT w a xs:=by
  by_cases c:xs=[]
  · exact .inl c
  · rcases h.2 with ⟨hv,h0⟩ | ⟨g,cp,cur,hv,hb,rest⟩
    · exact absurd (List.eq_nil_of_length_eq_zero h0) c
    · obtain rfl:a=some ⟨g,0,none⟩:=by injection hv
      refine .inr ⟨g,0,rfl,fun i hi => ?_⟩
      have:=World.ownsRow.cells h (g:=g) rfl i (.string xs[i]) (by simp [textCells,hi])
      rwa [addr_off] at this
theorem OwnT.nil (base:Nat) (w:World):OwnT base w none 0 []:=World.ownsRow_nil _ _ _ _
theorem OwnT.lower {base base':Nat} {w:World} {a:Option Addr} {cap:Nat} {xs:List ByteArray} (h:OwnT base w a cap xs) (hb:base'≤base):OwnT base' w a cap xs:=own_lower h hb
theorem OwnT.at_ge {base cap:Nat} {w:World} {a:Option Addr} {xs:List ByteArray} (h:OwnT base w a cap xs) {k:Nat} (hk:At a k):base≤k∧k < w.heap.size:=own_ge h hk
theorem OwnT.below {base:Nat} {w w':World} {a:Option Addr} {cap:Nat} {xs:List ByteArray} (h:OwnT base w a cap xs) (hb:Below w.heap.size w w'):OwnT base w' a cap xs:=own_same h fun g _ hg => hb.block g hg
theorem OwnT.frm {base cap:Nat} {w w':World} {a:Option Addr} {xs:List ByteArray} {F:Nat→Prop} (h:OwnT base w a cap xs) (hf:Frm F w w') (hF:∀ k,At a k→k < w.heap.size→¬ F k):OwnT base w' a cap xs:=own_by h hf hF
theorem wp_text {base:Nat} {w:World} {ad:Option Addr} {cap:Nat} {xs:List ByteArray} (h:OwnT base w ad cap xs) (hb:base≤w.heap.size) (hO:xs.length≤4000000000000)
    {ops:Array Oper} {rest:List Oper} {op:Oper} {A:Act} {Q:Exit→Act→World→Prop} (hgd:op.guard=none) (s x:Operand)
    (ho:op.op=.call { callee:=.builtin .append,args:=#[s,x],argTypes:=#[109,109] }) (u:ByteArray) (hs:A.eval s=.slice ad xs.length cap) (hx:A.eval x=.slice (some ⟨w.heap.size,0,none⟩) 1 1)
    (hK:∀ ad' cap' w',OwnT base w' ad' cap' (xs ++ [u])→Frm (At ad) w w'→(∀ k,At ad' k→At ad k∨w.heap.size < k)→wpList Tryz.prog ops Q rest (A.put op.dst (.slice ad' (xs ++ [u]).length cap')) w') :
    wpList Tryz.prog ops Q (op :: rest) A (w.alloc (.cells #[.string u] 9)):=by
  refine wp_one oneText h (textCells_length xs) hb hO hgd s x ho (.string u) rfl hs hx fun ad' cap' w' hown hf hn => ?_
  have hl:(xs ++ [u]).length=xs.length + 1:=by simp
  have:=hK ad' cap' w' (by unfold OwnT;rw [hl,textCells_append];exact hown) hf hn
  rwa [hl] at this
end Go.Proofs.YtfbmlefhjoblbaaGreat
