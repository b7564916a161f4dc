/- Spaces and remarks left out: a claim is at most so large. -/
import Derived.Test.YtfbmlefhjoblbaaGreatValLGz
import Derived.Test.YtfbmlefhjoblbaaGreatNPFileGetsGz8
import Derived.Test.YtfbmlefhjoblbaaGreatStatLGz
import Derived.Laws.MakeOwn
import Derived.Deep.Strs
import Derived.ChangeSame
namespace Go.Proofs.YtfbmlefhjoblbaaGreat
open Go.Conc Go.RowKit
set_option linter.unusedVariables false
set_option linter.unusedSimpArgs false
def rowS (vs:List S):List Value:=vs.flatMap S.cells
def zSVal:Value:=.agg #[.int .i64 0,.int .i64 0,.int .i64 0,.int .i64 0,.bool false,.string ByteArray.empty,.int .i64 0,.int .i64 0,.bool false,.string ByteArray.empty]
theorem infoS:(Tryz.prog.info? 77).map (fun i => (i.zero,i.size,i.bytes))=some (some zSVal,10,96):=by kernel_rfl
theorem stat_cells_length (v:S):v.cells.length=10:=rfl
theorem rowS_cons (v:S) (vs:List S):rowS (v :: vs)=v.cells ++ rowS vs:=by simp [rowS]
theorem rowS_append (a b:List S):rowS (a ++ b)=rowS a ++ rowS b:=by simp [rowS]
theorem rowS_length (vs:List S):(rowS vs).length=vs.length * 10:=by
  induction vs with
  | nil => rfl
  | cons v vs ih => rw [rowS_cons,List.length_append,stat_cells_length,ih,List.length_cons];omega
theorem rowS_cells (vs:List S):∀ u ∈ rowS vs,u.oneCell'=true:=by
  intro u hu
  simp only [rowS,List.mem_flatMap] at hu
  obtain ⟨v,_,hu⟩:=hu
  simp only [S.cells,List.mem_cons,List.not_mem_nil,or_false] at hu
  rcases hu with rfl | rfl | rfl | rfl | rfl | rfl | rfl | rfl | rfl | rfl <;> rfl
theorem rowS_at:∀ (vs:List S) (n m:Nat) (h:n < vs.length) (hm:m < 10),(rowS vs)[n * 10 + m]? = vs[n].cells[m]?
  | v :: vs,0,m,_,hm => by
    rw [rowS_cons,Nat.zero_mul,Nat.zero_add,List.getElem?_append_left (by rw [stat_cells_length];exact hm)];rfl
  | v :: vs,n + 1,m,h,hm => by
    rw [rowS_cons,List.getElem?_append_right (by rw [stat_cells_length];omega),stat_cells_length,show (n + 1) * 10 + m - 10=n * 10 + m by omega]
    exact rowS_at vs n m (by simpa using h) hm
structure SAt (w:World) (b o:Nat) (v:S):Prop where
  c0:w.cell? ⟨b,o,none⟩=some (.int .i64 v.c)
  c1:w.cell? ⟨b,o + 1,none⟩=some (.int .i64 v.n)
  c2:w.cell? ⟨b,o + 2,none⟩=some (.int .i64 v.lo.k)
  c3:w.cell? ⟨b,o + 3,none⟩=some (.int .i64 v.lo.i)
  c4:w.cell? ⟨b,o + 4,none⟩=some (.bool v.lo.b)
  c5:w.cell? ⟨b,o + 5,none⟩=some (.string v.lo.s)
  c6:w.cell? ⟨b,o + 6,none⟩=some (.int .i64 v.hi.k)
  c7:w.cell? ⟨b,o + 7,none⟩=some (.int .i64 v.hi.i)
  c8:w.cell? ⟨b,o + 8,none⟩=some (.bool v.hi.b)
  c9:w.cell? ⟨b,o + 9,none⟩=some (.string v.hi.s)
theorem SAt.block {w w':World} {b o:Nat} {v:S} (h:SAt w b o v) (hb:w'.heap[b]? = w.heap[b]?):SAt w' b o v :=
  ⟨(World.cell?_of_block hb).trans h.c0,(World.cell?_of_block hb).trans h.c1,(World.cell?_of_block hb).trans h.c2,(World.cell?_of_block hb).trans h.c3,(World.cell?_of_block hb).trans h.c4,(World.cell?_of_block hb).trans h.c5,(World.cell?_of_block hb).trans h.c6,(World.cell?_of_block hb).trans h.c7,(World.cell?_of_block hb).trans h.c8,(World.cell?_of_block hb).trans h.c9⟩
theorem SAt.lt {w:World} {b o:Nat} {v:S} (h:SAt w b o v):b < w.heap.size:=World.block_lt_of_cell? w ⟨b,o,none⟩ h.c0
theorem SAt.below {w w':World} {b o:Nat} {v:S} (h:SAt w b o v) (hb:Below w.heap.size w w'):SAt w' b o v:=h.block (hb.block b h.lt)
def IsS (w:World) (a:Option Addr) (vs:List S):Prop :=
  vs=[]∨∃ b off,a=some ⟨b,off,none⟩∧∀ i (h:i < vs.length),SAt w b (off + i * 10) vs[i]
theorem IsS.keep {w w':World} {a:Option Addr} {vs:List S} (h:IsS w a vs) (hk:∀ b,some b=(a.map (·.block))→w'.heap[b]? = w.heap[b]?):IsS w' a vs:=by
  rcases h with h | ⟨b,off,rfl,h⟩
  · exact .inl h
  · exact .inr ⟨b,off,rfl,fun i hi => (h i hi).block (hk b rfl)⟩
theorem IsS.below {w w':World} {a:Option Addr} {vs:List S} (h:IsS w a vs) (hb:Below w.heap.size w w'):IsS w' a vs:=by
  rcases h with h | ⟨b,off,rfl,h⟩
  · exact .inl h
  · exact .inr ⟨b,off,rfl,fun i hi => (h i hi).below hb⟩
theorem IsS.take {w:World} {a:Option Addr} {vs:List S} (h:IsS w a vs) (n:Nat):IsS w a (vs.take n):=by
  rcases h with rfl | ⟨b,off,rfl,h⟩
  · exact .inl (by simp)
  · refine .inr ⟨b,off,rfl,fun i hi => ?_⟩
    rw [List.length_take] at hi
    rw [List.getElem_take]
    exact h i (by omega)
theorem IsS.cells {w:World} {b off:Nat} {vs:List S} (h:∀ i (h:i < vs.length),SAt w b (off + i * 10) vs[i]):∀ j u,(rowS vs)[j]? = some u→w.cell? ((⟨b,off,none⟩:Addr).add j)=some u:=by
  intro j u hj
  have hl:j < vs.length * 10:=by have:=(List.getElem?_eq_some_iff.1 hj).1;rwa [rowS_length] at this
  have hn:j / 10 < vs.length:=by omega
  have h4:j % 10 < 10:=Nat.mod_lt _ (by omega)
  have e:j / 10 * 10 + j % 10=j:=by omega
  rw [← e,rowS_at vs (j / 10) (j % 10) hn h4] at hj
  have hv:=h (j / 10) hn
  rw [addr_off]
  generalize vs[j / 10]=v at *
  rcases (show j % 10=0∨j % 10=1∨j % 10=2∨j % 10=3∨j % 10=4∨j % 10=5∨j % 10=6∨j % 10=7∨j % 10=8∨j % 10=9 by omega) with e4 | e4 | e4 | e4 | e4 | e4 | e4 | e4 | e4 | e4
  all_goals
    rw [e4] at hj
    simp only [S.cells,List.getElem?_cons_zero,List.getElem?_cons_succ,Option.some.injEq] at hj
    subst hj
  · have:=hv.c0;rwa [show off + j / 10 * 10=off + j by omega] at this
  · have:=hv.c1;rwa [show off + j / 10 * 10 + 1=off + j by omega] at this
  · have:=hv.c2;rwa [show off + j / 10 * 10 + 2=off + j by omega] at this
  · have:=hv.c3;rwa [show off + j / 10 * 10 + 3=off + j by omega] at this
  · have:=hv.c4;rwa [show off + j / 10 * 10 + 4=off + j by omega] at this
  · have:=hv.c5;rwa [show off + j / 10 * 10 + 5=off + j by omega] at this
  · have:=hv.c6;rwa [show off + j / 10 * 10 + 6=off + j by omega] at this
  · have:=hv.c7;rwa [show off + j / 10 * 10 + 7=off + j by omega] at this
  · have:=hv.c8;rwa [show off + j / 10 * 10 + 8=off + j by omega] at this
  · have:=hv.c9;rwa [show off + j / 10 * 10 + 9=off + j by omega] at this
theorem IsS.of_cells {w:World} {b off:Nat} {vs:List S} (h:∀ j u,(rowS vs)[j]? = some u→w.cell? ((⟨b,off,none⟩:Addr).add j)=some u):∀ i (h:i < vs.length),SAt w b (off + i * 10) vs[i]:=by
  intro i hi
  have g:∀ m,m < 10→∀ u,vs[i].cells[m]? = some u→w.cell? ⟨b,off + i * 10 + m,none⟩=some u:=fun m hm u hu => by
    have:=h (i * 10 + m) u (by rw [rowS_at vs i m hi hm];exact hu)
    rwa [addr_off,← Nat.add_assoc] at this
  exact ⟨g 0 (by omega) _ rfl,g 1 (by omega) _ rfl,g 2 (by omega) _ rfl,g 3 (by omega) _ rfl,g 4 (by omega) _ rfl,g 5 (by omega) _ rfl,g 6 (by omega) _ rfl,g 7 (by omega) _ rfl,g 8 (by omega) _ rfl,g 9 (by omega) _ rfl⟩
theorem IsS.get {w:World} {a:Option Addr} {xs:List S} (h:IsS w a xs) {n:Nat} (hn:n < xs.length):∃ b off,a=some ⟨b,off,none⟩∧SAt w b (off + n * 10) (xs.getD n zeroS):=by
  rcases h with h | ⟨b,off,rfl,hc⟩
  · subst h;simp at hn
  · exact ⟨b,off,rfl,by rw [getD_in hn];exact hc n hn⟩
def OwnS (base:Nat) (w:World) (a:Option Addr) (cap:Nat) (vs:List S):Prop:=w.ownsRow base 77 10 (.slice a vs.length cap) vs.length (rowS vs)
theorem OwnS.isX {base:Nat} {w:World} {a:Option Addr} {cap:Nat} {vs:List S} (h:OwnS base w a cap vs):IsS w a vs:=by
  by_cases c:vs=[]
  · exact .inl c
  · rcases h.2 with ⟨hv,h0⟩ | ⟨g,cp,cur,hv,hb,rest⟩
    · exact absurd (List.eq_nil_of_length_eq_zero h0) c
    · obtain rfl:a=some ⟨g,0,none⟩:=by injection hv
      exact .inr ⟨g,0,rfl,IsS.of_cells (h.cells (g:=g) rfl)⟩
theorem OwnS.same {base:Nat} {w w':World} {a:Option Addr} {cap:Nat} {vs:List S} (h:OwnS base w a cap vs) (hs:∀ g,base≤g→g < w.heap.size→w'.heap[g]? = w.heap[g]?):OwnS base w' a cap vs:=own_same h hs
theorem OwnS.below {base:Nat} {w w':World} {a:Option Addr} {cap:Nat} {vs:List S} (h:OwnS base w a cap vs) (hb:Below w.heap.size w w'):OwnS base w' a cap vs:=own_same h fun g _ hg => hb.block g hg
theorem OwnS.lower {base base':Nat} {w:World} {a:Option Addr} {cap:Nat} {vs:List S} (h:OwnS base w a cap vs) (hb:base'≤base):OwnS base' w a cap vs:=own_lower h hb
theorem OwnS.nil (base:Nat) (w:World):OwnS base w none 0 []:=World.ownsRow_nil _ _ _ _
theorem OwnS.alloc {base:Nat} {w:World} {ad:Option Addr} {cap:Nat} {vs:List S} (h:OwnS base w ad cap vs) (ob:Obj):OwnS base (w.alloc ob) ad cap vs:=own_same h fun k _ hk => Below.heap_alloc w ob k hk
theorem OwnS.block {base:Nat} {w:World} {a:Option Addr} {cap:Nat} {vs:List S} (h:OwnS base w a cap vs):(a=none∧cap=0∧vs=[])∨∃ g,a=some ⟨g,0,none⟩∧base≤g∧g < w.heap.size∧vs.length≤cap∧∃ cur,w.heap[g]? = some (.cells cur 77 (0,0))∧cur.size=cap * 10:=by
  rcases h.2 with ⟨hv,h0⟩ | ⟨g,cp,cur,hv,hb,hg,hn,hm,hs,ht⟩
  · injection hv with h1 h2 h3
    exact .inl ⟨h1,h3,List.eq_nil_of_length_eq_zero h0⟩
  · injection hv with h1 h2 h3
    subst h1 h3
    exact .inr ⟨g,rfl,hb,(Array.getElem?_eq_some_iff.1 hg).1,hn,cur,hg,hs⟩
theorem OwnS.frm {base cap:Nat} {w w':World} {a:Option Addr} {xs:List S} {F:Nat→Prop} (h:OwnS base w a cap xs) (hf:Frm F w w') (hF:∀ k,At a k→k < w.heap.size→¬ F k):OwnS base w' a cap xs:=own_by h hf hF
theorem OwnS.at_ge {base cap:Nat} {w:World} {a:Option Addr} {xs:List S} (h:OwnS base w a cap xs) {k:Nat} (hk:At a k):base≤k∧k < w.heap.size:=by
  rcases h.block with ⟨rfl,_⟩ | ⟨g,rfl,hg,hl,_⟩
  · simp [At] at hk
  · simp [At] at hk;omega
theorem OwnS.cap {base cap:Nat} {w:World} {a:Option Addr} {xs:List S} (h:OwnS base w a cap xs):xs.length≤cap:=by
  rcases h.block with ⟨_,rfl,rfl⟩ | ⟨g,_,_,_,hc,_⟩
  · simp
  · exact hc
theorem OwnS.there {base cap:Nat} {w:World} {a:Option Addr} {xs:List S} (h:OwnS base w a cap xs) (hx:xs ≠ []):∃ g,a=some ⟨g,0,none⟩:=by
  rcases h.block with ⟨_,_,h0⟩ | ⟨g,rfl,_⟩
  · exact absurd h0 hx
  · exact ⟨g,rfl⟩
theorem OwnS.get {base cap g:Nat} {w:World} {xs:List S} (h:OwnS base w (some ⟨g,0,none⟩) cap xs) (j:Nat) (hj:j < xs.length):SAt w g (j * 10) xs[j]:=by
  rcases h.isX with h0 | ⟨b,off,e,hv⟩
  · subst h0;simp at hj
  · injection e with e
    injection e with e1 e2 _
    subst e1 e2
    have:=hv j hj
    rwa [Nat.zero_add] at this
theorem stat_cells (w:World) (v:S):∀ j u,(rowS [v])[j]? = some u→(w.alloc (.cells #[.int .i64 v.c,.int .i64 v.n,.int .i64 v.lo.k,.int .i64 v.lo.i,.bool v.lo.b,.string v.lo.s,.int .i64 v.hi.k,.int .i64 v.hi.i,.bool v.hi.b,.string v.hi.s] 77)).cell? ((⟨w.heap.size,0,none⟩:Addr).add j)=some u:=by
  have hb:(w.alloc (.cells #[.int .i64 v.c,.int .i64 v.n,.int .i64 v.lo.k,.int .i64 v.lo.i,.bool v.lo.b,.string v.lo.s,.int .i64 v.hi.k,.int .i64 v.hi.i,.bool v.hi.b,.string v.hi.s] 77)).heap[w.heap.size]? = some (.cells #[.int .i64 v.c,.int .i64 v.n,.int .i64 v.lo.k,.int .i64 v.lo.i,.bool v.lo.b,.string v.lo.s,.int .i64 v.hi.k,.int .i64 v.hi.i,.bool v.hi.b,.string v.hi.s] 77 (0,0)):=heap_alloc_new w _
  intro j u hj
  rw [addr_off,Nat.zero_add,cell_of_row _ _ _ _ _ _ hb]
  simpa [rowS,S.cells] using hj
theorem run_append_stat (w:World) (base:Nat) (hbase:base≤w.heap.size) (v:Value) (n:Nat) (xs p:List Value) (hown:w.ownsRow base 77 10 v n xs) (hxl:xs.length=n * 10) (hl:n≤1466015503700) (hp:p.length=10) (hp1:∀ u ∈ p,u.oneCell'=true)
    (a:Addr) (c:Nat) (hnews:∀ j u,p[j]? = some u→w.cell? (a.add j)=some u) :
    ∃ v' w',(∀ ty,(Builtin.append_ #[65,65] ty #[v,.slice (some a) 1 c]).run Tryz.prog w=.ok v' w')∧w'.ownsRow base 77 10 v' (n + 1) (xs ++ p)∧w.grownBy w' v.ownBlock∧(∀ k,v'.ownBlock=some k→v.ownBlock=some k∨w.heap.size≤k):=by
  obtain ⟨i0,hi,hz0,hz1,hz2⟩:=info_parts infoS
  have hpl:p.length=1 * i0.size:=by rw [hz1,hp]
  have hpx:(xs ++ p).length=(n + 1) * 10:=by rw [List.length_append,hxl,hp];omega
  have grown:∀ (old:Nat),old < n + 1 →
      (w.drew.alloc (.cells (xs.toArray ++ p.toArray ++ Builtin.zeroCells (zSVal).cells (grownCap w (n + 1) old 77 - (n + 1))) 77)).ownsRow base 77 10
        (.slice (some ⟨w.heap.size,0,none⟩) (n + 1) (grownCap w (n + 1) old 77)) (n + 1) (xs ++ p):=by
    intro old ho
    have hge:=grownCap_ge w (n + 1) old 77
    have hcm:grownCap w (n + 1) old 77≤maxLen:=grownCap_le_maxLen w (n + 1) old 77 (by simp only [maxLen];omega)
    refine ⟨hpx,.inr ⟨w.heap.size,_,_,rfl,hbase,heap_alloc_new w.drew _,hge,hcm,?_,?_⟩⟩
    · simp only [Array.size_append,List.size_toArray,size_zeroCells,hxl,hp]
      have hz3:(zSVal).cells.size=10:=rfl
      rw [hz3]
      omega
    · simp only [Array.toList_append]
      rw [show (xs ++ p ++ (Builtin.zeroCells (zSVal).cells (grownCap w (n + 1) old 77 - (n + 1))).toList)=(xs ++ p) ++ (Builtin.zeroCells (zSVal).cells (grownCap w (n + 1) old 77 - (n + 1))).toList from rfl,← hpx]
      exact List.take_left
  rcases hown.2 with ⟨rfl,h0⟩ | ⟨g,cap,cur,rfl,hb,hgg,hnc,hcm,hcs,htake⟩
  · have e0:xs=[]:=List.eq_nil_of_length_eq_zero (by omega)
    subst e0 h0
    have gr:=grown 0 (by omega)
    refine ⟨_,_,fun ty => run_append_nil w 65 ty 77 i0 (zSVal) Tryz.underlying65 hi hz0 a 1 c p hpl hnews (by omega) (by omega) (by rw [hz2];omega),by simpa using gr,⟨rfl,rfl,rfl,by simp,fun k hk _ => Below.heap_alloc w.drew _ k hk⟩,?_⟩
    intro k hk
    simp [Value.ownBlock] at hk
    exact .inr (by omega)
  · by_cases hroom:n + 1≤cap
    · have hfit:n * i0.size + p.length≤cur.size:=by rw [hcs,hz1,hp];omega
      have hlt:(cur.toList.take (n * 10) ++ p).length=(n + 1) * 10:=by rw [htake];exact hpx
      refine ⟨_,_,fun ty => run_append_room w 65 ty 77 i0 Tryz.underlying65 hi g n cap cur hgg a 1 c p hpl hnews hp1 hroom hfit,⟨hpx,.inr ⟨g,cap,_,rfl,hb,setRow_heap w g cur _ 77 _ hgg,by omega,hcm,?_,?_⟩⟩,⟨rfl,rfl,rfl,by simp,fun k _ hk => setRow_other w g k _ (fun e => hk (by rw [e];rfl))⟩,fun k hk => .inl hk⟩
      · simp only [List.size_toArray,List.length_append,List.length_take,List.length_drop,Array.length_toList]
        omega
      · rw [hz1,← htake,List.append_assoc]
        rw [← List.append_assoc,← hlt]
        exact List.take_left
    · have hr:=fun ty => run_append_grow (P:=Tryz.prog) w 65 ty 77 i0 (zSVal) Tryz.underlying65 hi hz0 ⟨g,0,none⟩ n cap xs (by rw [hz1];exact hxl) (hown.cells (g:=g) rfl) a 1 c p hpl hnews (by omega) (by omega) (growslice_fits (by omega) (by rw [hz2];omega))
      refine ⟨_,_,hr,grown cap (by omega),⟨rfl,rfl,rfl,by simp,fun k hk _ => Below.heap_alloc w.drew _ k hk⟩,?_⟩
      intro k hk
      simp [Value.ownBlock] at hk
      exact .inr (by omega)
theorem wp_stat {base:Nat} {w:World} {ad:Option Addr} {cap:Nat} {xs:List S} (h:OwnS base w ad cap xs) (hb:base≤w.heap.size) (hO:xs.length≤1466015503700) {ops:Array Oper} {rest:List Oper} {op:Oper} {A:Act} {Q:Exit→Act→World→Prop} (hgd:op.guard=none) (sl x:Operand)
    (ho:op.op=.call { callee:=.builtin .append,args:=#[sl,x],argTypes:=#[65,65] }) (v:S) (hs:A.eval sl=.slice ad xs.length cap) (hx:A.eval x=.slice (some ⟨w.heap.size,0,none⟩) 1 1)
    (hK:∀ ad' cap' w',OwnS base w' ad' cap' (xs ++ [v])→Frm (At ad) w w'→(∀ k,At ad' k→At ad k∨w.heap.size < k)→wpList Tryz.prog ops Q rest (A.put op.dst (.slice ad' (xs ++ [v]).length cap')) w'):wpList Tryz.prog ops Q (op :: rest) A (w.alloc (.cells #[.int .i64 v.c,.int .i64 v.n,.int .i64 v.lo.k,.int .i64 v.lo.i,.bool v.lo.b,.string v.lo.s,.int .i64 v.hi.k,.int .i64 v.hi.i,.bool v.hi.b,.string v.hi.s] 77)):=by
  have ha:=h.alloc (.cells #[.int .i64 v.c,.int .i64 v.n,.int .i64 v.lo.k,.int .i64 v.lo.i,.bool v.lo.b,.string v.lo.s,.int .i64 v.hi.k,.int .i64 v.hi.i,.bool v.hi.b,.string v.hi.s] 77)
  obtain ⟨v',w',hr,hown,hgrow,hnew⟩:=run_append_stat _ base (Nat.le_trans hb (by simp)) (.slice ad xs.length cap) xs.length (rowS xs) (rowS [v]) ha (rowS_length xs) hO (by rw [rowS_length];rfl) (rowS_cells _) ⟨w.heap.size,0,none⟩ 1 (stat_cells w v)
  obtain ⟨ad',cap',rfl⟩:=own_form hown
  have hl:(xs ++ [v]).length=xs.length + 1:=by simp
  have ho':OwnS base w' ad' cap' (xs ++ [v]):=by
    unfold OwnS
    rw [hl,rowS_append]
    exact hown
  have:=hK ad' cap' w' ho' (grown_frm _ hgrow (own_head h)) (grown_new _ (own_head h) (own_head hown) hnew)
  rw [hl] at this
  exact wpV_append_eq _ hgd sl x 65 65 ho _ _ hs hx (hr _) this
set_option maxRecDepth 100000 in
set_option maxHeartbeats 1000000 in
theorem samestats_any (w:World) (a b:Option Addr) (ca cb:Nat) (xs ys:List S) (ha:IsS w a xs) (hb:IsS w b ys) (hx:xs.length≤maxLen) :
    Calls Tryz.prog 40 #[.slice a xs.length ca,.slice b ys.length cb] w fun e w' => e=.returned (.bool (decide (xs=ys)))∧Below w.heap.size w w':=by
  unfold maxLen at hx
  by_cases hn:xs.length=ys.length
  · have hd:∀ n,n≤xs.length→xs.take n=ys.take n→(xs=ys ↔ xs.drop n=ys.drop n):=fun n _ h => by
      constructor
      · intro e;rw [e]
      · intro e;rw [← List.take_append_drop n xs,← List.take_append_drop n ys,h,e]
    obtain ⟨R,hR⟩:∃ R,R=decide (xs=ys):=⟨_,rfl⟩
    rw [← hR]
    rw [← hn]
    have HN:=Lib.hid hn
    have HR:=Lib.hid hR
    have HD:=Lib.hid hd
    clear hn hR hd
    go_enter Tryz.func40,Tryz.ntmps40
    go_wp2
    go_loopw [5] (fun iv wr => ∃ n:Nat,n≤xs.length∧iv=.int .i64 n∧Hid (xs.take n=ys.take n)∧Hid (Below w.heap.size w wr)) (fun iv _ => xs.length - (intOf iv).toNat)
    case atStart => exact ⟨0,Nat.zero_le _,rfl,rfl,Below.refl _ _⟩
    case round =>
      obtain ⟨n,hle,rfl,HT,HB⟩:=hrel
      by_cases c:n < xs.length
      · have hne:xs ≠ []:=fun e => by rw [e] at c;simp at c
        have hney:ys ≠ []:=fun e => by have:=HN.out;rw [e] at this;simp at this;rw [this] at c;simp at c
        rcases ha with ha | ⟨ba,oa,rfl,ha⟩
        · exact absurd ha hne
        rcases hb with hb | ⟨bb,ob,rfl,hb⟩
        · exact absurd hb hney
        have cy:n < ys.length:=by have:=HN.out;omega
        have h1:=(ha n c).below HB.out
        have h2:=(hb n cy).below HB.out
        have hx1:xs.drop n=xs[n] :: xs.drop (n + 1):=List.drop_eq_getElem_cons c
        have hy1:ys.drop n=ys[n] :: ys.drop (n + 1):=List.drop_eq_getElem_cons cy
        have hx2:xs.take (n + 1)=xs.take n ++ [xs[n]]:=(List.take_append_getElem c).symm
        have hy2:ys.take (n + 1)=ys.take n ++ [ys[n]]:=(List.take_append_getElem cy).symm
        have HE:=Lib.hid (HD.out n (by omega) HT.out)
        have HX1:=Lib.hid hx1
        have HY1:=Lib.hid hy1
        have HX2:=Lib.hid hx2
        have HY2:=Lib.hid hy2
        have hcy:(n:Int) < (ys.length:Int):=by omega
        clear hx1 hy1 hx2 hy2 ha hb hne hney
        generalize xs[n]=x at *
        generalize ys[n]=y at *
        obtain ⟨p0,p1,p2,p3,p4,p5,p6,p7,p8,p9⟩:=h1
        obtain ⟨q0,q1,q2,q3,q4,q5,q6,q7,q8,q9⟩:=h2
        have hq:=run_neq_stat x y
        by_cases e:x=y
        · simp only [decide_eq_true e,Bool.not_true] at hq
          have HQE:=Lib.hid e
          clear e
          go_wp2
          go_quiet (fail)
          go_wp2
          go_roundw
          case rel => exact ⟨n + 1,by omega,by go_num,Lib.hid (by rw [HX2.out,HY2.out,HT.out,HQE.out]),bel_drew HB.out _⟩
          case measure => simp [intOf];omega
        · have hf:R=false:=by
            rw [HR.out,decide_eq_false_iff_not,HE.out,HX1.out,HY1.out]
            intro k
            injection k with k1 k2
            exact e k1
          subst hf
          simp only [decide_eq_false e,Bool.not_false] at hq
          clear e
          go_wp2
          go_quiet (fail)
          go_wp2
          go_ret
          exact ⟨rfl,bel_drew HB.out _⟩
      · obtain rfl:n=xs.length:=by omega
        have ht:R=true:=by
          have h1:=HT.out
          rw [List.take_length,HN.out,List.take_length] at h1
          rw [HR.out,h1];simp
        subst ht
        clear c
        go_wp2
        go_ret
        exact ⟨rfl,HB.out⟩
  · have hne:((xs.length:Int) != (ys.length:Int))=true:=by simp;omega
    have hf:decide (xs=ys)=false:=decide_eq_false fun e => hn (by rw [e])
    rw [hf]
    go_enter Tryz.func40,Tryz.ntmps40
    go_wp2
    go_ret
    exact ⟨rfl,Below.refl _ _⟩
end Go.Proofs.YtfbmlefhjoblbaaGreat
