/- Spaces and remarks left out: a claim is at most so large. Spaces and remarks left out: a claim is at most so large. -/
import Derived.Test.YtfbmlefhjoblbaaGreatValLGz
import Derived.Laws.MakeOwn
import Derived.Deep.Strs
import Derived.ChangeSame
namespace Go.Proofs.YtfbmlefhjoblbaaGreat
open Go.Conc Go.RowKit
set_option linter.unusedVariables false
def markV:V:=⟨77777,0,false,ByteArray.empty⟩
set_option maxRecDepth 100000 in
theorem spoilvals_any (w:World) (a:Option Addr) (c base:Nat) (xs:List V) (h:OwnV base w a c xs) (hx:xs.length≤maxLen) :
    Calls Tryz.prog 26 #[.slice a xs.length c] w fun e w' => e=.returned (.tuple #[])∧Frm (fun k => some k=a.map (·.block)) w w':=by
  unfold maxLen at hx
  rcases h.block with ⟨rfl,rfl,rfl⟩ | ⟨g,rfl,_,hg,hc,cur,hcur,hsz⟩
  · clear h
    go_enter Tryz.func26,Tryz.ntmps26
    go_wp2
    go_loop [2] (fun iv => iv=.int .i64 0) (fun _ => 0)
    case atStart => rfl
    case round =>
      subst hrel
      go_wp2
      go_end0
      exact ⟨rfl,Frm.refl _ _⟩
  · have hi:∀ i,i < xs.length→∃ z,cur[i * 4 + 1]? = some (.int .i64 z):=by
      intro i hi
      rcases h.isV with h | ⟨b,off,e,h⟩
      · subst h;simp at hi
      · injection e with e
        injection e with e1 e2 e3
        subst e1 e2
        have:=(h i hi).c1
        rw [Nat.zero_add,cell_of_row _ _ _ _ _ _ hcur] at this
        exact ⟨_,this⟩
    have HI:=Lib.hid hi
    have HC:=Lib.hid hcur
    clear hi hcur h
    go_enter Tryz.func26,Tryz.ntmps26
    go_wp2
    go_loopw [2] (fun iv wr => ∃ n:Nat,n≤xs.length∧iv=.int .i64 n∧Hid (Frm (fun k => some k=(some (⟨g,0,none⟩:Addr)).map (·.block)) w wr)∧Hid (∃ cur,wr.heap[g]? = some (.cells cur 24 (0,0))∧∀ i,i < xs.length→∃ z,cur[i * 4 + 1]? = some (.int .i64 z))) (fun iv _ => xs.length - (intOf iv).toNat)
    case atStart => exact ⟨0,Nat.zero_le _,rfl,Frm.refl _ _,cur,HC.out,HI.out⟩
    case round =>
      obtain ⟨n,hle,rfl,HF,hcur2⟩:=hrel
      by_cases cn:n < xs.length
      · obtain ⟨cr,hcr,hall⟩:=hcur2
        obtain ⟨z,hz⟩:=hall n cn
        have hce:=(cell_of_row wr g (n * 4 + 1) _ _ _ hcr).trans hz
        have hfz:=frozen_of_row wr g (n * 4 + 1) _ _ hcr
        have HA:=Lib.hid hall
        have HCR:=Lib.hid hcr
        have hns:n * 4 + 1 < cr.size:=(Array.getElem?_eq_some_iff.1 hz).1
        clear hall hcr hz
        go_wp2
        go_roundw
        case rel =>
          refine ⟨n + 1,by omega,by go_num,HF.out.setCell (p:=⟨g,n * 4 + 1,none⟩) rfl _,_,heap_setCell_same _ _ _ _ _ _ HCR.out,fun i hi => ?_⟩
          rw [Array.getElem?_setIfInBounds]
          by_cases e:n * 4 + 1=i * 4 + 1
          · rw [if_pos e,if_pos hns];exact ⟨_,rfl⟩
          · rw [if_neg e];exact HA.out i hi
        case measure => simp [intOf];omega
      · obtain rfl:n=xs.length:=by omega
        clear cn
        go_wp2
        go_end0
        exact ⟨rfl,HF.out⟩
end Go.Proofs.YtfbmlefhjoblbaaGreat

namespace Go.Proofs.YtfbmlefhjoblbaaGreat
open Go.Conc Go.RowKit
set_option linter.unusedVariables false
set_option linter.unusedSimpArgs false
structure Co where
  id:Int
  nm:ByteArray
  kd:Int
def Co.cells (v:Co):List Value:=[.int .i64 v.id,.string v.nm,.int .i64 v.kd]
def rowCo (vs:List Co):List Value:=vs.flatMap Co.cells
def zCoVal:Value:=.agg #[.int .i64 0,.string ByteArray.empty,.int .i64 0]
def zeroCo:Co:=⟨0,ByteArray.empty,0⟩
theorem infoCo:(Tryz.prog.info? 80).map (fun i => (i.zero,i.size,i.bytes))=some (some zCoVal,3,32):=by kernel_rfl
theorem co_cells_length (v:Co):v.cells.length=3:=rfl
theorem rowCo_cons (v:Co) (vs:List Co):rowCo (v :: vs)=v.cells ++ rowCo vs:=by simp [rowCo]
theorem rowCo_append (a b:List Co):rowCo (a ++ b)=rowCo a ++ rowCo b:=by simp [rowCo]
theorem rowCo_length (vs:List Co):(rowCo vs).length=vs.length * 3:=by
  induction vs with
  | nil => rfl
  | cons v vs ih => rw [rowCo_cons,List.length_append,co_cells_length,ih,List.length_cons];omega
theorem rowCo_cells (vs:List Co):∀ u ∈ rowCo vs,u.oneCell'=true:=by
  intro u hu
  simp only [rowCo,List.mem_flatMap] at hu
  obtain ⟨v,_,hu⟩:=hu
  simp only [Co.cells,List.mem_cons,List.not_mem_nil,or_false] at hu
  rcases hu with rfl | rfl | rfl <;> rfl
theorem rowCo_at:∀ (vs:List Co) (n m:Nat) (h:n < vs.length) (hm:m < 3),(rowCo vs)[n * 3 + m]? = vs[n].cells[m]?
  | v :: vs,0,m,_,hm => by
    rw [rowCo_cons,Nat.zero_mul,Nat.zero_add,List.getElem?_append_left (by rw [co_cells_length];exact hm)];rfl
  | v :: vs,n + 1,m,h,hm => by
    rw [rowCo_cons,List.getElem?_append_right (by rw [co_cells_length];omega),co_cells_length,show (n + 1) * 3 + m - 3=n * 3 + m by omega]
    exact rowCo_at vs n m (by simpa using h) hm
def sameCo (o p:Co):Bool:=(o.id == p.id) && ((o.nm.toList == p.nm.toList) && ((o.kd == p.kd)))
theorem sameCo_iff (o p:Co):sameCo o p=true ↔ o=p:=by
  cases o;cases p
  simp only [sameCo,Bool.and_eq_true,beq_iff_eq,Co.mk.injEq]
  constructor
  · rintro ⟨h0,h1,h2⟩
    exact ⟨h0,text_inj h1,h2⟩
  · rintro ⟨rfl,rfl,rfl⟩
    exact ⟨rfl,rfl,rfl⟩
instance instDecCo:DecidableEq Co:=fun a b => if h:sameCo a b=true then isTrue ((sameCo_iff a b).1 h) else isFalse fun e => h ((sameCo_iff a b).2 e)
theorem sameCo_dec (o p:Co):sameCo o p=decide (o=p):=by
  by_cases e:o=p
  · rw [decide_eq_true e];exact (sameCo_iff o p).2 e
  · rw [decide_eq_false e]
    cases h:sameCo o p with
    | false => rfl
    | true => exact absurd ((sameCo_iff o p).1 h) e
theorem run_neq_co (o p:Co) (w:World):(binOp .neq 80 (.agg #[.int .i64 o.id,.string o.nm,.int .i64 o.kd]) (.agg #[.int .i64 p.id,.string p.nm,.int .i64 p.kd])).run Tryz.prog w=.ok (.bool (!decide (o=p))) w:=by
  rw [← sameCo_dec]
  unfold sameCo
  cases h0:(o.id == p.id)
  · go_simp
  cases h1:(o.nm.toList == p.nm.toList)
  · go_simp
  cases h2:(o.kd == p.kd)
  · go_simp
  go_simp
structure CoAt (w:World) (b o:Nat) (v:Co):Prop where
  c0:w.cell? ⟨b,o,none⟩=some (.int .i64 v.id)
  c1:w.cell? ⟨b,o + 1,none⟩=some (.string v.nm)
  c2:w.cell? ⟨b,o + 2,none⟩=some (.int .i64 v.kd)
theorem CoAt.block {w w':World} {b o:Nat} {v:Co} (h:CoAt w b o v) (hb:w'.heap[b]? = w.heap[b]?):CoAt w' b o v :=
  ⟨(World.cell?_of_block hb).trans h.c0,(World.cell?_of_block hb).trans h.c1,(World.cell?_of_block hb).trans h.c2⟩
theorem CoAt.lt {w:World} {b o:Nat} {v:Co} (h:CoAt w b o v):b < w.heap.size:=World.block_lt_of_cell? w ⟨b,o,none⟩ h.c0
theorem CoAt.below {w w':World} {b o:Nat} {v:Co} (h:CoAt w b o v) (hb:Below w.heap.size w w'):CoAt w' b o v:=h.block (hb.block b h.lt)
def IsCo (w:World) (a:Option Addr) (vs:List Co):Prop :=
  vs=[]∨∃ b off,a=some ⟨b,off,none⟩∧∀ i (h:i < vs.length),CoAt w b (off + i * 3) vs[i]
theorem IsCo.keep {w w':World} {a:Option Addr} {vs:List Co} (h:IsCo w a vs) (hk:∀ b,some b=(a.map (·.block))→w'.heap[b]? = w.heap[b]?):IsCo w' a vs:=by
  rcases h with h | ⟨b,off,rfl,h⟩
  · exact .inl h
  · exact .inr ⟨b,off,rfl,fun i hi => (h i hi).block (hk b rfl)⟩
theorem IsCo.below {w w':World} {a:Option Addr} {vs:List Co} (h:IsCo w a vs) (hb:Below w.heap.size w w'):IsCo w' a vs:=by
  rcases h with h | ⟨b,off,rfl,h⟩
  · exact .inl h
  · exact .inr ⟨b,off,rfl,fun i hi => (h i hi).below hb⟩
theorem IsCo.take {w:World} {a:Option Addr} {vs:List Co} (h:IsCo w a vs) (n:Nat):IsCo w a (vs.take n):=by
  rcases h with rfl | ⟨b,off,rfl,h⟩
  · exact .inl (by simp)
  · refine .inr ⟨b,off,rfl,fun i hi => ?_⟩
    rw [List.length_take] at hi
    rw [List.getElem_take]
    exact h i (by omega)
theorem IsCo.cells {w:World} {b off:Nat} {vs:List Co} (h:∀ i (h:i < vs.length),CoAt w b (off + i * 3) vs[i]):∀ j u,(rowCo vs)[j]? = some u→w.cell? ((⟨b,off,none⟩:Addr).add j)=some u:=by
  intro j u hj
  have hl:j < vs.length * 3:=by have:=(List.getElem?_eq_some_iff.1 hj).1;rwa [rowCo_length] at this
  have hn:j / 3 < vs.length:=by omega
  have h4:j % 3 < 3:=Nat.mod_lt _ (by omega)
  have e:j / 3 * 3 + j % 3=j:=by omega
  rw [← e,rowCo_at vs (j / 3) (j % 3) hn h4] at hj
  have hv:=h (j / 3) hn
  rw [addr_off]
  generalize vs[j / 3]=v at *
  rcases (show j % 3=0∨j % 3=1∨j % 3=2 by omega) with e4 | e4 | e4
  all_goals
    rw [e4] at hj
    simp only [Co.cells,List.getElem?_cons_zero,List.getElem?_cons_succ,Option.some.injEq] at hj
    subst hj
  · have:=hv.c0;rwa [show off + j / 3 * 3=off + j by omega] at this
  · have:=hv.c1;rwa [show off + j / 3 * 3 + 1=off + j by omega] at this
  · have:=hv.c2;rwa [show off + j / 3 * 3 + 2=off + j by omega] at this
theorem IsCo.of_cells {w:World} {b off:Nat} {vs:List Co} (h:∀ j u,(rowCo vs)[j]? = some u→w.cell? ((⟨b,off,none⟩:Addr).add j)=some u):∀ i (h:i < vs.length),CoAt w b (off + i * 3) vs[i]:=by
  intro i hi
  have g:∀ m,m < 3→∀ u,vs[i].cells[m]? = some u→w.cell? ⟨b,off + i * 3 + m,none⟩=some u:=fun m hm u hu => by
    have:=h (i * 3 + m) u (by rw [rowCo_at vs i m hi hm];exact hu)
    rwa [addr_off,← Nat.add_assoc] at this
  exact ⟨g 0 (by omega) _ rfl,g 1 (by omega) _ rfl,g 2 (by omega) _ rfl⟩
theorem IsCo.get {w:World} {a:Option Addr} {xs:List Co} (h:IsCo w a xs) {n:Nat} (hn:n < xs.length):∃ b off,a=some ⟨b,off,none⟩∧CoAt w b (off + n * 3) (xs.getD n zeroCo):=by
  rcases h with h | ⟨b,off,rfl,hc⟩
  · subst h;simp at hn
  · exact ⟨b,off,rfl,by rw [getD_in hn];exact hc n hn⟩
theorem isco_new (w:World) (L:List Co) (C:Array Value) (hC:(rowCo L).toArray=C):IsCo (w.alloc (.cells C 80)) (some ⟨w.heap.size,0,none⟩) L:=by
  subst hC
  by_cases c:L=[]
  · exact .inl c
  · refine .inr ⟨w.heap.size,0,rfl,IsCo.of_cells fun j u hj => ?_⟩
    rw [addr_off,Nat.zero_add,cell_of_row _ _ _ _ _ _ (heap_alloc_new w (.cells (rowCo L).toArray 80))]
    simpa using hj
def OwnCo (base:Nat) (w:World) (a:Option Addr) (cap:Nat) (vs:List Co):Prop:=w.ownsRow base 80 3 (.slice a vs.length cap) vs.length (rowCo vs)
theorem OwnCo.isX {base:Nat} {w:World} {a:Option Addr} {cap:Nat} {vs:List Co} (h:OwnCo base w a cap vs):IsCo w a vs:=by
  by_cases c:vs=[]
  · exact .inl c
  · rcases h.2 with ⟨hv,h0⟩ | ⟨g,cp,cur,hv,hb,rest⟩
    · exact absurd (List.eq_nil_of_length_eq_zero h0) c
    · obtain rfl:a=some ⟨g,0,none⟩:=by injection hv
      exact .inr ⟨g,0,rfl,IsCo.of_cells (h.cells (g:=g) rfl)⟩
theorem OwnCo.same {base:Nat} {w w':World} {a:Option Addr} {cap:Nat} {vs:List Co} (h:OwnCo base w a cap vs) (hs:∀ g,base≤g→g < w.heap.size→w'.heap[g]? = w.heap[g]?):OwnCo base w' a cap vs:=own_same h hs
theorem OwnCo.below {base:Nat} {w w':World} {a:Option Addr} {cap:Nat} {vs:List Co} (h:OwnCo base w a cap vs) (hb:Below w.heap.size w w'):OwnCo base w' a cap vs:=own_same h fun g _ hg => hb.block g hg
theorem OwnCo.lower {base base':Nat} {w:World} {a:Option Addr} {cap:Nat} {vs:List Co} (h:OwnCo base w a cap vs) (hb:base'≤base):OwnCo base' w a cap vs:=own_lower h hb
theorem OwnCo.nil (base:Nat) (w:World):OwnCo base w none 0 []:=World.ownsRow_nil _ _ _ _
theorem OwnCo.alloc {base:Nat} {w:World} {ad:Option Addr} {cap:Nat} {vs:List Co} (h:OwnCo base w ad cap vs) (ob:Obj):OwnCo base (w.alloc ob) ad cap vs:=own_same h fun k _ hk => Below.heap_alloc w ob k hk
theorem OwnCo.block {base:Nat} {w:World} {a:Option Addr} {cap:Nat} {vs:List Co} (h:OwnCo base w a cap vs):(a=none∧cap=0∧vs=[])∨∃ g,a=some ⟨g,0,none⟩∧base≤g∧g < w.heap.size∧vs.length≤cap∧∃ cur,w.heap[g]? = some (.cells cur 80 (0,0))∧cur.size=cap * 3:=by
  rcases h.2 with ⟨hv,h0⟩ | ⟨g,cp,cur,hv,hb,hg,hn,hm,hs,ht⟩
  · injection hv with h1 h2 h3
    exact .inl ⟨h1,h3,List.eq_nil_of_length_eq_zero h0⟩
  · injection hv with h1 h2 h3
    subst h1 h3
    exact .inr ⟨g,rfl,hb,(Array.getElem?_eq_some_iff.1 hg).1,hn,cur,hg,hs⟩
theorem OwnCo.frm {base cap:Nat} {w w':World} {a:Option Addr} {xs:List Co} {F:Nat→Prop} (h:OwnCo base w a cap xs) (hf:Frm F w w') (hF:∀ k,At a k→k < w.heap.size→¬ F k):OwnCo base w' a cap xs:=own_by h hf hF
theorem OwnCo.at_ge {base cap:Nat} {w:World} {a:Option Addr} {xs:List Co} (h:OwnCo base w a cap xs) {k:Nat} (hk:At a k):base≤k∧k < w.heap.size:=by
  rcases h.block with ⟨rfl,_⟩ | ⟨g,rfl,hg,hl,_⟩
  · simp [At] at hk
  · simp [At] at hk;omega
theorem OwnCo.cap {base cap:Nat} {w:World} {a:Option Addr} {xs:List Co} (h:OwnCo base w a cap xs):xs.length≤cap:=by
  rcases h.block with ⟨_,rfl,rfl⟩ | ⟨g,_,_,_,hc,_⟩
  · simp
  · exact hc
theorem OwnCo.there {base cap:Nat} {w:World} {a:Option Addr} {xs:List Co} (h:OwnCo base w a cap xs) (hx:xs ≠ []):∃ g,a=some ⟨g,0,none⟩:=by
  rcases h.block with ⟨_,_,h0⟩ | ⟨g,rfl,_⟩
  · exact absurd h0 hx
  · exact ⟨g,rfl⟩
theorem OwnCo.get {base cap g:Nat} {w:World} {xs:List Co} (h:OwnCo base w (some ⟨g,0,none⟩) cap xs) (j:Nat) (hj:j < xs.length):CoAt w g (j * 3) xs[j]:=by
  rcases h.isX with h0 | ⟨b,off,e,hv⟩
  · subst h0;simp at hj
  · injection e with e
    injection e with e1 e2 _
    subst e1 e2
    have:=hv j hj
    rwa [Nat.zero_add] at this
theorem co_cells (w:World) (v:Co):∀ j u,(rowCo [v])[j]? = some u→(w.alloc (.cells #[.int .i64 v.id,.string v.nm,.int .i64 v.kd] 80)).cell? ((⟨w.heap.size,0,none⟩:Addr).add j)=some u:=by
  have hb:(w.alloc (.cells #[.int .i64 v.id,.string v.nm,.int .i64 v.kd] 80)).heap[w.heap.size]? = some (.cells #[.int .i64 v.id,.string v.nm,.int .i64 v.kd] 80 (0,0)):=heap_alloc_new w _
  intro j u hj
  rw [addr_off,Nat.zero_add,cell_of_row _ _ _ _ _ _ hb]
  simpa [rowCo,Co.cells] using hj
theorem run_append_co (w:World) (base:Nat) (hbase:base≤w.heap.size) (v:Value) (n:Nat) (xs p:List Value) (hown:w.ownsRow base 80 3 v n xs) (hxl:xs.length=n * 3) (hl:n≤4398046511103) (hp:p.length=3) (hp1:∀ u ∈ p,u.oneCell'=true)
    (a:Addr) (c:Nat) (hnews:∀ j u,p[j]? = some u→w.cell? (a.add j)=some u) :
    ∃ v' w',(∀ ty,(Builtin.append_ #[52,52] ty #[v,.slice (some a) 1 c]).run Tryz.prog w=.ok v' w')∧w'.ownsRow base 80 3 v' (n + 1) (xs ++ p)∧w.grownBy w' v.ownBlock∧(∀ k,v'.ownBlock=some k→v.ownBlock=some k∨w.heap.size≤k):=by
  obtain ⟨i0,hi,hz0,hz1,hz2⟩:=info_parts infoCo
  have hpl:p.length=1 * i0.size:=by rw [hz1,hp]
  have hpx:(xs ++ p).length=(n + 1) * 3:=by rw [List.length_append,hxl,hp];omega
  have grown:∀ (old:Nat),old < n + 1 →
      (w.drew.alloc (.cells (xs.toArray ++ p.toArray ++ Builtin.zeroCells (zCoVal).cells (grownCap w (n + 1) old 80 - (n + 1))) 80)).ownsRow base 80 3
        (.slice (some ⟨w.heap.size,0,none⟩) (n + 1) (grownCap w (n + 1) old 80)) (n + 1) (xs ++ p):=by
    intro old ho
    have hge:=grownCap_ge w (n + 1) old 80
    have hcm:grownCap w (n + 1) old 80≤maxLen:=grownCap_le_maxLen w (n + 1) old 80 (by simp only [maxLen];omega)
    refine ⟨hpx,.inr ⟨w.heap.size,_,_,rfl,hbase,heap_alloc_new w.drew _,hge,hcm,?_,?_⟩⟩
    · simp only [Array.size_append,List.size_toArray,size_zeroCells,hxl,hp]
      have hz3:(zCoVal).cells.size=3:=rfl
      rw [hz3]
      omega
    · simp only [Array.toList_append]
      rw [show (xs ++ p ++ (Builtin.zeroCells (zCoVal).cells (grownCap w (n + 1) old 80 - (n + 1))).toList)=(xs ++ p) ++ (Builtin.zeroCells (zCoVal).cells (grownCap w (n + 1) old 80 - (n + 1))).toList from rfl,← hpx]
      exact List.take_left
  rcases hown.2 with ⟨rfl,h0⟩ | ⟨g,cap,cur,rfl,hb,hgg,hnc,hcm,hcs,htake⟩
  · have e0:xs=[]:=List.eq_nil_of_length_eq_zero (by omega)
    subst e0 h0
    have gr:=grown 0 (by omega)
    refine ⟨_,_,fun ty => run_append_nil w 52 ty 80 i0 (zCoVal) Tryz.underlying52 hi hz0 a 1 c p hpl hnews (by omega) (by omega) (by rw [hz2];omega),by simpa using gr,⟨rfl,rfl,rfl,by simp,fun k hk _ => Below.heap_alloc w.drew _ k hk⟩,?_⟩
    intro k hk
    simp [Value.ownBlock] at hk
    exact .inr (by omega)
  · by_cases hroom:n + 1≤cap
    · have hfit:n * i0.size + p.length≤cur.size:=by rw [hcs,hz1,hp];omega
      have hlt:(cur.toList.take (n * 3) ++ p).length=(n + 1) * 3:=by rw [htake];exact hpx
      refine ⟨_,_,fun ty => run_append_room w 52 ty 80 i0 Tryz.underlying52 hi g n cap cur hgg a 1 c p hpl hnews hp1 hroom hfit,⟨hpx,.inr ⟨g,cap,_,rfl,hb,setRow_heap w g cur _ 80 _ hgg,by omega,hcm,?_,?_⟩⟩,⟨rfl,rfl,rfl,by simp,fun k _ hk => setRow_other w g k _ (fun e => hk (by rw [e];rfl))⟩,fun k hk => .inl hk⟩
      · simp only [List.size_toArray,List.length_append,List.length_take,List.length_drop,Array.length_toList]
        omega
      · rw [hz1,← htake,List.append_assoc]
        rw [← List.append_assoc,← hlt]
        exact List.take_left
    · have hr:=fun ty => run_append_grow (P:=Tryz.prog) w 52 ty 80 i0 (zCoVal) Tryz.underlying52 hi hz0 ⟨g,0,none⟩ n cap xs (by rw [hz1];exact hxl) (hown.cells (g:=g) rfl) a 1 c p hpl hnews (by omega) (by omega) (growslice_fits (by omega) (by rw [hz2];omega))
      refine ⟨_,_,hr,grown cap (by omega),⟨rfl,rfl,rfl,by simp,fun k hk _ => Below.heap_alloc w.drew _ k hk⟩,?_⟩
      intro k hk
      simp [Value.ownBlock] at hk
      exact .inr (by omega)
theorem wp_co {base:Nat} {w:World} {ad:Option Addr} {cap:Nat} {xs:List Co} (h:OwnCo base w ad cap xs) (hb:base≤w.heap.size) (hO:xs.length≤4398046511103) {ops:Array Oper} {rest:List Oper} {op:Oper} {A:Act} {Q:Exit→Act→World→Prop} (hgd:op.guard=none) (sl x:Operand)
    (ho:op.op=.call { callee:=.builtin .append,args:=#[sl,x],argTypes:=#[52,52] }) (v:Co) (hs:A.eval sl=.slice ad xs.length cap) (hx:A.eval x=.slice (some ⟨w.heap.size,0,none⟩) 1 1)
    (hK:∀ ad' cap' w',OwnCo base w' ad' cap' (xs ++ [v])→Frm (At ad) w w'→(∀ k,At ad' k→At ad k∨w.heap.size < k)→wpList Tryz.prog ops Q rest (A.put op.dst (.slice ad' (xs ++ [v]).length cap')) w'):wpList Tryz.prog ops Q (op :: rest) A (w.alloc (.cells #[.int .i64 v.id,.string v.nm,.int .i64 v.kd] 80)):=by
  have ha:=h.alloc (.cells #[.int .i64 v.id,.string v.nm,.int .i64 v.kd] 80)
  obtain ⟨v',w',hr,hown,hgrow,hnew⟩:=run_append_co _ base (Nat.le_trans hb (by simp)) (.slice ad xs.length cap) xs.length (rowCo xs) (rowCo [v]) ha (rowCo_length xs) hO (by rw [rowCo_length];rfl) (rowCo_cells _) ⟨w.heap.size,0,none⟩ 1 (co_cells w v)
  obtain ⟨ad',cap',rfl⟩:=own_form hown
  have hl:(xs ++ [v]).length=xs.length + 1:=by simp
  have ho':OwnCo base w' ad' cap' (xs ++ [v]):=by
    unfold OwnCo
    rw [hl,rowCo_append]
    exact hown
  have:=hK ad' cap' w' ho' (grown_frm _ hgrow (own_head h)) (grown_new _ (own_head h) (own_head hown) hnew)
  rw [hl] at this
  exact wpV_append_eq _ hgd sl x 52 52 ho _ _ hs hx (hr _) this
set_option maxRecDepth 100000 in
set_option maxHeartbeats 1000000 in
theorem samecols_any (w:World) (a b:Option Addr) (ca cb:Nat) (xs ys:List Co) (ha:IsCo w a xs) (hb:IsCo w b ys) (hx:xs.length≤maxLen) :
    Calls Tryz.prog 44 #[.slice a xs.length ca,.slice b ys.length cb] w fun e w' => e=.returned (.bool (decide (xs=ys)))∧Below w.heap.size w w':=by
  unfold maxLen at hx
  by_cases hn:xs.length=ys.length
  · have hd:∀ n,n≤xs.length→xs.take n=ys.take n→(xs=ys ↔ xs.drop n=ys.drop n):=fun n _ h => by
      constructor
      · intro e;rw [e]
      · intro e;rw [← List.take_append_drop n xs,← List.take_append_drop n ys,h,e]
    obtain ⟨R,hR⟩:∃ R,R=decide (xs=ys):=⟨_,rfl⟩
    rw [← hR]
    rw [← hn]
    have HN:=Lib.hid hn
    have HR:=Lib.hid hR
    have HD:=Lib.hid hd
    clear hn hR hd
    go_enter Tryz.func44,Tryz.ntmps44
    go_wp2
    go_loopw [5] (fun iv wr => ∃ n:Nat,n≤xs.length∧iv=.int .i64 n∧Hid (xs.take n=ys.take n)∧Hid (Below w.heap.size w wr)) (fun iv _ => xs.length - (intOf iv).toNat)
    case atStart => exact ⟨0,Nat.zero_le _,rfl,rfl,Below.refl _ _⟩
    case round =>
      obtain ⟨n,hle,rfl,HT,HB⟩:=hrel
      by_cases c:n < xs.length
      · have hne:xs ≠ []:=fun e => by rw [e] at c;simp at c
        have hney:ys ≠ []:=fun e => by have:=HN.out;rw [e] at this;simp at this;rw [this] at c;simp at c
        rcases ha with ha | ⟨ba,oa,rfl,ha⟩
        · exact absurd ha hne
        rcases hb with hb | ⟨bb,ob,rfl,hb⟩
        · exact absurd hb hney
        have cy:n < ys.length:=by have:=HN.out;omega
        have h1:=(ha n c).below HB.out
        have h2:=(hb n cy).below HB.out
        have hx1:xs.drop n=xs[n] :: xs.drop (n + 1):=List.drop_eq_getElem_cons c
        have hy1:ys.drop n=ys[n] :: ys.drop (n + 1):=List.drop_eq_getElem_cons cy
        have hx2:xs.take (n + 1)=xs.take n ++ [xs[n]]:=(List.take_append_getElem c).symm
        have hy2:ys.take (n + 1)=ys.take n ++ [ys[n]]:=(List.take_append_getElem cy).symm
        have HE:=Lib.hid (HD.out n (by omega) HT.out)
        have HX1:=Lib.hid hx1
        have HY1:=Lib.hid hy1
        have HX2:=Lib.hid hx2
        have HY2:=Lib.hid hy2
        have hcy:(n:Int) < (ys.length:Int):=by omega
        clear hx1 hy1 hx2 hy2 ha hb hne hney
        generalize xs[n]=x at *
        generalize ys[n]=y at *
        obtain ⟨p0,p1,p2⟩:=h1
        obtain ⟨q0,q1,q2⟩:=h2
        have hq:=run_neq_co x y
        by_cases e:x=y
        · simp only [decide_eq_true e,Bool.not_true] at hq
          have HQE:=Lib.hid e
          clear e
          go_wp2
          go_quiet (fail)
          go_wp2
          go_roundw
          case rel => exact ⟨n + 1,by omega,by go_num,Lib.hid (by rw [HX2.out,HY2.out,HT.out,HQE.out]),bel_drew HB.out _⟩
          case measure => simp [intOf];omega
        · have hf:R=false:=by
            rw [HR.out,decide_eq_false_iff_not,HE.out,HX1.out,HY1.out]
            intro k
            injection k with k1 k2
            exact e k1
          subst hf
          simp only [decide_eq_false e,Bool.not_false] at hq
          clear e
          go_wp2
          go_quiet (fail)
          go_wp2
          go_ret
          exact ⟨rfl,bel_drew HB.out _⟩
      · obtain rfl:n=xs.length:=by omega
        have ht:R=true:=by
          have h1:=HT.out
          rw [List.take_length,HN.out,List.take_length] at h1
          rw [HR.out,h1];simp
        subst ht
        clear c
        go_wp2
        go_ret
        exact ⟨rfl,HB.out⟩
  · have hne:((xs.length:Int) != (ys.length:Int))=true:=by simp;omega
    have hf:decide (xs=ys)=false:=decide_eq_false fun e => hn (by rw [e])
    rw [hf]
    go_enter Tryz.func44,Tryz.ntmps44
    go_wp2
    go_ret
    exact ⟨rfl,Below.refl _ _⟩
set_option maxRecDepth 100000 in
theorem spoilcols_any (w:World) (a:Option Addr) (c base:Nat) (xs:List Co) (h:OwnCo base w a c xs) (hx:xs.length≤maxLen) :
    Calls Tryz.prog 42 #[.slice a xs.length c] w fun e w' => e=.returned (.tuple #[])∧Frm (fun k => some k=a.map (·.block)) w w':=by
  unfold maxLen at hx
  rcases h.block with ⟨rfl,rfl,rfl⟩ | ⟨g,rfl,_,hg,hc,cur,hcur,hsz⟩
  · clear h
    go_enter Tryz.func42,Tryz.ntmps42
    go_wp2
    go_loop [2] (fun iv => iv=.int .i64 0) (fun _ => 0)
    case atStart => rfl
    case round =>
      subst hrel
      go_wp2
      go_end0
      exact ⟨rfl,Frm.refl _ _⟩
  · have hi:∀ i,i < xs.length→∃ z,cur[i * 3 + 2]? = some (.int .i64 z):=by
      intro i hi
      rcases h.isX with h | ⟨b,off,e,h⟩
      · subst h;simp at hi
      · injection e with e
        injection e with e1 e2 e3
        subst e1 e2
        have:=(h i hi).c2
        rw [Nat.zero_add,cell_of_row _ _ _ _ _ _ hcur] at this
        exact ⟨_,this⟩
    have HI:=Lib.hid hi
    have HC:=Lib.hid hcur
    clear hi hcur h
    go_enter Tryz.func42,Tryz.ntmps42
    go_wp2
    go_loopw [2] (fun iv wr => ∃ n:Nat,n≤xs.length∧iv=.int .i64 n∧Hid (Frm (fun k => some k=(some (⟨g,0,none⟩:Addr)).map (·.block)) w wr)∧Hid (∃ cur,wr.heap[g]? = some (.cells cur 80 (0,0))∧∀ i,i < xs.length→∃ z,cur[i * 3 + 2]? = some (.int .i64 z))) (fun iv _ => xs.length - (intOf iv).toNat)
    case atStart => exact ⟨0,Nat.zero_le _,rfl,Frm.refl _ _,cur,HC.out,HI.out⟩
    case round =>
      obtain ⟨n,hle,rfl,HF,hcur2⟩:=hrel
      by_cases cn:n < xs.length
      · obtain ⟨cr,hcr,hall⟩:=hcur2
        obtain ⟨z,hz⟩:=hall n cn
        have hce:=(cell_of_row wr g (n * 3 + 2) _ _ _ hcr).trans hz
        have hfz:=frozen_of_row wr g (n * 3 + 2) _ _ hcr
        have HA:=Lib.hid hall
        have HCR:=Lib.hid hcr
        have hns:n * 3 + 2 < cr.size:=(Array.getElem?_eq_some_iff.1 hz).1
        clear hall hcr hz
        go_wp2
        go_roundw
        case rel =>
          refine ⟨n + 1,by omega,by go_num,HF.out.setCell (p:=⟨g,n * 3 + 2,none⟩) rfl _,_,heap_setCell_same _ _ _ _ _ _ HCR.out,fun i hi => ?_⟩
          rw [Array.getElem?_setIfInBounds]
          by_cases e:n * 3 + 2=i * 3 + 2
          · rw [if_pos e,if_pos hns];exact ⟨_,rfl⟩
          · rw [if_neg e];exact HA.out i hi
        case measure => simp [intOf];omega
      · obtain rfl:n=xs.length:=by omega
        clear cn
        go_wp2
        go_end0
        exact ⟨rfl,HF.out⟩
end Go.Proofs.YtfbmlefhjoblbaaGreat
namespace Go.Proofs.YtfbmlefhjoblbaaGreat
open Go.ChangeShapes Go.WideShapes Go.ChangeAt Go.RowKit
set_option linter.unusedVariables false
set_option linter.unusedSimpArgs false
end Go.Proofs.YtfbmlefhjoblbaaGreat
