/- Spaces and remarks left out: a claim is at most so large. -/
import Derived.Test.YtfbmlefhjoblbaaGreatNPFileGetsGz6
import Derived.Laws.StructEq
import Derived.Lib.SmallJoins
import Derived.Test.YtfbmlefhjoblbaaGreatNum
import Derived.Laws.OwnMore
import Derived.Deep.RegionLaw
import Derived.Laws.CopyRow
import Derived.Laws.AppendOwn
import Derived.Laws.AppendOwnNone
import Derived.ChangeOld
import Derived.OpenShut
import Derived.ShutString
import Derived.SizedLaws
import Derived.Deep.Slices
namespace Go.Proofs.YtfbmlefhjoblbaaGreat
open Go.Conc Go.RowKit
set_option linter.unusedVariables false
structure V where
  k:Int
  i:Int
  b:Bool
  s:ByteArray
def V.cells (v:V):List Value:=[.int .i64 v.k,.int .i64 v.i,.bool v.b,.string v.s]
def rowV (vs:List V):List Value:=vs.flatMap V.cells
def zVal:Value:=.agg #[.int .i64 0,.int .i64 0,.bool false,.string ByteArray.empty]
theorem infoVal:(Tryz.prog.info? 24).map (fun i => (i.zero,i.size,i.bytes))=some (some zVal,4,40):=by kernel_rfl
theorem cells_length (v:V):v.cells.length=4:=rfl
theorem rowV_cons (v:V) (vs:List V):rowV (v :: vs)=v.cells ++ rowV vs:=by simp [rowV]
theorem rowV_append (a b:List V):rowV (a ++ b)=rowV a ++ rowV b:=by simp [rowV]
theorem rowV_length (vs:List V):(rowV vs).length=vs.length * 4:=by
  induction vs with
  | nil => rfl
  | cons v vs ih => rw [rowV_cons,List.length_append,cells_length,ih,List.length_cons];omega
theorem rowV_cells (vs:List V):∀ u ∈ rowV vs,u.oneCell'=true:=by
  intro u hu
  simp only [rowV,List.mem_flatMap] at hu
  obtain ⟨v,_,hu⟩:=hu
  simp only [V.cells,List.mem_cons,List.not_mem_nil,or_false] at hu
  rcases hu with rfl | rfl | rfl | rfl <;> rfl
theorem rowV_at:∀ (vs:List V) (n m:Nat) (h:n < vs.length) (hm:m < 4),(rowV vs)[n * 4 + m]? = vs[n].cells[m]?
  | v :: vs,0,m,_,hm => by
    rw [rowV_cons,Nat.zero_mul,Nat.zero_add,List.getElem?_append_left (by rw [cells_length];exact hm)];rfl
  | v :: vs,n + 1,m,h,hm => by
    rw [rowV_cons,List.getElem?_append_right (by rw [cells_length];omega),cells_length,show (n + 1) * 4 + m - 4=n * 4 + m by omega]
    exact rowV_at vs n m (by simpa using h) hm
def sameV (o p:V):Bool:=(o.k == p.k) && ((o.i == p.i) && ((o.b == p.b) && (o.s.toList == p.s.toList)))
theorem text_inj {a b:ByteArray} (h:a.toList=b.toList):a=b:=by
  rw [ByteArray.toList_eq,ByteArray.toList_eq] at h
  exact congrArg ByteArray.mk (Array.toList_inj.1 h)
theorem sameV_iff (o p:V):sameV o p=true ↔ o=p:=by
  cases o;cases p
  simp only [sameV,Bool.and_eq_true,beq_iff_eq,V.mk.injEq]
  constructor
  · rintro ⟨h1,h2,h3,h4⟩
    exact ⟨h1,h2,h3,text_inj h4⟩
  · rintro ⟨rfl,rfl,rfl,rfl⟩
    exact ⟨rfl,rfl,rfl,rfl⟩
instance instDecV:DecidableEq V:=fun a b => if h:sameV a b=true then isTrue ((sameV_iff a b).1 h) else isFalse fun e => h ((sameV_iff a b).2 e)
theorem sameV_dec (o p:V):sameV o p=decide (o=p):=by
  by_cases e:o=p
  · rw [decide_eq_true e];exact (sameV_iff o p).2 e
  · rw [decide_eq_false e]
    cases h:sameV o p with
    | false => rfl
    | true => exact absurd ((sameV_iff o p).1 h) e
theorem run_neq_val (o p:V) (w:World):(binOp .neq 24 (.agg #[.int .i64 o.k,.int .i64 o.i,.bool o.b,.string o.s]) (.agg #[.int .i64 p.k,.int .i64 p.i,.bool p.b,.string p.s])).run Tryz.prog w=.ok (.bool (!decide (o=p))) w:=by
  rw [← sameV_dec]
  unfold sameV
  cases h1:(o.k == p.k) <;> cases h2:(o.i == p.i) <;> cases h3:(o.b == p.b) <;> cases h4:(o.s.toList == p.s.toList) <;> go_simp
theorem run_eql_val (o p:V) (w:World):(binOp .eql 24 (.agg #[.int .i64 o.k,.int .i64 o.i,.bool o.b,.string o.s]) (.agg #[.int .i64 p.k,.int .i64 p.i,.bool p.b,.string p.s])).run Tryz.prog w=.ok (.bool (decide (o=p))) w:=by
  rw [← sameV_dec]
  unfold sameV
  cases h1:(o.k == p.k) <;> cases h2:(o.i == p.i) <;> cases h3:(o.b == p.b) <;> cases h4:(o.s.toList == p.s.toList) <;> go_simp
structure ValAt (w:World) (b o:Nat) (v:V):Prop where
  c0:w.cell? ⟨b,o,none⟩=some (.int .i64 v.k)
  c1:w.cell? ⟨b,o + 1,none⟩=some (.int .i64 v.i)
  c2:w.cell? ⟨b,o + 2,none⟩=some (.bool v.b)
  c3:w.cell? ⟨b,o + 3,none⟩=some (.string v.s)
theorem ValAt.block {w w':World} {b o:Nat} {v:V} (h:ValAt w b o v) (hb:w'.heap[b]? = w.heap[b]?):ValAt w' b o v :=
  ⟨(World.cell?_of_block hb).trans h.c0,(World.cell?_of_block hb).trans h.c1,(World.cell?_of_block hb).trans h.c2,(World.cell?_of_block hb).trans h.c3⟩
theorem ValAt.lt {w:World} {b o:Nat} {v:V} (h:ValAt w b o v):b < w.heap.size:=World.block_lt_of_cell? w ⟨b,o,none⟩ h.c0
theorem ValAt.below {w w':World} {b o:Nat} {v:V} (h:ValAt w b o v) (hb:Below w.heap.size w w'):ValAt w' b o v:=h.block (hb.block b h.lt)
def IsV (w:World) (a:Option Addr) (vs:List V):Prop :=
  vs=[]∨∃ b off,a=some ⟨b,off,none⟩∧∀ i (h:i < vs.length),ValAt w b (off + i * 4) vs[i]
theorem IsV.keep {w w':World} {a:Option Addr} {vs:List V} (h:IsV w a vs) (hk:∀ b,some b=(a.map (·.block))→w'.heap[b]? = w.heap[b]?):IsV w' a vs:=by
  rcases h with h | ⟨b,off,rfl,h⟩
  · exact .inl h
  · exact .inr ⟨b,off,rfl,fun i hi => (h i hi).block (hk b rfl)⟩
theorem IsV.below {w w':World} {a:Option Addr} {vs:List V} (h:IsV w a vs) (hb:Below w.heap.size w w'):IsV w' a vs:=by
  rcases h with h | ⟨b,off,rfl,h⟩
  · exact .inl h
  · exact .inr ⟨b,off,rfl,fun i hi => (h i hi).below hb⟩
theorem IsV.take {w:World} {a:Option Addr} {vs:List V} (h:IsV w a vs) (n:Nat):IsV w a (vs.take n):=by
  rcases h with rfl | ⟨b,off,rfl,h⟩
  · exact .inl (by simp)
  · refine .inr ⟨b,off,rfl,fun i hi => ?_⟩
    rw [List.length_take] at hi
    rw [List.getElem_take]
    exact h i (by omega)
theorem IsV.cells {w:World} {b off:Nat} {vs:List V} (h:∀ i (h:i < vs.length),ValAt w b (off + i * 4) vs[i]):∀ j u,(rowV vs)[j]? = some u→w.cell? ((⟨b,off,none⟩:Addr).add j)=some u:=by
  intro j u hj
  have hl:j < vs.length * 4:=by have:=(List.getElem?_eq_some_iff.1 hj).1;rwa [rowV_length] at this
  have hn:j / 4 < vs.length:=by omega
  have h4:j % 4 < 4:=Nat.mod_lt _ (by omega)
  have e:j / 4 * 4 + j % 4=j:=by omega
  rw [← e,rowV_at vs (j / 4) (j % 4) hn h4] at hj
  have hv:=h (j / 4) hn
  rw [addr_off]
  generalize vs[j / 4]=v at *
  rcases (show j % 4=0∨j % 4=1∨j % 4=2∨j % 4=3 by omega) with e4 | e4 | e4 | e4
  all_goals
    rw [e4] at hj
    simp only [V.cells,List.getElem?_cons_zero,List.getElem?_cons_succ,Option.some.injEq] at hj
    subst hj
  · have:=hv.c0;rwa [show off + j / 4 * 4=off + j by omega] at this
  · have:=hv.c1;rwa [show off + j / 4 * 4 + 1=off + j by omega] at this
  · have:=hv.c2;rwa [show off + j / 4 * 4 + 2=off + j by omega] at this
  · have:=hv.c3;rwa [show off + j / 4 * 4 + 3=off + j by omega] at this
theorem IsV.of_cells {w:World} {b off:Nat} {vs:List V} (h:∀ j u,(rowV vs)[j]? = some u→w.cell? ((⟨b,off,none⟩:Addr).add j)=some u):∀ i (h:i < vs.length),ValAt w b (off + i * 4) vs[i]:=by
  intro i hi
  have g:∀ m,m < 4→∀ u,vs[i].cells[m]? = some u→w.cell? ⟨b,off + i * 4 + m,none⟩=some u:=fun m hm u hu => by
    have:=h (i * 4 + m) u (by rw [rowV_at vs i m hi hm];exact hu)
    rwa [addr_off,← Nat.add_assoc] at this
  exact ⟨g 0 (by omega) _ rfl,g 1 (by omega) _ rfl,g 2 (by omega) _ rfl,g 3 (by omega) _ rfl⟩
def OwnV (base:Nat) (w:World) (a:Option Addr) (cap:Nat) (vs:List V):Prop:=w.ownsRow base 24 4 (.slice a vs.length cap) vs.length (rowV vs)
theorem OwnV.isV {base:Nat} {w:World} {a:Option Addr} {cap:Nat} {vs:List V} (h:OwnV base w a cap vs):IsV w a vs:=by
  by_cases c:vs=[]
  · exact .inl c
  · rcases h.2 with ⟨hv,h0⟩ | ⟨g,cp,cur,hv,hb,rest⟩
    · exact absurd (List.eq_nil_of_length_eq_zero h0) c
    · obtain rfl:a=some ⟨g,0,none⟩:=by injection hv
      exact .inr ⟨g,0,rfl,IsV.of_cells (h.cells (g:=g) rfl)⟩
theorem OwnV.same {base:Nat} {w w':World} {a:Option Addr} {cap:Nat} {vs:List V} (h:OwnV base w a cap vs) (hs:∀ g,base≤g→g < w.heap.size→w'.heap[g]? = w.heap[g]?):OwnV base w' a cap vs:=own_same h hs
theorem OwnV.below {base:Nat} {w w':World} {a:Option Addr} {cap:Nat} {vs:List V} (h:OwnV base w a cap vs) (hb:Below w.heap.size w w'):OwnV base w' a cap vs:=own_same h fun g _ hg => hb.block g hg
theorem own_lower {w:World} {base base' e size n:Nat} {v:Value} {xs:List Value} (h:w.ownsRow base e size v n xs) (hb:base'≤base):w.ownsRow base' e size v n xs:=by
  refine ⟨h.1,?_⟩
  rcases h.2 with hn | ⟨g,cp,cur,hv,hg,rest⟩
  · exact .inl hn
  · exact .inr ⟨g,cp,cur,hv,Nat.le_trans hb hg,rest⟩
theorem OwnV.lower {base base':Nat} {w:World} {a:Option Addr} {cap:Nat} {vs:List V} (h:OwnV base w a cap vs) (hb:base'≤base):OwnV base' w a cap vs:=own_lower h hb
theorem OwnV.nil (base:Nat) (w:World):OwnV base w none 0 []:=World.ownsRow_nil _ _ _ _
theorem OwnV.alloc {base:Nat} {w:World} {ad:Option Addr} {cap:Nat} {vs:List V} (h:OwnV base w ad cap vs) (ob:Obj):OwnV base (w.alloc ob) ad cap vs:=own_same h fun k _ hk => Below.heap_alloc w ob k hk
theorem OwnV.block {base:Nat} {w:World} {a:Option Addr} {cap:Nat} {vs:List V} (h:OwnV base w a cap vs):(a=none∧cap=0∧vs=[])∨∃ g,a=some ⟨g,0,none⟩∧base≤g∧g < w.heap.size∧vs.length≤cap∧∃ cur,w.heap[g]? = some (.cells cur 24 (0,0))∧cur.size=cap * 4:=by
  rcases h.2 with ⟨hv,h0⟩ | ⟨g,cp,cur,hv,hb,hg,hn,hm,hs,ht⟩
  · injection hv with h1 h2 h3
    exact .inl ⟨h1,h3,List.eq_nil_of_length_eq_zero h0⟩
  · injection hv with h1 h2 h3
    subst h1 h3
    exact .inr ⟨g,rfl,hb,(Array.getElem?_eq_some_iff.1 hg).1,hn,cur,hg,hs⟩
theorem types_apart:(24:Nat) ≠ 3∧(3:Nat) ≠ 24:=⟨by decide,by decide⟩
set_option maxRecDepth 100000 in
set_option maxHeartbeats 1000000 in
theorem samevals_any (w:World) (a b:Option Addr) (ca cb:Nat) (xs ys:List V) (ha:IsV w a xs) (hb:IsV w b ys) (hx:xs.length≤maxLen) :
    Calls Tryz.prog 25 #[.slice a xs.length ca,.slice b ys.length cb] w fun e w' => e=.returned (.bool (decide (xs=ys)))∧Below w.heap.size w w':=by
  unfold maxLen at hx
  by_cases hn:xs.length=ys.length
  · have hd:∀ n,n≤xs.length→xs.take n=ys.take n→(xs=ys ↔ xs.drop n=ys.drop n):=fun n _ h => by
      constructor
      · intro e;rw [e]
      · intro e;rw [← List.take_append_drop n xs,← List.take_append_drop n ys,h,e]
    obtain ⟨R,hR⟩:∃ R,R=decide (xs=ys):=⟨_,rfl⟩
    rw [← hR]
    rw [← hn]
    have HN:=Lib.hid hn
    have HR:=Lib.hid hR
    have HD:=Lib.hid hd
    clear hn hR hd
    go_enter Tryz.func25,Tryz.ntmps25
    go_wp2
    go_loopw [5] (fun iv wr => ∃ n:Nat,n≤xs.length∧iv=.int .i64 n∧Hid (xs.take n=ys.take n)∧Hid (Below w.heap.size w wr)) (fun iv _ => xs.length - (intOf iv).toNat)
    case atStart => exact ⟨0,Nat.zero_le _,rfl,rfl,Below.refl _ _⟩
    case round =>
      obtain ⟨n,hle,rfl,HT,HB⟩:=hrel
      by_cases c:n < xs.length
      · have hne:xs ≠ []:=fun e => by rw [e] at c;simp at c
        have hney:ys ≠ []:=fun e => by have:=HN.out;rw [e] at this;simp at this;rw [this] at c;simp at c
        rcases ha with ha | ⟨ba,oa,rfl,ha⟩
        · exact absurd ha hne
        rcases hb with hb | ⟨bb,ob,rfl,hb⟩
        · exact absurd hb hney
        have cy:n < ys.length:=by have:=HN.out;omega
        have h1:=(ha n c).below HB.out
        have h2:=(hb n cy).below HB.out
        have hx1:xs.drop n=xs[n] :: xs.drop (n + 1):=List.drop_eq_getElem_cons c
        have hy1:ys.drop n=ys[n] :: ys.drop (n + 1):=List.drop_eq_getElem_cons cy
        have hx2:xs.take (n + 1)=xs.take n ++ [xs[n]]:=(List.take_append_getElem c).symm
        have hy2:ys.take (n + 1)=ys.take n ++ [ys[n]]:=(List.take_append_getElem cy).symm
        have HE:=Lib.hid (HD.out n (by omega) HT.out)
        have HX1:=Lib.hid hx1
        have HY1:=Lib.hid hy1
        have HX2:=Lib.hid hx2
        have HY2:=Lib.hid hy2
        have hcy:(n:Int) < (ys.length:Int):=by omega
        clear hx1 hy1 hx2 hy2 ha hb hne hney
        generalize xs[n]=x at *
        generalize ys[n]=y at *
        obtain ⟨p0,p1,p2,p3⟩:=h1
        obtain ⟨q0,q1,q2,q3⟩:=h2
        have hq:=run_neq_val x y
        by_cases e:x=y
        · simp only [decide_eq_true e,Bool.not_true] at hq
          have HQE:=Lib.hid e
          clear e
          go_wp2
          go_quiet (fail)
          go_wp2
          go_roundw
          case rel => exact ⟨n + 1,by omega,by go_num,Lib.hid (by rw [HX2.out,HY2.out,HT.out,HQE.out]),bel_drew HB.out _⟩
          case measure => simp [intOf];omega
        · have hf:R=false:=by
            rw [HR.out,decide_eq_false_iff_not,HE.out,HX1.out,HY1.out]
            intro k
            injection k with k1 k2
            exact e k1
          subst hf
          simp only [decide_eq_false e,Bool.not_false] at hq
          clear e
          go_wp2
          go_quiet (fail)
          go_wp2
          go_ret
          exact ⟨rfl,bel_drew HB.out _⟩
      · obtain rfl:n=xs.length:=by omega
        have ht:R=true:=by
          have h1:=HT.out
          rw [List.take_length,HN.out,List.take_length] at h1
          rw [HR.out,h1];simp
        subst ht
        clear c
        go_wp2
        go_ret
        exact ⟨rfl,HB.out⟩
  · have hne:((xs.length:Int) != (ys.length:Int))=true:=by simp;omega
    have hf:decide (xs=ys)=false:=decide_eq_false fun e => hn (by rw [e])
    rw [hf]
    go_enter Tryz.func25,Tryz.ntmps25
    go_wp2
    go_ret
    exact ⟨rfl,Below.refl _ _⟩
end Go.Proofs.YtfbmlefhjoblbaaGreat
namespace Go.Proofs.YtfbmlefhjoblbaaGreat
open Go.Conc Go.RowKit
set_option linter.unusedVariables false
set_option linter.unusedSimpArgs false
theorem isv_new (w:World) (L:List V) (C:Array Value) (hC:(rowV L).toArray=C):IsV (w.alloc (.cells C 24)) (some ⟨w.heap.size,0,none⟩) L:=by
  subst hC
  by_cases c:L=[]
  · exact .inl c
  · refine .inr ⟨w.heap.size,0,rfl,IsV.of_cells fun j u hj => ?_⟩
    rw [addr_off,Nat.zero_add,cell_of_row _ _ _ _ _ _ (heap_alloc_new w (.cells (rowV L).toArray 24))]
    simpa using hj
end Go.Proofs.YtfbmlefhjoblbaaGreat
namespace Go.Proofs.YtfbmlefhjoblbaaGreat
open Go.Conc Go.RowKit
set_option linter.unusedVariables false
def At (ad:Option Addr) (k:Nat):Prop:=some k=ad.map (·.block)
theorem own_by {w w':World} {base e size n cap:Nat} {a:Option Addr} {xs:List Value} {F:Nat→Prop} (h:w.ownsRow base e size (.slice a n cap) n xs) (hf:Frm F w w') (hF:∀ k,At a k→k < w.heap.size→¬ F k):w'.ownsRow base e size (.slice a n cap) n xs:=by
  refine ⟨h.1,?_⟩
  rcases h.2 with hn | ⟨g,cp,cur,hv,hb,hgg,rest⟩
  · exact .inl hn
  · refine .inr ⟨g,cp,cur,hv,hb,?_,rest⟩
    injection hv with h1 _ _
    subst h1
    have hl:=(Array.getElem?_eq_some_iff.1 hgg).1
    rw [hf.block g hl (hF g rfl hl)]
    exact hgg
theorem OwnI.frm {base cap:Nat} {w w':World} {a:Option Addr} {xs:List Int} {F:Nat→Prop} (h:OwnI base w a cap xs) (hf:Frm F w w') (hF:∀ k,At a k→k < w.heap.size→¬ F k):OwnI base w' a cap xs:=own_by h hf hF
theorem OwnV.frm {base cap:Nat} {w w':World} {a:Option Addr} {xs:List V} {F:Nat→Prop} (h:OwnV base w a cap xs) (hf:Frm F w w') (hF:∀ k,At a k→k < w.heap.size→¬ F k):OwnV base w' a cap xs:=own_by h hf hF
theorem OwnI.at_ge {base cap:Nat} {w:World} {a:Option Addr} {xs:List Int} (h:OwnI base w a cap xs) {k:Nat} (hk:At a k):base≤k∧k < w.heap.size:=by
  rcases h.block with ⟨rfl,_⟩ | ⟨g,rfl,hg,hl,_⟩
  · simp [At] at hk
  · simp [At] at hk;omega
theorem OwnV.at_ge {base cap:Nat} {w:World} {a:Option Addr} {xs:List V} (h:OwnV base w a cap xs) {k:Nat} (hk:At a k):base≤k∧k < w.heap.size:=by
  rcases h.block with ⟨rfl,_⟩ | ⟨g,rfl,hg,hl,_⟩
  · simp [At] at hk
  · simp [At] at hk;omega
theorem apart_iv {b1 b2 c1 c2:Nat} {w:World} {a1 a2:Option Addr} {xs:List Int} {vs:List V} (h1:OwnI b1 w a1 c1 xs) (h2:OwnV b2 w a2 c2 vs) {k:Nat} (hk:At a1 k):¬ At a2 k:=by
  rcases h1.block with ⟨rfl,_⟩ | ⟨g,rfl,_,_,_,cur,hc,_⟩
  · simp [At] at hk
  · rcases h2.block with ⟨rfl,_⟩ | ⟨g2,rfl,_,_,_,cur2,hc2,_⟩
    · simp [At]
    · intro hk2
      simp [At] at hk hk2
      subst hk
      subst hk2
      rw [hc] at hc2
      injection hc2 with hc2
      injection hc2 with _ h3 _
      exact absurd h3 types_apart.2
theorem Frm.to_below {F:Nat→Prop} {B:Nat} {a w w':World} (h:Below B a w) (hf:Frm F w w') (hF:∀ k,F k→B≤k) (hB:B≤a.heap.size):Below B a w' :=
  ⟨hf.os.trans h.os,hf.tape.trans h.tape,hf.output.trans h.output,Nat.le_trans h.size hf.size,fun k hk => (hf.block k (Nat.lt_of_lt_of_le (Nat.lt_of_lt_of_le hk hB) h.size) (fun e => by have:=hF k e;omega)).trans (h.block k hk)⟩
theorem grown_frm {w w':World} {ad:Option Addr} {n cap:Nat} (ob:Obj) (hg:(w.alloc ob).grownBy w' (Value.slice ad n cap).ownBlock) (hn:ad=none∨∃ g,ad=some ⟨g,0,none⟩):Frm (At ad) w w':=by
  refine ⟨hg.os,hg.tape,hg.output,by have:=hg.size;simp at this;omega,fun k hk hne => ?_⟩
  have h1:=hg.block k (by simp;omega) (fun e => hne (by
    rcases hn with rfl | ⟨g,rfl⟩
    · simp [Value.ownBlock] at e
    · simp [Value.ownBlock] at e;simp [At,e]))
  exact h1.trans (Below.heap_alloc w ob k hk)
theorem own_head {base e size n cap:Nat} {w:World} {a:Option Addr} {xs:List Value} (h:w.ownsRow base e size (.slice a n cap) n xs):a=none∨∃ g,a=some ⟨g,0,none⟩:=by
  rcases h.2 with ⟨hv,_⟩ | ⟨g,cp,cur,hv,_⟩
  · injection hv with h1;exact .inl h1
  · injection hv with h1;exact .inr ⟨g,h1⟩
theorem val_cells (w:World) (v:V):∀ j u,(rowV [v])[j]? = some u→(w.alloc (.cells #[.int .i64 v.k,.int .i64 v.i,.bool v.b,.string v.s] 24)).cell? ((⟨w.heap.size,0,none⟩:Addr).add j)=some u:=by
  have hb:(w.alloc (.cells #[.int .i64 v.k,.int .i64 v.i,.bool v.b,.string v.s] 24)).heap[w.heap.size]? = some (.cells #[.int .i64 v.k,.int .i64 v.i,.bool v.b,.string v.s] 24 (0,0)):=heap_alloc_new w _
  intro j u hj
  rw [addr_off,Nat.zero_add,cell_of_row _ _ _ _ _ _ hb]
  simpa [rowV,V.cells] using hj
section
variable {P:Program}
theorem wpV_append_eq (w:World) {ops:Array Oper} {rest:List Oper} {o:Oper} {a:Act} {Q:Exit→Act→World→Prop} (hgd:o.guard=none) (d s:Operand) (t t':TypeId)
    (ho:o.op=.call { callee:=.builtin .append,args:=#[d,s],argTypes:=#[t,t'] }) (v u:Value) (hd:a.eval d=v) (hs:a.eval s=u) {v':Value} {w':World}
    (hr:(Builtin.append_ #[t,t'] o.type #[v,u]).run P w=.ok v' w') (h:wpList P ops Q rest (a.put o.dst v') w'):wpList P ops Q (o :: rest) a w:=by
  refine wpList_plain hgd fun _ hK => ?_
  unfold Oper.wp execOp
  simp only [ho,resolve,invoke,builtin,Sem.run_bind,Sem.run_pure,Result.andThen_ok,List.map_toArray,List.map_cons,List.map_nil,hd,hs,hr]
  exact hK _ _ h
end
theorem run_append_val (w:World) (base:Nat) (hbase:base≤w.heap.size) (v:Value) (n:Nat) (xs p:List Value) (hown:w.ownsRow base 24 4 v n xs) (hxl:xs.length=n * 4) (hl:n≤3518437208882) (hp:p.length=4) (hp1:∀ u ∈ p,u.oneCell'=true)
    (a:Addr) (c:Nat) (hnews:∀ j u,p[j]? = some u→w.cell? (a.add j)=some u) :
    ∃ v' w',(∀ ty,(Builtin.append_ #[22,22] ty #[v,.slice (some a) 1 c]).run Tryz.prog w=.ok v' w')∧w'.ownsRow base 24 4 v' (n + 1) (xs ++ p)∧w.grownBy w' v.ownBlock∧(∀ k,v'.ownBlock=some k→v.ownBlock=some k∨w.heap.size≤k):=by
  obtain ⟨i0,hi,hz0,hz1,hz2⟩:=info_parts infoVal
  have hpl:p.length=1 * i0.size:=by rw [hz1,hp]
  have hpx:(xs ++ p).length=(n + 1) * 4:=by rw [List.length_append,hxl,hp];omega
  have grown:∀ (old:Nat),old < n + 1 →
      (w.drew.alloc (.cells (xs.toArray ++ p.toArray ++ Builtin.zeroCells (zVal).cells (grownCap w (n + 1) old 24 - (n + 1))) 24)).ownsRow base 24 4
        (.slice (some ⟨w.heap.size,0,none⟩) (n + 1) (grownCap w (n + 1) old 24)) (n + 1) (xs ++ p):=by
    intro old ho
    have hge:=grownCap_ge w (n + 1) old 24
    have hcm:grownCap w (n + 1) old 24≤maxLen:=grownCap_le_maxLen w (n + 1) old 24 (by simp only [maxLen];omega)
    refine ⟨hpx,.inr ⟨w.heap.size,_,_,rfl,hbase,heap_alloc_new w.drew _,hge,hcm,?_,?_⟩⟩
    · simp only [Array.size_append,List.size_toArray,size_zeroCells,hxl,hp]
      have hz3:(zVal).cells.size=4:=rfl
      rw [hz3]
      omega
    · simp only [Array.toList_append]
      rw [show (xs ++ p ++ (Builtin.zeroCells (zVal).cells (grownCap w (n + 1) old 24 - (n + 1))).toList)=(xs ++ p) ++ (Builtin.zeroCells (zVal).cells (grownCap w (n + 1) old 24 - (n + 1))).toList from rfl,← hpx]
      exact List.take_left
  rcases hown.2 with ⟨rfl,h0⟩ | ⟨g,cap,cur,rfl,hb,hgg,hnc,hcm,hcs,htake⟩
  · have e0:xs=[]:=List.eq_nil_of_length_eq_zero (by omega)
    subst e0 h0
    have gr:=grown 0 (by omega)
    refine ⟨_,_,fun ty => run_append_nil w 22 ty 24 i0 (zVal) Tryz.underlying22 hi hz0 a 1 c p hpl hnews (by omega) (by omega) (by rw [hz2];omega),by simpa using gr,⟨rfl,rfl,rfl,by simp,fun k hk _ => Below.heap_alloc w.drew _ k hk⟩,?_⟩
    intro k hk
    simp [Value.ownBlock] at hk
    exact .inr (by omega)
  · by_cases hroom:n + 1≤cap
    · have hfit:n * i0.size + p.length≤cur.size:=by rw [hcs,hz1,hp];omega
      have hlt:(cur.toList.take (n * 4) ++ p).length=(n + 1) * 4:=by rw [htake];exact hpx
      refine ⟨_,_,fun ty => run_append_room w 22 ty 24 i0 Tryz.underlying22 hi g n cap cur hgg a 1 c p hpl hnews hp1 hroom hfit,⟨hpx,.inr ⟨g,cap,_,rfl,hb,setRow_heap w g cur _ 24 _ hgg,by omega,hcm,?_,?_⟩⟩,⟨rfl,rfl,rfl,by simp,fun k _ hk => setRow_other w g k _ (fun e => hk (by rw [e];rfl))⟩,fun k hk => .inl hk⟩
      · simp only [List.size_toArray,List.length_append,List.length_take,List.length_drop,Array.length_toList]
        omega
      · rw [hz1,← htake,List.append_assoc]
        rw [← List.append_assoc,← hlt]
        exact List.take_left
    · have hr:=fun ty => run_append_grow (P:=Tryz.prog) w 22 ty 24 i0 (zVal) Tryz.underlying22 hi hz0 ⟨g,0,none⟩ n cap xs (by rw [hz1];exact hxl) (hown.cells (g:=g) rfl) a 1 c p hpl hnews (by omega) (by omega) (growslice_fits (by omega) (by rw [hz2];omega))
      refine ⟨_,_,hr,grown cap (by omega),⟨rfl,rfl,rfl,by simp,fun k hk _ => Below.heap_alloc w.drew _ k hk⟩,?_⟩
      intro k hk
      simp [Value.ownBlock] at hk
      exact .inr (by omega)
theorem grown_new {w:World} {ad ad':Option Addr} {n n' cap cap':Nat} (ob:Obj) (hh:ad=none∨∃ g,ad=some ⟨g,0,none⟩) (hh':ad'=none∨∃ g,ad'=some ⟨g,0,none⟩) (h:∀ k,(Value.slice ad' n' cap').ownBlock=some k→(Value.slice ad n cap).ownBlock=some k∨(w.alloc ob).heap.size≤k):∀ k,At ad' k→At ad k∨w.heap.size < k:=by
  intro k hk
  rcases hh' with rfl | ⟨g',rfl⟩
  · simp [At] at hk
  · simp [At] at hk
    subst hk
    rcases h k rfl with h | h
    · rcases hh with rfl | ⟨g,rfl⟩
      · simp [Value.ownBlock] at h
      · simp [Value.ownBlock] at h
        exact .inl (by simp [At,h])
    · exact .inr (by simp at h;omega)
theorem wp_val {base:Nat} {w:World} {ad:Option Addr} {cap:Nat} {xs:List V} (h:OwnV base w ad cap xs) (hb:base≤w.heap.size) (hO:xs.length≤3518437208882) {ops:Array Oper} {rest:List Oper} {op:Oper} {A:Act} {Q:Exit→Act→World→Prop} (hgd:op.guard=none) (sl x:Operand)
    (ho:op.op=.call { callee:=.builtin .append,args:=#[sl,x],argTypes:=#[22,22] }) (v:V) (hs:A.eval sl=.slice ad xs.length cap) (hx:A.eval x=.slice (some ⟨w.heap.size,0,none⟩) 1 1)
    (hK:∀ ad' cap' w',OwnV base w' ad' cap' (xs ++ [v])→Frm (At ad) w w'→(∀ k,At ad' k→At ad k∨w.heap.size < k)→wpList Tryz.prog ops Q rest (A.put op.dst (.slice ad' (xs ++ [v]).length cap')) w'):wpList Tryz.prog ops Q (op :: rest) A (w.alloc (.cells #[.int .i64 v.k,.int .i64 v.i,.bool v.b,.string v.s] 24)):=by
  have ha:=h.alloc (.cells #[.int .i64 v.k,.int .i64 v.i,.bool v.b,.string v.s] 24)
  obtain ⟨v',w',hr,hown,hgrow,hnew⟩:=run_append_val _ base (Nat.le_trans hb (by simp)) (.slice ad xs.length cap) xs.length (rowV xs) (rowV [v]) ha (rowV_length xs) hO (by rw [rowV_length];rfl) (rowV_cells _) ⟨w.heap.size,0,none⟩ 1 (val_cells w v)
  obtain ⟨ad',cap',rfl⟩:=own_form hown
  have hl:(xs ++ [v]).length=xs.length + 1:=by simp
  have ho':OwnV base w' ad' cap' (xs ++ [v]):=by
    unfold OwnV
    rw [hl,rowV_append]
    exact hown
  have:=hK ad' cap' w' ho' (grown_frm _ hgrow (own_head h)) (grown_new _ (own_head h) (own_head hown) hnew)
  rw [hl] at this
  exact wpV_append_eq _ hgd sl x 22 22 ho _ _ hs hx (hr _) this
theorem wp_num {base:Nat} {w:World} {ad:Option Addr} {cap:Nat} {xs:List Int} (h:OwnI base w ad cap xs) (hb:base≤w.heap.size) (hO:xs.length≤17592186044000) {ops:Array Oper} {rest:List Oper} {op:Oper} {A:Act} {Q:Exit→Act→World→Prop} (hgd:op.guard=none) (sl x:Operand)
    (ho:op.op=.call { callee:=.builtin .append,args:=#[sl,x],argTypes:=#[86,86] }) (z:Int) (hs:A.eval sl=.slice ad xs.length cap) (hx:A.eval x=.slice (some ⟨w.heap.size,0,none⟩) 1 1)
    (hK:∀ ad' cap' w',OwnI base w' ad' cap' (xs ++ [z])→Frm (At ad) w w'→wpList Tryz.prog ops Q rest (A.put op.dst (.slice ad' (xs ++ [z]).length cap')) w'):wpList Tryz.prog ops Q (op :: rest) A (w.alloc (.cells #[.int .i64 z] 3)):=by
  obtain ⟨i0,hi0,hz0,hz1,hz2⟩:=info_parts infoInt
  have ha:OwnI base (w.alloc (.cells #[.int .i64 z] 3)) ad cap xs:=own_same h fun k _ hk => Below.heap_alloc w _ k hk
  have hb2:(w.alloc (.cells #[.int .i64 z] 3)).heap[w.heap.size]? = some (.cells #[.int .i64 z] 3 (0,0)):=heap_alloc_new w _
  refine wpList_append_own _ hgd sl x 86 ho base 3 i0 (.int .i64 0) 1 8 Tryz.underlying86 hi0 hz0 hz1 hz2 rfl (by decide) (.slice ad xs.length cap) xs.length (intCells xs) hs ha ⟨w.heap.size,0,none⟩ 1 1 (intCells [z]) hx rfl (fun j u hj => ?_) (int_one _) (by simp only [maxLen];omega) (by omega) (Nat.le_trans hb (by simp)) ?_
  · have hj1:j < 1:=by have:=(List.getElem?_eq_some_iff.1 hj).1;simpa [intCells] using this
    have hj0:j=0:=by omega
    subst hj0
    rw [show (⟨w.heap.size,0,none⟩:Addr).add 0=⟨w.heap.size,0,none⟩ by simp [Addr.add],cell_of_row _ _ _ _ _ _ hb2]
    simpa [intCells] using hj
  intro v' w' hown hgrow _
  obtain ⟨ad',cap',rfl⟩:=own_form hown
  have hl:(xs ++ [z]).length=xs.length + 1:=by simp
  have ho':OwnI base w' ad' cap' (xs ++ [z]):=by
    unfold OwnI
    rw [hl,intCells_append]
    exact hown
  have:=hK ad' cap' w' ho' (grown_frm _ hgrow (own_head h))
  rwa [hl] at this
theorem OwnI.stored {base cap g:Nat} {w:World} {xs:List Int} (h:OwnI base w (some ⟨g,0,none⟩) cap xs) (j:Nat) (z:Int):OwnI base (w.setCell ⟨g,j,none⟩ (.int .i64 z)) (some ⟨g,0,none⟩) cap (xs.set j z):=by
  have h2:=(World.ownsRow.stored h j (.int .i64 z)).1
  unfold OwnI
  rw [List.length_set,show intCells (xs.set j z)=(intCells xs).set j (.int .i64 z) by simp [intCells,List.map_set]]
  exact h2
theorem OwnI.get {base cap g:Nat} {w:World} {xs:List Int} (h:OwnI base w (some ⟨g,0,none⟩) cap xs) (j:Nat) (hj:j < xs.length):w.cell? ⟨g,j,none⟩=some (.int .i64 xs[j])∧w.frozen? ⟨g,j,none⟩=false :=
  ⟨(World.ownsRow.cellAt h j (by omega)).trans (intCells_get xs j hj),World.ownsRow.frozenAt h j⟩
theorem OwnI.there {base cap:Nat} {w:World} {a:Option Addr} {xs:List Int} (h:OwnI base w a cap xs) (hx:xs ≠ []):∃ g,a=some ⟨g,0,none⟩:=by
  rcases h.block with ⟨_,_,h0⟩ | ⟨g,rfl,_⟩
  · exact absurd h0 hx
  · exact ⟨g,rfl⟩
theorem OwnV.there {base cap:Nat} {w:World} {a:Option Addr} {xs:List V} (h:OwnV base w a cap xs) (hx:xs ≠ []):∃ g,a=some ⟨g,0,none⟩:=by
  rcases h.block with ⟨_,_,h0⟩ | ⟨g,rfl,_⟩
  · exact absurd h0 hx
  · exact ⟨g,rfl⟩
theorem OwnV.get {base cap g:Nat} {w:World} {xs:List V} (h:OwnV base w (some ⟨g,0,none⟩) cap xs) (j:Nat) (hj:j < xs.length):ValAt w g (j * 4) xs[j]:=by
  rcases h.isV with h0 | ⟨b,off,e,hv⟩
  · subst h0;simp at hj
  · injection e with e
    injection e with e1 e2 _
    subst e1 e2
    have:=hv j hj
    rwa [Nat.zero_add] at this
end Go.Proofs.YtfbmlefhjoblbaaGreat
namespace Go.Proofs.YtfbmlefhjoblbaaGreat
open Go.Conc Go.RowKit
set_option linter.unusedVariables false
set_option linter.unusedSimpArgs false
def zeroV:V:=⟨0,0,false,ByteArray.empty⟩
theorem snoc_ind {α:Type} {P:List α→Prop} (h0:P []) (h1:∀ vs v,P vs→P (vs ++ [v])) (vs:List α):P vs:=by
  have:∀ n,n≤vs.length→P (vs.take n):=by
    intro n
    induction n with
    | zero => intro _;simpa using h0
    | succ n ih =>
      intro h
      rw [← List.take_append_getElem (by omega)]
      exact h1 _ _ (ih (by omega))
  have:=this vs.length (Nat.le_refl _)
  rwa [List.take_length] at this
theorem getD_left {α:Type} {l r:List α} {d:α} {i:Nat} (h:i < l.length):(l ++ r).getD i d=l.getD i d:=by
  rw [List.getD_eq_getElem?_getD,List.getD_eq_getElem?_getD,List.getElem?_append_left h]
theorem getD_end {α:Type} {l:List α} {x d:α}:(l ++ [x]).getD l.length d=x:=by
  rw [List.getD_eq_getElem?_getD,List.getElem?_append_right (Nat.le_refl _),Nat.sub_self];rfl
theorem getD_set_other {α:Type} {l:List α} {x d:α} {i k:Nat} (h:k ≠ i):(l.set k x).getD i d=l.getD i d:=by
  rw [List.getD_eq_getElem?_getD,List.getD_eq_getElem?_getD,List.getElem?_set_ne h]
theorem getD_set_same {α:Type} {l:List α} {x d:α} {k:Nat} (h:k < l.length):(l.set k x).getD k d=x:=by
  rw [List.getD_eq_getElem?_getD,List.getElem?_set_self h];rfl
theorem getD_in {α:Type} {l:List α} {d:α} {i:Nat} (h:i < l.length):l.getD i d=l[i]:=by
  rw [List.getD_eq_getElem?_getD,List.getElem?_eq_getElem h];rfl
theorem last_getD {α:Type} {l:List α} {p d:α} (h:l.getLast? = some p):0 < l.length∧l.getD (l.length - 1) d=p:=by
  have h1:0 < l.length:=by
    cases l with
    | nil => simp at h
    | cons => simp
  refine ⟨h1,?_⟩
  rw [List.getLast?_eq_getElem?] at h
  rw [List.getD_eq_getElem?_getD,h];rfl
theorem IsL.get {w:World} {a:Option Addr} {xs:List Int} (h:IsL w a xs) {n:Nat} (hn:n < xs.length):∃ b off,a=some ⟨b,off,none⟩∧w.cell? ⟨b,off + n,none⟩=some (.int .i64 (xs.getD n 0)):=by
  rcases h with h | ⟨b,off,rfl,hc⟩
  · subst h;simp at hn
  · exact ⟨b,off,rfl,by rw [getD_in hn];exact hc n hn⟩
theorem IsV.get {w:World} {a:Option Addr} {xs:List V} (h:IsV w a xs) {n:Nat} (hn:n < xs.length):∃ b off,a=some ⟨b,off,none⟩∧ValAt w b (off + n * 4) (xs.getD n zeroV):=by
  rcases h with h | ⟨b,off,rfl,hc⟩
  · subst h;simp at hn
  · exact ⟨b,off,rfl,by rw [getD_in hn];exact hc n hn⟩
end Go.Proofs.YtfbmlefhjoblbaaGreat
namespace Go.Proofs.YtfbmlefhjoblbaaGreat
open Go.Conc Go.RowKit
set_option linter.unusedVariables false
def Lies (lo hi:Nat) (a:Option Addr):Prop:=∀ k,At a k→lo≤k∧k < hi
theorem isl_frm {w w':World} {a b:Option Addr} {xs:List Int} {lo hi lo2 hi2:Nat} (h:IsL w a xs) (hf:Frm (At b) w w') (ha:Lies lo hi a) (hb:Lies lo2 hi2 b) (hd:hi≤lo2∨hi2≤lo) (hz:hi≤w.heap.size):IsL w' a xs :=
  h.keep fun k hk => hf.block k (by have:=ha k hk;omega) fun h2 => by have:=ha k hk;have:=hb k h2;omega
theorem isv_frm {w w':World} {a b:Option Addr} {xs:List V} {lo hi lo2 hi2:Nat} (h:IsV w a xs) (hf:Frm (At b) w w') (ha:Lies lo hi a) (hb:Lies lo2 hi2 b) (hd:hi≤lo2∨hi2≤lo) (hz:hi≤w.heap.size):IsV w' a xs :=
  h.keep fun k hk => hf.block k (by have:=ha k hk;omega) fun h2 => by have:=ha k hk;have:=hb k h2;omega
structure Rest (w u:World) (n3 n4 n5:Nat) (ax:Option Addr) (ac ad:Option Addr) (vs:List V) (m:List Int) (e:List V):Prop where
  x:IsV u ax vs
  c:IsL u ac m
  d:IsV u ad e
  lx:Lies 0 n3 ax
  lc:Lies n4 n5 ac
  ld:Lies n4 n5 ad
  s3:w.heap.size≤n3
  s4:n3≤n4
  s5:n4≤n5
  sz:n5≤u.heap.size
  below:Below w.heap.size w u
theorem Rest.frm {w u u':World} {n3 n4 n5:Nat} {x ac ad b:Option Addr} {vs:List V} {m:List Int} {e:List V} (h:Rest w u n3 n4 n5 x ac ad vs m e) (hf:Frm (At b) u u') (hb:Lies n3 n4 b):Rest w u' n3 n4 n5 x ac ad vs m e :=
  ⟨isv_frm h.x hf h.lx hb (.inl (Nat.le_refl _)) (by have:=h.s4;have:=h.s5;have:=h.sz;omega),isl_frm h.c hf h.lc hb (.inr (Nat.le_refl _)) h.sz,isv_frm h.d hf h.ld hb (.inr (Nat.le_refl _)) h.sz,h.lx,h.lc,h.ld,h.s3,h.s4,h.s5,Nat.le_trans h.sz hf.size,Frm.to_below h.below hf (fun k hk => Nat.le_trans h.s3 (hb k hk).1) (Nat.le_refl _)⟩
theorem Rest.more {w u u':World} {n3 n4 n5:Nat} {x ac ad:Option Addr} {vs:List V} {m:List Int} {e:List V} (h:Rest w u n3 n4 n5 x ac ad vs m e) (hb:Below u.heap.size u u'):Rest w u' n3 n4 n5 x ac ad vs m e :=
  ⟨h.x.below hb,h.c.below hb,h.d.below hb,h.lx,h.lc,h.ld,h.s3,h.s4,h.s5,Nat.le_trans h.sz hb.size,h.below.trans (hb.mono h.below.size)⟩
theorem OwnI.cap {base cap:Nat} {w:World} {a:Option Addr} {xs:List Int} (h:OwnI base w a cap xs):xs.length≤cap:=by
  rcases h.block with ⟨_,rfl,rfl⟩ | ⟨g,_,_,_,hc,_⟩
  · simp
  · exact hc
theorem OwnV.cap {base cap:Nat} {w:World} {a:Option Addr} {xs:List V} (h:OwnV base w a cap xs):xs.length≤cap:=by
  rcases h.block with ⟨_,rfl,rfl⟩ | ⟨g,_,_,_,hc,_⟩
  · simp
  · exact hc
end Go.Proofs.YtfbmlefhjoblbaaGreat
namespace Go.Proofs.YtfbmlefhjoblbaaGreat
open Go.ChangeShapes Go.WideShapes Go.ChangeAt Go.RowKit
set_option linter.unusedVariables false
end Go.Proofs.YtfbmlefhjoblbaaGreat
