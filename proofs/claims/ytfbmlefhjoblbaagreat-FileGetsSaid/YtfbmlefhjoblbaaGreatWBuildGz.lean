/- Spaces and remarks left out: a claim is at most so large. -/
import Derived.Test.YtfbmlefhjoblbaaGreatWmathGz
import Derived.Test.YtfbmlefhjoblbaaGreatValLGz
import Derived.Maps.OwnSet
import Derived.Maps.OwnOps
import Derived.Test.YtfbmlefhjoblbaaGreatNPFileGetsGz3
namespace Go.Proofs.YtfbmlefhjoblbaaGreat
open Go.Conc Go.RowKit Go.ChangeMaps
set_option linter.unusedVariables false
set_option linter.unusedSimpArgs false
def keyV (v:V):Value:=.agg #[.int .i64 v.k,.int .i64 v.i,.bool v.b,.string v.s]
theorem und_tmapvi:Tryz.prog.underlying 200=some (.map 24 3):=by kernel_rfl
theorem run_equal_val (o p:V) (w:World):(Op.equal 24 (keyV o) (keyV p)).run Tryz.prog w=.ok (decide (o=p)) w:=by
  unfold keyV
  rw [← sameV_dec]
  unfold sameV
  change (Op.equalIn 10000 24 (.agg #[.int .i64 o.k,.int .i64 o.i,.bool o.b,.string o.s]) (.agg #[.int .i64 p.k,.int .i64 p.i,.bool p.b,.string p.s])).run Tryz.prog w=_
  cases h1:(o.k == p.k) <;> cases h2:(o.i == p.i) <;> cases h3:(o.b == p.b) <;> cases h4:(o.s.toList == p.s.toList) <;> go_simp
theorem run_check_val (e:Bool) (v:V) (w:World):(Instr.checkKey e 10000 24 (keyV v)).run Tryz.prog w=.ok () w:=by
  kernel_rfl
theorem run_find_val (v:V) (w:World):∀ (es:List MapEntry) (ws:List V) (i:Nat),es.map (·.key)=ws.map keyV →
    (Instr.findAsking 24 (keyV v) es i).run Tryz.prog w=.ok ((es[placeV v ws]?).map fun e => (i + placeV v ws,e.val)) w
  | [],[],i,_ => rfl
  | [],_ :: _,i,h => by simp at h
  | _ :: _,[],i,h => by simp at h
  | e :: es,x :: ws,i,h => by
    simp only [List.map_cons,List.cons.injEq] at h
    unfold Instr.findAsking
    rw [h.1]
    simp only [Sem.run_bind,run_equal_val,Result.andThen_ok]
    rw [placeV]
    by_cases c:x=v
    · subst c
      simp [Sem.run_pure]
    · rw [if_neg c,decide_eq_false (fun e => c e.symm)]
      simp only [Bool.false_eq_true,if_false]
      rw [run_find_val v w es ws (i + 1) h.2]
      rw [List.getElem?_cons_succ,show i + 1 + placeV v ws=i + (placeV v ws + 1) by omega]
theorem findNow_val (v:V):∀ (es:List MapEntry) (i:Nat) (d:TypeDesc),Tryz.prog.underlying 24=some d→(∀ r,Instr.findNow d (keyV v) es i=some r→r=none∧es=[])
  | [],i,d,hd,r,h => by
    simp [Instr.findNow] at h
    exact ⟨h.symm,rfl⟩
  | e :: es,i,d,hd,r,h => by
    rw [Tryz.underlying24] at hd
    injection hd with hd
    subst hd
    simp [Instr.findNow,Instr.sameNow,keyV] at h
theorem run_findKey_val (v:V) (w:World) (es:List MapEntry) (ws:List V) (h:es.map (·.key)=ws.map keyV) :
    (Instr.findKey 24 (keyV v) es).run Tryz.prog w=.ok ((es[placeV v ws]?).map fun e => (placeV v ws,e.val)) w:=by
  unfold Instr.findKey
  simp only [Sem.run_bind,run_underlying Tryz.underlying24,Result.andThen_ok]
  cases hn:Instr.findNow _ (keyV v) es 0 with
  | none => simpa using run_find_val v w es ws 0 h
  | some r =>
    obtain ⟨rfl,rfl⟩:=findNow_val v es 0 _ Tryz.underlying24 r hn
    rfl
def MapOf (w:World) (b:Nat) (ws:List V):Prop :=
  ∃ (es:Array MapEntry) (clock:Nat),w.heap[b]? = some (.map es clock)∧es.toList.map (·.key)=ws.map keyV∧∀ j,j < ws.length→(es.toList[j]?).map (·.val)=some (.int .i64 j)
theorem MapOf.new (w:World):MapOf (w.alloc (.map #[] 0)) w.heap.size [] :=
  ⟨#[],0,heap_alloc_new w _,rfl,fun j hj => by simp at hj⟩
theorem MapOf.same {w w':World} {b:Nat} {ws:List V} (h:MapOf w b ws) (hb:w'.heap[b]? = w.heap[b]?):MapOf w' b ws:=by
  obtain ⟨es,clock,h1,h2⟩:=h
  exact ⟨es,clock,hb.trans h1,h2⟩
theorem MapOf.lt {w:World} {b:Nat} {ws:List V} (h:MapOf w b ws):b < w.heap.size:=by
  obtain ⟨es,clock,h1,_⟩:=h
  exact (Array.getElem?_eq_some_iff.1 h1).1
theorem MapOf.below {w w':World} {b:Nat} {ws:List V} (h:MapOf w b ws) (hb:Below w.heap.size w w'):MapOf w' b ws:=h.same (hb.block b h.lt)
theorem MapOf.look {w:World} {b:Nat} {ws:List V} (h:MapOf w b ws) (v:V) :
    (Instr.lookup 200 (.map (some b)) (keyV v) true).run Tryz.prog w=.ok (.tuple #[.int .i64 (if placeV v ws < ws.length then (placeV v ws:Int) else 0),.bool (decide (placeV v ws < ws.length))]) w:=by
  obtain ⟨es,clock,h1,h2,h3⟩:=h
  have hl:es.toList.length=ws.length:=by simpa using congrArg List.length h2
  unfold Instr.lookup
  simp only [Sem.run_bind,run_underlying und_tmapvi,Result.andThen_ok,MapKept.run_getObj_map h1,Sem.run_pure,run_check_val,run_findKey_val v w es.toList ws h2]
  by_cases c:placeV v ws < ws.length
  · have h4:=h3 _ c
    rw [List.getElem?_eq_getElem (by omega)] at h4 ⊢
    simp only [Option.map_some,Option.some.injEq] at h4 ⊢
    simp only [Sem.run_pure,Result.andThen_ok,h4,if_pos c,decide_eq_true c,if_true]
    rfl
  · have hz:∀ u:World,(zeroValue 3).run Tryz.prog u=.ok (.int .i64 0) u:=fun u => by kernel_rfl
    rw [List.getElem?_eq_none (by omega)]
    simp only [Option.map_none,Sem.run_pure,Sem.run_bind,hz,Result.andThen_ok,if_neg c,decide_eq_false c,if_true]
theorem MapOf.put {w:World} {b:Nat} {ws:List V} (h:MapOf w b ws) (v:V) (hv:placeV v ws=ws.length) :
    ∃ w',(Instr.mapUpdate 200 (.map (some b)) (keyV v) (.int .i64 ws.length)).run Tryz.prog w=.ok () w'∧MapOf w' b (ws ++ [v])∧Frm (fun k => k=b) w w':=by
  obtain ⟨es,clock,h1,h2,h3⟩:=h
  have hl:es.toList.length=ws.length:=by simpa using congrArg List.length h2
  refine ⟨setBlock w b (.map (es.push ⟨keyV v,.int .i64 ws.length,clock⟩) (clock + 1)),?_,⟨_,_,heap_setBlock_same h1 _,by simp [h2],fun j hj => ?_⟩,?_⟩
  · unfold Instr.mapUpdate
    simp only [Sem.run_bind,run_underlying und_tmapvi,Result.andThen_ok,MapKept.run_getObj_map h1,run_check_val,run_findKey_val v w es.toList ws h2]
    rw [hv,List.getElem?_eq_none (by omega)]
    simp only [Option.map_none,MapKept.run_setObj_map _ h1]
    rfl
  · rw [Array.toList_push]
    by_cases c:j < ws.length
    · rw [List.getElem?_append_left (by omega)]
      exact h3 j c
    · obtain rfl:j=ws.length:=by simp at hj;omega
      rw [← hl,List.getElem?_append_right (Nat.le_refl _)]
      simp [hl]
  · exact ⟨rfl,rfl,rfl,by simp [setBlock],fun k _ hk => heap_setBlock_other h1 _ hk⟩
section
variable {w:World} {b:Nat} {ws:List V} {ops:Array Oper} {rest:List Oper} {op:Oper} {A:Act} {Q:Exit→Act→World→Prop}
theorem wp_look (h:MapOf w b ws) (hgd:op.guard=none) (m x:Operand) (ho:op.op=Op.lookup 200 m x true) (v:V) (hm:A.eval m=.map (some b)) (hx:A.eval x=.agg #[.int .i64 v.k,.int .i64 v.i,.bool v.b,.string v.s])
    (hK:wpList Tryz.prog ops Q rest (A.put op.dst (.tuple #[.int .i64 (if placeV v ws < ws.length then (placeV v ws:Int) else 0),.bool (decide (placeV v ws < ws.length))])) w):wpList Tryz.prog ops Q (op :: rest) A w:=by
  refine wpList_plain hgd fun K' hK' => ?_
  have hrun:=h.look v
  unfold keyV at hrun
  unfold Oper.wp
  simp [execOp,ho,hm,hx,hrun,Result.andThen]
  exact hK' _ _ hK
theorem wp_look_yes (h:MapOf w b ws) (hgd:op.guard=none) (m x:Operand) (ho:op.op=Op.lookup 200 m x true) (v:V) {k:Nat} (hk:k=placeV v ws) (hl:placeV v ws < ws.length) (hm:A.eval m=.map (some b)) (hx:A.eval x=.agg #[.int .i64 v.k,.int .i64 v.i,.bool v.b,.string v.s])
    (hK:wpList Tryz.prog ops Q rest (A.put op.dst (.tuple #[.int .i64 k,.bool true])) w):wpList Tryz.prog ops Q (op :: rest) A w :=
  wp_look h hgd m x ho v hm hx (by rw [if_pos hl,decide_eq_true hl,← hk];exact hK)
theorem wp_look_no (h:MapOf w b ws) (hgd:op.guard=none) (m x:Operand) (ho:op.op=Op.lookup 200 m x true) (v:V) (hl:¬ placeV v ws < ws.length) (hm:A.eval m=.map (some b)) (hx:A.eval x=.agg #[.int .i64 v.k,.int .i64 v.i,.bool v.b,.string v.s])
    (hK:wpList Tryz.prog ops Q rest (A.put op.dst (.tuple #[.int .i64 0,.bool false])) w):wpList Tryz.prog ops Q (op :: rest) A w :=
  wp_look h hgd m x ho v hm hx (by rw [if_neg hl,decide_eq_false hl];exact hK)
theorem wp_putmap (h:MapOf w b ws) (hgd:op.guard=none) (m x y:Operand) (ho:op.op=Op.mapUpdate 200 m x y) (v:V) (hv:placeV v ws=ws.length) (hm:A.eval m=.map (some b)) (hx:A.eval x=.agg #[.int .i64 v.k,.int .i64 v.i,.bool v.b,.string v.s]) (hy:A.eval y=.int .i64 ws.length)
    (hK:∀ w',MapOf w' b (ws ++ [v])→Frm (fun k => k=b) w w'→wpList Tryz.prog ops Q rest (A.put op.dst undef) w'):wpList Tryz.prog ops Q (op :: rest) A w:=by
  refine wpList_plain hgd fun K' hK' => ?_
  obtain ⟨w',hrun,r1,r2⟩:=h.put v hv
  unfold keyV at hrun
  unfold Oper.wp
  simp [execOp,ho,hm,hx,hy,hrun,Result.andThen]
  exact hK' _ _ (hK w' r1 r2)
end
end Go.Proofs.YtfbmlefhjoblbaaGreat
namespace Go.Proofs.YtfbmlefhjoblbaaGreat
open Go.Conc Go.RowKit
set_option linter.unusedVariables false
structure WAt (w wr:World) (vs:List V) (n:Nat) (aw ai:Option Addr) (cw ci:Nat) (ws:List V) (at_:List Int):Prop where
  is:buildA (vs.take n)=(ws,at_)
  words:OwnV (w.heap.size + 1) wr aw cw ws
  nums:OwnI (w.heap.size + 1) wr ai ci at_
  map:MapOf wr w.heap.size ws
  below:Below w.heap.size w wr
structure WRd (w u:World) (g:Nat) (v:V) (aw ai:Option Addr) (cw ci:Nat) (ms ws:List V) (at_:List Int):Prop where
  words:OwnV (w.heap.size + 1) u aw cw ws
  nums:OwnI (w.heap.size + 1) u ai ci at_
  map:MapOf u w.heap.size ms
  hand:Slot u g v
  offw:¬ At aw g
  offi:¬ At ai g
  gt:w.heap.size < g
  below:Below w.heap.size w u
section
variable {w u u':World} {g n cw ci:Nat} {v:V} {vs ws ms:List V} {aw ai:Option Addr} {at_:List Int}
theorem WAt.rd (h:WAt w u vs n aw ai cw ci ws at_) (v:V):WRd w (u.alloc (.cells #[.int .i64 v.k,.int .i64 v.i,.bool v.b,.string v.s] 24)) u.heap.size v aw ai cw ci ws ws at_ :=
  ⟨own_same h.words fun k _ hk => Below.heap_alloc u _ k hk,own_same h.nums fun k _ hk => Below.heap_alloc u _ k hk,h.map.same (Below.heap_alloc u _ _ h.map.lt),Slot.new u v,fun hk => by have:=(h.words.at_ge hk).2;omega,fun hk => by have:=(h.nums.at_ge hk).2;omega,h.map.lt,h.below.alloc h.below.size _⟩
theorem WRd.more (h:WRd w u g v aw ai cw ci ms ws at_) (hb:Below u.heap.size u u'):WRd w u' g v aw ai cw ci ms ws at_ :=
  ⟨h.words.below hb,h.nums.below hb,h.map.below hb,h.hand.below hb,h.offw,h.offi,h.gt,h.below.trans (hb.mono h.below.size)⟩
theorem WRd.store (h:WRd w u g v aw ai cw ci ms ws at_) (p:V):WRd w ((((u.setCell ⟨g,0,none⟩ (.int .i64 p.k)).setCell ⟨g,1,none⟩ (.int .i64 p.i)).setCell ⟨g,2,none⟩ (.bool p.b)).setCell ⟨g,3,none⟩ (.string p.s)) g p aw ai cw ci ms ws at_:=by
  have hf:=Frm.chain (u:=u) (F:=fun k => k=g) rfl p
  have hg:=h.gt
  exact ⟨h.words.frm hf fun k hk _ e => h.offw (e ▸ hk),h.nums.frm hf fun k hk _ e => h.offi (e ▸ hk),h.map.same (hf.block _ h.map.lt (by omega)),h.hand.store p,h.offw,h.offi,hg,Frm.to_below h.below hf (fun k e => by omega) (Nat.le_refl _)⟩
theorem WRd.put {ms':List V} (h:WRd w u g v aw ai cw ci ms ws at_) (hm:MapOf u' w.heap.size ms') (hf:Frm (fun k => k=w.heap.size) u u'):WRd w u' g v aw ai cw ci ms' ws at_:=by
  have hg:=h.gt
  exact ⟨h.words.frm hf fun k hk _ e => by have:=(h.words.at_ge hk).1;omega,h.nums.frm hf fun k hk _ e => by have:=(h.nums.at_ge hk).1;omega,hm,h.hand.same (hf.block _ h.hand.lt (by omega)),h.offw,h.offi,hg,Frm.to_below h.below hf (fun k e => by omega) (Nat.le_refl _)⟩
theorem WRd.val {aw':Option Addr} {cw':Nat} {ws':List V} (h:WRd w u g v aw ai cw ci ms ws at_) (ho:OwnV (w.heap.size + 1) u' aw' cw' ws') (hf:Frm (At aw) u u') (hn:∀ k,At aw' k→At aw k∨u.heap.size < k):WRd w u' g v aw' ai cw' ci ms ws' at_:=by
  have hl:=h.hand.lt
  exact ⟨ho,h.nums.frm hf fun k hk _ hk2 => apart_iv h.nums h.words hk hk2,h.map.same (hf.block _ h.map.lt fun hk => by have:=(h.words.at_ge hk).1;omega),h.hand.same (hf.block _ hl fun hk => h.offw hk),fun hk => by
    rcases hn _ hk with h1 | h1
    · exact h.offw h1
    · omega,h.offi,h.gt,Frm.to_below h.below hf (fun k hk => by have:=(h.words.at_ge hk).1;omega) (Nat.le_refl _)⟩
theorem WRd.num {ai':Option Addr} {ci' n:Nat} {at':List Int} (h:WRd w u g v aw ai cw ci ws ws at_) (ho:OwnI (w.heap.size + 1) u' ai' ci' at') (hf:Frm (At ai) u u') (hc:buildA (vs.take n)=(ws,at')):WAt w u' vs n aw ai' cw ci' ws at' :=
  ⟨hc,h.words.frm hf fun k hk _ hk2 => apart_iv h.nums h.words hk2 hk,ho,h.map.same (hf.block _ h.map.lt fun hk => by have:=(h.nums.at_ge hk).1;omega),Frm.to_below h.below hf (fun k hk => by have:=(h.nums.at_ge hk).1;omega) (Nat.le_refl _)⟩
end
set_option maxRecDepth 100000 in
set_option maxHeartbeats 4000000 in
theorem wbuild_any (w:World) (a:Option Addr) (cap:Nat) (vs:List V) (ha:IsV w a vs) (hx:vs.length * 40≤140737488355328) (hs:∀ v ∈ vs,v.s.size≤281474976710656) :
    Calls Tryz.prog 155 #[.slice a vs.length cap] w fun e w' => ∃ aw cw ai ci,e=.returned (.tuple #[.slice aw (buildA vs).1.length cw,.slice ai (buildA vs).2.length ci])∧OwnV w.heap.size w' aw cw (buildA vs).1∧OwnI w.heap.size w' ai ci (buildA vs).2∧Below w.heap.size w w':=by
  obtain ⟨R,hR⟩:∃ R,R=buildA vs:=⟨_,rfl⟩
  rw [← hR]
  have HR:=Lib.hid hR
  have HA:=Lib.hid ha
  have HS:=Lib.hid hs
  have H0:Hid (WAt w (w.alloc (.map #[] 0)) vs 0 none none 0 0 [] []) :=
    ⟨rfl,OwnV.nil _ _,OwnI.nil _ _,MapOf.new w,(Below.refl _ _).alloc (Nat.le_refl _) _⟩
  clear hR ha hs
  have hmm:=@run_makeMap Tryz.prog
  go_enter Tryz.func155,Tryz.ntmps155
  go_wp2
  clear hmm
  go_loopw [4,5,14] (fun wv tv iv wr => ∃ (n cw ci:Nat) (aw ai:Option Addr) (ws:List V) (at_:List Int),n≤vs.length∧iv=.int .i64 n∧wv=.slice aw ws.length cw∧tv=.slice ai at_.length ci∧Hid (WAt w wr vs n aw ai cw ci ws at_)) (fun _ _ iv _ => vs.length - (intOf iv).toNat)
  case atStart => exact ⟨0,0,0,none,none,[],[],Nat.zero_le _,rfl,rfl,rfl,H0⟩
  case round =>
    obtain ⟨n,cw,ci,aw,ai,ws,at_,hn,rfl,rfl,rfl,HC⟩:=hrel
    by_cases c:n < vs.length
    · rcases HA.out with h | ⟨bb,off,rfl,hcells⟩
      · subst h;simp at c
      obtain ⟨v0,v1,v2,v3⟩:=(hcells n c).below HC.out.below
      have hsz:=HS.out vs[n] (List.getElem_mem _)
      have HST:=Lib.hid (buildA_take vs n c)
      clear hcells
      generalize vs[n]=v at *
      obtain ⟨p,hp⟩:∃ p,p=plainV v:=⟨_,rfl⟩
      have HP:=Lib.hid hp
      have T1:Hid (∀ u,Calls Tryz.prog 54 #[.agg #[.int .i64 v.k,.int .i64 v.i,.bool v.b,.string v.s]] u fun e w' => e=.returned (.agg #[.int .i64 p.k,.int .i64 p.i,.bool p.b,.string p.s])∧Below u.heap.size u w'):=by rw [hp];exact fun u => plain_any v u
      have T2:Hid (∀ u,Calls Tryz.prog 163 #[.agg #[.int .i64 p.k,.int .i64 p.i,.bool p.b,.string p.s]] u fun e w' => e=.returned (.agg #[.int .i64 p.k,.int .i64 p.i,.bool p.b,.string p.s])∧Below u.heap.size u w'):=by
        have:=fun u => vcopy_any (plainV v) (Nat.le_trans (plainV_size v) hsz) u
        rw [plainV_twice,← hp] at this
        exact this
      clear hp hsz
      have HB:=built (vs.take n)
      rw [HC.out.is] at HB
      have htl:at_.length=n:=by rw [HB.len,List.length_take];omega
      have hwl:ws.length≤n:=by have:=HB.le;simp only [List.length_take] at this;omega
      have HEN:Hid (buildA (vs.take (n + 1))=(if placeV p ws=ws.length then ws ++ [p] else ws,at_ ++ [((placeV p ws:Nat):Int)])):=by
        unfold Hid
        rw [HST.out,HC.out.is,buildStep,← HP.out]
      have hle:=placeV_le p ws
      have hib:at_.length≤17592186044000:=by omega
      have hwb:ws.length≤3518437208882:=by omega
      clear HB HST HP hwl htl
      have HRD:=Lib.hid (HC.out.rd v)
      generalize hg8:wr.heap.size=g8 at *
      clear HC
      go_upto_region 7 with fail
      generalize wr.alloc (.cells #[.int .i64 v.k,.int .i64 v.i,.bool v.b,.string v.s] 24)=u1 at *
      obtain ⟨⟨a0,a1,a2,a3⟩,b0,b1,b2,b3⟩:=HRD.out.hand.at
      go_upto_region 8 with (go_at_call 54;refine (T1.out _).mono ?_;rintro e w2 ⟨rfl,hb⟩;replace HRD:=Lib.hid (HRD.out.more hb);obtain ⟨⟨a0,a1,a2,a3⟩,b0,b1,b2,b3⟩:=HRD.out.hand.at;clear hb)
      replace HRD:=Lib.hid (HRD.out.store p)
      generalize ((((w2.setCell ⟨g8,0,none⟩ (.int .i64 p.k)).setCell ⟨g8,1,none⟩ (.int .i64 p.i)).setCell ⟨g8,2,none⟩ (.bool p.b)).setCell ⟨g8,3,none⟩ (.string p.s))=u3 at *
      clear a0 a1 a2 a3 b0 b1 b2 b3 T1 v0 v1 v2 v3
      obtain ⟨⟨a0,a1,a2,a3⟩,_⟩:=HRD.out.hand.at
      by_cases hpl:placeV p ws < ws.length
      · obtain ⟨k,hk⟩:∃ k,k=placeV p ws:=⟨_,rfl⟩
        rw [← hk] at HEN
        have HK:=Lib.hid hk
        have HKL:=Lib.hid hpl
        clear hk hpl hle
        go_upto_region 9 with (at_lookup;refine wp_look_yes HRD.out.map rfl _ _ rfl p HK.out HKL.out rfl rfl ?_)
        go_upto_region 13 with fail
        clear a0 a1 a2 a3
        have HEN2:Hid (buildA (vs.take (n + 1))=(ws,at_ ++ [(k:Int)])):=by
          unfold Hid
          rw [HEN.out,if_neg (by have h1:=HK.out;have h2:=HKL.out;omega)]
        go_wp2_with (at_builtin;refine wp_num HRD.out.nums (by have:=HRD.out.gt;have:=HRD.out.hand.lt;omega) hib rfl _ _ rfl k rfl rfl ?_;intro ai' ci' u4 ho hf;have HFIN:=Lib.hid (HRD.out.num (vs:=vs) ho hf HEN2.out);clear ho hf)
        go_roundw
        case rel => exact ⟨n + 1,cw,ci',aw,ai',ws,at_ ++ [(k:Int)],c,by go_num,rfl,by simp,HFIN⟩
        case measure => simp [intOf];omega
      · have hpe:placeV p ws=ws.length:=by omega
        rw [hpe,if_pos rfl] at HEN
        have HPE:=Lib.hid hpe
        have HPL:=Lib.hid hpl
        clear hpe hpl hle
        go_upto_region 9 with (at_lookup;refine wp_look_no HRD.out.map rfl _ _ rfl p HPL.out rfl rfl ?_)
        go_upto_region 11 with fail
        go_upto_region 12 with (at_mapUpdate;refine wp_putmap HRD.out.map rfl _ _ _ rfl p HPE.out rfl rfl rfl ?_;intro u5 hm hf;replace HRD:=Lib.hid (HRD.out.put hm hf);clear hm hf)
        clear a0 a1 a2 a3
        obtain ⟨⟨a0,a1,a2,a3⟩,_⟩:=HRD.out.hand.at
        go_upto_region 13 with (first
          | (go_at_call 163;refine (T2.out _).mono ?_;rintro e w5 ⟨rfl,hb⟩;replace HRD:=Lib.hid (HRD.out.more hb);clear hb)
          | (at_builtin;refine wp_val HRD.out.words (by have:=HRD.out.gt;have:=HRD.out.hand.lt;omega) hwb rfl _ _ rfl p rfl rfl ?_;intro aw' cw' u6 ho hf hn2;replace HRD:=Lib.hid (HRD.out.val ho hf hn2);clear ho hf hn2))
        clear a0 a1 a2 a3
        go_wp2_with (at_builtin;refine wp_num HRD.out.nums (by have:=HRD.out.gt;have:=HRD.out.hand.lt;omega) hib rfl _ _ rfl (ws.length:Int) rfl rfl ?_;intro ai' ci' u7 ho hf;have HFIN:=Lib.hid (HRD.out.num (vs:=vs) ho hf HEN.out);clear ho hf)
        go_roundw
        case rel => exact ⟨n + 1,cw',ci',aw',ai',ws ++ [p],at_ ++ [(ws.length:Int)],c,by go_num,by simp,by simp,HFIN⟩
        case measure => simp [intOf];omega
    · obtain rfl:n=vs.length:=by omega
      have hR:R=(ws,at_):=by rw [HR.out,← HC.out.is,List.take_length]
      subst hR
      clear c
      go_wp2
      go_ret2
      exact ⟨aw,cw,ai,ci,rfl,HC.out.words.lower (by omega),HC.out.nums.lower (by omega),HC.out.below⟩
end Go.Proofs.YtfbmlefhjoblbaaGreat
namespace Go.Proofs.YtfbmlefhjoblbaaGreat
open Go.Conc Go.RowKit
set_option linter.unusedVariables false
structure LookAt (w1 wr:World) (own:List V) (at_:List Int) (n:Nat) (aj:Option Addr) (cj:Nat) (out:List V):Prop where
  is:out=(at_.take n).map fun x => own.getD x.toNat zeroV
  ok:∀ x ∈ at_.take n,0≤x∧x < own.length
  vals:OwnV w1.heap.size wr aj cj out
  below:Below w1.heap.size w1 wr
theorem LookAt.len {w1 wr:World} {own:List V} {at_:List Int} {n:Nat} {aj:Option Addr} {cj:Nat} {out:List V} (h:LookAt w1 wr own at_ n aj cj out):out.length≤n:=by
  rw [h.is,List.length_map,List.length_take];omega
theorem LookAt.more {w1 wr u:World} {own:List V} {at_:List Int} {n:Nat} {aj:Option Addr} {cj:Nat} {out:List V} (h:LookAt w1 wr own at_ n aj cj out) (hb:Below wr.heap.size wr u):LookAt w1 u own at_ n aj cj out :=
  ⟨h.is,h.ok,h.vals.below hb,h.below.trans (hb.mono h.below.size)⟩
theorem LookAt.val {w1 u u':World} {own:List V} {at_:List Int} {n:Nat} {aj aj':Option Addr} {cj cj':Nat} {out:List V} {x:Nat} {p:V} (h:LookAt w1 u own at_ n aj cj out) (hc:n < at_.length) (hx:at_[n]=(x:Int)) (hx2:x < own.length) (hp:own[x]=p)
    (ho:OwnV w1.heap.size u' aj' cj' (out ++ [p])) (hf:Frm (At aj) u u'):LookAt w1 u' own at_ (n + 1) aj' cj' (out ++ [p]):=by
  have ht:at_.take (n + 1)=at_.take n ++ [(x:Int)]:=by rw [← hx];exact (List.take_append_getElem hc).symm
  refine ⟨?_,?_,ho,Frm.to_below h.below hf (fun k hk => (h.vals.at_ge hk).1) (Nat.le_refl _)⟩
  · rw [ht,List.map_append,← h.is,List.map_singleton,Int.toNat_natCast,getD_in hx2,hp]
  · rw [ht]
    intro y hy
    rcases List.mem_append.1 hy with hy | hy
    · exact h.ok y hy
    · simp at hy;subst hy;omega
set_option maxRecDepth 100000 in
set_option maxHeartbeats 4000000 in
theorem wlook_any (w:World) (a am:Option Addr) (cap cm:Nat) (ws:List V) (at_:List Int) (ha:IsV w a ws) (hm:IsL w am at_) (hx:ws.length * 40≤140737488355328) (hs:∀ v ∈ ws,v.s.size≤281474976710656) (hxm:at_.length≤3518437208882) :
    Calls Tryz.prog 157 #[.slice a ws.length cap,.slice am at_.length cm] w fun e w' => ∃ aj cj,e=.returned (.tuple #[.slice aj (lookA ws at_).1.length cj,.int .i64 (lookA ws at_).2])∧OwnV w.heap.size w' aj cj (lookA ws at_).1∧Below w.heap.size w w':=by
  obtain ⟨R,hR⟩:∃ R,R=lookA ws at_:=⟨_,rfl⟩
  rw [← hR]
  have HR:=Lib.hid hR
  have HM:=Lib.hid hm
  have T1:=Lib.hid (wbuild_any w a cap ws ha hx hs)
  have HBW:=Lib.hid (build_whole ws)
  have HBL:=Lib.hid (build_less ws)
  have hol:=(built ws).le
  generalize buildA ws=B at *
  obtain ⟨own,pl⟩:=B
  clear hR ha hm hs
  go_enter Tryz.func157,Tryz.ntmps157
  go_upto_region 2 with (go_at_call 155;refine T1.out.mono ?_;rintro e w1 ⟨ao,co,ai,ci,rfl,ho,_,hb⟩;have HB1:=Lib.hid hb;have HO:=Lib.hid ho;clear ho hb T1)
  by_cases hd:dupV ws
  · obtain rfl:R=([],800):=by rw [HR.out];exact lookA_dup hd
    have hl:=HBL.out hd
    have hli:(own.length:Int) < (ws.length:Int):=by omega
    clear hd
    go_wp2
    go_ret2
    exact ⟨none,0,rfl,OwnV.nil _ _,HB1.out⟩
  · have ho:=HBW.out hd
    have hlen:own.length=ws.length:=by rw [ho,List.length_map]
    have HWH:=Lib.hid ho
    have HD:=Lib.hid hd
    have HLN:=Lib.hid hlen
    rw [← hlen]
    rw [← hlen] at hx
    have hnl:¬ ((own.length:Int) < (own.length:Int)):=by omega
    have hnn:¬ (own.length < own.length):=by omega
    have H0:Hid (LookAt w1 w1 own at_ 0 none 0 []):=⟨rfl,fun x hx => by simp at hx,OwnV.nil _ _,Below.refl _ _⟩
    clear ho hd hlen hol HBW HBL
    go_wp2
    clear hnl hnn
    go_loopw [8,23] (fun jv iv wr => ∃ (n cj:Nat) (aj:Option Addr) (out:List V),n≤at_.length∧iv=.int .i64 n∧jv=.slice aj out.length cj∧Hid (LookAt w1 wr own at_ n aj cj out)) (fun _ iv _ => at_.length - (intOf iv).toNat)
    case atStart => exact ⟨0,0,none,[],Nat.zero_le _,rfl,rfl,H0⟩
    case round =>
      obtain ⟨n,cj,aj,out,hn,rfl,rfl,HC⟩:=hrel
      by_cases c:n < at_.length
      · obtain ⟨bm,om,rfl,hmc⟩:=HM.out.get (n:=n) c
        have hmc:=(HC.out.below.cell (p:=⟨bm,om + n,none⟩) (World.block_lt_of_cell? w1 _ ((HB1.out.cell (p:=⟨bm,om + n,none⟩) (World.block_lt_of_cell? w _ hmc)).trans hmc))).trans ((HB1.out.cell (p:=⟨bm,om + n,none⟩) (World.block_lt_of_cell? w _ hmc)).trans hmc)
        have HXE:Hid (at_.getD n 0=at_[n]):=getD_in c
        obtain ⟨x,hx'⟩:∃ x,x=at_.getD n 0:=⟨_,rfl⟩
        rw [← hx'] at hmc HXE
        clear hx'
        by_cases x1:x < 0
        · obtain rfl:R=([],800):=by
            rw [HR.out]
            exact lookA_out (x:=x) (by rw [HXE.out];exact List.getElem_mem _) (.inl x1)
          go_wp2
          go_ret2
          exact ⟨none,0,rfl,OwnV.nil _ _,HB1.out.trans (HC.out.below.mono HB1.out.size)⟩
        · by_cases x2:(own.length:Int)≤x
          · obtain rfl:R=([],800):=by
              rw [HR.out]
              exact lookA_out (x:=x) (by rw [HXE.out];exact List.getElem_mem _) (.inr (by rw [← HLN.out];exact x2))
            go_wp2
            go_ret2
            exact ⟨none,0,rfl,OwnV.nil _ _,HB1.out.trans (HC.out.below.mono HB1.out.size)⟩
          · obtain ⟨X,rfl⟩:∃ X:Nat,x=X:=⟨x.toNat,by omega⟩
            have hXb:X < own.length:=by omega
            obtain ⟨go,rfl⟩:=HO.out.there (by intro h;rw [h] at hXb;simp at hXb)
            have HV:=Lib.hid ((HO.out.get X hXb).below HC.out.below)
            obtain ⟨p,hp⟩:∃ p,own[X]=p:=⟨_,rfl⟩
            rw [hp] at HV
            have HP:=Lib.hid hp
            have HOE:=Lib.hid (Nat.le_trans HC.out.len (Nat.le_trans hn hxm))
            obtain ⟨v0,v1,v2,v3⟩:=HV.out
            clear hp x1
            go_upto_region 10 with fail
            clear hmc
            go_wp2_with (at_builtin;refine wp_val HC.out.vals HC.out.below.size HOE.out rfl _ _ rfl p rfl rfl ?_;intro aj' cj' u7 ho hf _;have HFIN:=Lib.hid (HC.out.val c HXE.out.symm hXb HP.out ho hf);clear ho hf)
            go_roundw
            case rel => exact ⟨n + 1,cj',aj',out ++ [p],c,by go_num,by simp,HFIN⟩
            case measure => simp [intOf];omega
      · obtain rfl:n=at_.length:=by omega
        have hR:R=(out,0):=by
          have h1:=HC.out.is
          have h2:=HC.out.ok
          rw [List.take_length] at h1 h2
          rw [HR.out,lookA_yes HD.out (fun x hx => by rw [← HLN.out];exact h2 x hx),h1]
          refine Prod.ext ?_ rfl
          refine List.map_congr_left fun x hx => ?_
          have h3:=h2 x hx
          rw [HWH.out]
          exact (map_getD (by rw [← HLN.out];omega)).symm
        subst hR
        clear c
        go_wp2
        go_ret2
        exact ⟨aj,cj,rfl,HC.out.vals.lower (by have:=HB1.out.size;omega),HB1.out.trans (HC.out.below.mono HB1.out.size)⟩
end Go.Proofs.YtfbmlefhjoblbaaGreat
