/- Spaces and remarks left out: a claim is at most so large. -/
import Derived.Test.YtfbmlefhjoblbaaGreatNPFileGetsGz8
import Derived.Test.YtfbmlefhjoblbaaGreatNPFileGetsGz5
import Derived.Test.YtfbmlefhjoblbaaGreatValLGz
namespace Go.Proofs.YtfbmlefhjoblbaaGreat
open Go.Conc Go.RowKit
set_option linter.unusedVariables false
set_option linter.unusedSimpArgs false
structure Da where
  n:Int
  cs:List Co
  rs:List (List V)
structure DaAt where
  ac:Option Addr
  kc:Nat
  ar:Option Addr
  kr:Nat
structure DaIs (w:World) (p:DaAt) (d:Da):Prop where
  c:IsCo w p.ac d.cs
  r:IsR w p.ar d.rs
  nc:p.ac=none→d.cs.length=0∧p.kc=0
  nr:p.ar=none→d.rs.length=0∧p.kr=0
theorem DaIs.below {w w':World} {p:DaAt} {d:Da} (h:DaIs w p d) (hb:Below w.heap.size w w'):DaIs w' p d:=⟨h.c.below hb,h.r.below hb,h.nc,h.nr⟩
def sameD (x y:Da):Bool:=(x.n == y.n) && ((decide (x.cs=y.cs)) && (decide (x.rs=y.rs)))
theorem sameD_iff (x y:Da):sameD x y=true ↔ x=y:=by
  cases x;cases y
  simp [sameD]
set_option maxRecDepth 100000 in
set_option maxHeartbeats 1000000 in
theorem samedata_any (w:World) (p q:DaAt) (x y:Da) (hx:DaIs w p x) (hy:DaIs w q y) (h1:x.cs.length≤maxLen) (h2:x.rs.length≤maxLen) (h3:∀ r ∈ x.rs,r.length≤maxLen) :
    Calls Tryz.prog 39 #[.agg #[.int .i64 x.n,.slice p.ac x.cs.length p.kc,.slice p.ar x.rs.length p.kr],.agg #[.int .i64 y.n,.slice q.ac y.cs.length q.kc,.slice q.ar y.rs.length q.kr]] w fun e w' => e=.returned (.bool (sameD x y))∧Below w.heap.size w w':=by
  have T1:=Lib.hid (fun (u:World) (hu:Below w.heap.size w u) => samecols_any u p.ac q.ac p.kc q.kc x.cs y.cs (hx.c.below hu) (hy.c.below hu) h1)
  have T2:=Lib.hid (fun (u:World) (hu:Below w.heap.size w u) => samerows_any u p.ar q.ar p.kr q.kr x.rs y.rs (hx.r.below hu) (hy.r.below hu) h2 h3)
  have hR:sameD x y=((x.n == y.n) && ((decide (x.cs=y.cs)) && (decide (x.rs=y.rs)))):=rfl
  rw [hR]
  generalize decide (x.cs=y.cs)=d1 at *
  generalize decide (x.rs=y.rs)=d2 at *
  obtain ⟨xn,xc,xr⟩:=x
  obtain ⟨yn,yc,yr⟩:=y
  obtain ⟨pa,pk,ra,rk⟩:=p
  obtain ⟨qa,qk,sa,sk⟩:=q
  simp only at *
  clear hx hy h1 h2 h3 hR
  generalize xc.length=l1 at *
  generalize yc.length=l2 at *
  generalize xr.length=l3 at *
  generalize yr.length=l4 at *
  obtain ⟨u,hu⟩:∃ u,u=((w.alloc (.cells #[.int .i64 xn,.slice pa l1 pk,.slice ra l3 rk] 55)).alloc (.cells #[.int .i64 yn,.slice qa l2 qk,.slice sa l4 sk] 55)):=⟨_,rfl⟩
  have hb0:Below w.heap.size w u:=by rw [hu];exact ((Below.refl _ _).alloc (Nat.le_refl _) _).alloc (by simp) _
  have hx0:u.heap[w.heap.size]? = some (.cells #[.int .i64 xn,.slice pa l1 pk,.slice ra l3 rk] 55 (0,0)):=by
    rw [hu,Below.heap_alloc _ _ _ (by simp)];exact heap_alloc_new w _
  have hy0:u.heap[w.heap.size + 1]? = some (.cells #[.int .i64 yn,.slice qa l2 qk,.slice sa l4 sk] 55 (0,0)):=by
    have:=heap_alloc_new (w.alloc (.cells #[.int .i64 xn,.slice pa l1 pk,.slice ra l3 rk] 55)) (.cells #[.int .i64 yn,.slice qa l2 qk,.slice sa l4 sk] 55)
    rw [show (w.alloc (.cells #[.int .i64 xn,.slice pa l1 pk,.slice ra l3 rk] 55)).heap.size=w.heap.size + 1 by simp] at this
    rw [hu];exact this
  have hcell:∀ v:World,Below u.heap.size u v→(v.cell? ⟨w.heap.size,0,none⟩=some (.int .i64 xn)∧v.cell? ⟨w.heap.size,1,none⟩=some (.slice pa l1 pk)∧v.cell? ⟨w.heap.size,2,none⟩=some (.slice ra l3 rk))∧(v.cell? ⟨w.heap.size + 1,0,none⟩=some (.int .i64 yn)∧v.cell? ⟨w.heap.size + 1,1,none⟩=some (.slice qa l2 qk)∧v.cell? ⟨w.heap.size + 1,2,none⟩=some (.slice sa l4 sk)):=fun v hv => by
    have e1:=(hv.block _ (Array.getElem?_eq_some_iff.1 hx0).1).trans hx0
    have e2:=(hv.block _ (Array.getElem?_eq_some_iff.1 hy0).1).trans hy0
    refine ⟨⟨?_,?_,?_⟩,⟨?_,?_,?_⟩⟩
    · rw [cell_of_row _ _ _ _ _ _ e1];rfl
    · rw [cell_of_row _ _ _ _ _ _ e1];rfl
    · rw [cell_of_row _ _ _ _ _ _ e1];rfl
    · rw [cell_of_row _ _ _ _ _ _ e2];rfl
    · rw [cell_of_row _ _ _ _ _ _ e2];rfl
    · rw [cell_of_row _ _ _ _ _ _ e2];rfl
  obtain ⟨⟨a0,a1,a2⟩,b0,b1,b2⟩:=hcell u (Below.refl _ _)
  have HC:=Lib.hid hcell
  have HB0:=Lib.hid hb0
  have HU:Hid (Below u.heap.size u u):=Below.refl _ _
  clear hcell hb0 hx0 hy0
  cases h0:(xn == yn)
  · go_enter Tryz.func39,Tryz.ntmps39
    go_upto_region 1 with fail
    rw [← hu]
    clear hu
    go_wp2
    go_ret
    exact ⟨rfl,HB0.out⟩
  cases d1
  · go_enter Tryz.func39,Tryz.ntmps39
    go_upto_region 1 with fail
    rw [← hu]
    clear hu
    go_wp2_with (go_at_call 44;refine (T1.out _ HB0.out).mono ?_;rintro e wf ⟨rfl,hb⟩;replace HB0:=Lib.hid (HB0.out.trans (hb.mono HB0.out.size));clear hb T1)
    go_ret
    exact ⟨rfl,HB0.out⟩
  go_enter Tryz.func39,Tryz.ntmps39
  go_upto_region 1 with fail
  rw [← hu]
  clear hu
  go_wp2_with (first
    | (go_at_call 44;refine (T1.out _ HB0.out).mono ?_;rintro e wf ⟨rfl,hb⟩;replace HB0:=Lib.hid (HB0.out.trans (hb.mono HB0.out.size));clear a0 a1 a2 b0 b1 b2;obtain ⟨⟨a0,a1,a2⟩,b0,b1,b2⟩:=HC.out _ hb;clear hb T1)
    | (go_at_call 73;refine (T2.out _ HB0.out).mono ?_;rintro e wg ⟨rfl,hb⟩;replace HB0:=Lib.hid (HB0.out.trans (hb.mono HB0.out.size));clear hb T2))
  go_ret
  exact ⟨rfl,HB0.out⟩
end Go.Proofs.YtfbmlefhjoblbaaGreat
namespace Go.Proofs.YtfbmlefhjoblbaaGreat
open Go.Conc Go.RowKit
set_option linter.unusedVariables false
set_option linter.unusedSimpArgs false
structure DSlot (w:World) (g:Nat) (p:DaAt) (d:Da):Prop where
  b:w.heap[g]? = some (.cells #[.int .i64 d.n,.slice p.ac d.cs.length p.kc,.slice p.ar d.rs.length p.kr] 55 (0,0))
theorem DSlot.at {w:World} {g:Nat} {p:DaAt} {d:Da} (h:DSlot w g p d):w.cell? ⟨g,0,none⟩=some (.int .i64 d.n)∧w.cell? ⟨g,1,none⟩=some (.slice p.ac d.cs.length p.kc)∧w.cell? ⟨g,2,none⟩=some (.slice p.ar d.rs.length p.kr):=by
  have hb:=h.b
  refine ⟨?_,?_,?_⟩ <;> (rw [cell_of_row _ _ _ _ _ _ hb];rfl)
theorem DSlot.lt {w:World} {g:Nat} {p:DaAt} {d:Da} (h:DSlot w g p d):g < w.heap.size:=(Array.getElem?_eq_some_iff.1 h.b).1
theorem DSlot.same {w w':World} {g:Nat} {p:DaAt} {d:Da} (h:DSlot w g p d) (hb:w'.heap[g]? = w.heap[g]?):DSlot w' g p d:=⟨by rw [hb];exact h.b⟩
theorem DSlot.below {w w':World} {g:Nat} {p:DaAt} {d:Da} (h:DSlot w g p d) (hb:Below w.heap.size w w'):DSlot w' g p d:=h.same (hb.block g h.lt)
theorem DSlot.new (w:World) (p:DaAt) (d:Da):DSlot (w.alloc (.cells #[.int .i64 d.n,.slice p.ac d.cs.length p.kc,.slice p.ar d.rs.length p.kr] 55)) w.heap.size p d:=⟨heap_alloc_new w _⟩
structure CSlot (w:World) (g:Nat) (c:Co):Prop where
  b:w.heap[g]? = some (.cells #[.int .i64 c.id,.string c.nm,.int .i64 c.kd] 80 (0,0))
theorem CSlot.at {w:World} {g:Nat} {c:Co} (h:CSlot w g c):(w.cell? ⟨g,0,none⟩=some (.int .i64 c.id)∧w.cell? ⟨g,1,none⟩=some (.string c.nm)∧w.cell? ⟨g,2,none⟩=some (.int .i64 c.kd))∧(w.frozen? ⟨g,0,none⟩=false∧w.frozen? ⟨g,1,none⟩=false∧w.frozen? ⟨g,2,none⟩=false):=by
  have hb:=h.b
  refine ⟨⟨?_,?_,?_⟩,frozen_of_row w g 0 _ _ hb,frozen_of_row w g 1 _ _ hb,frozen_of_row w g 2 _ _ hb⟩ <;> (rw [cell_of_row _ _ _ _ _ _ hb];rfl)
theorem CSlot.lt {w:World} {g:Nat} {c:Co} (h:CSlot w g c):g < w.heap.size:=(Array.getElem?_eq_some_iff.1 h.b).1
theorem CSlot.same {w w':World} {g:Nat} {c:Co} (h:CSlot w g c) (hb:w'.heap[g]? = w.heap[g]?):CSlot w' g c:=⟨by rw [hb];exact h.b⟩
theorem CSlot.below {w w':World} {g:Nat} {c:Co} (h:CSlot w g c) (hb:Below w.heap.size w w'):CSlot w' g c:=h.same (hb.block g h.lt)
theorem CSlot.new (w:World) (c:Co):CSlot (w.alloc (.cells #[.int .i64 c.id,.string c.nm,.int .i64 c.kd] 80)) w.heap.size c:=⟨heap_alloc_new w _⟩
end Go.Proofs.YtfbmlefhjoblbaaGreat
namespace Go.Proofs.YtfbmlefhjoblbaaGreat
open Go.Conc Go.RowKit
set_option linter.unusedVariables false
set_option linter.unusedSimpArgs false
theorem own_ty {base e size n cap:Nat} {w:World} {a:Option Addr} {xs:List Value} (h:w.ownsRow base e size (.slice a n cap) n xs) {k:Nat} (hk:At a k):∃ cur,w.heap[k]? = some (.cells cur e (0,0)):=by
  rcases h.2 with ⟨hv,_⟩ | ⟨g,cp,cur,hv,hb,hg,_⟩
  · injection hv with h1;subst h1;simp [At] at hk
  · injection hv with h1;subst h1;simp [At] at hk;subst hk;exact ⟨cur,hg⟩
theorem own_types {b1 e1 s1 n1 c1 b2 e2 s2 n2 c2:Nat} {w:World} {a1 a2:Option Addr} {x1 x2:List Value} (hne:e1 ≠ e2) (h1:w.ownsRow b1 e1 s1 (.slice a1 n1 c1) n1 x1) (h2:w.ownsRow b2 e2 s2 (.slice a2 n2 c2) n2 x2) {k:Nat} (hk:At a1 k):¬ At a2 k:=fun hk2 => by
  obtain ⟨c1,e1⟩:=own_ty h1 hk
  obtain ⟨c2,e2⟩:=own_ty h2 hk2
  rw [e1] at e2
  injection e2 with e2
  injection e2 with _ e2 _
  exact hne e2
theorem ty_co_row:(80:Nat) ≠ 82:=by decide
theorem ty_co_val:(80:Nat) ≠ 24:=by decide
theorem ty_row_val:(82:Nat) ≠ 24:=by decide
theorem oneRow:OneT 82 53 zRowVal 24:=⟨infoRow,Tryz.underlying53,rfl,by decide⟩
def rowCells (us:List (Option Addr × Nat)) (rs:List (List V)):List Value:=List.zipWith (fun u r => Value.slice u.1 r.length u.2) us rs
theorem rowCells_length {us:List (Option Addr × Nat)} {rs:List (List V)} (h:us.length=rs.length):(rowCells us rs).length=rs.length:=by
  unfold rowCells;rw [List.length_zipWith];omega
theorem rowCells_snoc {us:List (Option Addr × Nat)} {rs:List (List V)} (h:us.length=rs.length) (a:Option Addr) (c:Nat) (r:List V):rowCells (us ++ [(a,c)]) (rs ++ [r])=rowCells us rs ++ [.slice a r.length c]:=by
  unfold rowCells;rw [List.zipWith_append h];rfl
theorem rowCells_get {us:List (Option Addr × Nat)} {rs:List (List V)} {i:Nat} (h1:i < us.length) (h2:i < rs.length):(rowCells us rs)[i]? = some (.slice us[i].1 rs[i].length us[i].2):=by
  unfold rowCells
  rw [List.getElem?_eq_getElem (by rw [List.length_zipWith];omega)]
  exact congrArg some List.getElem_zipWith
structure RowsOwn (base:Nat) (w:World) (us:List (Option Addr × Nat)) (rs:List (List V)):Prop where
  len:us.length=rs.length
  own:∀ i (h:i < us.length) (h2:i < rs.length),OwnV base w us[i].1 us[i].2 rs[i]
  apart:∀ i j (hij:i < j) (h:j < us.length),∀ k,At us[i].1 k→¬ At us[j].1 k
theorem RowsOwn.nil (base:Nat) (w:World):RowsOwn base w [] []:=⟨rfl,fun i h => absurd h (Nat.not_lt_zero i),fun i j _ h => absurd h (Nat.not_lt_zero j)⟩
section
variable {base:Nat} {w w':World} {us:List (Option Addr × Nat)} {rs:List (List V)}
theorem RowsOwn.ge (h:RowsOwn base w us rs) {i:Nat} (hi:i < us.length) {k:Nat} (hk:At us[i].1 k):base≤k∧k < w.heap.size:=(h.own i hi (by rw [← h.len];exact hi)).at_ge hk
theorem RowsOwn.frm {F:Nat→Prop} (h:RowsOwn base w us rs) (hf:Frm F w w') (hF:∀ i (hi:i < us.length) k,At us[i].1 k→¬ F k):RowsOwn base w' us rs :=
  ⟨h.len,fun i h1 h2 => (h.own i h1 h2).frm hf fun k hk _ => hF i h1 k hk,h.apart⟩
theorem RowsOwn.below (h:RowsOwn base w us rs) (hb:Below w.heap.size w w'):RowsOwn base w' us rs:=⟨h.len,fun i h1 h2 => (h.own i h1 h2).below hb,h.apart⟩
theorem RowsOwn.lower {base':Nat} (h:RowsOwn base w us rs) (hb:base'≤base):RowsOwn base' w us rs:=⟨h.len,fun i h1 h2 => (h.own i h1 h2).lower hb,h.apart⟩
theorem RowsOwn.snoc (h:RowsOwn base w us rs) {a:Option Addr} {c:Nat} {r:List V} (ho:OwnV base w a c r) (hn:∀ i (hi:i < us.length) k,At us[i].1 k→¬ At a k):RowsOwn base w (us ++ [(a,c)]) (rs ++ [r]):=by
  refine ⟨by simp [h.len],fun i h1 h2 => ?_,fun i j hij hj k hk => ?_⟩
  · by_cases e:i < us.length
    · have e2:i < rs.length:=by rw [← h.len];exact e
      rw [List.getElem_append_left e2]
      have:=h.own i e e2
      simpa only [List.getElem_append_left e] using this
    · have e3:i=us.length:=by simp at h1;omega
      subst e3
      have h4:=h.len
      simp only [List.getElem_append_right (Nat.le_refl _),Nat.sub_self,List.getElem_singleton]
      rw [List.getElem_append_right (by omega)]
      simpa [h4] using ho
  · have hi:i < us.length:=by simp at hj;omega
    simp only [List.getElem_append_left hi] at hk
    by_cases e:j < us.length
    · simp only [List.getElem_append_left e]
      exact h.apart i j hij e k hk
    · have e3:j=us.length:=by simp at hj;omega
      subst e3
      simp only [List.getElem_append_right (Nat.le_refl _),Nat.sub_self,List.getElem_singleton]
      exact hn i hi k hk
end
structure DaOwn (base:Nat) (w:World) (p:DaAt) (d:Da) (us:List (Option Addr × Nat)):Prop where
  co:OwnCo base w p.ac p.kc d.cs
  vs:RowsOwn base w us d.rs
  ro:OwnR base w p.ar d.rs.length p.kr (rowCells us d.rs)
section
variable {base:Nat} {w w':World} {p:DaAt} {d:Da} {us:List (Option Addr × Nat)}
theorem DaOwn.nil (base:Nat) (w:World) (n:Int):DaOwn base w ⟨none,0,none,0⟩ ⟨n,[],[]⟩ []:=⟨OwnCo.nil _ _,RowsOwn.nil _ _,World.ownsRow_nil _ _ _ _⟩
theorem DaOwn.frm {F:Nat→Prop} (h:DaOwn base w p d us) (hf:Frm F w w') (hF:∀ k,base≤k→k < w.heap.size→¬ F k):DaOwn base w' p d us :=
  ⟨h.co.frm hf fun k hk hl => hF k (h.co.at_ge hk).1 hl,h.vs.frm hf fun i hi k hk => hF k (h.vs.ge hi hk).1 (h.vs.ge hi hk).2,own_by h.ro hf fun k hk hl => hF k (own_ge h.ro hk).1 hl⟩
theorem DaOwn.below (h:DaOwn base w p d us) (hb:Below w.heap.size w w'):DaOwn base w' p d us:=⟨h.co.below hb,h.vs.below hb,own_same h.ro fun k _ hk => hb.block k hk⟩
theorem DaOwn.lower {base':Nat} (h:DaOwn base w p d us) (hb:base'≤base):DaOwn base' w p d us:=⟨h.co.lower hb,h.vs.lower hb,own_lower h.ro hb⟩
theorem DaOwn.is (h:DaOwn base w p d us):DaIs w p d:=by
  refine ⟨h.co.isX,?_,?_,?_⟩
  · have hro:=h.ro
    rcases hro.2 with ⟨hv,h0⟩ | ⟨g,cp,cur,hv,_⟩
    · exact .inl (List.eq_nil_of_length_eq_zero h0)
    · obtain ⟨ac,kc,ar,kr⟩:=p
      simp only at hv hro
      injection hv with h1 h2 h3
      subst h1
      refine .inr ⟨g,0,rfl,fun i hi => ?_⟩
      have hu:i < us.length:=by rw [h.vs.len];exact hi
      have hc:=OwnR.read hro i _ (rowCells_get hu hi)
      rw [Nat.zero_add]
      refine ⟨_,hc,us[i].1,us[i].2,rfl,(h.vs.own i hu hi).isV,fun e => ?_⟩
      rcases (h.vs.own i hu hi).block with ⟨_,h2,h3⟩ | ⟨g,h1,_⟩
      · exact ⟨by rw [h3];rfl,h2⟩
      · rw [e] at h1;cases h1
  · intro e
    rcases h.co.block with ⟨_,h2,h3⟩ | ⟨g,h1,_⟩
    · exact ⟨by rw [h3];rfl,h2⟩
    · rw [e] at h1;cases h1
  · intro e
    rcases h.ro.2 with ⟨hv,h0⟩ | ⟨g,cp,cur,hv,_⟩
    · injection hv with h1 h2 h3
      exact ⟨h0,h3⟩
    · injection hv with h1 h2 h3
      rw [e] at h1;cases h1
end
def putC (w:World) (g:Nat) (c:Co):World:=((w.setCell ⟨g,0,none⟩ (.int .i64 c.id)).setCell ⟨g,1,none⟩ (.string c.nm)).setCell ⟨g,2,none⟩ (.int .i64 c.kd)
theorem CSlot.put {w:World} {g:Nat} {z:Co} (h:CSlot w g z) (c:Co):CSlot (putC w g c) g c :=
  ⟨heap_setCell_same _ _ _ _ _ _ (heap_setCell_same _ _ _ _ _ _ (heap_setCell_same _ _ _ _ _ _ h.b))⟩
theorem putC_frm {F:Nat→Prop} {g:Nat} (hg:F g) (w:World) (c:Co):Frm F w (putC w g c) :=
  (((Frm.refl F w).setCell (p:=⟨g,0,none⟩) hg _).setCell (p:=⟨g,1,none⟩) hg _).setCell (p:=⟨g,2,none⟩) hg _
theorem DSlot.froz {w:World} {g:Nat} {p:DaAt} {d:Da} (h:DSlot w g p d):w.frozen? ⟨g,0,none⟩=false∧w.frozen? ⟨g,1,none⟩=false∧w.frozen? ⟨g,2,none⟩=false :=
  ⟨frozen_of_row w g 0 _ _ h.b,frozen_of_row w g 1 _ _ h.b,frozen_of_row w g 2 _ _ h.b⟩
def putD (w:World) (g:Nat) (p:DaAt) (d:Da):World:=((w.setCell ⟨g,0,none⟩ (.int .i64 d.n)).setCell ⟨g,1,none⟩ (.slice p.ac d.cs.length p.kc)).setCell ⟨g,2,none⟩ (.slice p.ar d.rs.length p.kr)
theorem DSlot.put {w:World} {g:Nat} {p0:DaAt} {d0:Da} (h:DSlot w g p0 d0) (p:DaAt) (d:Da):DSlot (putD w g p d) g p d :=
  ⟨heap_setCell_same _ _ _ _ _ _ (heap_setCell_same _ _ _ _ _ _ (heap_setCell_same _ _ _ _ _ _ h.b))⟩
theorem putD_frm {F:Nat→Prop} {g:Nat} (hg:F g) (w:World) (p:DaAt) (d:Da):Frm F w (putD w g p d) :=
  (((Frm.refl F w).setCell (p:=⟨g,0,none⟩) hg _).setCell (p:=⟨g,1,none⟩) hg _).setCell (p:=⟨g,2,none⟩) hg _
theorem DSlot.setC {w:World} {g:Nat} {p:DaAt} {d:Da} (h:DSlot w g p d) (a:Option Addr) (c:Nat) (cs:List Co):DSlot (w.setCell ⟨g,1,none⟩ (.slice a cs.length c)) g ⟨a,c,p.ar,p.kr⟩ ⟨d.n,cs,d.rs⟩:=⟨heap_setCell_same _ _ _ _ _ _ h.b⟩
theorem DSlot.setR {w:World} {g:Nat} {p:DaAt} {d:Da} (h:DSlot w g p d) (a:Option Addr) (c:Nat) (rs:List (List V)):DSlot (w.setCell ⟨g,2,none⟩ (.slice a rs.length c)) g ⟨p.ac,p.kc,a,c⟩ ⟨d.n,d.cs,rs⟩:=⟨heap_setCell_same _ _ _ _ _ _ h.b⟩
theorem DSlot.setN {w:World} {g:Nat} {p:DaAt} {d:Da} (h:DSlot w g p d) (n:Int):DSlot (w.setCell ⟨g,0,none⟩ (.int .i64 n)) g p ⟨n,d.cs,d.rs⟩:=⟨heap_setCell_same _ _ _ _ _ _ h.b⟩
theorem DSlot.frm {w w':World} {g:Nat} {p:DaAt} {d:Da} {F:Nat→Prop} (h:DSlot w g p d) (hf:Frm F w w') (hF:¬ F g):DSlot w' g p d:=h.same (hf.block g h.lt hF)
theorem CSlot.frm {w w':World} {g:Nat} {c:Co} {F:Nat→Prop} (h:CSlot w g c) (hf:Frm F w w') (hF:¬ F g):CSlot w' g c:=h.same (hf.block g h.lt hF)
end Go.Proofs.YtfbmlefhjoblbaaGreat
