/- Spaces and remarks left out: a claim is at most so large. -/
import Derived.Test.YtfbmlefhjoblbaaGreatFmGz
import Derived.Test.YtfbmlefhjoblbaaGreatDatLGz
import Derived.Test.YtfbmlefhjoblbaaGreatReadVGz
import Derived.Test.YtfbmlefhjoblbaaGreatQeGz
namespace Go.Proofs.YtfbmlefhjoblbaaGreat
open Go.Conc Go.RowKit
set_option linter.unusedVariables false
set_option linter.unusedSimpArgs false
theorem cell_frm3 {F:Nat→Prop} {w w':World} {b j:Nat} {v:Value} (h:w.cell? ⟨b,j,none⟩=some v) (hf:Frm F w w') (hF:¬ F b):w'.cell? ⟨b,j,none⟩=some v:=by
  rw [World.cell?_of_block (hf.block b (World.block_lt_of_cell? w ⟨b,j,none⟩ h) hF)];exact h
theorem cell_bel {w w':World} {b j:Nat} {v:Value} (h:w.cell? ⟨b,j,none⟩=some v) (hb:Below w.heap.size w w'):w'.cell? ⟨b,j,none⟩=some v:=by
  rw [World.cell?_of_block (hb.block b (World.block_lt_of_cell? w ⟨b,j,none⟩ h))];exact h
set_option maxRecDepth 100000 in
set_option maxHeartbeats 4000000 in
theorem filecolumn_any (w:World) (g:Nat) (s:ByteArray) (t:Tk) (h:RdAt w g s t) (hs:s.size≤140737488355328) (hp:t.pos≤s.size) :
    Calls Tryz.prog 107 #[.pointer (some ⟨g,0,none⟩)] w fun e w' => ∃ a cap,e=.returned (.tuple #[.agg #[.int .i64 (rdCol s.data.toList t).1.1.id,.string (rdCol s.data.toList t).1.1.nm,.int .i64 (rdCol s.data.toList t).1.1.kd],.slice a (rdCol s.data.toList t).1.2.length cap])∧OwnV w.heap.size w' a cap (rdCol s.data.toList t).1.2∧RdAt w' g s (rdCol s.data.toList t).2∧Frm (fun k => k=g) w w':=by
  have hl:s.data.toList.length=s.size:=(size_list s).symm
  have hs2:s.size≤281474976710648:=by omega
  obtain ⟨R,hR⟩:∃ R,R=rdCol s.data.toList t:=⟨_,rfl⟩
  rw [← hR]
  unfold rdCol at hR
  simp only at hR
  have T1:=Lib.hid (fun (u:World) (h:RdAt u g s t) => rdcount_any u g s t h hs2 9223372036854775807 (Nat.le_refl _))
  have hc1:=rdCount_pos (l:=s.data.toList) (t:=t) (most:=9223372036854775807) (by rw [hl];exact hp)
  generalize rdCount s.data.toList t 9223372036854775807=A at *
  obtain ⟨i,t1⟩:=A
  simp only at hR T1 hc1
  have T2:=Lib.hid (fun (u:World) (h:RdAt u g s t1) => rdbyte_any u g s t1 h hs2 (by rw [← hl];exact hc1.1))
  have hc2:=byte_pos (l:=s.data.toList) (t:=t1) hc1.1
  have hbm:=byte_most s.data.toList t1
  generalize rdByte s.data.toList t1=A at *
  obtain ⟨kd,t2⟩:=A
  simp only at hR T2 hc2 hbm
  have T3:=Lib.hid (fun (u:World) (h:RdAt u g s t2) => rdcount_any u g s t2 h hs2 65536 (by omega))
  have hc3:=rdCount_pos (l:=s.data.toList) (t:=t2) (most:=65536) hc2
  generalize rdCount s.data.toList t2 65536=A at *
  obtain ⟨m,t3⟩:=A
  simp only at hR T3 hc3
  have T4:=Lib.hid (fun (u:World) (h:RdAt u g s t3) => rdpiece_any u g s t3 h hs2 (by rw [← hl];exact hc3.1) m (by omega))
  have hpl:=piece_len s.data.toList t3 m
  generalize rdPiece s.data.toList t3 m=A at *
  obtain ⟨x,t4⟩:=A
  simp only at hR T4 hpl
  have T5:=Lib.hid (fun (u:World) => vecget_any u (kd:Int) (textB x) (by rw [textB_size];omega))
  generalize colGet (kd:Int) (textB x)=G at *
  obtain ⟨vs,E⟩:=G
  simp only at hR T5
  have T6:=Lib.hid (fun (u:World) (f:Bool) (h:RdAt u g s t4) => rdhold_any u g s t4 h f)
  have T1:Hid (∀ (u:World) (h:RdAt u g s t),Calls Tryz.prog 95 #[.pointer (some ⟨g,0,none⟩),.int .i64 9223372036854775807] u fun e w' => e=.returned (.int .i64 (i:Int))∧RdAt w' g s t1∧Frm (fun k => k=g) u w'):=T1
  have T3:Hid (∀ (u:World) (h:RdAt u g s t2),Calls Tryz.prog 95 #[.pointer (some ⟨g,0,none⟩),.int .i64 65536] u fun e w' => e=.returned (.int .i64 (m:Int))∧RdAt w' g s t3∧Frm (fun k => k=g) u w'):=T3
  subst hR
  simp only
  have HLT:=Lib.hid h.lt
  have HZ0:=Lib.hid (CSlot.new w zeroCo)
  have HR0:=Lib.hid (h.alloc (.cells #[.int .i64 0,.string ByteArray.empty,.int .i64 0] 80))
  have HF0:=Lib.hid (show Frm (fun k => k=g∨w.heap.size≤k) w (w.alloc (.cells #[.int .i64 0,.string ByteArray.empty,.int .i64 0] 80)) from (Frm.refl _ _).alloc _)
  have hz0:(w.alloc (.cells #[.int .i64 0,.string ByteArray.empty,.int .i64 0] 80)).heap.size=w.heap.size + 1:=by simp
  have HZZ:=Lib.hid hz0
  have HE:Hid ((!(E == 0))=decide (E ≠ 0)):=by unfold Hid;by_cases e:E=0 <;> simp [e]
  clear hz0 h hc1 hc2 hbm hc3 hpl hs hs2 hl hp
  generalize textB x=X at *
  go_enter Tryz.func107,Tryz.ntmps107
  go_upto_region 1 with fail
  change Code.wp _ _ _ _ (w.alloc (.cells #[.int .i64 0,.string ByteArray.empty,.int .i64 0] 80))
  obtain ⟨g2,hg2⟩:∃ g2,g2=w.heap.size:=⟨_,rfl⟩
  have HG2:=Lib.hid hg2
  rw [show zeroCo.id=0 from rfl,show zeroCo.nm=ByteArray.empty from rfl,show zeroCo.kd=0 from rfl] at HZ0
  rw [← hg2] at HZ0 HLT HF0 HZZ ⊢
  clear hg2
  generalize w.alloc (.cells #[.int .i64 0,.string ByteArray.empty,.int .i64 0] 80)=u0 at *
  go_upto_region 2 with (first
    | (go_at_call 95;refine (T1.out u0 HR0.out).mono ?_;rintro e w1 ⟨rfl,hr,hf⟩;have HR1:=Lib.hid hr;have HF1:=Lib.hid hf;clear hr hf)
    | (go_at_call 93;refine (T2.out w1 HR1.out).mono ?_;rintro e w2 ⟨rfl,hr,hf⟩;have HR2:=Lib.hid hr;have HF2:=Lib.hid hf;clear hr hf))
  obtain ⟨u4,hu4⟩:∃ u4,u4=w2.alloc (.cells #[.int .i64 (i:Int),.string ByteArray.empty,.int .i64 (kd:Int)] 80):=⟨_,rfl⟩
  change Code.wp _ _ _ _ (w2.alloc (.cells #[.int .i64 (i:Int),.string ByteArray.empty,.int .i64 (kd:Int)] 80))
  rw [← hu4]
  have HS4:=Lib.hid (show CSlot u4 w2.heap.size ⟨(i:Int),ByteArray.empty,(kd:Int)⟩ by rw [hu4];exact CSlot.new w2 ⟨(i:Int),ByteArray.empty,(kd:Int)⟩)
  have HR4:=Lib.hid (show RdAt u4 g s t2 by rw [hu4];exact HR2.out.alloc _)
  have HF4:=Lib.hid (show Frm (fun k => k=g∨g2≤k) w u4 by rw [hu4];exact ((HF0.out.trans (HF1.out.mono fun k _ hk => .inl hk)).trans (HF2.out.mono fun k _ hk => .inl hk)).alloc _)
  have HZ4:=Lib.hid ((((HZ0.out.frm HF1.out (by have:=HLT.out;omega)).frm HF2.out (by have:=HLT.out;omega)).below ((Below.refl _ _).alloc (Nat.le_refl _) (.cells #[.int .i64 (i:Int),.string ByteArray.empty,.int .i64 (kd:Int)] 80))))
  rw [← hu4] at HZ4
  have hg42:g2 < w2.heap.size:=by have h1:=HZZ.out;have h2:=HF1.out.size;have h3:=HF2.out.size;omega
  obtain ⟨g4,hg4⟩:∃ g4,g4=w2.heap.size:=⟨_,rfl⟩
  rw [← hg4] at HS4 hg42 ⊢
  clear hu4 hg4
  have hne:¬ g4=g:=by have:=HLT.out;omega
  have HNE:=Lib.hid hne
  have HG42:=Lib.hid hg42
  have hc4:=HS4.out.at.1.2.2
  clear hg42 T1 T2 HR1 HR2 HF0 HF1 HF2 HZ0 HR0
  go_region_held3 (fun w' => w'.cell? ⟨g4,2,none⟩=some (.int .i64 (kd:Int))) (go_keep)
    (first
      | (go_at_call 95;refine (T3.out u4.drew ⟨HR4.out.b⟩).mono ?_;rintro e w5 ⟨rfl,hr,hf⟩;have hc5:w5.cell? ⟨g4,2,none⟩=some (.int .i64 (kd:Int)):=cell_frm3 (w:=u4.drew) hc4 hf hne;have HR5:=Lib.hid hr;have HF5:=Lib.hid hf;clear hr hf)
      | (go_at_call 106;refine (T4.out w5 HR5.out).mono ?_;rintro e w6 ⟨rfl,hr,hf⟩;have hc6:=cell_frm3 hc5 hf hne;have HR6:=Lib.hid hr;have HF6:=Lib.hid hf;clear hr hf)
      | (go_at_call 23;refine (T5.out w6).mono ?_;rintro e w7 ⟨a,cap,rfl,ho,hb⟩;have hc7:=cell_bel hc6 hb;have HO7:=Lib.hid ho;have HB7:=Lib.hid hb;clear hb ho))
  all_goals (
    have HR7:=Lib.hid (HR6.out.below HB7.out)
    have HS7:=Lib.hid (((CSlot.frm (w:=u4.drew) ⟨HS4.out.b⟩ HF5.out HNE.out).frm HF6.out HNE.out).below HB7.out)
    have HZ7:=Lib.hid (((CSlot.frm (w:=u4.drew) (F:=fun k => k=g) ⟨HZ4.out.b⟩ HF5.out (by have:=HLT.out;omega)).frm HF6.out (by have:=HLT.out;omega)).below HB7.out)
    have HF7:=Lib.hid (((HF4.out.drew.trans (HF5.out.mono fun k _ hk => .inl hk)).trans (HF6.out.mono fun k _ hk => .inl hk)).trans (Frm.of_new HB7.out (fun k => k=g∨g2≤k)))
    have hz6:g4 < w6.heap.size:=by have h1:=HS4.out.lt;have h2:=HF5.out.size;have h3:=HF6.out.size;have h4:u4.drew.heap.size=u4.heap.size:=rfl;omega
    have HZ6:=Lib.hid hz6
    clear hc4 hc5 hc6 hc7 hz6 T3 T4 T5 HF4 HF5 HF6 HR4 HR5 HR6 HS4 HZ4
    go_upto_region 4 with (go_at_call 105;refine (T6.out w7 _ HR7.out).mono ?_;rintro e w8 ⟨rfl,hr,hf⟩;have HR8:=Lib.hid hr;have HF8:=Lib.hid hf;clear hr hf)
    have HS8:=HS7.out.frm HF8.out HNE.out
    have HZ8:=Lib.hid (HZ7.out.frm HF8.out (by have:=HLT.out;omega))
    obtain ⟨⟨c0,c1,c2⟩,_⟩:=HS8.at
    obtain ⟨⟨z0,z1,z2⟩,y0,y1,y2⟩:=HZ8.out.at
    clear HS8
    go_wp2
    change bodyPost _ _ _ _ _ (putC w8 g2 ⟨(i:Int),ByteArray.empty,(kd:Int)⟩)
    have hp:=HZ8.out.put ⟨(i:Int),ByteArray.empty,(kd:Int)⟩
    have hpf:=putC_frm (F:=fun k => k=g2) rfl w8 ⟨(i:Int),ByteArray.empty,(kd:Int)⟩
    generalize putC w8 g2 ⟨(i:Int),ByteArray.empty,(kd:Int)⟩=w9 at *
    clear c0 c1 c2 z0 z1 z2 y0 y1 y2
    obtain ⟨⟨c0,c1,c2⟩,_⟩:=hp.at
    simp only at c0 c1 c2
    refine bodyPost_ret (v:=.tuple #[.agg #[.int .i64 (i:Int),.string ByteArray.empty,.int .i64 (kd:Int)],.slice a vs.length cap]) (by simp [results,Tryz.results107,go_sem,c0,c1,c2]) rfl ?_
    have hgl:g < g2:=HLT.out
    have h64:g4 < w6.heap.size:=HZ6.out
    have h42:g2 < g4:=HG42.out
    refine ⟨a,cap,rfl,?_,?_,?_⟩
    · refine OwnV.lower (((HO7.out.frm HF8.out fun k hk _ e => ?_)).frm hpf fun k hk _ e => ?_) ?_
      · have:=(HO7.out.at_ge hk).1;omega
      · have:=(HO7.out.at_ge hk).1;omega
      · rw [← HG2.out];omega
    · have h8:=HR8.out.frm hpf (by omega)
      exact h8
    · refine ((HF7.out.trans (HF8.out.mono fun k _ hk => .inl hk)).trans (hpf.mono fun k _ hk => .inr (by omega))).mono fun k hk h => ?_
      rcases h with h | h
      · exact h
      · rw [HG2.out] at h;omega)
end Go.Proofs.YtfbmlefhjoblbaaGreat
namespace Go.Proofs.YtfbmlefhjoblbaaGreat
open Go.Conc Go.RowKit
set_option linter.unusedVariables false
set_option linter.unusedSimpArgs false
structure LAt (w wr:World) (B g5:Nat) (nn:Int) (n:Nat) (p:DaAt) (cs:List Co) (rs:List (List V)) (us:List (Option Addr × Nat)):Prop where
  slot:DSlot wr g5 p ⟨nn,cs,rs⟩
  own:DaOwn B wr p ⟨nn,cs,rs⟩ us
  lc:cs.length=n
  lr:rs.length=n
  bel:Below w.heap.size w wr
section
variable {w wr w1 u6 w2 w3 w4 w5:World} {B g g5 n cap c' cr':Nat} {nn:Int} {p:DaAt} {cs:List Co} {rs:List (List V)} {us:List (Option Addr × Nat)} {a a' ar':Option Addr} {r:List V} {c:Co}
theorem LAt.size (h:LAt w wr B g5 nn n p cs rs us) (hB:B≤w.heap.size∨B≤wr.heap.size):B≤wr.heap.size:=hB.elim (fun e => Nat.le_trans e h.bel.size) fun e => e
theorem LAt.first (h:LAt w wr B g5 nn n p cs rs us) (hg:g < B) (h5:g5 < B) (hne:g5 ≠ g) (hf:Frm (fun k => k=g) wr w1) (ha:Frm (fun _ => False) w1 u6):OwnCo B u6 p.ac p.kc cs∧DSlot u6 g5 p ⟨nn,cs,rs⟩:=by
  have h1:=h.own.co.frm hf fun k hk _ e => by have:=(h.own.co.at_ge hk).1;omega
  have h2:=h.slot.frm hf hne
  exact ⟨h1.frm ha fun _ _ _ e => e,h2.frm ha fun e => e⟩
theorem LAt.second (h:LAt w wr B g5 nn n p cs rs us) (hg:g < B) (h5:g5 < B) (hne:g5 ≠ g) (hf:Frm (fun k => k=g) wr w1) (ha:Frm (fun _ => False) w1 u6) (hf2:Frm (At p.ac) u6 w2):DSlot w2 g5 p ⟨nn,cs,rs⟩ :=
  (h.first hg h5 hne hf ha).2.frm hf2 fun hk => by have:=((h.first hg h5 hne hf ha).1.at_ge hk).1;omega
theorem LAt.third (h:LAt w wr B g5 nn n p cs rs us) (hg:g < B) (h5:g5 < B) (hne:g5 ≠ g) (hf:Frm (fun k => k=g) wr w1) (ha:Frm (fun _ => False) w1 u6) (hf2:Frm (At p.ac) u6 w2) (v:Value) :
    OwnR B (w2.setCell ⟨g5,1,none⟩ v) p.ar rs.length p.kr (rowCells us rs)∧RowsOwn B (w2.setCell ⟨g5,1,none⟩ v) us rs:=by
  have f:=h.first hg h5 hne hf ha
  have k1:=own_by h.own.ro hf fun k hk _ e => by have:=(own_ge h.own.ro hk).1;omega
  have k2:OwnR B u6 p.ar rs.length p.kr (rowCells us rs):=own_by k1 ha fun _ _ _ e => e
  have k3:OwnR B w2 p.ar rs.length p.kr (rowCells us rs):=own_by k2 hf2 fun k hk _ hc => own_types ty_co_row f.1 k2 hc hk
  have r1:=h.own.vs.frm hf fun i hi k hk e => by have:=(h.own.vs.ge hi hk).1;omega
  have r2:RowsOwn B u6 us rs:=r1.frm ha fun _ _ _ _ e => e
  have r3:=r2.frm hf2 fun i hi k hk hc => own_types ty_co_val f.1 (r2.own i hi (by rw [← r2.len];exact hi)) hc hk
  have hs:Frm (fun k => k=g5) w2 (w2.setCell ⟨g5,1,none⟩ v):=(Frm.refl (fun k => k=g5) w2).setCell (p:=⟨g5,1,none⟩) rfl v
  exact ⟨own_by k3 hs fun k hk _ e => by have:=(own_ge k3 hk).1;omega,r3.frm hs fun i hi k hk e => by have:=(r3.ge hi hk).1;omega⟩
theorem LAt.next (h:LAt w wr B g5 nn n p cs rs us) (hg:g < B) (h5:g5 < B) (hne:g5 ≠ g) (hw:w.heap.size≤g∧w.heap.size≤g5∧w.heap.size≤B) (hB:B≤wr.heap.size) (hf:Frm (fun k => k=g) wr w1) (hv:OwnV wr.heap.size w1 a cap r) (ha:Frm (fun _ => False) w1 u6)
    (ho2:OwnCo B w2 a' c' (cs ++ [c])) (hf2:Frm (At p.ac) u6 w2)
    (ho4:w4.ownsRow B 82 1 (.slice ar' (rs.length + 1) cr') (rs.length + 1) (rowCells us rs ++ [.slice a r.length cap])) (hf4:Frm (At p.ar) (w2.setCell ⟨g5,1,none⟩ (.slice a' (cs ++ [c]).length c')) w4) :
    LAt w (w4.setCell ⟨g5,2,none⟩ (.slice ar' (rs ++ [r]).length cr')) B g5 nn (n + 1) ⟨a',c',ar',cr'⟩ (cs ++ [c]) (rs ++ [r]) (us ++ [(a,cap)])∧Frm (fun k => B≤k∨k=g5) w1 (w4.setCell ⟨g5,2,none⟩ (.slice ar' (rs ++ [r]).length cr')):=by
  have f1:=h.first hg h5 hne hf ha
  have f2:=h.second hg h5 hne hf ha hf2
  obtain ⟨f3,f4⟩:=h.third hg h5 hne hf ha hf2 (.slice a' (cs ++ [c]).length c')
  have hs1:Frm (fun k => k=g5) w2 (w2.setCell ⟨g5,1,none⟩ (.slice a' (cs ++ [c]).length c')):=(Frm.refl (fun k => k=g5) w2).setCell (p:=⟨g5,1,none⟩) rfl _
  have d3:=f2.setC a' c' (cs ++ [c])
  have o3:=ho2.frm hs1 fun k hk _ e => by have:=(ho2.at_ge hk).1;omega
  have v1:OwnV wr.heap.size u6 a cap r:=hv.frm ha fun _ _ _ e => e
  have v2:=v1.frm hf2 fun k hk _ hc => own_types ty_co_val f1.1 v1 hc hk
  have v3:=v2.frm hs1 fun k hk _ e => by have:=(v2.at_ge hk).1;omega
  generalize (w2.setCell ⟨g5,1,none⟩ (.slice a' (cs ++ [c]).length c'))=w3 at *
  have d4:=d3.frm hf4 fun hk => by have:=(own_ge f3 hk).1;omega
  have o4:=o3.frm hf4 fun k hk _ hc => own_types ty_co_row o3 f3 hk hc
  have r4:=f4.frm hf4 fun i hi k hk hc => own_types ty_row_val f3 (f4.own i hi (by rw [← f4.len];exact hi)) hc hk
  have v4:=v3.frm hf4 fun k hk _ hc => own_types ty_row_val f3 v3 hc hk
  have d5:=d4.setR ar' cr' (rs ++ [r])
  have hs2:Frm (fun k => k=g5) w4 (w4.setCell ⟨g5,2,none⟩ (.slice ar' (rs ++ [r]).length cr')):=(Frm.refl (fun k => k=g5) w4).setCell (p:=⟨g5,2,none⟩) rfl _
  have o5:=o4.frm hs2 fun k hk _ e => by have:=(o4.at_ge hk).1;omega
  have r5:=r4.frm hs2 fun i hi k hk e => by have:=(r4.ge hi hk).1;omega
  have v5:=v4.frm hs2 fun k hk _ e => by have:=(v4.at_ge hk).1;omega
  have q5:=own_by ho4 hs2 fun k hk _ e => by have:=(own_ge ho4 hk).1;omega
  have hl1:rs.length + 1=(rs ++ [r]).length:=by simp
  have hF:Frm (fun k => B≤k∨k=g5) w1 (w4.setCell ⟨g5,2,none⟩ (.slice ar' (rs ++ [r]).length cr')):=by
    refine ((((ha.mono fun k _ e => e.elim:Frm (fun k => B≤k∨k=g5) w1 u6)).trans (hf2.mono fun k _ hk => .inl (f1.1.at_ge hk).1)).trans (hs1.mono fun k _ hk => .inr hk)).trans ?_
    exact (hf4.mono fun k _ hk => .inl (own_ge f3 hk).1).trans (hs2.mono fun k _ hk => .inr hk)
  refine ⟨⟨d5,⟨o5,?_,?_⟩,by simp [h.lc],by simp [h.lr],?_⟩,hF⟩
  · refine r5.snoc (v5.lower hB) fun i hi k hk hk2 => ?_
    have h1:=(h.own.vs.ge hi hk).2
    have h2:=(v5.at_ge hk2).1
    omega
  · rw [rowCells_snoc h.own.vs.len]
    show OwnR B _ ar' (rs ++ [r]).length cr' _
    rw [← hl1] at q5 ⊢
    exact q5
  · exact Frm.to_below (Frm.to_below h.bel hf (fun k e => by omega) (Nat.le_refl _)) hF (fun k e => by omega) (Nat.le_refl _)
end
end Go.Proofs.YtfbmlefhjoblbaaGreat
namespace Go.Proofs.YtfbmlefhjoblbaaGreat
open Go.Conc Go.RowKit
set_option linter.unusedVariables false
set_option linter.unusedSimpArgs false
def FReadPost (w:World) (l:List UInt8) (e:Ending) (w':World):Prop:=∃ p d us f,e=.returned (.tuple #[.agg #[.int .i64 d.n,.slice p.ac d.cs.length p.kc,.slice p.ar d.rs.length p.kr],.bool f])∧readF l=(if f=true then some d else none)∧DaOwn w.heap.size w' p d us∧Below w.heap.size w w'
theorem mark_eq (x:List UInt8):((textB x).toList == [76,75,49])=decide (x=markF):=by
  rw [ByteArray.toList_eq]
  by_cases h:x=markF
  · rw [decide_eq_true h,h];rfl
  · rw [decide_eq_false h,beq_eq_false_iff_ne]
    exact h
set_option maxRecDepth 100000 in
set_option maxHeartbeats 8000000 in
theorem fileread_any (w:World) (s:ByteArray) (hs:s.size≤140737488355328) :
    Calls Tryz.prog 70 #[.string s] w (FReadPost w s.data.toList):=by
  have hl:s.data.toList.length=s.size:=(size_list s).symm
  have hs2:s.size≤281474976710648:=by omega
  have TN:=Lib.hid (fun u => rdnew_any u s)
  have T1:=Lib.hid (fun (u:World) (g:Nat) (h:RdAt u g s ⟨0,false⟩) => rdpiece_any u g s ⟨0,false⟩ h hs2 (Nat.zero_le _) 3 (by omega))
  have hp1:=piece_pos (l:=s.data.toList) (t:=⟨0,false⟩) (m:=3) (Nat.zero_le _)
  have hhd:rdHead s.data.toList=⟨(rdPiece s.data.toList ⟨0,false⟩ 3).2.pos,(rdPiece s.data.toList ⟨0,false⟩ 3).2.bad || decide ((rdPiece s.data.toList ⟨0,false⟩ 3).1 ≠ markF)⟩:=rfl
  generalize rdPiece s.data.toList ⟨0,false⟩ 3=A at *
  obtain ⟨x,t1⟩:=A
  simp only at T1 hp1 hhd
  have T2:=Lib.hid (fun (u:World) (g:Nat) (f:Bool) (h:RdAt u g s t1) => rdhold_any u g s t1 h f)
  have hp2:(rdHead s.data.toList).pos≤s.size:=by rw [hhd,← hl];exact hp1
  have hnot:(!((textB x).toList == [76,75,49]))=decide (x ≠ markF):=by rw [mark_eq];by_cases e:x=markF <;> simp [e]
  rw [← hnot] at hhd
  have T3:=Lib.hid (fun (u:World) (g:Nat) (h:RdAt u g s (rdHead s.data.toList)) => rdcount_any u g s (rdHead s.data.toList) h hs2 4096 (by omega))
  have hp3:=rdCount_pos (l:=s.data.toList) (t:=rdHead s.data.toList) (most:=4096) (by rw [hl];exact hp2)
  have hm0:rdMany s.data.toList=rdCount s.data.toList (rdCount s.data.toList (rdHead s.data.toList) 4096).2 12:=rfl
  have hrf:readF s.data.toList=if (rdAll s.data.toList).2.bad=true then none else some ⟨((rdCount s.data.toList (rdHead s.data.toList) 4096).1:Int),(rdAll s.data.toList).1.1,(rdAll s.data.toList).1.2⟩:=rfl
  have hal:rdAll s.data.toList=rdCols s.data.toList (rdMany s.data.toList).1 (rdMany s.data.toList).2 [] []:=rfl
  generalize rdCount s.data.toList (rdHead s.data.toList) 4096=A at *
  obtain ⟨nn,t2⟩:=A
  simp only at T3 hp3 hm0 hrf
  have T4:=Lib.hid (fun (u:World) (g:Nat) (h:RdAt u g s t2) => rdcount_any u g s t2 h hs2 12 (by omega))
  have hp4:=rdCount_pos (l:=s.data.toList) (t:=t2) (most:=12) hp3.1
  rw [← hm0] at T4 hp4
  generalize rdMany s.data.toList=A at *
  obtain ⟨m,t3⟩:=A
  simp only at T4 hp4 hal
  generalize rdAll s.data.toList=R at *
  generalize rdHead s.data.toList=t0 at *
  have T3:Hid (∀ (u:World) (g:Nat) (h:RdAt u g s t0),Calls Tryz.prog 95 #[.pointer (some ⟨g,0,none⟩),.int .i64 4096] u fun e w' => e=.returned (.int .i64 (nn:Int))∧RdAt w' g s t2∧Frm (fun k => k=g) u w'):=T3
  have T4:Hid (∀ (u:World) (g:Nat) (h:RdAt u g s t2),Calls Tryz.prog 95 #[.pointer (some ⟨g,0,none⟩),.int .i64 12] u fun e w' => e=.returned (.int .i64 (m:Int))∧RdAt w' g s t3∧Frm (fun k => k=g) u w'):=T4
  have T1:Hid (∀ (u:World) (g:Nat) (h:RdAt u g s ⟨0,false⟩),Calls Tryz.prog 106 #[.pointer (some ⟨g,0,none⟩),.int .i64 3] u fun e w' => e=.returned (.string (textB x))∧RdAt w' g s t1∧Frm (fun k => k=g) u w'):=T1
  have HAL:=Lib.hid hal
  have HHD:=Lib.hid hhd
  have HRF:=Lib.hid hrf
  have HP4:=Lib.hid hp4
  have HLL:=Lib.hid hl
  have HS:=Lib.hid hs
  clear hs hs2 hl hp1 hhd hp2 hnot hp3 hm0 hrf hal hp4
  have HZ0:=Lib.hid (DSlot.new w ⟨none,0,none,0⟩ ⟨0,[],[]⟩)
  have HB0:=Lib.hid (show Below w.heap.size w (w.alloc (.cells #[.int .i64 0,.slice none 0 0,.slice none 0 0] 55)) from (Below.refl _ _).alloc (Nat.le_refl _) _)
  go_enter Tryz.func70,Tryz.ntmps70
  go_upto_region 1 with fail
  obtain ⟨u0,hu0⟩:∃ u0,u0=w.alloc (.cells #[.int .i64 0,.slice none 0 0,.slice none 0 0] 55):=⟨_,rfl⟩
  change Code.wp _ _ _ _ (w.alloc (.cells #[.int .i64 0,.slice none 0 0,.slice none 0 0] 55))
  rw [← hu0] at HB0 ⊢
  have HZ1:=Lib.hid (show DSlot u0 w.heap.size ⟨none,0,none,0⟩ ⟨0,[],[]⟩ by rw [hu0];exact HZ0.out)
  clear hu0 HZ0
  generalize hX:textB x=X at *
  go_upto_region 4 with (first
    | (go_at_call 92;refine (TN.out _).mono ?_;rintro e w1 ⟨g,rfl,hg,hrd,hb⟩;have HR1:=Lib.hid hrd;have HG:=Lib.hid (And.intro (Nat.lt_of_lt_of_le HZ1.out.lt hg) hrd.lt);have HZ2:=Lib.hid (HZ1.out.below hb);have HB1:=Lib.hid (HB0.out.trans (hb.mono HB0.out.size));clear hb hrd hg)
    | (go_at_call 106;refine (T1.out w1 g HR1.out).mono ?_;rintro e w2 ⟨rfl,hr,hf⟩;have HR2:=Lib.hid hr;have HZ3:=Lib.hid (HZ2.out.frm hf (by have:=HG.out;omega));have HB2:=Lib.hid (Frm.to_below HB1.out hf (fun k e => by have h1:=HG.out;have h2:=HB1.out.size;omega) (Nat.le_refl _));have HF2:=Lib.hid hf;clear hr hf)
    | (go_at_call 105;refine (T2.out w2 g _ HR2.out).mono ?_;rintro e w3 ⟨rfl,hr,hf⟩;have HR3:=Lib.hid hr;have HZ4:=Lib.hid (HZ3.out.frm hf (by have:=HG.out;omega));have HB3:=Lib.hid (Frm.to_below HB2.out hf (fun k e => by have h1:=HG.out;omega) (Nat.le_refl _));have HF3:=Lib.hid hf;clear hr hf)
    | (go_at_call 95;refine (T3.out w3 g (by rw [HHD.out];exact HR3.out)).mono ?_;rintro e w4 ⟨rfl,hr,hf⟩;have HR4:=Lib.hid hr;have HZ5:=Lib.hid (HZ4.out.frm hf (by have:=HG.out;omega));have HB4:=Lib.hid (Frm.to_below HB3.out hf (fun k e => by have h1:=HG.out;omega) (Nat.le_refl _));have HF4:=Lib.hid hf;clear hr hf))
  obtain ⟨u5,hu5⟩:∃ u5,u5=w4.alloc (.cells #[.int .i64 (nn:Int),.slice none 0 0,.slice none 0 0] 55):=⟨_,rfl⟩
  change Code.wp _ _ _ _ (w4.alloc (.cells #[.int .i64 (nn:Int),.slice none 0 0,.slice none 0 0] 55))
  have HS5:=Lib.hid (show DSlot u5 w4.heap.size ⟨none,0,none,0⟩ ⟨(nn:Int),[],[]⟩ by rw [hu5];exact DSlot.new w4 ⟨none,0,none,0⟩ ⟨(nn:Int),[],[]⟩)
  have HR5:=Lib.hid (show RdAt u5 g s t2 by rw [hu5];exact HR4.out.alloc _)
  have hb45:Below w4.heap.size w4 u5:=by rw [hu5];exact (Below.refl _ _).alloc (Nat.le_refl _) _
  have HZ6:=Lib.hid (HZ5.out.below hb45)
  have HB5:=Lib.hid (HB4.out.trans (hb45.mono HB4.out.size))
  have hg5:g < w4.heap.size:=by have h1:=HG.out;have h2:=HF2.out.size;have h3:=HF3.out.size;have h4:=HF4.out.size;omega
  rw [← hu5]
  obtain ⟨g5,hg5'⟩:∃ g5,g5=w4.heap.size:=⟨_,rfl⟩
  rw [← hg5'] at HS5 hg5 ⊢
  clear hu5 hg5' hb45 HR1 HR2 HR3 HR4 HZ1 HZ2 HZ3 HZ4 HZ5 HB0 HB1 HB2 HB3 HB4 HF2 HF3 HF4 T1 T2 T3 TN HHD
  have HG5:=Lib.hid hg5
  clear hg5
  obtain ⟨g2,hg2⟩:∃ g2,g2=w.heap.size:=⟨_,rfl⟩
  have HG2:=Lib.hid hg2
  rw [← hg2] at HZ6 ⊢
  go_wp2_with (go_at_call 95;refine (T4.out u5 g HR5.out).mono ?_;rintro e w6 ⟨rfl,hr,hf⟩;have HR6:=Lib.hid hr;have HZ7:=Lib.hid (HZ6.out.frm hf (by have:=HG.out;omega));have HS6:=Lib.hid (HS5.out.frm hf (by have:=HG5.out;omega));have HB6:=Lib.hid (Frm.to_below HB5.out hf (fun k e => by have h1:=HG.out;omega) (Nat.le_refl _));clear hr hf)
  obtain ⟨B,hB⟩:∃ B,B=w6.heap.size:=⟨_,rfl⟩
  have HBG:Hid ((g < B∧g5 < B∧g2 < B)∧(g5 ≠ g∧g2 ≠ g∧g2 ≠ g5)∧(w.heap.size≤g∧w.heap.size≤g5∧w.heap.size≤B)):=by
    have h1:=HR6.out.lt
    have h2:=HS6.out.lt
    have h3:=HZ7.out.lt
    have h4:=HG.out
    have h5:=HG5.out
    have h6:=HB6.out.size
    unfold Hid
    omega
  have HBS:=Lib.hid (show B≤w6.heap.size by omega)
  have HL6:=Lib.hid (show LAt w w6 B g5 (nn:Int) 0 ⟨none,0,none,0⟩ [] [] [] from ⟨HS6.out,DaOwn.nil _ _ _,rfl,rfl,HB6.out⟩)
  have HP3:=Lib.hid (show t3.pos≤s.size by rw [← HLL.out];exact HP4.out.1)
  clear hB hg2 HS5 HS6 HB5 HB6 HR5 HZ6 T4 HG HG5
  go_loopw [20] (fun iv wr => ∃ (n:Nat) (p:DaAt) (cs:List Co) (rs:List (List V)) (us:List (Option Addr × Nat)) (t:Tk),n≤m∧iv=.int .i64 n∧Hid (rdCols s.data.toList (m - n) t cs rs=R)∧Hid (LAt w wr B g5 (nn:Int) n p cs rs us)∧Hid (RdAt wr g s t)∧Hid (t.pos≤s.size)∧Hid (DSlot wr g2 ⟨none,0,none,0⟩ ⟨0,[],[]⟩)∧Hid (B≤wr.heap.size)) (fun iv _ => m - (intOf iv).toNat)
  case atStart => exact ⟨0,⟨none,0,none,0⟩,[],[],[],t3,Nat.zero_le _,rfl,HAL.out.symm,HL6,HR6,HP3,HZ7,HBS⟩
  case round =>
    obtain ⟨n,p,cs,rs,us,t,hle,rfl,HRC,HL,HR,HP,HZ,HBW⟩:=hrel
    clear HL6 HR6 HP3 HZ7 HBS HAL
    by_cases cn:n < m
    · have hm12:m≤12:=HP4.out.2
      have hni:(n:Int) < (m:Int):=by omega
      have hni2:decide ((n:Int) < (m:Int))=true:=decide_eq_true hni
      have T:=Lib.hid (filecolumn_any wr g s t HR.out HS.out HP.out)
      have hpp:=rdCol_pos (l:=s.data.toList) (t:=t) (by rw [HLL.out];exact HP.out)
      have hrc:=HRC.out
      rw [show m - n=(m - (n + 1)) + 1 by omega,rdCols] at hrc
      generalize rdCol s.data.toList t=C at *
      obtain ⟨⟨c,r⟩,t'⟩:=C
      simp only at T hpp hrc
      have HRN:=Lib.hid hrc
      have HPN:=Lib.hid (show t'.pos≤s.size by rw [← HLL.out];exact hpp)
      clear hrc hpp HRC
      go_upto_region 7 with (go_at_call 107;refine T.out.mono ?_;rintro e w1 ⟨a,cap,rfl,ho,hr,hf⟩;have HV:=Lib.hid ho;have HR1:=Lib.hid hr;have HF:=Lib.hid hf;clear ho hr hf T)
      obtain ⟨u6,hu6⟩:∃ u6,u6=w1.alloc (.cells #[.int .i64 c.id,.string c.nm,.int .i64 c.kd] 80):=⟨_,rfl⟩
      change Code.wp _ _ _ _ (w1.alloc (.cells #[.int .i64 c.id,.string c.nm,.int .i64 c.kd] 80))
      have HC6:=Lib.hid (show CSlot u6 w1.heap.size c by rw [hu6];exact CSlot.new w1 c)
      have HA6:=Lib.hid (show Frm (fun _ => False) w1 u6 by rw [hu6];exact (Frm.refl _ _).alloc _)
      rw [← hu6]
      clear hu6
      have hf6:=HL.out.first HBG.out.1.1 HBG.out.1.2.1 HBG.out.2.1.1 HF.out HA6.out
      have HO6:=Lib.hid hf6.1
      obtain ⟨⟨c0,c1,c2⟩,_⟩:=HC6.out.at
      obtain ⟨b0,b1,b2⟩:=hf6.2.at
      simp only at b0 b1 b2
      have hz6:B≤u6.heap.size:=Nat.le_trans HBW.out (Nat.le_trans HF.out.size HA6.out.size)
      have hcl:cs.length≤12:=by rw [HL.out.lc];have:=HP4.out.2;omega
      have hrl:rs.length≤12:=by rw [HL.out.lr];have:=HP4.out.2;omega
      clear hf6
      go_upto_region 8 with (at_builtin;refine wp_co HO6.out hz6 (by omega) rfl _ _ rfl c rfl rfl ?_;intro a' c' w2 hx hf2 hnew;have HX2:=Lib.hid hx;have HF2:=Lib.hid hf2;have hd2:=HL.out.second HBG.out.1.1 HBG.out.1.2.1 HBG.out.2.1.1 HF.out HA6.out hf2;clear b0 b1 b2 c0 c1 c2;obtain ⟨b0,b1,b2⟩:=hd2.at;simp only at b0 b1 b2;obtain ⟨y0,y1,y2⟩:=hd2.froz;have HD2:=Lib.hid hd2;clear hx hf2 hnew hd2)
      obtain ⟨w3,hw3⟩:∃ w3,w3=w2.setCell ⟨g5,1,none⟩ (.slice a' (cs ++ [c]).length c'):=⟨_,rfl⟩
      have hlc:(cs ++ [c]).length=cs.length + 1:=by simp
      have hw3':=hw3
      rw [hlc] at hw3'
      change Code.wp _ _ _ _ (w2.setCell ⟨g5,1,none⟩ (.slice a' (cs.length + 1:Nat) c'))
      rw [← hw3']
      clear hw3'
      have hd3:DSlot w3 g5 ⟨a',c',p.ar,p.kr⟩ ⟨(nn:Int),cs ++ [c],rs⟩:=by rw [hw3];exact HD2.out.setC a' c' (cs ++ [c])
      have hth:=HL.out.third HBG.out.1.1 HBG.out.1.2.1 HBG.out.2.1.1 HF.out HA6.out HF2.out (.slice a' (cs ++ [c]).length c')
      rw [← hw3] at hth
      have HD3:=Lib.hid hd3
      have HO3:=Lib.hid hth.1
      have HVL:=Lib.hid (show (rowCells us rs).length=rs.length from rowCells_length HL.out.own.vs.len)
      clear b0 b1 b2 y0 y1 y2
      obtain ⟨b0,b1,b2⟩:=hd3.at
      simp only at b0 b1 b2
      have HW3:=Lib.hid hw3
      have hz3:B≤w3.heap.size:=Nat.le_trans hz6 (Nat.le_trans HF2.out.size (by rw [hw3];simp))
      have HG5:=Lib.hid HBG.out.1.2.1
      clear hw3 hth hd3 HD2 hlc hcl
      go_wp2_with (at_builtin;refine wp_one oneRow HO3.out HVL.out hz3 (by omega) rfl _ _ rfl (.slice a r.length cap) rfl rfl rfl ?_;intro ar' cr' w4 hx hf4 hnew;have HX4:=Lib.hid hx;have HF4:=Lib.hid hf4;have hd4:=HD3.out.frm hf4 (fun hk => by have h1:=(own_ge HO3.out hk).1;have h2:=HG5.out;omega);clear b0 b1 b2;obtain ⟨b0,b1,b2⟩:=hd4.at;simp only at b0 b1 b2;obtain ⟨y0,y1,y2⟩:=hd4.froz;clear hx hf4 hnew hd4)
      have hf4:=HF4.out
      rw [HW3.out] at hf4
      obtain ⟨hN,hNF⟩:=HL.out.next HBG.out.1.1 HBG.out.1.2.1 HBG.out.2.1.1 HBG.out.2.2 HBW.out HF.out HV.out HA6.out HX2.out HF2.out HX4.out hf4
      rw [show (rs ++ [r]).length=rs.length + 1 by simp] at hN hNF
      have HN:=Lib.hid hN
      have HRX:=Lib.hid (HR1.out.frm hNF (fun e => by have:=HBG.out;omega))
      have HZX:=Lib.hid ((HZ.out.frm HF.out HBG.out.2.1.2.1).frm hNF (fun e => by have:=HBG.out;omega))
      have HBX:=Lib.hid (show B≤(w4.setCell ⟨g5,2,none⟩ (.slice ar' (rs.length + 1:Nat) cr')).heap.size from Nat.le_trans (Nat.le_trans HBW.out HF.out.size) hNF.size)
      clear hN hNF hf4 b0 b1 b2 y0 y1 y2
      go_roundw
      case rel => exact ⟨n + 1,⟨a',c',ar',cr'⟩,cs ++ [c],rs ++ [r],us ++ [(a,cap)],t',by omega,by go_num,HRN,HN,HRX,HPN,HZX,HBX⟩
      case measure => simp [intOf];omega
    · obtain rfl:n=m:=by omega
      have hni2:decide ((n:Int) < (n:Int))=false:=decide_eq_false (by omega)
      have hR:R=((cs,rs),t):=by rw [← HRC.out,Nat.sub_self];rfl
      subst hR
      have TB:=Lib.hid (fun (u:World) (h:RdAt u g s t) => rdbroken_any u g s t h)
      have HSL:=Lib.hid HL.out.slot
      clear HRC cn
      go_upto_region 10 with fail
      have hz1:=HZ.out
      rw [HG2.out] at hz1
      have HO1:=Lib.hid (HL.out.own.frm (Frm.refl (fun _ => False) wr).drew fun _ _ _ e => e)
      have HB1:=Lib.hid (bel_drew HL.out.bel 1)
      have TB1:=Lib.hid (TB.out wr.drew ⟨HR.out.b⟩)
      obtain ⟨z0,z1,z2⟩:=hz1.at
      obtain ⟨y0,y1,y2⟩:=hz1.froz
      obtain ⟨b0,b1,b2⟩:=HSL.out.at
      simp only at z0 z1 z2 b0 b1 b2
      have HZ1:=Lib.hid (show DSlot wr.drew w.heap.size ⟨none,0,none,0⟩ ⟨0,[],[]⟩ from ⟨hz1.b⟩)
      clear hz1 TB HSL HR HZ
      go_region_law (go_simp;go_at_call 97;refine TB1.out.mono ?_;rintro e w6 ⟨rfl,rfl⟩)
      all_goals (
        go_wp2
        change bodyPost _ _ _ _ _ (putD wr.drew w.heap.size p ⟨(nn:Int),cs,rs⟩)
        have hp:=HZ1.out.put p ⟨(nn:Int),cs,rs⟩
        have hpf:=putD_frm (F:=fun k => k=w.heap.size) rfl wr.drew p ⟨(nn:Int),cs,rs⟩
        generalize putD wr.drew w.heap.size p ⟨(nn:Int),cs,rs⟩=w9 at *
        clear z0 z1 z2 y0 y1 y2 b0 b1 b2
        obtain ⟨b0,b1,b2⟩:=hp.at
        simp only at b0 b1 b2
        refine bodyPost_ret (v:=.tuple #[.agg #[.int .i64 (nn:Int),.slice p.ac cs.length p.kc,.slice p.ar rs.length p.kr],.bool (!t.bad)]) (by simp [results,Tryz.results70,go_sem,b0,b1,b2]) rfl ?_
        refine ⟨p,⟨(nn:Int),cs,rs⟩,us,!t.bad,rfl,?_,?_,?_⟩
        · rw [HRF.out]
          cases t.bad <;> rfl
        · refine (HO1.out.frm hpf fun k hk _ e => ?_).lower HBG.out.2.2.2.2
          have h1:=HBG.out.1.2.2
          have h2:=HG2.out
          omega
        · exact Frm.to_below HB1.out hpf (fun k e => by rw [e];exact Nat.le_refl _) (Nat.le_refl _))
end Go.Proofs.YtfbmlefhjoblbaaGreat
