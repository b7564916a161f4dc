/- Spaces and remarks left out: a claim is at most so large. -/
import Derived.Test.YtfbmlefhjoblbaaGreatNPFileGetsGz2
import Derived.Test.YtfbmlefhjoblbaaGreatRdGz
import Derived.Test.YtfbmlefhjoblbaaGreatPackGz
import Derived.Lib.AppendStr
import Derived.Test.YtfbmlefhjoblbaaGreatYmathGz
import Derived.Test.YtfbmlefhjoblbaaGreatWmathGz
import Derived.Test.YtfbmlefhjoblbaaGreatUCutGz
import Derived.Test.YtfbmlefhjoblbaaGreatWBuildGz
import Derived.Deep.LoopGhost
import Derived.Test.YtfbmlefhjoblbaaGreatGetGGz
import Derived.Test.YtfbmlefhjoblbaaGreatNPFileGetsGz3
import Derived.Test.YtfbmlefhjoblbaaGreatFirstGz
import Derived.Test.YtfbmlefhjoblbaaGreatOpenGz
namespace Go.Proofs.YtfbmlefhjoblbaaGreat
open Go.Conc Go.RowKit
set_option linter.unusedVariables false
set_option linter.unusedSimpArgs false
theorem BuilderAt_below {T e:TypeId} {B b:Nat} {p:Value} {bs:List Value} {w w':World} (h:Lib.BuilderAt T e B b p bs w) (hb:Below w.heap.size w w'):Lib.BuilderAt T e B b p bs w':=by
  obtain ⟨h1,v,h2,h3,h4⟩:=h
  exact ⟨h1,v,by rw [hb.block b (Array.getElem?_eq_some_iff.1 h2).1];exact h2,own_same h3 fun g _ hg => hb.block g hg,h4⟩
theorem SbAt.below {B b:Nat} {l:List UInt8} {w w':World} (h:SbAt B b l w) (hb:Below w.heap.size w w'):SbAt B b l w' :=
  h.elim (fun x => .inl (BuilderAt_below x hb)) (fun x => .inr (BuilderAt_below x hb))
theorem SbAt.new {B:Nat} (w:World) (hB:B≤w.heap.size):SbAt B w.heap.size [] (w.alloc (.cells #[.pointer none,.slice none 0 0] 123)) :=
  .inl ⟨hB,.slice none 0 0,heap_alloc_new w _,World.ownsRow_nil _ _ _ _,by simp [Value.ownBlock]⟩
set_option maxRecDepth 100000 in
set_option maxHeartbeats 1000000 in
theorem sbwstr_any (B b:Nat) (l:List UInt8) (s:ByteArray) (w:World) (h:SbAt B b l w) (hl:l.length + s.size≤140737488355328) (hB:B≤w.heap.size) :
    Calls Tryz.prog 78 #[.pointer (some ⟨b,0,none⟩),.string s] w fun e w' => e=.returned (.tuple #[.int .i64 s.size,.nilIface])∧SbAt B b (l ++ s.data.toList) w'∧Below B w w'∧SbKept b w w':=by
  obtain ⟨i0,hi,hz0,hz1,hz2⟩:=info_parts infoByte
  have hcl:=byteCells_length l
  have HZ:=Lib.hid hz0
  have HC:=Lib.hid (sbcheck_any B b l w h)
  have HSL:=Lib.hid (size_list s)
  clear hz0 h
  go_enter Tryz.func78,Tryz.ntmps78
  go_wp2_with (go_at_call 112;refine HC.out.mono ?_)
  rintro e w1 ⟨rfl,h1,hb1,hk1⟩
  obtain ⟨hB1,v,hbk,hown,hne⟩:=h1
  rw [hcl] at hown
  have c1:w1.cell? ⟨b,1,none⟩=some v:=by rw [Lib.cell_of_heap hbk];rfl
  have HBK:=Lib.hid hbk
  have HB1:=Lib.hid hb1
  have HK1:=Lib.hid hk1
  have HO:=Lib.hid hown
  have hlt:b < w1.heap.size:=(Array.getElem?_eq_some_iff.1 hbk).1
  clear hb1 hk1 hown hbk
  go_wp2_with (at_builtin;refine Lib.wpList_append_own_string _ rfl _ _ 50 9 rfl B 5 i0 Tryz.underlying50 Tryz.underlying9 hi HZ.out hz1 hz2 v l.length (byteCells l) rfl HO.out s rfl ?c3 ?c4 ?c5 ?_)
  case c3 => simp only [maxLen];omega
  case c4 => omega
  case c5 => have:=HB1.out.size;omega
  intro v' w2 hown' hgrow _
  have hb2:w2.heap[b]? = some (.cells #[.pointer (some ⟨b,0,none⟩),v] 123 (0,0)):=by
    rw [hgrow.block b hlt (fun e => hne e.symm)]
    exact HBK.out
  have d0:w2.cell? ⟨b,0,none⟩=some (.pointer (some ⟨b,0,none⟩)):=by rw [Lib.cell_of_heap hb2];rfl
  have d1:w2.cell? ⟨b,1,none⟩=some v:=by rw [Lib.cell_of_heap hb2];rfl
  have f1:w2.frozen? ⟨b,1,none⟩=false:=Lib.frozen_of_heap hb2 1
  obtain ⟨g,cap,rfl⟩:=own_form hown'
  have HB2:=Lib.hid hb2
  have HG:=Lib.hid hgrow
  have HO2:=Lib.hid hown'
  clear hb2 hgrow hown'
  go_wp2
  go_ret2
  refine ⟨rfl,.inr ?_,?_,((HK1.out).grown HG.out (own_kind HO.out)).setCell ⟨b,1,none⟩ rfl _⟩
  · refine Lib.BuilderAt.put hB1 HB2.out ?_ (by decide)
    rw [byteCells_length,List.length_append,byteCells_append,← HSL.out]
    exact HO2.out
  · exact (HB1.out.grown HG.out (by have:=HB1.out.size;omega) (fun k hk => own_block HO.out hk.symm)).setCell (p:=⟨b,1,none⟩) hB1 _
set_option maxRecDepth 100000 in
theorem count_any (z:Int) (h0:0≤z) (h1:z < 9223372036854775808) (w:World):Calls Tryz.prog 79 #[.int .i64 z] w fun e w' => e=.returned (.string (textB (vp z.toNat)))∧Below w.heap.size w w':=by
  obtain ⟨n,rfl⟩:∃ n:Nat,z=n:=⟨z.toNat,by omega⟩
  have T:=Lib.hid (vput_yes n (by omega))
  rw [Int.toNat_natCast]
  clear h0 h1
  go_enter Tryz.func79,Tryz.ntmps79
  go_wp2_with (go_at_call 113;refine (T.out _).mono ?_;rintro e w' ⟨rfl,hb⟩;have HB:=Lib.hid hb;clear hb)
  go_ret
  exact ⟨rfl,HB.out⟩
set_option maxRecDepth 100000 in
theorem packed_any (w:World) (a:Option Addr) (cap:Nat) (wd:Nat) (hw:wd≤16) (xs:List Int) (ha:IsL w a xs) (hx:xs.length≤65536) (hf:fits wd xs) :
    Calls Tryz.prog 80 #[.slice a xs.length cap,.int .i64 (wd:Int)] w fun e w' => e=.returned (.string (textB (packB wd xs)))∧Below w.heap.size w w':=by
  have hp:((2:Int) ^ wd)≤65536:=by
    have:(2:Nat) ^ wd≤2 ^ 16:=Nat.pow_le_pow_right (by omega) hw
    have h4:((2:Int) ^ wd)=((2 ^ wd:Nat):Int):=by simp
    rw [h4];omega
  have T:=Lib.hid (kpack_any w a cap wd xs ha (by omega) (fun x hx => by have:=(hf x hx).2;omega))
  rw [packA_B hw hf] at T
  simp only at T
  clear ha hf hp
  go_enter Tryz.func80,Tryz.ntmps80
  go_wp2_with (go_at_call 114;refine T.out.mono ?_;rintro e w' ⟨rfl,hb⟩;have HB:=Lib.hid hb;clear hb)
  go_ret
  exact ⟨rfl,HB.out⟩
end Go.Proofs.YtfbmlefhjoblbaaGreat
namespace Go.Proofs.YtfbmlefhjoblbaaGreat
open Go.Conc Go.RowKit
set_option linter.unusedVariables false
set_option linter.unusedSimpArgs false
structure BAt (w wr:World) (b:Nat) (L:List UInt8):Prop where
  sb:SbAt w.heap.size b L wr
  below:Below w.heap.size w wr
theorem BAt.more {w u u':World} {b:Nat} {L:List UInt8} (h:BAt w u b L) (hb:Below u.heap.size u u'):BAt w u' b L:=⟨h.sb.below hb,h.below.trans (hb.mono h.below.size)⟩
theorem flat_take (vs:List V) (f:V→List UInt8) (n:Nat) (h:n < vs.length):(vs.take (n + 1)).flatMap f=(vs.take n).flatMap f ++ f vs[n]:=by
  rw [← List.take_append_getElem h,List.flatMap_append];simp
set_option maxRecDepth 100000 in
set_option maxHeartbeats 4000000 in
theorem puteach_any (w:World) (a:Option Addr) (cap:Nat) (vs:List V) (k:Int) (hk:1≤k∧k≤3) (ha:IsV w a vs) (hx:vs.length≤4096) (hv:∀ v ∈ vs,RawK k v) :
    Calls Tryz.prog 121 #[.slice a vs.length cap] w fun e w' => e=.returned (.string (textB (vs.flatMap plainB)))∧Below w.heap.size w w':=by
  obtain ⟨R,hR⟩:∃ R,R=vs.flatMap plainB:=⟨_,rfl⟩
  rw [← hR]
  have HR:=Lib.hid hR
  have HA:=Lib.hid ha
  have HV:=Lib.hid hv
  have HK:=Lib.hid hk
  have HX:=Lib.hid hx
  have hb0:Below w.heap.size w (w.alloc (.cells #[.pointer none,.slice none 0 0] 123)):=(Below.refl _ _).alloc (Nat.le_refl _) _
  have H0:Hid (BAt w (w.alloc (.cells #[.pointer none,.slice none 0 0] 123)) w.heap.size []):=⟨SbAt.new w (Nat.le_refl _),hb0⟩
  clear hR ha hv hb0 hk
  go_enter Tryz.func121,Tryz.ntmps121
  go_upto_region 2 with fail
  obtain ⟨b,hb⟩:∃ b,b=w.heap.size:=⟨_,rfl⟩
  have HB:=Lib.hid hb
  rw [← hb] at H0 ⊢
  clear hb
  generalize w.alloc (.cells #[.pointer none,.slice none 0 0] 123)=w1 at *
  go_wp2
  go_loopw [8] (fun iv wr => ∃ (n:Nat) (L:List UInt8),n≤vs.length∧iv=.int .i64 n∧Hid ((vs.take n).flatMap plainB=L)∧Hid (BAt w wr b L)) (fun iv _ => vs.length - (intOf iv).toNat)
  case atStart => exact ⟨0,[],Nat.zero_le _,rfl,rfl,H0⟩
  case round =>
    obtain ⟨n,L,hn,rfl,HL,HC⟩:=hrel
    by_cases c:n < vs.length
    · rcases HA.out with h | ⟨bb,off,rfl,hcells⟩
      · subst h;simp at c
      obtain ⟨v0,v1,v2,v3⟩:=(hcells n c).below HC.out.below
      have hvk:=HV.out vs[n] (List.getElem_mem _)
      have HE:Hid ((vs.take (n + 1)).flatMap plainB=L ++ (textB (plainB vs[n])).data.toList):=by
        unfold Hid
        rw [flat_take vs plainB n c,HL.out,textB_list]
      have hLl:L.length≤400000:=by
        rw [← HL.out]
        have:=flat_len (vs:=vs.take n) (f:=plainB) (c:=74) fun v h => rawB_len (HV.out v (List.mem_of_mem_take h)) HK.out
        rw [List.length_take] at this
        have h2:min n vs.length * 74≤4096 * 74:=Nat.mul_le_mul_right 74 (by omega)
        omega
      have hpl:=rawB_len hvk HK.out
      have T1:=Lib.hid (fun u => cellput_any vs[n] (by rw [hvk.kind];exact HK.out) hvk.lo hvk.hi hvk.big u)
      have HSZ:=Lib.hid (show L.length + (textB (plainB vs[n])).size≤140737488355328 by rw [textB_size];omega)
      clear hcells hvk hLl hpl
      generalize textB (plainB vs[n])=x at *
      generalize vs[n]=v at *
      have hnl:vs.length≤4096:=HX.out
      have hci:(n:Int) < (vs.length:Int):=by omega
      have HS0:=Lib.hid (Slot.new wr v)
      have HC1:=Lib.hid (HC.out.more ((Below.refl wr.heap.size wr).alloc (Nat.le_refl _) (.cells #[.int .i64 v.k,.int .i64 v.i,.bool v.b,.string v.s] 24)))
      go_upto_region 5 with fail
      obtain ⟨g8,hg8⟩:∃ g8,g8=wr.heap.size:=⟨_,rfl⟩
      rw [← hg8] at HS0 ⊢
      clear hg8 v0 v1 v2 v3
      generalize wr.alloc (.cells #[.int .i64 v.k,.int .i64 v.i,.bool v.b,.string v.s] 24)=u1 at *
      obtain ⟨⟨a0,a1,a2,a3⟩,_⟩:=HS0.out.at
      go_wp2_with (first
        | (go_at_call 136;refine (T1.out _).mono ?_;rintro e w5 ⟨rfl,hb5⟩;have HC5:=Lib.hid (HC1.out.more hb5);clear hb5)
        | (go_at_call 78;refine (sbwstr_any w.heap.size b L x _ HC5.out.sb HSZ.out HC5.out.below.size).mono ?_;rintro e w6 ⟨rfl,hs6,hb6,_⟩;have HC6:Hid (BAt w w6 b (L ++ x.data.toList)):=⟨hs6,HC5.out.below.trans hb6⟩;clear hs6 hb6))
      go_roundw
      case rel => exact ⟨n + 1,L ++ x.data.toList,c,by go_num,HE.out,HC6⟩
      case measure => simp [intOf];omega
    · obtain rfl:n=vs.length:=by omega
      have hR:R=L:=by rw [HR.out,← HL.out,List.take_length]
      subst hR
      clear c
      go_wp2_with (go_at_call 81;refine (sbstring_any w.heap.size b R _ HC.out.sb HC.out.below.size).mono ?_;rintro e w6 ⟨rfl,hb6,_⟩;have HF:=Lib.hid (HC.out.below.trans hb6);clear hb6)
      go_ret
      exact ⟨rfl,HF.out⟩
end Go.Proofs.YtfbmlefhjoblbaaGreat
namespace Go.Proofs.YtfbmlefhjoblbaaGreat
open Go.Conc Go.RowKit
set_option linter.unusedVariables false
set_option linter.unusedSimpArgs false
theorem runs_take (ms:List Int) (es:List V) (n:Nat) (h1:n < ms.length) (h2:n < es.length):runsB ((ms.zip es).take (n + 1))=runsB ((ms.zip es).take n) ++ vp ms[n].toNat ++ plainB es[n]:=by
  have h:n < (ms.zip es).length:=by rw [List.length_zip];omega
  rw [← List.take_append_getElem h]
  unfold runsB
  rw [List.flatMap_append,List.getElem_zip]
  simp
theorem valk_text {k:Int} {v:V} (hk:1≤k∧k≤3) (h:ValK k v):v.s.size≤64:=by
  by_cases e:k=3
  · exact h.size e
  · have h5:=h.plain;have h6:=h.kind
    rcases (show v.k=1∨v.k=2 by omega) with e | e
    · rw [plainV_int e] at h5;rw [← h5];exact Nat.zero_le _
    · rw [plainV_bool e] at h5;rw [← h5];exact Nat.zero_le _
set_option maxRecDepth 100000 in
set_option maxHeartbeats 4000000 in
theorem putruns_any (w:World) (a:Option Addr) (cap:Nat) (vs:List V) (k:Int) (hk:1≤k∧k≤3) (ha:IsV w a vs) (hx:vs.length≤4096) (hv:∀ v ∈ vs,RawK k v) :
    Calls Tryz.prog 124 #[.slice a vs.length cap] w fun e w' => e=.returned (.string (textB (wayR vs)))∧Below w.heap.size w w':=by
  obtain ⟨R,hR⟩:∃ R,R=wayR vs:=⟨_,rfl⟩
  rw [← hR]
  have T0:=Lib.hid (ucut_any w a cap vs ha (by omega) (fun v hm => by have:=(hv v hm).big;omega))
  have hcd:=cutd vs
  have hel:∀ v ∈ (cutA vs).2,ValK k v:=raw_cut hk hv
  have hml:∀ i (h:i < (cutA vs).1.length),0≤(cutA vs).1[i]∧(cutA vs).1[i]≤4096:=fun i hi => by
    have h4:=cut_num_le vs i hi
    have h5:=hcd.pos i hi
    rw [getD_in hi] at h4 h5
    omega
  have hlen:=hcd.len
  have hle:=hcd.le
  unfold wayR at hR
  generalize cutA vs=C at *
  obtain ⟨ms,es⟩:=C
  simp only at *
  have hel4:es.length≤4096:=by omega
  have HR:=Lib.hid hR
  have HE:=Lib.hid hel
  have HM:=Lib.hid hml
  have HK:=Lib.hid hk
  have HLN:=Lib.hid hlen
  have HE4:=Lib.hid hel4
  clear hR hcd hel hml hlen hle hv ha hk hx
  go_enter Tryz.func124,Tryz.ntmps124
  go_upto_region 3 with (go_at_call 152;refine T0.out.mono ?_;rintro e w1 ⟨am,cm,ae,ce,rfl,hm1,he1,hb1⟩;have HM1:=Lib.hid hm1.isL;have HE1:=Lib.hid he1.isV;have HB1:=Lib.hid hb1;clear hm1 he1 hb1)
  have H0:Hid (BAt w1 (w1.alloc (.cells #[.pointer none,.slice none 0 0] 123)) w1.heap.size []):=⟨SbAt.new w1 (Nat.le_refl _),(Below.refl _ _).alloc (Nat.le_refl _) _⟩
  obtain ⟨b,hb⟩:∃ b,b=w1.heap.size:=⟨_,rfl⟩
  have HB:=Lib.hid hb
  rw [← hb] at H0 ⊢
  clear hb T0
  generalize w1.alloc (.cells #[.pointer none,.slice none 0 0] 123)=w2 at *
  have hcz:(0:Int)≤(ms.length:Int):=by omega
  have hcl:(ms.length:Int) < 9223372036854775808:=by have:=HLN.out;omega
  have T1:=Lib.hid (fun u => count_any (ms.length:Int) hcz hcl u)
  rw [Int.toNat_natCast] at T1
  have hv10:=vp_le ms.length
  have HX0:=Lib.hid (textB_list (vp ms.length))
  have HZ0:=Lib.hid (show (textB (vp ms.length)).size≤10 by rw [textB_size];exact hv10)
  clear hcz hcl hv10
  generalize hx0:textB (vp ms.length)=x0 at *
  clear hx0
  go_upto_region 4 with (first
    | (go_at_call 79;refine (T1.out _).mono ?_;rintro e w3 ⟨rfl,hb3⟩;have HC3:=Lib.hid (H0.out.more hb3);clear hb3)
    | (go_at_call 78;refine (sbwstr_any w1.heap.size b [] x0 _ HC3.out.sb (by have:=HZ0.out;simp only [List.length_nil];omega) HC3.out.below.size).mono ?_;rintro e w4 ⟨rfl,hs4,hb4,_⟩;have HC4:Hid (BAt w1 w4 b ([] ++ x0.data.toList)):=⟨hs4,HC3.out.below.trans hb4⟩;clear hs4 hb4))
  have H1:Hid (BAt w1 w4 b (vp ms.length)):=by have:=HC4.out;rw [List.nil_append,HX0.out] at this;exact this
  clear HC4 HC3 H0
  go_wp2
  go_loopw [19] (fun iv wr => ∃ (n:Nat) (L:List UInt8),n≤es.length∧iv=.int .i64 n∧Hid (vp ms.length ++ runsB ((ms.zip es).take n)=L)∧Hid (BAt w1 wr b L)) (fun iv _ => es.length - (intOf iv).toNat)
  case atStart => exact ⟨0,vp ms.length,Nat.zero_le _,rfl,by simp [Hid,runsB],H1⟩
  case round =>
    obtain ⟨n,L,hn,rfl,HL,HC⟩:=hrel
    by_cases c:n < es.length
    · have cm':n < ms.length:=by have:=HLN.out;omega
      rcases HE1.out with h | ⟨bb,off,rfl,hcells⟩
      · subst h;simp at c
      rcases HM1.out with h | ⟨bm,offm,rfl,hmc⟩
      · subst h;simp at cm'
      have hvb:=(hcells n c).below HC.out.below
      have hmm:=HM.out n cm'
      have hmb:=(World.cell?_of_block (HC.out.below.block bm (World.block_lt_of_cell? w1 ⟨bm,offm + n,none⟩ (hmc n cm')))).trans (hmc n cm')
      have hvk:=HE.out es[n] (List.getElem_mem _)
      have HEQ:Hid (vp ms.length ++ runsB ((ms.zip es).take (n + 1))=L ++ (textB (vp ms[n].toNat)).data.toList ++ (textB (plainB es[n])).data.toList):=by
        unfold Hid
        rw [runs_take ms es n cm' c,← HL.out,textB_list,textB_list];simp
      have hLl:L.length≤500000:=by
        rw [← HL.out,List.length_append]
        have h1:=vp_le ms.length
        have h2:=runsB_len (rs:=(ms.zip es).take n) (c:=74) fun x hx => (plainB_len (HE.out _ (List.of_mem_zip (a:=x.1) (b:=x.2) (List.mem_of_mem_take hx)).2) HK.out).2
        have h3:((ms.zip es).take n).length≤4096:=by rw [List.length_take,List.length_zip];have:=HE4.out;omega
        have h4:=Nat.mul_le_mul_right (10 + 74) h3
        omega
      have hpl:=(plainB_len hvk HK.out).2
      have T2:=Lib.hid (fun u => count_any ms[n] hmm.1 (by omega) u)
      have T3:=Lib.hid (fun u => cellput_any es[n] (by rw [hvk.kind];exact HK.out) hvk.lo hvk.hi (by have:=valk_text HK.out hvk;omega) u)
      have hz2:=vp_le ms[n].toNat
      have HZ2:=Lib.hid (show L.length + (textB (vp ms[n].toNat)).size≤140737488355328 by rw [textB_size];omega)
      have HZ3:=Lib.hid (show (L ++ (textB (vp ms[n].toNat)).data.toList).length + (textB (plainB es[n])).size≤140737488355328 by rw [List.length_append,textB_list,textB_size];omega)
      clear hcells hmc hvk hLl hpl hmm hz2
      generalize textB (plainB es[n])=x at *
      generalize textB (vp ms[n].toNat)=y at *
      generalize ms[n]=m at *
      generalize es[n]=v at *
      obtain ⟨v0,v1,v2,v3⟩:=hvb
      have hnl:es.length≤4096:=HE4.out
      have hci:(n:Int) < (es.length:Int):=by omega
      have hcm:(n:Int) < (ms.length:Int):=by omega
      have HS0:=Lib.hid (Slot.new wr v)
      have HC1:=Lib.hid (HC.out.more ((Below.refl wr.heap.size wr).alloc (Nat.le_refl _) (.cells #[.int .i64 v.k,.int .i64 v.i,.bool v.b,.string v.s] 24)))
      have hmb1:=(World.cell?_of_block (Below.heap_alloc wr (.cells #[.int .i64 v.k,.int .i64 v.i,.bool v.b,.string v.s] 24) bm (World.block_lt_of_cell? wr ⟨bm,offm + n,none⟩ hmb))).trans hmb
      go_upto_region 7 with fail
      obtain ⟨g8,hg8⟩:∃ g8,g8=wr.heap.size:=⟨_,rfl⟩
      have HGB:=Lib.hid (show ¬ g8=b by rw [hg8];have:=(HC.out.sb.elim (fun x => x.lt) (fun x => x.lt):b < wr.heap.size);omega)
      rw [← hg8] at HS0 ⊢
      clear hg8 v0 v1 v2 v3 hmb
      generalize wr.alloc (.cells #[.int .i64 v.k,.int .i64 v.i,.bool v.b,.string v.s] 24)=u1 at *
      go_upto_region 8 with (first
        | (go_at_call 79;refine (T2.out _).mono ?_;rintro e w5 ⟨rfl,hb5⟩;have HC5:=Lib.hid (HC1.out.more hb5);have HS5:=Lib.hid (HS0.out.below hb5);clear hb5)
        | (go_at_call 78;refine (sbwstr_any w1.heap.size b L y _ HC5.out.sb HZ2.out HC5.out.below.size).mono ?_;rintro e w6 ⟨rfl,hs6,hb6,hk6⟩;have HC6:Hid (BAt w1 w6 b (L ++ y.data.toList)):=⟨hs6,HC5.out.below.trans hb6⟩;have hs6:Slot w6 g8 v:=⟨hk6 g8 _ HS5.out.b (fun e => by injection e with e;exact HGB.out e) (fun c fz e => by injection e with _ e2 _;exact absurd e2 (by decide))⟩;have HS6:=Lib.hid hs6;clear hs6 hb6 hk6 hmb1))
      obtain ⟨⟨a0,a1,a2,a3⟩,_⟩:=HS6.out.at
      go_wp2_with (first
        | (go_at_call 136;refine (T3.out _).mono ?_;rintro e w7 ⟨rfl,hb7⟩;have HC7:=Lib.hid (HC6.out.more hb7);clear hb7)
        | (go_at_call 78;refine (sbwstr_any w1.heap.size b (L ++ y.data.toList) x _ HC7.out.sb HZ3.out HC7.out.below.size).mono ?_;rintro e w8 ⟨rfl,hs8,hb8,_⟩;have HC8:Hid (BAt w1 w8 b (L ++ y.data.toList ++ x.data.toList)):=⟨hs8,HC7.out.below.trans hb8⟩;clear hs8 hb8))
      go_roundw
      case rel => exact ⟨n + 1,L ++ y.data.toList ++ x.data.toList,c,by go_num,HEQ.out,HC8⟩
      case measure => simp [intOf];omega
    · obtain rfl:n=es.length:=by omega
      have hR:R=L:=by
        rw [HR.out,← HL.out,List.take_of_length_le (by rw [List.length_zip];omega),HLN.out]
      subst hR
      clear c
      go_wp2_with (go_at_call 81;refine (sbstring_any w1.heap.size b R _ HC.out.sb HC.out.below.size).mono ?_;rintro e w6 ⟨rfl,hb6,_⟩;have HF:=Lib.hid (HC.out.below.trans hb6);clear hb6)
      go_ret
      exact ⟨rfl,HB1.out.trans (HF.out.mono HB1.out.size)⟩
set_option maxRecDepth 100000 in
set_option maxHeartbeats 4000000 in
theorem putwords_any (w:World) (a:Option Addr) (cap:Nat) (vs:List V) (k:Int) (hk:1≤k∧k≤3) (ha:IsV w a vs) (hx:vs.length≤4096) (hv:∀ v ∈ vs,RawK k v) :
    Calls Tryz.prog 127 #[.slice a vs.length cap] w fun e w' => e=.returned (.string (textB (wayW vs)))∧Below w.heap.size w w':=by
  have T0:=Lib.hid (wbuild_any w a cap vs ha (by omega) (fun v hm => by have:=(hv v hm).big;omega))
  have hbd:=built vs
  have hws:∀ v ∈ (buildA vs).1,ValK k v:=raw_build hk hv
  have hpf:=places_fit (vs:=vs) hx
  have hlen:=hbd.len
  have hle:=hbd.le
  have hwl:=rawW_len hk hv hx
  have hww:wayW vs=vp (buildA vs).1.length ++ ((buildA vs).1.flatMap plainB ++ packB (wid ((buildA vs).1.length - 1)) (buildA vs).2):=rfl
  have hw1:=wid_most (n:=(buildA vs).1.length) (by omega)
  rw [hww] at hwl ⊢
  rw [List.length_append,List.length_append] at hwl
  clear hww
  generalize buildA vs=C at *
  obtain ⟨ws,at_⟩:=C
  simp only at *
  have hwn:ws.length≤4096:=by omega
  have han:at_.length≤65536:=by omega
  have T1:=Lib.hid (fun u => count_any (ws.length:Int) (by omega) (by omega) u)
  rw [Int.toNat_natCast] at T1
  have T2:=Lib.hid (fun (u:World) (a:Option Addr) (cap:Nat) (h:IsV u a ws) => puteach_any u a cap ws k hk h hwn (fun v hv => valk_raw hk (hws v hv)))
  have T3:=Lib.hid (fun (u:World) (a:Option Addr) (cap:Nat) => placebits_any u a ws.length cap (by omega))
  have T4:=Lib.hid (fun (u:World) (a:Option Addr) (cap:Nat) (h:IsL u a at_) => packed_any u a cap (wid (ws.length - 1)) (by omega) at_ h han hpf)
  have e1:textB (vp ws.length ++ (ws.flatMap plainB ++ packB (wid (ws.length - 1)) at_))=textB (vp ws.length) ++ textB (ws.flatMap plainB) ++ textB (packB (wid (ws.length - 1)) at_):=by rw [← List.append_assoc,textB_append,textB_append]
  rw [e1]
  have hs1:¬ 9223372036854775807 < (textB (vp ws.length)).size + (textB (ws.flatMap plainB)).size:=by rw [textB_size,textB_size];omega
  have hs2:¬ 9223372036854775807 < (textB (vp ws.length) ++ textB (ws.flatMap plainB)).size + (textB (packB (wid (ws.length - 1)) at_)).size:=by rw [ByteArray.size_append,textB_size,textB_size,textB_size];omega
  clear e1 hwl hpf hws hbd hlen hle hv ha hk hx hw1 hwn han
  generalize textB (vp ws.length)=x at *
  generalize textB (ws.flatMap plainB)=y at *
  generalize textB (packB (wid (ws.length - 1)) at_)=z at *
  generalize wid (ws.length - 1)=wd at *
  go_enter Tryz.func127,Tryz.ntmps127
  go_wp2_with (first
    | (go_at_call 155;refine T0.out.mono ?_;rintro e w1 ⟨aw,cw,ai,ci,rfl,ho1,hi1,hb1⟩;have HO1:=Lib.hid ho1.isV;have HI1:=Lib.hid hi1.isL;have HB1:=Lib.hid hb1;clear ho1 hi1 hb1)
    | (go_at_call 79;refine (T1.out _).mono ?_;rintro e w2 ⟨rfl,hb2⟩;have HO2:=Lib.hid (HO1.out.below hb2);have HI2:=Lib.hid (HI1.out.below hb2);have HB2:=Lib.hid (HB1.out.trans (hb2.mono HB1.out.size));clear hb2)
    | (go_at_call 121;refine (T2.out _ _ _ HO2.out).mono ?_;rintro e w3 ⟨rfl,hb3⟩;have HI3:=Lib.hid (HI2.out.below hb3);have HB3:=Lib.hid (HB2.out.trans (hb3.mono HB2.out.size));clear hb3)
    | (go_at_call 156;refine (T3.out _ _ _).mono ?_;rintro e w3' ⟨rfl,rfl⟩)
    | (go_at_call 80;refine (T4.out _ _ _ HI3.out).mono ?_;rintro e w4 ⟨rfl,hb4⟩;have HB4:=Lib.hid (HB3.out.trans (hb4.mono HB3.out.size));clear hb4))
  go_ret
  exact ⟨rfl,HB4.out⟩
structure TwAt (w wr:World) (g:Nat) (vs:List V) (n:Nat) (M:List Int):Prop where
  is:(vs.take n).map bitV ++ List.replicate (vs.length - n) 0=M
  own:OwnI w.heap.size wr (some ⟨g,0,none⟩) vs.length M
  below:Below w.heap.size w wr
theorem bits_next (vs:List V) (n:Nat) (h:n < vs.length) (M:List Int) (hM:(vs.take n).map bitV ++ List.replicate (vs.length - n) 0=M) :
    (vs.take (n + 1)).map bitV ++ List.replicate (vs.length - (n + 1)) 0=if vs[n].b=true then M.set n 1 else M:=by
  have e1:List.replicate (vs.length - n) (0:Int)=0 :: List.replicate (vs.length - (n + 1)) 0:=by rw [show vs.length - n=(vs.length - (n + 1)) + 1 by omega,List.replicate_succ]
  rw [e1] at hM
  rw [← List.take_append_getElem h,List.map_append,← hM]
  have hl:((vs.take n).map bitV).length=n:=by rw [List.length_map,List.length_take];omega
  by_cases c:vs[n].b=true
  · rw [if_pos c,List.set_append_right n _ (by rw [hl];exact Nat.le_refl _),hl,Nat.sub_self]
    simp [bitV,c]
  · rw [if_neg c]
    simp [bitV,c]
set_option maxRecDepth 100000 in
set_option maxHeartbeats 4000000 in
theorem puttruths_any (w:World) (a:Option Addr) (cap:Nat) (vs:List V) (ha:IsV w a vs) (hx:vs.length≤4096) :
    Calls Tryz.prog 130 #[.slice a vs.length cap] w fun e w' => e=.returned (.string (textB (packB 1 (vs.map bitV))))∧Below w.heap.size w w':=by
  obtain ⟨C,hmk,hown⟩:=made_ints_own w vs.length (by omega)
  have H0:Hid (TwAt w (w.alloc (.cells C 3)) w.heap.size vs 0 (List.replicate vs.length 0)):=⟨by simp,hown,(Below.refl _ _).alloc (Nat.le_refl _) _⟩
  have T1:=Lib.hid (fun (u:World) (a:Option Addr) (cap:Nat) (h:IsL u a (vs.map bitV)) => packed_any u a cap 1 (by omega) (vs.map bitV) h (by rw [List.length_map];omega) (bits_fit vs bitV fun v => by unfold bitV;split <;> omega))
  rw [List.length_map] at T1
  have T1:Hid (∀ (u:World) (a:Option Addr) (cap:Nat),IsL u a (vs.map bitV)→Calls Tryz.prog 80 #[.slice a vs.length cap,.int .i64 1] u fun e w' => e=.returned (.string (textB (packB 1 (vs.map bitV))))∧Below u.heap.size u w'):=T1
  generalize hR:textB (packB 1 (vs.map bitV))=R at *
  have HA:=Lib.hid ha
  have HX:=Lib.hid hx
  clear hR ha hown
  go_enter Tryz.func130,Tryz.ntmps130
  go_upto_region 2 with fail
  clear hmk
  obtain ⟨g,hg⟩:∃ g,g=w.heap.size:=⟨_,rfl⟩
  have HGG:=Lib.hid hg
  rw [← hg]
  have H0:Hid (TwAt w (w.alloc (.cells C 3)) g vs 0 (List.replicate vs.length 0)):=by rw [hg];exact H0
  clear hg
  generalize w.alloc (.cells C 3)=w1 at *
  go_wp2
  go_loopw [11] (fun iv wr => ∃ (n:Nat) (M:List Int),n≤vs.length∧iv=.int .i64 n∧Hid (TwAt w wr g vs n M)) (fun iv _ => vs.length - (intOf iv).toNat)
  case atStart => exact ⟨0,_,Nat.zero_le _,rfl,H0⟩
  case round =>
    obtain ⟨n,M,hn,rfl,HC⟩:=hrel
    by_cases c:n < vs.length
    · rcases HA.out with h | ⟨bb,off,rfl,hcells⟩
      · subst h;simp at c
      obtain ⟨v0,v1,v2,v3⟩:=(hcells n c).below HC.out.below
      have HNX:=Lib.hid (bits_next vs n c M HC.out.is)
      have hMl:M.length=vs.length:=by
        rw [← HC.out.is,List.length_append,List.length_map,List.length_take,List.length_replicate];omega
      have HML:=Lib.hid hMl
      clear hcells hMl
      generalize vs[n]=v at *
      obtain ⟨vk,vi,vb,vs'⟩:=v
      simp only at v0 v1 v2 v3 HNX
      have hnl:vs.length≤4096:=HX.out
      have hci:(n:Int) < (vs.length:Int):=by omega
      have HCA:Hid (TwAt w (wr.alloc (.cells #[.int .i64 vk,.int .i64 vi,.bool vb,.string vs'] 24)) g vs n M):=⟨HC.out.is,HC.out.own.alloc _,HC.out.below.alloc HC.out.below.size _⟩
      have HS0:=Lib.hid (Slot.new wr ⟨vk,vi,vb,vs'⟩)
      go_upto_region 5 with fail
      obtain ⟨g8,hg8⟩:∃ g8,g8=wr.heap.size:=⟨_,rfl⟩
      have hg8w:w.heap.size≤g8:=by rw [hg8];exact HC.out.below.size
      have HG8:=Lib.hid hg8w
      rw [← hg8] at HS0 ⊢
      clear hg8 hg8w v0 v1 v2 v3
      generalize wr.alloc (.cells #[.int .i64 vk,.int .i64 vi,.bool vb,.string vs'] 24)=u1 at *
      obtain ⟨⟨a0,a1,a2,a3⟩,_⟩:=HS0.out.at
      cases vb with
      | true =>
        have hj:n < M.length:=by rw [HML.out];exact c
        obtain ⟨m0,m1⟩:=HCA.out.own.get n hj
        have HFIN:Hid (TwAt w (u1.setCell ⟨g,n,none⟩ (.int .i64 1)) g vs (n + 1) (M.set n 1)):=by
          have h1:=HNX.out
          rw [if_pos rfl] at h1
          exact ⟨h1,HCA.out.own.stored n 1,HCA.out.below.setCell (p:=⟨g,n,none⟩) (by show w.heap.size≤g;rw [HGG.out];exact Nat.le_refl _) _⟩
        go_wp2
        go_roundw
        case rel => exact ⟨n + 1,M.set n 1,c,by go_num,HFIN⟩
        case measure => simp [intOf];omega
      | false =>
        have HFIN:Hid (TwAt w u1 g vs (n + 1) M):=by
          have h1:=HNX.out
          rw [if_neg (by simp)] at h1
          exact ⟨h1,HCA.out.own,HCA.out.below⟩
        go_wp2
        go_roundw
        case rel => exact ⟨n + 1,M,c,by go_num,HFIN⟩
        case measure => simp [intOf];omega
    · obtain rfl:n=vs.length:=by omega
      have hM:M=vs.map bitV:=by rw [← HC.out.is,List.take_length,Nat.sub_self];simp
      have HL:=Lib.hid (hM ▸ HC.out.own.isL:IsL wr (some ⟨g,0,none⟩) (vs.map bitV))
      clear c
      go_wp2_with (go_at_call 80;refine (T1.out _ _ _ HL.out).mono ?_;rintro e w6 ⟨rfl,hb6⟩;have HF:=Lib.hid (HC.out.below.trans (hb6.mono HC.out.below.size));clear hb6)
      go_ret
      exact ⟨rfl,HF.out⟩
end Go.Proofs.YtfbmlefhjoblbaaGreat
namespace Go.Proofs.YtfbmlefhjoblbaaGreat
open Go.Conc Go.RowKit
set_option linter.unusedVariables false
set_option linter.unusedSimpArgs false
theorem null_iff (v:V):decide (plainV v=zeroV)=isNull v:=by
  by_cases h:isNull v=true
  · rw [h,decide_eq_true (null_plain h)]
  · have h':isNull v=false:=by simpa using h
    rw [h']
    refine decide_eq_false fun e => h ?_
    have:=plainV_kind v
    rw [e] at this
    exact decide_eq_true this.symm
set_option maxRecDepth 100000 in
theorem isnull_any (v:V) (w:World):Calls Tryz.prog 111 #[.agg #[.int .i64 v.k,.int .i64 v.i,.bool v.b,.string v.s]] w fun e w' => e=.returned (.bool (isNull v))∧Below w.heap.size w w':=by
  have T:=Lib.hid (fun u => plain_any v u)
  rw [← null_iff v]
  generalize plainV v=p at *
  have hq:∀ w,(binOp .eql 24 (.agg #[.int .i64 p.k,.int .i64 p.i,.bool p.b,.string p.s]) (.agg #[.int .i64 0,.int .i64 0,.bool false,.string ⟨#[]⟩])).run Tryz.prog w=.ok (.bool (decide (p=zeroV))) w:=run_eql_val p zeroV
  have HB0:=Lib.hid (show Below w.heap.size w (w.alloc (.cells #[.int .i64 v.k,.int .i64 v.i,.bool v.b,.string v.s] 24)) from (Below.refl _ _).alloc (Nat.le_refl _) _)
  go_enter Tryz.func111,Tryz.ntmps111
  go_wp2_with (go_at_call 54;refine (T.out _).mono ?_;rintro e w1 ⟨rfl,hb⟩;have HB:=Lib.hid (HB0.out.trans (hb.mono HB0.out.size));clear hb)
  go_ret
  exact ⟨rfl,HB.out⟩
def shortT (s:ByteArray):Bool:=decide (s.size≤64) && decide (first s.data.toList = -1)
set_option maxRecDepth 100000 in
theorem isshort_any (s:ByteArray) (hs:s.size≤9223372036854775000) (w:World):Calls Tryz.prog 110 #[.string s] w fun e w' => e=.returned (.bool (shortT s))∧w=w':=by
  have T:=Lib.hid (uvalid_any s hs)
  unfold shortT
  by_cases c:s.size≤64
  · rw [decide_eq_true c,Bool.true_and]
    generalize decide (first s.data.toList = -1)=b at *
    have hci:decide ((s.size:Int)≤64)=true:=decide_eq_true (by omega)
    go_enter Tryz.func110,Tryz.ntmps110
    go_wp2_with (go_at_call 140;refine (T.out _).mono ?_;rintro e w1 ⟨rfl,rfl⟩)
    go_ret
    exact ⟨rfl,rfl⟩
  · rw [decide_eq_false c,Bool.false_and]
    have hci:decide ((s.size:Int)≤64)=false:=decide_eq_false (by omega)
    go_enter Tryz.func110,Tryz.ntmps110
    go_wp2
    go_ret
    exact ⟨rfl,rfl⟩
set_option maxRecDepth 100000 in
theorem iskind_any (k:Int) (w:World):Calls Tryz.prog 58 #[.int .i64 k] w fun e w' => e=.returned (.bool (decide (1≤k∧k≤3)))∧w=w':=by
  by_cases h1:k=1
  · subst h1
    go_enter Tryz.func58,Tryz.ntmps58
    go_wp2
    go_ret
    exact ⟨rfl,rfl⟩
  by_cases h2:k=2
  · subst h2
    go_enter Tryz.func58,Tryz.ntmps58
    go_wp2
    go_ret
    exact ⟨rfl,rfl⟩
  by_cases h3:k=3
  · subst h3
    go_enter Tryz.func58,Tryz.ntmps58
    go_wp2
    go_ret
    exact ⟨rfl,rfl⟩
  · rw [decide_eq_false (by omega)]
    have e1:(k == 1)=false:=by simpa using h1
    have e2:(k == 2)=false:=by simpa using h2
    have e3:(k == 3)=false:=by simpa using h3
    clear h1 h2 h3
    go_enter Tryz.func58,Tryz.ntmps58
    go_wp2
    go_ret
    exact ⟨rfl,rfl⟩
theorem run_field_s (p:V) (w:World):(Instr.field 24 (.agg #[.int .i64 p.k,.int .i64 p.i,.bool p.b,.string p.s]) 3).run Tryz.prog w=.ok (.string p.s) w:=by
  first
    | kernel_rfl
    | (simp [Instr.field,run_underlying Tryz.underlying24,go_sem])
def fitV (k:Int) (v:V):Bool:=(isNull v || decide (v.k=k)) && shortT (plainV v).s
theorem short_empty:shortT ByteArray.empty=true:=by
  unfold shortT
  have:first [] = -1:=firstAt_end (by simp)
  rw [show ByteArray.empty.data.toList=[] from rfl,this]
  rfl
theorem fitV_ok {k:Int} (hk:1≤k∧k≤3) (v:V):fitV k v=okK k v:=by
  unfold fitV okK
  by_cases hn:isNull v=true
  · rw [hn,null_plain hn];simp [zeroV,short_empty]
  · have hn':isNull v=false:=by simpa using hn
    rw [hn',Bool.false_or,Bool.false_or]
    by_cases c:v.k=k
    · rw [decide_eq_true c,Bool.true_and,Bool.true_and]
      rcases (show k=1∨k=2∨k=3 by omega) with rfl | rfl | rfl
      · rw [plainV_int c];simp [short_empty]
      · rw [plainV_bool c];simp [short_empty]
      · rw [plainV_text c];simp [shortT]
    · rw [decide_eq_false c,Bool.false_and,Bool.false_and]
set_option maxRecDepth 100000 in
theorem isofv_any (v:V) (k:Int) (w:World):Calls Tryz.prog 109 #[.agg #[.int .i64 v.k,.int .i64 v.i,.bool v.b,.string v.s],.int .i64 k] w fun e w' => e=.returned (.bool (isNull v || decide (v.k=k)))∧Below w.heap.size w w':=by
  have T:=Lib.hid (fun u => isnull_any v u)
  have hs0:=Slot.new w v
  have hb0:Below w.heap.size w (w.alloc (.cells #[.int .i64 v.k,.int .i64 v.i,.bool v.b,.string v.s] 24)):=(Below.refl _ _).alloc (Nat.le_refl _) _
  have he:(v.k == k)=decide (v.k=k):=by rw [Bool.eq_iff_iff,decide_eq_true_eq,beq_iff_eq]
  generalize isNull v=N at *
  obtain ⟨S,hS⟩:∃ S,S=decide (v.k=k):=⟨_,rfl⟩
  rw [← hS] at he ⊢
  clear hS
  obtain ⟨u,hu⟩:∃ u,u=(w.alloc (.cells #[.int .i64 v.k,.int .i64 v.i,.bool v.b,.string v.s] 24)):=⟨_,rfl⟩
  rw [← hu] at hs0 hb0
  have HS:=Lib.hid hs0
  have HB:=Lib.hid hb0
  obtain ⟨⟨c0,c1,c2,c3⟩,_⟩:=hs0.at
  clear hb0 hs0
  cases N <;> (
    go_enter Tryz.func109,Tryz.ntmps109
    go_upto_region 1 with fail
    rw [← hu]
    clear hu
    go_wp2_with (go_at_call 111;refine (T.out _).mono ?_;rintro e w1 ⟨rfl,hb⟩;obtain ⟨⟨z0,z1,z2,z3⟩,_⟩:=(HS.out.below hb).at;have HB1:=Lib.hid (HB.out.trans (hb.mono HB.out.size));clear hb c0 c1 c2 c3)
    go_ret
    exact ⟨rfl,HB1.out⟩)
set_option maxRecDepth 100000 in
set_option maxHeartbeats 4000000 in
theorem fit_any (w:World) (k:Int) (a:Option Addr) (cap:Nat) (vs:List V) (ha:IsV w a vs) (hx:vs.length≤9223372036854775807) (hs:∀ v ∈ vs,v.s.size≤140737488355328) :
    Calls Tryz.prog 74 #[.int .i64 k,.slice a vs.length cap] w fun e w' => e=.returned (.bool (decide (vs.length≤4096) && vs.all (fitV k)))∧Below w.heap.size w w':=by
  by_cases c0:vs.length≤4096
  · rw [decide_eq_true c0,Bool.true_and]
    have HA:=Lib.hid ha
    have HS:=Lib.hid hs
    have hci0:decide ((4096:Int) < (vs.length:Int))=false:=decide_eq_false (by omega)
    obtain ⟨R,hR⟩:∃ R,R=vs.all (fitV k):=⟨_,rfl⟩
    rw [← hR]
    have HR:=Lib.hid hR
    have HB0:=Lib.hid (Below.refl w.heap.size w)
    clear hR ha hs
    go_enter Tryz.func74,Tryz.ntmps74
    go_wp2
    go_loopw [12] (fun iv wr => ∃ n:Nat,n≤vs.length∧iv=.int .i64 n∧Hid ((vs.take n).all (fitV k)=true)∧Hid (Below w.heap.size w wr)) (fun iv _ => vs.length - (intOf iv).toNat)
    case atStart => exact ⟨0,Nat.zero_le _,rfl,rfl,HB0⟩
    case round =>
      obtain ⟨n,hn,rfl,HT,HB⟩:=hrel
      by_cases c:n < vs.length
      · rcases HA.out with h | ⟨bb,off,rfl,hcells⟩
        · subst h;simp at c
        obtain ⟨v0,v1,v2,v3⟩:=(hcells n c).below HB.out
        have hsz:=HS.out vs[n] (List.getElem_mem _)
        have HE:Hid (fitV k vs[n]=true→(vs.take (n + 1)).all (fitV k)=true):=fun h => by
          rw [← List.take_append_getElem c,List.all_append,HT.out];simp [h]
        have HF:Hid (fitV k vs[n]=false→R=false):=fun h => by
          rw [HR.out]
          cases e:vs.all (fitV k) with
          | false => rfl
          | true => rw [List.all_eq_true.1 e vs[n] (List.getElem_mem _)] at h;cases h
        have T1:=Lib.hid (fun u => isofv_any vs[n] k u)
        have T2:=Lib.hid (fun u => plain_any vs[n] u)
        have T3:=Lib.hid (fun u => isshort_any (plainV vs[n]).s (by have:=plainV_size vs[n];omega) u)
        unfold fitV at HE HF
        clear hcells hsz
        generalize vs[n]=v at *
        generalize plainV v=p at *
        generalize (isNull v || decide (v.k=k))=nb at *
        generalize shortT p.s=sb at *
        have hci:(n:Int) < (vs.length:Int):=by omega
        have HS0:=Lib.hid (Slot.new wr v)
        have HB1:=Lib.hid (HB.out.alloc HB.out.size (.cells #[.int .i64 v.k,.int .i64 v.i,.bool v.b,.string v.s] 24))
        go_upto_region 6 with fail
        obtain ⟨g8,hg8⟩:∃ g8,g8=wr.heap.size:=⟨_,rfl⟩
        rw [← hg8] at HS0 ⊢
        clear hg8 v0 v1 v2 v3
        generalize wr.alloc (.cells #[.int .i64 v.k,.int .i64 v.i,.bool v.b,.string v.s] 24)=u1 at *
        obtain ⟨⟨a0,a1,a2,a3⟩,_⟩:=HS0.out.at
        have hfl:∀ w,(Instr.field 24 (.agg #[.int .i64 p.k,.int .i64 p.i,.bool p.b,.string p.s]) 3).run Tryz.prog w=.ok (.string p.s) w:=run_field_s p
        cases nb with
        | true =>
          cases sb with
          | true =>
            have HE2:=Lib.hid (HE.out rfl)
            clear HE HF
            go_wp2_with (first
              | (go_at_call 109;refine (T1.out _).mono ?_;rintro e w5 ⟨rfl,hb5⟩;obtain ⟨⟨d0,d1,d2,d3⟩,_⟩:=(HS0.out.below hb5).at;have HB5:=Lib.hid (HB1.out.trans (hb5.mono HB1.out.size));clear hb5)
              | (go_at_call 54;refine (T2.out _).mono ?_;rintro e w6 ⟨rfl,hb6⟩;have HB6:=Lib.hid (HB5.out.trans (hb6.mono HB5.out.size));clear hb6)
              | (go_at_call 110;refine (T3.out _).mono ?_;rintro e w6' ⟨rfl,rfl⟩))
            go_roundw
            case rel => exact ⟨n + 1,c,by go_num,HE2,HB6⟩
            case measure => simp [intOf];omega
          | false =>
            have hR:=HF.out rfl
            subst hR
            clear HE HF
            go_wp2_with (first
              | (go_at_call 109;refine (T1.out _).mono ?_;rintro e w5 ⟨rfl,hb5⟩;obtain ⟨⟨d0,d1,d2,d3⟩,_⟩:=(HS0.out.below hb5).at;have HB5:=Lib.hid (HB1.out.trans (hb5.mono HB1.out.size));clear hb5)
              | (go_at_call 54;refine (T2.out _).mono ?_;rintro e w6 ⟨rfl,hb6⟩;have HB6:=Lib.hid (HB5.out.trans (hb6.mono HB5.out.size));clear hb6)
              | (go_at_call 110;refine (T3.out _).mono ?_;rintro e w6' ⟨rfl,rfl⟩))
            go_ret
            exact ⟨rfl,HB6.out⟩
        | false =>
          have hR:=HF.out rfl
          subst hR
          clear HE HF
          go_wp2_with (first
            | (go_at_call 109;refine (T1.out _).mono ?_;rintro e w5 ⟨rfl,hb5⟩;obtain ⟨⟨d0,d1,d2,d3⟩,_⟩:=(HS0.out.below hb5).at;have HB5:=Lib.hid (HB1.out.trans (hb5.mono HB1.out.size));clear hb5))
          go_ret
          exact ⟨rfl,HB5.out⟩
      · obtain rfl:n=vs.length:=by omega
        have hR:R=true:=by have:=HT.out;rw [List.take_length] at this;rw [HR.out,this]
        subst hR
        clear c
        go_wp2
        go_ret
        exact ⟨rfl,HB.out⟩
  · rw [decide_eq_false c0,Bool.false_and]
    have hci0:decide ((4096:Int) < (vs.length:Int))=true:=decide_eq_true (by omega)
    clear ha hs hx
    go_enter Tryz.func74,Tryz.ntmps74
    go_wp2
    go_ret
    exact ⟨rfl,Below.refl _ _⟩
end Go.Proofs.YtfbmlefhjoblbaaGreat
namespace Go.Proofs.YtfbmlefhjoblbaaGreat
open Go.Conc Go.RowKit
set_option linter.unusedVariables false
set_option linter.unusedSimpArgs false
structure PtAt (w wr:World) (g:Nat) (vs:List V) (n:Nat) (M:List Int) (rs:List V) (ar:Option Addr) (cr:Nat):Prop where
  isN:nullI (vs.take n) ++ List.replicate (vs.length - n) 0=M
  isV:rawV (vs.take n)=rs
  nums:OwnI w.heap.size wr (some ⟨g,0,none⟩) vs.length M
  own:OwnV w.heap.size wr ar cr rs
  below:Below w.heap.size w wr
theorem nulls_next (vs:List V) (n:Nat) (h:n < vs.length) (M:List Int) (hM:nullI (vs.take n) ++ List.replicate (vs.length - n) 0=M) :
    nullI (vs.take (n + 1)) ++ List.replicate (vs.length - (n + 1)) 0=if isNull vs[n]=true then M.set n 1 else M:=by
  have e1:List.replicate (vs.length - n) (0:Int)=0 :: List.replicate (vs.length - (n + 1)) 0:=by rw [show vs.length - n=(vs.length - (n + 1)) + 1 by omega,List.replicate_succ]
  rw [e1] at hM
  unfold nullI at hM ⊢
  rw [← List.take_append_getElem h,List.map_append,← hM]
  have hl:((vs.take n).map fun v => if isNull v=true then (1:Int) else 0).length=n:=by rw [List.length_map,List.length_take];omega
  by_cases c:isNull vs[n]=true
  · rw [if_pos c,List.set_append_right n _ (by rw [hl];exact Nat.le_refl _),hl,Nat.sub_self]
    simp [c]
  · rw [if_neg c]
    simp [c]
theorem raw_next (vs:List V) (n:Nat) (h:n < vs.length):rawV (vs.take (n + 1))=if isNull vs[n]=true then rawV (vs.take n) else rawV (vs.take n) ++ [vs[n]]:=by
  unfold rawV
  rw [← List.take_append_getElem h,List.filter_append]
  by_cases c:isNull vs[n]=true
  · rw [if_pos c];simp [c]
  · rw [if_neg c];simp [c]
theorem raw_le (vs:List V):(rawV vs).length≤vs.length:=List.length_filter_le _ _
set_option maxRecDepth 100000 in
set_option maxHeartbeats 4000000 in
theorem parted_any (w:World) (a:Option Addr) (cap:Nat) (vs:List V) (ha:IsV w a vs) (hx:vs.length≤65536) :
    Calls Tryz.prog 75 #[.slice a vs.length cap] w fun e w' => ∃ g ar cr,e=.returned (.tuple #[.slice (some ⟨g,0,none⟩) vs.length vs.length,.slice ar (rawV vs).length cr])∧OwnI w.heap.size w' (some ⟨g,0,none⟩) vs.length (nullI vs)∧OwnV w.heap.size w' ar cr (rawV vs)∧Below w.heap.size w w':=by
  obtain ⟨R,hR⟩:∃ R,R=rawV vs:=⟨_,rfl⟩
  obtain ⟨NI,hNI⟩:∃ NI,NI=nullI vs:=⟨_,rfl⟩
  rw [← hR,← hNI]
  obtain ⟨C,hmk,hown⟩:=made_ints_own w vs.length (by omega)
  have H0:Hid (PtAt w (w.alloc (.cells C 3)) w.heap.size vs 0 (List.replicate vs.length 0) [] none 0):=⟨by simp [nullI],rfl,hown,OwnV.nil _ _,(Below.refl _ _).alloc (Nat.le_refl _) _⟩
  have HR:=Lib.hid hR
  have HNI:=Lib.hid hNI
  have HA:=Lib.hid ha
  have HX:=Lib.hid hx
  clear hR hNI ha hown
  go_enter Tryz.func75,Tryz.ntmps75
  go_upto_region 2 with fail
  clear hmk
  obtain ⟨g,hg⟩:∃ g,g=w.heap.size:=⟨_,rfl⟩
  have HGG:=Lib.hid hg
  rw [← hg]
  have H0:Hid (PtAt w (w.alloc (.cells C 3)) g vs 0 (List.replicate vs.length 0) [] none 0):=by rw [hg];exact H0
  clear hg
  generalize w.alloc (.cells C 3)=w1 at *
  go_wp2
  go_loopw [5,13] (fun rv iv wr => ∃ (n cr:Nat) (ar:Option Addr) (M:List Int) (rs:List V),n≤vs.length∧iv=.int .i64 n∧rv=.slice ar rs.length cr∧Hid (PtAt w wr g vs n M rs ar cr)) (fun _ iv _ => vs.length - (intOf iv).toNat)
  case atStart => exact ⟨0,0,none,_,[],Nat.zero_le _,rfl,rfl,H0⟩
  case round =>
    obtain ⟨n,cr,ar,M,rs,hn,rfl,rfl,HC⟩:=hrel
    by_cases c:n < vs.length
    · rcases HA.out with h | ⟨bb,off,rfl,hcells⟩
      · subst h;simp at c
      obtain ⟨v0,v1,v2,v3⟩:=(hcells n c).below HC.out.below
      have HNX:=Lib.hid (nulls_next vs n c M HC.out.isN)
      have HRX:=Lib.hid (raw_next vs n c)
      have hMl:M.length=vs.length:=by
        rw [← HC.out.isN,List.length_append,null_len,List.length_take,List.length_replicate];omega
      have hrl:rs.length≤n:=by rw [← HC.out.isV];have:=raw_le (vs.take n);rw [List.length_take] at this;omega
      have T1:=Lib.hid (fun u => isnull_any vs[n] u)
      have HML:=Lib.hid hMl
      have HRL:=Lib.hid (show rs.length≤3518437208882 by have:=HX.out;omega)
      clear hcells hMl hrl
      generalize vs[n]=v at *
      generalize isNull v=nb at *
      have hnl:vs.length≤65536:=HX.out
      have hci:(n:Int) < (vs.length:Int):=by omega
      have HCA:Hid (PtAt w (wr.alloc (.cells #[.int .i64 v.k,.int .i64 v.i,.bool v.b,.string v.s] 24)) g vs n M rs ar cr):=⟨HC.out.isN,HC.out.isV,HC.out.nums.alloc _,HC.out.own.alloc _,HC.out.below.alloc HC.out.below.size _⟩
      have HS0:=Lib.hid (Slot.new wr v)
      go_upto_region 6 with fail
      obtain ⟨g8,hg8⟩:∃ g8,g8=wr.heap.size:=⟨_,rfl⟩
      rw [← hg8] at HS0 ⊢
      clear hg8 v0 v1 v2 v3
      generalize wr.alloc (.cells #[.int .i64 v.k,.int .i64 v.i,.bool v.b,.string v.s] 24)=u1 at *
      obtain ⟨⟨a0,a1,a2,a3⟩,_⟩:=HS0.out.at
      cases nb with
      | true =>
        have hj:n < M.length:=by rw [HML.out];exact c
        go_upto_region 7 with (go_at_call 111;refine (T1.out _).mono ?_;rintro e w5 ⟨rfl,hb5⟩;have HB5:=Lib.hid hb5;clear hb5)
        have HC5:Hid (PtAt w w5 g vs n M rs ar cr):=⟨HCA.out.isN,HCA.out.isV,HCA.out.nums.below HB5.out,HCA.out.own.below HB5.out,HCA.out.below.trans (HB5.out.mono HCA.out.below.size)⟩
        obtain ⟨m0,m1⟩:=HC5.out.nums.get n hj
        have HFIN:Hid (PtAt w (w5.setCell ⟨g,n,none⟩ (.int .i64 1)) g vs (n + 1) (M.set n 1) rs ar cr):=by
          have h1:=HNX.out
          rw [if_pos (by trivial)] at h1
          have h2:=HRX.out
          rw [if_pos (by trivial),HC.out.isV] at h2
          exact ⟨h1,h2,HC5.out.nums.stored n 1,HC5.out.own.frm ((Frm.refl (fun k => k=g) w5).setCell (p:=⟨g,n,none⟩) rfl _) fun k hk _ e => by
            have hA:At (some ⟨g,0,none⟩) k:=by rw [show k=g from e];rfl
            exact apart_iv HC5.out.nums HC5.out.own hA hk,HC5.out.below.setCell (p:=⟨g,n,none⟩) (by show w.heap.size≤g;rw [HGG.out];exact Nat.le_refl _) _⟩
        go_wp2
        go_roundw
        case rel => exact ⟨n + 1,cr,ar,M.set n 1,rs,c,by go_num,rfl,HFIN⟩
        case measure => simp [intOf];omega
      | false =>
        go_upto_region 8 with (go_at_call 111;refine (T1.out _).mono ?_;rintro e w5 ⟨rfl,hb5⟩;have HB5:=Lib.hid hb5;have HS5:=Lib.hid (HS0.out.below hb5);clear hb5)
        have HC5:Hid (PtAt w w5 g vs n M rs ar cr):=⟨HCA.out.isN,HCA.out.isV,HCA.out.nums.below HB5.out,HCA.out.own.below HB5.out,HCA.out.below.trans (HB5.out.mono HCA.out.below.size)⟩
        clear a0 a1 a2 a3
        obtain ⟨⟨a0,a1,a2,a3⟩,_⟩:=HS5.out.at
        have hnx:nullI (vs.take (n + 1)) ++ List.replicate (vs.length - (n + 1)) 0=M:=by
          have h1:=HNX.out
          rw [if_neg (by simp)] at h1
          exact h1
        have hrx:rawV (vs.take (n + 1))=rs ++ [v]:=by
          have h2:=HRX.out
          rw [if_neg (by simp),HC.out.isV] at h2
          exact h2
        have HNX2:=Lib.hid hnx
        have HRX2:=Lib.hid hrx
        clear hnx hrx
        go_wp2_with (at_builtin;refine wp_val HC5.out.own HC5.out.below.size HRL.out rfl _ _ rfl v rfl rfl ?_;intro ar' cr' u6 ho hf _;have hfin:PtAt w u6 g vs (n + 1) M (rs ++ [v]) ar' cr':=⟨HNX2.out,HRX2.out,HC5.out.nums.frm hf (fun k hk _ e => apart_iv HC5.out.nums HC5.out.own hk e),ho,Frm.to_below HC5.out.below hf (fun k e => (HC5.out.own.at_ge e).1) (Nat.le_refl _)⟩;have HFIN:=Lib.hid hfin;clear hfin ho hf)
        go_roundw
        case rel => exact ⟨n + 1,cr',ar',M,rs ++ [v],c,by go_num,by simp,HFIN⟩
        case measure => simp [intOf];omega
    · obtain rfl:n=vs.length:=by omega
      have hR:R=rs:=by rw [HR.out,← HC.out.isV,List.take_length]
      have hN:NI=M:=by rw [HNI.out,← HC.out.isN,List.take_length,Nat.sub_self];simp
      subst hR hN
      clear c
      go_wp2
      go_ret2
      exact ⟨g,ar,cr,rfl,HC.out.nums,HC.out.own,HC.out.below⟩
end Go.Proofs.YtfbmlefhjoblbaaGreat
namespace Go.Proofs.YtfbmlefhjoblbaaGreat
open Go.Conc Go.RowKit
set_option linter.unusedVariables false
set_option linter.unusedSimpArgs false
def bst (k:Int) (vs:List V):Nat→Nat × List UInt8
  | 0 => (0,[])
  | n + 1 => if n=0∨(ways k vs n).length < (bst k vs n).2.length then (n,ways k vs n) else bst k vs n
theorem bst_succ (k:Int) (vs:List V) (n:Nat):bst k vs (n + 1)=if n=0∨(ways k vs n).length < (bst k vs n).2.length then (n,ways k vs n) else bst k vs n:=rfl
theorem bst_one (k:Int) (vs:List V):bst k vs 1=(0,ways k vs 0):=by
  rw [bst_succ,if_pos (Or.inl rfl)]
theorem bst_two (k:Int) (vs:List V):bst k vs 2=(best1 k vs,ways k vs (best1 k vs)):=by
  rw [bst_succ,bst_one]
  by_cases c:(wayR vs).length < (wayP k vs).length
  · have h1:best1 k vs=1:=by unfold best1;rw [if_pos c]
    rw [h1];exact if_pos (Or.inr c)
  · have h1:best1 k vs=0:=by unfold best1;rw [if_neg c]
    rw [h1]; exact if_neg (by rintro (h | h); · cases h
                              · exact c h)
theorem bst_all (k:Int) (vs:List V):bst k vs 3=(best k vs,ways k vs (best k vs)):=by
  rw [bst_succ,bst_two]
  by_cases c:(wayW vs).length < (ways k vs (best1 k vs)).length
  · have h1:best k vs=2:=by unfold best;rw [if_pos c]
    rw [h1];exact if_pos (Or.inr c)
  · have h1:best k vs=best1 k vs:=by unfold best;rw [if_neg c]
    rw [h1]; exact if_neg (by rintro (h | h); · cases h
                              · exact c h)
theorem WaysAt.below {w w':World} {wb ob kb:Nat} {k:Int} (h:WaysAt w wb ob kb k) (hb:Below w.heap.size w w'):WaysAt w' wb ob kb k :=
  h.frm (Frm.of_new hb (fun _ => False)) (fun e => e) (fun e => e) (fun e => e)
set_option maxRecDepth 100000 in
set_option maxHeartbeats 4000000 in
theorem shortest_any (w:World) (k:Int) (hk:1≤k∧k≤3) (a:Option Addr) (cap:Nat) (vs:List V) (ha:IsV w a vs) (hx:vs.length≤4096) (hv:∀ v ∈ vs,RawK k v) :
    Calls Tryz.prog 76 #[.int .i64 k,.slice a vs.length cap] w fun e w' => e=.returned (.tuple #[.int .i64 (best k vs:Nat),.string (textB (ways k vs (best k vs)))])∧Below w.heap.size w w':=by
  obtain ⟨R,hR⟩:∃ R,R=bst k vs 3:=⟨_,rfl⟩
  have hR2:=hR
  rw [bst_all] at hR2
  have e1:best k vs=R.1:=by rw [hR2]
  have e2:ways k vs (best k vs)=R.2:=by rw [hR2]
  rw [e2,e1]
  obtain ⟨Rn,RL⟩:=R
  simp only
  have HR:=Lib.hid hR
  have T0:=Lib.hid (encs_any w k)
  have HA:=Lib.hid ha
  have HV:=Lib.hid hv
  have HK:=Lib.hid hk
  have HX:=Lib.hid hx
  clear hR hR2 e1 e2 ha hv hk
  go_enter Tryz.func76,Tryz.ntmps76
  go_wp2_with (go_at_call 91;refine T0.out.mono ?_;rintro e w1 ⟨wb,ob,kb,rfl,hw1,hb1,_⟩;have HW1:=Lib.hid hw1;have HB1:=Lib.hid hb1;clear hw1 hb1)
  go_loopw [6,7,14] (fun lv bv iv wr => ∃ (n e:Nat) (L:List UInt8),n≤3∧iv=.int .i64 n∧lv=.int .i64 e∧bv=.string (textB L)∧Hid (bst k vs n=(e,L))∧Hid (WaysAt wr wb ob kb k)∧Hid (Below w.heap.size w wr)) (fun _ _ iv _ => 3 - (intOf iv).toNat)
  case atStart => exact ⟨0,0,[],Nat.zero_le _,rfl,rfl,rfl,rfl,HW1,HB1⟩
  case round =>
    obtain ⟨n,e,L,hn,rfl,rfl,rfl,HL,HW,HB⟩:=hrel
    rcases (show n=3∨n=1∨n=2∨(n=0∧k=2)∨(n=0∧k ≠ 2) by omega) with rfl | rfl | rfl | ⟨rfl,rfl⟩ | ⟨rfl,hk2⟩
    · have hR:(Rn,RL)=(e,L):=by rw [HR.out,HL.out]
      injection hR with h1 h2
      subst h1 h2
      go_wp2
      go_ret2
      exact ⟨rfl,HB.out⟩
    · have hrow:=HW.out.row
      have c0:wr.cell? ⟨wb,2,none⟩=some (.func (.func 124) #[] #[]):=by rw [cell_of_row _ _ _ _ _ _ hrow];rfl
      have c1:∃ f c,wr.cell? ⟨wb,3,none⟩=some (.func (.func f) #[] c):=by rw [cell_of_row _ _ _ _ _ _ hrow];exact ⟨_,_,rfl⟩
      obtain ⟨f1,p1,c1⟩:=c1
      have HAw:=Lib.hid (HA.out.below HB.out)
      have T1:=Lib.hid (fun (u:World) (h:IsV u a vs) => putruns_any u a cap vs k HK.out h HX.out HV.out)
      clear hrow
      have hway:ways k vs 1=wayR vs:=rfl
      have HST:Hid (bst k vs 2=if 1=0∨(wayR vs).length < L.length then (1,wayR vs) else (e,L)):=by
        unfold Hid
        rw [bst_succ,hway,HL.out]
      clear hway
      have hs1:=textB_size (wayR vs)
      have hs2:=textB_size L
      have HB2:=Lib.hid ((HB.out).alloc HB.out.size (.cells #[.func (.func 124) #[] #[],.func (.func f1) #[] p1] 144))
      have HW2:=Lib.hid (HW.out.below ((Below.refl wr.heap.size wr).alloc (Nat.le_refl _) (.cells #[.func (.func 124) #[] #[],.func (.func f1) #[] p1] 144)))
      have HA2:=Lib.hid (HA.out.below HB2.out)
      have hn8:(wr.alloc (.cells #[.func (.func 124) #[] #[],.func (.func f1) #[] p1] 144)).cell? ⟨wr.heap.size,0,none⟩=some (.func (.func 124) #[] #[]):=by
        rw [cell_of_row _ _ _ _ _ _ (heap_alloc_new wr _)];rfl
      go_upto_region 5 with fail
      generalize wr.heap.size=g8 at *
      clear c0 c1
      generalize wr.alloc (.cells #[.func (.func 124) #[] #[],.func (.func f1) #[] p1] 144)=u1 at *
      generalize hws:wayR vs=W at *
      clear hws
      by_cases hlt:W.length < L.length
      · have HE:Hid (bst k vs 2=(1,W)):=by have:=HST.out;rw [if_pos (.inr hlt)] at this;exact this
        have hltb:(textB W).size < (textB L).size:=by rw [hs1,hs2];exact hlt
        have hlti:decide (((textB W).size:Int) < ((textB L).size:Int))=true:=decide_eq_true (by omega)
        clear HST hs1 hs2 hlt
        go_wp2_with (go_at_call 124;refine (T1.out u1 HA2.out).mono ?_;rintro e' w5 ⟨rfl,hb5⟩;have HB5:=Lib.hid (HB2.out.trans (hb5.mono HB2.out.size));have HW5:=Lib.hid (HW2.out.below hb5);clear hb5)
        go_roundw
        case rel => exact ⟨2,1,W,by omega,by go_num,rfl,rfl,HE.out,HW5,HB5⟩
        case measure => simp [intOf]
      · have HE:Hid (bst k vs 2=(e,L)):=by have:=HST.out;rw [if_neg (by rintro (h | h);omega;exact hlt h)] at this;exact this
        have hltb:¬ (textB W).size < (textB L).size:=by rw [hs1,hs2];exact hlt
        have hlti:decide (((textB W).size:Int) < ((textB L).size:Int))=false:=decide_eq_false (by omega)
        clear HST hs1 hs2 hlt
        go_wp2_with (go_at_call 124;refine (T1.out u1 HA2.out).mono ?_;rintro e' w5 ⟨rfl,hb5⟩;have HB5:=Lib.hid (HB2.out.trans (hb5.mono HB2.out.size));have HW5:=Lib.hid (HW2.out.below hb5);clear hb5)
        go_roundw
        case rel => exact ⟨2,e,L,by omega,by go_num,rfl,rfl,HE.out,HW5,HB5⟩
        case measure => simp [intOf]
    · have hrow:=HW.out.row
      have c0:wr.cell? ⟨wb,4,none⟩=some (.func (.func 127) #[] #[]):=by rw [cell_of_row _ _ _ _ _ _ hrow];rfl
      have c1:∃ f c,wr.cell? ⟨wb,5,none⟩=some (.func (.func f) #[] c):=by rw [cell_of_row _ _ _ _ _ _ hrow];exact ⟨_,_,rfl⟩
      obtain ⟨f1,p1,c1⟩:=c1
      have HAw:=Lib.hid (HA.out.below HB.out)
      have T1:=Lib.hid (fun (u:World) (h:IsV u a vs) => putwords_any u a cap vs k HK.out h HX.out HV.out)
      clear hrow
      have hway:ways k vs 2=wayW vs:=rfl
      have HST:Hid (bst k vs 3=if 2=0∨(wayW vs).length < L.length then (2,wayW vs) else (e,L)):=by
        unfold Hid
        rw [bst_succ,hway,HL.out]
      clear hway
      have hs1:=textB_size (wayW vs)
      have hs2:=textB_size L
      have HB2:=Lib.hid ((HB.out).alloc HB.out.size (.cells #[.func (.func 127) #[] #[],.func (.func f1) #[] p1] 144))
      have HW2:=Lib.hid (HW.out.below ((Below.refl wr.heap.size wr).alloc (Nat.le_refl _) (.cells #[.func (.func 127) #[] #[],.func (.func f1) #[] p1] 144)))
      have HA2:=Lib.hid (HA.out.below HB2.out)
      have hn8:(wr.alloc (.cells #[.func (.func 127) #[] #[],.func (.func f1) #[] p1] 144)).cell? ⟨wr.heap.size,0,none⟩=some (.func (.func 127) #[] #[]):=by
        rw [cell_of_row _ _ _ _ _ _ (heap_alloc_new wr _)];rfl
      go_upto_region 5 with fail
      generalize wr.heap.size=g8 at *
      clear c0 c1
      generalize wr.alloc (.cells #[.func (.func 127) #[] #[],.func (.func f1) #[] p1] 144)=u1 at *
      generalize hws:wayW vs=W at *
      clear hws
      by_cases hlt:W.length < L.length
      · have HE:Hid (bst k vs 3=(2,W)):=by have:=HST.out;rw [if_pos (.inr hlt)] at this;exact this
        have hltb:(textB W).size < (textB L).size:=by rw [hs1,hs2];exact hlt
        have hlti:decide (((textB W).size:Int) < ((textB L).size:Int))=true:=decide_eq_true (by omega)
        clear HST hs1 hs2 hlt
        go_wp2_with (go_at_call 127;refine (T1.out u1 HA2.out).mono ?_;rintro e' w5 ⟨rfl,hb5⟩;have HB5:=Lib.hid (HB2.out.trans (hb5.mono HB2.out.size));have HW5:=Lib.hid (HW2.out.below hb5);clear hb5)
        go_roundw
        case rel => exact ⟨3,2,W,by omega,by go_num,rfl,rfl,HE.out,HW5,HB5⟩
        case measure => simp [intOf]
      · have HE:Hid (bst k vs 3=(e,L)):=by have:=HST.out;rw [if_neg (by rintro (h | h);omega;exact hlt h)] at this;exact this
        have hltb:¬ (textB W).size < (textB L).size:=by rw [hs1,hs2];exact hlt
        have hlti:decide (((textB W).size:Int) < ((textB L).size:Int))=false:=decide_eq_false (by omega)
        clear HST hs1 hs2 hlt
        go_wp2_with (go_at_call 127;refine (T1.out u1 HA2.out).mono ?_;rintro e' w5 ⟨rfl,hb5⟩;have HB5:=Lib.hid (HB2.out.trans (hb5.mono HB2.out.size));have HW5:=Lib.hid (HW2.out.below hb5);clear hb5)
        go_roundw
        case rel => exact ⟨3,e,L,by omega,by go_num,rfl,rfl,HE.out,HW5,HB5⟩
        case measure => simp [intOf]
    · have hrow:=HW.out.row
      have c0:wr.cell? ⟨wb,0,none⟩=some (.func (.func 130) #[] #[]):=by rw [cell_of_row _ _ _ _ _ _ hrow];rfl
      have c1:∃ f c,wr.cell? ⟨wb,1,none⟩=some (.func (.func f) #[] c):=by rw [cell_of_row _ _ _ _ _ _ hrow];exact ⟨_,_,rfl⟩
      obtain ⟨f1,p1,c1⟩:=c1
      have HAw:=Lib.hid (HA.out.below HB.out)
      have T1:=Lib.hid (fun (u:World) (h:IsV u a vs) => puttruths_any u a cap vs h HX.out)
      clear hrow
      have hway:ways 2 vs 0=packB 1 (vs.map bitV):=rfl
      have HST:Hid (bst 2 vs 1=if 0=0∨(packB 1 (vs.map bitV)).length < L.length then (0,packB 1 (vs.map bitV)) else (e,L)):=by
        unfold Hid
        rw [bst_succ,hway,HL.out]
      clear hway
      have hs1:=textB_size (packB 1 (vs.map bitV))
      have hs2:=textB_size L
      have HB2:=Lib.hid ((HB.out).alloc HB.out.size (.cells #[.func (.func 130) #[] #[],.func (.func f1) #[] p1] 144))
      have HW2:=Lib.hid (HW.out.below ((Below.refl wr.heap.size wr).alloc (Nat.le_refl _) (.cells #[.func (.func 130) #[] #[],.func (.func f1) #[] p1] 144)))
      have HA2:=Lib.hid (HA.out.below HB2.out)
      have hn8:(wr.alloc (.cells #[.func (.func 130) #[] #[],.func (.func f1) #[] p1] 144)).cell? ⟨wr.heap.size,0,none⟩=some (.func (.func 130) #[] #[]):=by
        rw [cell_of_row _ _ _ _ _ _ (heap_alloc_new wr _)];rfl
      go_upto_region 5 with fail
      generalize wr.heap.size=g8 at *
      clear c0 c1
      generalize wr.alloc (.cells #[.func (.func 130) #[] #[],.func (.func f1) #[] p1] 144)=u1 at *
      generalize hws:packB 1 (vs.map bitV)=W at *
      clear hws
      have HE:Hid (bst 2 vs 1=(0,W)):=by have:=HST.out;rw [if_pos (.inl rfl)] at this;exact this
      clear HST
      go_wp2_with (go_at_call 130;refine (T1.out u1 HA2.out).mono ?_;rintro e' w5 ⟨rfl,hb5⟩;have HB5:=Lib.hid (HB2.out.trans (hb5.mono HB2.out.size));have HW5:=Lib.hid (HW2.out.below hb5);clear hb5)
      go_roundw
      case rel => exact ⟨1,0,W,by omega,by go_num,rfl,rfl,HE.out,HW5,HB5⟩
      case measure => simp [intOf]
    · have hrow:=HW.out.row
      have c0:wr.cell? ⟨wb,0,none⟩=some (.func (.func 121) #[] #[]):=by rw [cell_of_row _ _ _ _ _ _ hrow];simp [putF,hk2]
      have c1:∃ f c,wr.cell? ⟨wb,1,none⟩=some (.func (.func f) #[] c):=by rw [cell_of_row _ _ _ _ _ _ hrow];exact ⟨122,#[.pointer (some ⟨ob,0,none⟩)],by simp [getF,hk2]⟩
      obtain ⟨f1,p1,c1⟩:=c1
      have HAw:=Lib.hid (HA.out.below HB.out)
      have T1:=Lib.hid (fun (u:World) (h:IsV u a vs) => puteach_any u a cap vs k HK.out h HX.out HV.out)
      clear hrow
      have hway:ways k vs 0=vs.flatMap plainB:=by show wayP k vs=_;unfold wayP;rw [if_neg hk2]
      have HST:Hid (bst k vs 1=if 0=0∨(vs.flatMap plainB).length < L.length then (0,vs.flatMap plainB) else (e,L)):=by
        unfold Hid
        rw [bst_succ,hway,HL.out]
      clear hway
      have hs1:=textB_size (vs.flatMap plainB)
      have hs2:=textB_size L
      have HB2:=Lib.hid ((HB.out).alloc HB.out.size (.cells #[.func (.func 121) #[] #[],.func (.func f1) #[] p1] 144))
      have HW2:=Lib.hid (HW.out.below ((Below.refl wr.heap.size wr).alloc (Nat.le_refl _) (.cells #[.func (.func 121) #[] #[],.func (.func f1) #[] p1] 144)))
      have HA2:=Lib.hid (HA.out.below HB2.out)
      have hn8:(wr.alloc (.cells #[.func (.func 121) #[] #[],.func (.func f1) #[] p1] 144)).cell? ⟨wr.heap.size,0,none⟩=some (.func (.func 121) #[] #[]):=by
        rw [cell_of_row _ _ _ _ _ _ (heap_alloc_new wr _)];rfl
      go_upto_region 5 with fail
      generalize wr.heap.size=g8 at *
      clear c0 c1
      generalize wr.alloc (.cells #[.func (.func 121) #[] #[],.func (.func f1) #[] p1] 144)=u1 at *
      generalize hws:vs.flatMap plainB=W at *
      clear hws
      have HE:Hid (bst k vs 1=(0,W)):=by have:=HST.out;rw [if_pos (.inl rfl)] at this;exact this
      clear HST
      go_wp2_with (go_at_call 121;refine (T1.out u1 HA2.out).mono ?_;rintro e' w5 ⟨rfl,hb5⟩;have HB5:=Lib.hid (HB2.out.trans (hb5.mono HB2.out.size));have HW5:=Lib.hid (HW2.out.below hb5);clear hb5)
      go_roundw
      case rel => exact ⟨1,0,W,by omega,by go_num,rfl,rfl,HE.out,HW5,HB5⟩
      case measure => simp [intOf]
end Go.Proofs.YtfbmlefhjoblbaaGreat
namespace Go.Proofs.YtfbmlefhjoblbaaGreat
open Go.Conc Go.RowKit
set_option linter.unusedVariables false
set_option linter.unusedSimpArgs false
theorem best_plain {k:Int} (hk:1≤k∧k≤3) {vs:List V} (h:∀ v ∈ vs,RawK k v):best k (vs.map plainV)=best k vs:=by
  have h1:best1 k (vs.map plainV)=best1 k vs:=by unfold best1;rw [wayR_plain,wayP_plain hk h]
  unfold best
  rw [h1,wayW_plain,ways_plain hk h]
def Fine (vs:List V):Prop:=∀ v ∈ vs,InI v∧v.s.size≤140737488355328
theorem raw_ok {k:Int} {vs:List V} (hf:Fine vs) (ho:vs.all (okK k)=true):∀ v ∈ rawV vs,RawK k v:=by
  intro v hv
  obtain ⟨h1,h2⟩:=List.mem_filter.1 hv
  obtain ⟨h3,h4⟩:=hf v h1
  have h5:=(okK_ok (List.all_eq_true.1 ho v h1) h3.1 h3.2).kind
  rcases h5 with h5 | ⟨h5,h6⟩
  · rw [h5] at h2;simp at h2
  · exact ⟨h5,h3.1,h3.2,fun e => (h6 e).1,h4⟩
def colW (k:Int) (vs:List V):ByteArray × Int :=
  if ¬ (1≤k∧k≤3) then (ByteArray.empty,900) else if 4096 < vs.length∨¬ vs.all (okK k)=true then (ByteArray.empty,901) else (textB (bodyB k vs),0)
theorem bits_null (vs:List V):fits 1 (nullI vs):=bits_fit vs (fun v => if isNull v=true then 1 else 0) fun v => by split <;> omega
set_option maxRecDepth 100000 in
set_option maxHeartbeats 4000000 in
theorem write_any (w:World) (k:Int) (a:Option Addr) (cap:Nat) (vs:List V) (ha:IsV w a vs) (hx:vs.length≤9223372036854775807) (hf:Fine vs) :
    Calls Tryz.prog 47 #[.int .i64 k,.slice a vs.length cap] w fun e w' => e=.returned (.tuple #[.string (colW k vs).1,.int .i64 (colW k vs).2])∧Below w.heap.size w w':=by
  have T0:=Lib.hid (fun u => iskind_any k u)
  by_cases hk:1≤k∧k≤3
  · rw [decide_eq_true hk] at T0
    have TF:=Lib.hid (fit_any w k a cap vs ha hx (fun v hv => (hf v hv).2))
    have hfo:vs.all (fitV k)=vs.all (okK k):=by congr 1;funext v;exact fitV_ok hk v
    rw [hfo] at TF
    by_cases hc:4096 < vs.length∨¬ vs.all (okK k)=true
    · have e1:colW k vs=(ByteArray.empty,901):=by unfold colW;rw [if_neg (by omega),if_pos hc]
      have e2:(decide (vs.length≤4096) && vs.all (okK k))=false:=by
        rcases hc with h | h
        · rw [decide_eq_false (by omega),Bool.false_and]
        · have:vs.all (okK k)=false:=by simpa using h
          rw [this,Bool.and_false]
      rw [e1]
      rw [e2] at TF
      clear e1 e2 hc hfo ha hf hx
      go_enter Tryz.func47,Tryz.ntmps47
      go_wp2_with (first
        | (go_at_call 58;refine (T0.out _).mono ?_;rintro e w' ⟨rfl,rfl⟩)
        | (go_at_call 74;refine TF.out.mono ?_;rintro e w1 ⟨rfl,hb⟩;have HB:=Lib.hid hb;clear hb))
      go_ret2
      exact ⟨rfl,HB.out⟩
    · have hn:vs.length≤4096:=by omega
      have ho:vs.all (okK k)=true:=by
        cases e:vs.all (okK k) with
        | true => rfl
        | false => exact absurd (.inr (by rw [e];simp)) hc
      have e1:colW k vs=(textB (bodyB k vs),0):=by unfold colW;rw [if_neg (by omega),if_neg hc]
      rw [decide_eq_true hn,ho,Bool.true_and] at TF
      have hr:=raw_ok hf ho
      have hrl:=raw_le vs
      have TS:=Lib.hid (fun (u:World) (a:Option Addr) (cap:Nat) (h:IsV u a (rawV vs)) => shortest_any u k hk a cap (rawV vs) h (by omega) hr)
      have hbe:best k (someV vs)=best k (rawV vs):=best_plain hk hr
      have hwy:ways k (someV vs) (best k (rawV vs))=ways k (rawV vs) (best k (rawV vs)):=ways_plain hk hr _
      have hwl:=ways_len hk (raw_valk hk hr) (by rw [List.length_map];omega) (best k (rawV vs))
      rw [ways_plain hk hr] at hwl
      have hb2:=best_le k (rawV vs)
      have e2:bodyB k vs=u8 (best k (rawV vs)) :: (vp vs.length ++ (packB 1 (nullI vs) ++ ways k (rawV vs) (best k (rawV vs)))):=by unfold bodyB;rw [hbe,hwy]
      rw [e1,e2]
      have hnl:=null_len vs
      have TP:=Lib.hid (fun (u:World) (a:Option Addr) (cap:Nat) (h:IsL u a (nullI vs)) => packed_any u a cap 1 (by omega) (nullI vs) h (by omega) (bits_null vs))
      rw [hnl] at TP
      have TP:Hid (∀ (u:World) (a:Option Addr) (cap:Nat),IsL u a (nullI vs)→Calls Tryz.prog 80 #[.slice a vs.length cap,.int .i64 1] u fun e w' => e=.returned (.string (textB (packB 1 (nullI vs))))∧Below u.heap.size u w'):=TP
      have TPA:=Lib.hid (fun (u:World) (h:IsV u a vs) => parted_any u a cap vs h (by omega))
      have TC:=Lib.hid (fun u => count_any (vs.length:Int) (by omega) (by omega) u)
      rw [Int.toNat_natCast] at TC
      have hpl:(packB 1 (nullI vs)).length≤600:=by rw [packB_length,hnl];unfold bytesFor;omega
      have hvl:=vp_le vs.length
      clear e1 e2 hbe hwy hc hfo ho hr hf hnl hx
      generalize best k (rawV vs)=be at *
      generalize ways k (rawV vs) be=W at *
      generalize packB 1 (nullI vs)=PB at *
      generalize vp vs.length=VL at *
      have ha2:IsV w a vs:=ha
      have HA:=Lib.hid ha2
      have HZ:=Lib.hid (And.intro hwl (And.intro hpl hvl))
      have hwu:IntKind.u8.wrap (be:Int)=(be:Int):=by rw [IntKind.wrap_u8];omega
      have HBE:=Lib.hid (show be < 256 by omega)
      clear ha ha2 hwl hpl hvl hb2 hrl
      go_enter Tryz.func47,Tryz.ntmps47
      go_upto_region 8 with (first
        | (go_at_call 58;refine (T0.out _).mono ?_;rintro e w' ⟨rfl,rfl⟩)
        | (go_at_call 74;refine TF.out.mono ?_;rintro e w1 ⟨rfl,hb⟩;have HB1:=Lib.hid hb;have HA1:=Lib.hid (HA.out.below hb);clear hb)
        | (go_at_call 75;refine (TPA.out _ HA1.out).mono ?_;rintro e w2 ⟨g,ar,cr,rfl,hi2,ho2,hb2⟩;have HI2:=Lib.hid hi2.isL;have HO2:=Lib.hid ho2.isV;have HB2:=Lib.hid (HB1.out.trans (hb2.mono HB1.out.size));clear hi2 ho2 hb2)
        | (go_at_call 76;refine (TS.out _ _ _ HO2.out).mono ?_;rintro e w3 ⟨rfl,hb3⟩;have HI3:=Lib.hid (HI2.out.below hb3);have HB3:=Lib.hid (HB2.out.trans (hb3.mono HB2.out.size));clear hb3))
      have H0:Hid (BAt w3 (w3.alloc (.cells #[.pointer none,.slice none 0 0] 123)) w3.heap.size []):=⟨SbAt.new w3 (Nat.le_refl _),(Below.refl _ _).alloc (Nat.le_refl _) _⟩
      obtain ⟨b,hb⟩:∃ b,b=w3.heap.size:=⟨_,rfl⟩
      rw [← hb] at H0 ⊢
      clear hb T0 TF TPA TS HA HA1
      generalize w3.alloc (.cells #[.pointer none,.slice none 0 0] 123)=w4 at *
      have hz1:=textB_size VL
      have hz2:=textB_size PB
      have hz3:=textB_size W
      have hl1:=textB_list VL
      have hl2:=textB_list PB
      have hl3:=textB_list W
      have HL:=Lib.hid (And.intro hl1 (And.intro hl2 hl3))
      have HZ2:=Lib.hid (And.intro hz1 (And.intro hz2 hz3))
      clear hz1 hz2 hz3 hl1 hl2 hl3
      generalize hv1:textB VL=x at *
      generalize hv2:textB PB=y at *
      generalize hv3:textB W=z at *
      clear hv1 hv2 hv3
      go_wp2_with (first
        | (go_at_call 77;refine (sbbyte_any w3.heap.size b [] be HBE.out _ H0.out.sb (by simp) H0.out.below.size).mono ?_;rintro e w5 ⟨rfl,hs5,hb5,_⟩;have HC5:Hid (BAt w3 w5 b [u8 be]):=⟨hs5,H0.out.below.trans hb5⟩;clear hs5 hb5)
        | (go_at_call 79;refine (TC.out _).mono ?_;rintro e w6 ⟨rfl,hb6⟩;have HC6:=Lib.hid (HC5.out.more hb6);clear hb6)
        | (go_at_call 80;refine (TP.out _ _ _ (HI3.out.below HC7.out.below)).mono ?_;rintro e w8 ⟨rfl,hb8⟩;have HC8:=Lib.hid (HC7.out.more hb8);clear hb8)
        | (go_at_call 78;first
            | (refine (sbwstr_any w3.heap.size b ([u8 be] ++ x.data.toList ++ y.data.toList) z w9 HC9.out.sb (by have h1:=HZ.out;have h2:=HZ2.out;have h3:=HL.out;simp only [List.length_append,List.length_singleton,h3.1,h3.2.1];omega) HC9.out.below.size).mono ?_;rintro e w10 ⟨rfl,hs10,hb10,_⟩;have HC10:Hid (BAt w3 w10 b ([u8 be] ++ x.data.toList ++ y.data.toList ++ z.data.toList)):=⟨hs10,HC9.out.below.trans hb10⟩;clear hs10 hb10)
            | (refine (sbwstr_any w3.heap.size b ([u8 be] ++ x.data.toList) y w8 HC8.out.sb (by have h1:=HZ.out;have h2:=HZ2.out;have h3:=HL.out;simp only [List.length_append,List.length_singleton,h3.1];omega) HC8.out.below.size).mono ?_;rintro e w9 ⟨rfl,hs9,hb9,_⟩;have HC9:Hid (BAt w3 w9 b ([u8 be] ++ x.data.toList ++ y.data.toList)):=⟨hs9,HC8.out.below.trans hb9⟩;clear hs9 hb9)
            | (refine (sbwstr_any w3.heap.size b [u8 be] x w6 HC6.out.sb (by have h1:=HZ.out;have h2:=HZ2.out;simp only [List.length_singleton];omega) HC6.out.below.size).mono ?_;rintro e w7 ⟨rfl,hs7,hb7,_⟩;have HC7:Hid (BAt w3 w7 b ([u8 be] ++ x.data.toList)):=⟨hs7,HC6.out.below.trans hb7⟩;clear hs7 hb7))
        | (go_at_call 81;refine (sbstring_any w3.heap.size b ([u8 be] ++ x.data.toList ++ y.data.toList ++ z.data.toList) _ HC10.out.sb HC10.out.below.size).mono ?_;rintro e w11 ⟨rfl,hb11,_⟩;have HF:=Lib.hid (HB3.out.trans ((HC10.out.below.trans hb11).mono HB3.out.size));clear hb11))
      go_ret2
      refine ⟨?_,HF.out⟩
      have hL:=HL.out
      rw [hL.1,hL.2.1,hL.2.2]
      simp [textB]
  · rw [decide_eq_false hk] at T0
    have e1:colW k vs=(ByteArray.empty,900):=by unfold colW;rw [if_pos hk]
    rw [e1]
    clear e1 ha hf
    go_enter Tryz.func47,Tryz.ntmps47
    go_wp2_with (go_at_call 58;refine (T0.out _).mono ?_;rintro e w' ⟨rfl,rfl⟩)
    go_ret2
    exact ⟨rfl,Below.refl _ _⟩
theorem colPut_W (k:Int) (vs:List V):((colPut k vs).1,(colPut k vs).2.2)=if (colW k vs).2=0 then (sealB (colW k vs).1,0) else (ByteArray.empty,(colW k vs).2):=by
  unfold colPut colW
  by_cases h1:¬ (1≤k∧k≤3)
  · rw [if_pos h1,if_pos h1];rfl
  rw [if_neg h1,if_neg h1]
  by_cases h2:4096 < vs.length∨¬ vs.all (okK k)=true
  · rw [if_pos h2,if_pos h2];rfl
  · rw [if_neg h2,if_neg h2];rfl
theorem colW_size {k:Int} {vs:List V} (hf:Fine vs):(colW k vs).1.size≤500000:=by
  unfold colW
  by_cases h1:¬ (1≤k∧k≤3)
  · rw [if_pos h1];exact Nat.zero_le _
  rw [if_neg h1]
  by_cases h2:4096 < vs.length∨¬ vs.all (okK k)=true
  · rw [if_pos h2];exact Nat.zero_le _
  · rw [if_neg h2]
    simp only [textB_size]
    have ho:vs.all (okK k)=true:=by
      cases e:vs.all (okK k) with
      | true => rfl
      | false => exact absurd (.inr (by rw [e];simp)) h2
    exact bodyB_len (by omega) (fun v hv => okK_ok (List.all_eq_true.1 ho v hv) (hf v hv).1.1 (hf v hv).1.2) (by omega)
set_option maxRecDepth 100000 in
set_option maxHeartbeats 1000000 in
theorem vecput_any (w:World) (k:Int) (a:Option Addr) (cap:Nat) (vs:List V) (ha:IsV w a vs) (hx:vs.length≤9223372036854775807) (hf:Fine vs) :
    Calls Tryz.prog 14 #[.int .i64 k,.slice a vs.length cap] w fun e w' => e=.returned (.tuple #[.string (colPut k vs).1,.int .i64 (colPut k vs).2.2])∧Below w.heap.size w w':=by
  have T:=Lib.hid (write_any w k a cap vs ha hx hf)
  have hp:=colPut_W k vs
  have hs:=colW_size (k:=k) hf
  generalize colPut k vs=P at *
  generalize colW k vs=C at *
  obtain ⟨x,E⟩:=C
  obtain ⟨p1,p2,p3⟩:=P
  simp only at *
  by_cases hE:E=0
  · subst hE
    rw [if_pos rfl] at hp
    injection hp with h1 h2
    subst h1 h2
    have T2:=Lib.hid (fun u => cseal_any x (by omega) u)
    clear ha hf hs hx
    go_enter Tryz.func14,Tryz.ntmps14
    go_wp2_with (first
      | (go_at_call 47;refine T.out.mono ?_;rintro e w1 ⟨rfl,hb⟩;have HB:=Lib.hid hb;clear hb)
      | (go_at_call 48;refine (T2.out _).mono ?_;rintro e w2 ⟨rfl,hb⟩;have HB2:=Lib.hid (HB.out.trans (hb.mono HB.out.size));clear hb))
    go_ret2
    exact ⟨rfl,HB2.out⟩
  · rw [if_neg hE] at hp
    have hne:(E != 0)=true:=by simpa using hE
    injection hp with h1 h2
    subst h1 h2
    clear ha hf hs hx hE
    go_enter Tryz.func14,Tryz.ntmps14
    go_wp2_with (go_at_call 47;refine T.out.mono ?_;rintro e w1 ⟨rfl,hb⟩;have HB:=Lib.hid hb;clear hb)
    go_ret2
    exact ⟨rfl,HB.out⟩
end Go.Proofs.YtfbmlefhjoblbaaGreat
