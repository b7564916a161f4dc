/- Spaces and remarks left out: a claim is at most so large. Spaces and remarks left out: a claim is at most so large. -/
import Derived.Test.YtfbmlefhjoblbaaGreatPmathGz
import Derived.Test.YtfbmlefhjoblbaaGreatProg
import Derived.WalkKit
import Derived.ProofKit
import Derived.Lib.Hide
import Derived.WalkLawsBesides
import Derived.WalkSpells
import Derived.Test.YtfbmlefhjoblbaaGreatNPFileGetsGz6
import Derived.Test.YtfbmlefhjoblbaaGreatShelf
import Derived.Lib.BitFns
import Derived.StillTailTactics
namespace Go.Proofs.YtfbmlefhjoblbaaGreat
open Go.RowKit
set_option linter.unusedVariables false
set_option maxRecDepth 100000 in
theorem rwidth_any (x:Int) (h:x < 9223372036854775808) (w:World):Calls Tryz.prog 88 #[.int .i64 x] w fun e w' => e=.returned (.int .i64 (wid x.toNat:Nat))∧w=w':=by
  have hb:=wid_lt64 (x:=x.toNat) (by omega)
  generalize hR:wid x.toNat=R at *
  have HR:=Lib.hid hR
  clear hR
  go_enter Tryz.func88,Tryz.ntmps88
  go_wp2
  go_loop [0,3] (fun mv kv => ∃ (y:Int) (k:Nat),y < 9223372036854775808∧mv=.int .i64 y∧kv=.int .i64 k∧k + wid y.toNat=R) (fun mv _ => (intOf mv).toNat)
  case atStart => exact ⟨x,0,h,rfl,rfl,by rw [HR.out];omega⟩
  case round =>
    obtain ⟨y,k,hy,rfl,rfl,e⟩:=hrel
    by_cases c:0 < y
    · have hw:=wid_pos (x:=y.toNat) (by omega)
      have e2:(y / 2).toNat=y.toNat / 2:=by omega
      have e3:y.tdiv 2=y / 2:=Int.tdiv_eq_ediv_of_nonneg (by omega)
      have hk:k + 1≤63:=by omega
      have e4:k + 1 + wid (y / 2).toNat=R:=by rw [e2];omega
      clear e hw e2
      go_wp2
      go_round
      case rel => exact ⟨y / 2,k + 1,by omega,rfl,by go_num,e4⟩
      case measure => simp [intOf];omega
    · have e1:k=R:=by rw [show y.toNat=0 by omega,wid_zero] at e;exact e
      subst e1
      clear e
      go_wp2
      go_ret
      exact ⟨rfl,rfl⟩
end Go.Proofs.YtfbmlefhjoblbaaGreat
namespace Go.Proofs.YtfbmlefhjoblbaaGreat
open Go.Conc Go.RowKit
set_option linter.unusedVariables false
theorem wid_bitLen:∀ n x,x < 2 ^ n→n≤64→wid x=Lib.bitLen x
  | 0,x,h,_ => by
    obtain rfl:x=0:=by simpa using h
    rw [wid_zero];decide
  | n + 1,x,h,hn => by
    by_cases c:x=0
    · subst c;rw [wid_zero];decide
    · rw [wid_pos (by omega),Lib.bitLen_half x c (Nat.lt_of_lt_of_le h (Nat.pow_le_pow_right (by omega) hn)),wid_bitLen n (x / 2) (by rw [Nat.pow_succ] at h;omega) (by omega),Nat.add_comm]
set_option maxRecDepth 100000 in
theorem kwidth_any (x:Int) (h:x < 9223372036854775808) (w:World):Calls Tryz.prog 165 #[.int .i64 x] w fun e w' => e=.returned (.int .i64 (wid x.toNat:Nat))∧w=w':=by
  by_cases c:x≤0
  · rw [show x.toNat=0 by omega,wid_zero]
    go_enter Tryz.func165,Tryz.ntmps165
    go_wp2
    go_ret
    exact ⟨rfl,rfl⟩
  · have hb:=wid_lt64 (x:=x.toNat) (by omega)
    have T:=Lib.hid (Tryz.bits_Len x w (by omega) (by omega))
    rw [← wid_bitLen 64 x.toNat (by omega) (by omega)] at T
    generalize wid x.toNat=k at *
    have e1:IntKind.u64.wrap x=x:=by rw [IntKind.wrap_u64];omega
    go_enter Tryz.func165,Tryz.ntmps165
    go_wp2_with (go_at_call 172;refine T.out.mono ?_;rintro e w1 ⟨rfl,rfl⟩)
    go_ret
    exact ⟨rfl,rfl⟩
set_option maxRecDepth 100000 in
theorem kis_any (x:Int) (w:World):Calls Tryz.prog 143 #[.int .i64 x] w fun e w' => e=.returned (.bool (decide (0≤x∧x≤16)))∧w=w':=by
  by_cases c:0≤x
  · by_cases c2:x≤16
    · rw [decide_eq_true ⟨c,c2⟩]
      go_enter Tryz.func143,Tryz.ntmps143
      go_wp2
      go_ret
      exact ⟨rfl,rfl⟩
    · rw [decide_eq_false (fun h => c2 h.2)]
      have d2:decide (x≤16)=false:=decide_eq_false c2
      go_enter Tryz.func143,Tryz.ntmps143
      go_wp2
      go_ret
      exact ⟨rfl,rfl⟩
  · rw [decide_eq_false (fun h => c h.1)]
    go_enter Tryz.func143,Tryz.ntmps143
    go_wp2
    go_ret
    exact ⟨rfl,rfl⟩
set_option maxRecDepth 100000 in
theorem kbytes_any (n w:Nat) (hn:n≤281474976710656) (hw:w≤16) (W:World):Calls Tryz.prog 146 #[.int .i64 n,.int .i64 w] W fun e W' => e=.returned (.int .i64 (bytesFor n w:Nat))∧W=W':=by
  have hm:n * w≤n * 16:=Nat.mul_le_mul_left _ hw
  obtain ⟨p,hp⟩:∃ p,p=n * w:=⟨_,rfl⟩
  have e1:wrap64 ((n:Int) * (w:Int))=(p:Int):=by
    rw [← Int.natCast_mul,← hp];unfold wrap64;omega
  have e2:bytesFor n w=(p + 7) / 8:=by rw [hp];rfl
  rw [e2]
  have e3:((p:Int) + 8 - 1).tdiv 8=((p + 7) / 8:Nat):=by rw [Int.tdiv_eq_ediv_of_nonneg (by omega)];omega
  have e4:wrap64 ((p:Int) + 8)=(p:Int) + 8:=by unfold wrap64;omega
  have e5:wrap64 ((p:Int) + 8 - 1)=(p:Int) + 8 - 1:=by unfold wrap64;omega
  have e6:wrap64 (((p:Int) + 8 - 1).tdiv 8)=((p + 7) / 8:Nat):=by rw [e3];unfold wrap64;omega
  have hm2:p≤n * 16:=hp ▸ hm
  clear hm e2 hp
  go_enter Tryz.func146,Tryz.ntmps146
  go_wp2
  go_ret
  refine ⟨?_,rfl⟩
  show Ending.returned (.int .i64 (((p:Int) + 7) / 8))=_
  rw [show ((p:Int) + 7) / 8=(((p + 7) / 8:Nat):Int) by omega]
def WinAt (w:World) (b:Nat) (B m:Nat):Prop:=w.heap[b]? = some (.cells #[.int .u32 (B:Int),.int .i64 (m:Int)] 184 (0,0))
theorem or_join32 (m B x:Nat) (hB:B < 2 ^ m) (h:B + 2 ^ m * x < 4294967296):bits .or .u32 (B:Int) ((2 ^ m * x:Nat):Int)=((B + 2 ^ m * x:Nat):Int):=by
  rw [u32_or_nat _ _ (by omega) (by omega),Nat.or_comm,nat_join m (2 ^ m * x) B (Nat.mul_mod_right _ _) hB,Nat.add_comm]
set_option maxRecDepth 100000 in
theorem kfill_any (w:World) (b B m x k:Nat) (h:WinAt w b B m) (hB:B < 2 ^ m) (hm:m≤15) (hx:x < 65536) (hk:k≤16) :
    Calls Tryz.prog 147 #[.pointer (some ⟨b,0,none⟩),.int .u32 x,.int .i64 k] w fun e w' => e=.returned (.tuple #[])∧WinAt w' b (B + 2 ^ m * x) (m + k)∧Frm (fun k => k=b) w w':=by
  have hp:2 ^ m≤2 ^ 15:=Nat.pow_le_pow_right (by omega) hm
  have hq:2 ^ m * x≤2 ^ 15 * 65535:=Nat.mul_le_mul hp (by omega)
  have e1:=or_join32 m B x hB (by omega)
  have c0:w.cell? ⟨b,0,none⟩=some (.int .u32 (B:Int)):=cell_of_row w b 0 _ _ _ h
  have c1:w.cell? ⟨b,1,none⟩=some (.int .i64 (m:Int)):=cell_of_row w b 1 _ _ _ h
  have f0:=frozen_of_row w b 0 _ _ h
  have f1:=frozen_of_row w b 1 _ _ h
  have H:=Lib.hid h
  clear h
  go_enter Tryz.func147,Tryz.ntmps147
  go_wp2
  go_still_tail 13,(by kernel_rfl)
  go_wp2
  go_end0
  have e2:bits .or .u32 (B:Int) ((x:Int) * 2 ^ m % 4294967296)=((B + 2 ^ m * x:Nat):Int):=by
    rw [← e1]
    congr 1
    have e3:(x:Int) * 2 ^ m=((2 ^ m * x:Nat):Int):=by rw [Int.natCast_mul,Int.mul_comm];simp
    rw [e3]
    omega
  rw [e2]
  refine ⟨rfl,?_,((Frm.refl (fun k => k=b) w).setCell (p:=⟨b,0,none⟩) rfl _ |>.setCell (p:=⟨b,1,none⟩) rfl _).drew⟩
  have h2:=heap_setCell_same w b 0 _ _ (.int .u32 ((B + 2 ^ m * x:Nat):Int)) H.out
  have h3:=heap_setCell_same _ b 1 _ _ (.int .i64 ((m + k:Nat):Int)) h2
  rw [Int.natCast_add] at h3
  unfold WinAt
  rw [Int.natCast_add m k]
  exact h3
theorem and_low32 (B k:Nat) (hB:B < 4294967296) (hk:k≤16):bits .and .u32 (B:Int) ((2:Int) ^ k - 1)=((B % 2 ^ k:Nat):Int):=by
  have h1:0 < 2 ^ k:=Nat.two_pow_pos k
  have h2:2 ^ k≤2 ^ 16:=Nat.pow_le_pow_right (by omega) hk
  have e:(2:Int) ^ k - 1=((2 ^ k - 1:Nat):Int):=by
    rw [Int.natCast_sub h1];simp
  rw [e,u32_and_nat _ _ hB (by omega),Nat.and_two_pow_sub_one_eq_mod]
set_option maxRecDepth 100000 in
theorem kempty_any (w:World) (b B m k:Nat) (h:WinAt w b B m) (hB:B < 4294967296) (hm:m≤1000) (hk:k≤16) (hkm:k≤m) :
    Calls Tryz.prog 148 #[.pointer (some ⟨b,0,none⟩),.int .i64 k] w fun e w' => e=.returned (.int .u32 (B % 2 ^ k:Nat))∧WinAt w' b (B / 2 ^ k) (m - k)∧Frm (fun k => k=b) w w':=by
  have h1:0 < 2 ^ k:=Nat.two_pow_pos k
  have h2:2 ^ k≤2 ^ 16:=Nat.pow_le_pow_right (by omega) hk
  have e1:=and_low32 B k hB hk
  have c0:w.cell? ⟨b,0,none⟩=some (.int .u32 (B:Int)):=cell_of_row w b 0 _ _ _ h
  have c1:w.cell? ⟨b,1,none⟩=some (.int .i64 (m:Int)):=cell_of_row w b 1 _ _ _ h
  have f0:=frozen_of_row w b 0 _ _ h
  have f1:=frozen_of_row w b 1 _ _ h
  have H:=Lib.hid h
  clear h
  go_enter Tryz.func148,Tryz.ntmps148
  go_wp2
  go_quiet (fail)
  go_wp2
  go_ret
  have hk2:(2:Int) ^ k=((2 ^ k:Nat):Int):=by simp
  have e2:bits .and .u32 (B:Int) (((2:Int) ^ k - 1) % 4294967296)=((B % 2 ^ k:Nat):Int):=by
    rw [← e1]
    congr 1
    rw [hk2]
    omega
  have e3:(B:Int) / 2 ^ k=((B / 2 ^ k:Nat):Int):=by rw [hk2,Int.natCast_ediv]
  have e4:(m:Int) - (k:Int)=((m - k:Nat):Int):=by omega
  refine ⟨?_,?_,(((Frm.refl (fun k => k=b) w).same (v:=w.drewN nq) rfl rfl rfl rfl).setCell (p:=⟨b,0,none⟩) rfl _).setCell (p:=⟨b,1,none⟩) rfl _⟩
  · show Ending.returned (.int .u32 (bits .and .u32 (B:Int) (((2:Int) ^ k - 1) % 4294967296)))=_
    rw [e2]
  · rw [e3,e4]
    have h2:=heap_setCell_same (w.drewN nq) b 0 _ _ (.int .u32 ((B / 2 ^ k:Nat):Int)) H.out
    exact heap_setCell_same _ b 1 _ _ _ h2
end Go.Proofs.YtfbmlefhjoblbaaGreat

namespace Go.Proofs.YtfbmlefhjoblbaaGreat
open Go.Conc Go.RowKit
set_option linter.unusedVariables false
theorem infoSb:(Tryz.prog.info? 123).map (fun i => i.size)=some 2:=by kernel_rfl
theorem liesSb:liesAt Tryz.prog Tryz.prog.depth 123 (2 / Tryz.prog.cellsOf 123) 0 123 1=true:=by kernel_rfl
theorem sizeSb:∃ j,Tryz.prog.info? 123=some j∧j.size=2:=by
  have h:=infoSb
  cases hi:Tryz.prog.info? 123 with
  | none => rw [hi] at h;simp at h
  | some j => rw [hi] at h;simp at h;exact ⟨j,rfl,h⟩
def SbKept (b:Nat) (w w':World):Prop:=Lib.OthersKept 5 (some b) w w'
set_option maxRecDepth 100000 in
set_option maxHeartbeats 1000000 in
theorem sbcheck_used (b:Nat) (w:World) (h0:w.cell? ⟨b,0,none⟩=some (.pointer (some ⟨b,0,none⟩))) :
    Calls Tryz.prog 112 #[.pointer (some ⟨b,0,none⟩)] w fun e w' => e=.returned (.tuple #[])∧w=w':=by
  obtain ⟨j,hj,_⟩:=sizeSb
  go_enter Tryz.func112,Tryz.ntmps112
  go_wp2
  rw [Lib.run_neq_ptr_same w _ Tryz.underlying121 hj]
  go_wp2
  go_end0
  exact ⟨rfl,rfl⟩
set_option maxRecDepth 100000 in
set_option maxHeartbeats 1000000 in
theorem sbcheck_fresh (b:Nat) (w:World) (h0:w.cell? ⟨b,0,none⟩=some (.pointer none)) (hsh:w.shape? b=some (123,2)) (hfz:w.frozen? ⟨b,0,none⟩=false) :
    Calls Tryz.prog 112 #[.pointer (some ⟨b,0,none⟩)] w fun e w' => e=.returned (.tuple #[])∧w.setCell ⟨b,0,none⟩ (.pointer (some ⟨b,0,none⟩))=w':=by
  obtain ⟨j,hj,hjs⟩:=sizeSb
  go_enter Tryz.func112,Tryz.ntmps112
  go_wp2
  rw [Lib.run_to_unsafe w ⟨b,0,none⟩ Tryz.underlying121 Tryz.underlying178 hj (by rw [hjs];decide) hsh (Nat.zero_lt_succ 1)]
  simp only [Result.andThen]
  rw [Oper.upon_value]
  go_wp2
  rw [run_callFunc_extern Tryz.func141 (by kernel_rfl) (by kernel_rfl) (by kernel_rfl) (e:=Extern.AbiNoEscape.same) (by kernel_rfl)]
  rw [Lib.run_noEscape]
  simp only [Result.andThen]
  rw [Oper.upon_value]
  go_wp2
  rw [Lib.run_from_unsafe w ⟨b,0,none⟩ Tryz.underlying178 Tryz.underlying121 hj hsh liesSb]
  simp only [Result.andThen]
  rw [Oper.upon_value]
  go_wp2
  go_end0
  exact ⟨rfl,rfl⟩
def SbAt (B b:Nat) (l:List UInt8) (w:World):Prop:=Lib.IsBuilder 123 5 B b (byteCells l) w
theorem sb_cells (l:List UInt8):Lib.byteCells l=byteCells l:=by simp [Lib.byteCells,byteCells]
theorem sbcheck_any (B b:Nat) (l:List UInt8) (w:World) (h:SbAt B b l w) :
    Calls Tryz.prog 112 #[.pointer (some ⟨b,0,none⟩)] w fun e w' => e=.returned (.tuple #[])∧Lib.BuilderAt 123 5 B b (.pointer (some ⟨b,0,none⟩)) (byteCells l) w'∧Below B w w'∧SbKept b w w':=by
  rcases h with h | h
  · refine (sbcheck_fresh b w h.cell0 h.shape h.frozen0).mono ?_
    rintro e w' ⟨rfl,rfl⟩
    exact ⟨rfl,h.used _,(Below.refl B w).setCell (p:=⟨b,0,none⟩) h.1 _,(Lib.OthersKept.refl _ _ w).setCell ⟨b,0,none⟩ rfl _⟩
  · refine (sbcheck_used b w h.cell0).mono ?_
    rintro e w' ⟨rfl,rfl⟩
    exact ⟨rfl,h,Below.refl B _,Lib.OthersKept.refl _ _ _⟩
theorem own_kind {w:World} {B:Nat} {e:TypeId} {v:Value} {n:Nat} {xs:List Value} (h:w.ownsRow B e 1 v n xs):∀ g,v.ownBlock=some g→∃ c fz,w.heap[g]? = some (.cells c e fz):=by
  intro g hg
  rcases h.2 with ⟨rfl,_⟩ | ⟨g',cap,cur,rfl,_,hgg,_⟩
  · simp [Value.ownBlock] at hg
  · simp [Value.ownBlock] at hg
    subst hg
    exact ⟨cur,_,hgg⟩
set_option maxRecDepth 100000 in
set_option maxHeartbeats 1000000 in
theorem sbbyte_any (B b:Nat) (l:List UInt8) (c:Nat) (hc:c < 256) (w:World) (h:SbAt B b l w) (hl:l.length + 1≤140737488355328) (hB:B≤w.heap.size) :
    Calls Tryz.prog 77 #[.pointer (some ⟨b,0,none⟩),.int .u8 (c:Int)] w fun e w' => e=.returned .nilIface∧SbAt B b (l ++ [u8 c]) w'∧Below B w w'∧SbKept b w w':=by
  obtain ⟨i0,hi,hz0,hz1,hz2⟩:=info_parts infoByte
  have hcl:=byteCells_length l
  have HZ:=Lib.hid hz0
  have HC:=Lib.hid (sbcheck_any B b l w h)
  have hcc:Hid (byteCells [u8 c]=[.int .u8 (c:Int)]):=by
    show [Value.int .u8 ((u8 c).toNat:Int)]=_
    rw [u8_toNat c hc]
  clear hz0 h
  go_enter Tryz.func77,Tryz.ntmps77
  go_wp2_with (go_at_call 112;refine HC.out.mono ?_)
  rintro e w1 ⟨rfl,h1,hb1,hk1⟩
  obtain ⟨hB1,v,hbk,hown,hne⟩:=h1
  rw [hcl] at hown
  have c1:w1.cell? ⟨b,1,none⟩=some v:=by rw [Lib.cell_of_heap hbk];rfl
  have HOWN:=Lib.hid (own_same hown (w':=w1.alloc (.cells #[.int .u8 (c:Int)] 5)) fun g _ hg => Below.heap_alloc w1 _ g hg)
  have HBK:=Lib.hid hbk
  have HB1:=Lib.hid hb1
  have HK1:=Lib.hid hk1
  have HO:=Lib.hid hown
  have hlt:b < w1.heap.size:=(Array.getElem?_eq_some_iff.1 hbk).1
  have hblk:(w1.alloc (.cells #[.int .u8 (c:Int)] 5)).heap[w1.heap.size]? = some (.cells #[.int .u8 (c:Int)] 5 (0,0)):=heap_alloc_new w1 _
  have HN:Hid (∀ (j:Nat) (u:Value),(byteCells [u8 c])[j]? = some u→(w1.alloc (.cells #[.int .u8 (c:Int)] 5)).cell? ((⟨w1.heap.size,0,none⟩:Addr).add j)=some u):=by
    intro j u hj
    rw [hcc.out] at hj
    match j,hj with
    | 0,hj => rw [show (⟨w1.heap.size,0,none⟩:Addr).add 0=⟨w1.heap.size,0,none⟩ by simp [Addr.add],cell_of_row _ _ _ _ _ _ hblk];exact hj
  clear hb1 hk1 hown hbk hblk
  go_wp2_with (at_builtin;refine wpList_append_own _ rfl _ _ 50 rfl B 5 i0 (.int .u8 0) 1 1 Tryz.underlying50 hi HZ.out hz1 hz2 rfl (by decide) v l.length (byteCells l) rfl HOWN.out ⟨w1.heap.size,0,none⟩ 1 1 (byteCells [u8 c]) rfl rfl HN.out ?c2 ?c3 ?c4 ?c5 ?_)
  case c2 => intro u hu;rw [hcc.out] at hu;simp at hu;subst hu;rfl
  case c3 => unfold maxLen;omega
  case c4 => omega
  case c5 => have:=HB1.out.size;simp;omega
  intro v' w2 hown' hgrow _
  have hb2:w2.heap[b]? = some (.cells #[.pointer (some ⟨b,0,none⟩),v] 123 (0,0)):=by
    rw [hgrow.block b (by simp;omega) (fun e => hne e.symm),Below.heap_alloc w1 _ b hlt]
    exact HBK.out
  have d0:w2.cell? ⟨b,0,none⟩=some (.pointer (some ⟨b,0,none⟩)):=by rw [Lib.cell_of_heap hb2];rfl
  have d1:w2.cell? ⟨b,1,none⟩=some v:=by rw [Lib.cell_of_heap hb2];rfl
  have f1:w2.frozen? ⟨b,1,none⟩=false:=Lib.frozen_of_heap hb2 1
  obtain ⟨g,cap,rfl⟩:=own_form hown'
  have HB2:=Lib.hid hb2
  have HG:=Lib.hid hgrow
  have HO2:=Lib.hid hown'
  clear hb2 hgrow hown'
  go_wp2
  go_ret
  refine ⟨rfl,.inr ?_,?_,((HK1.out.alloc _).grown HG.out (own_kind HOWN.out)).setCell ⟨b,1,none⟩ rfl _⟩
  · refine Lib.BuilderAt.put hB1 HB2.out ?_ (by decide)
    rw [byteCells_length,List.length_append,byteCells_append]
    exact HO2.out
  · exact ((HB1.out.alloc (by have:=HB1.out.size;omega) _).grown HG.out (by have:=HB1.out.size;simp;omega) (fun k hk => own_block HOWN.out hk.symm)).setCell (p:=⟨b,1,none⟩) hB1 _
theorem sbgrow_any (B b n:Nat) (w:World) (hB:B≤b) (hbk:w.heap[b]? = some (.cells #[.pointer none,.slice none 0 0] 123 (0,0))) (hBw:B≤w.heap.size) (hn:n≤281474976710656) :
    Calls Tryz.prog 145 #[.pointer (some ⟨b,0,none⟩),.int .i64 n] w fun e w' => e=.returned (.tuple #[])∧SbAt B b [] w'∧Below B w w' :=
  (Tryz.Builder_Grow_fresh B b n w hB hbk hBw hn).mono fun e w' h => ⟨h.1,.inr h.2.1,h.2.2⟩
theorem sbstring_any (B b:Nat) (l:List UInt8) (w:World) (h:SbAt B b l w) (hB:B≤w.heap.size) :
    Calls Tryz.prog 81 #[.pointer (some ⟨b,0,none⟩)] w fun e w' => e=.returned (.string ⟨l.toArray⟩)∧Below B w w'∧SbKept b w w':=by
  refine (Tryz.Builder_String_any_k B b l w ?_ hB).mono fun e w' h => ⟨h.1,h.2.2.1,h.2.2.2⟩
  rw [sb_cells]
  exact Lib.IsBuilderF.of h
end Go.Proofs.YtfbmlefhjoblbaaGreat
