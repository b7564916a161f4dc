/- Spaces and remarks left out: a claim is at most so large. -/
import Derived.Test.YtfbmlefhjoblbaaGreatSmathGz
import Derived.Test.YtfbmlefhjoblbaaGreatProg
import Derived.WalkKit
import Derived.ProofKit
import Derived.Lib.Hide
import Derived.WalkLawsBesides
import Derived.WalkSpells
import Derived.Below
import Derived.Deep.Cut
import Derived.Deep.CutRange
import Derived.Deep.RegionWith
import Derived.Laws.Tables
import Derived.Test.YtfbmlefhjoblbaaGreatNPFileGetsGz6
import Derived.Test.YtfbmlefhjoblbaaGreatBitsGz
import Derived.Test.YtfbmlefhjoblbaaGreatShelf
import Derived.Test.YtfbmlefhjoblbaaGreatNum
import Derived.Deep.QuietTactic
namespace Go.Proofs.YtfbmlefhjoblbaaGreat
open Go.RowKit
set_option linter.unusedVariables false
theorem and1 (x:Nat) (h:x < 4294967296):bits .and .u32 (x:Int) 1=((x % 2:Nat):Int):=by
  have:=u32_and_nat x 1 h (by omega)
  rw [show ((1:Nat):Int)=1 from rfl] at this
  rw [this,Nat.and_one_is_mod]
theorem xorD (x:Nat) (h:x < 4294967296):bits .xor .u32 (x:Int) 3988292384=((x ^^^ 3988292384:Nat):Int):=by
  have:=u32_xor_nat x 3988292384 h (by omega)
  exact this
set_option maxRecDepth 100000 in
theorem cout_any (x:Nat) (h:x < 4294967296) (w:World):Calls Tryz.prog 149 #[.int .u32 (x:Int)] w fun e w' => e=.returned (.int .u32 (stn 4 x:Nat))∧w=w':=by
  go_enter Tryz.func149,Tryz.ntmps149
  go_wp2
  go_loop [0,4] (fun s i => ∃ n y:Nat,n≤4∧y < 4294967296∧i=.int .i64 (4 - n)∧s=.int .u32 y∧stn n y=stn 4 x) (fun _ i => (4 - intOf i).toNat)
  case atStart => exact ⟨4,x,by omega,h,rfl,rfl,rfl⟩
  case round =>
    obtain ⟨n,y,hn,hy,rfl,rfl,e⟩:=hrel
    have e1:=and1 y hy
    by_cases c:n=0
    · subst c
      go_wp2
      go_ret
      exact ⟨by rw [← e];rfl,rfl⟩
    · obtain ⟨n,rfl⟩:∃ m,n=m + 1:=⟨n - 1,by omega⟩
      by_cases c1:y % 2=1
      · have hs:st y=y / 2 ^^^ 3988292384:=by unfold st;rw [if_pos c1]
        have e2:bits .xor .u32 ((y:Int) / 2) 3988292384=((y / 2 ^^^ 3988292384:Nat):Int):=xorD (y / 2) (by omega)
        rw [c1] at e1
        go_wp2
        go_round
        case rel => exact ⟨n,st y,by omega,st_lt hy,by congr 1;omega,by rw [hs,← e2],e⟩
        case measure => simp [intOf];omega
      · have hs:st y=y / 2:=by unfold st;rw [if_neg c1]
        rw [show y % 2=0 by omega] at e1
        go_wp2
        go_round
        case rel => exact ⟨n,st y,by omega,st_lt hy,by congr 1;omega,by rw [hs];rfl,e⟩
        case measure => simp [intOf];omega
end Go.Proofs.YtfbmlefhjoblbaaGreat
namespace Go.Proofs.YtfbmlefhjoblbaaGreat
open Go.RowKit
set_option linter.unusedVariables false
theorem take_sum (s:ByteArray) (a:Nat) (h:a < s.size):s.data.toList.drop a=s[a] :: s.data.toList.drop (a + 1):=by
  rw [List.drop_eq_getElem_cons (by simpa using h)]
  rfl
theorem xorB (x:Nat) (h:x < 4294967296) (b:UInt8):bits .xor .u32 (x:Int) ((b.toNat:Int) % 4294967296)=((x ^^^ b.toNat:Nat):Int):=by
  have hb:=u8n_lt b
  rw [Int.emod_eq_of_lt (by omega) (by omega)]
  exact u32_xor_nat x b.toNat h hb
theorem xorF (x:Nat) (h:x < 4294967296):bits .xor .u32 (x:Int) 4294967295=((x ^^^ 4294967295:Nat):Int):=u32_xor_nat x 4294967295 h (by omega)
set_option maxRecDepth 100000 in
set_option maxHeartbeats 1000000 in
theorem rcrc_any (s:ByteArray) (hs:s.size≤281474976710656) (w:World):Calls Tryz.prog 57 #[.string s] w fun e w' => e=.returned (.int .i64 (crcN s.data.toList:Nat))∧w=w':=by
  obtain ⟨R,hR⟩:∃ R,R=crcN s.data.toList:=⟨_,rfl⟩
  rw [← hR]
  have hl:R < 4294967296:=hR ▸ crcN_lt s.data.toList
  go_enter Tryz.func57,Tryz.ntmps57
  go_wp2
  go_loop [3,4] (fun c i => ∃ a x:Nat,a≤s.size∧x < 4294967296∧i=.int .i64 a∧c=.int .u32 x∧sumL x (s.data.toList.drop a)=sumL 4294967295 s.data.toList) (fun _ i => s.size - (intOf i).toNat)
  case atStart => exact ⟨0,4294967295,by omega,by omega,rfl,rfl,rfl⟩
  case round =>
    obtain ⟨a,x,ha,hx,rfl,rfl,e⟩:=hrel
    by_cases c:a < s.size
    · rw [take_sum s a c] at e
      have e1:=xorB x hx s[a]
      have e:sumL (stn 8 (x ^^^ s[a].toNat)) (s.data.toList.drop (a + 1))=sumL 4294967295 s.data.toList:=e
      have hy:=xor_lt hx (u8n_lt s[a])
      generalize hz:x ^^^ s[a].toNat=z at *
      go_wp2
      go_loop [3,5] (fun c i => ∃ n y:Nat,n≤8∧y < 4294967296∧i=.int .i64 (8 - n)∧c=.int .u32 y∧stn n y=stn 8 z) (fun _ i => (8 - intOf i).toNat)
      case atStart => exact ⟨8,z,by omega,hy,rfl,rfl,rfl⟩
      case round =>
        obtain ⟨n,y,hn,hy,rfl,rfl,e3⟩:=hrel
        have e1:=and1 y hy
        by_cases c:n=0
        · subst c
          go_wp2
          go_round
          case rel => exact ⟨a + 1,y,by omega,hy,by go_num,rfl,by rw [← e,← e3];rfl⟩
          case measure => simp [intOf];omega
        · obtain ⟨n,rfl⟩:∃ m,n=m + 1:=⟨n - 1,by omega⟩
          by_cases c1:y % 2=1
          · have hs:st y=y / 2 ^^^ 3988292384:=by unfold st;rw [if_pos c1]
            have e2:bits .xor .u32 ((y:Int) / 2) 3988292384=((y / 2 ^^^ 3988292384:Nat):Int):=xorD (y / 2) (by omega)
            rw [c1] at e1
            go_wp2
            go_round
            case rel => exact ⟨n,st y,by omega,st_lt hy,by congr 1;omega,by rw [hs,← e2],e3⟩
            case measure => simp [intOf];omega
          · have hs:st y=y / 2:=by unfold st;rw [if_neg c1]
            rw [show y % 2=0 by omega] at e1
            go_wp2
            go_round
            case rel => exact ⟨n,st y,by omega,st_lt hy,by congr 1;omega,by rw [hs];rfl,e3⟩
            case measure => simp [intOf];omega
    · have hd:s.data.toList.drop a=[]:=List.drop_eq_nil_of_le (by simpa using Nat.le_of_not_lt c)
      rw [hd] at e
      have e:x=sumL 4294967295 s.data.toList:=e
      have e4:=xorF x hx
      have hc:x ^^^ 4294967295=R:=by rw [hR,e];rfl
      rw [hc] at e4
      clear hc e hR
      go_wp2
      go_ret
      exact ⟨rfl,rfl⟩
end Go.Proofs.YtfbmlefhjoblbaaGreat
namespace Go.Proofs.YtfbmlefhjoblbaaGreat
open Go.RowKit
set_option linter.unusedVariables false
def tabV (k:Nat):Array Value:=((List.range 16).map fun i => Value.int .u32 ((if i < k then stn 4 i else 0:Nat):Int)).toArray
theorem tabV_size (k:Nat):(tabV k).size=16:=by simp [tabV]
theorem tabV_get (k i:Nat) (h:i < 16):(tabV k)[i]? = some (.int .u32 ((if i < k then stn 4 i else 0:Nat):Int)):=by
  simp [tabV,h]
theorem tabV_step (k:Nat) (h:k < 16):(tabV k).setIfInBounds k (.int .u32 (stn 4 k:Nat))=tabV (k + 1):=by
  apply Array.ext_getElem?
  intro i
  rw [Array.getElem?_setIfInBounds]
  by_cases hi:i < 16
  · rw [tabV_get (k + 1) i hi,tabV_size]
    by_cases e:k=i
    · subst e
      rw [if_pos rfl,if_pos h,if_pos (by omega)]
    · rw [if_neg e,tabV_get k i hi]
      by_cases hk:i < k
      · rw [if_pos hk,if_pos (by omega)]
      · rw [if_neg hk,if_neg (by omega)]
  · have n1:(tabV k)[i]? = none:=by simp [tabV,hi]
    have n2:(tabV (k + 1))[i]? = none:=by simp [tabV,hi]
    rw [if_neg (by omega),n1,n2]
theorem tabV_zero:tabV 0 = #[.int .u32 0,.int .u32 0,.int .u32 0,.int .u32 0,.int .u32 0,.int .u32 0,.int .u32 0,.int .u32 0,.int .u32 0,.int .u32 0,.int .u32 0,.int .u32 0,.int .u32 0,.int .u32 0,.int .u32 0,.int .u32 0]:=rfl
set_option maxRecDepth 100000 in
set_option maxHeartbeats 1000000 in
theorem csteps_any (w:World):Calls Tryz.prog 115 #[] w fun e w' => e=.returned (.agg (tabV 16))∧Below w.heap.size w w':=by
  go_enter Tryz.func115,Tryz.ntmps115
  go_wp2
  go_loopw [3] (fun i wr => ∃ k:Nat,k≤16∧i=.int .i64 k∧wr.heap[w.heap.size + 1]? = some (.cells (tabV k) 161 (0,0))∧wr.heap[w.heap.size]? = some (.cells (tabV 0) 161 (0,0))∧Below w.heap.size w wr) (fun i _ => 16 - (intOf i).toNat)
  case atStart => exact ⟨0,by omega,rfl,heap_alloc2_new _ _ _,heap_alloc2_old _ _ _,((Below.refl _ _).alloc (Nat.le_refl _) _).alloc (by simp) _⟩
  case round =>
    obtain ⟨k,hk,rfl,h1,h0,hb⟩:=hrel
    have H1:=Lib.hid h1
    have H0:=Lib.hid h0
    have HB:=Lib.hid hb
    clear hb h0
    by_cases c:k < 16
    · have hc:=(cell_of_row wr (w.heap.size + 1) k _ _ _ h1).trans (tabV_get k k c)
      rw [if_neg (Nat.lt_irrefl k)] at hc
      have hf:=frozen_of_row wr (w.heap.size + 1) k _ _ h1
      clear h1
      have T:=Lib.hid (cout_any k (by omega))
      go_wp2_with (go_at_call 149;refine (T.out _).mono ?_;rintro e w' ⟨rfl,rfl⟩)
      go_roundw
      case rel =>
        refine ⟨k + 1,by omega,by go_num,?_,?_,HB.out.setCell (by simp) _⟩
        · rw [← tabV_step k c]
          exact heap_setCell_same _ _ _ _ _ _ H1.out
        · rw [heap_setCell_other _ _ _ _ (by simp)]
          exact H0.out
      case measure => simp [intOf];omega
    · obtain rfl:k=16:=by omega
      clear h1
      go_upto_region 7 with (fail)
      apply wp_region_lit
      refine wpList_load_row rfl 161 _ rfl (w.heap.size + 1) rfl 161 (tabV 16) (0,0) _ H1.out Tryz.underlying161 rfl rfl ?_
      refine wpList_store_row rfl 161 _ _ rfl w.heap.size (tabV 16) rfl rfl 161 (tabV 0) H0.out rfl rfl (by decide +kernel) ?_
      apply wpList_nil
      go_wp2
      refine bodyPost_ret (results_cell_row rfl _ _ w.heap.size 161 (tabV 16) (0,0) _ rfl (setRow_heap _ _ _ _ _ _ H0.out) Tryz.underlying161 rfl rfl) rfl ⟨rfl,?_⟩
      exact ⟨HB.out.os,HB.out.tape,HB.out.output,by rw [setRow_size];exact HB.out.size,fun k hk => (setRow_other _ _ _ _ (by omega)).trans (HB.out.block k hk)⟩
end Go.Proofs.YtfbmlefhjoblbaaGreat
namespace Go.Proofs.YtfbmlefhjoblbaaGreat
open Go.RowKit
set_option linter.unusedVariables false
theorem and15 (x:Nat) (h:x < 4294967296):bits .and .u32 (x:Int) 15=((x &&& 15:Nat):Int):=u32_and_nat x 15 h (by omega)
theorem and15_lt (x:Nat):x &&& 15 < 16:=by
  rw [show (15:Nat)=2 ^ 4 - 1 from rfl,Nat.and_two_pow_sub_one_eq_mod]
  omega
theorem xorT (x:Nat) (h:x < 4294967296) (m:Nat) (hm:m < 16) (e:x &&& 15=m):bits .xor .u32 ((x:Int) / 16) ((stn 4 m:Nat):Int)=((stn 4 x:Nat):Int):=by
  rw [stn4 x,e]
  exact u32_xor_nat (x / 16) (stn 4 m) (by omega) (stn_lt 4 (by omega))
theorem notF (x:Nat) (h:x < 4294967296):bits .xor .u32 IntKind.u32.max (x:Int)=((x ^^^ 4294967295:Nat):Int):=by
  rw [Nat.xor_comm]
  exact u32_xor_nat 4294967295 x (by omega) h
set_option maxRecDepth 100000 in
set_option maxHeartbeats 1000000 in
theorem cof_any (s:ByteArray) (hs:s.size≤281474976710656) (w:World):Calls Tryz.prog 83 #[.string s] w fun e w' => e=.returned (.int .i64 (crcN s.data.toList:Nat))∧Below w.heap.size w w':=by
  obtain ⟨R,hR⟩:∃ R,R=crcN s.data.toList:=⟨_,rfl⟩
  rw [← hR]
  have hl:R < 4294967296:=hR ▸ crcN_lt s.data.toList
  go_enter Tryz.func83,Tryz.ntmps83
  go_wp2_with (first
    | (go_at_call 115;refine (csteps_any _).mono ?_;rintro e w1 ⟨rfl,hb1⟩;have HB1:=Lib.hid hb1;clear hb1)
    | (refine wpList_store_row rfl 161 _ _ rfl w1.heap.size (tabV 16) rfl rfl 161 (tabV 0) (heap_alloc_new _ _) rfl rfl (by decide +kernel) ?_))
  obtain ⟨wt,hwt⟩:∃ wt,wt=(w1.alloc (.cells (tabV 0) 161)).setRow w1.heap.size (tabV 16):=⟨_,rfl⟩
  have hrow:wt.heap[w1.heap.size]? = some (.cells (tabV 16) 161 (0,0)):=by rw [hwt];exact setRow_heap _ _ _ _ _ _ (heap_alloc_new _ _)
  have hbw:Below w.heap.size w wt:=by
    have hb1:=HB1.out
    have hb2:=hb1.alloc hb1.size (.cells (tabV 0) 161)
    rw [hwt]
    exact ⟨hb2.os,hb2.tape,hb2.output,by rw [setRow_size];exact hb2.size,fun k hk => (setRow_other _ _ _ _ (by have:=hb1.size;omega)).trans (hb2.block k hk)⟩
  rw [tabV_zero] at hwt
  rw [← hwt]
  have HT:∀ m:Nat,m < 16→wt.cell? ⟨w1.heap.size,m,none⟩=some (.int .u32 (stn 4 m:Nat)):=fun m hm => by
    have:=(cell_of_row wt w1.heap.size m _ _ _ hrow).trans (tabV_get 16 m hm)
    rwa [if_pos hm] at this
  have HT:=Lib.hid HT
  have HBW:=Lib.hid hbw
  clear hwt hrow hbw HB1
  generalize w1.heap.size=g at *
  go_loop [4,9] (fun c i => ∃ a x:Nat,a≤s.size∧x < 4294967296∧i=.int .i64 a∧c=.int .u32 x∧sumL x (s.data.toList.drop a)=sumL 4294967295 s.data.toList) (fun _ i => s.size - (intOf i).toNat)
  case atStart => exact ⟨0,4294967295,by omega,by omega,rfl,rfl,rfl⟩
  case round =>
    obtain ⟨a,x,ha,hx,rfl,rfl,e⟩:=hrel
    by_cases c:a < s.size
    · rw [take_sum s a c] at e
      have e1:=xorB x hx s[a]
      have e:sumL (stn 8 (x ^^^ s[a].toNat)) (s.data.toList.drop (a + 1))=sumL 4294967295 s.data.toList:=e
      have hy:=xor_lt hx (u8n_lt s[a])
      generalize hz:x ^^^ s[a].toNat=z at *
      rw [stn8] at e
      have hm1:=and15_lt z
      have e2:=and15 z hy
      obtain ⟨m1,hm⟩:∃ m1,z &&& 15=m1:=⟨_,rfl⟩
      have e3:=xorT z hy m1 (hm ▸ hm1) hm
      rw [hm] at e2 hm1
      have hc1:=HT.out m1 hm1
      have hy2:=stn_lt 4 hy
      generalize stn 4 z=y at *
      have hm2:=and15_lt y
      have e4:=and15 y hy2
      obtain ⟨m2,hn⟩:∃ m2,y &&& 15=m2:=⟨_,rfl⟩
      have e5:=xorT y hy2 m2 (hn ▸ hm2) hn
      rw [hn] at e4 hm2
      have hc2:=HT.out m2 hm2
      have hy3:=stn_lt 4 hy2
      generalize stn 4 y=u at *
      clear hz hm hn
      go_wp2
      go_round
      case rel => exact ⟨a + 1,u,by omega,hy3,by go_num,rfl,e⟩
      case measure => simp [intOf];omega
    · have hd:s.data.toList.drop a=[]:=List.drop_eq_nil_of_le (by simpa using Nat.le_of_not_lt c)
      rw [hd] at e
      have e:x=sumL 4294967295 s.data.toList:=e
      have e4:=notF x hx
      have hc:x ^^^ 4294967295=R:=by rw [hR,e];rfl
      rw [hc] at e4
      clear hc e hR
      go_wp2
      go_ret
      exact ⟨by rw [show wrap64 (R:Int)=R from by unfold wrap64;omega];rfl,HBW.out⟩
end Go.Proofs.YtfbmlefhjoblbaaGreat
namespace Go.Proofs.YtfbmlefhjoblbaaGreat
open Go.RowKit
set_option linter.unusedVariables false
theorem textB_back (w:World) (l:List UInt8) (C:Array Value) (hC:(byteCells l).toArray=C) (n:Nat) (hn:l.length=n) :
    (convert 50 9 (.slice (some ⟨w.heap.size,0,none⟩) n n)).run Tryz.prog (w.alloc (.cells C 5))=.ok (.string (textB l)) (w.alloc (.cells C 5)):=bytes_back w l C hC n hn
set_option maxRecDepth 100000 in
set_option maxHeartbeats 1000000 in
theorem cform_any (n:Nat) (h:n < 4294967296) (w:World):Calls Tryz.prog 82 #[.int .i64 (n:Int)] w fun e w' => e=.returned (.string (textB (fourB n)))∧Below w.heap.size w w':=by
  have b4:∀ (k:Nat) (x:Int),((k % 256:Nat):Int)=x→Value.int .u8 ((UInt8.ofNat k).toNat:Int)=.int .u8 x:=fun k x e => by rw [← e];simp
  have hcv:=textB_back w (fourB n) #[.int .u8 ((n:Int) / 16777216),.int .u8 ((n:Int) / 65536 % 256),.int .u8 ((n:Int) / 256 % 256),.int .u8 ((n:Int) % 256)]
    (congrArg List.toArray (cells_cons (b4 _ _ (by omega)) (cells_cons (b4 _ _ (by omega)) (cells_cons (b4 _ _ (by omega)) (cells_cons (b4 _ _ (by omega)) rfl))))) 4 rfl
  go_enter Tryz.func82,Tryz.ntmps82
  go_wp2
  go_ret
  exact ⟨rfl,(Below.refl _ _).alloc (Nat.le_refl _) _⟩
theorem i64_lo8 (r:Nat) (h:r < 9223372036854775808):bits .and .i64 (r:Int) 255=((r % 256:Nat):Int):=by
  show IntKind.i64.wrap ((BitVec.ofInt 64 (r:Int) &&& BitVec.ofInt 64 ((255:Nat):Int)).toNat:Int)=_
  rw [BitVec.toNat_and,ofInt_u64 _ (by omega),ofInt_u64 255 (by omega),show (255:Nat)=2 ^ 8 - 1 from rfl,Nat.and_two_pow_sub_one_eq_mod]
  exact wrap_i64_nat _ (by omega)
set_option maxRecDepth 100000 in
set_option maxHeartbeats 1000000 in
theorem rseal_any (s:ByteArray) (hs:s.size≤281474976710648) (w:World):Calls Tryz.prog 22 #[.string s] w fun e w' => e=.returned (.string (sealB s))∧Below w.heap.size w w':=by
  have T:=Lib.hid (rcrc_any s (by omega))
  have hn:=crcN_lt s.data.toList
  unfold sealB
  generalize crcN s.data.toList=n at *
  have e1:bits .and .i64 ((n:Int) / 65536) 255=((n:Int) / 65536) % 256:=i64_lo8 (n / 65536) (by omega)
  have e2:bits .and .i64 ((n:Int) / 256) 255=((n:Int) / 256) % 256:=i64_lo8 (n / 256) (by omega)
  have e3:bits .and .i64 (n:Int) 255=(n:Int) % 256:=i64_lo8 n (by omega)
  have b4:∀ (k:Nat) (x:Int),((k % 256:Nat):Int)=x→Value.int .u8 ((UInt8.ofNat k).toNat:Int)=.int .u8 x:=fun k x e => by rw [← e];simp
  have hcv:=textB_back w (fourB n) #[.int .u8 ((n:Int) / 16777216),.int .u8 ((n:Int) / 65536 % 256),.int .u8 ((n:Int) / 256 % 256),.int .u8 ((n:Int) % 256)]
    (congrArg List.toArray (cells_cons (b4 _ _ (by omega)) (cells_cons (b4 _ _ (by omega)) (cells_cons (b4 _ _ (by omega)) (cells_cons (b4 _ _ (by omega)) rfl))))) 4 rfl
  have hz:(textB (fourB n)).size=4:=rfl
  generalize textB (fourB n)=t at *
  clear b4
  go_enter Tryz.func22,Tryz.ntmps22
  go_wp2_with (go_at_call 57;refine (T.out _).mono ?_;rintro e w' ⟨rfl,rfl⟩)
  go_ret
  exact ⟨rfl,(Below.refl _ _).alloc (Nat.le_refl _) _⟩
end Go.Proofs.YtfbmlefhjoblbaaGreat
namespace Go.Proofs.YtfbmlefhjoblbaaGreat
open Go.RowKit
set_option linter.unusedVariables false
set_option maxRecDepth 100000 in
theorem cseal_any (s:ByteArray) (hs:s.size≤281474976710648) (w:World):Calls Tryz.prog 48 #[.string s] w fun e w' => e=.returned (.string (sealB s))∧Below w.heap.size w w':=by
  have T:=Lib.hid (cof_any s (by omega))
  have hn:=crcN_lt s.data.toList
  unfold sealB
  generalize crcN s.data.toList=n at *
  have T2:=Lib.hid (cform_any n hn)
  have hz:(textB (fourB n)).size=4:=rfl
  generalize textB (fourB n)=t at *
  go_enter Tryz.func48,Tryz.ntmps48
  go_wp2_with (first
    | (go_at_call 83;refine (T.out _).mono ?_;rintro e w1 ⟨rfl,hb1⟩;have HB1:=Lib.hid hb1;clear hb1)
    | (go_at_call 82;refine (T2.out _).mono ?_;rintro e w2 ⟨rfl,hb2⟩;have HB2:=Lib.hid hb2;clear hb2))
  go_ret
  exact ⟨rfl,HB1.out.trans (HB2.out.mono HB1.out.size)⟩
set_option maxRecDepth 100000 in
set_option maxHeartbeats 20000000 in
theorem copen_any (s:ByteArray) (hs:s.size≤281474976710648) (w:World):Calls Tryz.prog 59 #[.string s] w fun e w' => e=.returned (.tuple #[.string (openT s),.int .i64 (openE s)])∧Below w.heap.size w w':=by
  by_cases h4:s.size < 4
  · have e1:isSealed s=false:=by unfold isSealed;rw [decide_eq_false (by omega)];rfl
    have e2:openT s=ByteArray.empty:=by unfold openT;rw [e1];rfl
    have e3:openE s=400:=by unfold openE;rw [e1];rfl
    rw [e2,e3]
    go_enter Tryz.func59,Tryz.ntmps59
    go_wp2
    go_ret2
    exact ⟨rfl,Below.refl _ _⟩
  · have hza:(ahead s).size≤281474976710648:=by unfold ahead;rw [ByteArray.size_extract];omega
    have hb1:(0:Int)≤(s.size:Int) - 4:=by omega
    have hb2:(s.size:Int) - 4≤s.size:=by omega
    have hb3:((s.size:Int) - 4).toNat=s.size - 4:=by omega
    have hah:s.extract 0 (s.size - 4)=ahead s:=rfl
    have hbh:s.extract (s.size - 4) s.size=behind s:=rfl
    have T:=Lib.hid (cof_any (ahead s) (by omega))
    have T2:=Lib.hid (cform_any _ (crcN_lt (ahead s).data.toList))
    have T3:=Lib.hid (fun w => Tryz.stringslite_Clone (ahead s) w (by omega))
    by_cases e:behind s=textB (fourB (crcN (ahead s).data.toList))
    · have e1:isSealed s=true:=by unfold isSealed;rw [decide_eq_true e,decide_eq_true (by omega)];rfl
      have e2:openT s=ahead s:=by unfold openT;rw [e1];rfl
      have e3:openE s=0:=by unfold openE;rw [e1];rfl
      rw [e2,e3]
      clear e1 e2 e3
      go_enter Tryz.func59,Tryz.ntmps59
      go_wp2
      refine region_class (fun w' => Below w.heap.size w w') (by kernel_rfl) (by kernel_rfl) (Below.refl _ _).drew ?_
      repeat (
        refine wpQuiet_step (fun K hK => ?_)
        go_simp
        first
        | (refine hK _ ?_;clear hK K)
        | (apply Exists.intro
           refine ⟨fun w1 hw1 => ?_,hK _ ?_⟩
           (first
             | (exact rfl)
             | (go_at_call 83;exact (T.out _).mono fun e w2 ⟨he,hb⟩ => ⟨he,hw1.trans (hb.mono hw1.size)⟩)
             | (go_at_call 82;exact (T2.out _).mono fun e w2 ⟨he,hb⟩ => ⟨he,hw1.trans (hb.mono hw1.size)⟩))
           clear hK K))
      refine wpQuiet_nil ?_
      intro w3 hw3
      have HW3:=Lib.hid hw3
      clear hw3
      go_wp2_with (first
        | (go_at_call 90;go_enter Tryz.func90,Tryz.ntmps90)
        | (go_at_call 118;refine (T3.out _).mono ?_;rintro e w4 ⟨rfl,hb4⟩;have HB4:=Lib.hid hb4;clear hb4))
      go_ret2
      exact ⟨rfl,HW3.out.trans (HB4.out.mono HW3.out.size)⟩
    · have e1:isSealed s=false:=by unfold isSealed;rw [decide_eq_false e,decide_eq_true (by omega)];rfl
      have e2:openT s=ByteArray.empty:=by unfold openT;rw [e1];rfl
      have e3:openE s=400:=by unfold openE;rw [e1];rfl
      rw [e2,e3]
      have ne:=toList_ne e
      clear e1 e2 e3 e
      go_enter Tryz.func59,Tryz.ntmps59
      go_wp2
      refine region_class (fun w' => Below w.heap.size w w') (by kernel_rfl) (by kernel_rfl) (Below.refl _ _).drew ?_
      repeat (
        refine wpQuiet_step (fun K hK => ?_)
        go_simp
        first
        | (refine hK _ ?_;clear hK K)
        | (apply Exists.intro
           refine ⟨fun w1 hw1 => ?_,hK _ ?_⟩
           (first
             | (exact rfl)
             | (go_at_call 83;exact (T.out _).mono fun e w2 ⟨he,hb⟩ => ⟨he,hw1.trans (hb.mono hw1.size)⟩)
             | (go_at_call 82;exact (T2.out _).mono fun e w2 ⟨he,hb⟩ => ⟨he,hw1.trans (hb.mono hw1.size)⟩))
           clear hK K))
      refine wpQuiet_nil ?_
      intro w3 hw3
      have HW3:=Lib.hid hw3
      clear hw3
      go_wp2
      go_ret2
      exact ⟨rfl,HW3.out⟩
set_option maxRecDepth 100000 in
theorem ropen_any (s:ByteArray) (hs:s.size≤281474976710648) (w:World):Calls Tryz.prog 61 #[.string s] w fun e w' => e=.returned (.tuple #[.string (openT s),.int .i64 (openE s)])∧Below w.heap.size w w':=by
  by_cases h4:s.size < 4
  · have e1:isSealed s=false:=by unfold isSealed;rw [decide_eq_false (by omega)];rfl
    have e2:openT s=ByteArray.empty:=by unfold openT;rw [e1];rfl
    have e3:openE s=400:=by unfold openE;rw [e1];rfl
    rw [e2,e3]
    have h5:decide ((s.size:Int) < 4)=true:=by simp;omega
    go_enter Tryz.func61,Tryz.ntmps61
    go_wp2
    go_ret2
    exact ⟨rfl,Below.refl _ _⟩
  · have hza:(ahead s).size≤281474976710648:=by unfold ahead;rw [ByteArray.size_extract];omega
    have hb1:(0:Int)≤(s.size:Int) - 4:=by omega
    have hb2:(s.size:Int) - 4≤s.size:=by omega
    have hb3:((s.size:Int) - 4).toNat=s.size - 4:=by omega
    have hah:s.extract 0 (s.size - 4)=ahead s:=rfl
    have h5:decide ((s.size:Int) < 4)=false:=by simp;omega
    have T:=Lib.hid (rseal_any (ahead s) (by omega))
    have hi:=sealed_iff s (by omega)
    by_cases e:sealB (ahead s)=s
    · have e1:isSealed s=true:=hi.2 e
      have e2:openT s=ahead s:=by unfold openT;rw [e1];rfl
      have e3:openE s=0:=by unfold openE;rw [e1];rfl
      rw [e2,e3]
      have ne:=toList_same e
      clear e1 e2 e3 e hi
      go_enter Tryz.func61,Tryz.ntmps61
      go_wp2_with (first
        | (go_at_call 22;refine (T.out _).mono ?_;rintro e w4 ⟨rfl,hb4⟩;have HB4:=Lib.hid hb4;clear hb4))
      go_ret2
      exact ⟨rfl,HB4.out⟩
    · have e1:isSealed s=false:=by rw [← Bool.not_eq_true,hi];exact e
      have e2:openT s=ByteArray.empty:=by unfold openT;rw [e1];rfl
      have e3:openE s=400:=by unfold openE;rw [e1];rfl
      rw [e2,e3]
      have ne:=toList_ne e
      clear e1 e2 e3 e hi
      go_enter Tryz.func61,Tryz.ntmps61
      go_wp2_with (first
        | (go_at_call 22;refine (T.out _).mono ?_;rintro e w4 ⟨rfl,hb4⟩;have HB4:=Lib.hid hb4;clear hb4))
      go_ret2
      exact ⟨rfl,HB4.out⟩
end Go.Proofs.YtfbmlefhjoblbaaGreat
