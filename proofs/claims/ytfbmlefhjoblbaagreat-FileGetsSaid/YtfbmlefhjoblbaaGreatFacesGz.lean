/- Spaces and remarks left out: a claim is at most so large. -/
import Derived.Test.YtfbmlefhjoblbaaGreatPmathGz
import Derived.Test.YtfbmlefhjoblbaaGreatNPFileGetsGz6
import Derived.Test.YtfbmlefhjoblbaaGreatBitsGz
import Derived.Below
import Derived.Laws.Tables
import Derived.Deep.QuietTactic
import Derived.OwnWalk
namespace Go.Proofs.YtfbmlefhjoblbaaGreat
open Go.RowKit
set_option linter.unusedVariables false
def arrV (pre:List UInt8):Array Value:=(byteCells pre ++ List.replicate (10 - pre.length) (Value.int .u8 0)).toArray
theorem arrV_size {pre:List UInt8} (h:pre.length≤10):(arrV pre).size=10:=by
  simp [arrV,byteCells];omega
theorem arrV_set {pre:List UInt8} (h:pre.length < 10) (b:UInt8):(arrV pre).setIfInBounds pre.length (.int .u8 (b.toNat:Int))=arrV (pre ++ [b]):=by
  unfold arrV
  obtain ⟨k,hk⟩:∃ k,10 - pre.length=k + 1:=⟨9 - pre.length,by omega⟩
  rw [hk,show 10 - (pre ++ [b]).length=k by rw [List.length_append,List.length_singleton];omega,List.replicate_succ]
  rw [List.setIfInBounds_toArray,List.set_append_right _ _ (by simp [byteCells])]
  simp [byteCells]
theorem arrV_zero {pre:List UInt8} (h:pre.length < 10):(arrV pre)[pre.length]? = some (.int .u8 0):=by
  unfold arrV
  obtain ⟨k,hk⟩:∃ k,10 - pre.length=k + 1:=⟨9 - pre.length,by omega⟩
  rw [hk,List.getElem?_toArray,List.getElem?_append_right (by simp [byteCells])]
  simp [byteCells,List.replicate_succ]
theorem arrV_get (pre:List UInt8) (j:Nat) (h:j < pre.length):(arrV pre)[j]? = some (.int .u8 (pre[j].toNat:Int)):=by
  unfold arrV
  rw [List.getElem?_toArray,List.getElem?_append_left (by simpa [byteCells] using h)]
  simp [byteCells,h]
theorem arr_back (w:World) (g:Nat) (l:List UInt8) (C:Array Value) (ty:TypeId) (hb:w.heap[g]? = some (.cells C ty (0,0))) (hC:∀ j (h:j < l.length),C[j]? = some (.int .u8 (l[j].toNat:Int))) (n c:Nat) (hn:l.length=n) :
    (convert 50 9 (.slice (some ⟨g,0,none⟩) n c)).run Tryz.prog w=.ok (.string (textB l)) w:=by
  subst hn
  refine run_convert_bytes_back _ 50 9 5 ⟨g,0,none⟩ _ l Tryz.underlying50 Tryz.underlying5 Tryz.underlying9 (fun j hj => ?_)
  have e:(⟨g,0,none⟩:Addr).add j=⟨g,j,none⟩:=by
    unfold Addr.add
    by_cases h0:j=0
    · simp [h0]
    · simp [h0]
  rw [e,cell_of_row _ _ _ _ _ _ hb]
  exact hC j hj
theorem arrLen:Tryz.prog.arrayLen 197=10:=by kernel_rfl
set_option maxRecDepth 100000 in
theorem arr_slice (w:World) (g k:Nat) (h:k + 1≤10) :
    (Instr.sliceAt 197 (.pointer (some ⟨g,0,none⟩)) none (some (.int .i64 ((k:Int) + 1))) none).run Tryz.prog w=.ok (.slice (some ⟨g,0,none⟩) (k + 1) 10) w:=by
  have e:=run_sliceAt_array_h (P:=Tryz.prog) w 197 ⟨g,0,none⟩ Tryz.underlying197 .i64 ((k:Int) + 1) (by omega) (by rw [arrLen];omega)
  rw [e]
  simp [go_sem]
theorem low7 (m:Nat) (h:m < 18446744073709551616):bits .and .u64 (m:Int) 127=(m:Int) % 128:=by
  have:=u64_and_nat m 127 h (by omega)
  rw [show ((127:Nat):Int)=127 from rfl] at this
  rw [this,show (127:Nat)=2 ^ 7 - 1 from rfl,Nat.and_two_pow_sub_one_eq_mod]
  rfl
theorem mark7 (m:Nat):bits .or .u64 ((m:Int) % 128) 128=128 + (m:Int) % 128:=by
  have:=u64_or_nat 128 (m % 128) (by omega) (by omega)
  rw [nat_join 7 128 (m % 128) (by omega) (by omega)] at this
  have h2:=u64_or_nat (m % 128) 128 (by omega) (by omega)
  rw [Nat.or_comm,nat_join 7 128 (m % 128) (by omega) (by omega)] at h2
  exact h2
set_option maxRecDepth 100000 in
set_option maxHeartbeats 1000000 in
theorem vcut_any (n:Nat) (h:n < 18446744073709551616) (w:World):Calls Tryz.prog 142 #[.int .u64 (n:Int)] w fun e w' => e=.returned (.string (textB (vp n)))∧Below w.heap.size w w':=by
  go_enter Tryz.func142,Tryz.ntmps142
  go_wp2
  go_loopw [0,4] (fun mv kv wr => ∃ (pre:List UInt8) (f m:Nat),vp n=pre ++ vpf f m∧f + pre.length=9∧m < 2 * 128 ^ f∧m < 18446744073709551616∧mv=.int .u64 m∧kv=.int .i64 pre.length∧wr.heap[w.heap.size]? = some (.cells (arrV pre) 197 (0,0))∧Below w.heap.size w wr) (fun mv _ _ => (intOf mv).toNat)
  case atStart => exact ⟨[],9,n,rfl,rfl,by omega,h,rfl,rfl,heap_alloc_new _ _,(Below.refl _ _).alloc (Nat.le_refl _) _⟩
  case round =>
    obtain ⟨pre,f,m,he,hf,hm,hm2,rfl,rfl,hb,hbl⟩:=hrel
    have HB:=Lib.hid hb
    have HL:=Lib.hid hbl
    clear hbl
    have hsz:=arrV_size (pre:=pre) (by omega)
    have hc:=(cell_of_row wr w.heap.size pre.length _ _ _ hb).trans (arrV_zero (by omega))
    have hz:=frozen_of_row wr w.heap.size pre.length _ _ hb
    clear hb
    have hlt:(w.heap.size:Nat) < wr.heap.size:=(Array.getElem?_eq_some_iff.1 HB.out).1
    by_cases c:m < 128
    · have e3:=arr_slice (wr.setCell ⟨w.heap.size,pre.length,none⟩ (.int .u8 (m:Int))) w.heap.size pre.length (by omega)
      have e4:=u8_toNat m (by omega)
      have hv:vpf f m=[Go.Proofs.YtfbmlefhjoblbaaGreat.u8 m]:=by
        cases f with
        | zero => rfl
        | succ f => exact if_pos c
      have hb2:(wr.setCell ⟨w.heap.size,pre.length,none⟩ (.int .u8 (m:Int))).heap[w.heap.size]? = some (.cells (arrV (pre ++ [Go.Proofs.YtfbmlefhjoblbaaGreat.u8 m])) 197 (0,0)):=by
        rw [← arrV_set (by omega),e4]
        exact heap_setCell_same _ _ _ _ _ _ HB.out
      have e5:=arr_back _ _ (pre ++ [Go.Proofs.YtfbmlefhjoblbaaGreat.u8 m]) _ _ hb2 (fun j h => arrV_get _ j h) (pre.length + 1) 10 (by simp)
      clear hb2
      rw [hv] at he
      go_wp2
      go_ret
      exact ⟨by rw [he];rfl,HL.out.setCell (Nat.le_refl _) _⟩
    · have f0:f ≠ 0:=by
        intro e
        subst e
        simp at hm
        omega
      obtain ⟨f,rfl⟩:∃ j,f=j + 1:=⟨f - 1,by omega⟩
      have e1:=low7 m hm2
      have e2:=mark7 m
      have e4:=u8_toNat (128 + m % 128) (by omega)
      go_wp2
      go_roundw
      case rel =>
        refine ⟨pre ++ [Go.Proofs.YtfbmlefhjoblbaaGreat.u8 (128 + m % 128)],f,m / 128,?_,by simp;omega,?_,by omega,by congr 1,by simp,?_,HL.out.setCell (Nat.le_refl _) _⟩
        · rw [he,vpf,if_neg c,List.append_assoc];rfl
        · rw [Nat.pow_succ] at hm;omega
        · rw [← arrV_set (by omega),e4]
          exact heap_setCell_same _ _ _ _ _ _ HB.out
      case measure => simp [intOf];omega
end Go.Proofs.YtfbmlefhjoblbaaGreat
namespace Go.Proofs.YtfbmlefhjoblbaaGreat
open Go.RowKit
set_option linter.unusedVariables false
theorem get_list (s:ByteArray) (j:Nat) (h:j < s.size):s.data.toList[j]'(by rw [← size_list];exact h)=s[j]:=by
  rw [Array.getElem_toList];rfl
theorem vd_step (s:ByteArray) (j:Nat) (h:j < s.size):vval (s.data.toList.drop j)=s[j].toNat % 128 + 128 * vval (s.data.toList.drop (j + 1)):=by
  rw [vval_drop _ j (by rw [← size_list];exact h),get_list s j h]
theorem vd_end (s:ByteArray) (j:Nat) (h:s.size≤j):vval (s.data.toList.drop j)=0:=by
  rw [List.drop_of_length_le (by rw [← size_list];exact h)];rfl
theorem last_list (s:ByteArray) (k:Nat) (hk:s.size=k + 1):(s.data.toList.getD (s.data.toList.length - 1) 0).toNat=(s[k]'(by omega)).toNat:=by
  have hsl:=size_list s
  rw [List.getD_eq_getElem?_getD,show s.data.toList.length - 1=k by omega,List.getElem?_eq_getElem (by omega),get_list s k (by omega)]
  rfl
def jbad (l:List UInt8):Prop:=(1 < l.length∧(l.getD (l.length - 1) 0).toNat=0)∨18446744073709551616≤vval l
instance (l:List UInt8):Decidable (jbad l):=by unfold jbad;infer_instance
def jn (l:List UInt8):Nat × Bool:=if jbad l then (0,false) else (vval l,true)
theorem low7b (b:UInt8):bits .and .u8 (b.toNat:Int) 127=(b.toNat:Int) % 128:=by
  have:=u8_and_nat b.toNat 127 b.toNat_lt (by omega)
  rw [show ((127:Nat):Int)=127 from rfl] at this
  rw [this,show (127:Nat)=2 ^ 7 - 1 from rfl,Nat.and_two_pow_sub_one_eq_mod]
  rfl
theorem join7 (y b:Nat) (h:y < 144115188075855872):bits .or .u64 ((y:Int) * 128) ((b:Int) % 128)=(b:Int) % 128 + 128 * (y:Int):=by
  have:=u64_or_nat (y * 128) (b % 128) (by omega) (by omega)
  rw [nat_join 7 (y * 128) (b % 128) (by omega) (by omega)] at this
  rw [show (((b % 128:Nat)):Int)=(b:Int) % 128 from rfl,show ((y * 128:Nat):Int)=(y:Int) * 128 by omega] at this
  rw [this]
  omega
set_option maxRecDepth 100000 in
set_option maxHeartbeats 1000000 in
theorem vjoin_any (s:ByteArray) (h0:0 < s.size) (hs:s.size≤281474976710656) (w:World):Calls Tryz.prog 170 #[.string s] w fun e w' =>
    e=.returned (.tuple #[.int .u64 ((jn s.data.toList).1:Int),.bool (jn s.data.toList).2])∧w=w':=by
  have hsl:=size_list s
  obtain ⟨k,hk⟩:∃ k,s.size=k + 1:=⟨s.size - 1,by omega⟩
  have hlast:=last_list s k hk
  have hkk:k < s.size:=by omega
  have e0:(s.size:Int) - 1=(k:Int):=by omega
  by_cases c:0 < k∧s[k].toNat=0
  · have hj:jbad s.data.toList:=.inl ⟨by omega,by rw [hlast];exact c.2⟩
    have hr:jn s.data.toList=(0,false):=if_pos hj
    rw [hr]
    obtain ⟨c1,c2⟩:=c
    clear hj hlast hsl
    have c3:(0:Int) < k:=by omega
    go_enter Tryz.func170,Tryz.ntmps170
    go_wp2
    go_ret2
    exact ⟨rfl,rfl⟩
  · have hj:jbad s.data.toList ↔ 18446744073709551616≤vval s.data.toList:=by
      unfold jbad
      rw [hlast,← hsl]
      constructor
      · rintro (⟨h1,h2⟩ | h2)
        · exact absurd ⟨by omega,h2⟩ c
        · exact h2
      · exact .inr
    have HJ:=Lib.hid hj
    clear hj hlast hsl
    by_cases c4:0 < k
    · have c5:¬ s[k].toNat=0:=fun x => c ⟨c4,x⟩
      have c3:(0:Int) < k:=by omega
      have c6:((s[k].toNat:Int) == 0)=false:=by rw [beq_eq_false_iff_ne];omega
      clear c
      go_enter Tryz.func170,Tryz.ntmps170
      go_wp2
      go_loop [5,6] (fun yv iv => ∃ j v:Nat,j≤s.size∧v < 18446744073709551616∧iv=.int .i64 ((j:Int) - 1)∧yv=.int .u64 v∧v=vval (s.data.toList.drop j)) (fun _ iv => (intOf iv + 1).toNat)
      case atStart => exact ⟨s.size,0,by omega,by omega,by congr 1;omega,rfl,(vd_end s _ (Nat.le_refl _)).symm⟩
      case round =>
        obtain ⟨j,v,hj,hv,rfl,rfl,e⟩:=hrel
        by_cases cj:j=0
        · subst cj
          have hnb:¬ jbad s.data.toList:=by
            rw [HJ.out]
            have e:v=vval s.data.toList:=e
            omega
          have e:v=vval s.data.toList:=e
          have hr:jn s.data.toList=(v,true):=by rw [e];exact if_neg hnb
          clear hnb e
          go_wp2
          go_ret2
          exact ⟨rfl,rfl⟩
        · obtain ⟨j,rfl⟩:∃ m,j=m + 1:=⟨j - 1,by omega⟩
          have ej:(((j + 1:Nat):Int)) - 1=(j:Int):=by omega
          rw [ej]
          have hjs:j < s.size:=by omega
          have ed:=vd_step s j hjs
          rw [← e] at ed
          by_cases cv:v < 144115188075855872
          · have e1:=low7b s[j]
            have e2:=join7 v s[j].toNat cv
            clear e
            go_wp2
            go_round
            case rel => exact ⟨j,s[j].toNat % 128 + 128 * v,by omega,by omega,rfl,rfl,ed.symm⟩
            case measure => simp [intOf]
          · have hb:jbad s.data.toList:=by
              rw [HJ.out]
              have:=vval_drop_le s.data.toList j
              omega
            have hr:jn s.data.toList=(0,false):=if_pos hb
            clear hb e ed
            have cv2:0 < v / 144115188075855872:=by omega
            go_wp2
            go_ret2
            exact ⟨rfl,rfl⟩
    · obtain rfl:k=0:=by omega
      clear c c4
      go_enter Tryz.func170,Tryz.ntmps170
      go_wp2
      go_loop [5,6] (fun yv iv => ∃ j v:Nat,j≤s.size∧v < 18446744073709551616∧iv=.int .i64 ((j:Int) - 1)∧yv=.int .u64 v∧v=vval (s.data.toList.drop j)) (fun _ iv => (intOf iv + 1).toNat)
      case atStart => exact ⟨s.size,0,by omega,by omega,by congr 1;omega,rfl,(vd_end s _ (Nat.le_refl _)).symm⟩
      case round =>
        obtain ⟨j,v,hj,hv,rfl,rfl,e⟩:=hrel
        by_cases cj:j=0
        · subst cj
          have hnb:¬ jbad s.data.toList:=by
            rw [HJ.out]
            have e:v=vval s.data.toList:=e
            omega
          have e:v=vval s.data.toList:=e
          have hr:jn s.data.toList=(v,true):=by rw [e];exact if_neg hnb
          clear hnb e
          go_wp2
          go_ret2
          exact ⟨rfl,rfl⟩
        · obtain ⟨j,rfl⟩:∃ m,j=m + 1:=⟨j - 1,by omega⟩
          have ej:(((j + 1:Nat):Int)) - 1=(j:Int):=by omega
          rw [ej]
          have hjs:j < s.size:=by omega
          have ed:=vd_step s j hjs
          rw [← e] at ed
          by_cases cv:v < 144115188075855872
          · have e1:=low7b s[j]
            have e2:=join7 v s[j].toNat cv
            clear e
            go_wp2
            go_round
            case rel => exact ⟨j,s[j].toNat % 128 + 128 * v,by omega,by omega,rfl,rfl,ed.symm⟩
            case measure => simp [intOf]
          · have hb:jbad s.data.toList:=by
              rw [HJ.out]
              have:=vval_drop_le s.data.toList j
              omega
            have hr:jn s.data.toList=(0,false):=if_pos hb
            clear hb e ed
            have cv2:0 < v / 144115188075855872:=by omega
            go_wp2
            go_ret2
            exact ⟨rfl,rfl⟩
end Go.Proofs.YtfbmlefhjoblbaaGreat
namespace Go.Proofs.YtfbmlefhjoblbaaGreat
open Go.RowKit
set_option linter.unusedVariables false
theorem drop_get (s:ByteArray) (k i:Nat) (h:k + i < s.size):(s.data.toList.drop k)[i]'(by rw [List.length_drop,← size_list];omega)=s[k + i]:=by
  rw [List.getElem_drop,get_list s (k + i) h]
theorem drop_len (s:ByteArray) (k:Nat):(s.data.toList.drop k).length=s.size - k:=by rw [List.length_drop,← size_list]
theorem run_span (s:ByteArray) (k p:Nat) (hk:k≤p) (hp:p < s.size) (lo:s[p].toNat < 128) (hi:∀ i (h:i < p),k≤i→128≤(s[i]'(by omega)).toNat):run (s.data.toList.drop k)=p - k:=by
  refine run_is _ _ (by rw [drop_len];omega) ?_ ?_
  · rw [drop_get s k (p - k) (by omega)]
    have e:k + (p - k)=p:=by omega
    simp only [e]
    exact lo
  · intro i h
    rw [drop_get s k i (by omega)]
    exact hi (k + i) (by omega) (by omega)
theorem run_none (s:ByteArray) (k:Nat) (hk:k≤s.size) (hi:∀ i (h:i < s.size),k≤i→128≤s[i].toNat):run (s.data.toList.drop k)=(s.data.toList.drop k).length:=by
  apply run_all
  intro i h
  rw [drop_len] at h
  rw [drop_get s k i (by omega)]
  exact hi (k + i) (by omega) (by omega)
theorem jbad_seg {d:List UInt8} (h:run d < d.length):jbad (seg d) ↔ bad d:=by
  have e:((seg d).getD (run d) 0).toNat=top d:=by
    unfold seg top
    rw [List.getD_eq_getElem?_getD,List.getD_eq_getElem?_getD,List.getElem?_take_of_lt (by omega)]
  unfold jbad bad
  rw [seg_length h,Nat.add_sub_cancel,e]
  constructor
  · rintro (⟨h1,h2⟩ | h2)
    · exact .inl ⟨by omega,h2⟩
    · exact .inr h2
  · rintro (⟨h1,h2⟩ | h2)
    · exact .inl ⟨by omega,h2⟩
    · exact .inr h2
theorem extract_list (s:ByteArray) (k q:Nat):(s.extract k q).data.toList=(s.data.toList.drop k).take (q - k):=by
  rw [ByteArray.data_extract,Array.toList_extract]
theorem jn_read (s:ByteArray) (k p:Nat) (hk:k≤p) (hp:p < s.size) (hr:run (s.data.toList.drop k)=p - k) :
    (jn (s.extract k (p + 1)).data.toList=(0,false)∧readN s.data.toList k=(0,0,501)) ∨
    (∃ v,v < 18446744073709551616∧jn (s.extract k (p + 1)).data.toList=(v,true)∧readN s.data.toList k=(v,(p:Int) + 1,0)):=by
  have hl:run (s.data.toList.drop k) < (s.data.toList.drop k).length:=by rw [hr,drop_len];omega
  have hs:(s.extract k (p + 1)).data.toList=seg (s.data.toList.drop k):=by
    rw [extract_list]
    unfold seg
    rw [hr,show p - k + 1=p + 1 - k by omega]
  rw [hs]
  have hj:=jbad_seg hl
  have hk2:k≤s.data.toList.length:=by rw [← size_list];omega
  by_cases c:bad (s.data.toList.drop k)
  · exact .inl ⟨if_pos (hj.2 c),readN_bad hk2 hl c⟩
  · refine .inr ⟨vval (seg (s.data.toList.drop k)),?_,if_neg (fun x => c (hj.1 x)),?_⟩
    · unfold bad at c;omega
    · rw [readN_yes hk2 hl c,hr]
      refine Prod.ext rfl (Prod.ext ?_ rfl)
      show (k:Int) + ((p - k:Nat):Int) + 1=(p:Int) + 1
      omega
set_option maxRecDepth 100000 in
set_option maxHeartbeats 1000000 in
theorem vread_any (s:ByteArray) (hs:s.size≤281474976710648) (a:Int) (w:World):Calls Tryz.prog 158 #[.string s,.int .i64 a] w fun e w' =>
    e=.returned (.tuple #[.int .u64 ((readN s.data.toList a).1:Int),.int .i64 (readN s.data.toList a).2.1,.int .i64 (readN s.data.toList a).2.2])∧w=w':=by
  by_cases c0:a < 0
  · have hr:readN s.data.toList a=(0,0,500):=readN_out (.inl c0)
    rw [hr]
    clear hr
    go_enter Tryz.func158,Tryz.ntmps158
    go_wp2
    go_ret3
    exact ⟨rfl,rfl⟩
  by_cases c1:(s.size:Int) < a
  · have hr:readN s.data.toList a=(0,0,500):=readN_out (.inr (by rw [← size_list];exact c1))
    rw [hr]
    clear hr
    go_enter Tryz.func158,Tryz.ntmps158
    go_wp2
    go_ret3
    exact ⟨rfl,rfl⟩
  obtain ⟨k,rfl⟩:∃ k:Nat,a=k:=⟨a.toNat,by omega⟩
  have hk:k≤s.size:=by omega
  clear c0 c1
  go_enter Tryz.func158,Tryz.ntmps158
  go_wp2
  go_loop [7] (fun pv => ∃ p:Nat,k≤p∧p≤s.size∧pv=.int .i64 p∧Hid (∀ i (h:i < p) (h2:i < s.size),k≤i→128≤s[i].toNat)) (fun pv => s.size - (intOf pv).toNat)
  case atStart => exact ⟨k,Nat.le_refl _,hk,rfl,fun i h _ h2 => by omega⟩
  case round =>
    obtain ⟨p,hkp,hp,rfl,hall⟩:=hrel
    by_cases c:p < s.size
    · by_cases cb:s[p].toNat < 128
      · have hr:=run_span s k p hkp c cb (fun i h h2 => hall.out i h (by omega) h2)
        have hb2:(k:Int)≤(p:Int) + 1:=by omega
        have hb3:(p:Int) + 1≤s.size:=by omega
        have hb4:((p:Int) + 1).toNat=p + 1:=by omega
        have hz:(s.extract k (p + 1)).size=p + 1 - k:=by rw [ByteArray.size_extract];omega
        have T:=Lib.hid (vjoin_any (s.extract k (p + 1)) (by omega) (by omega))
        rcases jn_read s k p hkp c hr with ⟨h1,h2⟩ | ⟨v,hv,h1,h2⟩
        · rw [h1] at T
          clear h1 hr hall
          go_wp2_with (go_at_call 170;refine (T.out _).mono ?_;rintro e w' ⟨rfl,rfl⟩)
          go_ret3
          exact ⟨by rw [h2];rfl,rfl⟩
        · rw [h1] at T
          clear h1 hr hall
          go_wp2_with (go_at_call 170;refine (T.out _).mono ?_;rintro e w' ⟨rfl,rfl⟩)
          go_ret3
          exact ⟨by rw [h2];rfl,rfl⟩
      · have hall2:Hid (∀ i (h:i < p + 1) (h2:i < s.size),k≤i→128≤s[i].toNat):=fun i h h2 h3 => by
          by_cases ci:i=p
          · subst ci;omega
          · exact hall.out i (by omega) h2 h3
        clear hall
        go_wp2
        go_round
        case rel => exact ⟨p + 1,by omega,by omega,by go_num,hall2⟩
        case measure => simp [intOf];omega
    · obtain rfl:p=s.size:=by omega
      have hr:=readN_cut (l:=s.data.toList) (k:=k) (run_none s k hk (fun i h h2 => hall.out i h h h2))
      clear hall
      go_wp2
      go_ret3
      exact ⟨rfl,rfl⟩
end Go.Proofs.YtfbmlefhjoblbaaGreat
namespace Go.Proofs.YtfbmlefhjoblbaaGreat
open Go.RowKit
set_option linter.unusedVariables false
set_option maxRecDepth 100000 in
theorem vput_yes (n:Nat) (h:n < 9223372036854775808) (w:World):Calls Tryz.prog 113 #[.int .i64 (n:Int)] w fun e w' => e=.returned (.tuple #[.string (textB (vp n)),.int .i64 0])∧Below w.heap.size w w':=by
  have T:=Lib.hid (vcut_any n (by omega))
  go_enter Tryz.func113,Tryz.ntmps113
  go_wp2_with (go_at_call 142;refine (T.out _).mono ?_;rintro e w' ⟨rfl,hb⟩;have HB:=Lib.hid hb;clear hb)
  go_ret2
  exact ⟨rfl,HB.out⟩
theorem not64 (m:Nat) (h:m < 18446744073709551616):bits .xor .u64 IntKind.u64.max (m:Int)=18446744073709551615 - (m:Int):=by
  show IntKind.u64.wrap ((BitVec.ofInt 64 IntKind.u64.max ^^^ BitVec.ofInt 64 (m:Int)).toNat:Int)=_
  have h1:BitVec.ofInt 64 IntKind.u64.max=BitVec.allOnes 64:=by decide
  rw [h1,BitVec.allOnes_xor,BitVec.toNat_not,ofInt_u64 m h,IntKind.wrap_u64]
  omega
theorem twice (x:Int):IntKind.u64.wrap (IntKind.u64.wrap x * 2)=(x * 2) % 18446744073709551616:=by
  rw [IntKind.wrap_u64,IntKind.wrap_u64];omega
def getA (r:Nat × Int × Int):Int × Int × Int:=if r.2.2=0 then (if 9223372036854775807 < r.1 then (0,0,501) else ((r.1:Int),r.2.1,0)) else (0,0,r.2.2)
def zagA (r:Nat × Int × Int):Int × Int × Int:=if r.2.2=0 then (unzz r.1,r.2.1,0) else (0,0,r.2.2)
theorem readN_E (l:List UInt8) (a:Int):(readN l a).2.2=0∨(readN l a).2.2=500∨(readN l a).2.2=501:=by
  unfold readN
  split
  · simp
  split
  · simp
  split
  · simp
  · simp
set_option maxRecDepth 100000 in
theorem vget_any (s:ByteArray) (hs:s.size≤281474976710648) (a:Int) (w:World):Calls Tryz.prog 133 #[.string s,.int .i64 a] w fun e w' =>
    e=.returned (.tuple #[.int .i64 (getA (readN s.data.toList a)).1,.int .i64 (getA (readN s.data.toList a)).2.1,.int .i64 (getA (readN s.data.toList a)).2.2])∧w=w':=by
  have T:=Lib.hid (vread_any s hs a)
  have hlt:=readN_lt s.data.toList a
  have hE:=readN_E s.data.toList a
  generalize readN s.data.toList a=r at *
  obtain ⟨N,P,E⟩:=r
  have hlt:N < 18446744073709551616:=hlt
  have T:Hid (∀ w:World,Calls Tryz.prog 158 #[.string s,.int .i64 a] w fun e w' => e=.returned (.tuple #[.int .u64 (N:Int),.int .i64 P,.int .i64 E])∧w=w'):=T
  rcases hE with (rfl:E=0) | (rfl:E=500) | (rfl:E=501)
  · by_cases c:9223372036854775807 < N
    · have hr:getA (N,P,0)=(0,0,501):=by unfold getA;rw [if_pos rfl,if_pos c]
      rw [hr]
      clear hr
      go_enter Tryz.func133,Tryz.ntmps133
      go_wp2_with (go_at_call 158;refine (T.out _).mono ?_;rintro e w' ⟨rfl,rfl⟩)
      go_ret3
      exact ⟨rfl,rfl⟩
    · have hr:getA (N,P,0)=((N:Int),P,0):=by unfold getA;rw [if_pos rfl,if_neg c]
      rw [hr]
      clear hr
      go_enter Tryz.func133,Tryz.ntmps133
      go_wp2_with (go_at_call 158;refine (T.out _).mono ?_;rintro e w' ⟨rfl,rfl⟩)
      go_ret3
      exact ⟨rfl,rfl⟩
  · go_enter Tryz.func133,Tryz.ntmps133
    go_wp2_with (go_at_call 158;refine (T.out _).mono ?_;rintro e w' ⟨rfl,rfl⟩)
    go_ret3
    exact ⟨rfl,rfl⟩
  · go_enter Tryz.func133,Tryz.ntmps133
    go_wp2_with (go_at_call 158;refine (T.out _).mono ?_;rintro e w' ⟨rfl,rfl⟩)
    go_ret3
    exact ⟨rfl,rfl⟩
set_option maxRecDepth 100000 in
theorem vzig_any (x:Int) (h0:-9223372036854775808≤x) (h1:x < 9223372036854775808) (w:World):Calls Tryz.prog 159 #[.int .i64 x] w fun e w' => e=.returned (.string (textB (vp (zz x))))∧Below w.heap.size w w':=by
  have T:=Lib.hid (vcut_any (zz x) (zz_lt h0 (by omega)))
  by_cases c:x < 0
  · have e:((zz x:Nat):Int) = -2 * x - 1:=by unfold zz;rw [if_pos c];omega
    generalize zz x=z at *
    have e2:bits .xor .u64 IntKind.u64.max (IntKind.u64.wrap (IntKind.u64.wrap x * 2))=(z:Int):=by
      rw [twice]
      obtain ⟨m,hm⟩:∃ m:Nat,(x * 2) % 18446744073709551616=m:=⟨((x * 2) % 18446744073709551616).toNat,by omega⟩
      rw [hm,not64 m (by omega)]
      omega
    go_enter Tryz.func159,Tryz.ntmps159
    go_wp2_with (go_at_call 142;rw [if_neg (show ¬ IntKind.u64.signed=true by decide),e2];refine (T.out _).mono ?_;rintro e w' ⟨rfl,hb⟩;have HB:=Lib.hid hb;clear hb)
    go_ret
    exact ⟨rfl,HB.out⟩
  · have e:((zz x:Nat):Int)=2 * x:=by unfold zz;rw [if_neg c];omega
    generalize zz x=z at *
    have e3:x * 2=(z:Int):=by omega
    clear e
    go_enter Tryz.func159,Tryz.ntmps159
    go_wp2_with (go_at_call 142;refine (T.out _).mono ?_;rintro e w' ⟨rfl,hb⟩;have HB:=Lib.hid hb;clear hb)
    go_ret
    exact ⟨rfl,HB.out⟩
set_option maxRecDepth 100000 in
theorem vzag_any (s:ByteArray) (hs:s.size≤281474976710648) (a:Int) (w:World):Calls Tryz.prog 174 #[.string s,.int .i64 a] w fun e w' =>
    e=.returned (.tuple #[.int .i64 (zagA (readN s.data.toList a)).1,.int .i64 (zagA (readN s.data.toList a)).2.1,.int .i64 (zagA (readN s.data.toList a)).2.2])∧w=w':=by
  have T:=Lib.hid (vread_any s hs a)
  have hlt:=readN_lt s.data.toList a
  have hE:=readN_E s.data.toList a
  generalize readN s.data.toList a=r at *
  obtain ⟨N,P,E⟩:=r
  have hlt:N < 18446744073709551616:=hlt
  have T:Hid (∀ w:World,Calls Tryz.prog 158 #[.string s,.int .i64 a] w fun e w' => e=.returned (.tuple #[.int .u64 (N:Int),.int .i64 P,.int .i64 E])∧w=w'):=T
  have e1:bits .and .u64 (N:Int) 1=(N:Int) % 2:=by
    have:=u64_and_nat N 1 hlt (by omega)
    rw [show ((1:Nat):Int)=1 from rfl] at this
    rw [this,Nat.and_one_is_mod]
    rfl
  rcases hE with (rfl:E=0) | (rfl:E=500) | (rfl:E=501)
  · by_cases c:N % 2=1
    · have hr:zagA (N,P,0)=(-((N / 2:Nat):Int) - 1,P,0):=by unfold zagA unzz;rw [if_pos rfl,if_pos c]
      rw [hr]
      clear hr
      rw [show (N:Int) % 2=1 by omega] at e1
      have e2:bits .xor .u64 IntKind.u64.max ((N:Int) / 2)=18446744073709551615 - ((N:Int) / 2):=not64 (N / 2) (by omega)
      have e3:wrap64 (18446744073709551615 - ((N:Int) / 2)) = -((N:Int) / 2) - 1:=by unfold wrap64;omega
      go_enter Tryz.func174,Tryz.ntmps174
      go_wp2_with (go_at_call 158;refine (T.out _).mono ?_;rintro e w' ⟨rfl,rfl⟩)
      go_ret3
      exact ⟨rfl,rfl⟩
    · have hr:zagA (N,P,0)=(((N / 2:Nat):Int),P,0):=by unfold zagA unzz;rw [if_pos rfl,if_neg c]
      rw [hr]
      clear hr
      rw [show (N:Int) % 2=0 by omega] at e1
      go_enter Tryz.func174,Tryz.ntmps174
      go_wp2_with (go_at_call 158;refine (T.out _).mono ?_;rintro e w' ⟨rfl,rfl⟩)
      go_ret3
      exact ⟨rfl,rfl⟩
  · clear e1
    go_enter Tryz.func174,Tryz.ntmps174
    go_wp2_with (go_at_call 158;refine (T.out _).mono ?_;rintro e w' ⟨rfl,rfl⟩)
    go_ret3
    exact ⟨rfl,rfl⟩
  · clear e1
    go_enter Tryz.func174,Tryz.ntmps174
    go_wp2_with (go_at_call 158;refine (T.out _).mono ?_;rintro e w' ⟨rfl,rfl⟩)
    go_ret3
    exact ⟨rfl,rfl⟩
end Go.Proofs.YtfbmlefhjoblbaaGreat
