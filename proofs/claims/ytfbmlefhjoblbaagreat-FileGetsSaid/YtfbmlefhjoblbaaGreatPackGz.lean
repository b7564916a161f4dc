/- Spaces and remarks left out: a claim is at most so large. -/
import Derived.Test.YtfbmlefhjoblbaaGreatNPFileGetsGz2
import Derived.Laws.MakeOwn
import Derived.Deep.LoopGhost
import Derived.Deep.Cut
namespace Go.Proofs.YtfbmlefhjoblbaaGreat
open Go.Conc Go.RowKit
set_option linter.unusedVariables false
set_option maxRecDepth 100000 in
theorem kfit_any (w:World) (a:Option Addr) (cap k:Nat) (hk:k≤16) (xs:List Int) (ha:IsL w a xs) (hx:xs.length≤maxLen) (hb:∀ x ∈ xs,x < 9223372036854775808) :
    Calls Tryz.prog 144 #[.slice a xs.length cap,.int .i64 k] w fun e w' => e=.returned (.bool (decide (fits k xs)))∧w=w':=by
  unfold maxLen at hx
  obtain ⟨R,hR⟩:∃ R,R=decide (fits k xs):=⟨_,rfl⟩
  rw [← hR]
  have HR:=Lib.hid hR
  have HB:=Lib.hid hb
  clear hR hb
  go_enter Tryz.func144,Tryz.ntmps144
  go_wp2
  go_loop [9] (fun iv => ∃ n:Nat,n≤xs.length∧iv=.int .i64 n∧Hid (fits k (xs.take n))) (fun iv => xs.length - (intOf iv).toNat)
  case atStart => exact ⟨0,Nat.zero_le _,rfl,fits_nil k⟩
  case round =>
    obtain ⟨n,hle,rfl,HF⟩:=hrel
    by_cases c:n < xs.length
    · rcases ha with h | ⟨b,off,rfl,h⟩
      · subst h;simp at c
      have h1:=h n c
      have hm:xs[n] ∈ xs:=List.getElem_mem c
      have HM:=Lib.hid hm
      have hxb:=HB.out _ hm
      have hx2:xs.take (n + 1)=xs.take n ++ [xs[n]]:=(List.take_append_getElem c).symm
      have HX2:=Lib.hid hx2
      have T:=Lib.hid (kwidth_any xs[n] hxb w)
      clear hx2 h hm
      generalize xs[n]=x at *
      by_cases c0:x < 0
      · have hf:R=false:=by rw [HR.out,decide_eq_false (not_fits HM.out (.inl c0))]
        subst hf
        go_wp2
        go_ret
        exact ⟨rfl,rfl⟩
      · generalize hz:wid x.toNat=z at *
        have HZ:=Lib.hid hz
        clear hz
        by_cases c1:z≤k
        · have d1:decide ((k:Int) < (z:Int))=false:=decide_eq_false (by omega)
          go_wp2_with (go_at_call 165;refine T.out.mono ?_;rintro e w' ⟨rfl,rfl⟩)
          go_round
          case rel => exact ⟨n + 1,by omega,by go_num,Lib.hid (by rw [HX2.out];exact fits_snoc HF.out (by omega) (by rw [HZ.out];exact c1))⟩
          case measure => simp [intOf];omega
        · have hf:R=false:=by rw [HR.out,decide_eq_false (not_fits HM.out (.inr (by rw [HZ.out];exact c1)))]
          subst hf
          have d1:(k:Int) < (z:Int):=by omega
          go_wp2_with (go_at_call 165;refine T.out.mono ?_;rintro e w' ⟨rfl,rfl⟩)
          go_ret
          exact ⟨rfl,rfl⟩
    · obtain rfl:n=xs.length:=by omega
      have ht:R=true:=by
        have h1:=HF.out
        rw [List.take_length] at h1
        rw [HR.out,decide_eq_true h1]
      subst ht
      clear c
      go_wp2
      go_ret
      exact ⟨rfl,rfl⟩
end Go.Proofs.YtfbmlefhjoblbaaGreat
namespace Go.Proofs.YtfbmlefhjoblbaaGreat
open Go.Conc Go.RowKit
set_option linter.unusedVariables false
theorem SbAt.frm {B b g:Nat} {l:List UInt8} {w w':World} {cs:Array Value} {T:TypeId} {fz:Nat × Nat} (h:SbAt B b l w) (hg:w.heap[g]? = some (.cells cs T fz)) (hT:T ≠ 5) (hb:b ≠ g) (hf:Frm (fun k => k=g) w w'):SbAt B b l w':=by
  have key:∀ p,Lib.BuilderAt 123 5 B b p (byteCells l) w→Lib.BuilderAt 123 5 B b p (byteCells l) w':=by
    rintro p ⟨hB,v,hbk,hown,hne⟩
    refine ⟨hB,v,(hf.block b (Array.getElem?_eq_some_iff.1 hbk).1 hb).trans hbk,?_,hne⟩
    refine hown.kept (row:=some g) ⟨hf.os,hf.tape,hf.output,hf.size,fun k hk hn => hf.block k hk (fun e => hn (by rw [e]))⟩ (.inr ?_)
    exact Lib.ownBlock_ne hown hg hT
  exact h.elim (fun x => .inl (key _ x)) (fun x => .inr (key _ x))
theorem SbAt.alloc {B b:Nat} {l:List UInt8} {w:World} (h:SbAt B b l w) (o:Obj):SbAt B b l (w.alloc o):=by
  have key:∀ p,Lib.BuilderAt 123 5 B b p (byteCells l) w→Lib.BuilderAt 123 5 B b p (byteCells l) (w.alloc o):=by
    rintro p ⟨hB,v,hbk,hown,hne⟩
    exact ⟨hB,v,(Below.heap_alloc _ _ _ (Array.getElem?_eq_some_iff.1 hbk).1).trans hbk,own_same hown fun g _ hg => Below.heap_alloc _ _ _ hg,hne⟩
  exact h.elim (fun x => .inl (key _ x)) (fun x => .inr (key _ x))
theorem WinAt.kept {w w':World} {b g B m:Nat} (h:WinAt w g B m) (hk:SbKept b w w') (hb:g ≠ b):WinAt w' g B m :=
  hk g _ h (by simpa using hb) (fun c fz e => by injection e with _ e2 _;exact absurd e2 (by decide))
theorem below_frm {B g:Nat} {a w w':World} (h:Below B a w) (hg:B≤g) (ha:B≤a.heap.size) (hf:Frm (fun k => k=g) w w'):Below B a w' :=
  ⟨hf.os.trans h.os,hf.tape.trans h.tape,hf.output.trans h.output,Nat.le_trans h.size hf.size,fun k hk => (hf.block k (by have:=h.size;omega) (by omega)).trans (h.block k hk)⟩
end Go.Proofs.YtfbmlefhjoblbaaGreat
namespace Go.Proofs.YtfbmlefhjoblbaaGreat
open Go.Conc Go.RowKit
set_option linter.unusedVariables false
def rowI (f:Nat→Int) (n i:Nat):Array Value:=((List.range n).map fun j => Value.int .i64 (if j < i then f j else 0)).toArray
theorem rowI_size (f:Nat→Int) (n i:Nat):(rowI f n i).size=n:=by simp [rowI]
theorem rowI_get (f:Nat→Int) (n i j:Nat) (h:j < n):(rowI f n i)[j]? = some (.int .i64 (if j < i then f j else 0)):=by simp [rowI,h]
theorem rowI_none (f:Nat→Int) (n i j:Nat) (h:¬ j < n):(rowI f n i)[j]? = none:=by simp [rowI,h]
theorem rowI_step (f:Nat→Int) (n i:Nat) (h:i < n):(rowI f n i).setIfInBounds i (.int .i64 (f i))=rowI f n (i + 1):=by
  apply Array.ext_getElem?
  intro j
  rw [Array.getElem?_setIfInBounds]
  by_cases hj:j < n
  · rw [rowI_get f n (i + 1) j hj,rowI_size]
    by_cases e:i=j
    · subst e
      rw [if_pos rfl,if_pos h,if_pos (by omega)]
    · rw [if_neg e,rowI_get f n i j hj]
      by_cases hk:j < i
      · rw [if_pos hk,if_pos (by omega)]
      · rw [if_neg hk,if_neg (by omega)]
  · rw [if_neg (by omega),rowI_none f n i j hj,rowI_none f n (i + 1) j hj]
theorem rowI_made (f:Nat→Int) (n:Nat):madeCells (Value.int .i64 0).cells n=rowI f n 0:=by
  apply Array.ext_getElem?
  intro j
  by_cases hj:j < n
  · rw [rowI_get f n 0 j hj,if_neg (by omega)]
    simp [madeCells,hj,Value.cells,Nat.mod_one]
  · rw [rowI_none f n 0 j hj]
    simp [madeCells,hj]
theorem rowI_full (f:Nat→Int) (n:Nat):(rowI f n n).toList=intCells ((List.range n).map f):=by
  simp only [rowI,intCells,List.map_map]
  apply List.map_congr_left
  intro j hj
  rw [List.mem_range] at hj
  simp [hj]
theorem own_row {w:World} {base g n:Nat} {f:Nat→Int} {ys:List Int} (h:w.heap[g]? = some (.cells (rowI f n n) 3 (0,0))) (hb:base≤g) (hn:n≤maxLen) (hy:ys=(List.range n).map f):OwnI base w (some ⟨g,0,none⟩) n ys:=by
  subst hy
  have hl:((List.range n).map f).length=n:=by simp
  refine ⟨by rw [intCells_length,Nat.mul_one],.inr ⟨g,n,_,rfl,hb,h,by rw [hl];exact Nat.le_refl _,hn,by rw [rowI_size,Nat.mul_one],?_⟩⟩
  rw [rowI_full,hl,Nat.mul_one,List.take_of_length_le (by rw [intCells_length,hl];exact Nat.le_refl _)]
end Go.Proofs.YtfbmlefhjoblbaaGreat
namespace Go.Proofs.YtfbmlefhjoblbaaGreat
open Go.Conc Go.RowKit
set_option linter.unusedVariables false
structure Way (B b g S c m N:Nat) (w0 w:World):Prop where
  sb:SbAt B b (bytesN c S) w
  win:WinAt w g (S / 256 ^ c) m
  sum:m + 8 * c=N
  bel:Below B w0 w
  big:B≤w0.heap.size
  bg:B≤g
  ne:b ≠ g
theorem Way.size {B b g S c m N:Nat} {w0 w:World} (h:Way B b g S c m N w0 w):B≤w.heap.size:=Nat.le_trans h.big h.bel.size
theorem Way.filled {B b g S c m N:Nat} {w0 w w':World} (h:Way B b g S c m N w0 w) (y k:Nat) (hw:WinAt w' g (S / 256 ^ c + 2 ^ m * y) (m + k)) (hf:Frm (fun k => k=g) w w') (hs:bytesN c (S + 2 ^ N * y)=bytesN c S):Way B b g (S + 2 ^ N * y) c (m + k) (N + k) w0 w':=by
  refine ⟨?_,?_,by have:=h.sum;omega,below_frm h.bel h.bg h.big hf,h.big,h.bg,h.ne⟩
  · rw [hs];exact h.sb.frm h.win (by decide) h.ne hf
  · rw [win_fill S y c m N h.sum];exact hw
theorem bytes_low:∀ (c N S y:Nat),8 * c≤N→bytesN c (S + 2 ^ N * y)=bytesN c S
  | 0,N,S,y,h => rfl
  | c + 1,N,S,y,h => by
    obtain ⟨M,rfl⟩:∃ M,N=M + 8:=⟨N - 8,by omega⟩
    have e:S + 2 ^ (M + 8) * y=S + 256 * (2 ^ M * y):=by rw [Nat.pow_add];rw [Nat.mul_comm (2 ^ M),Nat.mul_assoc]
    rw [bytesN,bytesN,e,Nat.add_mul_mod_self_left,Nat.add_mul_div_left _ _ (by omega),bytes_low c M (S / 256) y (by omega)]
theorem Way.emptied {B b g S c m N:Nat} {w0 w w' w'':World} (h:Way B b g S c m N w0 w) (h8:8≤m) (hw:WinAt w' g (S / 256 ^ c / 2 ^ 8) (m - 8)) (hs:SbAt B b (bytesN c S ++ [u8 (S / 256 ^ c % 2 ^ 8)]) w'') (hf:Frm (fun k => k=g) w w') (hb:Below B w' w'') (hk:SbKept b w' w''):Way B b g S (c + 1) (m - 8) N w0 w'':=by
  refine ⟨by rw [← bytes_more];exact hs,?_,by have:=h.sum;omega,(below_frm h.bel h.bg h.big hf).trans hb,h.big,h.bg,h.ne⟩
  rw [← win_empty]
  exact hw.kept hk (fun e => h.ne e.symm)
set_option maxRecDepth 100000 in
set_option maxHeartbeats 4000000 in
theorem kpack_any (w:World) (a:Option Addr) (cap:Nat) (z:Int) (xs:List Int) (ha:IsL w a xs) (hx:xs.length≤17592186044416) (hb:∀ x ∈ xs,x < 9223372036854775808) :
    Calls Tryz.prog 114 #[.slice a xs.length cap,.int .i64 z] w fun e w' => e=.returned (.tuple #[.string (packA xs z).1,.int .i64 (packA xs z).2])∧Below w.heap.size w w':=by
  by_cases cz:0≤z∧z≤16
  · obtain ⟨k,rfl⟩:∃ k:Nat,z=k:=⟨z.toNat,by omega⟩
    have hk:k≤16:=by omega
    have TI:=Lib.hid (kis_any (k:Int) w)
    rw [decide_eq_true cz] at TI
    have TF:=Lib.hid (kfit_any w a cap k hk xs ha (by simp only [maxLen];omega) hb)
    by_cases cf:fits k xs
    · rw [decide_eq_true cf] at TF
      rw [packA_yes hk cf]
      have TB:=Lib.hid (kbytes_any xs.length k (by omega) hk)
      have hbf:=bytesFor_le xs.length k hk
      have HF:=Lib.hid cf
      have HL:=Lib.hid (fun n => pk_lt cf n)
      have HSn:=Lib.hid (pk_succ k xs)
      have HA:=Lib.hid ha
      generalize hnb:bytesFor xs.length k=nb at *
      have hkn:∀ n,n≤xs.length→k * n≤16 * 17592186044416:=fun n hn => Nat.mul_le_mul hk (Nat.le_trans hn hx)
      have HKN:=Lib.hid hkn
      have HB0:Hid (Below w.heap.size w (w.alloc (.cells #[.pointer none,.slice none 0 0] 123))):=(Below.refl _ _).alloc (Nat.le_refl _) _
      have hbk:(w.alloc (.cells #[.pointer none,.slice none 0 0] 123)).heap[w.heap.size]? = some (.cells #[.pointer none,.slice none 0 0] 123 (0,0)):=heap_alloc_new w _
      have TG:=Lib.hid (sbgrow_any w.heap.size w.heap.size nb _ (Nat.le_refl _) hbk HB0.out.size (by omega))
      clear cz cf hb ha hkn hbk hnb
      go_enter Tryz.func114,Tryz.ntmps114
      go_upto_region 7 with (first
        | (go_at_call 143;refine TI.out.mono ?_;rintro e w' ⟨rfl,rfl⟩)
        | (go_at_call 144;refine TF.out.mono ?_;rintro e w' ⟨rfl,rfl⟩)
        | (go_at_call 146;refine (TB.out _).mono ?_;rintro e w' ⟨rfl,rfl⟩)
        | (go_at_call 145;refine TG.out.mono ?_;rintro e w1 ⟨rfl,hs,hb1⟩;have HS:=Lib.hid hs;have HB1:=Lib.hid (HB0.out.trans hb1);clear hs hb1))
      have hway:Way w.heap.size w.heap.size w1.heap.size 0 0 0 0 w (w1.alloc (.cells #[.int .u32 0,.int .i64 0] 184)):=by
        have h1:=HB1.out.size
        have h2:=HS.out
        refine ⟨h2.alloc _,heap_alloc_new w1 _,rfl,HB1.out.alloc h1 _,Nat.le_refl _,h1,?_⟩
        rcases h2 with h2 | h2 <;> exact Nat.ne_of_lt h2.lt
      have HW:=Lib.hid hway
      clear hway HS HB1 TI TF TB TG
      go_upto_region 8 with (fail)
      generalize w1.alloc (.cells #[.int .u32 0,.int .i64 0] 184)=w2 at *
      generalize hg:w1.heap.size=g at *
      clear hg
      go_wp2
      go_loopw [24] (fun iv wr => ∃ n c m:Nat,n≤xs.length∧m < 8∧iv=.int .i64 n∧Hid (Way w.heap.size w.heap.size g (pk k xs n) c m (k * n) w wr)) (fun iv _ => xs.length - (intOf iv).toNat)
      case atStart => exact ⟨0,0,0,Nat.zero_le _,by omega,rfl,by rw [pk_zero,Nat.mul_zero];exact HW.out⟩
      case round =>
        clear HW
        obtain ⟨n,c,m,hle,hm,rfl,HW⟩:=hrel
        by_cases cn:n < xs.length
        · rcases HA.out with h | ⟨ab,off,rfl,h⟩
          · subst h;simp at cn
          have hcell:=(HW.out.bel.cell (p:=⟨ab,off + n,none⟩) (World.block_lt_of_cell? w _ (h n cn))).trans (h n cn)
          have hm1:xs[n] ∈ xs:=List.getElem_mem cn
          obtain ⟨h0,h1⟩:=HF.out _ hm1
          have hp:(2:Int) ^ k=((2 ^ k:Nat):Int):=by simp
          have hp2:2 ^ k≤2 ^ 16:=Nat.pow_le_pow_right (by omega) hk
          rw [hp] at h1
          obtain ⟨y,hy⟩:∃ y:Nat,xs[n]=(y:Int):=⟨xs[n].toNat,by omega⟩
          have hS:=HSn.out n cn
          rw [hy,Int.toNat_natCast] at hS
          rw [hy] at hcell h1
          have hy16:y < 65536:=by omega
          have ey:(y:Int) % 4294967296=(y:Int):=by omega
          have hS2:=HL.out (n + 1) cn
          have hN:=HKN.out (n + 1) cn
          have eN:k * (n + 1)=k * n + k:=Nat.mul_succ k n
          have hB:=win_lt (HL.out n hle) HW.out.sum
          have HHS:=Lib.hid hS
          have HS2:=Lib.hid hS2
          have HEN:=Lib.hid eN
          have hbl:bytesN c (pk k xs n + 2 ^ (k * n) * y)=bytesN c (pk k xs n):=bytes_low c (k * n) _ y (by have:=HW.out.sum;omega)
          have HBL:=Lib.hid hbl
          clear hS hS2 hp2 hp h h0 h1 hy hm1 eN hbl
          go_upto_region 12 with (go_at_call 147;refine (kfill_any _ g (pk k xs n / 256 ^ c) m y k HW.out.win hB (by omega) hy16 hk).mono ?_;rintro e w3 ⟨rfl,hw3,hf3⟩;have HW3:=Lib.hid (HW.out.filled y k hw3 hf3 HBL.out);clear hw3 hf3)
          rw [← HHS.out,← HEN.out] at HW3
          clear HW HHS HEN HBL hB hcell ey hy16 HA HF HSn
          obtain ⟨wo,hwo⟩:∃ wo:World,wo=wr:=⟨_,rfl⟩
          clear hwo
          go_loopg [] (m + k + 1) (fun q wr => ∃ c m:Nat,m < q∧q≤25∧Hid (Way w.heap.size w.heap.size g (pk k xs (n + 1)) c m (k * (n + 1)) w wr))
          case atStart => exact ⟨c,m + k,by omega,by omega,HW3⟩
          case round =>
            clear HW3
            obtain ⟨c,m,hq,hq2,HW⟩:=hrel
            have d1:wr.cell? ⟨g,1,none⟩=some (.int .i64 (m:Int)):=cell_of_row wr g 1 _ _ _ HW.out.win
            by_cases c8:8≤m
            · have hB:=win_lt HS2.out HW.out.sum
              have hB2:2 ^ m≤2 ^ 24:=Nat.pow_le_pow_right (by omega) (by omega)
              have hB3:pk k xs (n + 1) / 256 ^ c < 4294967296:=by omega
              have hsum:=HW.out.sum
              have hz:pk k xs (n + 1) / 256 ^ c % 2 ^ 8 < 256:=Nat.mod_lt _ (by omega)
              obtain ⟨z,hzz⟩:∃ z,z=pk k xs (n + 1) / 256 ^ c % 2 ^ 8:=⟨_,rfl⟩
              rw [← hzz] at hz
              have TE:=Lib.hid (kempty_any wr g _ m 8 HW.out.win hB3 (by omega) (by omega) c8)
              rw [← hzz] at TE
              have TB:=Lib.hid (fun W (h:SbAt w.heap.size w.heap.size (bytesN c (pk k xs (n + 1))) W) (h2:w.heap.size≤W.heap.size) => sbbyte_any w.heap.size w.heap.size _ z hz W h (by rw [bytesN_length];omega) h2)
              have ez:(z:Int) % 256=(z:Int):=by omega
              have c9:(8:Int)≤(m:Int):=by omega
              have HZ:=Lib.hid hzz
              clear hB hB2 hB3 hzz
              go_wp2_with (first
                | (go_at_call 148;refine TE.out.mono ?_;rintro e w4 ⟨rfl,hw4,hf4⟩;have HW4:=Lib.hid hw4;have HF4:=Lib.hid hf4;have HS4:=Lib.hid (HW.out.sb.frm HW.out.win (by decide) HW.out.ne hf4);clear hw4 hf4)
                | (go_at_call 77;refine (TB.out _ HS4.out (Nat.le_trans HW.out.size HF4.out.size)).mono ?_;rintro e w5 ⟨rfl,hs5,hb5,hk5⟩;rw [HZ.out] at hs5;have HW5:=Lib.hid (HW.out.emptied c8 HW4.out hs5 HF4.out hb5 hk5);clear hs5 hb5 hk5))
              go_roundg (m - 8 + 1)
              case rel => exact ⟨c + 1,m - 8,by omega,by omega,HW5⟩
              case measure => omega
            · have hm9:m < 8:=by omega
              have c9:¬ (8:Int)≤(m:Int):=by omega
              clear c8
              go_wp2
              go_roundw
              case rel => exact ⟨n + 1,c,m,by omega,hm9,by go_num,HW⟩
              case measure => simp [intOf];omega
        · obtain rfl:n=xs.length:=by omega
          have hS:=HL.out xs.length (Nat.le_refl _)
          have hN:=HKN.out xs.length (Nat.le_refl _)
          clear HL HKN HSn HA HF HB0 cn
          generalize hN0:k * xs.length=N at *
          generalize hS0:pk k xs xs.length=S at *
          have HN0:=Lib.hid hN0
          have HS0:=Lib.hid hS0
          clear hN0 hS0
          have d1:wr.cell? ⟨g,1,none⟩=some (.int .i64 (m:Int)):=cell_of_row wr g 1 _ _ _ HW.out.win
          have hsum:=HW.out.sum
          by_cases c0:m=0
          · have hl:=bytes_full (S:=S) hsum c0
            have c1:¬ (0:Int) < (m:Int):=by omega
            have TS:=Lib.hid (sbstring_any w.heap.size w.heap.size _ wr HW.out.sb HW.out.size)
            rw [hl] at TS
            have HT:Hid (∀ l:List UInt8,(⟨l.toArray⟩:ByteArray)=textB l):=fun _ => rfl
            rw [HT.out] at TS
            clear hl c0
            go_wp2_with (go_at_call 81;refine TS.out.mono ?_;rintro e w6 ⟨rfl,hb6,hk6⟩;have HB6:=Lib.hid (HW.out.bel.trans hb6);clear hb6 hk6)
            go_ret2
            exact ⟨by rw [HN0.out,HS0.out];rfl,HB6.out⟩
          · have hB:=win_lt hS hsum
            have hB2:2 ^ m≤2 ^ 8:=Nat.pow_le_pow_right (by omega) (by omega)
            have hB3:S / 256 ^ c < 4294967296:=by omega
            have hz:S / 256 ^ c % 2 ^ m < 256:=by have:=Nat.mod_le (S / 256 ^ c) (2 ^ m);omega
            have hl:=bytes_last hS hsum hm (by omega)
            obtain ⟨z,hzz⟩:∃ z,z=S / 256 ^ c % 2 ^ m:=⟨_,rfl⟩
            rw [← hzz] at hz hl
            have TE:=Lib.hid (kempty_any wr g _ m m HW.out.win hB3 (by omega) (by omega) (Nat.le_refl _))
            rw [← hzz] at TE
            have TB:=Lib.hid (fun W (h:SbAt w.heap.size w.heap.size (bytesN c S) W) (h2:w.heap.size≤W.heap.size) => sbbyte_any w.heap.size w.heap.size _ z hz W h (by rw [bytesN_length];omega) h2)
            rw [hl] at TB
            have TS:=Lib.hid (fun W (h:SbAt w.heap.size w.heap.size (bytesN ((N + 7) / 8) S) W) (h2:w.heap.size≤W.heap.size) => sbstring_any w.heap.size w.heap.size _ W h h2)
            have HT:Hid (∀ l:List UInt8,(⟨l.toArray⟩:ByteArray)=textB l):=fun _ => rfl
            rw [HT.out] at TS
            have ez:(z:Int) % 256=(z:Int):=by omega
            have c1:(0:Int) < (m:Int):=by omega
            clear hB hB2 hB3 hzz hl hS
            go_wp2_with (first
              | (go_at_call 148;refine TE.out.mono ?_;rintro e w4 ⟨rfl,hw4,hf4⟩;have HF4:=Lib.hid (below_frm HW.out.bel HW.out.bg (Nat.le_refl _) hf4);have HS4:=Lib.hid (HW.out.sb.frm HW.out.win (by decide) HW.out.ne hf4);clear hw4 hf4)
              | (go_at_call 77;refine (TB.out _ HS4.out HF4.out.size).mono ?_;rintro e w5 ⟨rfl,hs5,hb5,hk5⟩;have HS5:=Lib.hid hs5;have HB5:=Lib.hid (HF4.out.trans hb5);clear hs5 hb5 hk5)
              | (go_at_call 81;refine (TS.out _ HS5.out HB5.out.size).mono ?_;rintro e w6 ⟨rfl,hb6,hk6⟩;have HB6:=Lib.hid (HB5.out.trans hb6);clear hb6 hk6))
            go_ret2
            exact ⟨by rw [HN0.out,HS0.out];rfl,HB6.out⟩
    · rw [decide_eq_false cf] at TF
      rw [packA_range hk cf]
      go_enter Tryz.func114,Tryz.ntmps114
      go_wp2_with (first
        | (go_at_call 143;refine TI.out.mono ?_;rintro e w' ⟨rfl,rfl⟩)
        | (go_at_call 144;refine TF.out.mono ?_;rintro e w' ⟨rfl,rfl⟩))
      go_ret2
      exact ⟨rfl,Below.refl _ _⟩
  · have TI:=Lib.hid (kis_any z w)
    rw [decide_eq_false cz] at TI
    rw [packA_width cz]
    go_enter Tryz.func114,Tryz.ntmps114
    go_wp2_with (go_at_call 143;refine TI.out.mono ?_;rintro e w' ⟨rfl,rfl⟩)
    go_ret2
    exact ⟨rfl,Below.refl _ _⟩
end Go.Proofs.YtfbmlefhjoblbaaGreat
namespace Go.Proofs.YtfbmlefhjoblbaaGreat
open Go.Conc Go.RowKit
set_option linter.unusedVariables false
theorem infoIntRow:(Tryz.prog.info? 3).map (fun i => (i.zero,i.size,i.bytes))=some (some (.int .i64 0),1,8):=by kernel_rfl
theorem make_ints (f:Nat→Int) (w:World) (n:Nat) (h:n≤65536):(Instr.makeSlice 86 (.int .i64 (n:Int)) (.int .i64 (n:Int))).run Tryz.prog w=.ok (.slice (some ⟨w.heap.size,0,none⟩) n n) (w.alloc (.cells (rowI f n 0) 3)):=by
  obtain ⟨i0,hi,hz0,hz1,hz2⟩:=info_parts infoIntRow
  have hr:=run_make (P:=Tryz.prog) w 86 3 i0 _ Tryz.underlying86 hi hz0 .i64 .i64 (n:Int) (n:Int) (by omega) (Int.le_refl _) (by rw [hz2];omega) (by omega)
  rw [Int.toNat_natCast,hz1,Nat.mul_one,rowI_made f n] at hr
  exact hr
structure Red (B x g k S n:Nat) (i a m:Nat) (w0 w:World):Prop where
  row:w.heap[x]? = some (.cells (rowI (fun j => (dig k S j:Int)) n i) 3 (0,0))
  win:WinAt w g (wst k S a i) m
  sum:m + k * i=8 * a
  bel:Below B w0 w
  big:B≤w0.heap.size
  bx:B≤x
  bg:B≤g
  ne:x ≠ g
theorem Red.filled {B x g k S n i a m:Nat} {w0 w w':World} (h:Red B x g k S n i a m w0 w) (hw:WinAt w' g (wst k S a i + 2 ^ m * (S / 256 ^ a % 256)) (m + 8)) (hf:Frm (fun k => k=g) w w'):Red B x g k S n i (a + 1) (m + 8) w0 w':=by
  rw [wst_fill h.sum] at hw
  exact ⟨(hf.block x (Array.getElem?_eq_some_iff.1 h.row).1 h.ne).trans h.row,hw,by have:=h.sum;omega,below_frm h.bel h.bg h.big hf,h.big,h.bx,h.bg,h.ne⟩
theorem Red.taken {B x g k S n i a m:Nat} {w0 w w':World} (h:Red B x g k S n i a m w0 w) (hi:i < n) (hk:k≤m) (hw:WinAt w' g (wst k S a i / 2 ^ k) (m - k)) (hf:Frm (fun k => k=g) w w'):Red B x g k S n (i + 1) a (m - k) w0 (w'.setCell ⟨x,i,none⟩ (.int .i64 (dig k S i:Nat))):=by
  rw [wst_empty] at hw
  have hr:=(hf.block x (Array.getElem?_eq_some_iff.1 h.row).1 h.ne).trans h.row
  refine ⟨?_,?_,by have:=h.sum;rw [Nat.mul_succ];omega,(below_frm h.bel h.bg h.big hf).setCell (p:=⟨x,i,none⟩) h.bx _,h.big,h.bx,h.bg,h.ne⟩
  · rw [← rowI_step _ n i hi]
    exact heap_setCell_same _ _ _ _ _ _ hr
  · unfold WinAt
    rw [heap_setCell_other _ _ _ _ (fun e => h.ne e.symm)]
    exact hw
set_option maxRecDepth 100000 in
set_option maxHeartbeats 4000000 in
theorem kunpack_any (w:World) (s:ByteArray) (hs:s.size≤281474976710648) (many z:Int) :
    Calls Tryz.prog 132 #[.string s,.int .i64 many,.int .i64 z] w fun e w' => ∃ a cap,e=.returned (.tuple #[.slice a (unpackA s many z).1.length cap,.int .i64 (unpackA s many z).2])∧OwnI w.heap.size w' a cap (unpackA s many z).1∧Below w.heap.size w w':=by
  by_cases cz:0≤z∧z≤16
  · obtain ⟨k,rfl⟩:∃ k:Nat,z=k:=⟨z.toNat,by omega⟩
    have hk:k≤16:=by omega
    have TI:=Lib.hid (kis_any (k:Int) w)
    rw [decide_eq_true cz] at TI
    clear cz
    by_cases cm:0≤many∧many≤65536
    · obtain ⟨n,rfl⟩:∃ n:Nat,many=n:=⟨many.toNat,by omega⟩
      have hn:n≤65536:=by omega
      have TB:=Lib.hid (kbytes_any n k (by omega) hk)
      have m1:¬ (n:Int) < 0:=by omega
      have m2:decide ((65536:Int) < (n:Int))=false:=decide_eq_false (by omega)
      have m3:decide ((n:Int) < 0)=false:=decide_eq_false (by omega)
      clear cm
      by_cases cs:s.size=bytesFor n k
      · rw [← cs] at TB
        have hkn:k * n≤16 * 65536:=Nat.mul_le_mul hk hn
        have h8:k * n≤8 * s.size∧8 * s.size≤k * n + 7:=by rw [cs,bytesFor,Nat.mul_comm n k];omega
        have HA:Hid ((numT s / 2 ^ (k * n)=0→unpackA s n k=((List.range n).map (fun i => (dig k (numT s) i:Int)),0))∧(numT s / 2 ^ (k * n) ≠ 0→unpackA s n k=([],602))):=⟨fun h => unpackA_yes hk hn ⟨cs,h⟩,fun h => unpackA_cut hk hn (fun x => h x.2)⟩
        have HL:=Lib.hid (numT_lt s)
        have HY:=Lib.hid (numT_byte s)
        generalize hR:unpackA s n k=R at *
        generalize hS:numT s=S at *
        have hmk:=make_ints (fun j => (dig k S j:Int)) w n hn
        have HBX:=Lib.hid ((Below.refl w.heap.size w).alloc (Nat.le_refl _) (.cells (rowI (fun j => (dig k S j:Int)) n 0) 3))
        have HRX:=Lib.hid (heap_alloc_new w (.cells (rowI (fun j => (dig k S j:Int)) n 0) 3))
        have hxs:(w.alloc (.cells (rowI (fun j => (dig k S j:Int)) n 0) 3)).heap.size=w.heap.size + 1:=by simp
        clear hR hS cs
        go_enter Tryz.func132,Tryz.ntmps132
        go_upto_region 8 with (first
          | (go_at_call 143;refine TI.out.mono ?_;rintro e w' ⟨rfl,rfl⟩)
          | (go_at_call 146;refine (TB.out _).mono ?_;rintro e w' ⟨rfl,rfl⟩))
        have hred:Red w.heap.size w.heap.size (w.heap.size + 1) k S n 0 0 0 w ((w.alloc (.cells (rowI (fun j => (dig k S j:Int)) n 0) 3)).alloc (.cells #[.int .u32 0,.int .i64 0] 184)):=by
          refine ⟨(Below.heap_alloc _ _ _ (by rw [hxs];omega)).trans HRX.out,?_,rfl,HBX.out.alloc HBX.out.size _,Nat.le_refl _,Nat.le_refl _,by omega,by omega⟩
          rw [wst_zero,← hxs]
          exact heap_alloc_new _ _
        have HW:=Lib.hid hred
        clear hred HBX HRX hmk TI TB
        go_upto_region 9 with (fail)
        generalize (w.alloc (.cells (rowI (fun j => (dig k S j:Int)) n 0) 3)).alloc (.cells #[.int .u32 0,.int .i64 0] 184)=w2 at *
        generalize hg:w.heap.size + 1=g at *
        generalize hx:w.heap.size=x at *
        have HX:=Lib.hid hx
        clear hg hxs hx
        go_wp2
        go_loopw [10,31] (fun av iv wr => ∃ i a m:Nat,i≤n∧m≤23∧a≤s.size∧iv=.int .i64 i∧av=.int .i64 a∧Hid (Red x x g k S n i a m w wr)) (fun _ iv _ => n - (intOf iv).toNat)
        case atStart => exact ⟨0,0,0,Nat.zero_le _,by omega,Nat.zero_le _,rfl,rfl,HW⟩
        case round =>
          clear HW
          obtain ⟨i,a,m,hi,hm,ha,rfl,rfl,HW⟩:=hrel
          by_cases ci:i < n
          · have hki:k * (i + 1)≤k * n:=Nat.mul_le_mul_left _ ci
            rw [Nat.mul_succ] at hki
            go_upto_region 13 with (fail)
            go_loopw [10] (fun av wr => ∃ a m:Nat,m≤23∧a≤s.size∧av=.int .i64 a∧Hid (Red x x g k S n i a m w wr)) (fun av _ => s.size - (intOf av).toNat)
            case atStart => exact ⟨a,m,hm,ha,rfl,HW⟩
            case round =>
              clear HW
              obtain ⟨a,m,hm,ha,rfl,HW⟩:=hrel
              have hsum:=HW.out.sum
              have d1:wr.cell? ⟨g,1,none⟩=some (.int .i64 (m:Int)):=cell_of_row wr g 1 _ _ _ HW.out.win
              have hlt:=wst_lt (S:=S) hsum
              by_cases c:m < k
              · have hal:a < s.size:=by omega
                have hy:=HY.out a hal
                have hb:=(s[a]'hal).toNat_lt
                have hb:(s[a]'hal).toNat < 256:=hb
                have ey:((s[a]'hal).toNat:Int) % 4294967296=((s[a]'hal).toNat:Int):=by omega
                have TF:=Lib.hid (kfill_any wr g _ m (s[a]'hal).toNat 8 HW.out.win hlt (by omega) (by omega) (by omega))
                have HYa:=Lib.hid hy
                clear hy hlt hsum
                go_wp2_with (go_at_call 147;refine TF.out.mono ?_;rintro e w3 ⟨rfl,hw3,hf3⟩;rw [HYa.out] at hw3;have HW3:=Lib.hid (HW.out.filled hw3 hf3);clear hw3 hf3)
                go_roundw
                case rel => exact ⟨a + 1,m + 8,by omega,hal,by go_num,HW3⟩
                case measure => simp [intOf];omega
              · have c2:k≤m:=by omega
                have c3:¬ (m:Int) < (k:Int):=by omega
                have hm2:2 ^ m≤2 ^ 23:=Nat.pow_le_pow_right (by omega) hm
                have TE:=Lib.hid (kempty_any wr g _ m k HW.out.win (by omega) (by omega) hk c2)
                rw [wst_digit hsum c2] at TE
                have hd:=dig_lt k S i
                have hp2:2 ^ k≤2 ^ 16:=Nat.pow_le_pow_right (by omega) hk
                have HTK:=Lib.hid (fun w' hw hf => HW.out.taken (w':=w') ci c2 hw hf)
                have hrow:∀ w',Frm (fun k => k=g) wr w'→w'.heap[x]? = some (.cells (rowI (fun j => (dig k S j:Int)) n i) 3 (0,0)):=fun w' hf => (hf.block x (Array.getElem?_eq_some_iff.1 HW.out.row).1 HW.out.ne).trans HW.out.row
                have HROW:=Lib.hid hrow
                have hgi:=Lib.hid (rowI_get (fun j => (dig k S j:Int)) n i i ci)
                clear hlt hsum c hm2 hrow
                generalize dig k S i=dg at *
                have ed:(dg:Int) % 18446744073709551616=(dg:Int):=by omega
                go_wp2_with (go_at_call 148;refine TE.out.mono ?_;rintro e w4 ⟨rfl,hw4,hf4⟩;have hr4:=HROW.out w4 hf4;have hc4:=(cell_of_row w4 x i _ _ _ hr4).trans hgi.out;have hfz:=frozen_of_row w4 x i _ _ hr4;have HW4:=Lib.hid (HTK.out w4 hw4 hf4);clear hw4 hf4 hr4)
                go_roundw
                case rel => exact ⟨i + 1,a,m - k,by omega,by omega,ha,by go_num,rfl,HW4⟩
                case measure => simp [intOf];omega
          · obtain rfl:i=n:=by omega
            have hsum:=HW.out.sum
            have hae:a=s.size:=by omega
            subst hae
            have d0:wr.cell? ⟨g,0,none⟩=some (.int .u32 (wst k S s.size i:Nat)):=cell_of_row wr g 0 _ _ _ HW.out.win
            rw [wst_end HL.out] at d0
            have HRW:=HW.out.row
            have HRW:=Lib.hid HRW
            clear hsum ci hkn h8
            by_cases c0:S / 2 ^ (k * i)=0
            · have hR:=HA.out.1 c0
              have HRR:=Lib.hid hR
              rw [c0] at d0
              clear hR c0
              go_wp2
              go_ret2
              have hX:=HX.out
              refine ⟨some ⟨x,0,none⟩,i,by rw [HRR.out];simp,?_,?_⟩
              · rw [HRR.out]
                exact own_row HRW.out (Nat.le_of_eq hX) (by simp only [maxLen];omega) rfl
              · have:=HW.out.bel
                rw [← hX] at this
                exact this
            · have HRR:=Lib.hid (HA.out.2 c0)
              have c1:((S / 2 ^ (k * i):Nat):Int) ≠ 0:=by omega
              have c2:(((S / 2 ^ (k * i):Nat):Int) != 0)=true:=by simpa using c1
              generalize S / 2 ^ (k * i)=q at *
              clear c0 c1
              go_wp2
              go_ret2
              have hX:=HX.out
              refine ⟨none,0,by rw [HRR.out];rfl,by rw [HRR.out];exact OwnI.nil _ _,?_⟩
              have:=HW.out.bel
              rw [← hX] at this
              exact this
      · have HA:=Lib.hid (unpackA_cut (s:=s) hk hn (fun x => cs x.1))
        generalize hR:unpackA s n k=R at *
        have hne:((s.size:Int) != (bytesFor n k:Int))=true:=by simp;omega
        generalize bytesFor n k=nb at *
        clear hR cs
        go_enter Tryz.func132,Tryz.ntmps132
        go_wp2_with (first
          | (go_at_call 143;refine TI.out.mono ?_;rintro e w' ⟨rfl,rfl⟩)
          | (go_at_call 146;refine (TB.out _).mono ?_;rintro e w' ⟨rfl,rfl⟩))
        go_ret2
        exact ⟨none,0,by rw [HA.out];rfl,by rw [HA.out];exact OwnI.nil _ _,Below.refl _ _⟩
    · have HA:=Lib.hid (unpackA_many (s:=s) hk cm)
      generalize hR:unpackA s many k=R at *
      clear hR
      by_cases c1:many < 0
      · go_enter Tryz.func132,Tryz.ntmps132
        go_wp2_with (go_at_call 143;refine TI.out.mono ?_;rintro e w' ⟨rfl,rfl⟩)
        go_ret2
        exact ⟨none,0,by rw [HA.out];rfl,by rw [HA.out];exact OwnI.nil _ _,Below.refl _ _⟩
      · have c2:65536 < many:=by omega
        clear cm
        go_enter Tryz.func132,Tryz.ntmps132
        go_wp2_with (go_at_call 143;refine TI.out.mono ?_;rintro e w' ⟨rfl,rfl⟩)
        go_ret2
        exact ⟨none,0,by rw [HA.out];rfl,by rw [HA.out];exact OwnI.nil _ _,Below.refl _ _⟩
  · have TI:=Lib.hid (kis_any z w)
    rw [decide_eq_false cz] at TI
    have HA:=Lib.hid (unpackA_width (s:=s) (many:=many) cz)
    generalize hR:unpackA s many z=R at *
    clear hR cz
    go_enter Tryz.func132,Tryz.ntmps132
    go_wp2_with (go_at_call 143;refine TI.out.mono ?_;rintro e w' ⟨rfl,rfl⟩)
    go_ret2
    exact ⟨none,0,by rw [HA.out];rfl,by rw [HA.out];exact OwnI.nil _ _,Below.refl _ _⟩
end Go.Proofs.YtfbmlefhjoblbaaGreat
