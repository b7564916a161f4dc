/- Spaces and remarks left out: a claim is at most so large. -/
import Derived.Test.YtfbmlefhjoblbaaGreatPackGz
import Derived.Test.YtfbmlefhjoblbaaGreatBitsGz
import Derived.StillTailTactics
import Derived.Deep.Cut
namespace Go.Proofs.YtfbmlefhjoblbaaGreat
open Go.Conc Go.RowKit
set_option linter.unusedVariables false
def rowB (c X:Nat):Array Value:=(byteCells (bytesN c X)).toArray
theorem rowB_size (c X:Nat):(rowB c X).size=c:=by simp [rowB,byteCells,bytesN_length]
theorem rowB_at (S t c:Nat) (ht:t < 8 * c):(rowB c (S % 2 ^ t))[t / 8]? = some (.int .u8 (part 8 S t:Nat)):=by
  have h:=byte_at S t c ht
  have hp:=part_lt 8 S t
  have h2:2 ^ (t % 8)≤2 ^ 7:=Nat.pow_le_pow_right (by omega) (by omega)
  simp only [rowB,byteCells,List.getElem?_toArray,List.getElem?_map,h,Option.map_some]
  rw [u8_toNat _ (by omega)]
theorem rowB_step (S t c:Nat) (ht:t < 8 * c):(rowB c (S % 2 ^ t)).setIfInBounds (t / 8) (.int .u8 (part 8 S t + 2 ^ (t % 8) * (S / 2 ^ t % 2):Nat))=rowB c (S % 2 ^ (t + 1)):=by
  have hp:=part_lt 8 S t
  have h2:2 ^ (t % 8)≤2 ^ 7:=Nat.pow_le_pow_right (by omega) (by omega)
  have h3:2 ^ (t % 8) * (S / 2 ^ t % 2)≤2 ^ (t % 8) * 1:=Nat.mul_le_mul_left _ (by omega)
  unfold rowB
  rw [byte_step S t c ht,List.setIfInBounds_toArray]
  congr 1
  simp only [byteCells,List.map_set]
  rw [u8_toNat _ (by omega)]
theorem rowB_made (S c:Nat):madeCells (Value.int .u8 0).cells c=rowB c (S % 2 ^ 0):=by
  unfold rowB
  rw [bytes_none]
  apply Array.ext_getElem?
  intro j
  by_cases hj:j < c
  · simp [madeCells,hj,Value.cells,Nat.mod_one,byteCells]
  · simp [madeCells,hj,byteCells]
theorem infoByteRow:(Tryz.prog.info? 5).map (fun i => (i.zero,i.size,i.bytes))=some (some (.int .u8 0),1,1):=by kernel_rfl
theorem make_bytes (S:Nat) (w:World) (c:Nat) (h:c≤281474976710656):(Instr.makeSlice 50 (.int .i64 (c:Int)) (.int .i64 (c:Int))).run Tryz.prog w=.ok (.slice (some ⟨w.heap.size,0,none⟩) c c) (w.alloc (.cells (rowB c (S % 2 ^ 0)) 5)):=by
  obtain ⟨i0,hi,hz0,hz1,hz2⟩:=info_parts infoByteRow
  have hr:=run_make (P:=Tryz.prog) w 50 5 i0 _ Tryz.underlying50 hi hz0 .i64 .i64 (c:Int) (c:Int) (by omega) (Int.le_refl _) (by rw [hz2];omega) (by omega)
  rw [Int.toNat_natCast,hz1,Nat.mul_one,rowB_made S c] at hr
  exact hr
theorem rowB_text {w:World} {g c X:Nat} (h:w.heap[g]? = some (.cells (rowB c X) 5 (0,0))) (hc:c≤maxLen):(convert 50 9 (.slice (some ⟨g,0,none⟩) c c)).run Tryz.prog w=.ok (.string (textB (bytesN c X))) w:=by
  have hl:=bytesN_length c X
  have ho:w.ownsRow 0 5 1 (.slice (some ⟨g,0,none⟩) c c) (bytesN c X).length (byteCells (bytesN c X)):=by
    refine ⟨by rw [byteCells_length,Nat.mul_one],.inr ⟨g,c,_,by rw [hl],Nat.zero_le _,h,by rw [hl];exact Nat.le_refl _,hc,by rw [rowB_size,Nat.mul_one],?_⟩⟩
    rw [Nat.mul_one,hl]
    show (byteCells (bytesN c X)).take c=_
    rw [List.take_of_length_le (by rw [byteCells_length,hl];exact Nat.le_refl _)]
  exact own_text ho
theorem i64_and1 (q:Nat) (h:q < 9223372036854775808):bits .and .i64 (q:Int) 1=((q % 2:Nat):Int):=by
  show IntKind.i64.wrap ((BitVec.ofInt 64 (q:Int) &&& BitVec.ofInt 64 ((1:Nat):Int)).toNat:Int)=_
  rw [BitVec.toNat_and,ofInt_u64 _ (by omega),ofInt_u64 1 (by omega),Nat.and_one_is_mod]
  exact wrap_i64_nat _ (by omega)
theorem u8_or_bit (r p v:Nat) (hr:r≤7) (hp:p < 2 ^ r) (hv:v≤1):bits .or .u8 (p:Int) ((2 ^ r * v:Nat):Int)=((p + 2 ^ r * v:Nat):Int):=by
  have h2:2 ^ r≤2 ^ 7:=Nat.pow_le_pow_right (by omega) hr
  have h3:2 ^ r * v≤2 ^ r * 1:=Nat.mul_le_mul_left _ hv
  rw [u8_or_nat _ _ (by omega) (by omega),Nat.or_comm,nat_join r (2 ^ r * v) p (Nat.mul_mod_right _ _) hp,Nat.add_comm]
def lead1 (k:Nat):List Int→Nat
  | [] => 0
  | x :: xs => if 0≤x∧wid x.toNat≤k then lead1 k xs + 1 else 0
theorem lead1_le (k:Nat):∀ xs,lead1 k xs≤xs.length
  | [] => Nat.le_refl _
  | x :: xs => by
    have:=lead1_le k xs
    rw [lead1]
    split <;> simp <;> omega
theorem lead1_in (k:Nat):∀ (xs:List Int) (i:Nat) (h:i < xs.length),i < lead1 k xs→0≤xs[i]∧wid xs[i].toNat≤k
  | [],i,h,h2 => by simp at h
  | x :: xs,i,h,h2 => by
    rw [lead1] at h2
    split at h2
    · rename_i hc
      cases i with
      | zero => exact hc
      | succ i => exact lead1_in k xs i (by simpa using h) (by omega)
    · omega
theorem lead1_out (k:Nat):∀ (xs:List Int) (h:lead1 k xs < xs.length),xs[lead1 k xs] < 0∨¬ wid xs[lead1 k xs].toNat≤k
  | [],h => by simp at h
  | x :: xs,h => by
    by_cases c:0≤x∧wid x.toNat≤k
    · have e:lead1 k (x :: xs)=lead1 k xs + 1:=if_pos c
      simp only [e,List.getElem_cons_succ]
      exact lead1_out k xs (by rw [e] at h;simpa using h)
    · have e:lead1 k (x :: xs)=0:=if_neg c
      simp only [e,List.getElem_cons_zero]
      omega
theorem lead1_fits {k:Nat} {xs:List Int}:fits k xs ↔ lead1 k xs=xs.length:=by
  constructor
  · intro h
    by_cases c:lead1 k xs < xs.length
    · exact absurd h (not_fits (List.getElem_mem c) (lead1_out k xs c))
    · have:=lead1_le k xs;omega
  · intro h x hx
    obtain ⟨i,hi,rfl⟩:=List.getElem_of_mem hx
    obtain ⟨h0,h1⟩:=lead1_in k xs i hi (by omega)
    have h2:=(wid_le k _).1 h1
    have h3:((2:Int) ^ k)=((2 ^ k:Nat):Int):=by simp
    rw [h3]
    omega
theorem lead1_bit {k:Nat} {xs:List Int} {i j y:Nat} (hi:i < xs.length) (hl:i < lead1 k xs) (hj:j < k) (hy:xs[i]=(y:Int)):packN k (nats (xs.take (lead1 k xs))) / 2 ^ (k * i + j) % 2=y / 2 ^ j % 2:=by
  have hlen:(nats (xs.take (lead1 k xs))).length=lead1 k xs:=by
    rw [nats_length,List.length_take,Nat.min_eq_left (lead1_le k xs)]
  have hi2:i < (nats (xs.take (lead1 k xs))).length:=by rw [hlen];exact hl
  have hb:=pack_bit k (nats (xs.take (lead1 k xs))) (fun x hx => ?_) i j hi2 hj
  · rw [hb]
    have e:(nats (xs.take (lead1 k xs)))[i]=y:=by simp [nats,hy]
    rw [e]
  · simp only [nats,List.mem_map] at hx
    obtain ⟨z,hz,rfl⟩:=hx
    obtain ⟨p,hp,rfl⟩:=List.getElem_of_mem hz
    rw [List.length_take] at hp
    rw [List.getElem_take]
    exact (wid_le k _).1 (lead1_in k xs p (by omega) (by omega)).2
end Go.Proofs.YtfbmlefhjoblbaaGreat
namespace Go.Proofs.YtfbmlefhjoblbaaGreat
open Go.Conc Go.RowKit
set_option linter.unusedVariables false
set_option maxRecDepth 100000 in
set_option maxHeartbeats 4000000 in
theorem rpack_any (w:World) (a:Option Addr) (cap:Nat) (z:Int) (xs:List Int) (ha:IsL w a xs) (hx:xs.length≤17592186044416) (hb:∀ x ∈ xs,x < 9223372036854775808) :
    Calls Tryz.prog 52 #[.slice a xs.length cap,.int .i64 z] w fun e w' => e=.returned (.tuple #[.string (packA xs z).1,.int .i64 (packA xs z).2])∧Below w.heap.size w w':=by
  by_cases cz:0≤z∧z≤16
  · obtain ⟨k,rfl⟩:∃ k:Nat,z=k:=⟨z.toNat,by omega⟩
    have hk:k≤16:=by omega
    clear cz
    have HPA:Hid ((lead1 k xs=xs.length→packA xs k=(textB (bytesN (bytesFor xs.length k) (packN k (nats (xs.take (lead1 k xs))))),0))∧(lead1 k xs ≠ xs.length→packA xs k=(ByteArray.empty,601))):=by
      refine ⟨fun h => ?_,fun h => packA_range hk fun f => h (lead1_fits.1 f)⟩
      rw [packA_yes hk (lead1_fits.2 h),h,List.take_length,pk_all,bytesFor,Nat.mul_comm]
    have HLE:=Lib.hid (lead1_le k xs)
    have HIN:=Lib.hid (lead1_in k xs)
    have HOUT:=Lib.hid (lead1_out k xs)
    have HBIT:Hid (∀ (i j y:Nat) (hi:i < xs.length) (hl:i < lead1 k xs) (hj:j < k) (hy:xs[i]=(y:Int)),packN k (nats (xs.take (lead1 k xs))) / 2 ^ (k * i + j) % 2=y / 2 ^ j % 2):=fun i j y hi hl hj hy => lead1_bit hi hl hj hy
    have HSLT:Hid (packN k (nats (xs.take (lead1 k xs))) < 2 ^ (k * lead1 k xs)):=by
      have h:=packN_lt k (nats (xs.take (lead1 k xs))) (fun x hx => ?_)
      · rw [nats_length,List.length_take,Nat.min_eq_left (lead1_le k xs)] at h;exact h
      · simp only [nats,List.mem_map] at hx
        obtain ⟨z,hz,rfl⟩:=hx
        obtain ⟨p,hp,rfl⟩:=List.getElem_of_mem hz
        rw [List.length_take] at hp
        rw [List.getElem_take]
        exact (wid_le k _).1 (lead1_in k xs p (by omega) (by omega)).2
    have hkx:k * xs.length≤16 * 17592186044416:=Nat.mul_le_mul hk hx
    have hmx:=Nat.mul_le_mul_left xs.length hk
    have hc8:k * xs.length≤8 * bytesFor xs.length k:=by unfold bytesFor;rw [Nat.mul_comm k];omega
    have hcb:=bytesFor_le xs.length k hk
    have hm0:(xs.length:Int) * (k:Int)=((k * xs.length:Nat):Int):=by rw [Int.natCast_mul,Int.mul_comm]
    have hm1:wrap64 ((xs.length:Int) * (k:Int))=((k * xs.length:Nat):Int):=by rw [hm0];unfold wrap64;omega
    have hm2:(((k * xs.length:Nat):Int) + 7) / 8=(bytesFor xs.length k:Nat):=by unfold bytesFor;rw [Nat.mul_comm k];omega
    generalize hL:lead1 k xs=L at *
    generalize hS:packN k (nats (xs.take L))=S at *
    generalize hc:bytesFor xs.length k=c at *
    generalize hR:packA xs k=R at *
    have HA:=Lib.hid ha
    have HB:=Lib.hid hb
    have hmk:=make_bytes S w c (by omega)
    have HK8:=Lib.hid hc8
    have HKX:=Lib.hid hkx
    have HKI:Hid (∀ i,i < xs.length→k * (i + 1)≤k * xs.length):=fun i hi => Nat.mul_le_mul_left _ hi
    generalize k * xs.length=N at *
    have hN:N≤281474976710656:=by have:=HKX.out;omega
    clear hL hS hc hR ha hb hc8 hkx hmx hm0
    go_enter Tryz.func52,Tryz.ntmps52
    go_upto_region 4 with (fail)
    have hrow:(w.alloc (.cells (rowB c (S % 2 ^ 0)) 5)).heap[w.heap.size]? = some (.cells (rowB c (S % 2 ^ 0)) 5 (0,0)):=heap_alloc_new w _
    have hbel:Below w.heap.size w (w.alloc (.cells (rowB c (S % 2 ^ 0)) 5)):=(Below.refl _ _).alloc (Nat.le_refl _) _
    have HROW:=Lib.hid hrow
    have HBEL:=Lib.hid hbel
    clear hrow hbel hmk hm1 hm2
    generalize w.alloc (.cells (rowB c (S % 2 ^ 0)) 5)=w2 at *
    generalize hg:w.heap.size=g at *
    have HG:=Lib.hid hg
    clear hg
    go_wp2
    go_loopw [7] (fun iv wr => ∃ i:Nat,i≤L∧i≤xs.length∧iv=.int .i64 i∧Hid (Below g w wr)∧Hid (wr.heap[g]? = some (.cells (rowB c (S % 2 ^ (k * i))) 5 (0,0)))) (fun iv _ => xs.length - (intOf iv).toNat)
    case atStart => exact ⟨0,Nat.zero_le _,Nat.zero_le _,rfl,HBEL,HROW⟩
    case round =>
      clear HROW HBEL
      obtain ⟨i,hiL,hi,rfl,HBEL,HROW⟩:=hrel
      by_cases ci:i < xs.length
      · rcases HA.out with h | ⟨ab,off,rfl,h⟩
        · subst h;simp at ci
        have hcell:=(HBEL.out.cell (p:=⟨ab,off + i,none⟩) (by rw [← HG.out];exact World.block_lt_of_cell? w _ (h i ci))).trans (h i ci)
        have hlt:=HB.out xs[i] (List.getElem_mem ci)
        have TW:=Lib.hid (rwidth_any xs[i] hlt wr)
        have HCELL:=Lib.hid (h i ci)
        have hab:=World.block_lt_of_cell? w _ (h i ci)
        have hab:ab < g:=by rw [← HG.out];exact hab
        by_cases cl:i < L
        · obtain ⟨h0,h1⟩:=HIN.out i ci cl
          obtain ⟨y,hy⟩:∃ y:Nat,xs[i]=(y:Int):=⟨xs[i].toNat,by omega⟩
          have hbit:=Lib.hid (fun j hj => HBIT.out i j y ci cl hj hy)
          rw [hy] at TW hcell HCELL hlt h1
          rw [Int.toNat_natCast] at TW h1
          have hyl:y < 65536:=by
            have h2:=(wid_le k y).1 h1
            have h3:2 ^ k≤2 ^ 16:=Nat.pow_le_pow_right (by omega) hk
            omega
          have hki:=HKI.out i ci
          rw [Nat.mul_succ] at hki
          have e1:¬ (y:Int) < 0:=by omega
          have e2:decide ((k:Int) < (wid y:Nat))=false:=decide_eq_false (by omega)
          have e4:decide ((y:Int) < 0)=false:=decide_eq_false (by omega)
          generalize wid y=wy at *
          have e3:decide (k < wy)=false:=decide_eq_false (by omega)
          have e5:¬ k < wy:=by omega
          have ec:=Nat.mul_succ k i
          have hmi:(i:Int) * (k:Int)=((k * i:Nat):Int):=by rw [Int.natCast_mul,Int.mul_comm]
          have h8:=HK8.out
          have hki2:wrap64 ((i:Int) * (k:Int))=((k * i:Nat):Int):=by rw [hmi];unfold wrap64;omega
          have HEC:=Lib.hid ec
          clear h hy h0 hlt ec hmi
          generalize hT:k * i=T at *
          have HT:=Lib.hid hT
          clear hT
          go_upto_region 10 with (go_at_call 88;refine TW.out.mono ?_;rintro e w' ⟨rfl,rfl⟩)
          have HROW0:=HROW
          rw [← Nat.add_zero T] at HROW0
          clear hcell HROW TW HIN HOUT HBIT HKI
          obtain ⟨wo,hwo⟩:∃ wo:World,wo=wr:=⟨_,rfl⟩
          clear hwo
          go_loopw [8] (fun jv wr => ∃ j:Nat,j≤k∧jv=.int .i64 j∧Hid (Below g w wr)∧Hid (wr.heap[g]? = some (.cells (rowB c (S % 2 ^ (T + j))) 5 (0,0)))) (fun jv _ => k - (intOf jv).toNat)
          case atStart => exact ⟨0,Nat.zero_le _,rfl,HBEL,HROW0⟩
          case round =>
            clear HROW0 HBEL
            obtain ⟨j,hj,rfl,HBEL,HROW⟩:=hrel
            by_cases cj:j < k
            · have hcell:=(HBEL.out.cell (p:=⟨ab,off + i,none⟩) hab).trans HCELL.out
              obtain ⟨t,ht⟩:∃ t,t=T + j:=⟨_,rfl⟩
              have ht8:t < 8 * c:=by rw [ht];exact Nat.lt_of_lt_of_le (Nat.add_lt_add_left cj T) (Nat.le_trans hki h8)
              have et:(T:Int) + (j:Int)=(t:Int):=by rw [ht];rfl
              have HT2:=Lib.hid (show T + (j + 1)=t + 1 by rw [ht];rfl)
              have ht47:t≤281474976710656:=by rw [ht];exact Nat.le_trans (Nat.le_of_lt (Nat.add_lt_add_left cj T)) (Nat.le_trans hki hN)
              have hb:=Lib.hid (hbit.out j cj)
              rw [← ht] at hb HROW
              have hc0:=(cell_of_row wr g (t / 8) _ _ _ HROW.out).trans (rowB_at S t c ht8)
              have hfz:=frozen_of_row wr g (t / 8) _ _ HROW.out
              have hst:=Lib.hid (rowB_step S t c ht8)
              rw [hb.out] at hst
              have hp:=part_lt 8 S t
              have hor:=u8_or_bit (t % 8) (part 8 S t) (y / 2 ^ j % 2) (by omega) hp (by omega)
              have hq:=i64_and1 (y / 2 ^ j) (by have:=Nat.div_le_self y (2 ^ j);omega)
              have hv:y / 2 ^ j % 2≤1:=by omega
              have hej:((y / 2 ^ j:Nat):Int)=(y:Int) / 2 ^ j:=by rw [Int.natCast_ediv];simp
              rw [hej] at hq
              clear hb ht hp hej
              generalize part 8 S t=p at *
              generalize y / 2 ^ j % 2=v at *
              have h2r:2 ^ (t % 8)≤2 ^ 7:=Nat.pow_le_pow_right (by omega) (by omega)
              have h3r:2 ^ (t % 8) * v≤2 ^ (t % 8) * 1:=Nat.mul_le_mul_left _ hv
              have hsh:(v:Int) * 2 ^ (t % 8)=((2 ^ (t % 8) * v:Nat):Int):=by rw [Int.natCast_mul,Int.mul_comm];simp
              have hsh2:IntKind.i64.wrap ((v:Int) * 2 ^ (t % 8))=((2 ^ (t % 8) * v:Nat):Int):=by rw [hsh];exact wrap_i64_nat _ (by omega)
              have hq128:2 ^ (t % 8) * v≤128:=Nat.le_trans h3r (by rw [Nat.mul_one];exact h2r)
              clear h2r h3r hsh
              generalize 2 ^ (t % 8) * v=q at *
              have hq256:(q:Int) % 256=(q:Int):=by omega
              have hsz:t / 8 < (rowB c (S % 2 ^ t)).size:=by rw [rowB_size];omega
              have hb0:(0:Int)≤(t:Int) / 8:=by omega
              have hb1:(t:Int) / 8 < (c:Int):=by omega
              have hb2:((t:Int) / 8).toNat=t / 8:=by omega
              have hb3:((t:Int) % 8).toNat=t % 8:=by omega
              have hb4:IntKind.i64.wrap ((t:Int) / 8)=(t:Int) / 8:=by have:=wrap_i64_nat (t / 8) (by omega);rwa [Int.natCast_ediv] at this
              have hb5:IntKind.i64.wrap ((t:Int) % 8)=(t:Int) % 8:=by have:=wrap_i64_nat (t % 8) (by omega);rwa [Int.natCast_emod] at this
              have hb6:(t:Int).tmod 8=((t % 8:Nat):Int):=by rw [Int.tmod_eq_emod_of_nonneg (by omega)];omega
              have hb7:t % 8≤7:=by omega
              go_upto_region 13 with (fail)
              go_still_tail 21,(by kernel_rfl)
              change wpList _ _ _ _ _ wr.drew
              have HOR:Hid (bits .or .u8 (p:Int) ((q:Int) % 256)=((p + q:Nat):Int)):=by rw [hq256];exact hor
              clear e3 e5 hq hsh2 hor hb6 hb5 hb4 hb3 hb2 hb1 hb0 hcell hki2 et hki e2 e4 e1 hv hq128 hq256 hsz hN h8 hcb
              go_upto_region 11 with (fail)
              rw [HOR.out]
              have hrow1:((wr.setCell ⟨g,t / 8,none⟩ (.int .u8 ((p + q:Nat):Int))).drew).heap[g]? = some (.cells (rowB c (S % 2 ^ (T + (j + 1)))) 5 (0,0)):=by
                rw [HT2.out,← hst.out]
                exact heap_setCell_same _ _ _ _ _ _ HROW.out
              have HBEL1:=Lib.hid ((HBEL.out.setCell (p:=⟨g,t / 8,none⟩) (Nat.le_refl _) (.int .u8 ((p + q:Nat):Int))).drew)
              have HROW1:=Lib.hid hrow1
              clear hrow1 HOR HROW HBEL hc0 hfz
              generalize (wr.setCell ⟨g,t / 8,none⟩ (.int .u8 ((p + q:Nat):Int))).drew=wn at *
              go_wp2
              go_roundw
              case rel => first | exact ⟨j + 1,cj,by go_num,HBEL1,HROW1⟩ | ((repeat apply Exists.intro);exact ⟨⟨j + 1,cj,by go_num,HBEL1,HROW1⟩,rfl⟩)
              case measure => simp [intOf];omega
            · obtain rfl:j=k:=by omega
              go_wp2
              go_roundw
              case rel => exact ⟨i + 1,cl,ci,by go_num,HBEL,by rw [HEC.out];exact HROW⟩
              case measure => simp [intOf];omega
        · obtain rfl:i=L:=by omega
          have hno:=HOUT.out ci
          have HR:=Lib.hid (HPA.out.2 (Nat.ne_of_lt ci))
          clear HIN HOUT HBIT HPA HKI h HCELL
          generalize xs[i]=x at *
          rcases hno with hn | hn
          · go_wp2
            go_ret2
            exact ⟨by rw [HR.out];rfl,by rw [HG.out];exact HBEL.out⟩
          · generalize wid x.toNat=wy at *
            have e2:(k:Int) < (wy:Int):=by omega
            by_cases c0:x < 0
            · go_wp2
              go_ret2
              exact ⟨by rw [HR.out];rfl,by rw [HG.out];exact HBEL.out⟩
            · go_wp2_with (go_at_call 88;refine TW.out.mono ?_;rintro e w' ⟨rfl,rfl⟩)
              go_ret2
              exact ⟨by rw [HR.out];rfl,by rw [HG.out];exact HBEL.out⟩
      · obtain rfl:i=xs.length:=by omega
        have hLx:L=xs.length:=by have:=HLE.out;omega
        have HR:=Lib.hid (HPA.out.1 hLx)
        have hs:=HSLT.out
        rw [hLx] at hs
        have hrow:=HROW.out
        rw [Nat.mod_eq_of_lt hs] at hrow
        have hcv:=rowB_text hrow (by simp only [maxLen];omega)
        generalize textB (bytesN c S)=tx at *
        clear hs hrow HROW HIN HOUT HBIT HPA HKI HSLT hLx
        go_wp2
        go_ret2
        exact ⟨by rw [HR.out];rfl,by rw [HG.out];exact HBEL.out⟩
  · have e:=packA_width (xs:=xs) cz
    rw [e]
    clear e
    by_cases c0:z < 0
    · go_enter Tryz.func52,Tryz.ntmps52
      go_wp2
      go_ret2
      exact ⟨rfl,Below.refl _ _⟩
    · have c1:(16:Int) < z:=by omega
      clear cz
      go_enter Tryz.func52,Tryz.ntmps52
      go_wp2
      go_ret2
      exact ⟨rfl,Below.refl _ _⟩
end Go.Proofs.YtfbmlefhjoblbaaGreat
namespace Go.Proofs.YtfbmlefhjoblbaaGreat
open Go.Conc Go.RowKit
set_option linter.unusedVariables false
def rowD (k n X:Nat):Array Value:=(intCells ((unpackN k n X).map Int.ofNat)).toArray
theorem rowD_at (k S t n:Nat) (hk:0 < k) (ht:t < k * n):(rowD k n (S % 2 ^ t))[t / k]? = some (.int .i64 (part k S t:Nat)):=by
  have h:=digit_at k S t n hk ht
  simp only [rowD,intCells,List.getElem?_toArray,List.getElem?_map,h,Option.map_some]
  rfl
theorem rowD_step (k S t n:Nat) (hk:0 < k) (ht:t < k * n):(rowD k n (S % 2 ^ t)).setIfInBounds (t / k) (.int .i64 (part k S t + 2 ^ (t % k) * (S / 2 ^ t % 2):Nat))=rowD k n (S % 2 ^ (t + 1)):=by
  unfold rowD
  rw [digit_step k S t n hk ht,List.setIfInBounds_toArray]
  congr 1
  simp only [intCells,List.map_set]
  rfl
theorem rowD_none (k S n:Nat) (f:Nat→Int):rowI f n 0=rowD k n (S % 2 ^ 0):=by
  unfold rowD
  rw [digits_none]
  apply Array.ext_getElem?
  intro j
  by_cases hj:j < n
  · rw [rowI_get f n 0 j hj]
    simp [intCells,hj]
  · rw [rowI_none f n 0 j hj]
    simp [intCells,hj]
theorem rowD_full (k S n:Nat):rowD k n S=rowI (fun j => (dig k S j:Int)) n n:=by
  unfold rowD
  rw [unpack_range]
  apply Array.ext_getElem?
  intro j
  by_cases hj:j < n
  · rw [rowI_get _ n n j hj]
    simp [intCells,hj]
  · rw [rowI_none _ n n j hj]
    simp [intCells,hj]
theorem u8_and1 (q:Nat) (h:q < 256):bits .and .u8 (q:Int) 1=((q % 2:Nat):Int):=by
  have:=u8_and_nat q 1 h (by omega)
  rw [Nat.and_one_is_mod] at this
  exact this
theorem i64_or_bit (r p v:Nat) (hr:r≤16) (hp:p < 2 ^ r) (hv:v≤1):bits .or .i64 (p:Int) ((2 ^ r * v:Nat):Int)=((p + 2 ^ r * v:Nat):Int):=by
  have h2:2 ^ r≤2 ^ 16:=Nat.pow_le_pow_right (by omega) hr
  have h3:2 ^ r * v≤2 ^ r * 1:=Nat.mul_le_mul_left _ hv
  show IntKind.i64.wrap ((BitVec.ofInt 64 (p:Int) ||| BitVec.ofInt 64 ((2 ^ r * v:Nat):Int)).toNat:Int)=_
  rw [BitVec.toNat_or,ofInt_u64 _ (by omega),ofInt_u64 _ (by omega),Nat.or_comm,nat_join r (2 ^ r * v) p (Nat.mul_mod_right _ _) hp,Nat.add_comm]
  exact wrap_i64_nat _ (by omega)
theorem bit_zero {S t:Nat} (h:S / 2 ^ t % 2=0):S % 2 ^ (t + 1)=S % 2 ^ t:=by rw [mod_succ_pow,h,Nat.mul_zero,Nat.add_zero]
theorem bit_big {S t N:Nat} (h:S / 2 ^ t % 2=1) (hN:N≤t):S / 2 ^ N ≠ 0:=by
  intro e
  have h1:S < 2 ^ N:=by
    rcases Nat.lt_or_ge S (2 ^ N) with h | h
    · exact h
    · have:=Nat.div_pos h (Nat.two_pow_pos N);omega
  have h2:2 ^ N≤2 ^ t:=Nat.pow_le_pow_right (by omega) hN
  rw [Nat.div_eq_of_lt (by omega)] at h
  omega
set_option maxRecDepth 100000 in
set_option maxHeartbeats 4000000 in
theorem runpack_any (w:World) (s:ByteArray) (hs:s.size≤281474976710648) (many z:Int) :
    Calls Tryz.prog 100 #[.string s,.int .i64 many,.int .i64 z] w fun e w' => ∃ a cap,e=.returned (.tuple #[.slice a (unpackA s many z).1.length cap,.int .i64 (unpackA s many z).2])∧OwnI w.heap.size w' a cap (unpackA s many z).1∧Below w.heap.size w w':=by
  by_cases cz:0≤z∧z≤16
  · obtain ⟨k,rfl⟩:∃ k:Nat,z=k:=⟨z.toNat,by omega⟩
    have hk:k≤16:=by omega
    have k1:¬ (k:Int) < 0:=by omega
    have k2:decide ((16:Int) < (k:Int))=false:=decide_eq_false (by omega)
    have k3:decide ((k:Int) < 0)=false:=decide_eq_false (by omega)
    clear cz
    by_cases cm:0≤many∧many≤65536
    · obtain ⟨n,rfl⟩:∃ n:Nat,many=n:=⟨many.toNat,by omega⟩
      have hn:n≤65536:=by omega
      have m1:¬ (n:Int) < 0:=by omega
      have m2:decide ((65536:Int) < (n:Int))=false:=decide_eq_false (by omega)
      have m3:decide ((n:Int) < 0)=false:=decide_eq_false (by omega)
      have hkn:k * n≤16 * 65536:=Nat.mul_le_mul hk hn
      have hm0:(n:Int) * (k:Int)=((k * n:Nat):Int):=by rw [Int.natCast_mul,Int.mul_comm]
      have hm1:wrap64 ((n:Int) * (k:Int))=((k * n:Nat):Int):=by rw [hm0];unfold wrap64;omega
      have hm2:(((k * n:Nat):Int) + 7) / 8=(bytesFor n k:Nat):=by unfold bytesFor;rw [Nat.mul_comm k];omega
      clear cm hm0
      by_cases cs:s.size=bytesFor n k
      · have h8:k * n≤8 * s.size∧8 * s.size≤k * n + 7:=by rw [cs,bytesFor,Nat.mul_comm n k];omega
        rw [← cs] at hm2
        have HA:Hid ((numT s / 2 ^ (k * n)=0→unpackA s n k=((List.range n).map (fun i => (dig k (numT s) i:Int)),0))∧(numT s / 2 ^ (k * n) ≠ 0→unpackA s n k=([],602))):=⟨fun h => unpackA_yes hk hn ⟨cs,h⟩,fun h => unpackA_cut hk hn (fun x => h x.2)⟩
        have HL:=Lib.hid (numT_lt s)
        have HY:Hid (∀ t (h:t / 8 < s.size),numT s / 2 ^ t % 2=(s[t / 8]'h).toNat / 2 ^ (t % 8) % 2):=fun t h => byte_bit s.data.toList t h
        generalize hR:unpackA s n k=R at *
        generalize hS:numT s=S at *
        have hmk:=make_ints (fun j => (dig k S j:Int)) w n hn
        rw [rowD_none k S n] at hmk
        have HBEL:=Lib.hid ((Below.refl w.heap.size w).alloc (Nat.le_refl _) (.cells (rowD k n (S % 2 ^ 0)) 3))
        have HROW:=Lib.hid (heap_alloc_new w (.cells (rowD k n (S % 2 ^ 0)) 3))
        clear hR hS cs
        generalize hN:k * n=N at *
        have HN:=Lib.hid hN
        clear hN
        go_enter Tryz.func100,Tryz.ntmps100
        go_upto_region 8 with (fail)
        generalize w.alloc (.cells (rowD k n (S % 2 ^ 0)) 3)=w2 at *
        generalize hg:w.heap.size=g at *
        have HG:=Lib.hid hg
        clear hg hmk
        go_wp2
        go_loopw [9] (fun tv wr => ∃ t:Nat,t≤8 * s.size∧tv=.int .i64 t∧Hid (S % 2 ^ t < 2 ^ N)∧Hid (Below g w wr)∧Hid (wr.heap[g]? = some (.cells (rowD k n (S % 2 ^ t)) 3 (0,0)))) (fun tv _ => 8 * s.size - (intOf tv).toNat)
        case atStart => exact ⟨0,Nat.zero_le _,rfl,Lib.hid (by rw [Nat.pow_zero,Nat.mod_one];exact Nat.two_pow_pos _),HBEL,HROW⟩
        case round =>
          clear HROW HBEL
          obtain ⟨t,ht,rfl,HX,HBEL,HROW⟩:=hrel
          by_cases ct:t < 8 * s.size
          · have hd8:t / 8 < s.size:=by omega
            have hy:=HY.out t hd8
            have hxb:(s[t / 8]'hd8).toNat < 256:=(s[t / 8]'hd8).toNat_lt
            have e8a:(t:Int).tdiv 8=((t / 8:Nat):Int):=by rw [Int.tdiv_eq_ediv_of_nonneg (by omega)];omega
            have e8b:(t:Int) / 8=((t / 8:Nat):Int):=by omega
            have e8c:(t:Int).tmod 8=((t % 8:Nat):Int):=by rw [Int.tmod_eq_emod_of_nonneg (by omega)];omega
            have e8d:(t:Int) % 8=((t % 8:Nat):Int):=by omega
            have hr8:t % 8≤7:=by omega
            generalize t / 8=d8 at *
            generalize t % 8=r8 at *
            have ha1:=u8_and1 ((s[d8]'hd8).toNat / 2 ^ r8) (Nat.lt_of_le_of_lt (Nat.div_le_self _ _) hxb)
            rw [← hy,Int.natCast_ediv,Int.natCast_pow,show ((2:Nat):Int)=2 from rfl] at ha1
            have hv:S / 2 ^ t % 2≤1:=by omega
            have HV:=Lib.hid (rfl:S / 2 ^ t % 2=S / 2 ^ t % 2)
            clear hy
            obtain ⟨v,hvv⟩:∃ v,v=S / 2 ^ t % 2:=⟨_,rfl⟩
            rw [← hvv] at ha1 hv
            have HVV:=Lib.hid hvv
            clear hvv HV
            by_cases cN:N≤t
            · have cN2:(N:Int)≤(t:Int):=by omega
              by_cases v1:v=1
              · subst v1
                have HRR:=Lib.hid (HA.out.2 (bit_big HVV.out.symm cN))
                go_wp2
                go_ret2
                exact ⟨none,0,by rw [HRR.out];rfl,by rw [HRR.out];exact OwnI.nil _ _,by rw [HG.out];exact HBEL.out⟩
              · obtain rfl:v=0:=by omega
                have hb:=Lib.hid (bit_zero HVV.out.symm)
                have HX1:Hid (S % 2 ^ (t + 1) < 2 ^ N):=by rw [hb.out];exact HX.out
                have HROW1:Hid (wr.heap[g]? = some (.cells (rowD k n (S % 2 ^ (t + 1))) 3 (0,0))):=by rw [hb.out];exact HROW.out
                have cv:(((0:Nat):Int) == 1)=false:=rfl
                clear HX HROW hb
                go_wp2
                go_roundw
                case rel => exact ⟨t + 1,ct,by go_num,HX1,HBEL,HROW1⟩
                case measure => simp [intOf];omega
            · have cN2:¬ (N:Int)≤(t:Int):=by omega
              have cN3:t < N:=by omega
              have hk0:0 < k:=by
                rcases Nat.eq_zero_or_pos k with h | h
                · have:=HN.out;rw [h,Nat.zero_mul] at this;omega
                · exact h
              have ht8:t < k * n:=by rw [HN.out];exact cN3
              have hdn:t / k < n:=Nat.div_lt_of_lt_mul ht8
              have hrk:t % k < k:=Nat.mod_lt _ hk0
              have hc0:=(cell_of_row wr g (t / k) _ _ _ HROW.out).trans (rowD_at k S t n hk0 ht8)
              have hfz:=frozen_of_row wr g (t / k) _ _ HROW.out
              have hst:=Lib.hid (rowD_step k S t n hk0 ht8)
              rw [← HVV.out] at hst
              have hp:=part_lt k S t
              have HX1:Hid (S % 2 ^ (t + 1) < 2 ^ N):=by
                have h1:=Nat.mod_lt S (Nat.two_pow_pos (t + 1))
                exact Nat.lt_of_lt_of_le h1 (Nat.pow_le_pow_right (by omega) cN3)
              have hor:=i64_or_bit (t % k) (part k S t) v (by omega) hp hv
              have h2r:2 ^ (t % k)≤2 ^ 16:=Nat.pow_le_pow_right (by omega) (by omega)
              have h3r:2 ^ (t % k) * v≤2 ^ (t % k) * 1:=Nat.mul_le_mul_left _ hv
              have hsh:(v:Int) * 2 ^ (t % k)=((2 ^ (t % k) * v:Nat):Int):=by rw [Int.natCast_mul,Int.mul_comm];simp
              have hsh2:IntKind.i64.wrap ((v:Int) * 2 ^ (t % k))=((2 ^ (t % k) * v:Nat):Int):=by rw [hsh];exact wrap_i64_nat _ (by omega)
              have ed1:(t:Int).tdiv (k:Int)=((t / k:Nat):Int):=by rw [Int.tdiv_eq_ediv_of_nonneg (by omega),Int.natCast_ediv]
              have ed2:(t:Int) / (k:Int)=((t / k:Nat):Int):=by rw [Int.natCast_ediv]
              have er1:(t:Int).tmod (k:Int)=((t % k:Nat):Int):=by rw [Int.tmod_eq_emod_of_nonneg (by omega),Int.natCast_emod]
              have er2:(t:Int) % (k:Int)=((t % k:Nat):Int):=by rw [Int.natCast_emod]
              have ew1:IntKind.i64.wrap ((t / k:Nat):Int)=((t / k:Nat):Int):=wrap_i64_nat _ (by omega)
              have ew2:IntKind.i64.wrap ((t % k:Nat):Int)=((t % k:Nat):Int):=wrap_i64_nat _ (by omega)
              have ek0:((k:Int) == 0)=false:=by rw [beq_eq_false_iff_ne];omega
              have ek1:¬ (k:Int)=0:=by omega
              have ek2:¬ k=0:=by omega
              have hdi:((t / k:Nat):Int) < (n:Int):=by omega
              clear h2r h3r hsh hp ht8 HVV
              generalize part k S t=p at *
              generalize 2 ^ (t % k) * v=q at *
              generalize t / k=d at *
              generalize t % k=r at *
              go_upto_region 15 with (fail)
              go_still_tail 17,(by kernel_rfl)
              have HOR:=Lib.hid hor
              clear hor hsh2 ed1 ed2 er1 er2 ew1 ew2 ek0 ek1 ek2 hrk hk0 cN2 cN3 ha1 hxb hr8 e8a e8b e8c e8d m1 m2 m3 k1 k2 k3 hm1 hm2 hkn h8 hv cN
              change wpList _ _ _ _ _ wr.drew
              go_upto_region 10 with (fail)
              rw [show ((p:Int) + (q:Int))=((p + q:Nat):Int) from (Int.natCast_add p q).symm]
              have hrow1:((wr.setCell ⟨g,d,none⟩ (.int .i64 ((p + q:Nat):Int))).drew).heap[g]? = some (.cells (rowD k n (S % 2 ^ (t + 1))) 3 (0,0)):=by
                rw [← hst.out]
                exact heap_setCell_same _ _ _ _ _ _ HROW.out
              have HBEL1:=Lib.hid ((HBEL.out.setCell (p:=⟨g,d,none⟩) (Nat.le_refl _) (.int .i64 ((p + q:Nat):Int))).drew)
              have HROW1:=Lib.hid hrow1
              clear hrow1 HOR HROW HBEL hc0 hfz
              generalize (wr.setCell ⟨g,d,none⟩ (.int .i64 ((p + q:Nat):Int))).drew=wn at *
              go_wp2
              go_roundw
              case rel => exact ⟨t + 1,ct,by go_num,HX1,HBEL1,HROW1⟩
              case measure => simp [intOf];omega
          · obtain rfl:t=8 * s.size:=by omega
            have hX:=HX.out
            have e256:2 ^ (8 * s.size)=256 ^ s.size:=(p256 _).symm
            rw [e256,Nat.mod_eq_of_lt HL.out] at hX
            have hrow:=HROW.out
            rw [e256,Nat.mod_eq_of_lt HL.out,rowD_full] at hrow
            have HRR:=Lib.hid (HA.out.1 (Nat.div_eq_of_lt hX))
            have HRW:=Lib.hid hrow
            clear hX hrow HROW HX HL HY e256
            go_wp2
            go_ret2
            refine ⟨some ⟨g,0,none⟩,n,by rw [HRR.out];simp,?_,by rw [HG.out];exact HBEL.out⟩
            rw [HRR.out]
            exact own_row HRW.out (Nat.le_of_eq HG.out) (by simp only [maxLen];omega) rfl
      · have HA:=Lib.hid (unpackA_cut (s:=s) hk hn (fun x => cs x.1))
        generalize hR:unpackA s n k=R at *
        have hne:((s.size:Int) != (bytesFor n k:Int))=true:=by simp;omega
        generalize bytesFor n k=nb at *
        generalize k * n=N at *
        clear hR cs
        go_enter Tryz.func100,Tryz.ntmps100
        go_wp2
        go_ret2
        exact ⟨none,0,by rw [HA.out];rfl,by rw [HA.out];exact OwnI.nil _ _,Below.refl _ _⟩
    · have HA:=Lib.hid (unpackA_many (s:=s) hk cm)
      generalize hR:unpackA s many k=R at *
      clear hR
      by_cases c1:many < 0
      · go_enter Tryz.func100,Tryz.ntmps100
        go_wp2
        go_ret2
        exact ⟨none,0,by rw [HA.out];rfl,by rw [HA.out];exact OwnI.nil _ _,Below.refl _ _⟩
      · have c2:65536 < many:=by omega
        clear cm
        go_enter Tryz.func100,Tryz.ntmps100
        go_wp2
        go_ret2
        exact ⟨none,0,by rw [HA.out];rfl,by rw [HA.out];exact OwnI.nil _ _,Below.refl _ _⟩
  · have HA:=Lib.hid (unpackA_width (s:=s) (many:=many) cz)
    generalize hR:unpackA s many z=R at *
    clear hR
    by_cases c0:z < 0
    · go_enter Tryz.func100,Tryz.ntmps100
      go_wp2
      go_ret2
      exact ⟨none,0,by rw [HA.out];rfl,by rw [HA.out];exact OwnI.nil _ _,Below.refl _ _⟩
    · have c1:(16:Int) < z:=by omega
      clear cz
      go_enter Tryz.func100,Tryz.ntmps100
      go_wp2
      go_ret2
      exact ⟨none,0,by rw [HA.out];rfl,by rw [HA.out];exact OwnI.nil _ _,Below.refl _ _⟩
end Go.Proofs.YtfbmlefhjoblbaaGreat
