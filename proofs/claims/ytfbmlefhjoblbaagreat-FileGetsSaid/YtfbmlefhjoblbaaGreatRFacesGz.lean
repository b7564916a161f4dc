/- Spaces and remarks left out: a claim is at most so large. -/
import Derived.Test.YtfbmlefhjoblbaaGreatNPFileGetsGz6
import Derived.Test.YtfbmlefhjoblbaaGreatFacesGz
namespace Go.Proofs.YtfbmlefhjoblbaaGreat
open Go.RowKit
set_option linter.unusedVariables false
structure OAt (a w:World) (v:Value) (O:List UInt8):Prop where
  own:w.ownsRow a.heap.size 5 1 v O.length (byteCells O)
  bel:Below a.heap.size a w
theorem OAt.grow {a w w':World} {v v':Value} {O:List UInt8} (h:OAt a w v O) (l:List UInt8) (hown:w'.ownsRow a.heap.size 5 1 v' (O.length + l.length) (byteCells O ++ byteCells l)) (hg:w.grownBy w' v.ownBlock):OAt a w' v' (O ++ l):=by
  have hne:∀ k,v.ownBlock=some k→a.heap.size≤k:=fun k hk => own_block h.own hk.symm
  have hb:=h.bel
  exact ⟨by rw [List.length_append,byteCells_append];exact hown,⟨by rw [hg.os,hb.os],by rw [hg.tape,hb.tape],by rw [hg.output,hb.output],Nat.le_trans hb.size hg.size,fun k hk => (hg.block k (by have:=hb.size;omega) (fun e => by have:=hne k e.symm;omega)).trans (hb.block k hk)⟩⟩
theorem OAt.alloc {a w:World} {v:Value} {O:List UInt8} (h:OAt a w v O) (ob:Obj):OAt a (w.alloc ob) v O :=
  ⟨own_same h.own fun k _ hk => Below.heap_alloc w ob k hk,h.bel.alloc h.bel.size ob⟩
theorem wp_byte {a w:World} {v:Value} {O:List UInt8} (h:OAt a w v O) (hO:O.length≤20000) {ops:Array Oper} {rest:List Oper} {op:Oper} {A:Act} {Q:Exit→Act→World→Prop} (hgd:op.guard=none) (sl x:Operand)
    (ho:op.op=.call { callee:=.builtin .append,args:=#[sl,x],argTypes:=#[50,50] }) (c:UInt8) (z:Int) (hcz:(c.toNat:Int)=z) (hs:A.eval sl=v) (hx:A.eval x=.slice (some ⟨w.heap.size,0,none⟩) 1 1)
    (hK:∀ v' w',OAt a w' v' (O ++ [c])→wpList Tryz.prog ops Q rest (A.put op.dst v') w'):wpList Tryz.prog ops Q (op :: rest) A (w.alloc (.cells #[.int .u8 z] 5)):=by
  subst hcz
  obtain ⟨i0,hi0,hz0,hz1,hz2⟩:=info_parts infoByte
  have ha:=h.alloc (.cells #[.int .u8 (c.toNat:Int)] 5)
  have hb:(w.alloc (.cells #[.int .u8 (c.toNat:Int)] 5)).heap[w.heap.size]? = some (.cells #[.int .u8 (c.toNat:Int)] 5 (0,0)):=heap_alloc_new w _
  refine wpList_append_own _ hgd sl x 50 ho a.heap.size 5 i0 (.int .u8 0) 1 1 Tryz.underlying50 hi0 hz0 hz1 hz2 rfl (by decide) v O.length (byteCells O) hs ha.own ⟨w.heap.size,0,none⟩ 1 1 (byteCells [c]) hx rfl (fun j u hj => ?_) (fun u hu => ?_) (by simp only [maxLen];omega) (by omega) ha.bel.size ?_
  · have hj1:j < 1:=by have:=(List.getElem?_eq_some_iff.1 hj).1;simpa [byteCells] using this
    have hj0:j=0:=by omega
    subst hj0
    rw [show (⟨w.heap.size,0,none⟩:Addr).add 0=⟨w.heap.size,0,none⟩ by simp [Addr.add],cell_of_row _ _ _ _ _ _ hb]
    simpa [byteCells] using hj
  · simp [byteCells] at hu
    subst hu
    rfl
  intro v' w' hown hgrow _
  exact hK v' w' (ha.grow [c] hown hgrow)
set_option maxRecDepth 100000 in
set_option maxHeartbeats 1000000 in
theorem rparts_any (n:Nat) (h:n < 18446744073709551616) (w:World):Calls Tryz.prog 89 #[.int .u64 (n:Int)] w fun e w' => e=.returned (.string (textB (vp n)))∧Below w.heap.size w w':=by
  go_enter Tryz.func89,Tryz.ntmps89
  go_wp2
  go_loopw [0,3] (fun mv ov wr => ∃ (pre:List UInt8) (f m:Nat),vp n=pre ++ vpf f m∧f + pre.length=9∧m < 2 * 128 ^ f∧m < 18446744073709551616∧mv=.int .u64 m∧OAt w wr ov pre) (fun mv _ _ => (intOf mv).toNat)
  case atStart => exact ⟨[],9,n,rfl,rfl,by omega,h,rfl,World.ownsRow_nil _ _ _ _,Below.refl _ _⟩
  case round =>
    obtain ⟨pre,f,m,he,hf,hm,hm2,rfl,ho⟩:=hrel
    have HO:=Lib.hid ho
    clear ho
    by_cases c:m < 128
    · have e4:=u8_toNat m (by omega)
      have hv:vpf f m=[Go.Proofs.YtfbmlefhjoblbaaGreat.u8 m]:=by
        cases f with
        | zero => rfl
        | succ f => exact if_pos c
      rw [hv] at he
      go_wp2_with (at_builtin;refine wp_byte HO.out (by omega) rfl _ _ rfl (Go.Proofs.YtfbmlefhjoblbaaGreat.u8 m) _ (by rw [e4]) rfl rfl ?_;intro v1 u1 h1;have hcv:=own_text h1.own;have HS1:=Lib.hid h1;clear h1)
      go_ret
      exact ⟨by rw [he];rfl,HS1.out.bel⟩
    · have f0:f ≠ 0:=by
        intro e
        subst e
        simp at hm
        omega
      obtain ⟨f,rfl⟩:∃ j,f=j + 1:=⟨f - 1,by omega⟩
      have e4:=u8_toNat (128 + m % 128) (by omega)
      go_wp2_with (at_builtin;refine wp_byte HO.out (by omega) rfl _ _ rfl (Go.Proofs.YtfbmlefhjoblbaaGreat.u8 (128 + m % 128)) _ (by rw [e4];omega) rfl rfl ?_;intro v1 u1 h1;have HS1:=Lib.hid h1;clear h1)
      go_roundw
      case rel =>
        refine ⟨pre ++ [Go.Proofs.YtfbmlefhjoblbaaGreat.u8 (128 + m % 128)],f,m / 128,?_,by simp;omega,?_,by omega,by congr 1,HS1.out⟩
        · rw [he,vpf,if_neg c,List.append_assoc];rfl
        · rw [Nat.pow_succ] at hm;omega
      case measure => simp [intOf];omega
end Go.Proofs.YtfbmlefhjoblbaaGreat
namespace Go.Proofs.YtfbmlefhjoblbaaGreat
open Go.RowKit
set_option linter.unusedVariables false
def capR (most:Nat) (r:Nat × Int × Int):Nat × Int × Int:=if r.2.2=0∧most < r.1 then (0,0,501) else r
theorem seg_step (s:ByteArray) (k q j:Nat) (hq:k + q < s.size) (hj:j≤q) (hr:run (s.data.toList.drop k)=q) :
    vval ((seg (s.data.toList.drop k)).drop j)=(s[k + j]'(by omega)).toNat % 128 + 128 * vval ((seg (s.data.toList.drop k)).drop (j + 1)):=by
  have hl:run (s.data.toList.drop k) < (s.data.toList.drop k).length:=by rw [hr,drop_len];omega
  rw [vval_drop _ j (by rw [seg_length hl];omega),seg_get hl j (by omega),drop_get s k j (by omega)]
theorem seg_end (s:ByteArray) (k q:Nat) (hq:k + q < s.size) (hr:run (s.data.toList.drop k)=q):vval ((seg (s.data.toList.drop k)).drop (q + 1))=0:=by
  have hl:run (s.data.toList.drop k) < (s.data.toList.drop k).length:=by rw [hr,drop_len];omega
  rw [List.drop_of_length_le (by rw [seg_length hl];omega)];rfl
theorem top_at (s:ByteArray) (k q:Nat) (hq:k + q < s.size) (hr:run (s.data.toList.drop k)=q):top (s.data.toList.drop k)=(s[k + q]'(by omega)).toNat:=by
  have hl:run (s.data.toList.drop k) < (s.data.toList.drop k).length:=by rw [hr,drop_len];omega
  rw [top_get hl]
  simp only [hr]
  rw [drop_get s k q hq]
theorem rem7 (b:UInt8):(IntKind.u64.wrap (b.toNat:Int)).tmod 128=(b.toNat:Int) % 128:=by
  have:=b.toNat_lt
  rw [IntKind.wrap_u64,Int.tmod_eq_emod_of_nonneg (by omega)]
  omega
set_option maxRecDepth 100000 in
set_option maxHeartbeats 4000000 in
theorem rvget_any (s:ByteArray) (hs:s.size≤281474976710648) (a:Int) (most:Nat) (hm:most < 18446744073709551616) (w:World):Calls Tryz.prog 134 #[.string s,.int .i64 a,.int .u64 (most:Int)] w fun e w' =>
    e=.returned (.tuple #[.int .u64 ((capR most (readN s.data.toList a)).1:Int),.int .i64 (capR most (readN s.data.toList a)).2.1,.int .i64 (capR most (readN s.data.toList a)).2.2])∧w=w':=by
  by_cases c0:a < 0
  · have hr:readN s.data.toList a=(0,0,500):=readN_out (.inl c0)
    rw [hr]
    clear hr
    go_enter Tryz.func134,Tryz.ntmps134
    go_wp2
    go_ret3
    exact ⟨rfl,rfl⟩
  by_cases c1:(s.size:Int) < a
  · have hr:readN s.data.toList a=(0,0,500):=readN_out (.inr (by rw [← size_list];exact c1))
    rw [hr]
    clear hr
    go_enter Tryz.func134,Tryz.ntmps134
    go_wp2
    go_ret3
    exact ⟨rfl,rfl⟩
  obtain ⟨k,rfl⟩:∃ k:Nat,a=k:=⟨a.toNat,by omega⟩
  have hk:k≤s.size:=by omega
  clear c0 c1
  go_enter Tryz.func134,Tryz.ntmps134
  go_wp2
  go_loop [9] (fun qv => ∃ q:Nat,k + q≤s.size∧qv=.int .i64 q∧Hid (∀ i (h:i < k + q) (h2:i < s.size),k≤i→128≤s[i].toNat)) (fun qv => s.size - (intOf qv).toNat)
  case atStart => exact ⟨0,hk,rfl,fun i h _ h2 => by omega⟩
  case round =>
    obtain ⟨q,hq,rfl,hall⟩:=hrel
    obtain ⟨p,hp⟩:∃ p:Nat,p=k + q:=⟨_,rfl⟩
    have ep:(k:Int) + (q:Int)=(p:Int):=by omega
    rw [← hp] at hq hall
    by_cases c:p < s.size
    · by_cases cb:s[p].toNat < 128
      · have hr:=run_span s k p (by omega) c cb (fun i h h2 => hall.out i h (by omega) h2)
        rw [show p - k=q by omega] at hr
        have hl:run (s.data.toList.drop k) < (s.data.toList.drop k).length:=by rw [hr,drop_len];omega
        have hbad:=bad_iff hl
        have ht:top (s.data.toList.drop k)=s[p].toNat:=by
          have:=top_at s k q (by omega) hr
          simp only [← hp] at this
          exact this
        have hbad:bad (s.data.toList.drop k) ↔ 9 < q∨(q=9∧1 < s[p].toNat)∨(0 < q∧s[p].toNat=0):=by rw [hbad,hr,ht]
        have hk2:k≤s.data.toList.length:=by rw [← size_list];omega
        have HB:=Lib.hid hbad
        have HN:=Lib.hid (fun hb => readN_bad hk2 hl (hbad.2 hb))
        have HY:Hid (¬ bad (s.data.toList.drop k)→readN s.data.toList k=(vval (seg (s.data.toList.drop k)),(p:Int) + 1,0)):=fun hb => by
          rw [readN_yes hk2 hl hb,hr]
          refine Prod.ext rfl (Prod.ext ?_ rfl)
          show (k:Int) + (q:Int) + 1=(p:Int) + 1
          omega
        have HS:Hid (∀ (j z:Nat) (hz:z < s.size),j≤q→z=k + j→vval ((seg (s.data.toList.drop k)).drop j)=s[z].toNat % 128 + 128 * vval ((seg (s.data.toList.drop k)).drop (j + 1))):=fun j z hz hj ez => by
          subst ez
          exact seg_step s k q j (by omega) hj hr
        have HE:=Lib.hid (seg_end s k q (by omega) hr)
        have HL:=Lib.hid (vval_drop_le (seg (s.data.toList.drop k)))
        have HP:=Lib.hid hp
        clear hall hbad ht hk2 hl hr hp
        by_cases q9:9 < q
        · have f1:(9:Int) < q:=by omega
          have h2:=HN.out (by omega)
          have h3:capR most (readN s.data.toList k)=(0,0,501):=by rw [h2];exact if_neg (fun x => absurd x.1 (by decide))
          clear HB HN HY HS HE HL h2
          go_wp2
          go_ret3
          exact ⟨by first | rfl | (rw [h3];rfl),rfl⟩
        by_cases qe:q=9
        · subst qe
          replace ep:(k:Int) + 9=(p:Int):=by omega
          by_cases t1:1 < s[p].toNat
          · have f2:(1:Int) < s[p].toNat:=by omega
            have h2:=HN.out (by omega)
            have h3:capR most (readN s.data.toList k)=(0,0,501):=by rw [h2];exact if_neg (fun x => absurd x.1 (by decide))
            clear HB HN HY HS HE HL h2
            go_wp2
            go_ret3
            exact ⟨by first | rfl | (rw [h3];rfl),rfl⟩
          by_cases t0:s[p].toNat=0
          · have h2:=HN.out (by omega)
            have h3:capR most (readN s.data.toList k)=(0,0,501):=by rw [h2];exact if_neg (fun x => absurd x.1 (by decide))
            clear HB HN HY HS HE HL h2
            go_wp2
            go_ret3
            exact ⟨by first | rfl | (rw [h3];rfl),rfl⟩
          · have tv:s[p].toNat=1:=by omega
            have hnb:¬ bad (s.data.toList.drop k):=fun x => by have:=HB.out.1 x;omega
            have h2:=HY.out hnb
            have hV:vval (seg (s.data.toList.drop k)) < 18446744073709551616:=by unfold bad at hnb;omega
            clear HB HN HY hnb
            generalize seg (s.data.toList.drop k)=D at *
            have H2:=Lib.hid h2
            clear h2
            go_wp2
            go_loop [10,11] (fun yv iv => ∃ j v:Nat,j≤9 + 1∧iv=.int .i64 ((j:Int) - 1)∧yv=.int .u64 v∧v=vval (D.drop j)) (fun _ iv => (intOf iv + 1).toNat)
            case atStart => exact ⟨9 + 1,0,by omega,by first | rfl | (congr 1;omega),rfl,HE.out.symm⟩
            case round =>
              obtain ⟨j,v,hj,rfl,rfl,e⟩:=hrel
              by_cases cj:j=0
              · subst cj
                replace e:v=vval D:=e
                rw [← e] at hV
                by_cases cm:most < v
                · have h3:capR most (readN s.data.toList k)=(0,0,501):=by rw [H2.out,← e];exact if_pos ⟨rfl,cm⟩
                  clear HS HE HL H2 e
                  go_wp2
                  go_ret3
                  exact ⟨by first | rfl | (rw [h3];rfl),rfl⟩
                · have h3:capR most (readN s.data.toList k)=(v,(p:Int) + 1,0):=by rw [H2.out,← e];exact if_neg (fun x => cm x.2)
                  clear HS HE HL H2 e
                  go_wp2
                  go_ret3
                  exact ⟨by first | rfl | (rw [h3];rfl),rfl⟩
              · obtain ⟨j,rfl⟩:∃ m,j=m + 1:=⟨j - 1,by omega⟩
                have ej:(((j + 1:Nat):Int)) - 1=(j:Int):=by omega
                rw [ej]
                obtain ⟨z,hz⟩:∃ z:Nat,z=k + j:=⟨_,rfl⟩
                have hp:=HP.out
                have hzs:z < s.size:=by omega
                have ez:(k:Int) + (j:Int)=(z:Int):=by omega
                have ed:=HS.out j z hzs (by omega) hz
                rw [← e] at ed
                have hle:=HL.out j
                have cv:v < 144115188075855872:=by omega
                have e2:=join7 v s[z].toNat cv
                have e3:=rem7 s[z]
                clear e hle HS HE HL H2 hz hp
                go_wp2
                go_round
                case rel => exact ⟨j,s[z].toNat % 128 + 128 * v,by omega,rfl,rfl,ed.symm⟩
                case measure => simp [intOf]
        by_cases q0:q=0
        · subst q0
          clear ep
          obtain rfl:k=p:=by have:=HP.out;omega
          have hnb:¬ bad (s.data.toList.drop k):=fun x => by have:=HB.out.1 x;omega
          have h2:=HY.out hnb
          have hV:vval (seg (s.data.toList.drop k)) < 18446744073709551616:=by unfold bad at hnb;omega
          clear HB HN HY hnb
          generalize seg (s.data.toList.drop k)=D at *
          have H2:=Lib.hid h2
          clear h2
          go_wp2
          go_loop [10,11] (fun yv iv => ∃ j v:Nat,j≤0 + 1∧iv=.int .i64 ((j:Int) - 1)∧yv=.int .u64 v∧v=vval (D.drop j)) (fun _ iv => (intOf iv + 1).toNat)
          case atStart => exact ⟨0 + 1,0,by omega,by first | rfl | (congr 1;omega),rfl,HE.out.symm⟩
          case round =>
            obtain ⟨j,v,hj,rfl,rfl,e⟩:=hrel
            by_cases cj:j=0
            · subst cj
              replace e:v=vval D:=e
              rw [← e] at hV
              by_cases cm:most < v
              · have h3:capR most (readN s.data.toList k)=(0,0,501):=by rw [H2.out,← e];exact if_pos ⟨rfl,cm⟩
                clear HS HE HL H2 e
                go_wp2
                go_ret3
                exact ⟨by first | rfl | (rw [h3];rfl),rfl⟩
              · have h3:capR most (readN s.data.toList k)=(v,(k:Int) + 1,0):=by rw [H2.out,← e];exact if_neg (fun x => cm x.2)
                clear HS HE HL H2 e
                go_wp2
                go_ret3
                exact ⟨by first | rfl | (rw [h3];rfl),rfl⟩
            · obtain ⟨j,rfl⟩:∃ m,j=m + 1:=⟨j - 1,by omega⟩
              have ej:(((j + 1:Nat):Int)) - 1=(j:Int):=by omega
              rw [ej]
              obtain ⟨z,hz⟩:∃ z:Nat,z=k + j:=⟨_,rfl⟩
              have hp:=HP.out
              have hzs:z < s.size:=by omega
              have ez:(k:Int) + (j:Int)=(z:Int):=by omega
              have ed:=HS.out j z hzs (by omega) hz
              rw [← e] at ed
              have hle:=HL.out j
              have cv:v < 144115188075855872:=by omega
              have e2:=join7 v s[z].toNat cv
              have e3:=rem7 s[z]
              clear e hle HS HE HL H2 hz hp
              go_wp2
              go_round
              case rel => exact ⟨j,s[z].toNat % 128 + 128 * v,by omega,rfl,rfl,ed.symm⟩
              case measure => simp [intOf]
        have f1:(0:Int) < q:=by omega
        have f2:¬ (9:Int) < q:=by omega
        have f3:((q:Int) == 9)=false:=by rw [beq_eq_false_iff_ne];omega
        by_cases t0:s[p].toNat=0
        · have h2:=HN.out (by omega)
          have h3:capR most (readN s.data.toList k)=(0,0,501):=by rw [h2];exact if_neg (fun x => absurd x.1 (by decide))
          clear HB HN HY HS HE HL h2
          go_wp2
          go_ret3
          exact ⟨by first | rfl | (rw [h3];rfl),rfl⟩
        · have f4:((s[p].toNat:Int) == 0)=false:=by rw [beq_eq_false_iff_ne];omega
          have hnb:¬ bad (s.data.toList.drop k):=fun x => by have:=HB.out.1 x;omega
          have h2:=HY.out hnb
          have hV:vval (seg (s.data.toList.drop k)) < 18446744073709551616:=by unfold bad at hnb;omega
          clear HB HN HY hnb
          generalize seg (s.data.toList.drop k)=D at *
          have H2:=Lib.hid h2
          clear h2
          go_wp2
          go_loop [10,11] (fun yv iv => ∃ j v:Nat,j≤q + 1∧iv=.int .i64 ((j:Int) - 1)∧yv=.int .u64 v∧v=vval (D.drop j)) (fun _ iv => (intOf iv + 1).toNat)
          case atStart => exact ⟨q + 1,0,by omega,by first | rfl | (congr 1;omega),rfl,HE.out.symm⟩
          case round =>
            obtain ⟨j,v,hj,rfl,rfl,e⟩:=hrel
            by_cases cj:j=0
            · subst cj
              replace e:v=vval D:=e
              rw [← e] at hV
              by_cases cm:most < v
              · have h3:capR most (readN s.data.toList k)=(0,0,501):=by rw [H2.out,← e];exact if_pos ⟨rfl,cm⟩
                clear HS HE HL H2 e
                go_wp2
                go_ret3
                exact ⟨by first | rfl | (rw [h3];rfl),rfl⟩
              · have h3:capR most (readN s.data.toList k)=(v,(p:Int) + 1,0):=by rw [H2.out,← e];exact if_neg (fun x => cm x.2)
                clear HS HE HL H2 e
                go_wp2
                go_ret3
                exact ⟨by first | rfl | (rw [h3];rfl),rfl⟩
            · obtain ⟨j,rfl⟩:∃ m,j=m + 1:=⟨j - 1,by omega⟩
              have ej:(((j + 1:Nat):Int)) - 1=(j:Int):=by omega
              rw [ej]
              obtain ⟨z,hz⟩:∃ z:Nat,z=k + j:=⟨_,rfl⟩
              have hp:=HP.out
              have hzs:z < s.size:=by omega
              have ez:(k:Int) + (j:Int)=(z:Int):=by omega
              have ed:=HS.out j z hzs (by omega) hz
              rw [← e] at ed
              have hle:=HL.out j
              have cv:v < 144115188075855872:=by omega
              have e2:=join7 v s[z].toNat cv
              have e3:=rem7 s[z]
              clear e hle HS HE HL H2 hz hp
              go_wp2
              go_round
              case rel => exact ⟨j,s[z].toNat % 128 + 128 * v,by omega,rfl,rfl,ed.symm⟩
              case measure => simp [intOf]
      · have hall2:Hid (∀ i (h:i < k + (q + 1)) (h2:i < s.size),k≤i→128≤s[i].toNat):=fun i h h2 h3 => by
          by_cases ci:i=p
          · subst ci;omega
          · exact hall.out i (by omega) h2 h3
        have hq2:k + (q + 1)≤s.size:=by omega
        clear hall hp
        go_wp2
        go_round
        case rel => exact ⟨q + 1,hq2,by go_num,hall2⟩
        case measure => simp [intOf];omega
    · obtain rfl:p=s.size:=by omega
      have hr:=readN_cut (l:=s.data.toList) (k:=k) (run_none s k hk (fun i h h2 => hall.out i h h h2))
      have h3:capR most (readN s.data.toList k)=(0,0,500):=by rw [hr];exact if_neg (fun x => absurd x.1 (by decide))
      clear hall hr hp
      go_wp2
      go_ret3
      exact ⟨by first | rfl | (rw [h3];rfl),rfl⟩
end Go.Proofs.YtfbmlefhjoblbaaGreat
namespace Go.Proofs.YtfbmlefhjoblbaaGreat
open Go.RowKit
set_option linter.unusedVariables false
set_option maxRecDepth 100000 in
theorem rvarint_any (n:Nat) (h:n < 9223372036854775808) (w:World):Calls Tryz.prog 53 #[.int .i64 (n:Int)] w fun e w' => e=.returned (.string (textB (vp n)))∧Below w.heap.size w w':=by
  have T:=Lib.hid (rparts_any n (by omega))
  go_enter Tryz.func53,Tryz.ntmps53
  go_wp2_with (go_at_call 89;refine (T.out _).mono ?_;rintro e w' ⟨rfl,hb⟩;have HB:=Lib.hid hb;clear hb)
  go_ret
  exact ⟨rfl,HB.out⟩
theorem readN_form (l:List UInt8) (a:Int):(readN l a).2.2=0∨readN l a=(0,0,500)∨readN l a=(0,0,501):=by
  unfold readN
  split
  · simp
  split
  · simp
  split
  · simp
  · simp
set_option maxRecDepth 100000 in
theorem runvar_any (s:ByteArray) (hs:s.size≤281474976710648) (a:Int) (w:World):Calls Tryz.prog 99 #[.string s,.int .i64 a] w fun e w' =>
    e=.returned (.tuple #[.int .i64 (getA (readN s.data.toList a)).1,.int .i64 (getA (readN s.data.toList a)).2.1,.int .i64 (getA (readN s.data.toList a)).2.2])∧w=w':=by
  have T:=Lib.hid (rvget_any s hs a 9223372036854775807 (by omega))
  have hlt:=readN_lt s.data.toList a
  have hE:=readN_form s.data.toList a
  have hc:∃ N:Nat,∃ P E:Int,N < 9223372036854775808∧capR 9223372036854775807 (readN s.data.toList a)=(N,P,E)∧getA (readN s.data.toList a)=((N:Int),P,E):=by
    rcases hE with h | h | h
    · by_cases c:9223372036854775807 < (readN s.data.toList a).1
      · exact ⟨0,0,501,by omega,if_pos ⟨h,c⟩,by unfold getA;rw [if_pos h,if_pos c];rfl⟩
      · refine ⟨(readN s.data.toList a).1,(readN s.data.toList a).2.1,0,by omega,?_,by unfold getA;rw [if_pos h,if_neg c]⟩
        unfold capR
        rw [if_neg (fun x => c x.2),← h]
    · exact ⟨0,0,500,by omega,by rw [h];rfl,by rw [h];rfl⟩
    · exact ⟨0,0,501,by omega,by rw [h];rfl,by rw [h];rfl⟩
  obtain ⟨N,P,E,hN,h1,h2⟩:=hc
  rw [h1] at T
  rw [h2]
  clear h1 h2 hE hlt
  have T:Hid (∀ w:World,Calls Tryz.prog 134 #[.string s,.int .i64 a,.int .u64 9223372036854775807] w fun e w' => e=.returned (.tuple #[.int .u64 (N:Int),.int .i64 P,.int .i64 E])∧w=w'):=T
  go_enter Tryz.func99,Tryz.ntmps99
  go_wp2_with (go_at_call 134;refine (T.out _).mono ?_;rintro e w' ⟨rfl,rfl⟩)
  go_ret3
  exact ⟨rfl,rfl⟩
set_option maxRecDepth 100000 in
theorem rzag_any (s:ByteArray) (hs:s.size≤281474976710648) (a:Int) (w:World):Calls Tryz.prog 135 #[.string s,.int .i64 a] w fun e w' =>
    e=.returned (.tuple #[.int .i64 (zagA (readN s.data.toList a)).1,.int .i64 (zagA (readN s.data.toList a)).2.1,.int .i64 (zagA (readN s.data.toList a)).2.2])∧w=w':=by
  have T:=Lib.hid (rvget_any s hs a 18446744073709551615 (by omega))
  have hlt:=readN_lt s.data.toList a
  have hE:=readN_form s.data.toList a
  have hc:∃ N:Nat,∃ P E:Int,N < 18446744073709551616∧capR 18446744073709551615 (readN s.data.toList a)=(N,P,E)∧zagA (readN s.data.toList a)=(unzz N,P,E):=by
    rcases hE with h | h | h
    · refine ⟨(readN s.data.toList a).1,(readN s.data.toList a).2.1,0,by omega,?_,by unfold zagA;rw [if_pos h]⟩
      unfold capR
      rw [if_neg (fun x => by omega),← h]
    · exact ⟨0,0,500,by omega,by rw [h];rfl,by rw [h];rfl⟩
    · exact ⟨0,0,501,by omega,by rw [h];rfl,by rw [h];rfl⟩
  obtain ⟨N,P,E,hN,h1,h2⟩:=hc
  rw [h1] at T
  rw [h2]
  clear h1 h2 hE hlt
  have T:Hid (∀ w:World,Calls Tryz.prog 134 #[.string s,.int .i64 a,.int .u64 18446744073709551615] w fun e w' => e=.returned (.tuple #[.int .u64 (N:Int),.int .i64 P,.int .i64 E])∧w=w'):=T
  by_cases c:N % 2=1
  · have hz:unzz N = -((N / 2:Nat):Int) - 1:=if_pos c
    rw [hz]
    clear hz
    have e1:(N:Int).tmod 2=1:=by rw [Int.tmod_eq_emod_of_nonneg (by omega)];omega
    have e2:(N:Int) % 2=1:=by omega
    have e3:(N:Int).tdiv 2=(N:Int) / 2:=Int.tdiv_eq_ediv_of_nonneg (by omega)
    go_enter Tryz.func135,Tryz.ntmps135
    go_wp2_with (go_at_call 134;refine (T.out _).mono ?_;rintro e w' ⟨rfl,rfl⟩)
    go_ret3
    exact ⟨rfl,rfl⟩
  · have hz:unzz N=((N / 2:Nat):Int):=if_neg c
    rw [hz]
    clear hz
    have e1:(N:Int).tmod 2=0:=by rw [Int.tmod_eq_emod_of_nonneg (by omega)];omega
    have e2:(N:Int) % 2=0:=by omega
    have e3:(N:Int).tdiv 2=(N:Int) / 2:=Int.tdiv_eq_ediv_of_nonneg (by omega)
    go_enter Tryz.func135,Tryz.ntmps135
    go_wp2_with (go_at_call 134;refine (T.out _).mono ?_;rintro e w' ⟨rfl,rfl⟩)
    go_ret3
    exact ⟨rfl,rfl⟩
set_option maxRecDepth 100000 in
theorem rzig_any (x:Int) (h0:-9223372036854775808≤x) (h1:x < 9223372036854775808) (w:World):Calls Tryz.prog 117 #[.int .i64 x] w fun e w' => e=.returned (.string (textB (vp (zz x))))∧Below w.heap.size w w':=by
  by_cases c:x < 0
  · obtain ⟨y,hy⟩:∃ y:Nat,x = -(y:Int) - 1:=⟨(-x - 1).toNat,by omega⟩
    subst hy
    have ez:zz (-(y:Int) - 1)=y * 2 + 1:=by unfold zz;rw [if_pos c];omega
    rw [ez]
    have T:=Lib.hid (rparts_any (y * 2 + 1) (by omega))
    rw [show ((y * 2 + 1:Nat):Int)=(y:Int) * 2 + 1 by omega] at T
    generalize textB (vp (y * 2 + 1))=t at *
    have e1:-(y:Int) - 1 + 1 = -(y:Int):=by omega
    go_enter Tryz.func117,Tryz.ntmps117
    go_wp2_with (go_at_call 89;refine (T.out _).mono ?_;rintro e w' ⟨rfl,hb⟩;have HB:=Lib.hid hb;clear hb)
    go_ret
    exact ⟨rfl,HB.out⟩
  · obtain ⟨y,hy⟩:∃ y:Nat,x=(y:Int):=⟨x.toNat,by omega⟩
    subst hy
    have ez:zz (y:Int)=y * 2:=by unfold zz;rw [if_neg c];omega
    rw [ez]
    have T:=Lib.hid (rparts_any (y * 2) (by omega))
    rw [show ((y * 2:Nat):Int)=(y:Int) * 2 by omega] at T
    generalize textB (vp (y * 2))=t at *
    go_enter Tryz.func117,Tryz.ntmps117
    go_wp2_with (go_at_call 89;refine (T.out _).mono ?_;rintro e w' ⟨rfl,hb⟩;have HB:=Lib.hid hb;clear hb)
    go_ret
    exact ⟨rfl,HB.out⟩
end Go.Proofs.YtfbmlefhjoblbaaGreat
