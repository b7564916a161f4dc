/- Spaces and remarks left out: a claim is at most so large. Spaces and remarks left out: a claim is at most so large. -/
import Derived.Test.YtfbmlefhjoblbaaGreatDatLGz
import Derived.Test.YtfbmlefhjoblbaaGreatFAwGz
import Derived.Test.YtfbmlefhjoblbaaGreatRUnfMGz
import Derived.Test.YtfbmlefhjoblbaaGreatRStatsGz
namespace Go.Proofs.YtfbmlefhjoblbaaGreat
open Go.Conc Go.RowKit
set_option linter.unusedVariables false
set_option linter.unusedSimpArgs false
set_option maxRecDepth 100000 in
set_option maxHeartbeats 1000000 in
theorem spoilrows_any (w:World) (a:Option Addr) (c B T:Nat) (us:List (Option Addr × Nat)) (rs:List (List V)) (ho:OwnR B w a rs.length c (rowCells us rs)) (hv:RowsOwn B w us rs) (hx:rs.length≤maxLen) (hl:∀ r ∈ rs,r.length≤maxLen) (hT:∀ k,At a k→k < T) (hT2:∀ i (h:i < us.length) k,At us[i].1 k→k < T) :
    Calls Tryz.prog 43 #[.slice a rs.length c] w fun e w' => e=.returned (.tuple #[])∧Frm (fun k => B≤k∧k < T) w w':=by
  unfold maxLen at hx
  have hge:∀ k,At a k→B≤k:=fun k hk => (own_ge ho hk).1
  rcases ho.2 with ⟨hv9,h0⟩ | ⟨g,cp,cur,hva,_,hg,hn,hm,hs,ht⟩
  · injection hv9 with h1 h2 h3
    subst h1 h3
    rw [h0]
    clear ho hv hx hl hT hT2 hge h0 h2
    go_enter Tryz.func43,Tryz.ntmps43
    go_wp2
    go_loop [2] (fun iv => iv=.int .i64 0) (fun _ => 0)
    case atStart => rfl
    case round =>
      subst hrel
      go_wp2
      go_end0
      exact ⟨rfl,Frm.refl _ _⟩
  · injection hva with h1 h2 h3
    subst h1
    have hrd:∀ i,i < rs.length→∃ hu:i < us.length,∀ hr:i < rs.length,cur[i]? = some (.slice us[i].1 rs[i].length us[i].2):=fun i hi => by
      have hu:i < us.length:=by rw [hv.len];exact hi
      refine ⟨hu,fun hr => ?_⟩
      have h4:=OwnR.read (n:=rs.length) ho i _ (rowCells_get hu hi)
      rw [cell_of_row _ _ _ _ _ _ hg] at h4
      exact h4
    have hgB:B≤g∧g < T:=⟨hge g rfl,hT g rfl⟩
    have hne:∀ i (h:i < us.length) k,At us[i].1 k→k ≠ g:=fun i h k hk e => by
      subst e
      exact own_types (by decide) ho (hv.own i h (by rw [← hv.len];exact h)) (k:=k) rfl hk
    have HC:=Lib.hid hg
    have HR:=Lib.hid hrd
    have HV:=Lib.hid hv
    have HL:=Lib.hid hl
    have HT2:=Lib.hid hT2
    have HNE:=Lib.hid hne
    have HGB:=Lib.hid hgB
    clear hg hrd hv hl hT2 hne ho hs ht hm hn hT hge hgB h2 h3
    go_enter Tryz.func43,Tryz.ntmps43
    go_wp2
    go_loopw [2] (fun iv wr => ∃ n:Nat,n≤rs.length∧iv=.int .i64 n∧Hid (Frm (fun k => B≤k∧k < T) w wr)∧Hid (∃ cur,wr.heap[g]? = some (.cells cur 82 (0,0))∧∀ i,n≤i→i < rs.length→∃ hu:i < us.length,∀ hr:i < rs.length,cur[i]? = some (.slice us[i].1 rs[i].length us[i].2))∧Hid (∀ i (h:i < us.length) (h2:i < rs.length),n≤i→OwnV B wr us[i].1 us[i].2 rs[i])) (fun iv _ => rs.length - (intOf iv).toNat)
    case atStart => exact ⟨0,Nat.zero_le _,rfl,Frm.refl _ _,⟨cur,HC.out,fun i _ hi => HR.out i hi⟩,fun i h h2 _ => HV.out.own i h h2⟩
    case round =>
      obtain ⟨n,hle,rfl,HF,HCU,HOV⟩:=hrel
      clear HC HR
      by_cases cn:n < rs.length
      · obtain ⟨cr,hcr,hall⟩:=HCU.out
        obtain ⟨hu,hz0⟩:=hall n (Nat.le_refl _) cn
        have hz:=hz0 cn
        have hce:=(cell_of_row wr g n _ _ _ hcr).trans hz
        have hov:=HOV.out n hu cn (Nat.le_refl _)
        have hlx:=HL.out _ (List.getElem_mem cn)
        have T1:=Lib.hid (spoilvals_any wr us[n].1 us[n].2 B rs[n] hov hlx)
        have hat:=HT2.out n hu
        have hatn:=HNE.out n hu
        have hap:∀ i (h:i < us.length),n + 1≤i→∀ k,At us[i].1 k→¬ At us[n].1 k:=fun i h hi k hk hk2 => HV.out.apart n i (by omega) h k hk2 hk
        have hgeu:∀ k,At us[n].1 k→B≤k:=fun k hk => (hov.at_ge hk).1
        have HAT:=Lib.hid hat
        have HATN:=Lib.hid hatn
        have HAP:=Lib.hid hap
        have HGEU:=Lib.hid hgeu
        have HALL:=Lib.hid hall
        have HCR:=Lib.hid hcr
        have hns:n < cr.size:=(Array.getElem?_eq_some_iff.1 hz).1
        have HZ:=Lib.hid hns
        have HZV:=Lib.hid hz
        have hni:(n:Int) < (rs.length:Int):=by omega
        clear hall hz hz0 hov hlx hat hatn hap hgeu hcr hns
        generalize us[n].1=ax at *
        generalize us[n].2=kx at *
        generalize rs[n]=x at *
        go_wp2_with (go_at_call 26;refine T1.out.mono ?_;rintro e w1 ⟨rfl,hf⟩;have hgs:w1.heap[g]? = some (.cells cr 82 (0,0)):=(hf.block g (by have:=HCR.out;exact (Array.getElem?_eq_some_iff.1 this).1) (fun e => HATN.out g e rfl)).trans HCR.out;have HF1:=Lib.hid hf;have HG1:=Lib.hid hgs;have hfz:=frozen_of_row w1 g n _ _ hgs;have hce1:=(cell_of_row w1 g n _ _ _ hgs).trans HZV.out;clear hgs hf)
        go_roundw
        case rel =>
          have hf2:Frm (fun k => B≤k∧k < T) wr w1:=HF1.out.mono fun k _ e => ⟨HGEU.out k e,HAT.out k e⟩
          refine ⟨n + 1,by omega,by go_num,(HF.out.trans hf2).setCell (p:=⟨g,n,none⟩) HGB.out _,⟨_,heap_setCell_same _ _ _ _ _ _ HG1.out,fun i hi hir => ?_⟩,fun i h h2 hi => ?_⟩
          · obtain ⟨hu2,h3⟩:=HALL.out i (by omega) hir
            refine ⟨hu2,fun hr => ?_⟩
            rw [Array.getElem?_setIfInBounds_ne (by omega)]
            exact h3 hr
          · refine ((HOV.out i h h2 (by omega)).frm HF1.out fun k hk _ e => HAP.out i h hi k hk e).frm (F:=fun k => k=g) ((Frm.refl (fun k => k=g) w1).setCell (p:=⟨g,n,none⟩) rfl _) fun k hk _ e => HNE.out i h k hk e
        case measure => simp [intOf];omega
      · obtain rfl:n=rs.length:=by omega
        clear cn
        go_wp2
        go_end0
        exact ⟨rfl,HF.out⟩
end Go.Proofs.YtfbmlefhjoblbaaGreat

namespace Go.Proofs.YtfbmlefhjoblbaaGreat
open Go.Conc Go.RowKit
set_option linter.unusedVariables false
set_option linter.unusedSimpArgs false
set_option maxRecDepth 100000 in
set_option maxHeartbeats 2000000 in
theorem filegets_any (s:ByteArray) (b:Bool) (hs:s.size≤140737488351232) (w w1:World) (hb0:Below w.heap.size w w1) :
    Calls Tryz.prog 10 #[.string s,.bool b] w1 fun e w' => e=.returned (.bool true)∧Below w.heap.size w w':=by
  have HB0:=Lib.hid hb0
  clear hb0
  obtain ⟨U,hU⟩:∃ U,U=(if b=true then sealB s else s):=⟨_,rfl⟩
  have hz:U.size≤140737488355328:=by
    rw [hU];split
    · rw [sealB_size];omega
    · omega
  have TS:Hid (b=true→∀ v,Calls Tryz.prog 22 #[.string s] v fun e w' => e=.returned (.string U)∧Below v.heap.size v w'):=fun hb v => by rw [hU,if_pos hb];exact rseal_any s (by omega) v
  have hUs:b=false→U=s:=fun hb => by rw [hU,if_neg (by rw [hb];exact Bool.false_ne_true)]
  clear hU
  have TG:=Lib.hid (fun v => fileget_any v U hz)
  have TF:=Lib.hid (fun v => refunfile_any v U hz)
  have TW0:=Lib.hid (fun v => filestats_any v U hz)
  have TA:=Lib.hid (fun v => fileawake_any v)
  have hin:=fileGet_in U
  have hsl:=statsOf_len hin.len
  have hmany:=hin.many
  have hlen:=hin.len
  have hfin:=hin.finD
  clear hz hin
  generalize fileGet U=R at *
  obtain ⟨d,E⟩:=R
  simp only at TG TF TW0 hsl hmany hlen hfin
  have TW:Hid (∀ v,Calls Tryz.prog 37 #[.string U] v fun e w' => ∃ a c,e=.returned (.tuple #[.slice a d.cs.length c,.int .i64 E])∧IsS w' a (statsA d.cs d.rs)∧Below v.heap.size v w'):=fun v => by
    refine (TW0.out v).mono fun e w' ⟨a,c,he,ho,hb⟩ => ⟨a,c,?_,ho.isX,hb⟩
    rw [he]
    show Ending.returned (.tuple #[.slice a (statsOf d).length c,.int .i64 E])=_
    rw [hsl]
  clear TW0
  have TR:=Lib.hid (fun (v:World) (p:DaAt) (h:DaIs v p d) => refstats_any v p d h (by rw [hlen];exact Nat.le_refl _) (Nat.le_trans hmany (by decide)) (fun r hr => ⟨(hfin.row r hr).1,fun x hx => ((hfin.row r hr).2 x hx).2⟩))
  have TSS:Hid (∀ (v:World) (a b:Option Addr) (ca cb:Nat),IsS v a (statsA d.cs d.rs)→IsS v b (statsA d.cs d.rs)→Calls Tryz.prog 40 #[.slice a d.cs.length ca,.slice b d.cs.length cb] v fun e w' => e=.returned (.bool true)∧Below v.heap.size v w'):=fun v a b ca cb ha hb => by
    have h:=samestats_any v a b ca cb _ _ ha hb (by show (statsOf d).length≤_;rw [hsl];exact Nat.le_trans hmany (by decide))
    rw [show (statsA d.cs d.rs).length=d.cs.length from hsl,decide_eq_true rfl] at h
    exact h
  have hrl:∀ r ∈ d.rs,r.length≤maxLen:=fun r hr => Nat.le_trans (hfin.row r hr).1 (by decide)
  have hcl:d.cs.length≤maxLen:=Nat.le_trans hmany (by decide)
  have hrm:d.rs.length≤maxLen:=by rw [hlen];exact hcl
  have TD:Hid (∀ (v:World) (p q:DaAt),DaIs v p d→DaIs v q d→Calls Tryz.prog 39 #[.agg #[.int .i64 d.n,.slice p.ac d.cs.length p.kc,.slice p.ar d.rs.length p.kr],.agg #[.int .i64 d.n,.slice q.ac d.cs.length q.kc,.slice q.ar d.rs.length q.kr]] v fun e w' => e=.returned (.bool true)∧Below v.heap.size v w'):=fun v p q hp hq => by
    have h:=samedata_any v p q d d hp hq hcl hrm hrl
    rw [same_self] at h
    exact h
  have TC:=Lib.hid (fun (v:World) (base:Nat) (a:Option Addr) (c:Nat) (h:OwnCo base v a c d.cs) => spoilcols_any v a c base d.cs h hcl)
  have TP:=Lib.hid (fun (v:World) (B T:Nat) (a:Option Addr) (c:Nat) (us:List (Option Addr × Nat)) (ho:OwnR B v a d.rs.length c (rowCells us d.rs)) (hv:RowsOwn B v us d.rs) h3 h4 => spoilrows_any v a c B T us d.rs ho hv hrm hrl h3 h4)
  generalize hST:statsA d.cs d.rs=ST at *
  clear hST hsl hmany hlen hfin hrl hcl hrm
  have hE1:(E != E)=false:=bne_self_eq_false E
  have hE2:(E == E)=true:=beq_self_eq_true E
  go_enter Tryz.func10,Tryz.ntmps10
  cases b
  case' false =>
    obtain rfl:=hUs rfl
    go_upto_region 4 with fail
  case' true =>
    clear hUs
    go_upto_region 4 with (go_at_call 22;refine (TS.out rfl _).mono ?_;rintro e w1 ⟨rfl,hb⟩;replace HB0:=Lib.hid (HB0.out.trans (hb.mono HB0.out.size));clear hb)
  all_goals (
    clear TS
    go_upto_region 5 with (go_at_call 36;refine (TG.out _).mono ?_;rintro e w2 ⟨p,us,rfl,ho,hb⟩;have HP2:=Lib.hid ho;have HB2:=Lib.hid (HB0.out.trans (hb.mono HB0.out.size));have HBB:=Lib.hid (HB0.out.size);have HKC:=Lib.hid (fun k (hk:At p.ac k) => ho.co.at_ge hk);have HKR:=Lib.hid (fun k (hk:At p.ar k) => own_ge ho.ro hk);have HKV:=Lib.hid (fun i (hi:i < us.length) k (hk:At us[i].1 k) => ho.vs.ge hi hk);clear ho hb)
    change Code.wp _ _ _ _ (w2.alloc (.cells #[.int .i64 d.n,.slice p.ac d.cs.length p.kc,.slice p.ar d.rs.length p.kr] 55))
    obtain ⟨u2,hu2⟩:∃ u2,u2=w2.alloc (.cells #[.int .i64 d.n,.slice p.ac d.cs.length p.kc,.slice p.ar d.rs.length p.kr] 55):=⟨_,rfl⟩
    have hb2:Below w2.heap.size w2 u2:=by rw [hu2];exact (Below.refl _ _).alloc (Nat.le_refl _) _
    have HX2:=Lib.hid (show DSlot u2 w2.heap.size p d by rw [hu2];exact DSlot.new w2 p d)
    have HA2:=Lib.hid (HP2.out.below hb2)
    have HM2:=Lib.hid (HB2.out.trans (hb2.mono HB2.out.size))
    rw [← hu2]
    clear hu2 hb2 HB0 HB2
    go_upto_region 6 with (go_at_call 36;refine (TG.out _).mono ?_;rintro e w3 ⟨q,vs,rfl,ho,hb⟩;have HQ3:=Lib.hid ho;have HB3:=Lib.hid (HM2.out.trans (hb.mono HM2.out.size));have HX3:=Lib.hid (HX2.out.below hb);have HA3:=Lib.hid (HA2.out.below hb);have HS3:=Lib.hid hb.size;clear ho hb)
    change Code.wp _ _ _ _ (w3.alloc (.cells #[.int .i64 d.n,.slice q.ac d.cs.length q.kc,.slice q.ar d.rs.length q.kr] 55))
    obtain ⟨u3,hu3⟩:∃ u3,u3=w3.alloc (.cells #[.int .i64 d.n,.slice q.ac d.cs.length q.kc,.slice q.ar d.rs.length q.kr] 55):=⟨_,rfl⟩
    have hb3:Below w3.heap.size w3 u3:=by rw [hu3];exact (Below.refl _ _).alloc (Nat.le_refl _) _
    have HX4:=Lib.hid (HX3.out.below hb3)
    have HY4:=Lib.hid (show DSlot u3 w3.heap.size q d by rw [hu3];exact DSlot.new w3 q d)
    have HA4:=Lib.hid (HA3.out.below hb3)
    have HQ4:=Lib.hid (HQ3.out.below hb3)
    have HM4:=Lib.hid (HB3.out.trans (hb3.mono HB3.out.size))
    rw [← hu3]
    clear hu3 hb3 HA3 HX3 HQ3 HA2 HM2 HB3 HP2
    go_upto_region 7 with (go_at_call 37;refine (TW.out _).mono ?_;rintro e w4 ⟨xa,xc,rfl,ho,hb⟩;have HST5:=Lib.hid ho;have HX5:=Lib.hid (HX4.out.below hb);have HY5:=Lib.hid (HY4.out.below hb);have HA5:=Lib.hid (HA4.out.below hb);have HQ5:=Lib.hid (HQ4.out.below hb);have HB5:=Lib.hid (HM4.out.trans (hb.mono HM4.out.size));clear ho hb)
    clear HX4 HY4 HA4 HQ4 HM4
    go_upto_region 8 with (go_at_call 38;refine (TF.out _).mono ?_;rintro e w5 ⟨r,ts,rfl,ho,hb⟩;have HR6:=Lib.hid (ho.lower (Nat.le_trans HS3.out (Nat.le_of_lt HY5.out.lt)));have HST6:=Lib.hid (HST5.out.below hb);have HX6:=Lib.hid (HX5.out.below hb);have HY6:=Lib.hid (HY5.out.below hb);have HA6:=Lib.hid (HA5.out.below hb);have HQ6:=Lib.hid (HQ5.out.below hb);have HB6:=Lib.hid (HB5.out.trans (hb.mono HB5.out.size));clear ho hb)
    change Code.wp _ _ _ _ (w5.alloc (.cells #[.int .i64 d.n,.slice r.ac d.cs.length r.kc,.slice r.ar d.rs.length r.kr] 55))
    obtain ⟨u5,hu5⟩:∃ u5,u5=w5.alloc (.cells #[.int .i64 d.n,.slice r.ac d.cs.length r.kc,.slice r.ar d.rs.length r.kr] 55):=⟨_,rfl⟩
    have hb5:Below w5.heap.size w5 u5:=by rw [hu5];exact (Below.refl _ _).alloc (Nat.le_refl _) _
    have HZ7:=Lib.hid (show DSlot u5 w5.heap.size r d by rw [hu5];exact DSlot.new w5 r d)
    have HR7:=Lib.hid (HR6.out.below hb5)
    have HST7:=Lib.hid (HST6.out.below hb5)
    have HX7:=Lib.hid (HX6.out.below hb5)
    have HY7:=Lib.hid (HY6.out.below hb5)
    have HA7:=Lib.hid (HA6.out.below hb5)
    have HQ7:=Lib.hid (HQ6.out.below hb5)
    have HB7:=Lib.hid (HB6.out.trans (hb5.mono HB6.out.size))
    have HG2:=Lib.hid HX2.out.lt
    have HG3:=Lib.hid (show w2.heap.size < w3.heap.size from Nat.lt_of_lt_of_le HX2.out.lt HS3.out)
    have HG5:=Lib.hid (show w2.heap.size < w5.heap.size from Nat.lt_trans HG3.out HY6.out.lt)
    rw [← hu5]
    clear hu5 hb5 HR6 HST6 HX6 HY6 HA6 HQ6 HB6 HST5 HX5 HY5 HA5 HQ5 HB5 TG TF TW
    obtain ⟨x0,x1,x2⟩:=HX7.out.at
    obtain ⟨z0,z1,z2⟩:=HZ7.out.at
    go_upto_region 10 with (first
      | (go_at_call 17;refine (num_any _ _).mono ?_;rintro e wn ⟨rfl,rfl⟩)
      | (go_at_call 39;refine (TD.out _ _ _ HA7.out.is HR7.out.is).mono ?_;rintro e w8 ⟨rfl,hb⟩;have HZ8:=Lib.hid (HZ7.out.below hb);have HR8:=Lib.hid (HR7.out.below hb);have HST8:=Lib.hid (HST7.out.below hb);have HX8:=Lib.hid (HX7.out.below hb);have HY8:=Lib.hid (HY7.out.below hb);have HA8:=Lib.hid (HA7.out.below hb);have HQ8:=Lib.hid (HQ7.out.below hb);have HB8:=Lib.hid (HB7.out.trans (hb.mono HB7.out.size));clear hb;obtain ⟨y0,y1,y2⟩:=HZ8.out.at)
      | (go_at_call 41;refine (TR.out _ _ HR8.out.is).mono ?_;rintro e w9 ⟨ya,yc,rfl,ho,hb⟩;have HO9:=Lib.hid ho.isX;have HZ9:=Lib.hid (HZ8.out.below hb);have HR9:=Lib.hid (HR8.out.below hb);have HST9:=Lib.hid (HST8.out.below hb);have HX9:=Lib.hid (HX8.out.below hb);have HY9:=Lib.hid (HY8.out.below hb);have HA9:=Lib.hid (HA8.out.below hb);have HQ9:=Lib.hid (HQ8.out.below hb);have HB9:=Lib.hid (HB8.out.trans (hb.mono HB8.out.size));clear ho hb)
      | (go_at_call 40;refine (TSS.out _ _ _ _ _ HST9.out HO9.out).mono ?_;rintro e wa ⟨rfl,hb⟩;have HZa:=Lib.hid (HZ9.out.below hb);have HRa:=Lib.hid (HR9.out.below hb);have HXa:=Lib.hid (HX9.out.below hb);have HYa:=Lib.hid (HY9.out.below hb);have HAa:=Lib.hid (HA9.out.below hb);have HQa:=Lib.hid (HQ9.out.below hb);have HBa:=Lib.hid (HB9.out.trans (hb.mono HB9.out.size));clear hb))
    clear x0 x1 x2 y0 y1 y2 z0 z1 z2 HZ9 HZ8 HZ7 HR9 HR8 HR7 HST9 HST8 HST7 HX9 HX8 HX7 HX2 HY9 HY8 HY7 HA9 HA8 HA7 HQ9 HQ8 HQ7 HB9 HB8 HB7 HO9 TR TSS HS3
    obtain ⟨x0,x1,x2⟩:=HXa.out.at
    go_upto_region 11 with (go_at_call 42;refine (TC.out _ _ _ _ HAa.out.co).mono ?_;rintro e wb ⟨rfl,hf⟩;have hf2:Frm (At p.ac) wa wb:=hf;have HFb:Hid (Frm (fun k => w1.heap.size≤k∧k < w2.heap.size) wa wb):=hf2.mono fun k _ hk => HKC.out k hk;have HVb:=Lib.hid (HAa.out.vs.frm hf2 fun i hi k hk hc => own_types ty_co_val HAa.out.co (HAa.out.vs.own i hi (by rw [← HAa.out.vs.len];exact hi)) hc hk);have HRb:Hid (OwnR w1.heap.size wb p.ar d.rs.length p.kr (rowCells us d.rs)):=own_by HAa.out.ro hf2 fun k hk _ hc => own_types ty_co_row HAa.out.co HAa.out.ro hc hk;clear hf hf2)
    have HXb:=Lib.hid (HXa.out.frm HFb.out (fun h => Nat.lt_irrefl _ h.2))
    clear x0 x1 x2
    obtain ⟨x0,x1,x2⟩:=HXb.out.at
    go_upto_region 12 with (go_at_call 43;refine (TP.out _ w1.heap.size w2.heap.size _ _ us HRb.out HVb.out (fun k hk => (HKR.out k hk).2) (fun i hi k hk => (HKV.out i hi k hk).2)).mono ?_;rintro e wc ⟨rfl,hf⟩;have HFc:=Lib.hid (HFb.out.trans hf);clear hf)
    clear x0 x1 x2
    have HYc:=Lib.hid (HYa.out.frm HFc.out (fun h => absurd h.2 (Nat.not_lt.2 (Nat.le_of_lt HG3.out))))
    have HZc:=Lib.hid (HZa.out.frm HFc.out (fun h => absurd h.2 (Nat.not_lt.2 (Nat.le_of_lt HG5.out))))
    have HQc:=Lib.hid (HQa.out.frm HFc.out (fun k hk _ h => by have:=HG2.out;have:=h.2;omega))
    have HRc:=Lib.hid (HRa.out.frm HFc.out (fun k hk _ h => by have:=HG2.out;have:=h.2;omega))
    have HBc:=Lib.hid (Frm.to_below HBa.out HFc.out (fun k hk => Nat.le_trans HBB.out hk.1) (Nat.le_refl _))
    clear HYa HZa HQa HRa HBa HXa HXb HAa HVb HRb HFb HFc HKC HKR HKV TC TP
    obtain ⟨x0,x1,x2⟩:=HYc.out.at
    obtain ⟨z0,z1,z2⟩:=HZc.out.at
    go_wp2_with (first
      | (go_at_call 39;refine (TD.out _ _ _ HQc.out.is HRc.out.is).mono ?_;rintro e wd ⟨rfl,hb⟩;have HBd:=Lib.hid (HBc.out.trans (hb.mono HBc.out.size));clear hb)
      | (go_at_call 35;refine (TA.out _).mono ?_;rintro e we ⟨rfl,hb⟩;have HBe:=Lib.hid (HBd.out.trans (hb.mono HBd.out.size));clear hb))
    go_ret
    exact ⟨rfl,HBe.out⟩)
theorem filegets_walk (s:ByteArray) (b:Bool) (hs:s.size≤140737488351232) (w:World) :
    Calls Tryz.prog 10 #[.string s,.bool b] w fun e w' => e=.returned (.bool true)∧Below w.heap.size w w':=filegets_any s b hs w w (Below.refl _ _)
end Go.Proofs.YtfbmlefhjoblbaaGreat
