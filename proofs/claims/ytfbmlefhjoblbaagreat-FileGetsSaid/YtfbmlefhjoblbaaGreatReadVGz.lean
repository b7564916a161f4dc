/- Spaces and remarks left out: a claim is at most so large. -/
import Derived.Test.YtfbmlefhjoblbaaGreatGetGGz
import Derived.Test.YtfbmlefhjoblbaaGreatYmathGz
import Derived.Test.YtfbmlefhjoblbaaGreatPutGGz
import Derived.Test.YtfbmlefhjoblbaaGreatVOrdGz
namespace Go.Proofs.YtfbmlefhjoblbaaGreat
open Go.Conc Go.RowKit
set_option linter.unusedVariables false
set_option linter.unusedSimpArgs false
set_option maxRecDepth 100000 in
set_option maxHeartbeats 1000000 in
theorem vecsum_any (w:World) (a:Option Addr) (cap:Nat) (xs:List Int) (ha:IsL w a xs) (hx:xs.length≤65536) (hb:∀ x ∈ xs,0≤x∧x < 2) :
    Calls Tryz.prog 96 #[.slice a xs.length cap] w fun e w' => e=.returned (.int .i64 (sumB xs))∧w=w':=by
  obtain ⟨R,hR⟩:∃ R,R=sumB xs:=⟨_,rfl⟩
  rw [← hR]
  have HR:=Lib.hid hR
  have HA:=Lib.hid ha
  have HB:=Lib.hid hb
  clear hR ha hb
  go_enter Tryz.func96,Tryz.ntmps96
  go_wp2
  go_loop [3,8] (fun sv iv => ∃ n:Nat,n≤xs.length∧iv=.int .i64 n∧sv=.int .i64 (sumB (xs.take n))) (fun _ iv => xs.length - (intOf iv).toNat)
  case atStart => exact ⟨0,Nat.zero_le _,rfl,rfl⟩
  case round =>
    obtain ⟨n,hn,rfl,rfl⟩:=hrel
    by_cases c:n < xs.length
    · rcases HA.out with h | ⟨b,off,rfl,hc⟩
      · rw [h] at c;simp at c
      have hx0:=hc n c
      have hs:=sumB_append (xs.take n) [xs[n]]
      rw [List.take_append_getElem c] at hs
      have hq:=HB.out xs[n] (List.getElem_mem _)
      have hs2:sumB (xs.take (n + 1))=sumB (xs.take n) + xs[n]:=by rw [hs];simp [sumB]
      obtain ⟨b1,b2,_⟩:=sumB_bits (xs.take n) fun x hx => HB.out x (List.mem_of_mem_take hx)
      rw [List.length_take] at b2
      have HS2:=Lib.hid hs2
      have b3:sumB (xs.take n)≤65536:=by omega
      clear hs hs2 b2 hc
      generalize xs[n]=x at *
      generalize sumB (xs.take n)=S at *
      have hci:(n:Int) < (xs.length:Int):=by omega
      obtain ⟨q1,q2⟩:=hq
      go_wp2
      go_round
      case rel => exact ⟨n + 1,c,by go_num,by rw [HS2.out]⟩
      case measure => simp [intOf];omega
    · obtain rfl:n=xs.length:=by omega
      have hR:R=sumB (xs.take xs.length):=by rw [HR.out,List.take_length]
      subst hR
      clear c
      go_wp2
      go_ret
      exact ⟨rfl,rfl⟩
structure JAt (w wr:World) (g:Nat) (ns:List Int) (vs:List V) (n:Nat) (M:List V):Prop where
  is:mergeN ns vs n=M
  own:OwnV w.heap.size wr (some ⟨g,0,none⟩) ns.length M
  below:Below w.heap.size w wr
set_option maxRecDepth 100000 in
set_option maxHeartbeats 4000000 in
theorem joined_any (w:World) (a av:Option Addr) (cap cv:Nat) (ns:List Int) (vs:List V) (ha:IsL w a ns) (hv:IsV w av vs) (hn:ns.length≤65536) (hb:∀ x ∈ ns,0≤x∧x < 2) (hz:zerosI ns≤vs.length) :
    Calls Tryz.prog 98 #[.slice a ns.length cap,.slice av vs.length cv] w fun e w' => ∃ g c,e=.returned (.slice (some ⟨g,0,none⟩) (mergeV ns vs).length c)∧OwnV w.heap.size w' (some ⟨g,0,none⟩) c (mergeV ns vs)∧Below w.heap.size w w':=by
  obtain ⟨R,hR⟩:∃ R,R=mergeV ns vs:=⟨_,rfl⟩
  have hRl:R.length=ns.length:=by rw [hR,merge_len]
  rw [← hR]
  obtain ⟨C,hmk,hown⟩:=made_vals_own w ns.length (by omega)
  have H0:Hid (JAt w (w.alloc (.cells C 24)) w.heap.size ns vs 0 (List.replicate ns.length zeroV)):=⟨mergeN_zero ns vs,hown,(Below.refl _ _).alloc (Nat.le_refl _) _⟩
  have HR:=Lib.hid hR
  have HRL:=Lib.hid hRl
  have HA:=Lib.hid ha
  have HV:=Lib.hid hv
  have HB:=Lib.hid hb
  have HZ:=Lib.hid hz
  have HN:=Lib.hid hn
  have HG:Hid (w.heap.size≤w.heap.size):=Nat.le_refl _
  clear hR hRl ha hv hb hz hown
  go_enter Tryz.func98,Tryz.ntmps98
  go_upto_region 3 with fail
  clear hmk
  generalize w.alloc (.cells C 24)=w1 at *
  obtain ⟨g,hg⟩:∃ g,g=w.heap.size:=⟨_,rfl⟩
  have HGG:=Lib.hid hg
  have H0:Hid (JAt w w1 g ns vs 0 (List.replicate ns.length zeroV)):=by rw [hg];exact H0
  rw [← hg]
  clear hg
  go_wp2
  go_loopw [6,14] (fun zv iv wr => ∃ (n:Nat) (M:List V),n≤ns.length∧iv=.int .i64 n∧zv=.int .i64 (zerosI (ns.take n):Nat)∧Hid (JAt w wr g ns vs n M)) (fun _ iv _ => ns.length - (intOf iv).toNat)
  case atStart => exact ⟨0,_,Nat.zero_le _,rfl,rfl,H0⟩
  case round =>
    obtain ⟨n,M,hn,rfl,rfl,HC⟩:=hrel
    by_cases c:n < ns.length
    · have hx:=HA.out
      rcases hx with h | ⟨b,off,rfl,hc⟩
      · rw [h] at c;simp at c
      have hx0:=World.cell?_of_block (HC.out.below.block b (World.block_lt_of_cell? w ⟨b,off + n,none⟩ (hc n c))) |>.trans (hc n c)
      have hq:=HB.out ns[n] (List.getElem_mem _)
      have hzn:=zeros_next ns n c
      have hzt:=zeros_take_le ns (n + 1)
      have hM0:ns[n]=1→mergeN ns vs (n + 1)=M:=fun e => by rw [mergeN_null ns vs n c e];exact HC.out.is
      have hM1:ns[n] ≠ 1→mergeN ns vs (n + 1)=M.set n (vs.getD (zerosI (ns.take n)) zeroV):=fun e => by rw [mergeN_next ns vs n c e,HC.out.is]
      have hMl:M.length=ns.length:=by rw [← HC.out.is];exact mergeN_len ns vs n hn
      have hzb:=HZ.out
      have hcl:zerosI (ns.take n)≤n:=by have:=zeros_le (ns.take n);rw [List.length_take] at this;omega
      have hnl:ns.length≤65536:=HN.out
      have HM0:=Lib.hid hM0
      have HM1:=Lib.hid hM1
      have HML:=Lib.hid hMl
      clear hM0 hM1 hMl hc
      generalize ns[n]=x at *
      have hci:(n:Int) < (ns.length:Int):=by omega
      rcases (show x=0∨x=1 by omega) with rfl | rfl
      · have hzn1:zerosI (ns.take (n + 1))=zerosI (ns.take n) + 1:=by rw [hzn];rfl
        have hzl:zerosI (ns.take n) < vs.length:=by omega
        have HZN:=Lib.hid hzn1
        clear hzn hzn1 hzt hzb
        generalize zerosI (ns.take n)=z at *
        rcases HV.out with h | ⟨bv,ov,rfl,hvv⟩
        · rw [h] at hzl;simp at hzl
        obtain ⟨v0,v1,v2,v3⟩:=(hvv z hzl).below (HC.out.below)
        have HX1:Hid (mergeN ns vs (n + 1)=M.set n vs[z]):=by
          unfold Hid
          rw [HM1.out (by omega),getD_in hzl]
        clear hvv
        generalize vs[z]=v at *
        have hgm:n < M.length:=by rw [HML.out];exact c
        obtain ⟨m0,m1,m2,m3⟩:=HC.out.own.get n hgm
        obtain ⟨f0,f1,f2,f3⟩:=HC.out.own.getF n hgm
        have hzi:(z:Int) < (vs.length:Int):=by omega
        have HO:=Lib.hid (HC.out.own.stored n v hgm)
        have HBL:=Lib.hid (Frm.to_below HC.out.below (Frm.row (u:=wr) (g:=g) (j:=n) (F:=fun k => k=g) rfl v) (fun k e => by have:=HGG.out;omega) (Nat.le_refl _))
        go_wp2
        go_roundw
        case rel => exact ⟨n + 1,M.set n v,c,by go_num,by rw [HZN.out];go_num,⟨HX1.out,HO.out,HBL.out⟩⟩
        case measure => simp [intOf];omega
      · have hzn1:zerosI (ns.take (n + 1))=zerosI (ns.take n):=by rw [hzn];rfl
        have HZN:=Lib.hid hzn1
        clear hzn hzn1 hzt hzb
        have HX1:=Lib.hid (HM0.out rfl)
        have HC2:Hid (JAt w wr g ns vs (n + 1) M):=⟨HX1.out,HC.out.own,HC.out.below⟩
        go_wp2
        go_roundw
        case rel => exact ⟨n + 1,M,c,by go_num,by rw [HZN.out],HC2⟩
        case measure => simp [intOf];omega
    · obtain rfl:n=ns.length:=by omega
      have hR:R=M:=by rw [HR.out,← mergeN_all,HC.out.is]
      subst hR
      have hrl:=HRL.out
      clear c
      go_wp2
      go_ret
      exact ⟨g,ns.length,by rw [hrl];rfl,HC.out.own,HC.out.below⟩
end Go.Proofs.YtfbmlefhjoblbaaGreat
namespace Go.Proofs.YtfbmlefhjoblbaaGreat
open Go.Conc Go.RowKit
set_option linter.unusedVariables false
set_option linter.unusedSimpArgs false
theorem readA_no {k:Int} {l:List UInt8} (h:l=[]∨3≤(l.getD 0 0).toNat):readA k l=none:=if_pos h
theorem cell_frm2 {F:Nat→Prop} {w w':World} {b j:Nat} {v:Value} (h:w.cell? ⟨b,j,none⟩=some v) (hf:Frm F w.drew w') (hF:¬ F b):w'.cell? ⟨b,j,none⟩=some v:=by
  rw [World.cell?_of_block (hf.block b (World.block_lt_of_cell? w ⟨b,j,none⟩ h) hF)];exact h
theorem lie {A wb ob kb g:Nat} (h:(A≤wb∧A≤ob∧A≤kb)∧wb < g∧ob < g∧kb < g):¬ wb=g∧¬ ob=g∧¬ kb=g:=by omega
theorem lie_up {A wb ob kb g B:Nat} (h:(A≤wb∧A≤ob∧A≤kb)∧wb < B∧ob < B∧kb < B) (hg:B≤g):(A≤wb∧A≤ob∧A≤kb)∧wb < g∧ob < g∧kb < g:=by omega
theorem sub_bits {n:Nat} {S:Int} {m:Nat} (h:(n:Int) - S=(m:Int)) (hm:m≤65536):IntKind.i64.wrap ((n:Int) - S)=(m:Int):=by rw [h,IntKind.wrap_i64];omega
def ReadPost (w:World) (o:Option (List V)) (e:Ending) (w':World):Prop :=
  Below w.heap.size w w'∧((o=none∧e=.returned (.tuple #[.slice none 0 0,.bool false]))∨∃ vs g c,o=some vs∧e=.returned (.tuple #[.slice (some ⟨g,0,none⟩) vs.length c,.bool true])∧OwnV w.heap.size w' (some ⟨g,0,none⟩) c vs)
set_option maxRecDepth 100000 in
set_option maxHeartbeats 4000000 in
theorem vecread_any (w:World) (k:Int) (hk:1≤k∧k≤3) (s:ByteArray) (hs:s.size≤281474976710648):Calls Tryz.prog 60 #[.int .i64 k,.string s] w (ReadPost w (readA k s.data.toList)):=by
  have hl:s.data.toList.length=s.size:=(size_list s).symm
  have T0:=Lib.hid (encs_any w k)
  have TN:=Lib.hid (fun u => rdnew_any u s)
  have TB:=Lib.hid (fun (u:World) (g:Nat) (h:RdAt u g s ⟨0,false⟩) => rdbyte_any u g s ⟨0,false⟩ h hs (Nat.zero_le _))
  have TBR:=Lib.hid (fun (u:World) (g:Nat) (t:Tk) (h:RdAt u g s t) => rdbroken_any u g s t h)
  obtain ⟨R,hR⟩:∃ R,R=readA k s.data.toList:=⟨_,rfl⟩
  rw [← hR]
  rw [readA_byte] at hR
  have hbp:=byte_pos (l:=s.data.toList) (t:=⟨0,false⟩) (Nat.zero_le _)
  have hbm:=byte_most s.data.toList ⟨0,false⟩
  generalize rdByte s.data.toList ⟨0,false⟩=Y at *
  obtain ⟨c,t0⟩:=Y
  simp only at hR TB hbp hbm
  by_cases h3:3≤c
  · rw [if_pos h3] at hR
    subst hR
    have hci:decide ((3:Int)≤(c:Int))=true:=decide_eq_true (by omega)
    clear hbp hbm hl
    go_enter Tryz.func60,Tryz.ntmps60
    go_wp2_with (first
      | (go_at_call 91;refine T0.out.mono ?_;rintro e w1 ⟨wb,ob,kb,rfl,hw1,hb1,_⟩;have HB1:=Lib.hid hb1;clear hb1 hw1)
      | (go_at_call 92;refine (TN.out _).mono ?_;rintro e w2 ⟨g,rfl,hg,hrd,hb⟩;have HRN:=Lib.hid hrd;have HGW:=Lib.hid (Nat.le_trans HB1.out.size hg);have HB2:=Lib.hid (HB1.out.trans (hb.mono HB1.out.size));clear hb hrd hg)
      | (go_at_call 93;refine (TB.out _ g HRN.out).mono ?_;rintro e w3 ⟨rfl,hr,hf⟩;have HB3:=Lib.hid (Frm.to_below HB2.out hf (fun k e => by rw [e];exact HGW.out) (Nat.le_refl _));clear hr hf))
    go_ret2
    exact ⟨HB3.out,.inl ⟨rfl,rfl⟩⟩
  · rw [if_neg h3] at hR
    have T1:=Lib.hid (fun (u:World) (g:Nat) (h:RdAt u g s t0) => rdcount_any u g s t0 h hs 4096 (by omega))
    have hcp:=rdCount_pos (l:=s.data.toList) (t:=t0) (most:=4096) hbp
    generalize rdCount s.data.toList t0 4096=C at *
    obtain ⟨N,t1⟩:=C
    simp only at hR T1 hcp
    have T2:=Lib.hid (fun (u:World) (g:Nat) (h:RdAt u g s t1) => rdpacked_any u g s t1 h hs (by rw [← hl];exact hcp.1) N 1 (by omega) (by omega))
    have hpp:=rdPacked_pos (l:=s.data.toList) (t:=t1) (many:=N) (w:=1) hcp.1
    have hpl:=rdPacked_len s.data.toList t1 N 1
    have hpd:=rdPacked_digits s.data.toList t1 N 1
    generalize rdPacked s.data.toList t1 N 1=Q at *
    obtain ⟨ns,t2⟩:=Q
    simp only at hR T2 hpp hpl hpd
    have hbits:∀ x ∈ ns,0≤x∧x < 2:=fun x hx => by have:=hpd x hx;rw [Int.pow_one] at this;exact this
    have hnl:ns.length≤4096:=by omega
    obtain ⟨z1,z2,z3⟩:=sumB_bits ns hbits
    have T3:=Lib.hid (fun (u:World) (a:Option Addr) (cap:Nat) (h:IsL u a ns) => vecsum_any u a cap ns h (by omega) hbits)
    have hzl:=zeros_le ns
    generalize hm:zerosI ns=m at *
    have hpp':t2.pos≤s.size:=by rw [← hl];exact hpp
    have hsa:=rdSome_all (l:=s.data.toList) (k:=k) (e:=c) (t:=t2) (many:=m) hpp
    have T1:Hid (∀ (u:World) (g:Nat),RdAt u g s t0→Calls Tryz.prog 95 #[.pointer (some ⟨g,0,none⟩),.int .i64 4096] u fun e w' => e=.returned (.int .i64 (N:Int))∧RdAt w' g s t1∧Frm (fun k => k=g) u w'):=T1
    have T2:Hid (∀ (u:World) (g:Nat),RdAt u g s t1→Calls Tryz.prog 94 #[.pointer (some ⟨g,0,none⟩),.int .i64 (N:Int),.int .i64 1] u fun e w' => ∃ a cap,e=.returned (.slice a ns.length cap)∧OwnI u.heap.size w' a cap ns∧RdAt w' g s t2∧Frm (fun k => k=g) u w'):=T2
    clear hpl hpd hcp hl hbp hbm hpp
    have hm64:m≤65536:=by omega
    have hci:decide ((3:Int)≤(c:Int))=false:=decide_eq_false (by omega)
    rcases (show c=1∨c=2∨(c=0∧k=2)∨(c=0∧k ≠ 2) by clear hci;omega) with rfl | rfl | ⟨rfl,rfl⟩ | ⟨rfl,hk2⟩
    · have hsome:rdSome s.data.toList k 1 t2 m=rdRuns s.data.toList k t2 m:=rfl
      rw [hsome] at hR hsa
      have T4:=Lib.hid (fun (u:World) (g ob kb:Nat) (h:RdAt u g s t2) (h1:u.cell? ⟨kb,0,none⟩=some (.int .i64 k)) (h2:u.cell? ⟨ob,0,none⟩=some (oneF kb)) (h3:¬ kb=g) => encC_any u g ob kb s t2 h hpp' hs k hk h1 h2 h3 m hm64)
      generalize rdRuns s.data.toList k t2 m=G at *
      obtain ⟨vs,t3⟩:=G
      simp only at hR T4 hsa
      have T5:=Lib.hid (fun (u:World) (a av:Option Addr) (cap cv:Nat) (h1:IsL u a ns) (h2:IsV u av vs) (hb:t3.bad=false) => joined_any u a av cap cv ns vs h1 h2 (by clear hci;omega) hbits (by rw [hm,hsa.2.2 hb];exact Nat.le_refl _))
      have HR:=Lib.hid hR
      have hsub:IntKind.i64.wrap ((ns.length:Int) - sumB ns)=(m:Int):=sub_bits z3 hm64
      have HNL:=Lib.hid hnl
      clear hR hsa hm z1 z2 z3 hzl hbits hpp' hk hs hnl hm64
      clear hsome
      go_enter Tryz.func60,Tryz.ntmps60
      go_upto_region 7 with (first
        | (go_at_call 91;refine T0.out.mono ?_;rintro e w1 ⟨wb,ob,kb,rfl,hw1,hb1,hwb1,hob1,hkb1,hwb2,hob2,hkb2⟩;have HW1:=Lib.hid hw1;have HB1:=Lib.hid hb1;have HL0:=Lib.hid (And.intro (And.intro hwb1 (And.intro hob1 hkb1)) (And.intro hwb2 (And.intro hob2 hkb2)));clear hw1 hb1 hwb1 hob1 hkb1 hwb2 hob2 hkb2)
        | (go_at_call 92;refine (TN.out _).mono ?_;rintro e u2 ⟨g,rfl,hg,hrd,hb⟩;have HRN:=Lib.hid hrd;have HGW:=Lib.hid (Nat.le_trans HB1.out.size hg);have HL1:=Lib.hid (lie_up HL0.out hg);have HWN:=Lib.hid (HW1.out.frm (Frm.of_new hb (fun _ => False)) (fun e => e) (fun e => e) (fun e => e));have HBN:=Lib.hid (HB1.out.trans (hb.mono HB1.out.size));clear hb hrd hg HW1 HB1 HL0)
        | (go_at_call 93;refine (TB.out _ g HRN.out).mono ?_;rintro e w2 ⟨rfl,hr,hf⟩;have HRD:=Lib.hid hr;have HZZ:=Lib.hid hr.lt;have HWY:=Lib.hid (HWN.out.frm hf (lie HL1.out).1 (lie HL1.out).2.1 (lie HL1.out).2.2);have HBB:=Lib.hid (Frm.to_below HBN.out hf (fun k e => by rw [e];exact HGW.out) (Nat.le_refl _));clear hr hf HRN HWN HBN)
        | (go_at_call 95;refine (T1.out w2 g HRD.out).mono ?_;rintro e w3 ⟨rfl,hr3,hf3⟩;have HR3:=Lib.hid hr3;have HF3:=Lib.hid hf3;clear hr3 hf3)
        | (go_at_call 94;refine (T2.out w3 g HR3.out).mono ?_;rintro e w4 ⟨a,cap,rfl,ho4,hr4,hf4⟩;have HO4:=Lib.hid ho4;have HR4:=Lib.hid hr4;have HF4:=Lib.hid hf4;clear ho4 hr4 hf4))
      have hw4:=(HWY.out.frm HF3.out (lie HL1.out).1 (lie HL1.out).2.1 (lie HL1.out).2.2).frm HF4.out (lie HL1.out).1 (lie HL1.out).2.1 (lie HL1.out).2.2
      have hcw:w4.cell? ⟨wb,3,none⟩=some (.func (.func 125) #[] #[.pointer (some ⟨ob,0,none⟩)]):=by
        rw [cell_of_row _ _ _ _ _ _ hw4.row];rfl
      have HW4:=Lib.hid hw4
      have hne:¬ kb=g:=(lie HL1.out).2.2
      have hnew:¬ wb=g:=(lie HL1.out).1
      clear hw4
      go_region_held3 (fun w' => w'.cell? ⟨wb,3,none⟩=some (.func (.func 125) #[] #[.pointer (some ⟨ob,0,none⟩)])) (go_keep)
        (first
          | (go_at_call 96;refine (T3.out w4.drew a cap (IsL.keep HO4.out.isL (fun _ _ => rfl))).mono ?_;rintro e w5 ⟨rfl,rfl⟩)
          | (go_at_call 125;refine (T4.out w4.drew g ob kb ⟨HR4.out.b⟩ HW4.out.kind HW4.out.one hne).mono ?_;rintro e w6 ⟨av,cv,rfl,ho6,hr6,hf6⟩;have hcw6:=cell_frm2 hcw hf6 hnew;have HO6:=Lib.hid ho6;have HR6:=Lib.hid hr6;have HF6:=Lib.hid hf6;clear ho6 hr6 hf6))
      all_goals (
        have hb6:Below w.heap.size w w6:=Frm.to_below (Frm.to_below (Frm.to_below HBB.out HF3.out (fun k e => by rw [e];exact HGW.out) (Nat.le_refl _)) HF4.out (fun k e => by rw [e];exact HGW.out) (Nat.le_refl _)).drew HF6.out (fun k e => by rw [e];exact HGW.out) (Nat.le_refl _)
        have hl6:IsL w6 a ns:=(HO4.out.frm (w':=w6) (F:=fun k => k=g) ((Frm.refl (fun k => k=g) w4).drew.trans HF6.out) fun k hk _ e => by have h1:=(HO4.out.at_ge hk).1;have h2:=HF3.out.size;have h3:=HZZ.out;clear hsub hci;omega).isL
        have HB6:=Lib.hid hb6
        have HL6:=Lib.hid hl6
        clear hcw hcw6 hsub hci hb6 hl6
        have hRv:=HR.out
        unfold rdBody at hRv
        simp only at hRv
        cases hbd:t3.bad with
        | true =>
          have TQ:Hid (Calls Tryz.prog 97 #[.pointer (some ⟨g,0,none⟩)] w6 fun e w' => e=.returned (.bool true)∧w6=w'):=by have:=TBR.out w6 g t3 HR6.out;rw [hbd] at this;exact this
          rw [hbd] at hRv
          rw [if_pos rfl] at hRv
          subst hRv
          go_wp2_with (go_at_call 97;refine TQ.out.mono ?_;rintro e w7 ⟨rfl,rfl⟩)
          go_ret2
          exact ⟨HB6.out,.inl ⟨rfl,rfl⟩⟩
        | false =>
          have TQ:Hid (Calls Tryz.prog 97 #[.pointer (some ⟨g,0,none⟩)] w6 fun e w' => e=.returned (.bool false)∧w6=w'):=by have:=TBR.out w6 g t3 HR6.out;rw [hbd] at this;exact this
          rw [hbd] at hRv
          rw [if_neg (by simp)] at hRv
          subst hRv
          have T6:=Lib.hid (T5.out w6 a av cap cv HL6.out HO6.out.isV hbd)
          go_wp2_with (first
            | (go_at_call 97;refine TQ.out.mono ?_;rintro e w6b ⟨rfl,rfl⟩)
            | (go_at_call 98;refine T6.out.mono ?_;rintro e w7 ⟨g7,c7,rfl,ho7,hb7⟩;have HO7:=Lib.hid ho7;have HB7:=Lib.hid hb7;clear ho7 hb7))
          go_ret2
          exact ⟨HB6.out.trans (HB7.out.mono HB6.out.size),.inr ⟨mergeV ns vs,g7,c7,rfl,rfl,HO7.out.lower HB6.out.size⟩⟩)
    · have hsome:rdSome s.data.toList k 2 t2 m=rdWords s.data.toList k t2 m:=rfl
      rw [hsome] at hR hsa
      have T4:=Lib.hid (fun (u:World) (g ob kb:Nat) (h:RdAt u g s t2) (h1:u.cell? ⟨kb,0,none⟩=some (.int .i64 k)) (h2:u.cell? ⟨ob,0,none⟩=some (oneF kb)) (h3:¬ kb=g) => encD_any u g ob kb s t2 h hpp' hs k hk h1 h2 h3 m hm64)
      generalize rdWords s.data.toList k t2 m=G at *
      obtain ⟨vs,t3⟩:=G
      simp only at hR T4 hsa
      have T5:=Lib.hid (fun (u:World) (a av:Option Addr) (cap cv:Nat) (h1:IsL u a ns) (h2:IsV u av vs) (hb:t3.bad=false) => joined_any u a av cap cv ns vs h1 h2 (by clear hci;omega) hbits (by rw [hm,hsa.2.2 hb];exact Nat.le_refl _))
      have HR:=Lib.hid hR
      have hsub:IntKind.i64.wrap ((ns.length:Int) - sumB ns)=(m:Int):=sub_bits z3 hm64
      have HNL:=Lib.hid hnl
      clear hR hsa hm z1 z2 z3 hzl hbits hpp' hk hs hnl hm64
      clear hsome
      go_enter Tryz.func60,Tryz.ntmps60
      go_upto_region 7 with (first
        | (go_at_call 91;refine T0.out.mono ?_;rintro e w1 ⟨wb,ob,kb,rfl,hw1,hb1,hwb1,hob1,hkb1,hwb2,hob2,hkb2⟩;have HW1:=Lib.hid hw1;have HB1:=Lib.hid hb1;have HL0:=Lib.hid (And.intro (And.intro hwb1 (And.intro hob1 hkb1)) (And.intro hwb2 (And.intro hob2 hkb2)));clear hw1 hb1 hwb1 hob1 hkb1 hwb2 hob2 hkb2)
        | (go_at_call 92;refine (TN.out _).mono ?_;rintro e u2 ⟨g,rfl,hg,hrd,hb⟩;have HRN:=Lib.hid hrd;have HGW:=Lib.hid (Nat.le_trans HB1.out.size hg);have HL1:=Lib.hid (lie_up HL0.out hg);have HWN:=Lib.hid (HW1.out.frm (Frm.of_new hb (fun _ => False)) (fun e => e) (fun e => e) (fun e => e));have HBN:=Lib.hid (HB1.out.trans (hb.mono HB1.out.size));clear hb hrd hg HW1 HB1 HL0)
        | (go_at_call 93;refine (TB.out _ g HRN.out).mono ?_;rintro e w2 ⟨rfl,hr,hf⟩;have HRD:=Lib.hid hr;have HZZ:=Lib.hid hr.lt;have HWY:=Lib.hid (HWN.out.frm hf (lie HL1.out).1 (lie HL1.out).2.1 (lie HL1.out).2.2);have HBB:=Lib.hid (Frm.to_below HBN.out hf (fun k e => by rw [e];exact HGW.out) (Nat.le_refl _));clear hr hf HRN HWN HBN)
        | (go_at_call 95;refine (T1.out w2 g HRD.out).mono ?_;rintro e w3 ⟨rfl,hr3,hf3⟩;have HR3:=Lib.hid hr3;have HF3:=Lib.hid hf3;clear hr3 hf3)
        | (go_at_call 94;refine (T2.out w3 g HR3.out).mono ?_;rintro e w4 ⟨a,cap,rfl,ho4,hr4,hf4⟩;have HO4:=Lib.hid ho4;have HR4:=Lib.hid hr4;have HF4:=Lib.hid hf4;clear ho4 hr4 hf4))
      have hw4:=(HWY.out.frm HF3.out (lie HL1.out).1 (lie HL1.out).2.1 (lie HL1.out).2.2).frm HF4.out (lie HL1.out).1 (lie HL1.out).2.1 (lie HL1.out).2.2
      have hcw:w4.cell? ⟨wb,5,none⟩=some (.func (.func 128) #[] #[.pointer (some ⟨ob,0,none⟩)]):=by
        rw [cell_of_row _ _ _ _ _ _ hw4.row];rfl
      have HW4:=Lib.hid hw4
      have hne:¬ kb=g:=(lie HL1.out).2.2
      have hnew:¬ wb=g:=(lie HL1.out).1
      clear hw4
      go_region_held3 (fun w' => w'.cell? ⟨wb,5,none⟩=some (.func (.func 128) #[] #[.pointer (some ⟨ob,0,none⟩)])) (go_keep)
        (first
          | (go_at_call 96;refine (T3.out w4.drew a cap (IsL.keep HO4.out.isL (fun _ _ => rfl))).mono ?_;rintro e w5 ⟨rfl,rfl⟩)
          | (go_at_call 128;refine (T4.out w4.drew g ob kb ⟨HR4.out.b⟩ HW4.out.kind HW4.out.one hne).mono ?_;rintro e w6 ⟨av,cv,rfl,ho6,hr6,hf6⟩;have hcw6:=cell_frm2 hcw hf6 hnew;have HO6:=Lib.hid ho6;have HR6:=Lib.hid hr6;have HF6:=Lib.hid hf6;clear ho6 hr6 hf6))
      all_goals (
        have hb6:Below w.heap.size w w6:=Frm.to_below (Frm.to_below (Frm.to_below HBB.out HF3.out (fun k e => by rw [e];exact HGW.out) (Nat.le_refl _)) HF4.out (fun k e => by rw [e];exact HGW.out) (Nat.le_refl _)).drew HF6.out (fun k e => by rw [e];exact HGW.out) (Nat.le_refl _)
        have hl6:IsL w6 a ns:=(HO4.out.frm (w':=w6) (F:=fun k => k=g) ((Frm.refl (fun k => k=g) w4).drew.trans HF6.out) fun k hk _ e => by have h1:=(HO4.out.at_ge hk).1;have h2:=HF3.out.size;have h3:=HZZ.out;clear hsub hci;omega).isL
        have HB6:=Lib.hid hb6
        have HL6:=Lib.hid hl6
        clear hcw hcw6 hsub hci hb6 hl6
        have hRv:=HR.out
        unfold rdBody at hRv
        simp only at hRv
        cases hbd:t3.bad with
        | true =>
          have TQ:Hid (Calls Tryz.prog 97 #[.pointer (some ⟨g,0,none⟩)] w6 fun e w' => e=.returned (.bool true)∧w6=w'):=by have:=TBR.out w6 g t3 HR6.out;rw [hbd] at this;exact this
          rw [hbd] at hRv
          rw [if_pos rfl] at hRv
          subst hRv
          go_wp2_with (go_at_call 97;refine TQ.out.mono ?_;rintro e w7 ⟨rfl,rfl⟩)
          go_ret2
          exact ⟨HB6.out,.inl ⟨rfl,rfl⟩⟩
        | false =>
          have TQ:Hid (Calls Tryz.prog 97 #[.pointer (some ⟨g,0,none⟩)] w6 fun e w' => e=.returned (.bool false)∧w6=w'):=by have:=TBR.out w6 g t3 HR6.out;rw [hbd] at this;exact this
          rw [hbd] at hRv
          rw [if_neg (by simp)] at hRv
          subst hRv
          have T6:=Lib.hid (T5.out w6 a av cap cv HL6.out HO6.out.isV hbd)
          go_wp2_with (first
            | (go_at_call 97;refine TQ.out.mono ?_;rintro e w6b ⟨rfl,rfl⟩)
            | (go_at_call 98;refine T6.out.mono ?_;rintro e w7 ⟨g7,c7,rfl,ho7,hb7⟩;have HO7:=Lib.hid ho7;have HB7:=Lib.hid hb7;clear ho7 hb7))
          go_ret2
          exact ⟨HB6.out.trans (HB7.out.mono HB6.out.size),.inr ⟨mergeV ns vs,g7,c7,rfl,rfl,HO7.out.lower HB6.out.size⟩⟩)
    · have hsome:rdSome s.data.toList 2 0 t2 m=rdTruths s.data.toList t2 m:=rfl
      rw [hsome] at hR hsa
      have T4:=Lib.hid (fun (u:World) (g ob kb:Nat) (h:RdAt u g s t2) (h1:u.cell? ⟨kb,0,none⟩=some (.int .i64 2)) (h2:u.cell? ⟨ob,0,none⟩=some (oneF kb)) (h3:¬ kb=g) => gettruths_any u g s t2 h hpp' hs m hm64)
      generalize rdTruths s.data.toList t2 m=G at *
      obtain ⟨vs,t3⟩:=G
      simp only at hR T4 hsa
      have T5:=Lib.hid (fun (u:World) (a av:Option Addr) (cap cv:Nat) (h1:IsL u a ns) (h2:IsV u av vs) (hb:t3.bad=false) => joined_any u a av cap cv ns vs h1 h2 (by clear hci;omega) hbits (by rw [hm,hsa.2.2 hb];exact Nat.le_refl _))
      have HR:=Lib.hid hR
      have hsub:IntKind.i64.wrap ((ns.length:Int) - sumB ns)=(m:Int):=sub_bits z3 hm64
      have HNL:=Lib.hid hnl
      clear hR hsa hm z1 z2 z3 hzl hbits hpp' hk hs hnl hm64
      clear hsome
      go_enter Tryz.func60,Tryz.ntmps60
      go_upto_region 7 with (first
        | (go_at_call 91;refine T0.out.mono ?_;rintro e w1 ⟨wb,ob,kb,rfl,hw1,hb1,hwb1,hob1,hkb1,hwb2,hob2,hkb2⟩;have HW1:=Lib.hid hw1;have HB1:=Lib.hid hb1;have HL0:=Lib.hid (And.intro (And.intro hwb1 (And.intro hob1 hkb1)) (And.intro hwb2 (And.intro hob2 hkb2)));clear hw1 hb1 hwb1 hob1 hkb1 hwb2 hob2 hkb2)
        | (go_at_call 92;refine (TN.out _).mono ?_;rintro e u2 ⟨g,rfl,hg,hrd,hb⟩;have HRN:=Lib.hid hrd;have HGW:=Lib.hid (Nat.le_trans HB1.out.size hg);have HL1:=Lib.hid (lie_up HL0.out hg);have HWN:=Lib.hid (HW1.out.frm (Frm.of_new hb (fun _ => False)) (fun e => e) (fun e => e) (fun e => e));have HBN:=Lib.hid (HB1.out.trans (hb.mono HB1.out.size));clear hb hrd hg HW1 HB1 HL0)
        | (go_at_call 93;refine (TB.out _ g HRN.out).mono ?_;rintro e w2 ⟨rfl,hr,hf⟩;have HRD:=Lib.hid hr;have HZZ:=Lib.hid hr.lt;have HWY:=Lib.hid (HWN.out.frm hf (lie HL1.out).1 (lie HL1.out).2.1 (lie HL1.out).2.2);have HBB:=Lib.hid (Frm.to_below HBN.out hf (fun k e => by rw [e];exact HGW.out) (Nat.le_refl _));clear hr hf HRN HWN HBN)
        | (go_at_call 95;refine (T1.out w2 g HRD.out).mono ?_;rintro e w3 ⟨rfl,hr3,hf3⟩;have HR3:=Lib.hid hr3;have HF3:=Lib.hid hf3;clear hr3 hf3)
        | (go_at_call 94;refine (T2.out w3 g HR3.out).mono ?_;rintro e w4 ⟨a,cap,rfl,ho4,hr4,hf4⟩;have HO4:=Lib.hid ho4;have HR4:=Lib.hid hr4;have HF4:=Lib.hid hf4;clear ho4 hr4 hf4))
      have hw4:=(HWY.out.frm HF3.out (lie HL1.out).1 (lie HL1.out).2.1 (lie HL1.out).2.2).frm HF4.out (lie HL1.out).1 (lie HL1.out).2.1 (lie HL1.out).2.2
      have hcw:w4.cell? ⟨wb,1,none⟩=some (.func (.func 131) #[] #[]):=by
        rw [cell_of_row _ _ _ _ _ _ hw4.row];rfl
      have HW4:=Lib.hid hw4
      have hne:¬ kb=g:=(lie HL1.out).2.2
      have hnew:¬ wb=g:=(lie HL1.out).1
      clear hw4
      go_region_held3 (fun w' => w'.cell? ⟨wb,1,none⟩=some (.func (.func 131) #[] #[])) (go_keep)
        (first
          | (go_at_call 96;refine (T3.out w4.drew a cap (IsL.keep HO4.out.isL (fun _ _ => rfl))).mono ?_;rintro e w5 ⟨rfl,rfl⟩)
          | (go_at_call 131;refine (T4.out w4.drew g ob kb ⟨HR4.out.b⟩ HW4.out.kind HW4.out.one hne).mono ?_;rintro e w6 ⟨av,cv,rfl,ho6,hr6,hf6⟩;have hcw6:=cell_frm2 hcw hf6 hnew;have HO6:=Lib.hid ho6;have HR6:=Lib.hid hr6;have HF6:=Lib.hid hf6;clear ho6 hr6 hf6))
      all_goals (
        have hb6:Below w.heap.size w w6:=Frm.to_below (Frm.to_below (Frm.to_below HBB.out HF3.out (fun k e => by rw [e];exact HGW.out) (Nat.le_refl _)) HF4.out (fun k e => by rw [e];exact HGW.out) (Nat.le_refl _)).drew HF6.out (fun k e => by rw [e];exact HGW.out) (Nat.le_refl _)
        have hl6:IsL w6 a ns:=(HO4.out.frm (w':=w6) (F:=fun k => k=g) ((Frm.refl (fun k => k=g) w4).drew.trans HF6.out) fun k hk _ e => by have h1:=(HO4.out.at_ge hk).1;have h2:=HF3.out.size;have h3:=HZZ.out;clear hsub hci;omega).isL
        have HB6:=Lib.hid hb6
        have HL6:=Lib.hid hl6
        clear hcw hcw6 hsub hci hb6 hl6
        have hRv:=HR.out
        unfold rdBody at hRv
        simp only at hRv
        cases hbd:t3.bad with
        | true =>
          have TQ:Hid (Calls Tryz.prog 97 #[.pointer (some ⟨g,0,none⟩)] w6 fun e w' => e=.returned (.bool true)∧w6=w'):=by have:=TBR.out w6 g t3 HR6.out;rw [hbd] at this;exact this
          rw [hbd] at hRv
          rw [if_pos rfl] at hRv
          subst hRv
          go_wp2_with (go_at_call 97;refine TQ.out.mono ?_;rintro e w7 ⟨rfl,rfl⟩)
          go_ret2
          exact ⟨HB6.out,.inl ⟨rfl,rfl⟩⟩
        | false =>
          have TQ:Hid (Calls Tryz.prog 97 #[.pointer (some ⟨g,0,none⟩)] w6 fun e w' => e=.returned (.bool false)∧w6=w'):=by have:=TBR.out w6 g t3 HR6.out;rw [hbd] at this;exact this
          rw [hbd] at hRv
          rw [if_neg (by simp)] at hRv
          subst hRv
          have T6:=Lib.hid (T5.out w6 a av cap cv HL6.out HO6.out.isV hbd)
          go_wp2_with (first
            | (go_at_call 97;refine TQ.out.mono ?_;rintro e w6b ⟨rfl,rfl⟩)
            | (go_at_call 98;refine T6.out.mono ?_;rintro e w7 ⟨g7,c7,rfl,ho7,hb7⟩;have HO7:=Lib.hid ho7;have HB7:=Lib.hid hb7;clear ho7 hb7))
          go_ret2
          exact ⟨HB6.out.trans (HB7.out.mono HB6.out.size),.inr ⟨mergeV ns vs,g7,c7,rfl,rfl,HO7.out.lower HB6.out.size⟩⟩)
    · have hsome:rdSome s.data.toList k 0 t2 m=rdEach s.data.toList k m t2 []:=by unfold rdSome;rw [if_neg (by omega),if_neg (by omega),if_neg hk2]
      rw [hsome] at hR hsa
      have T4:=Lib.hid (fun (u:World) (g ob kb:Nat) (h:RdAt u g s t2) (h1:u.cell? ⟨kb,0,none⟩=some (.int .i64 k)) (h2:u.cell? ⟨ob,0,none⟩=some (oneF kb)) (h3:¬ kb=g) => encB_any u g ob kb s t2 h hpp' hs k hk h1 h2 h3 m hm64)
      generalize rdEach s.data.toList k m t2 []=G at *
      obtain ⟨vs,t3⟩:=G
      simp only at hR T4 hsa
      have T5:=Lib.hid (fun (u:World) (a av:Option Addr) (cap cv:Nat) (h1:IsL u a ns) (h2:IsV u av vs) (hb:t3.bad=false) => joined_any u a av cap cv ns vs h1 h2 (by clear hci;omega) hbits (by rw [hm,hsa.2.2 hb];exact Nat.le_refl _))
      have HR:=Lib.hid hR
      have hsub:IntKind.i64.wrap ((ns.length:Int) - sumB ns)=(m:Int):=sub_bits z3 hm64
      have HNL:=Lib.hid hnl
      clear hR hsa hm z1 z2 z3 hzl hbits hpp' hk hs hnl hm64
      clear hsome
      go_enter Tryz.func60,Tryz.ntmps60
      go_upto_region 7 with (first
        | (go_at_call 91;refine T0.out.mono ?_;rintro e w1 ⟨wb,ob,kb,rfl,hw1,hb1,hwb1,hob1,hkb1,hwb2,hob2,hkb2⟩;have HW1:=Lib.hid hw1;have HB1:=Lib.hid hb1;have HL0:=Lib.hid (And.intro (And.intro hwb1 (And.intro hob1 hkb1)) (And.intro hwb2 (And.intro hob2 hkb2)));clear hw1 hb1 hwb1 hob1 hkb1 hwb2 hob2 hkb2)
        | (go_at_call 92;refine (TN.out _).mono ?_;rintro e u2 ⟨g,rfl,hg,hrd,hb⟩;have HRN:=Lib.hid hrd;have HGW:=Lib.hid (Nat.le_trans HB1.out.size hg);have HL1:=Lib.hid (lie_up HL0.out hg);have HWN:=Lib.hid (HW1.out.frm (Frm.of_new hb (fun _ => False)) (fun e => e) (fun e => e) (fun e => e));have HBN:=Lib.hid (HB1.out.trans (hb.mono HB1.out.size));clear hb hrd hg HW1 HB1 HL0)
        | (go_at_call 93;refine (TB.out _ g HRN.out).mono ?_;rintro e w2 ⟨rfl,hr,hf⟩;have HRD:=Lib.hid hr;have HZZ:=Lib.hid hr.lt;have HWY:=Lib.hid (HWN.out.frm hf (lie HL1.out).1 (lie HL1.out).2.1 (lie HL1.out).2.2);have HBB:=Lib.hid (Frm.to_below HBN.out hf (fun k e => by rw [e];exact HGW.out) (Nat.le_refl _));clear hr hf HRN HWN HBN)
        | (go_at_call 95;refine (T1.out w2 g HRD.out).mono ?_;rintro e w3 ⟨rfl,hr3,hf3⟩;have HR3:=Lib.hid hr3;have HF3:=Lib.hid hf3;clear hr3 hf3)
        | (go_at_call 94;refine (T2.out w3 g HR3.out).mono ?_;rintro e w4 ⟨a,cap,rfl,ho4,hr4,hf4⟩;have HO4:=Lib.hid ho4;have HR4:=Lib.hid hr4;have HF4:=Lib.hid hf4;clear ho4 hr4 hf4))
      have hw4:=(HWY.out.frm HF3.out (lie HL1.out).1 (lie HL1.out).2.1 (lie HL1.out).2.2).frm HF4.out (lie HL1.out).1 (lie HL1.out).2.1 (lie HL1.out).2.2
      have hcw:w4.cell? ⟨wb,1,none⟩=some (.func (.func 122) #[] #[.pointer (some ⟨ob,0,none⟩)]):=by
        rw [cell_of_row _ _ _ _ _ _ hw4.row];simp [getF,hk2]
      have HW4:=Lib.hid hw4
      have hne:¬ kb=g:=(lie HL1.out).2.2
      have hnew:¬ wb=g:=(lie HL1.out).1
      clear hw4
      go_region_held3 (fun w' => w'.cell? ⟨wb,1,none⟩=some (.func (.func 122) #[] #[.pointer (some ⟨ob,0,none⟩)])) (go_keep)
        (first
          | (go_at_call 96;refine (T3.out w4.drew a cap (IsL.keep HO4.out.isL (fun _ _ => rfl))).mono ?_;rintro e w5 ⟨rfl,rfl⟩)
          | (go_at_call 122;refine (T4.out w4.drew g ob kb ⟨HR4.out.b⟩ HW4.out.kind HW4.out.one hne).mono ?_;rintro e w6 ⟨av,cv,rfl,ho6,hr6,hf6⟩;have hcw6:=cell_frm2 hcw hf6 hnew;have HO6:=Lib.hid ho6;have HR6:=Lib.hid hr6;have HF6:=Lib.hid hf6;clear ho6 hr6 hf6))
      all_goals (
        have hb6:Below w.heap.size w w6:=Frm.to_below (Frm.to_below (Frm.to_below HBB.out HF3.out (fun k e => by rw [e];exact HGW.out) (Nat.le_refl _)) HF4.out (fun k e => by rw [e];exact HGW.out) (Nat.le_refl _)).drew HF6.out (fun k e => by rw [e];exact HGW.out) (Nat.le_refl _)
        have hl6:IsL w6 a ns:=(HO4.out.frm (w':=w6) (F:=fun k => k=g) ((Frm.refl (fun k => k=g) w4).drew.trans HF6.out) fun k hk _ e => by have h1:=(HO4.out.at_ge hk).1;have h2:=HF3.out.size;have h3:=HZZ.out;clear hsub hci;omega).isL
        have HB6:=Lib.hid hb6
        have HL6:=Lib.hid hl6
        clear hcw hcw6 hsub hci hb6 hl6
        have hRv:=HR.out
        unfold rdBody at hRv
        simp only at hRv
        cases hbd:t3.bad with
        | true =>
          have TQ:Hid (Calls Tryz.prog 97 #[.pointer (some ⟨g,0,none⟩)] w6 fun e w' => e=.returned (.bool true)∧w6=w'):=by have:=TBR.out w6 g t3 HR6.out;rw [hbd] at this;exact this
          rw [hbd] at hRv
          rw [if_pos rfl] at hRv
          subst hRv
          go_wp2_with (go_at_call 97;refine TQ.out.mono ?_;rintro e w7 ⟨rfl,rfl⟩)
          go_ret2
          exact ⟨HB6.out,.inl ⟨rfl,rfl⟩⟩
        | false =>
          have TQ:Hid (Calls Tryz.prog 97 #[.pointer (some ⟨g,0,none⟩)] w6 fun e w' => e=.returned (.bool false)∧w6=w'):=by have:=TBR.out w6 g t3 HR6.out;rw [hbd] at this;exact this
          rw [hbd] at hRv
          rw [if_neg (by simp)] at hRv
          subst hRv
          have T6:=Lib.hid (T5.out w6 a av cap cv HL6.out HO6.out.isV hbd)
          go_wp2_with (first
            | (go_at_call 97;refine TQ.out.mono ?_;rintro e w6b ⟨rfl,rfl⟩)
            | (go_at_call 98;refine T6.out.mono ?_;rintro e w7 ⟨g7,c7,rfl,ho7,hb7⟩;have HO7:=Lib.hid ho7;have HB7:=Lib.hid hb7;clear ho7 hb7))
          go_ret2
          exact ⟨HB6.out.trans (HB7.out.mono HB6.out.size),.inr ⟨mergeV ns vs,g7,c7,rfl,rfl,HO7.out.lower HB6.out.size⟩⟩)
end Go.Proofs.YtfbmlefhjoblbaaGreat
namespace Go.Proofs.YtfbmlefhjoblbaaGreat
open Go.Conc Go.RowKit
set_option linter.unusedVariables false
set_option linter.unusedSimpArgs false
theorem OwnV.len {base cap:Nat} {w:World} {a:Option Addr} {vs:List V} (h:OwnV base w a cap vs):vs.length≤9223372036854775807:=by
  rcases h.2 with ⟨_,h0⟩ | ⟨g,cp,cur,hv,hb,hg,hn,hm,hs,ht⟩
  · omega
  · simp only [maxLen] at hm;omega
theorem readA_fine {k:Int} {l:List UInt8} {vs:List V} (h:readA k l=some vs) (hl:l.length≤140737488355328):Fine vs:=fun v hv => by
  have:=readA_read h v hv
  exact ⟨this.1,Nat.le_trans this.2.1 hl⟩
theorem open_seal {s:ByteArray} (h:isSealed s=true):sealB (openT s)=s:=by
  have h4:4≤s.size:=by
    unfold isSealed at h
    simp only [Bool.and_eq_true,decide_eq_true_eq] at h
    exact h.1
  unfold openT
  rw [if_pos h]
  exact (sealed_iff s h4).1 h
theorem get_no {k:Int} {s:ByteArray} (h:¬ (1≤k∧k≤3)):colGet k s=([],900):=if_pos h
theorem get_sum {k:Int} {s:ByteArray} (hk:1≤k∧k≤3) (h:isSealed s=false):colGet k s=([],902):=by
  unfold colGet;rw [if_neg (by omega),if_pos h]
theorem get_is {k:Int} {s:ByteArray} (hk:1≤k∧k≤3) (h:isSealed s=true):colGet k s=ansOf k s (readA k (openT s).data.toList):=by
  unfold colGet
  rw [if_neg (by omega),if_neg (by simp [h])]
  exact reads_same (reads_parse hk) (reads_readA hk) s
theorem get_none {k:Int} {s:ByteArray} (hk:1≤k∧k≤3) (h:isSealed s=true) (h2:readA k (openT s).data.toList=none):colGet k s=([],901):=by
  rw [get_is hk h,h2];rfl
theorem put_same {k:Int} {s:ByteArray} {vs:List V} (h:isSealed s=true):((colPut k vs).2.2=0∧(colPut k vs).1=s) ↔ ((colW k vs).2=0∧(colW k vs).1=openT s):=by
  have hp:=colPut_W k vs
  generalize colPut k vs=P at *
  generalize colW k vs=C at *
  obtain ⟨x,E⟩:=C
  obtain ⟨p1,p2,p3⟩:=P
  simp only at *
  by_cases hE:E=0
  · rw [if_pos hE] at hp
    injection hp with h1 h2
    subst h1 h2 hE
    constructor
    · rintro ⟨_,e⟩
      exact ⟨rfl,by rw [← e,seal_openT]⟩
    · rintro ⟨_,e⟩
      exact ⟨rfl,by rw [e,open_seal h]⟩
  · rw [if_neg hE] at hp
    injection hp with h1 h2
    constructor
    · rintro ⟨e,_⟩;exact absurd (h2 ▸ e) hE
    · rintro ⟨e,_⟩;exact absurd e hE
theorem get_some {k:Int} {s:ByteArray} {vs:List V} (hk:1≤k∧k≤3) (h:isSealed s=true) (h2:readA k (openT s).data.toList=some vs):colGet k s=if (colW k vs).2=0∧(colW k vs).1=openT s then (vs,0) else ([],901):=by
  rw [get_is hk h,h2]
  simp only [ansOf]
  by_cases c:(colW k vs).2=0∧(colW k vs).1=openT s
  · rw [if_pos c,if_pos ((put_same h).2 c)]
  · rw [if_neg c,if_neg fun e => c ((put_same h).1 e)]
set_option maxRecDepth 100000 in
set_option maxHeartbeats 2000000 in
theorem vecget_any (w:World) (k:Int) (s:ByteArray) (hs:s.size≤140737488355328):Calls Tryz.prog 23 #[.int .i64 k,.string s] w fun e w' => ∃ a cap,e=.returned (.tuple #[.slice a (colGet k s).1.length cap,.int .i64 (colGet k s).2])∧OwnV w.heap.size w' a cap (colGet k s).1∧Below w.heap.size w w':=by
  have T0:=Lib.hid (fun u => iskind_any k u)
  by_cases hk:1≤k∧k≤3
  · rw [decide_eq_true hk] at T0
    have T1:=Lib.hid (fun u => copen_any s (by omega) u)
    cases hsl:isSealed s with
    | false =>
      rw [get_sum hk hsl]
      have e1:openE s=400:=by unfold openE;rw [if_neg (by rw [hsl];simp)]
      rw [e1] at T1
      clear e1 hsl
      go_enter Tryz.func23,Tryz.ntmps23
      go_wp2_with (first
        | (go_at_call 58;refine (T0.out _).mono ?_;rintro e w' ⟨rfl,rfl⟩)
        | (go_at_call 59;refine (T1.out _).mono ?_;rintro e w1 ⟨rfl,hb⟩;have HB1:=Lib.hid hb;clear hb))
      go_ret2
      exact ⟨none,0,rfl,OwnV.nil _ _,HB1.out⟩
    | true =>
      have e1:openE s=0:=by unfold openE;rw [if_pos hsl]
      have hol:(openT s).size≤s.size:=by
        have:=congrArg ByteArray.size (open_seal hsl);rw [sealB_size] at this;omega
      rw [e1] at T1
      have TR:=Lib.hid (fun u => vecread_any u k hk (openT s) (by omega))
      cases ho:readA k (openT s).data.toList with
      | none =>
        rw [get_none hk hsl ho]
        rw [ho] at TR
        have TR2:Hid (∀ u,Calls Tryz.prog 60 #[.int .i64 k,.string (openT s)] u fun e w' => e=.returned (.tuple #[.slice none 0 0,.bool false])∧Below u.heap.size u w'):=fun u => (TR.out u).mono fun e w' ⟨h1,h2⟩ => by
          rcases h2 with ⟨_,h⟩ | ⟨vs,g,c,h,_⟩
          · exact ⟨h,h1⟩
          · cases h
        clear e1 hsl hol TR ho
        generalize openT s=O at *
        go_enter Tryz.func23,Tryz.ntmps23
        go_wp2_with (first
          | (go_at_call 58;refine (T0.out _).mono ?_;rintro e w' ⟨rfl,rfl⟩)
          | (go_at_call 59;refine (T1.out _).mono ?_;rintro e w1 ⟨rfl,hb⟩;have HB1:=Lib.hid hb;clear hb)
          | (go_at_call 60;refine (TR2.out _).mono ?_;rintro e w2 ⟨rfl,hb⟩;have HB2:=Lib.hid (HB1.out.trans (hb.mono HB1.out.size));clear hb))
        go_ret2
        exact ⟨none,0,rfl,OwnV.nil _ _,HB2.out⟩
      | some vs =>
        rw [get_some hk hsl ho]
        have hfn:=readA_fine ho (by rw [← size_list];omega)
        rw [ho] at TR
        have TR2:Hid (∀ u,Calls Tryz.prog 60 #[.int .i64 k,.string (openT s)] u fun e w' => ∃ g c,e=.returned (.tuple #[.slice (some ⟨g,0,none⟩) vs.length c,.bool true])∧OwnV u.heap.size w' (some ⟨g,0,none⟩) c vs∧Below u.heap.size u w'):=fun u => (TR.out u).mono fun e w' ⟨h1,h2⟩ => by
          rcases h2 with ⟨h,_⟩ | ⟨vs',g,c,h,h3,h4⟩
          · cases h
          · injection h with h;subst h;exact ⟨g,c,h3,h4,h1⟩
        have TW:=Lib.hid (fun (u:World) (a:Option Addr) (cap:Nat) (h:IsV u a vs) (hl:vs.length≤9223372036854775807) => write_any u k a cap vs h hl hfn)
        clear e1 hsl hol TR ho hfn
        generalize openT s=O at *
        generalize colW k vs=C at *
        obtain ⟨x,E⟩:=C
        simp only at TW ⊢
        by_cases hE:E=0
        · subst hE
          by_cases hx:x=O
          · rw [if_pos ⟨rfl,hx⟩]
            have hq:(x.toList == O.toList)=true:=toList_same hx
            clear hx
            go_enter Tryz.func23,Tryz.ntmps23
            go_wp2_with (first
              | (go_at_call 58;refine (T0.out _).mono ?_;rintro e w' ⟨rfl,rfl⟩)
              | (go_at_call 59;refine (T1.out _).mono ?_;rintro e w1 ⟨rfl,hb⟩;have HB1:=Lib.hid hb;clear hb)
              | (go_at_call 60;refine (TR2.out _).mono ?_;rintro e w2 ⟨g,c,rfl,ho2,hb⟩;have HO2:=Lib.hid ho2;have HB2:=Lib.hid (HB1.out.trans (hb.mono HB1.out.size));clear hb ho2)
              | (go_at_call 47;refine (TW.out _ _ _ HO2.out.isV HO2.out.len).mono ?_;rintro e w3 ⟨rfl,hb⟩;have HO3:=Lib.hid (HO2.out.below hb);have HB3:=Lib.hid (HB2.out.trans (hb.mono HB2.out.size));clear hb))
            go_ret2
            exact ⟨_,c,rfl,HO3.out.lower HB1.out.size,HB3.out⟩
          · rw [if_neg (fun e => hx e.2)]
            have hq:(x.toList == O.toList)=false:=toList_ne hx
            clear hx
            go_enter Tryz.func23,Tryz.ntmps23
            go_wp2_with (first
              | (go_at_call 58;refine (T0.out _).mono ?_;rintro e w' ⟨rfl,rfl⟩)
              | (go_at_call 59;refine (T1.out _).mono ?_;rintro e w1 ⟨rfl,hb⟩;have HB1:=Lib.hid hb;clear hb)
              | (go_at_call 60;refine (TR2.out _).mono ?_;rintro e w2 ⟨g,c,rfl,ho2,hb⟩;have HO2:=Lib.hid ho2;have HB2:=Lib.hid (HB1.out.trans (hb.mono HB1.out.size));clear hb ho2)
              | (go_at_call 47;refine (TW.out _ _ _ HO2.out.isV HO2.out.len).mono ?_;rintro e w3 ⟨rfl,hb⟩;have HB3:=Lib.hid (HB2.out.trans (hb.mono HB2.out.size));clear hb))
            go_ret2
            exact ⟨none,0,rfl,OwnV.nil _ _,HB3.out⟩
        · rw [if_neg (fun e => hE e.1)]
          have hne:(E != 0)=true:=by simpa using hE
          clear hE
          go_enter Tryz.func23,Tryz.ntmps23
          go_wp2_with (first
            | (go_at_call 58;refine (T0.out _).mono ?_;rintro e w' ⟨rfl,rfl⟩)
            | (go_at_call 59;refine (T1.out _).mono ?_;rintro e w1 ⟨rfl,hb⟩;have HB1:=Lib.hid hb;clear hb)
            | (go_at_call 60;refine (TR2.out _).mono ?_;rintro e w2 ⟨g,c,rfl,ho2,hb⟩;have HO2:=Lib.hid ho2;have HB2:=Lib.hid (HB1.out.trans (hb.mono HB1.out.size));clear hb ho2)
            | (go_at_call 47;refine (TW.out _ _ _ HO2.out.isV HO2.out.len).mono ?_;rintro e w3 ⟨rfl,hb⟩;have HB3:=Lib.hid (HB2.out.trans (hb.mono HB2.out.size));clear hb))
          go_ret2
          exact ⟨none,0,rfl,OwnV.nil _ _,HB3.out⟩
  · rw [decide_eq_false hk] at T0
    rw [get_no hk]
    go_enter Tryz.func23,Tryz.ntmps23
    go_wp2_with (go_at_call 58;refine (T0.out _).mono ?_;rintro e w' ⟨rfl,rfl⟩)
    go_ret2
    exact ⟨none,0,rfl,OwnV.nil _ _,Below.refl _ _⟩
end Go.Proofs.YtfbmlefhjoblbaaGreat
