/- Spaces and remarks left out: a claim is at most so large. -/
import Derived.Test.YtfbmlefhjoblbaaGreatRdGz
import Derived.Test.YtfbmlefhjoblbaaGreatUCutGz
import Derived.Test.YtfbmlefhjoblbaaGreatWBuildGz
import Derived.Test.YtfbmlefhjoblbaaGreatWmathGz
import Derived.Laws.EntriesVeiled
namespace Go.Proofs.YtfbmlefhjoblbaaGreat
open Go.Conc Go.RowKit
set_option linter.unusedVariables false
set_option linter.unusedSimpArgs false
set_option maxRecDepth 100000 in
set_option maxHeartbeats 4000000 in
theorem getruns_any (w:World) (g kb:Nat) (s:ByteArray) (t:Tk) (h:RdAt w g s t) (hp:t.pos≤s.size) (hs:s.size≤281474976710648) (k:Int) (hk:1≤k∧k≤3) (hkb:w.cell? ⟨kb,0,none⟩=some (.int .i64 k)) (hne:¬ kb=g) (many:Nat) (hm:many≤65536) :
    Calls Tryz.prog 126 #[.pointer (some ⟨g,0,none⟩),.int .i64 (many:Int),oneF kb] w fun e w' => ∃ a cap,e=.returned (.slice a (rdRuns s.data.toList k t many).1.length cap)∧OwnV w.heap.size w' a cap (rdRuns s.data.toList k t many).1∧RdAt w' g s (rdRuns s.data.toList k t many).2∧Frm (fun k => k=g) w w':=by
  obtain ⟨u,hu⟩:∃ u,u=((w.alloc (.cells #[.int .i64 (many:Int)] 3)).alloc (.cells #[oneF kb] 165)).alloc (.cells #[.slice none 0 0] 86):=⟨_,rfl⟩
  have hl:s.data.toList.length=s.size:=(size_list s).symm
  have hgl:=h.lt
  have hkl:=World.block_lt_of_cell? w ⟨kb,0,none⟩ hkb
  have hz:u.heap.size=w.heap.size + 3:=by rw [hu];simp
  have hf0:Frm (fun _ => False) w u:=by rw [hu];exact (((Frm.refl _ w).alloc _).alloc _).alloc _
  have hm0:u.cell? ⟨w.heap.size,0,none⟩=some (.int .i64 (many:Int)):=by
    rw [hu,World.cell?_of_block (Below.heap_alloc _ _ w.heap.size (by simp;omega)),World.cell?_of_block (Below.heap_alloc _ _ w.heap.size (by simp)),cell_of_row _ _ _ _ _ _ (heap_alloc_new w _)];rfl
  have ho0:u.cell? ⟨w.heap.size + 1,0,none⟩=some (oneF kb):=by
    rw [hu,World.cell?_of_block (Below.heap_alloc _ _ (w.heap.size + 1) (by simp))]
    have:=heap_alloc_new (w.alloc (.cells #[.int .i64 (many:Int)] 3)) (.cells #[oneF kb] 165)
    rw [show (w.alloc (.cells #[.int .i64 (many:Int)] 3)).heap.size=w.heap.size + 1 by simp] at this
    rw [cell_of_row _ _ _ _ _ _ this];rfl
  have hl0:u.heap[w.heap.size + 2]? = some (.cells #[.slice none 0 0] 86 (0,0)):=by
    have:=heap_alloc_new ((w.alloc (.cells #[.int .i64 (many:Int)] 3)).alloc (.cells #[oneF kb] 165)) (.cells #[.slice none 0 0] 86)
    rw [show ((w.alloc (.cells #[.int .i64 (many:Int)] 3)).alloc (.cells #[oneF kb] 165)).heap.size=w.heap.size + 2 by simp] at this
    rw [hu];exact this
  have hr0:RdAt u g s t:=h.frm hf0 (fun e => e)
  have hk0:u.cell? ⟨kb,0,none⟩=some (.int .i64 k):=cell_frm hkb hf0 (fun e => e)
  have T1:=Lib.hid (fun (u:World) (h:RdAt u g s t) => rdcount_any u g s t h hs many (by omega))
  have hcp:=rdCount_pos (l:=s.data.toList) (t:=t) (most:=many) (by rw [hl];exact hp)
  unfold rdRuns
  generalize rdCount s.data.toList t many=C at *
  obtain ⟨N,t1⟩:=C
  simp only at *
  have T2:=Lib.hid (fun (u:World) (lb mb ob:Nat) (h:NumAt u.heap.size u g lb mb ob kb s k many t1 none 0 []) (hB:NumB u.heap.size g lb mb ob kb) => eachnum_any u g lb mb ob kb s t1 k many N h hB hs hk hm (by omega))
  have hall:=rdNums_all s.data.toList k many N t1 [] [] hcp.1 (fun v hv => by cases hv) (fun x hx => by cases hx)
  generalize rdNums s.data.toList k many N t1 [] []=R at *
  obtain ⟨ms,vs,t2⟩:=R
  simp only [List.length_nil,Nat.zero_add] at *
  obtain ⟨hpos,hrd,hms,hvl,hml,_⟩:=hall
  have T3:=Lib.hid (fun (u:World) (am a:Option Addr) (cm cap:Nat) (h1:IsL u am ms) (h2:IsV u a vs) => ujoin_any u am a cm cap ms vs h1 h2 (by omega) (fun v hv => by have:=(hrd v hv).2.1;rw [hl] at this;omega) (fun x hx => by have:=(hms x hx).2;omega))
  have T4:=Lib.hid (fun (u:World) (t:Tk) (f:Bool) (h:RdAt u g s t) => rdhold_any u g s t h f)
  generalize joinA ms vs=J at *
  obtain ⟨js,E⟩:=J
  simp only at *
  have HM0:=Lib.hid hm0
  have HO0:=Lib.hid ho0
  have HL0:=Lib.hid hl0
  have HR0:=Lib.hid hr0
  have HK0:=Lib.hid hk0
  have HF0:=Lib.hid hf0
  have HZ:=Lib.hid hz
  have HG:=Lib.hid hgl
  have HKL:=Lib.hid hkl
  have HNE:=Lib.hid hne
  clear ho0 hl0 hr0 hk0 hf0 hz h hkb hgl hkl hne hpos hrd hms hvl hml hcp hp hm
  unfold oneF at hu ⊢
  go_enter Tryz.func126,Tryz.ntmps126
  go_upto_region 3 with fail
  rw [← hu]
  clear hu
  obtain ⟨b0,hb0⟩:∃ b0,b0=w.heap.size:=⟨_,rfl⟩
  have HB0:=Lib.hid hb0
  rw [← hb0] at HM0 HO0 HL0 HZ HG HKL hm0 ⊢
  clear hb0
  have hb12:b0 + 1 + 1=b0 + 2:=rfl
  rw [hb12]
  clear hb12
  obtain ⟨b1,hb1⟩:∃ b1,b1=b0 + 1:=⟨_,rfl⟩
  obtain ⟨b2,hb2⟩:∃ b2,b2=b0 + 2:=⟨_,rfl⟩
  have HB1:=Lib.hid hb1
  have HB2:=Lib.hid hb2
  rw [← hb1] at HO0 ⊢
  rw [← hb2] at HL0 ⊢
  clear hb1 hb2
  go_wp2_with (first
    | (go_at_call 95;refine (T1.out u HR0.out).mono ?_;rintro e w1 ⟨rfl,hr1,hf1⟩
       have hnb:NumB w1.heap.size g b2 b0 b1 kb:=(by
         have h1:=hf1.size;have h2:=HZ.out;have h3:=HG.out;have h4:=HKL.out;have h5:=HB1.out;have h6:=HB2.out;have h7:=HNE.out
         exact ⟨by omega,by omega,by omega,by omega,by omega,by omega,by omega,by omega,by omega,by omega,by omega,by omega⟩)
       have hn1:NumAt w1.heap.size w1 g b2 b0 b1 kb s k many t1 none 0 []:=(by
         have h2:=HZ.out;have h3:=HG.out;have h4:=HKL.out;have h5:=HB1.out;have h6:=HB2.out;have h7:=HNE.out
         refine ⟨hr1,?_,cell_frm HM0.out hf1 (by omega),cell_frm HO0.out hf1 (by omega),cell_frm HK0.out hf1 h7,OwnI.nil _ _,Nat.le_refl _⟩
         rw [hf1.block b2 (by omega) (by omega)];exact HL0.out)
       have HNB:=Lib.hid hnb;have HN1:=Lib.hid hn1;have HF1:=Lib.hid hf1;clear hnb hn1 hf1 hr1)
    | (go_at_call 123;refine (T2.out w1 b2 b0 b1 HN1.out HNB.out).mono ?_;rintro e w2 ⟨av,cv,a,cap,rfl,ho2,hn2,hf2⟩;have HO2:=Lib.hid ho2;have HN2:=Lib.hid hn2;have HF2:=Lib.hid hf2;have hl2:=hn2.cellL.1;clear ho2 hn2 hf2)
    | (go_at_call 154;refine (T3.out w2 a av cap cv HN2.out.own.isL HO2.out.isV).mono ?_;rintro e w3 ⟨aj,cj,rfl,ho3,hf3⟩;have HO3:=Lib.hid ho3;have HF3:=Lib.hid hf3;have hm3:=(hf3.cell (p:=⟨b0,0,none⟩) (World.block_lt_of_cell? w2 ⟨b0,0,none⟩ HN2.out.many)).trans HN2.out.many;clear ho3 hf3 hl2)
    | (go_at_call 105;refine (T4.out w3 t2 _ (HN2.out.rd.below HF3.out)).mono ?_;rintro e w4 ⟨rfl,hr4,hf4⟩;have HR4:=Lib.hid hr4;have HF4:=Lib.hid hf4;clear hr4 hf4))
  all_goals (
    have hfin:OwnV w.heap.size w4 aj cj js∧Frm (fun k => k=g) w w4:=by
      have h1:=HF1.out.size
      have h2:=HF2.out.size
      have h3:=HZ.out
      have h4:=HG.out
      have h5:=HB0.out
      have h6:=HB2.out
      refine ⟨(HO3.out.frm HF4.out fun k hk _ e => by have:=(HO3.out.at_ge hk).1;omega).lower (by omega),?_⟩
      refine ((((HF0.out.mono (F':=fun k => k=g∨b0≤k) fun _ _ e => e.elim).trans (HF1.out.mono fun _ _ e => .inl e)).trans (HF2.out.mono fun k _ e => ?_)).trans (Frm.of_new HF3.out _)).trans (HF4.out.mono fun _ _ e => .inl e) |>.mono fun k hk h => ?_
      · rcases e with e | e
        · exact .inl e
        · exact .inr (by omega)
      · rcases h with h | h
        · exact h
        · omega
    obtain ⟨hfo,hff⟩:=hfin
    have HFO:=Lib.hid hfo
    have HFF:=Lib.hid hff
    clear hfo hff HF1 HF2 HF3 HF4 HO3 HZ HB0 HB1 HB2 HG)
  · go_ret
    refine ⟨aj,cj,rfl,HFO.out,?_,HFF.out⟩
    have hr:=HR4.out
    have e1:((js.length:Int) == (many:Int))=decide (js.length=many):=by
      by_cases e:js.length=many
      · rw [e,decide_eq_true rfl];simp
      · rw [decide_eq_false e];simp;omega
    rw [e1] at hr
    first
      | (rw [show decide ((0:Int)=0)=true from rfl,Bool.true_and];exact hr)
      | (rw [show decide (E=0)=true from decide_eq_true (by assumption),Bool.true_and];exact hr)
      | (trace_state;fail)
  · go_ret
    refine ⟨aj,cj,rfl,HFO.out,?_,HFF.out⟩
    have hr:=HR4.out
    by_cases hE:E=0
    · exfalso;contradiction
    · rw [decide_eq_false hE];exact hr
set_option maxRecDepth 100000 in
theorem placebits_any (w:World) (a:Option Addr) (n cap:Nat) (hn:n≤65536):Calls Tryz.prog 156 #[.slice a n cap] w fun e w' => e=.returned (.int .i64 (wid (n - 1):Nat))∧w=w':=by
  have T:=Lib.hid (kwidth_any ((n:Int) - 1) (by omega))
  have e1:((n:Int) - 1).toNat=n - 1:=by omega
  rw [e1] at T
  have e2:wrap64 ((n:Int) - 1)=(n:Int) - 1:=by unfold wrap64;omega
  clear e1 hn
  go_enter Tryz.func156,Tryz.ntmps156
  go_wp2_with (go_at_call 165;refine (T.out _).mono ?_;rintro e w1 ⟨rfl,rfl⟩)
  go_ret
  exact ⟨rfl,rfl⟩
set_option maxRecDepth 100000 in
set_option maxHeartbeats 4000000 in
theorem getwords_any (w:World) (g kb:Nat) (s:ByteArray) (t:Tk) (h:RdAt w g s t) (hp:t.pos≤s.size) (hs:s.size≤281474976710648) (k:Int) (hk:1≤k∧k≤3) (hkb:w.cell? ⟨kb,0,none⟩=some (.int .i64 k)) (hne:¬ kb=g) (many:Nat) (hm:many≤65536) :
    Calls Tryz.prog 129 #[.pointer (some ⟨g,0,none⟩),.int .i64 (many:Int),oneF kb] w fun e w' => ∃ a cap,e=.returned (.slice a (rdWords s.data.toList k t many).1.length cap)∧OwnV w.heap.size w' a cap (rdWords s.data.toList k t many).1∧RdAt w' g s (rdWords s.data.toList k t many).2∧Frm (fun k => k=g) w w':=by
  have hl:s.data.toList.length=s.size:=(size_list s).symm
  have HG:=Lib.hid h.lt
  have HNE:=Lib.hid hne
  have T1:=Lib.hid (rdcount_any w g s t h hs many (by omega))
  have hcp:=rdCount_pos (l:=s.data.toList) (t:=t) (most:=many) (by rw [hl];exact hp)
  unfold rdWords rdLook
  generalize rdCount s.data.toList t many=C at *
  obtain ⟨N,t1⟩:=C
  simp only at *
  have T2:=Lib.hid (fun (u:World) (h:RdAt u g s t1) (hc:u.cell? ⟨kb,0,none⟩=some (.int .i64 k)) => each_any u g kb s t1 h hs k hk hc hne N (by omega))
  have hall:=rdEach_all s.data.toList k N t1 [] hcp.1 (fun v hv => by cases hv)
  generalize rdEach s.data.toList k N t1 []=R at *
  obtain ⟨ws,t2⟩:=R
  simp only [List.length_nil,Nat.zero_add] at *
  obtain ⟨hpos,hrd,hwl,_⟩:=hall
  rw [hl] at hpos
  have hwid:wid (ws.length - 1)≤16:=(wid_le 16 (ws.length - 1)).2 (by omega)
  have T3:=Lib.hid (fun (u:World) (a:Option Addr) (cap:Nat) => placebits_any u a ws.length cap (by omega))
  have T4:=Lib.hid (fun (u:World) (h:RdAt u g s t2) => rdpacked_any u g s t2 h hs hpos many (wid (ws.length - 1)) hm hwid)
  have hpl:=rdPacked_len s.data.toList t2 many (wid (ws.length - 1))
  generalize wid (ws.length - 1)=wd at *
  generalize rdPacked s.data.toList t2 many wd=Q at *
  obtain ⟨xs,t3⟩:=Q
  simp only at *
  have T5:=Lib.hid (fun (u:World) (a am:Option Addr) (cap cm:Nat) (h1:IsV u a ws) (h2:IsL u am xs) => wlook_any u a am cap cm ws xs h1 h2 (by omega) (fun v hv => by have:=(hrd v hv).2.1;rw [hl] at this;omega) (by omega))
  have T6:=Lib.hid (fun (u:World) (t:Tk) (f:Bool) (h:RdAt u g s t) => rdhold_any u g s t h f)
  generalize lookA ws xs=J at *
  obtain ⟨js,E⟩:=J
  simp only at *
  have HK:=Lib.hid hkb
  clear h hkb hne hpos hrd hwl hcp hp hm hwid hpl
  unfold oneF at T2 ⊢
  go_enter Tryz.func129,Tryz.ntmps129
  go_wp2_with (first
    | (go_at_call 95;refine T1.out.mono ?_;rintro e w1 ⟨rfl,hr1,hf1⟩;have HR1:=Lib.hid hr1;have HF1:=Lib.hid hf1;have HK1:=Lib.hid (cell_frm HK.out hf1 HNE.out);clear hr1 hf1)
    | (go_at_call 123;refine (T2.out w1 HR1.out HK1.out).mono ?_;rintro e w2 ⟨av,cv,rfl,ho2,hr2,hf2⟩;have HO2:=Lib.hid ho2;have HR2:=Lib.hid hr2;have HF2:=Lib.hid hf2;clear ho2 hr2 hf2)
    | (go_at_call 156;refine (T3.out _ _ _).mono ?_;rintro e w2' ⟨rfl,rfl⟩)
    | (go_at_call 94;refine (T4.out w2 HR2.out).mono ?_;rintro e w3 ⟨ax,cx,rfl,ho3,hr3,hf3⟩;have HO3:=Lib.hid ho3;have HR3:=Lib.hid hr3;have HF3:=Lib.hid hf3;have HW3:=Lib.hid (HO2.out.frm hf3 fun k hk _ e => by have:=(HO2.out.at_ge hk).1;have:=HG.out;have:=HF1.out.size;omega);clear ho3 hr3 hf3)
    | (go_at_call 157;refine (T5.out w3 av ax cv cx HW3.out.isV HO3.out.isL).mono ?_;rintro e w4 ⟨aj,cj,rfl,ho4,hf4⟩;have HO4:=Lib.hid ho4;have HF4:=Lib.hid hf4;clear ho4 hf4)
    | (go_at_call 105;refine (T6.out w4 t3 _ (HR3.out.below HF4.out)).mono ?_;rintro e w5 ⟨rfl,hr5,hf5⟩;have HR5:=Lib.hid hr5;have HF5:=Lib.hid hf5;clear hr5 hf5))
  go_ret
  have h1:=HF1.out.size
  have h2:=HF2.out.size
  have h3:=HF3.out.size
  have h4:=HG.out
  refine ⟨aj,cj,rfl,(HO4.out.frm HF5.out fun k hk _ e => by have:=(HO4.out.at_ge hk).1;omega).lower (by omega),?_,(((HF1.out.trans HF2.out).trans HF3.out).trans (Frm.of_new HF4.out _)).trans HF5.out⟩
  have hr:=HR5.out
  have e1:(!(E == 0))=decide (E ≠ 0):=by by_cases e:E=0 <;> simp [e]
  rw [e1] at hr
  exact hr
end Go.Proofs.YtfbmlefhjoblbaaGreat
namespace Go.Proofs.YtfbmlefhjoblbaaGreat
open Go.Conc Go.RowKit
set_option linter.unusedVariables false
set_option linter.unusedSimpArgs false
def truthV (x:Int):V:=⟨2,0,decide (x=1),ByteArray.empty⟩
theorem truthV_is (x:Int):truthV x=⟨2,0,x == 1,⟨#[]⟩⟩:=by
  unfold truthV
  congr 1
structure TAt (w wr:World) (xs:List Int) (n:Nat) (ax av:Option Addr) (cx cv:Nat) (vs:List V):Prop where
  is:(xs.take n).map truthV=vs
  nums:OwnI w.heap.size wr ax cx xs
  own:OwnV w.heap.size wr av cv vs
  size:w.heap.size≤wr.heap.size
set_option maxRecDepth 100000 in
set_option maxHeartbeats 4000000 in
theorem gettruths_any (w:World) (g:Nat) (s:ByteArray) (t:Tk) (h:RdAt w g s t) (hp:t.pos≤s.size) (hs:s.size≤281474976710648) (many:Nat) (hm:many≤65536) :
    Calls Tryz.prog 131 #[.pointer (some ⟨g,0,none⟩),.int .i64 (many:Int)] w fun e w' => ∃ a cap,e=.returned (.slice a (rdTruths s.data.toList t many).1.length cap)∧OwnV w.heap.size w' a cap (rdTruths s.data.toList t many).1∧RdAt w' g s (rdTruths s.data.toList t many).2∧Frm (fun k => k=g) w w':=by
  have HG:=Lib.hid h.lt
  have T1:=Lib.hid (rdpacked_any w g s t h hs hp many 1 hm (by omega))
  unfold rdTruths
  have hpl:=rdPacked_len s.data.toList t many 1
  generalize rdPacked s.data.toList t many 1=Q at *
  obtain ⟨xs,t1⟩:=Q
  simp only at *
  have HL:=Lib.hid (show xs.length≤65536 by omega)
  have T1:Hid (Calls Tryz.prog 94 #[.pointer (some ⟨g,0,none⟩),.int .i64 (many:Int),.int .i64 1] w fun e w' => ∃ a cap,e=.returned (.slice a xs.length cap)∧OwnI w.heap.size w' a cap xs∧RdAt w' g s t1∧Frm (fun k => k=g) w w'):=T1
  show Calls _ _ _ _ fun e w' => ∃ a cap,e=.returned (.slice a (xs.map truthV).length cap)∧OwnV w.heap.size w' a cap (xs.map truthV)∧RdAt w' g s t1∧Frm (fun k => k=g) w w'
  obtain ⟨R,hR⟩:∃ R,R=xs.map truthV:=⟨_,rfl⟩
  rw [← hR]
  have HR0:=Lib.hid hR
  clear hR
  clear hpl hp hm h
  go_enter Tryz.func131,Tryz.ntmps131
  go_wp2_with (go_at_call 94;refine T1.out.mono ?_;rintro e w1 ⟨ax,cx,rfl,ho1,hr1,hf1⟩;have HR1:=Lib.hid hr1;have HF1:=Lib.hid hf1;have H0:Hid (TAt w w1 xs 0 ax none cx 0 []):=⟨rfl,ho1,OwnV.nil _ _,hf1.size⟩;clear ho1 hr1 hf1)
  go_loopw [5,12] (fun vv iv wr => ∃ (n cv:Nat) (av:Option Addr) (vs:List V),n≤xs.length∧iv=.int .i64 n∧vv=.slice av vs.length cv∧Hid (TAt w wr xs n ax av cx cv vs)∧Hid (RdAt wr g s t1)∧Hid (Frm (fun k => k=g) w wr)) (fun _ iv _ => xs.length - (intOf iv).toNat)
  case atStart => exact ⟨0,0,none,[],Nat.zero_le _,rfl,rfl,H0,HR1,HF1⟩
  case round =>
    obtain ⟨n,cv,av,vs,hn,rfl,rfl,HC,HR,HF⟩:=hrel
    by_cases c:n < xs.length
    · obtain ⟨ge,rfl⟩:=HC.out.nums.there (by intro h;rw [h] at c;simp at c)
      obtain ⟨hx,_⟩:=HC.out.nums.get n c
      have HT:Hid ((xs.take (n + 1)).map truthV=vs ++ [truthV xs[n]]):=by
        unfold Hid
        rw [← List.take_append_getElem c,List.map_append,HC.out.is];rfl
      have hlen:vs.length=n:=by rw [← HC.out.is,List.length_map,List.length_take];omega
      have hwb:vs.length≤3518437208882:=by have:=HL.out;omega
      have HWB:=Lib.hid hwb
      clear hwb
      have HLN:=Lib.hid hlen
      clear hlen
      generalize xs[n]=x at *
      rw [truthV_is x] at HT
      have hci:(n:Int) < (xs.length:Int):=by omega
      have hnl:xs.length≤65536:=HL.out
      go_upto_region 5 with fail
      go_wp2_with (at_builtin;refine wp_val HC.out.own HC.out.size HWB.out rfl _ _ rfl ⟨2,0,x == 1,⟨#[]⟩⟩ rfl rfl ?_;intro av' cv' u6 ho hf _;have hfin:TAt w u6 xs (n + 1) (some ⟨ge,0,none⟩) av' cx cv' (vs ++ [⟨2,0,x == 1,⟨#[]⟩⟩]):=⟨HT.out,HC.out.nums.frm hf fun k hk _ e => apart_iv HC.out.nums HC.out.own hk e,ho,Nat.le_trans HC.out.size hf.size⟩;have HFIN:=Lib.hid hfin;have HR6:=Lib.hid (HR.out.frm hf fun e => by have:=(HC.out.own.at_ge e).1;have:=HG.out;omega);have HF6:Hid (Frm (fun k => k=g) w u6):=((HF.out.mono (F':=fun k => k=g∨w.heap.size≤k) fun _ _ e => .inl e).trans (hf.mono (F':=fun k => k=g∨w.heap.size≤k) fun k _ e => .inr (HC.out.own.at_ge e).1)).mono (fun k hk e => by rcases e with e | e;exact e;omega);clear hfin ho hf)
      go_roundw
      case rel => exact ⟨n + 1,cv',av',_,c,by go_num,by simp,HFIN,HR6,HF6⟩
      case measure => simp [intOf];omega
    · obtain rfl:n=xs.length:=by omega
      have hi:R=vs:=by rw [HR0.out,← HC.out.is,List.take_length]
      subst hi
      clear c
      go_wp2
      go_ret
      exact ⟨av,cv,rfl,HC.out.own,HR.out,HF.out⟩
end Go.Proofs.YtfbmlefhjoblbaaGreat
namespace Go.Proofs.YtfbmlefhjoblbaaGreat
open Go.Conc Go.RowKit
set_option linter.unusedVariables false
set_option linter.unusedSimpArgs false
def getF (k:Int) (e ob:Nat):Value :=
  if e=1 then .func (.func 125) #[] #[.pointer (some ⟨ob,0,none⟩)] else if e=2 then .func (.func 128) #[] #[.pointer (some ⟨ob,0,none⟩)]
  else if k=2 then .func (.func 131) #[] #[] else .func (.func 122) #[] #[.pointer (some ⟨ob,0,none⟩)]
def putF (k:Int) (e:Nat):Value :=
  if e=1 then .func (.func 124) #[] #[] else if e=2 then .func (.func 127) #[] #[]
  else if k=2 then .func (.func 130) #[] #[] else .func (.func 121) #[] #[]
structure WaysAt (w:World) (wb ob kb:Nat) (k:Int):Prop where
  row:w.heap[wb]? = some (.cells #[putF k 0,getF k 0 ob,putF k 1,getF k 1 ob,putF k 2,getF k 2 ob] 144 (0,0))
  one:w.cell? ⟨ob,0,none⟩=some (oneF kb)
  kind:w.cell? ⟨kb,0,none⟩=some (.int .i64 k)
theorem WaysAt.frm {F:Nat→Prop} {w w':World} {wb ob kb:Nat} {k:Int} (h:WaysAt w wb ob kb k) (hf:Frm F w w') (h1:¬ F wb) (h2:¬ F ob) (h3:¬ F kb):WaysAt w' wb ob kb k :=
  ⟨by rw [hf.block wb (Array.getElem?_eq_some_iff.1 h.row).1 h1];exact h.row,cell_frm h.one hf h2,cell_frm h.kind hf h3⟩
theorem ways_made (w:World) (k:Int) (C:Array Value) (hC:C = #[putF k 0,getF k 0 (w.heap.size + 1),putF k 1,getF k 1 (w.heap.size + 1),putF k 2,getF k 2 (w.heap.size + 1)]) :
    WaysAt (((w.alloc (.cells #[.int .i64 k] 3)).alloc (.cells #[oneF w.heap.size] 165)).alloc (.cells C 144)) (w.heap.size + 1 + 1) (w.heap.size + 1) w.heap.size k ∧
    Below w.heap.size w (((w.alloc (.cells #[.int .i64 k] 3)).alloc (.cells #[oneF w.heap.size] 165)).alloc (.cells C 144))∧(((w.alloc (.cells #[.int .i64 k] 3)).alloc (.cells #[oneF w.heap.size] 165)).alloc (.cells C 144)).heap.size=w.heap.size + 3:=by
  have h1:=heap_alloc_new w (.cells #[.int .i64 k] 3)
  have h2:=heap_alloc_new (w.alloc (.cells #[.int .i64 k] 3)) (.cells #[oneF w.heap.size] 165)
  have h3:=heap_alloc_new ((w.alloc (.cells #[.int .i64 k] 3)).alloc (.cells #[oneF w.heap.size] 165)) (.cells C 144)
  rw [show (w.alloc (.cells #[.int .i64 k] 3)).heap.size=w.heap.size + 1 by simp] at h2
  rw [show ((w.alloc (.cells #[.int .i64 k] 3)).alloc (.cells #[oneF w.heap.size] 165)).heap.size=w.heap.size + 1 + 1 by simp] at h3
  subst hC
  refine ⟨⟨h3,?_,?_⟩,((((Below.refl _ w).alloc (Nat.le_refl _) _).alloc (by simp) _).alloc (by simp;omega) _),by simp⟩
  · rw [World.cell?_of_block (Below.heap_alloc _ _ (w.heap.size + 1) (by simp)),cell_of_row _ _ _ _ _ _ h2];rfl
  · rw [World.cell?_of_block (Below.heap_alloc _ _ w.heap.size (by simp;omega)),World.cell?_of_block (Below.heap_alloc _ _ w.heap.size (by simp)),cell_of_row _ _ _ _ _ _ h1];rfl
set_option maxRecDepth 100000 in
set_option maxHeartbeats 1000000 in
theorem encs_any (w:World) (k:Int):Calls Tryz.prog 91 #[.int .i64 k] w fun e w' => ∃ wb ob kb,e=.returned (.slice (some ⟨wb,0,none⟩) 3 3)∧WaysAt w' wb ob kb k∧Below w.heap.size w w'∧w.heap.size≤wb∧w.heap.size≤ob∧w.heap.size≤kb∧wb < w'.heap.size∧ob < w'.heap.size∧kb < w'.heap.size:=by
  by_cases c:k=2
  · subst c
    go_enter Tryz.func91,Tryz.ntmps91
    go_wp2
    go_ret
    obtain ⟨h1,h2,h3⟩:=ways_made w 2 _ rfl
    exact ⟨w.heap.size + 1 + 1,w.heap.size + 1,w.heap.size,rfl,h1,h2,by omega,by omega,Nat.le_refl _,Nat.lt_of_lt_of_eq (m:=w.heap.size + 3) (by omega) (by simp),Nat.lt_of_lt_of_eq (m:=w.heap.size + 3) (by omega) (by simp),Nat.lt_of_lt_of_eq (m:=w.heap.size + 3) (by omega) (by simp)⟩
  · have hne:(k == 2)=false:=by simpa using c
    have hC:#[putF k 0,getF k 0 (w.heap.size + 1),putF k 1,getF k 1 (w.heap.size + 1),putF k 2,getF k 2 (w.heap.size + 1)] = #[.func (.func 121) #[] #[],.func (.func 122) #[] #[.pointer (some ⟨w.heap.size + 1,0,none⟩)],.func (.func 124) #[] #[],.func (.func 125) #[] #[.pointer (some ⟨w.heap.size + 1,0,none⟩)],.func (.func 127) #[] #[],.func (.func 128) #[] #[.pointer (some ⟨w.heap.size + 1,0,none⟩)]]:=by
      simp [putF,getF,c]
    go_enter Tryz.func91,Tryz.ntmps91
    go_wp2
    go_ret
    obtain ⟨h1,h2,h3⟩:=ways_made w k _ hC.symm
    exact ⟨w.heap.size + 1 + 1,w.heap.size + 1,w.heap.size,rfl,h1,h2,by omega,by omega,Nat.le_refl _,Nat.lt_of_lt_of_eq (m:=w.heap.size + 3) (by omega) (by simp),Nat.lt_of_lt_of_eq (m:=w.heap.size + 3) (by omega) (by simp),Nat.lt_of_lt_of_eq (m:=w.heap.size + 3) (by omega) (by simp)⟩
set_option maxRecDepth 100000 in
theorem encB_any (u:World) (g ob kb:Nat) (s:ByteArray) (t:Tk) (h:RdAt u g s t) (hp:t.pos≤s.size) (hs:s.size≤281474976710648) (k:Int) (hk:1≤k∧k≤3) (hkb:u.cell? ⟨kb,0,none⟩=some (.int .i64 k)) (hob:u.cell? ⟨ob,0,none⟩=some (oneF kb)) (hne:¬ kb=g) (many:Nat) (hm:many≤65536) :
    Calls Tryz.prog 122 #[.pointer (some ⟨g,0,none⟩),.int .i64 (many:Int),.pointer (some ⟨ob,0,none⟩)] u fun e w' => ∃ a cap,e=.returned (.slice a (rdEach s.data.toList k many t []).1.length cap)∧OwnV u.heap.size w' a cap (rdEach s.data.toList k many t []).1∧RdAt w' g s (rdEach s.data.toList k many t []).2∧Frm (fun k => k=g) u w':=by
  have T:=Lib.hid (each_any u g kb s t h hs k hk hkb hne many hm)
  generalize rdEach s.data.toList k many t []=R at *
  obtain ⟨vs,t'⟩:=R
  unfold oneF at T hob
  clear h hkb hne hm hp
  go_enter Tryz.func122,Tryz.ntmps122
  go_wp2_with (go_at_call 123;refine T.out.mono ?_;rintro e w' ⟨a,cap,rfl,ho,hr,hf⟩;have HO:=Lib.hid ho;have HR:=Lib.hid hr;have HF:=Lib.hid hf;clear ho hr hf)
  go_ret
  exact ⟨a,cap,rfl,HO.out,HR.out,HF.out⟩
set_option maxRecDepth 100000 in
theorem encC_any (u:World) (g ob kb:Nat) (s:ByteArray) (t:Tk) (h:RdAt u g s t) (hp:t.pos≤s.size) (hs:s.size≤281474976710648) (k:Int) (hk:1≤k∧k≤3) (hkb:u.cell? ⟨kb,0,none⟩=some (.int .i64 k)) (hob:u.cell? ⟨ob,0,none⟩=some (oneF kb)) (hne:¬ kb=g) (many:Nat) (hm:many≤65536) :
    Calls Tryz.prog 125 #[.pointer (some ⟨g,0,none⟩),.int .i64 (many:Int),.pointer (some ⟨ob,0,none⟩)] u fun e w' => ∃ a cap,e=.returned (.slice a (rdRuns s.data.toList k t many).1.length cap)∧OwnV u.heap.size w' a cap (rdRuns s.data.toList k t many).1∧RdAt w' g s (rdRuns s.data.toList k t many).2∧Frm (fun k => k=g) u w':=by
  have T:=Lib.hid (getruns_any u g kb s t h hp hs k hk hkb hne many hm)
  generalize rdRuns s.data.toList k t many=R at *
  obtain ⟨vs,t'⟩:=R
  unfold oneF at T hob
  clear h hkb hne hm hp
  go_enter Tryz.func125,Tryz.ntmps125
  go_wp2_with (go_at_call 126;refine T.out.mono ?_;rintro e w' ⟨a,cap,rfl,ho,hr,hf⟩;have HO:=Lib.hid ho;have HR:=Lib.hid hr;have HF:=Lib.hid hf;clear ho hr hf)
  go_ret
  exact ⟨a,cap,rfl,HO.out,HR.out,HF.out⟩
set_option maxRecDepth 100000 in
theorem encD_any (u:World) (g ob kb:Nat) (s:ByteArray) (t:Tk) (h:RdAt u g s t) (hp:t.pos≤s.size) (hs:s.size≤281474976710648) (k:Int) (hk:1≤k∧k≤3) (hkb:u.cell? ⟨kb,0,none⟩=some (.int .i64 k)) (hob:u.cell? ⟨ob,0,none⟩=some (oneF kb)) (hne:¬ kb=g) (many:Nat) (hm:many≤65536) :
    Calls Tryz.prog 128 #[.pointer (some ⟨g,0,none⟩),.int .i64 (many:Int),.pointer (some ⟨ob,0,none⟩)] u fun e w' => ∃ a cap,e=.returned (.slice a (rdWords s.data.toList k t many).1.length cap)∧OwnV u.heap.size w' a cap (rdWords s.data.toList k t many).1∧RdAt w' g s (rdWords s.data.toList k t many).2∧Frm (fun k => k=g) u w':=by
  have T:=Lib.hid (getwords_any u g kb s t h hp hs k hk hkb hne many hm)
  generalize rdWords s.data.toList k t many=R at *
  obtain ⟨vs,t'⟩:=R
  unfold oneF at T hob
  clear h hkb hne hm hp
  go_enter Tryz.func128,Tryz.ntmps128
  go_wp2_with (go_at_call 129;refine T.out.mono ?_;rintro e w' ⟨a,cap,rfl,ho,hr,hf⟩;have HO:=Lib.hid ho;have HR:=Lib.hid hr;have HF:=Lib.hid hf;clear ho hr hf)
  go_ret
  exact ⟨a,cap,rfl,HO.out,HR.out,HF.out⟩
end Go.Proofs.YtfbmlefhjoblbaaGreat
