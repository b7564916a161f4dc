/- Spaces and remarks left out: a claim is at most so large. -/
import Derived.Test.YtfbmlefhjoblbaaGreatTkWGz
import Derived.Test.YtfbmlefhjoblbaaGreatRefCGz
import Derived.Test.YtfbmlefhjoblbaaGreatReadVGz
namespace Go.Proofs.YtfbmlefhjoblbaaGreat
open Go.Conc Go.RowKit
set_option linter.unusedVariables false
set_option linter.unusedSimpArgs false
theorem tkNum_bad {l:List UInt8} {t:Tk} {m:Nat} (h:(tkNum l t m).2.bad=false):t.bad=false:=by
  unfold tkNum at h
  split at h
  · simp at h
  · rename_i c;cases hb:t.bad with
    | false => rfl
    | true => exact absurd (.inl hb) c
theorem tkBytes_bad {l:List UInt8} {t:Tk} {m:Nat} (h:(tkBytes l t m).2.bad=false):t.bad=false:=by
  unfold tkBytes at h
  split at h
  · simp at h
  · rename_i c;cases hb:t.bad with
    | false => rfl
    | true => exact absurd (.inl hb) c
theorem tkPacked_bad {l:List UInt8} {t:Tk} {many wd:Nat} (h:(tkPacked l t many wd).2.bad=false):t.bad=false∧(tkPacked l t many wd).1.length=many:=by
  unfold tkPacked at h ⊢
  split at h
  · simp at h
  · rename_i c
    simp only [Bool.or_eq_false_iff,decide_eq_false_iff_not,ne_eq,Classical.not_not] at h
    rw [if_neg c]
    exact ⟨tkBytes_bad h.1,(unpack_len _ _ _).2 h.2⟩
theorem tkRuns_bad {l:List UInt8} {k:Int} {many:Nat}:∀ {r:Nat} {t:Tk} {vs:List V},(tkRuns l k many r t vs).2.bad=false→t.bad=false
  | 0,t,vs,h => h
  | r + 1,t,vs,h => by
    rw [tkRuns] at h
    split at h
    · exact h
    · rename_i c;simpa using c
theorem tkWords_bad {l:List UInt8} {k:Int}:∀ {r:Nat} {t:Tk} {vs:List V},(tkWords l k r t vs).2.bad=false→t.bad=false
  | 0,t,vs,h => h
  | r + 1,t,vs,h => by
    rw [tkWords] at h
    split at h
    · exact h
    · rename_i c;simpa using c
theorem tkSome_bad {l:List UInt8} {t:Tk} {e:Nat} {k:Int} {many:Nat} (h:(tkSome l t e k many).2.bad=false):t.bad=false:=by
  unfold tkSome at h
  split at h
  · exact tkNum_bad (tkRuns_bad h)
  · split at h
    · split at h
      · rename_i c;rw [c] at h;cases h
      · rename_i c
        exact tkNum_bad (tkWords_bad (tkPacked_bad (by simpa using c)).1)
    · split at h
      · exact (tkPacked_bad h).1
      · exact tkWords_bad h
theorem tkValue_size (l:List UInt8) (t:Tk) (k:Int):(tkValue l t k).1.s.size≤64:=by
  unfold tkValue
  split
  · split
    · exact Nat.zero_le _
    · exact Nat.zero_le _
  · split
    · exact Nat.zero_le _
    · simp only
      rw [textB_size]
      exact Nat.le_trans (tkBytes_len _ _ _) (tkNum_most _ _ _)
def Short (v:V):Prop:=v.s.size≤64
theorem runs_short {l:List UInt8} {k:Int} {many:Nat}:∀ (r:Nat) (t:Tk) (vs:List V),(∀ v ∈ vs,Short v)→∀ v ∈ (tkRuns l k many r t vs).1,Short v
  | 0,t,vs,h => h
  | r + 1,t,vs,h => by
    rw [tkRuns]
    split
    · exact h
    · refine runs_short r _ _ fun v hv => ?_
      rcases List.mem_append.1 hv with hv | hv
      · exact h v hv
      · rw [(List.mem_replicate.1 hv).2];exact tkValue_size _ _ _
theorem words_short {l:List UInt8} {k:Int}:∀ (r:Nat) (t:Tk) (vs:List V),(∀ v ∈ vs,Short v)→∀ v ∈ (tkWords l k r t vs).1,Short v
  | 0,t,vs,h => h
  | r + 1,t,vs,h => by
    rw [tkWords]
    split
    · exact h
    · refine words_short r _ _ fun v hv => ?_
      rcases List.mem_append.1 hv with hv | hv
      · exact h v hv
      · rw [List.mem_singleton.1 hv];exact tkValue_size _ _ _
theorem pick_short {ws:List V} (hw:∀ v ∈ ws,Short v):∀ (xs:List Int) (vs:List V),(∀ v ∈ vs,Short v)→∀ v ∈ (tkPick ws xs vs).1,Short v
  | [],vs,h => h
  | x :: xs,vs,h => by
    rw [tkPick]
    split
    · exact h
    · refine pick_short hw xs _ fun v hv => ?_
      rcases List.mem_append.1 hv with hv | hv
      · exact h v hv
      · rw [List.mem_singleton.1 hv];exact getD_all (P:=Short) (Nat.zero_le _) hw _
theorem nil_short:∀ v ∈ ([]:List V),Short v:=fun v hv => by cases hv
theorem some_short (l:List UInt8) (t:Tk) (e:Nat) (k:Int) (many:Nat):∀ v ∈ (tkSome l t e k many).1,Short v:=by
  unfold tkSome
  split
  · exact runs_short _ _ _ nil_short
  · split
    · split
      · exact nil_short
      · exact pick_short (words_short _ _ _ nil_short) _ _ nil_short
    · split
      · intro v hv
        obtain ⟨x,_,rfl⟩:=List.mem_map.1 hv
        exact Nat.zero_le _
      · exact words_short _ _ _ nil_short
theorem merge_fine {ns:List Int} {vs:List V} (h1:∀ v ∈ vs,InI v) (h2:∀ v ∈ vs,Short v):Fine (mergeV ns vs):=fun v hv =>
  merge_all (P:=fun v => InI v∧v.s.size≤140737488355328) ⟨zero_in,Nat.zero_le _⟩ ns vs (fun u hu => ⟨h1 u hu,Nat.le_trans (h2 u hu) (by omega)⟩) v hv
structure UnAt (w wr:World) (ax:Option Addr) (cx:Nat) (ns:List Int) (ay:Option Addr) (cs:Nat) (vs:List V) (au:Option Addr) (cu:Nat) (us:List V):Prop where
  ints:OwnI w.heap.size wr ax cx ns
  vals:OwnV w.heap.size wr ay cs vs
  own:OwnV w.heap.size wr au cu us
  apart:∀ k,At au k→¬ At ay k
  below:Below w.heap.size w wr
theorem UnAt.more {w u u':World} {ax ay au au':Option Addr} {cx cs cu cu':Nat} {ns:List Int} {vs us:List V} {v:V} (h:UnAt w u ax cx ns ay cs vs au cu us) (ho:OwnV w.heap.size u' au' cu' (us ++ [v])) (hf:Frm (At au) u u')
    (hn:∀ k,At au' k→At au k∨u.heap.size < k):UnAt w u' ax cx ns ay cs vs au' cu' (us ++ [v]) :=
  ⟨h.ints.frm hf fun k hk _ e => apart_iv h.ints h.own hk e,h.vals.frm hf fun k hk _ e => h.apart k e hk,ho,fun k hk ha => by
    rcases hn k hk with h1 | h1
    · exact h.apart k h1 ha
    · have:=(h.vals.at_ge ha).2;omega,Frm.to_below h.below hf (fun k hk => (h.own.at_ge hk).1) (Nat.le_refl _)⟩
set_option maxRecDepth 100000 in
set_option maxHeartbeats 8000000 in
theorem refunvec_any (w:World) (k:Int) (s:ByteArray) (hs:s.size≤140737488355328):Calls Tryz.prog 24 #[.int .i64 k,.string s] w fun e w' => ∃ a cap,e=.returned (.tuple #[.slice a (colGet k s).1.length cap,.int .i64 (colGet k s).2])∧OwnV w.heap.size w' a cap (colGet k s).1∧Below w.heap.size w w':=by
  by_cases h1:k < 1
  · rw [get_no (by omega)]
    go_enter Tryz.func24,Tryz.ntmps24
    go_wp2
    go_ret2
    exact ⟨none,0,rfl,OwnV.nil _ _,Below.refl _ _⟩
  by_cases h3:3 < k
  · rw [get_no (by omega)]
    go_enter Tryz.func24,Tryz.ntmps24
    go_wp2
    go_ret2
    exact ⟨none,0,rfl,OwnV.nil _ _,Below.refl _ _⟩
  have hk:1≤k∧k≤3:=by omega
  have T1:=Lib.hid (fun u => ropen_any s (by omega) u)
  cases hsl:isSealed s with
  | false =>
    rw [get_sum hk hsl]
    have e1:openE s=400:=by unfold openE;rw [if_neg (by rw [hsl];simp)]
    rw [e1] at T1
    clear e1 hsl
    go_enter Tryz.func24,Tryz.ntmps24
    go_wp2_with (go_at_call 61;refine (T1.out _).mono ?_;rintro e w1 ⟨rfl,hb⟩;have HB1:=Lib.hid hb;clear hb)
    go_ret2
    exact ⟨none,0,rfl,OwnV.nil _ _,HB1.out⟩
  | true =>
    have e1:openE s=0:=by unfold openE;rw [if_pos hsl]
    have hol:(openT s).size≤s.size:=by
      have:=congrArg ByteArray.size (open_seal hsl);rw [sealB_size] at this;omega
    have hos:(openT s).size≤281474976710648:=by omega
    rw [e1] at T1
    obtain ⟨R,hR⟩:∃ R,R=colGet k s:=⟨_,rfl⟩
    have hO:R=ansOf k s (parseV k (openT s).data.toList):=by rw [hR];unfold colGet;rw [if_neg (by omega),if_neg (by rw [hsl];simp)]
    have hnil:(openT s).data.toList=[]→R=([],901):=fun h => by rw [hR];exact get_none hk hsl (readA_no (.inl h))
    rw [← hR]
    clear e1 hsl hol hR
    generalize openT s=O at *
    have hl:O.data.toList.length=O.size:=(size_list O).symm
    by_cases h0:O.size=0
    · have hn0:O.data.toList=[]:=List.eq_nil_of_length_eq_zero (by omega)
      have hse:(O.toList == [])=true:=by rw [ByteArray.toList_eq,hn0];rfl
      obtain rfl:=hnil hn0
      clear hl hn0 h0 hO hnil
      go_enter Tryz.func24,Tryz.ntmps24
      go_wp2_with (go_at_call 61;refine (T1.out _).mono ?_;rintro e w1 ⟨rfl,hb⟩;have HB1:=Lib.hid hb;clear hb)
      go_ret2
      exact ⟨none,0,rfl,OwnV.nil _ _,HB1.out⟩
    have hne:O.data.toList ≠ []:=fun e => by rw [e] at hl;simp at hl;omega
    have hse:(O.toList == [])=false:=by rw [ByteArray.toList_eq];simpa using hne
    have hpos:0 < O.size:=by omega
    have hg0:O.data.toList.getD 0 0=O[0]:=by
      rw [List.getD_eq_getElem?_getD,List.getElem?_eq_getElem (by omega)];rfl
    have hc256:O[0].toNat < 256:=UInt8.toNat_lt _
    unfold parseV at hO
    rw [hg0] at hO
    have TN:=Lib.hid (fun (u:World) (g:Nat) (h:TkAt u g O ⟨1,false⟩) => tknum_any u g O ⟨1,false⟩ h hos 4096 (by omega))
    have hN4:=tkNum_most O.data.toList ⟨1,false⟩ 4096
    generalize tkNum O.data.toList ⟨1,false⟩ 4096=C at *
    obtain ⟨N,t1⟩:=C
    simp only at hO hN4
    have TN:Hid (∀ (u:World) (g:Nat),TkAt u g O ⟨1,false⟩→Calls Tryz.prog 62 #[.pointer (some ⟨g,0,none⟩),.int .i64 4096] u fun e w' => e=.returned (.int .i64 (N:Int))∧TkAt w' g O t1∧Frm (fun k => k=g) u w'):=TN
    have TP:=Lib.hid (fun (u:World) (g:Nat) (h:TkAt u g O t1) => tkpacked_any u g O t1 h hos N 1 hN4 (by omega))
    have hpl:(tkPacked O.data.toList t1 N 1).1.length≤N:=by
      unfold tkPacked
      split
      · exact Nat.zero_le _
      · exact (unpack_len _ _ _).1
    have hpd:∀ x ∈ (tkPacked O.data.toList t1 N 1).1,0≤x∧x < 2:=by
      unfold tkPacked
      split
      · intro x hx;cases hx
      · exact fun x hx => by have:=unpack_digits _ _ _ x hx;rw [Int.pow_one] at this;exact this
    have hpb:=fun h => (tkPacked_bad (l:=O.data.toList) (t:=t1) (many:=N) (wd:=1) h).2
    generalize tkPacked O.data.toList t1 N 1=Q at *
    obtain ⟨ns,t2⟩:=Q
    simp only at hO hpl hpd hpb
    have TP:Hid (∀ (u:World) (g:Nat),TkAt u g O t1→Calls Tryz.prog 63 #[.pointer (some ⟨g,0,none⟩),.int .i64 (N:Int),.int .i64 1] u fun e w' => ∃ a cap,e=.returned (.slice a ns.length cap)∧OwnI u.heap.size w' a cap ns∧TkAt w' g O t2∧Frm (fun k => k=g) u w'):=TP
    have hzl:=zeros_le ns
    have TS:=Lib.hid (fun (u:World) (g:Nat) (h:TkAt u g O t2) => tksome_any u g O t2 h hos O[0].toNat k hk (zerosI ns) (by omega))
    have hsb:=fun (h:(tkSome O.data.toList t2 O[0].toNat k (zerosI ns)).2.bad=false) => tkSome_bad h
    have hsi:=some_in O.data.toList t2 O[0].toNat k (zerosI ns)
    have hss:=some_short O.data.toList t2 O[0].toNat k (zerosI ns)
    generalize tkSome O.data.toList t2 O[0].toNat k (zerosI ns)=Q at *
    obtain ⟨vs,t3⟩:=Q
    simp only at hO hsb hsi hss
    have hfine:Fine (mergeV ns vs):=merge_fine hsi hss
    have TV:=Lib.hid (fun (u:World) (a:Option Addr) (cap:Nat) (h:IsV u a (mergeV ns vs)) => refvec_any u k a cap (mergeV ns vs) h (by rw [merge_len];omega) hfine)
    have HPB:Hid (t3.bad=false→ns.length=N):=fun h => hpb (hsb h)
    have HPD:=Lib.hid hpd
    have HO:=Lib.hid hO
    have hml:=merge_len ns vs
    have HML:=Lib.hid hml
    have TS:Hid (∀ (u:World) (g:Nat),TkAt u g O t2→Calls Tryz.prog 64 #[.pointer (some ⟨g,0,none⟩),.int .i64 (O[0].toNat:Int),.int .i64 k,.int .i64 (zerosI ns:Int)] u fun ex w' => ∃ a cap,ex=.returned (.slice a vs.length cap)∧OwnV u.heap.size w' a cap vs∧TkAt w' g O t3∧Frm (fun k => k=g) u w'):=TS
    clear hO hnil hl h0 hne hg0 hsi hss hfine hsb hpb hpd hml hk
    generalize hc:O[0].toNat=c at *
    have hwc:wrap64 (c:Int)=(c:Int):=by unfold wrap64;omega
    have hpos0:(0:Int) < (O.size:Int):=by omega
    go_enter Tryz.func24,Tryz.ntmps24
    go_upto_region 9 with (go_at_call 61;refine (T1.out _).mono ?_;rintro e w1 ⟨rfl,hb⟩;have HB1:=Lib.hid hb;clear hb)
    have htk:TkAt (w1.alloc (.cells #[.string O,.int .i64 1,.bool false] 103)) w1.heap.size O ⟨1,false⟩:=⟨heap_alloc_new w1 _,hpos⟩
    have hbb:Below w.heap.size w (w1.alloc (.cells #[.string O,.int .i64 1,.bool false] 103)):=HB1.out.alloc HB1.out.size _
    obtain ⟨g,hg⟩:∃ g,g=w1.heap.size:=⟨_,rfl⟩
    have HGW:=Lib.hid (show w.heap.size≤g by rw [hg];exact HB1.out.size)
    rw [← hg] at htk ⊢
    have HTK:=Lib.hid htk
    have HBB:=Lib.hid hbb
    clear htk hbb hg HB1
    generalize w1.alloc (.cells #[.string O,.int .i64 1,.bool false] 103)=w2 at *
    go_upto_region 11 with (first
      | (go_at_call 62;refine (TN.out w2 g HTK.out).mono ?_;rintro e w3 ⟨rfl,hr3,hf3⟩;have HR3:=Lib.hid hr3;have HB3:=Lib.hid (Frm.to_below HBB.out hf3 (fun k e => by rw [e];exact HGW.out) (Nat.le_refl _));clear hr3 hf3)
      | (go_at_call 63;refine (TP.out w3 g HR3.out).mono ?_;rintro e w4 ⟨ax,cx,rfl,ho4,hr4,hf4⟩;have HR4:=Lib.hid hr4;have HB4:=Lib.hid (Frm.to_below HB3.out hf4 (fun k e => by rw [e];exact HGW.out) (Nat.le_refl _));have HO4:=Lib.hid (ho4.lower HB3.out.size);have HGX:=Lib.hid (fun (hk:At ax g) => by have h1:=(ho4.at_ge hk).1;have h2:=HR3.out.lt;omega:At ax g→False);clear ho4 hr4 hf4))
    go_wp2
    go_loopw [11,12] (fun lv iv wr => ∃ n:Nat,n≤ns.length∧lv=.int .i64 ((zerosI (ns.take n):Nat):Int)∧iv=.int .i64 n∧Hid (wr=w4)) (fun _ iv _ => ns.length - (intOf iv).toNat)
    case atStart => exact ⟨0,Nat.zero_le _,by simp [zerosI],rfl,rfl⟩
    case round =>
      obtain ⟨n,hn,rfl,rfl,HW⟩:=hrel
      have hW:=HW.out
      subst hW
      by_cases d:n < ns.length
      · have hdi:(n:Int) < (ns.length:Int):=by omega
        have hz:=zeros_next ns n d
        have hx:=HPD.out _ (List.getElem_mem d)
        have hzt:=zeros_take_le ns n
        obtain ⟨bx,ox,hax,hxc⟩:=HO4.out.isL.get d
        rw [getD_in d] at hxc
        subst hax
        generalize ns[n]=x at *
        have hz4:zerosI (ns.take n)≤4096:=by omega
        generalize zerosI (ns.take n)=z at *
        rcases (show x=0∨x=1 by omega) with rfl | rfl
        · rw [if_neg (by decide)] at hz
          have HZ:=Lib.hid hz
          clear hz hx
          go_wp2
          go_roundw
          case rel => exact ⟨n + 1,d,by rw [HZ.out];go_num,by go_num,by unfold Hid;trivial⟩
          case measure => simp [intOf];omega
        · rw [if_pos rfl] at hz
          have HZ:=Lib.hid hz
          clear hz hx
          go_wp2
          go_roundw
          case rel => exact ⟨n + 1,d,by rw [HZ.out];go_num,by go_num,by unfold Hid;trivial⟩
          case measure => simp [intOf];omega
      · obtain rfl:n=ns.length:=by omega
        rw [List.take_length]
        have hzm:zerosI ns≤4096:=by omega
        generalize hm:zerosI ns=m at *
        have HM:=Lib.hid hm
        clear hm
        go_upto_region 17 with (go_at_call 64;refine (TS.out _ g HR4.out).mono ?_;rintro e w5 ⟨ay,cy,rfl,ho5,hr5,hf5⟩;have HB5:=Lib.hid (Frm.to_below HB4.out hf5 (fun k e => by rw [e];exact HGW.out) (Nat.le_refl _));have HO5:=Lib.hid (ho5.lower HB4.out.size);have HX5:=Lib.hid (OwnI.frm HO4.out hf5 fun k hk _ e => HGX.out (by rw [← e];exact hk));have HR5:=Lib.hid hr5;clear ho5 hr5 hf5)
        obtain ⟨⟨c0,c1,c2⟩,f0,f1,f2⟩:=HR5.out.at
        cases hbd:t3.bad with
        | true =>
          obtain rfl:R=([],901):=by rw [HO.out,if_pos (.inl hbd)];rfl
          rw [hbd] at c2
          go_wp2
          go_ret2
          exact ⟨none,0,rfl,OwnV.nil _ _,HB5.out⟩
        | false =>
          rw [hbd] at c2
          by_cases hlen:vs.length=m
          · have HLN:=Lib.hid (HPB.out hbd)
            have HR2:Hid (R=ansOf k s (some (mergeV ns vs))):=by unfold Hid;rw [HO.out,if_neg (by rw [hbd];rintro (h | h);cases h;exact h hlen)]
            have HLV:=Lib.hid hlen
            have hq1:((vs.length:Int) != (m:Int))=false:=by simp [hlen]
            have HU0:Hid (UnAt w w5 ax cx ns ay cy vs none 0 []):=⟨HX5.out,HO5.out,OwnV.nil _ _,fun k hk => (by cases hk),HB5.out⟩
            clear hlen HO HPB HR5 HX5 HO5 HB5 HO4 HB4 HR4 HB3 HR3 HBB HTK TS TP TN HGX
            go_upto_region 22 with fail
            go_loopw [14,15,16] (fun vv jv iv wr => ∃ (n cu:Nat) (au:Option Addr) (us:List V),n≤N∧vv=.slice au us.length cu∧jv=.int .i64 ((zerosI (ns.take n):Nat):Int)∧iv=.int .i64 n∧Hid (us=mergeV (ns.take n) vs)∧Hid (UnAt w wr ax cx ns ay cy vs au cu us)) (fun _ _ iv _ => N - (intOf iv).toNat)
            case atStart => exact ⟨0,0,none,[],Nat.zero_le _,rfl,by simp [zerosI],rfl,rfl,HU0⟩
            case round =>
              obtain ⟨n,cu,au,us,hn,rfl,rfl,rfl,HUS,HU⟩:=hrel
              by_cases d:n < N
              · have hdi:(n:Int) < (N:Int):=by omega
                have hd2:n < ns.length:=by rw [HLN.out];exact d
                have hdj:(n:Int) < (ns.length:Int):=by omega
                have hz:=zeros_next ns n hd2
                have hx:=HPD.out _ (List.getElem_mem hd2)
                have hzt:=zeros_take_le ns (n + 1)
                rw [HM.out] at hzt
                have hms:=merge_snoc (ns.take n) ns[n] vs
                rw [show ns.take n ++ [ns[n]]=ns.take (n + 1) by rw [List.take_add_one,List.getElem?_eq_getElem hd2];rfl,← HUS.out] at hms
                have hul:us.length≤3518437208882:=by
                  rw [HUS.out,merge_len,List.length_take];omega
                have HUL:=Lib.hid hul
                clear hul
                obtain ⟨bx,ox,hax,hxc⟩:=HU.out.ints.isL.get hd2
                rw [getD_in hd2] at hxc
                subst hax
                generalize ns[n]=x at *
                generalize zerosI (ns.take n)=z at *
                rcases (show x=0∨x=1 by omega) with rfl | rfl
                · rw [if_neg (by decide)] at hz hms
                  have hz1:z < vs.length:=by rw [HLV.out];omega
                  have hz2:(z:Int) < (vs.length:Int):=by omega
                  have hz4:z≤4096:=by omega
                  obtain ⟨bv,ov,hav,hval⟩:=HU.out.vals.isV.get hz1
                  subst hav
                  generalize vs.getD z zeroV=v at *
                  obtain ⟨v0,v1,v2,v3⟩:=hval
                  have HZ:=Lib.hid hz
                  have HMS:=Lib.hid hms.symm
                  clear hz hms hzt hx hz1
                  go_wp2_with (at_builtin;refine wp_val HU.out.own HU.out.below.size HUL.out rfl _ _ rfl v rfl rfl ?_;intro au' cu' u6 ho hf hn2;have HFIN:=Lib.hid (HU.out.more ho hf hn2);clear ho hf hn2)
                  go_roundw
                  case rel => exact ⟨n + 1,cu',au',us ++ [v],d,by simp,by rw [HZ.out];go_num,by go_num,HMS,HFIN⟩
                  case measure => simp [intOf];omega
                · rw [if_pos rfl] at hz hms
                  have HZ:=Lib.hid hz
                  have HMS:=Lib.hid hms.symm
                  clear hz hms hzt hx
                  go_wp2_with (at_builtin;refine wp_val HU.out.own HU.out.below.size HUL.out rfl _ _ rfl ⟨0,0,false,⟨#[]⟩⟩ rfl rfl ?_;intro au' cu' u6 ho hf hn2;have HFIN:=Lib.hid (HU.out.more ho hf hn2);clear ho hf hn2)
                  go_roundw
                  case rel => exact ⟨n + 1,cu',au',us ++ [⟨0,0,false,⟨#[]⟩⟩],d,by simp,by rw [HZ.out];rfl,by go_num,HMS,HFIN⟩
                  case measure => simp [intOf];omega
              · obtain rfl:n=N:=by omega
                obtain rfl:us=mergeV ns vs:=by rw [HUS.out,List.take_of_length_le (by rw [HLN.out];exact Nat.le_refl _)]
                have TV2:=Lib.hid (TV.out _ au cu HU.out.own.isV)
                have hRR:=HR2.out
                unfold ansOf at hRR
                simp only at hRR
                generalize mergeV ns vs=M at *
                generalize colPut k M=P at *
                obtain ⟨x,y,E⟩:=P
                simp only at hRR TV2
                clear TV HR2 HUS
                by_cases hE:E=0
                · subst hE
                  by_cases hx:x=s
                  · rw [if_pos ⟨rfl,hx⟩] at hRR
                    subst hRR
                    have hq:(x.toList == s.toList)=true:=toList_same hx
                    clear hx
                    go_wp2_with (go_at_call 15;refine TV2.out.mono ?_;rintro e w6 ⟨rfl,hb6⟩;have HO6:=Lib.hid (HU.out.own.below hb6);have HB6:=Lib.hid (HU.out.below.trans (hb6.mono HU.out.below.size));clear hb6)
                    go_ret2
                    exact ⟨au,cu,rfl,HO6.out,HB6.out⟩
                  · rw [if_neg (fun e => hx e.2)] at hRR
                    subst hRR
                    have hq:(x.toList == s.toList)=false:=toList_ne hx
                    clear hx
                    go_wp2_with (go_at_call 15;refine TV2.out.mono ?_;rintro e w6 ⟨rfl,hb6⟩;have HB6:=Lib.hid (HU.out.below.trans (hb6.mono HU.out.below.size));clear hb6)
                    go_ret2
                    exact ⟨none,0,rfl,OwnV.nil _ _,HB6.out⟩
                · rw [if_neg (fun e => hE e.1)] at hRR
                  subst hRR
                  have hne:(E != 0)=true:=by simpa using hE
                  clear hE
                  go_wp2_with (go_at_call 15;refine TV2.out.mono ?_;rintro e w6 ⟨rfl,hb6⟩;have HB6:=Lib.hid (HU.out.below.trans (hb6.mono HU.out.below.size));clear hb6)
                  go_ret2
                  exact ⟨none,0,rfl,OwnV.nil _ _,HB6.out⟩
          · obtain rfl:R=([],901):=by rw [HO.out,if_pos (.inr hlen)];rfl
            have hq1:((vs.length:Int) != (m:Int))=true:=by simpa using (by omega:¬ (vs.length:Int)=(m:Int))
            go_wp2
            go_ret2
            exact ⟨none,0,rfl,OwnV.nil _ _,HB5.out⟩
end Go.Proofs.YtfbmlefhjoblbaaGreat
