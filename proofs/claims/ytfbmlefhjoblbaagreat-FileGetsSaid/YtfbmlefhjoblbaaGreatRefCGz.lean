/- Spaces and remarks left out: a claim is at most so large. -/
import Derived.Test.YtfbmlefhjoblbaaGreatRefBGz
import Derived.Test.YtfbmlefhjoblbaaGreatPutGGz
import Derived.Test.YtfbmlefhjoblbaaGreatRFirstGz
import Derived.Test.YtfbmlefhjoblbaaGreatFacesGz
namespace Go.Proofs.YtfbmlefhjoblbaaGreat
open Go.Conc Go.RowKit
set_option linter.unusedVariables false
set_option linter.unusedSimpArgs false
theorem some_take2 (vs:List V) (n:Nat) (h:n < vs.length):someV (vs.take (n + 1))=if isNull vs[n]=true then someV (vs.take n) else someV (vs.take n) ++ [plainV vs[n]]:=by
  rw [← List.take_append_getElem h]
  unfold someV
  rw [List.filter_append,List.map_append]
  generalize vs[n]=v
  cases h:isNull v with
  | true => rw [if_pos rfl];simp [h]
  | false => rw [if_neg (by simp)];simp [h]
theorem null_take2 (vs:List V) (n:Nat) (h:n < vs.length):nullI (vs.take (n + 1))=nullI (vs.take n) ++ [if isNull vs[n]=true then 1 else 0]:=by
  rw [← List.take_append_getElem h]
  unfold nullI
  rw [List.map_append]
  rfl
theorem RCutNum.num2 {w u u':World} {cm cm' ce:Nat} {am am' ae:Option Addr} {m:List Int} {e:List V} {z:Int} (h:RCutNum w u am ae cm ce m e) (ho:OwnI w.heap.size u' am' cm' (m ++ [z])) (hf:Frm (At am) u u'):RCutNum w u' am' ae cm' ce (m ++ [z]) e :=
  ⟨ho,h.vals.frm hf fun k hk _ hk2 => apart_iv h.nums h.vals hk2 hk,Frm.to_below h.below hf (fun k hk => (h.nums.at_ge hk).1) (Nat.le_refl _)⟩
theorem RCutNum.val2 {w u u':World} {cm ce ce':Nat} {am ae ae':Option Addr} {m:List Int} {e:List V} {p:V} (h:RCutNum w u am ae cm ce m e) (ho:OwnV w.heap.size u' ae' ce' (e ++ [p])) (hf:Frm (At ae) u u'):RCutNum w u' am ae' cm ce' m (e ++ [p]) :=
  ⟨h.nums.frm hf fun k hk _ hk2 => apart_iv h.nums h.vals hk hk2,ho,Frm.to_below h.below hf (fun k hk => (h.vals.at_ge hk).1) (Nat.le_refl _)⟩
theorem OutAt.new (u:World) (x y z:ByteArray):OutAt (u.alloc (.cells #[.string x,.string y,.string z] 89)) u.heap.size x y z:=⟨heap_alloc_new u _⟩
structure VAt (w u:World) (b:Nat) (x y z:ByteArray) (am:Option Addr) (cm:Nat) (m:List Int):Prop where
  out:OutAt u b x y z
  nums:OwnI w.heap.size u am cm m
  below:Below w.heap.size w u
theorem VAt.more {w u u':World} {b:Nat} {x y z:ByteArray} {am:Option Addr} {cm:Nat} {m:List Int} (h:VAt w u b x y z am cm m) (hb:Below u.heap.size u u'):VAt w u' b x y z am cm m :=
  ⟨h.out.below hb,h.nums.below hb,h.below.trans (hb.mono h.below.size)⟩
def pick3 (x y z:ByteArray) (j:Nat):ByteArray:=if j=0 then x else if j=1 then y else z
theorem okK_iff {k:Int} {v:V} (hn:isNull v=false):okK k v=(decide (v.k=k) && (decide (k ≠ 3) || (decide (v.s.size≤64) && decide (first v.s.data.toList = -1)))):=by unfold okK;rw [hn,Bool.false_or]
set_option maxRecDepth 100000 in
set_option maxHeartbeats 8000000 in
theorem refvec_any (w:World) (k:Int) (a:Option Addr) (cap:Nat) (vs:List V) (ha:IsV w a vs) (hx:vs.length≤9223372036854775807) (hf:Fine vs) :
    Calls Tryz.prog 15 #[.int .i64 k,.slice a vs.length cap] w fun e w' => e=.returned (.tuple #[.string (colPut k vs).1,.int .i64 (colPut k vs).2.1,.int .i64 (colPut k vs).2.2])∧Below w.heap.size w w':=by
  by_cases h1:k < 1
  · rw [putA_kind (by omega)]
    clear ha hf
    go_enter Tryz.func15,Tryz.ntmps15
    go_wp2
    go_ret3
    exact ⟨rfl,Below.refl _ _⟩
  by_cases h3:3 < k
  · rw [putA_kind (by omega)]
    clear ha hf
    go_enter Tryz.func15,Tryz.ntmps15
    go_wp2
    go_ret3
    exact ⟨rfl,Below.refl _ _⟩
  have hk:1≤k∧k≤3:=by omega
  by_cases hn:(4096:Int) < (vs.length:Int)
  · rw [putA_form hk (.inl (by omega))]
    clear ha hf
    go_enter Tryz.func15,Tryz.ntmps15
    go_wp2
    go_ret3
    exact ⟨rfl,Below.refl _ _⟩
  have hvl:vs.length≤4096:=by omega
  have HBAD:Hid (∀ (i:Nat) (h:i < vs.length),okK k vs[i]=false→colPut k vs=(ByteArray.empty,0,901)):=fun i h e => putA_form hk (.inr ⟨vs[i],List.getElem_mem _,e⟩)
  have HYES:Hid ((∀ v ∈ vs,okK k v=true)→colPut k vs=(sealB (textB (bodyB k vs)),(best k (someV vs):Int),0)):=fun h => putA_yes hk hvl h
  obtain ⟨P,hP⟩:∃ P,Hid (P=colPut k vs):=⟨_,rfl⟩
  rw [← hP.out]
  have HA:=Lib.hid ha
  have HF:=Lib.hid hf
  have HK:=Lib.hid hk
  have HN:=Lib.hid hvl
  have H0:Hid (RCutNum w w none none 0 0 [] []):=⟨OwnI.nil _ _,OwnV.nil _ _,Below.refl _ _⟩
  clear ha hf hx hk hvl
  go_enter Tryz.func15,Tryz.ntmps15
  go_wp2
  go_loopw [7,8,9] (fun bv sv iv wr => ∃ (n cb cs:Nat) (ab as_:Option Addr) (bs:List Int) (ss:List V),n≤vs.length∧iv=.int .i64 n∧bv=.slice ab bs.length cb∧sv=.slice as_ ss.length cs∧Hid (nullI (vs.take n)=bs∧someV (vs.take n)=ss)∧Hid (∀ v ∈ vs.take n,okK k v=true)∧Hid (RCutNum w wr ab as_ cb cs bs ss)) (fun _ _ iv _ => vs.length - (intOf iv).toNat)
  case atStart => exact ⟨0,0,0,none,none,[],[],Nat.zero_le _,rfl,rfl,rfl,⟨rfl,rfl⟩,by intro v hv;simp at hv,H0⟩
  case round =>
    obtain ⟨n,cb,cs,ab,as_,bs,ss,hn1,rfl,rfl,rfl,HX,HO,HC⟩:=hrel
    by_cases c:n < vs.length
    · rcases HA.out with h | ⟨bb,off,rfl,hcells⟩
      · subst h;simp at c
      have HVW:=Lib.hid (hcells n c)
      have HV:=Lib.hid (HVW.out.below HC.out.below)
      have hfn:=HF.out vs[n] (List.getElem_mem _)
      have HBN:=Lib.hid (HBAD.out n c)
      have HON:Hid (okK k vs[n]=true→∀ v ∈ vs.take (n + 1),okK k v=true):=by
        intro h v hv
        rw [← List.take_append_getElem c] at hv
        rcases List.mem_append.1 hv with hv | hv
        · exact HO.out v hv
        · rw [List.mem_singleton.1 hv];exact h
      have hnx:=null_take2 vs n c
      have hsx:=some_take2 vs n c
      rw [HX.out.1] at hnx
      rw [HX.out.2] at hsx
      have hci:(n:Int) < (vs.length:Int):=by omega
      have hnl:vs.length≤4096:=HN.out
      have hbl:bs.length≤17592186044000:=by rw [← HX.out.1,null_len,List.length_take];omega
      have HSL:Hid (ss.length≤3518437208882):=by
        have h:=some_le (vs.take n)
        rw [List.length_take,HX.out.2] at h
        unfold Hid;omega
      clear hcells
      generalize vs[n]=v at *
      have TN:=Lib.hid (fun u => refnull_any v u)
      have TV:=Lib.hid (fun u => rvalid_any v.s (by omega) u)
      have hvs:v.s.size≤140737488355328:=hfn.2
      obtain ⟨v0,v1,v2,v3⟩:=HV.out
      cases hz:isNull v with
      | true =>
        rw [hz] at TN hnx hsx
        rw [if_pos rfl] at hnx hsx
        have HNX:=Lib.hid (And.intro hnx hsx)
        have HOK:=Lib.hid (HON.out (by unfold okK;rw [hz];rfl))
        clear hnx hsx
        go_wp2_with (first
          | (go_at_call 49;refine (TN.out _).mono ?_;rintro e w2 ⟨rfl,hb⟩;have HC2:=Lib.hid (HC.out.more hb);clear hb)
          | (at_builtin;refine wp_num HC2.out.nums HC2.out.below.size hbl rfl _ _ rfl 1 rfl rfl ?_;intro ai' ci' u4 ho hf;have HFIN:=Lib.hid (HC2.out.num2 ho hf);clear ho hf))
        go_roundw
        case rel => exact ⟨n + 1,ci',cs,ai',as_,_,ss,c,by go_num,by simp,rfl,HNX,HOK,HFIN⟩
        case measure => simp [intOf];omega
      | false =>
        rw [hz] at TN hnx hsx
        rw [if_neg (by simp)] at hnx hsx
        have HNX:=Lib.hid (And.intro hnx hsx)
        have hoi:=okK_iff (k:=k) hz
        clear hnx hsx
        go_upto_region 12 with (go_at_call 49;refine (TN.out _).mono ?_;rintro e w2 ⟨rfl,hb⟩;have HC2:=Lib.hid (HC.out.more hb);have HV2:=Lib.hid (HV.out.below hb);clear hb)
        clear v0 v1 v2 v3
        obtain ⟨v0,v1,v2,v3⟩:=HV2.out
        clear HV HC
        by_cases hkk:v.k=k
        · have TC:Hid (∀ u,Calls Tryz.prog 27 #[.agg #[.int .i64 v.k,.int .i64 v.i,.bool v.b,.string v.s]] u fun e w' => e=.returned (.agg #[.int .i64 (plainV v).k,.int .i64 (plainV v).i,.bool (plainV v).b,.string (plainV v).s])∧Below u.heap.size u w'):=fun u => rclean_any v u
          obtain ⟨p,hp⟩:∃ p,p=plainV v:=⟨_,rfl⟩
          rw [← hp] at TC HNX
          clear hp
          have hk1:(v.k == k)=true:=by simpa using hkk
          have hk2:(v.k != k)=false:=by simpa using hkk
          by_cases hk3:k=3
          · have he3:(k == 3)=true:=by simpa using hk3
            by_cases hsz:(64:Int) < (v.s.size:Int)
            · have HE:=Lib.hid (HBN.out (by rw [hoi,decide_eq_false (show ¬ v.s.size≤64 by omega),decide_eq_false (show ¬ k ≠ 3 by omega)];simp))
              rw [← hP.out] at HE
              have hpe:=HE.out
              clear hoi hkk hk3
              go_wp2
              go_ret3
              exact ⟨by rw [hpe];rfl,HC2.out.below⟩
            · by_cases hvv:first v.s.data.toList = -1
              · rw [decide_eq_true hvv] at TV
                have HOK:=Lib.hid (HON.out (by rw [hoi,decide_eq_true hkk,decide_eq_true (show v.s.size≤64 by omega),decide_eq_true hvv];simp))
                clear hoi hvv hkk hk3
                go_upto_region 15 with (first
                  | (go_at_call 50;refine (TV.out _).mono ?_;rintro e w3 ⟨rfl,rfl⟩)
                  | (at_builtin;refine wp_num HC2.out.nums HC2.out.below.size hbl rfl _ _ rfl 0 rfl rfl ?_;intro ai' ci' u4 ho hf;have HC4:=Lib.hid (HC2.out.num2 ho hf);clear ho hf))
                clear v0 v1 v2 v3
                obtain ⟨v0,v1,v2,v3⟩:=HVW.out.below HC4.out.below
                go_wp2_with (first
                  | (go_at_call 27;refine (TC.out _).mono ?_;rintro e w5 ⟨rfl,hb⟩;have HC5:=Lib.hid (HC4.out.more hb);clear hb)
                  | (at_builtin;refine wp_val HC5.out.vals HC5.out.below.size HSL.out rfl _ _ rfl p rfl rfl ?_;intro ae' ce' u6 ho hf _;have HFIN:=Lib.hid (HC5.out.val2 ho hf);clear ho hf))
                go_roundw
                case rel => exact ⟨n + 1,ci',ce',ai',ae',_,_,c,by go_num,by simp,by simp,HNX,HOK,HFIN⟩
                case measure => simp [intOf];omega
              · rw [decide_eq_false hvv] at TV
                have HE:=Lib.hid (HBN.out (by rw [hoi,decide_eq_false hvv,decide_eq_false (show ¬ k ≠ 3 by omega)];simp))
                rw [← hP.out] at HE
                have hpe:=HE.out
                clear hoi hvv hkk hk3
                go_wp2_with (go_at_call 50;refine (TV.out _).mono ?_;rintro e w3 ⟨rfl,rfl⟩)
                go_ret3
                exact ⟨by rw [hpe];rfl,HC2.out.below⟩
          · have HOK:=Lib.hid (HON.out (by rw [hoi,decide_eq_true hkk,decide_eq_true hk3];simp))
            have he3:(k == 3)=false:=by simpa using hk3
            clear hoi hkk hk3
            go_upto_region 15 with (at_builtin;refine wp_num HC2.out.nums HC2.out.below.size hbl rfl _ _ rfl 0 rfl rfl ?_;intro ai' ci' u4 ho hf;have HC4:=Lib.hid (HC2.out.num2 ho hf);clear ho hf)
            clear v0 v1 v2 v3
            obtain ⟨v0,v1,v2,v3⟩:=HVW.out.below HC4.out.below
            go_wp2_with (first
              | (go_at_call 27;refine (TC.out _).mono ?_;rintro e w5 ⟨rfl,hb⟩;have HC5:=Lib.hid (HC4.out.more hb);clear hb)
              | (at_builtin;refine wp_val HC5.out.vals HC5.out.below.size HSL.out rfl _ _ rfl p rfl rfl ?_;intro ae' ce' u6 ho hf _;have HFIN:=Lib.hid (HC5.out.val2 ho hf);clear ho hf))
            go_roundw
            case rel => exact ⟨n + 1,ci',ce',ai',ae',_,_,c,by go_num,by simp,by simp,HNX,HOK,HFIN⟩
            case measure => simp [intOf];omega
        · have HE:=Lib.hid (HBN.out (by rw [hoi,decide_eq_false hkk];simp))
          rw [← hP.out] at HE
          have hpe:=HE.out
          clear hoi
          go_wp2
          go_ret3
          exact ⟨by rw [hpe];rfl,HC2.out.below⟩
    · obtain rfl:n=vs.length:=by omega
      have hall:∀ v ∈ vs,okK k v=true:=by have:=HO.out;rwa [List.take_length] at this
      have hpy:=HYES.out hall
      have hX:=HX.out
      rw [List.take_length] at hX
      obtain ⟨hb,hs⟩:=hX
      have hbody:bodyB k vs=u8 (best k ss) :: (vp vs.length ++ (packB 1 bs ++ ways k ss (best k ss))):=by unfold bodyB;rw [hb,hs]
      rw [← hP.out,hs,hbody] at hpy
      have hbl:bs.length=vs.length:=by rw [← hb,null_len]
      have hnl:=HN.out
      have hsl:ss.length≤4096:=by rw [← hs];have:=some_le vs;omega
      have hfit:fits 1 bs:=by rw [← hb];exact bits_null vs
      have hvalk:∀ v ∈ ss,ValK k v:=by rw [← hs];exact some_ok HK.out (fun v hv => okK_ok (hall v hv) (HF.out v hv).1.1 (HF.out v hv).1.2)
      have TW:=Lib.hid (fun (u:World) (a:Option Addr) (cap:Nat) (h:IsV u a ss) => refways_any u k HK.out a cap ss h hsl hvalk)
      have TP:=Lib.hid (fun (u:World) (a:Option Addr) (cap:Nat) (h:IsL u a bs) => rpacked_any u a cap 1 (by omega) bs h (by omega) hfit)
      have TV:=Lib.hid (fun u => rvarint_any vs.length (by omega) u)
      have hpl:(packB 1 bs).length≤600:=by rw [packB_length,hbl];unfold bytesFor;omega
      have hvp:=vp_le vs.length
      have hw0:=ways_len HK.out hvalk hsl 0
      have hw1:=ways_len HK.out hvalk hsl 1
      have hw2:=ways_len HK.out hvalk hsl 2
      rw [← textB_size] at hpl hvp hw0 hw1 hw2
      have hbe1:best1 k ss=if (textB (ways k ss 1)).size < (textB (ways k ss 0)).size then 1 else 0:=by rw [textB_size,textB_size];rfl
      have hbe2:best k ss=if (textB (ways k ss 2)).size < (pick3 (textB (ways k ss 0)) (textB (ways k ss 1)) (textB (ways k ss 2)) (best1 k ss)).size then 2 else best1 k ss:=by
        rcases (show best1 k ss=0∨best1 k ss=1 by have:=best1_le k ss;omega) with e | e <;> (rw [e];simp only [pick3];rw [textB_size];simp only [if_true,if_false,Nat.one_ne_zero];rw [textB_size];unfold best;rw [e];rfl)
      have hsel:textB (ways k ss (best k ss))=pick3 (textB (ways k ss 0)) (textB (ways k ss 1)) (textB (ways k ss 2)) (best k ss):=by
        rcases (show best k ss=0∨best k ss=1∨best k ss=2 by have:=best_le k ss;omega) with e | e | e <;> rw [e] <;> rfl
      have hle:=best_le k ss
      have hle1:=best1_le k ss
      have htx:textB (u8 (best k ss) :: (vp vs.length ++ (packB 1 bs ++ ways k ss (best k ss))))=textB [u8 (best k ss)] ++ textB (vp vs.length) ++ textB (packB 1 bs) ++ textB (ways k ss (best k ss)):=by
        rw [← textB_append,← textB_append,← textB_append];simp
      rw [htx,hsel] at hpy
      clear htx hsel hb hs hbody hall hfit hvalk hbl HX HO HYES HBAD HF hnl H0
      generalize textB (ways k ss 0)=x0 at *
      generalize textB (ways k ss 1)=x1 at *
      generalize textB (ways k ss 2)=x2 at *
      generalize best1 k ss=b2 at *
      generalize best k ss=b3 at *
      generalize textB (packB 1 bs)=xp at *
      generalize textB (vp vs.length)=xv at *
      have HB1:=Lib.hid hbe1
      have HB2:=Lib.hid hbe2
      have HPY:=Lib.hid hpy
      have HLE:=Lib.hid (And.intro hle hle1)
      have HSZ:=Lib.hid (And.intro hpl (And.intro hvp (And.intro hw0 (And.intro hw1 hw2))))
      have hsv:=HC.out.vals.isV
      have HSV:=Lib.hid hsv
      clear hbe1 hbe2 hpy hle hle1 hpl hvp hw0 hw1 hw2 hsv c hsl hn1
      go_upto_region 17 with (go_at_call 51;refine (TW.out _ _ _ HSV.out).mono ?_;rintro e w2 ⟨rfl,hb2⟩;have HC2:=Lib.hid (HC.out.more hb2);obtain ⟨⟨o0,o1,o2⟩,z0,z1,z2⟩:=(show OutAt (w2.alloc (.cells #[.string ⟨#[]⟩,.string ⟨#[]⟩,.string ⟨#[]⟩] 89)) w2.heap.size ⟨#[]⟩ ⟨#[]⟩ ⟨#[]⟩ from ⟨heap_alloc_new w2 _⟩).at;clear hb2)
      have hout:=OutAt.new w2 x0 x1 x2
      have hbel:Below w2.heap.size w2 (w2.alloc (.cells #[.string x0,.string x1,.string x2] 89)):=(Below.refl _ _).alloc (Nat.le_refl _) _
      have HV0:Hid (VAt w _ w2.heap.size x0 x1 x2 ab cb bs):=⟨hout,HC2.out.nums.below hbel,HC2.out.below.trans (hbel.mono HC2.out.below.size)⟩
      clear hout hbel o0 o1 o2 z0 z1 z2 HC HSV TW
      obtain ⟨b,hbb⟩:∃ b,b=w2.heap.size:=⟨_,rfl⟩
      rw [← hbb] at HV0 ⊢
      clear hbb HC2
      generalize w2.alloc (.cells #[.string x0,.string x1,.string x2] 89)=w3 at *
      go_wp2
      go_loopw [11,12] (fun bv iv wr => ∃ (n bn:Nat),n≤3∧iv=.int .i64 n∧bv=.int .i64 bn∧Hid ((n=1∧bn=0)∨(n=2∧bn=b2)∨(n=3∧bn=b3))∧Hid (VAt w wr b x0 x1 x2 ab cb bs)) (fun _ iv _ => 3 - (intOf iv).toNat)
      case atStart => exact ⟨1,0,by omega,rfl,rfl,.inl ⟨rfl,rfl⟩,HV0⟩
      case round =>
        obtain ⟨n,bn,hn3,rfl,rfl,HR,HC⟩:=hrel
        obtain ⟨⟨o0,o1,o2⟩,z0,z1,z2⟩:=HC.out.out.at
        rcases HR.out with ⟨rfl,rfl⟩ | ⟨rfl,rfl⟩ | ⟨rfl,rfl⟩
        · by_cases cc:(x1.size:Int) < (x0.size:Int)
          · have HB':Hid (1=b2):=by unfold Hid;rw [HB1.out,if_pos (by omega)]
            go_upto_region 21 with fail
            go_quiet (fail)
            replace HC:=Lib.hid (HC.out.more (bel_drewN (n:=nq) (Below.refl _ wr)))
            generalize wr.drewN nq=w2 at *
            go_wp2
            go_roundw
            case rel => exact ⟨2,1,by omega,by go_num,by go_num,.inr (.inl ⟨rfl,HB'.out⟩),HC⟩
            case measure => simp [intOf]
          · have HB':Hid (0=b2):=by unfold Hid;rw [HB1.out,if_neg (by omega)]
            go_upto_region 21 with fail
            go_quiet (fail)
            replace HC:=Lib.hid (HC.out.more (bel_drewN (n:=nq) (Below.refl _ wr)))
            generalize wr.drewN nq=w2 at *
            go_wp2
            go_roundw
            case rel => exact ⟨2,0,by omega,by go_num,by go_num,.inr (.inl ⟨rfl,HB'.out⟩),HC⟩
            case measure => simp [intOf]
        · rcases (show bn=0∨bn=1 by have:=HLE.out.2;omega) with e | e
          · subst e
            by_cases cc:(x2.size:Int) < (x0.size:Int)
            · have HB':Hid (2=b3):=by unfold Hid;rw [HB2.out,if_pos (by simp only [pick3,if_true];omega)]
              go_upto_region 21 with fail
              go_quiet (fail)
              replace HC:=Lib.hid (HC.out.more (bel_drewN (n:=nq) (Below.refl _ wr)))
              generalize wr.drewN nq=w2 at *
              go_wp2
              go_roundw
              case rel => exact ⟨3,2,by omega,by go_num,by go_num,.inr (.inr ⟨rfl,HB'.out⟩),HC⟩
              case measure => simp [intOf]
            · have HB':Hid (0=b3):=by unfold Hid;rw [HB2.out,if_neg (by simp only [pick3,if_true];omega)]
              go_upto_region 21 with fail
              go_quiet (fail)
              replace HC:=Lib.hid (HC.out.more (bel_drewN (n:=nq) (Below.refl _ wr)))
              generalize wr.drewN nq=w2 at *
              go_wp2
              go_roundw
              case rel => exact ⟨3,0,by omega,by go_num,by go_num,.inr (.inr ⟨rfl,HB'.out⟩),HC⟩
              case measure => simp [intOf]
          · subst e
            by_cases cc:(x2.size:Int) < (x1.size:Int)
            · have HB':Hid (2=b3):=by unfold Hid;rw [HB2.out,if_pos (by simp only [pick3,if_true,if_false,Nat.one_ne_zero];omega)]
              go_upto_region 21 with fail
              go_quiet (fail)
              replace HC:=Lib.hid (HC.out.more (bel_drewN (n:=nq) (Below.refl _ wr)))
              generalize wr.drewN nq=w2 at *
              go_wp2
              go_roundw
              case rel => exact ⟨3,2,by omega,by go_num,by go_num,.inr (.inr ⟨rfl,HB'.out⟩),HC⟩
              case measure => simp [intOf]
            · have HB':Hid (1=b3):=by unfold Hid;rw [HB2.out,if_neg (by simp only [pick3,if_true,if_false,Nat.one_ne_zero];omega)]
              go_upto_region 21 with fail
              go_quiet (fail)
              replace HC:=Lib.hid (HC.out.more (bel_drewN (n:=nq) (Below.refl _ wr)))
              generalize wr.drewN nq=w2 at *
              go_wp2
              go_roundw
              case rel => exact ⟨3,1,by omega,by go_num,by go_num,.inr (.inr ⟨rfl,HB'.out⟩),HC⟩
              case measure => simp [intOf]
        · have hli:=HC.out.nums.isL
          have HLI:=Lib.hid hli
          clear hli HR HB1 HB2 HV0 o0 o1 o2 z0 z1 z2
          go_upto_region 24 with (go_at_call 52;refine (TP.out _ _ _ HLI.out).mono ?_;rintro e w5 ⟨rfl,hb5⟩;have HC5:=Lib.hid (HC.out.more hb5);clear hb5)
          clear HC HLI TP
          have hbn3:=HLE.out.1
          obtain ⟨xs,hxs⟩:∃ xs,pick3 x0 x1 x2 bn=xs:=⟨_,rfl⟩
          have hsel:w5.cell? ⟨b,bn,none⟩=some (.string xs):=by
            obtain ⟨⟨o0,o1,o2⟩,_⟩:=HC5.out.out.at
            rcases (show bn=0∨bn=1∨bn=2 by omega) with e | e | e <;> (subst e;rw [← hxs])
            · exact o0
            · exact o1
            · exact o2
          have hss:=HSZ.out
          have hxz:xs.size≤400000:=by
            rw [← hxs];unfold pick3;split
            · exact hss.2.2.1
            · split
              · exact hss.2.2.2.1
              · exact hss.2.2.2.2
          have hpy:=HPY.out
          rw [hxs] at hpy
          clear HPY hxs
          have HPY:=Lib.hid hpy
          clear hpy
          have hblt:=HC5.out.out.lt
          have hwu:IntKind.u8.wrap (bn:Int)=(bn:Int):=by rw [IntKind.wrap_u8];omega
          have hbyte:∀ j (h:j < [u8 bn].length),(#[Value.int .u8 (bn:Int)]:Array Value)[j]? = some (.int .u8 (([u8 bn]:List UInt8)[j].toNat:Int)):=by
            intro j h
            have h0:j=0:=by simpa using h
            subst h0
            simp [u8_toNat bn (by omega)]
          have HBY:=Lib.hid hbyte
          have h1:(w5.alloc (.cells #[.int .u8 (bn:Int)] 5)).heap[w5.heap.size]? = some (.cells #[.int .u8 (bn:Int)] 5 (0,0)):=heap_alloc_new w5 _
          have H1:=Lib.hid h1
          have hcv1:(convert 50 9 (.slice (some ⟨w5.heap.size,0,none⟩) (1:Nat) 1)).run Tryz.prog (w5.alloc (.cells #[.int .u8 (bn:Int)] 5)).drew=.ok (.string (textB [u8 bn])) (w5.alloc (.cells #[.int .u8 (bn:Int)] 5)).drew:=arr_back (w5.alloc (.cells #[.int .u8 (bn:Int)] 5)).drew w5.heap.size [u8 bn] _ _ h1 hbyte 1 1 rfl
          have hq:=(World.cell?_of_block (a:=⟨b,bn,none⟩) (Below.heap_alloc w5 (.cells #[.int .u8 (bn:Int)] 5) b hblt)).trans hsel
          have HB1:Hid (Below w5.heap.size w5 (w5.alloc (.cells #[.int .u8 (bn:Int)] 5))):=(Below.refl _ _).alloc (Nat.le_refl _) _
          have HLT:=Lib.hid hblt
          have hone:(textB [u8 bn]).size=1:=textB_size _
          have TS:=Lib.hid (fun u => rseal_any (textB [u8 bn] ++ xv ++ xp ++ xs) (by rw [ByteArray.size_append,ByteArray.size_append,ByteArray.size_append];omega) u)
          generalize hxb:textB [u8 bn]=xb at *
          have hl1:¬ 9223372036854775807 < xb.size + xv.size:=by omega
          have hl2:¬ 9223372036854775807 < xb.size + xv.size + xp.size:=by omega
          have hl3:¬ 9223372036854775807 < xb.size + xv.size + xp.size + xs.size:=by omega
          have hl4:¬ 9223372036854775807 < (xb ++ xv).size + xp.size:=by rw [ByteArray.size_append];omega
          have hl5:¬ 9223372036854775807 < (xb ++ xv ++ xp).size + xs.size:=by rw [ByteArray.size_append,ByteArray.size_append];omega
          have hbi:(bn:Int) < 3:=by omega
          have HXB:=Lib.hid hxb
          clear hbyte h1 hss hxz hblt hone hxb HSZ HLE
          go_region_law (first
            | (have hx:=HW.out;clear hx;go_simp;go_at_call 22;refine (TS.out _).mono ?_;rintro e w7 ⟨rfl,hb7⟩;have HF:=Lib.hid (HC5.out.below.trans ((HW.out.trans (hb7.mono HW.out.size)).mono HC5.out.below.size));clear hb7)
            | (go_simp;go_at_call 53;refine (TV.out (w5.alloc (.cells #[.int .u8 (bn:Int)] 5)).drew).mono ?_;rintro e w6 ⟨rfl,hb6⟩;have HW:=Lib.hid (HB1.out.drew.trans (hb6.mono HB1.out.size));have hq6:=(hb6.cell (p:=⟨b,bn,none⟩) (by have:=HLT.out;simp;omega)).trans hq;have hcv6:=arr_back w6 w5.heap.size [u8 bn] _ _ ((hb6.block w5.heap.size (by simp)).trans H1.out) HBY.out 1 1 rfl;rw [HXB.out] at hcv6;clear hb6)
            | (go_simp;go_at_call 53;refine (TV.out w5.drew).mono ?_;rintro e w6 ⟨rfl,hb6⟩;have HW:=Lib.hid (Below.alloc (show Below w5.heap.size w5 w6 from ⟨hb6.os,hb6.tape,hb6.output,hb6.size,hb6.block⟩) hb6.size (.cells #[.int .u8 (bn:Int)] 5));have hq6:=(hb6.cell (p:=⟨b,bn,none⟩) HLT.out).trans hsel;have hq7:=(World.cell?_of_block (a:=⟨b,bn,none⟩) (Below.heap_alloc w6 (.cells #[.int .u8 (bn:Int)] 5) b (Nat.lt_of_lt_of_le HLT.out hb6.size))).trans hq6;have hcv6:=arr_back (w6.alloc (.cells #[.int .u8 (bn:Int)] 5)) w6.heap.size [u8 bn] _ _ (heap_alloc_new w6 _) HBY.out 1 1 rfl;rw [HXB.out] at hcv6;clear hb6))
          all_goals (
            have hpy:=HPY.out
            go_wp2
            go_ret3
            exact ⟨by rw [hpy];rfl,HF.out⟩)
end Go.Proofs.YtfbmlefhjoblbaaGreat
