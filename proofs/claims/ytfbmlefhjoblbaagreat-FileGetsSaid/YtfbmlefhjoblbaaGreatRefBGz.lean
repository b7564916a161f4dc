/- Spaces and remarks left out: a claim is at most so large. -/
import Derived.Test.YtfbmlefhjoblbaaGreatYmathGz
import Derived.Test.YtfbmlefhjoblbaaGreatRdGz
import Derived.Test.YtfbmlefhjoblbaaGreatRFacesGz
import Derived.Test.YtfbmlefhjoblbaaGreatNPFileGetsGz3
import Derived.Test.YtfbmlefhjoblbaaGreatRPackGz
import Derived.Test.YtfbmlefhjoblbaaGreatNPFileGetsGz7
import Derived.Test.YtfbmlefhjoblbaaGreatNPFileGetsGz2
import Derived.Test.YtfbmlefhjoblbaaGreatNPFileGetsGz6
import Derived.Deep.RegionHeld3
namespace Go.Proofs.YtfbmlefhjoblbaaGreat
open Go.Conc Go.RowKit
set_option linter.unusedVariables false
set_option linter.unusedSimpArgs false
set_option maxRecDepth 100000 in
set_option maxHeartbeats 1000000 in
theorem refplain_any (v:V) (hk:1≤v.k∧v.k≤3) (h0:-9223372036854775808≤v.i) (h1:v.i≤9223372036854775807) (hs:v.s.size≤140737488355328) (w:World) :
    Calls Tryz.prog 85 #[.agg #[.int .i64 v.k,.int .i64 v.i,.bool v.b,.string v.s]] w fun e w' => e=.returned (.string (textB (plainB v)))∧Below w.heap.size w w':=by
  obtain ⟨k,i,b,s⟩:=v
  simp only at hk h0 h1 hs ⊢
  rcases (show k=1∨k=2∨k=3 by omega) with rfl | rfl | rfl
  · have e:plainB ⟨1,i,b,s⟩=vp (zz i):=if_pos rfl
    rw [e]
    have T:=Lib.hid (rzig_any i h0 (by omega))
    clear h0 h1 hk e
    go_enter Tryz.func85,Tryz.ntmps85
    go_wp2_with (go_at_call 117;refine (T.out _).mono ?_;rintro e w' ⟨rfl,hb⟩;have HB:=Lib.hid hb;clear hb)
    go_ret
    exact ⟨rfl,((Below.refl _ _).alloc (Nat.le_refl _) _).trans (HB.out.mono (by simp))⟩
  · have e:plainB ⟨2,i,b,s⟩=[if b=true then 1 else 0]:=by unfold plainB;rw [if_neg (by simp),if_pos rfl]
    rw [e]
    cases b with
    | true =>
      go_enter Tryz.func85,Tryz.ntmps85
      go_wp2
      go_ret
      exact ⟨rfl,(Below.refl _ _).alloc (Nat.le_refl _) _⟩
    | false =>
      go_enter Tryz.func85,Tryz.ntmps85
      go_wp2
      go_ret
      exact ⟨rfl,(Below.refl _ _).alloc (Nat.le_refl _) _⟩
  · have e:plainB ⟨3,i,b,s⟩=vp s.size ++ s.data.toList:=by unfold plainB;rw [if_neg (by simp),if_neg (by simp)]
    rw [e,textB_text]
    have T:=Lib.hid (rvarint_any s.size (by omega))
    have hl:¬ 9223372036854775807 < (textB (vp s.size)).size + s.size:=by
      rw [textB_size];have:=vp_le s.size;omega
    clear e h0 h1 hk
    generalize textB (vp s.size)=x at *
    go_enter Tryz.func85,Tryz.ntmps85
    go_upto_region 8 with fail
    have hs1:=Slot.new w ⟨3,i,b,s⟩
    have hb1:Below w.heap.size w (w.alloc (.cells #[.int .i64 3,.int .i64 i,.bool b,.string s] 24)):=(Below.refl _ _).alloc (Nat.le_refl _) _
    simp only at hs1
    have HS:=Lib.hid hs1
    have HB:=Lib.hid hb1
    clear hs1 hb1
    generalize w.alloc (.cells #[.int .i64 3,.int .i64 i,.bool b,.string s] 24)=u at *
    refine region_class (fun w' => Below u.heap.size u w') (by kernel_rfl) (by kernel_rfl) (Below.refl _ _).drew ?_
    repeat (
      refine wpQuiet_step (fun K hK => ?_)
      go_simp
      first
      | (refine hK _ ?_;clear hK K)
      | (apply Exists.intro
         refine ⟨fun w1 hw1 => ?_,hK _ ?_⟩
         (first
           | (exact rfl)
           | (obtain ⟨⟨p0,p1,p2,p3⟩,_⟩:=(HS.out.below hw1).at;simp only [p0,p1,p2,p3,Result.andThen];exact ⟨trivial,rfl⟩)
           | (go_at_call 53;exact (T.out _).mono fun e w2 ⟨he,hb⟩ => ⟨he,hw1.trans (hb.mono hw1.size)⟩)
           | (rw [if_neg hl];exact ⟨rfl,rfl⟩))
         clear hK K))
    refine wpQuiet_nil ?_
    intro w2 hw2
    go_wp2
    go_ret
    exact ⟨rfl,HB.out.trans (hw2.mono HB.out.size)⟩
set_option maxRecDepth 100000 in
theorem refnull_any (v:V) (w:World):Calls Tryz.prog 49 #[.agg #[.int .i64 v.k,.int .i64 v.i,.bool v.b,.string v.s]] w fun e w' => e=.returned (.bool (isNull v))∧Below w.heap.size w w':=by
  have T:=Lib.hid (fun u => rkind_any v u)
  have HB0:=Lib.hid (show Below w.heap.size w (w.alloc (.cells #[.int .i64 v.k,.int .i64 v.i,.bool v.b,.string v.s] 24)) from (Below.refl _ _).alloc (Nat.le_refl _) _)
  unfold isNull
  generalize kindV v=kv at *
  by_cases c:kv=0
  · subst c
    go_enter Tryz.func49,Tryz.ntmps49
    go_wp2_with (go_at_call 55;refine (T.out _).mono ?_;rintro e w1 ⟨rfl,hb⟩;have HB:=Lib.hid (HB0.out.trans (hb.mono HB0.out.size));clear hb)
    go_ret
    exact ⟨rfl,HB.out⟩
  · rw [decide_eq_false c]
    have hne:(kv == 0)=false:=by simpa using c
    go_enter Tryz.func49,Tryz.ntmps49
    go_wp2_with (go_at_call 55;refine (T.out _).mono ?_;rintro e w1 ⟨rfl,hb⟩;have HB:=Lib.hid (HB0.out.trans (hb.mono HB0.out.size));clear hb)
    go_ret
    exact ⟨rfl,HB.out⟩
end Go.Proofs.YtfbmlefhjoblbaaGreat
namespace Go.Proofs.YtfbmlefhjoblbaaGreat
open Go.Conc Go.RowKit
set_option linter.unusedVariables false
set_option linter.unusedSimpArgs false
structure OutAt (w:World) (b:Nat) (x y z:ByteArray):Prop where
  b:w.heap[b]? = some (.cells #[.string x,.string y,.string z] 89 (0,0))
section
variable {w w':World} {b:Nat} {x y z:ByteArray}
theorem OutAt.at (h:OutAt w b x y z):(w.cell? ⟨b,0,none⟩=some (.string x)∧w.cell? ⟨b,1,none⟩=some (.string y)∧w.cell? ⟨b,2,none⟩=some (.string z))∧(w.frozen? ⟨b,0,none⟩=false∧w.frozen? ⟨b,1,none⟩=false∧w.frozen? ⟨b,2,none⟩=false):=by
  have hb:=h.b
  refine ⟨⟨?_,?_,?_⟩,frozen_of_row w b 0 _ _ hb,frozen_of_row w b 1 _ _ hb,frozen_of_row w b 2 _ _ hb⟩ <;> (rw [cell_of_row _ _ _ _ _ _ hb];rfl)
theorem OutAt.lt (h:OutAt w b x y z):b < w.heap.size:=(Array.getElem?_eq_some_iff.1 h.b).1
theorem OutAt.below (h:OutAt w b x y z) (hb:Below w.heap.size w w'):OutAt w' b x y z:=⟨by rw [hb.block b h.lt];exact h.b⟩
theorem OutAt.frm {F:Nat→Prop} (h:OutAt w b x y z) (hf:Frm F w w') (hF:¬ F b):OutAt w' b x y z:=⟨by rw [hf.block b h.lt hF];exact h.b⟩
theorem OutAt.set0 (h:OutAt w b x y z) (s:ByteArray):OutAt (w.setCell ⟨b,0,none⟩ (.string s)) b s y z:=⟨heap_setCell_same _ _ _ _ _ _ h.b⟩
theorem OutAt.set1 (h:OutAt w b x y z) (s:ByteArray):OutAt (w.setCell ⟨b,1,none⟩ (.string s)) b x s z:=⟨heap_setCell_same _ _ _ _ _ _ h.b⟩
theorem OutAt.set2 (h:OutAt w b x y z) (s:ByteArray):OutAt (w.setCell ⟨b,2,none⟩ (.string s)) b x y s:=⟨heap_setCell_same _ _ _ _ _ _ h.b⟩
end
structure WyAt (w u:World) (r b:Nat) (x y z:ByteArray):Prop where
  out:OutAt u b x y z
  res:OutAt u r ByteArray.empty ByteArray.empty ByteArray.empty
  below:Below w.heap.size w u
section
variable {w u u':World} {r b:Nat} {x y z:ByteArray}
theorem WyAt.more (h:WyAt w u r b x y z) (hb:Below u.heap.size u u'):WyAt w u' r b x y z:=⟨h.out.below hb,h.res.below hb,h.below.trans (hb.mono h.below.size)⟩
theorem WyAt.drew (h:WyAt w u r b x y z):WyAt w u.drew r b x y z:=⟨⟨h.out.b⟩,⟨h.res.b⟩,h.below.drew⟩
theorem WyAt.set0 (h:WyAt w u r b x y z) (s:ByteArray) (hrb:¬ r=b) (hb:w.heap.size≤b):WyAt w (u.setCell ⟨b,0,none⟩ (.string s)) r b s y z :=
  ⟨h.out.set0 s,h.res.frm ((Frm.refl (fun k => k=b) u).setCell (p:=⟨b,0,none⟩) rfl _) hrb,h.below.setCell (p:=⟨b,0,none⟩) hb _⟩
theorem WyAt.set1 (h:WyAt w u r b x y z) (s:ByteArray) (hrb:¬ r=b) (hb:w.heap.size≤b):WyAt w (u.setCell ⟨b,1,none⟩ (.string s)) r b x s z :=
  ⟨h.out.set1 s,h.res.frm ((Frm.refl (fun k => k=b) u).setCell (p:=⟨b,1,none⟩) rfl _) hrb,h.below.setCell (p:=⟨b,1,none⟩) hb _⟩
theorem WyAt.set2 (h:WyAt w u r b x y z) (s:ByteArray) (hrb:¬ r=b) (hb:w.heap.size≤b):WyAt w (u.setCell ⟨b,2,none⟩ (.string s)) r b x y s :=
  ⟨h.out.set2 s,h.res.frm ((Frm.refl (fun k => k=b) u).setCell (p:=⟨b,2,none⟩) rfl _) hrb,h.below.setCell (p:=⟨b,2,none⟩) hb _⟩
end
structure BitsAt (w u:World) (r b:Nat) (xs:List Int) (a:Option Addr) (c:Nat):Prop where
  way:WyAt w u r b ⟨#[]⟩ ⟨#[]⟩ ⟨#[]⟩
  nums:OwnI (b + 1) u a c xs
theorem BitsAt.num {w u u':World} {r b:Nat} {xs:List Int} {a a':Option Addr} {c c':Nat} {z:Int} (h:BitsAt w u r b xs a c) (ho:OwnI (b + 1) u' a' c' (xs ++ [z])) (hf:Frm (At a) u u') (hr:r < b) (hw:w.heap.size≤b):BitsAt w u' r b (xs ++ [z]) a' c' :=
  ⟨⟨h.way.out.frm hf fun e => by have:=(h.nums.at_ge e).1;omega,h.way.res.frm hf fun e => by have:=(h.nums.at_ge e).1;omega,Frm.to_below h.way.below hf (fun k hk => by have:=(h.nums.at_ge hk).1;omega) (Nat.le_refl _)⟩,ho⟩
theorem runs_take2 (ms:List Int) (es:List V) (n:Nat) (h1:n < ms.length) (h2:n < es.length):runsB ((ms.zip es).take (n + 1))=runsB ((ms.zip es).take n) ++ vp ms[n].toNat ++ plainB es[n]:=by
  have h:n < (ms.zip es).length:=by rw [List.length_zip];omega
  rw [← List.take_append_getElem h]
  unfold runsB
  rw [List.flatMap_append,List.getElem_zip]
  simp
theorem flat_take2 (vs:List V) (f:V→List UInt8) (n:Nat) (h:n < vs.length):(vs.take (n + 1)).flatMap f=(vs.take n).flatMap f ++ f vs[n]:=by
  rw [← List.take_append_getElem h,List.flatMap_append];simp
theorem rpacked_any (w:World) (a:Option Addr) (cap:Nat) (wd:Nat) (hw:wd≤16) (xs:List Int) (ha:IsL w a xs) (hx:xs.length≤65536) (hf:fits wd xs) :
    Calls Tryz.prog 52 #[.slice a xs.length cap,.int .i64 (wd:Int)] w fun e w' => e=.returned (.tuple #[.string (textB (packB wd xs)),.int .i64 0])∧Below w.heap.size w w':=by
  have hp:((2:Int) ^ wd)≤65536:=by
    have:(2:Nat) ^ wd≤2 ^ 16:=Nat.pow_le_pow_right (by omega) hw
    have h4:((2:Int) ^ wd)=((2 ^ wd:Nat):Int):=by simp
    rw [h4];omega
  have T:=rpack_any w a cap wd xs ha (by omega) (fun x hx => by have:=(hf x hx).2;omega)
  rw [packA_B hw hf] at T
  exact T
structure RunsIn (B:Nat) (u:World) (am ae:Option Addr) (cm ce:Nat) (ms:List Int) (es:List V):Prop where
  nums:OwnI B u am cm ms
  vals:OwnV B u ae ce es
theorem RunsIn.more {B:Nat} {u u':World} {am ae:Option Addr} {cm ce:Nat} {ms:List Int} {es:List V} (h:RunsIn B u am ae cm ce ms es) (hb:Below u.heap.size u u'):RunsIn B u' am ae cm ce ms es:=⟨h.nums.below hb,h.vals.below hb⟩
theorem RunsIn.cell {B b j:Nat} {u:World} {am ae:Option Addr} {cm ce:Nat} {ms:List Int} {es:List V} (h:RunsIn B u am ae cm ce ms es) (hb:b < B) (v:Value):RunsIn B (u.setCell ⟨b,j,none⟩ v) am ae cm ce ms es:=by
  have hf:Frm (fun k => k=b) u (u.setCell ⟨b,j,none⟩ v):=(Frm.refl (fun k => k=b) u).setCell (p:=⟨b,j,none⟩) rfl _
  exact ⟨h.nums.frm hf fun k hk _ e => by have:=(h.nums.at_ge hk).1;omega,h.vals.frm hf fun k hk _ e => by have:=(h.vals.at_ge hk).1;omega⟩
set_option maxRecDepth 100000 in
set_option maxHeartbeats 8000000 in
theorem refways_any (w:World) (k:Int) (hk:1≤k∧k≤3) (a:Option Addr) (cap:Nat) (vs:List V) (ha:IsV w a vs) (hx:vs.length≤4096) (hv:∀ v ∈ vs,ValK k v) :
    Calls Tryz.prog 51 #[.int .i64 k,.slice a vs.length cap] w fun e w' => e=.returned (.agg #[.string (textB (ways k vs 0)),.string (textB (ways k vs 1)),.string (textB (ways k vs 2))])∧Below w.heap.size w w':=by
  have hraw:∀ v ∈ vs,RawK k v:=fun v h => valk_raw hk (hv v h)
  have hpl:∀ v ∈ vs,plainV v=v:=fun v hm => (hv v hm).plain
  have TC:=Lib.hid (fun (u:World) (h:IsV u a vs) => urcut_any u a cap vs h (by omega) (fun v hm => by have:=(hraw v hm).big;omega))
  have TB:=Lib.hid (fun (u:World) (h:IsV u a vs) => urbuild_any u a cap vs h (by omega) (fun v hm => by have:=(hraw v hm).big;omega))
  have hcd:=cutd vs
  have hel:∀ v ∈ (cutA vs).2,ValK k v:=fun v hm => hv v (cut_of hpl v hm)
  have hml:∀ i (h:i < (cutA vs).1.length),0≤(cutA vs).1[i]∧(cutA vs).1[i]≤4096:=fun i hi => by
    have h4:=cut_num_le vs i hi
    have h5:=hcd.pos i hi
    rw [getD_in hi] at h4 h5
    omega
  have hcl:=hcd.len
  have hce:=hcd.le
  have hbd:=built vs
  have hwl:∀ v ∈ (buildA vs).1,ValK k v:=fun v hm => hv v (build_of hpl v hm)
  have hpf:=places_fit (vs:=vs) hx
  have hbl:=hbd.len
  have hbe:=hbd.le
  have hw1:=wid_most (n:=(buildA vs).1.length) (by omega)
  have hR1:ways k vs 1=vp (cutA vs).2.length ++ runsB ((cutA vs).1.zip (cutA vs).2):=rfl
  have hR2:ways k vs 2=vp (buildA vs).1.length ++ ((buildA vs).1.flatMap plainB ++ packB (wid ((buildA vs).1.length - 1)) (buildA vs).2):=rfl
  have hL0:=ways_len hk hv hx 0
  have hL1:=ways_len hk hv hx 1
  have hL2:=ways_len hk hv hx 2
  generalize hW1:ways k vs 1=W1 at *
  generalize hW2:ways k vs 2=W2 at *
  clear hW1 hW2
  generalize cutA vs=C at *
  generalize buildA vs=D at *
  obtain ⟨ms,es⟩:=C
  obtain ⟨ws,at_⟩:=D
  simp only at *
  have hen:es.length≤4096:=by omega
  have hwn:ws.length≤4096:=by omega
  have han:at_.length≤65536:=by omega
  have TP:=Lib.hid (fun (u:World) (a:Option Addr) (cap:Nat) (h:IsL u a at_) => rpacked_any u a cap (wid (ws.length - 1)) (by omega) at_ h han hpf)
  have TW:=Lib.hid (fun u => rwidth_any ((ws.length:Int) - 1) (by omega) u)
  have ewt:((ws.length:Int) - 1).toNat=ws.length - 1:=by omega
  rw [ewt] at TW
  have hws1:wrap64 ((ws.length:Int) - 1)=(ws.length:Int) - 1:=by unfold wrap64;omega
  have TV1:=Lib.hid (fun u => rvarint_any es.length (by omega) u)
  have TV2:=Lib.hid (fun u => rvarint_any ws.length (by omega) u)
  have HA:=Lib.hid ha
  have HV:=Lib.hid hv
  have HRW:=Lib.hid hraw
  have HEL:=Lib.hid hel
  have HML:=Lib.hid hml
  have HWL:=Lib.hid hwl
  have HK:=Lib.hid hk
  have HR1:=Lib.hid hR1
  have HR2:=Lib.hid hR2
  have HL:=Lib.hid (And.intro hL0 (And.intro hL1 hL2))
  have HLN:=Lib.hid hcl
  have HN:=Lib.hid (And.intro hen (And.intro hwn hx))
  have HWS:=Lib.hid hws1
  have h0:Below w.heap.size w ((w.alloc (.cells #[.string ⟨#[]⟩,.string ⟨#[]⟩,.string ⟨#[]⟩] 89)).alloc (.cells #[.string ⟨#[]⟩,.string ⟨#[]⟩,.string ⟨#[]⟩] 89)):=((Below.refl _ _).alloc (Nat.le_refl _) _).alloc (by simp) _
  have h1:OutAt ((w.alloc (.cells #[.string ⟨#[]⟩,.string ⟨#[]⟩,.string ⟨#[]⟩] 89)).alloc (.cells #[.string ⟨#[]⟩,.string ⟨#[]⟩,.string ⟨#[]⟩] 89)) w.heap.size ⟨#[]⟩ ⟨#[]⟩ ⟨#[]⟩:=⟨by rw [Below.heap_alloc _ _ w.heap.size (by simp)];exact heap_alloc_new w _⟩
  have h2:OutAt ((w.alloc (.cells #[.string ⟨#[]⟩,.string ⟨#[]⟩,.string ⟨#[]⟩] 89)).alloc (.cells #[.string ⟨#[]⟩,.string ⟨#[]⟩,.string ⟨#[]⟩] 89)) (w.heap.size + 1) ⟨#[]⟩ ⟨#[]⟩ ⟨#[]⟩:=⟨by
    have:=heap_alloc_new (w.alloc (.cells #[.string ⟨#[]⟩,.string ⟨#[]⟩,.string ⟨#[]⟩] 89)) (.cells #[.string ⟨#[]⟩,.string ⟨#[]⟩,.string ⟨#[]⟩] 89)
    rw [show (w.alloc (.cells #[.string ⟨#[]⟩,.string ⟨#[]⟩,.string ⟨#[]⟩] 89)).heap.size=w.heap.size + 1 by simp] at this
    exact this⟩
  have H0:Hid (WyAt w ((w.alloc (.cells #[.string ⟨#[]⟩,.string ⟨#[]⟩,.string ⟨#[]⟩] 89)).alloc (.cells #[.string ⟨#[]⟩,.string ⟨#[]⟩,.string ⟨#[]⟩] 89)) w.heap.size (w.heap.size + 1) ⟨#[]⟩ ⟨#[]⟩ ⟨#[]⟩):=⟨h2,h1,h0⟩
  clear h0 h1 h2 hcd hel hml hcl hce hbd hwl hpf hbl hbe hw1 hR1 hR2 hL0 hL1 hL2 ha hv hraw hpl hen hwn han ewt hws1 hx
  obtain ⟨r,hr⟩:∃ r,r=w.heap.size:=⟨_,rfl⟩
  have HG:Hid (w.heap.size≤r + 1∧r < r + 1):=⟨by omega,by omega⟩
  have HS0:Hid (textB (wayP k vs)=textB (ways k vs 0)):=rfl
  generalize textB (ways k vs 0)=S0 at HS0 ⊢
  obtain ⟨S1,HS1⟩:∃ S1,Hid (textB W1=S1):=⟨_,rfl⟩
  obtain ⟨S2,HS2⟩:∃ S2,Hid (textB W2=S2):=⟨_,rfl⟩
  rw [HS1.out,HS2.out]
  by_cases hk2:k=2
  · subst hk2
    have HFIT:=Lib.hid (bits_fit vs bitV fun v => by unfold bitV;split <;> omega)
    have HS0':Hid (textB (packB 1 (vs.map bitV))=S0):=by unfold Hid;rw [← HS0.out];unfold wayP;rw [if_pos rfl]
    clear HS0
    go_enter Tryz.func51,Tryz.ntmps51
    go_upto_region 4 with fail
    obtain ⟨b,hb⟩:∃ b,b=r + 1:=⟨_,rfl⟩
    have HNB:Hid (¬ r=b):=by unfold Hid;omega
    have HLT:Hid (r < b):=by unfold Hid;omega
    have HBW:Hid (w.heap.size≤b):=by unfold Hid;omega
    have HRB:Hid (¬ b=r):=by unfold Hid;omega
    have HRW2:Hid (w.heap.size≤r):=by unfold Hid;omega
    rw [← hr] at H0 ⊢
    rw [← hb] at H0 ⊢
    have HBE:=Lib.hid (show w.heap.size + 1=b by omega)
    clear hr hb HG
    generalize ((w.alloc (.cells #[.string ⟨#[]⟩,.string ⟨#[]⟩,.string ⟨#[]⟩] 89)).alloc (.cells #[.string ⟨#[]⟩,.string ⟨#[]⟩,.string ⟨#[]⟩] 89))=w1 at *
    have HB0:Hid (BitsAt w w1 r b [] none 0):=⟨H0.out,OwnI.nil _ _⟩
    clear H0
    go_wp2
    go_loopw [6,7,8] (fun tv iv _ wr => ∃ (n:Nat) (ai:Option Addr) (ci:Nat) (xs:List Int),n≤vs.length∧iv=.int .i64 n∧tv=.slice ai xs.length ci∧Hid ((vs.take n).map bitV=xs)∧Hid (BitsAt w wr r b xs ai ci)) (fun _ iv _ _ => vs.length - (intOf iv).toNat)
    case atStart => exact ⟨0,none,0,[],Nat.zero_le _,rfl,rfl,rfl,HB0⟩
    case round =>
      obtain ⟨n,ai,ci,xs,hn,rfl,rfl,HX,HC⟩:=hrel
      by_cases c:n < vs.length
      · rcases HA.out with h | ⟨bb,off,rfl,hcells⟩
        · subst h;simp at c
        obtain ⟨v0,v1,v2,v3⟩:=(hcells n c).below HC.out.way.below
        have HE:Hid ((vs.take (n + 1)).map bitV=xs ++ [bitV vs[n]]):=by
          unfold Hid
          rw [← List.take_append_getElem c,List.map_append,HX.out]
          simp
        have hxl:xs.length≤17592186044000:=by rw [← HX.out,List.length_map,List.length_take];have:=HN.out;omega
        have hnl:vs.length≤4096:=HN.out.2.2
        have hci:(n:Int) < (vs.length:Int):=by omega
        clear hcells
        generalize vs[n]=v at *
        cases hvb:v.b
        · have hz:bitV v=0:=by simp [bitV,hvb]
          rw [hz] at HE
          rw [hvb] at v2
          go_wp2_with (at_builtin;refine wp_num HC.out.nums (by have:=HC.out.way.out.lt;omega) hxl rfl _ _ rfl 0 rfl rfl ?_;intro ai' ci' u4 ho hf;have HFIN:=Lib.hid (HC.out.num ho hf HLT.out HBW.out);clear ho hf)
          go_roundw
          case rel => exact ⟨n + 1,ai',ci',_,c,by go_num,by simp,HE,HFIN⟩
          case measure => simp [intOf];omega
        · have hz:bitV v=1:=by simp [bitV,hvb]
          rw [hz] at HE
          rw [hvb] at v2
          go_wp2_with (at_builtin;refine wp_num HC.out.nums (by have:=HC.out.way.out.lt;omega) hxl rfl _ _ rfl 1 rfl rfl ?_;intro ai' ci' u4 ho hf;have HFIN:=Lib.hid (HC.out.num ho hf HLT.out HBW.out);clear ho hf)
          go_roundw
          case rel => exact ⟨n + 1,ai',ci',_,c,by go_num,by simp,HE,HFIN⟩
          case measure => simp [intOf];omega
      · obtain rfl:n=vs.length:=by omega
        have hx1:xs=vs.map bitV:=by rw [← HX.out,List.take_length]
        have hxe:xs.length=vs.length:=by rw [hx1,List.length_map]
        have TPB:=Lib.hid (fun (u:World) (a:Option Addr) (cap:Nat) (h:IsL u a xs) => rpacked_any u a cap 1 (by omega) xs h (by have:=HN.out;omega) (by rw [hx1];exact HFIT.out))
        have HW0:Hid (textB (packB 1 xs)=S0):=by unfold Hid;rw [hx1];exact HS0'.out
        have hLi:=HC.out.nums.isL
        have HLI:=Lib.hid hLi
        clear hLi hx1 hxe c HX HFIT HS0' HB0
        generalize packB 1 xs=X at *
        go_upto_region 12 with (go_at_call 52;refine (TPB.out _ _ _ HLI.out).mono ?_;rintro e w5 ⟨rfl,hb5⟩;have hc5:=HC.out.way.more hb5;have HC5:=Lib.hid hc5;obtain ⟨⟨p0,p1,p2⟩,s0,s1,s2⟩:=hc5.out.at;clear hb5 hc5)
        have HC6:=Lib.hid (HC5.out.set0 (textB X) HNB.out HBW.out)
        go_upto_region 17 with fail
        clear HC HC5 p0 p1 p2 s0 s1 s2 TPB HLI
        have HC:=HC6
        clear HC6
        generalize w5.setCell ⟨b,0,none⟩ (.string (textB X))=wq at *
        have hA1:=HA.out.below HC.out.below
        go_upto_region 18 with (go_at_call 86;refine (TC.out _ hA1).mono ?_;rintro e w2 ⟨am,cm,ae,ce,rfl,hm2,he2,hb2⟩;have HC2:=Lib.hid (HC.out.more hb2);have HRI:Hid (RunsIn wq.heap.size w2 am ae cm ce ms es):=⟨hm2,he2⟩;have HBB:Hid (b < wq.heap.size):=HC.out.out.lt;clear hm2 he2 hb2)
        clear hA1
        generalize wq.heap.size=B at *
        obtain ⟨⟨o0,o1,o2⟩,z0,z1,z2⟩:=HC2.out.out.at
        go_upto_region 19 with (go_at_call 53;refine (TV1.out _).mono ?_;rintro e w3 ⟨rfl,hb3⟩;have hc3:=HC2.out.more hb3;have HC3:=Lib.hid hc3;have HR3:=Lib.hid (HRI.out.more hb3);obtain ⟨⟨p0,p1,p2⟩,s0,s1,s2⟩:=hc3.out.at;clear hb3 hc3)
        have HC4:=Lib.hid (HC3.out.set1 (textB (vp es.length)) HNB.out HBW.out)
        have HR4:=Lib.hid (HR3.out.cell (j:=1) HBB.out (.string (textB (vp es.length))))
        clear o0 o1 o2 z0 z1 z2 p0 p1 p2 s0 s1 s2 HC3 HR3 HC2 HRI HC TC TV1
        generalize w3.setCell ⟨b,1,none⟩ (.string (textB (vp es.length)))=w4 at *
        go_wp2
        go_loopw [14] (fun iv wr => ∃ (n:Nat) (Y:List UInt8),n≤es.length∧iv=.int .i64 n∧Hid (vp es.length ++ runsB ((ms.zip es).take n)=Y)∧Hid (WyAt w wr r b (textB X) (textB Y) ⟨#[]⟩)∧Hid (RunsIn B wr am ae cm ce ms es)) (fun iv _ => es.length - (intOf iv).toNat)
        case atStart => exact ⟨0,vp es.length,Nat.zero_le _,rfl,by simp [Hid,runsB],HC4,HR4⟩
        case round =>
          obtain ⟨n,Y,hn,rfl,HY,HC,HRN⟩:=hrel
          by_cases c:n < es.length
          · have cm':n < ms.length:=by have:=HLN.out;omega
            obtain ⟨ge,rfl⟩:=HRN.out.vals.there (by intro h;rw [h] at c;simp at c)
            obtain ⟨gm,rfl⟩:=HRN.out.nums.there (by intro h;rw [h] at cm';simp at cm')
            obtain ⟨v0,v1,v2,v3⟩:=HRN.out.vals.get n c
            obtain ⟨m0,_⟩:=HRN.out.nums.get n cm'
            have hvk:=valk_raw HK.out (HEL.out es[n] (List.getElem_mem _))
            have hmm:=HML.out n cm'
            obtain ⟨m,hm⟩:∃ m:Nat,ms[n]=(m:Int):=⟨ms[n].toNat,by omega⟩
            have HE:Hid (textB (vp es.length ++ runsB ((ms.zip es).take (n + 1)))=textB Y ++ textB (vp m) ++ textB (plainB es[n])):=by
              unfold Hid
              rw [runs_take2 ms es n cm' c,hm,Int.toNat_natCast,← List.append_assoc,← List.append_assoc,HY.out,textB_append,textB_append]
            have hYl:Y.length≤500000:=by
              rw [← HY.out,List.length_append]
              have h1:=vp_le es.length
              have h2:=runsB_len (rs:=(ms.zip es).take n) (c:=74) fun x hx => (plainB_len (HEL.out _ (List.of_mem_zip (a:=x.1) (b:=x.2) (List.mem_of_mem_take hx)).2) HK.out).2
              have h3:((ms.zip es).take n).length≤4096:=by rw [List.length_take,List.length_zip];have:=HN.out;omega
              have h4:=Nat.mul_le_mul_right (10 + 74) h3
              omega
            have hpl:=rawB_len hvk HK.out
            have hvm:=vp_le m
            rw [hm] at m0 hmm
            have T1:=Lib.hid (fun u => rvarint_any m (by omega) u)
            have T2:=Lib.hid (fun u => refplain_any es[n] (by rw [hvk.kind];exact HK.out) hvk.lo hvk.hi hvk.big u)
            have hl1:¬ 9223372036854775807 < (textB Y).size + (textB (vp m)).size:=by rw [textB_size,textB_size];omega
            have hl2:¬ 9223372036854775807 < (textB Y).size + (textB (vp m)).size + (textB (plainB es[n])).size:=by rw [textB_size,textB_size,textB_size];omega
            have hl3:¬ 9223372036854775807 < (textB Y ++ textB (vp m)).size + (textB (plainB es[n])).size:=by rw [ByteArray.size_append];exact hl2
            clear hvk hYl hpl hvm hm hmm
            generalize textB (plainB es[n])=y at *
            generalize textB (vp m)=x at *
            generalize es[n]=v at *
            have hnl:es.length≤4096:=HN.out.1
            have hci:(n:Int) < (es.length:Int):=by omega
            have hcm:(n:Int) < (ms.length:Int):=by omega
            obtain ⟨⟨o0,o1,o2⟩,z0,z1,z2⟩:=HC.out.out.at
            have HBE1:=Lib.hid (World.block_lt_of_cell? wr ⟨ge,n * 4,none⟩ v0)
            have HBM1:=Lib.hid (World.block_lt_of_cell? wr ⟨gm,n,none⟩ m0)
            go_upto_region 22 with fail
            go_region_law (first
              | (have hx:=HC5.out;clear hx;go_simp;go_at_call 85;refine (T2.out w5).mono ?_;rintro e w6 ⟨rfl,hb6⟩
                 have k0:=(hb6.cell (p:=⟨ge,n * 4,none⟩) (Nat.lt_of_lt_of_le HBE1.out HS5.out)).trans q0;have k1:=(hb6.cell (p:=⟨ge,n * 4 + 1,none⟩) (Nat.lt_of_lt_of_le HBE1.out HS5.out)).trans q1;have k2:=(hb6.cell (p:=⟨ge,n * 4 + 2,none⟩) (Nat.lt_of_lt_of_le HBE1.out HS5.out)).trans q2;have k3:=(hb6.cell (p:=⟨ge,n * 4 + 3,none⟩) (Nat.lt_of_lt_of_le HBE1.out HS5.out)).trans q3;have k4:=(hb6.cell (p:=⟨gm,n,none⟩) (Nat.lt_of_lt_of_le HBM1.out HS5.out)).trans q4
                 have hc6:=HC5.out.more hb6;have HC6:=Lib.hid hc6;have HR6:=Lib.hid (HR5.out.more hb6);obtain ⟨⟨u0,u1,u2⟩,t0,t1,t2⟩:=hc6.out.at;clear hb6 hc6)
              | (go_simp;go_at_call 53;refine (T1.out wr.drew).mono ?_;rintro e w5 ⟨rfl,hb5⟩;have hb5':Below wr.heap.size wr w5:=⟨hb5.os,hb5.tape,hb5.output,hb5.size,hb5.block⟩
                 have q0:=(hb5'.cell (p:=⟨ge,n * 4,none⟩) HBE1.out).trans v0;have q1:=(hb5'.cell (p:=⟨ge,n * 4 + 1,none⟩) HBE1.out).trans v1;have q2:=(hb5'.cell (p:=⟨ge,n * 4 + 2,none⟩) HBE1.out).trans v2;have q3:=(hb5'.cell (p:=⟨ge,n * 4 + 3,none⟩) HBE1.out).trans v3;have q4:=(hb5'.cell (p:=⟨gm,n,none⟩) HBM1.out).trans m0
                 have hc5:=HC.out.more hb5';have HC5:=Lib.hid hc5;have HR5:=Lib.hid (HRN.out.more hb5');have HS5:=Lib.hid hb5'.size;obtain ⟨⟨p0,p1,p2⟩,s0,s1,s2⟩:=hc5.out.at;clear hb5 hb5' hc5))
            all_goals (
              have HFIN:=Lib.hid (HC6.out.set1 (textB Y ++ x ++ y) HNB.out HBW.out)
              have HRF:=Lib.hid (HR6.out.cell (j:=1) HBB.out (.string (textB Y ++ x ++ y)))
              clear v0 v1 v2 v3 m0 o0 o1 o2 z0 z1 z2 q0 q1 q2 q3 q4 k0 k1 k2 k3 k4 u0 u1 u2 t0 t1 t2 p0 p1 p2 s0 s1 s2
              generalize w6.setCell ⟨b,1,none⟩ (.string (textB Y ++ x ++ y))=w7 at *
              go_wp2
              go_roundw
              case rel => exact ⟨n + 1,_,c,by go_num,rfl,by unfold Hid;rw [HE.out];exact HFIN.out,HRF⟩
              case measure => simp [intOf];omega)
          · obtain rfl:n=es.length:=by omega
            have HY1:Hid (textB Y=S1):=by
              unfold Hid;rw [← HS1.out,← HY.out,HR1.out,List.take_of_length_le (by rw [List.length_zip];have:=HLN.out;omega)]
            clear c
            have hA1:=HA.out.below HC.out.below
            go_upto_region 24 with (go_at_call 87;refine (TB.out _ hA1).mono ?_;rintro e w2 ⟨aw,cw,ai,ci,rfl,he2,hm2,hb2⟩;have HC2:=Lib.hid (HC.out.more hb2);have HRI:Hid (RunsIn wr.heap.size w2 ai aw ci cw at_ ws):=⟨hm2,he2⟩;have HBB2:Hid (b < wr.heap.size):=HC.out.out.lt;clear hm2 he2 hb2)
            clear hA1 HRN
            generalize wr.heap.size=B2 at *
            obtain ⟨⟨o0,o1,o2⟩,z0,z1,z2⟩:=HC2.out.out.at
            go_upto_region 25 with (go_at_call 53;refine (TV2.out _).mono ?_;rintro e w3 ⟨rfl,hb3⟩;have hc3:=HC2.out.more hb3;have HC3:=Lib.hid hc3;have HR3:=Lib.hid (HRI.out.more hb3);obtain ⟨⟨p0,p1,p2⟩,s0,s1,s2⟩:=hc3.out.at;clear hb3 hc3)
            have HC4:=Lib.hid (HC3.out.set2 (textB (vp ws.length)) HNB.out HBW.out)
            have HR4:=Lib.hid (HR3.out.cell (j:=2) HBB2.out (.string (textB (vp ws.length))))
            clear o0 o1 o2 z0 z1 z2 p0 p1 p2 s0 s1 s2 HC3 HR3 HC2 HRI HC TB TV2
            generalize w3.setCell ⟨b,2,none⟩ (.string (textB (vp ws.length)))=w4 at *
            go_wp2
            go_loopw [17] (fun iv wr => ∃ (n:Nat) (Z:List UInt8),n≤ws.length∧iv=.int .i64 n∧Hid (vp ws.length ++ (ws.take n).flatMap plainB=Z)∧Hid (WyAt w wr r b (textB X) (textB Y) (textB Z))∧Hid (RunsIn B2 wr ai aw ci cw at_ ws)) (fun iv _ => ws.length - (intOf iv).toNat)
            case atStart => exact ⟨0,vp ws.length,Nat.zero_le _,rfl,by simp [Hid],HC4,HR4⟩
            case round =>
              obtain ⟨n,Z,hn,rfl,HZ,HC,HRN⟩:=hrel
              by_cases c:n < ws.length
              · obtain ⟨ge,rfl⟩:=HRN.out.vals.there (by intro h;rw [h] at c;simp at c)
                obtain ⟨v0,v1,v2,v3⟩:=HRN.out.vals.get n c
                have hvk:=valk_raw HK.out (HWL.out ws[n] (List.getElem_mem _))
                have HE:Hid (textB (vp ws.length ++ (ws.take (n + 1)).flatMap plainB)=textB Z ++ textB (plainB ws[n])):=by
                  unfold Hid
                  rw [flat_take2 ws plainB n c,← List.append_assoc,HZ.out,textB_append]
                have hZl:Z.length≤400000:=by
                  rw [← HZ.out,List.length_append]
                  have h1:=vp_le ws.length
                  have:=flat_len (vs:=ws.take n) (f:=plainB) (c:=74) fun v h => (plainB_len (HWL.out v (List.mem_of_mem_take h)) HK.out).2
                  rw [List.length_take] at this
                  have h2:min n ws.length * 74≤4096 * 74:=Nat.mul_le_mul_right 74 (by have:=HN.out;omega)
                  omega
                have hpl:=rawB_len hvk HK.out
                have T1:=Lib.hid (fun u => refplain_any ws[n] (by rw [hvk.kind];exact HK.out) hvk.lo hvk.hi hvk.big u)
                have hl:¬ 9223372036854775807 < (textB Z).size + (textB (plainB ws[n])).size:=by rw [textB_size,textB_size];omega
                clear hvk hZl hpl
                generalize textB (plainB ws[n])=y at *
                generalize ws[n]=v at *
                have hnl:ws.length≤4096:=HN.out.2.1
                have hci:(n:Int) < (ws.length:Int):=by omega
                obtain ⟨⟨o0,o1,o2⟩,z0,z1,z2⟩:=HC.out.out.at
                have HBL:=Lib.hid (World.block_lt_of_cell? wr ⟨ge,n * 4,none⟩ v0)
                go_upto_region 28 with fail
                go_region_law (first
                  | (go_simp;go_at_call 85;refine (T1.out wr.drew).mono ?_;rintro e w5 ⟨rfl,hb5⟩;have hb5':Below wr.heap.size wr w5:=⟨hb5.os,hb5.tape,hb5.output,hb5.size,hb5.block⟩;have q0:=(hb5'.cell (p:=⟨ge,n * 4,none⟩) HBL.out).trans v0;have q1:=(hb5'.cell (p:=⟨ge,n * 4 + 1,none⟩) HBL.out).trans v1;have q2:=(hb5'.cell (p:=⟨ge,n * 4 + 2,none⟩) HBL.out).trans v2;have q3:=(hb5'.cell (p:=⟨ge,n * 4 + 3,none⟩) HBL.out).trans v3;have hc5:=HC.out.more hb5';have HC5:=Lib.hid hc5;have HR5:=Lib.hid (HRN.out.more hb5');obtain ⟨⟨p0,p1,p2⟩,s0,s1,s2⟩:=hc5.out.at;clear hb5 hb5' hc5))
                all_goals (
                  have HFIN:=Lib.hid (HC5.out.set2 (textB Z ++ y) HNB.out HBW.out)
                  have HRF:=Lib.hid (HR5.out.cell (j:=2) HBB2.out (.string (textB Z ++ y)))
                  clear v0 v1 v2 v3 o0 o1 o2 z0 z1 z2 q0 q1 q2 q3 p0 p1 p2 s0 s1 s2
                  generalize w5.setCell ⟨b,2,none⟩ (.string (textB Z ++ y))=w7 at *
                  go_wp2
                  go_roundw
                  case rel => exact ⟨n + 1,_,c,by go_num,rfl,by unfold Hid;rw [HE.out];exact HFIN.out,HRF⟩
                  case measure => simp [intOf];omega)
              · obtain rfl:n=ws.length:=by omega
                have HZ1:Hid (textB Z ++ textB (packB (wid (ws.length - 1)) at_)=S2):=by
                  unfold Hid;rw [← HS2.out,← HZ.out,List.take_length,HR2.out,← textB_append,List.append_assoc]
                have hzl:¬ 9223372036854775807 < (textB Z).size + (textB (packB (wid (ws.length - 1)) at_)).size:=by
                  have:=congrArg ByteArray.size HZ1.out
                  rw [← HS2.out,ByteArray.size_append,textB_size,textB_size,textB_size] at this
                  have:=HL.out
                  rw [textB_size,textB_size];omega
                have hws1:=HWS.out
                have hLi:=HRN.out.nums.isL
                have HLI:=Lib.hid hLi
                clear hLi c HRN
                generalize textB (packB (wid (ws.length - 1)) at_)=y at *
                generalize wid (ws.length - 1)=wd at *
                go_upto_region 30 with (first
                  | (go_at_call 88;refine (TW.out _).mono ?_;rintro e w5 ⟨rfl,rfl⟩)
                  | (go_at_call 52;refine (TP.out _ _ _ HLI.out).mono ?_;rintro e w6 ⟨rfl,hb6⟩;have hc6:=HC.out.more hb6;have HC6:=Lib.hid hc6;obtain ⟨⟨p0,p1,p2⟩,s0,s1,s2⟩:=hc6.out.at;clear hb6 hc6))
                clear hws1
                have hc7:=HC6.out.set2 (textB Z ++ y) HNB.out HBW.out
                go_upto_region 31 with fail
                have HC7:=Lib.hid hc7
                clear hc7 p0 p1 p2 s0 s1 s2 HC6
                generalize w6.setCell ⟨b,2,none⟩ (.string (textB Z ++ y))=w7 at *
                obtain ⟨⟨p0,p1,p2⟩,s0,s1,s2⟩:=HC7.out.out.at
                obtain ⟨⟨r0,r1,r2⟩,t0,t1,t2⟩:=HC7.out.res.at
                have hrb:=HRB.out
                have HX2:=HW0.out
                have HY2:=HY1.out
                have HZ2:=HZ1.out
                clear HS1 HS2 HW0 HY1 HZ1
                rw [HX2,HY2] at HC7
                rw [HX2] at p0
                rw [HY2] at p1
                rw [HZ2] at HC7 p2
                clear HX2 HY2 HZ2
                obtain ⟨x0,hx0⟩:∃ x0,Hid (x0=S0):=⟨_,rfl⟩
                obtain ⟨x1,hx1⟩:∃ x1,Hid (x1=S1):=⟨_,rfl⟩
                obtain ⟨x2,hx2⟩:∃ x2,Hid (x2=S2):=⟨_,rfl⟩
                rw [← hx0.out] at HC7 p0
                rw [← hx1.out] at HC7 p1
                rw [← hx2.out] at HC7 p2
                go_wp2
                have hb9:=((HC7.out.below.setCell (p:=⟨r,0,none⟩) (B:=w.heap.size) HRW2.out (.string x0)).setCell (p:=⟨r,1,none⟩) HRW2.out (.string x1)).setCell (p:=⟨r,2,none⟩) HRW2.out (.string x2)
                have ho9:=((HC7.out.res.set0 x0).set1 x1).set2 x2
                generalize ((w7.setCell ⟨r,0,none⟩ (.string x0)).setCell ⟨r,1,none⟩ (.string x1)).setCell ⟨r,2,none⟩ (.string x2)=w9 at *
                clear p0 p1 p2 s0 s1 s2 r0 r1 r2 t0 t1 t2
                obtain ⟨⟨c0,c1,c2⟩,_⟩:=ho9.at
                try simp only [Exit.inBlock,Exit.then]
                refine bodyPost_ret (v:=.agg #[.string x0,.string x1,.string x2]) (by simp [results,Tryz.results51,go_sem,c0,c1,c2]) rfl ?_
                exact ⟨by rw [hx0.out,hx1.out,hx2.out],hb9⟩
  · have hne2:(k == 2)=false:=by simpa using hk2
    go_enter Tryz.func51,Tryz.ntmps51
    go_upto_region 13 with fail
    obtain ⟨b,hb⟩:∃ b,b=r + 1:=⟨_,rfl⟩
    have HNB:Hid (¬ r=b):=by unfold Hid;omega
    have HBW:Hid (w.heap.size≤b):=by unfold Hid;omega
    have HRB:Hid (¬ b=r):=by unfold Hid;omega
    have HRW2:Hid (w.heap.size≤r):=by unfold Hid;omega
    rw [← hr] at H0 ⊢
    rw [← hb] at H0 ⊢
    have HBE:=Lib.hid (show w.heap.size + 1=b by omega)
    clear hr hb HG
    generalize ((w.alloc (.cells #[.string ⟨#[]⟩,.string ⟨#[]⟩,.string ⟨#[]⟩] 89)).alloc (.cells #[.string ⟨#[]⟩,.string ⟨#[]⟩,.string ⟨#[]⟩] 89))=w1 at *
    go_wp2
    go_loopw [11] (fun iv wr => ∃ (n:Nat) (X:List UInt8),n≤vs.length∧iv=.int .i64 n∧Hid ((vs.take n).flatMap plainB=X)∧Hid (WyAt w wr r b (textB X) ⟨#[]⟩ ⟨#[]⟩)) (fun iv _ => vs.length - (intOf iv).toNat)
    case atStart => exact ⟨0,[],Nat.zero_le _,rfl,rfl,H0⟩
    case round =>
      obtain ⟨n,X,hn,rfl,HX,HC⟩:=hrel
      by_cases c:n < vs.length
      · rcases HA.out with h | ⟨bb,off,rfl,hcells⟩
        · subst h;simp at c
        have hbb:=(hcells n c).lt
        have hnb1:¬ bb=b:=by have:=HBW.out;omega
        have hnb2:¬ b=bb:=by omega
        obtain ⟨v0,v1,v2,v3⟩:=(hcells n c).below HC.out.below
        have hvk:=HRW.out vs[n] (List.getElem_mem _)
        have HE:Hid (textB ((vs.take (n + 1)).flatMap plainB)=textB X ++ textB (plainB vs[n])):=by
          unfold Hid
          rw [flat_take2 vs plainB n c,HX.out,textB_append]
        have hXl:X.length≤400000:=by
          rw [← HX.out]
          have:=flat_len (vs:=vs.take n) (f:=plainB) (c:=74) fun v h => rawB_len (HRW.out v (List.mem_of_mem_take h)) HK.out
          rw [List.length_take] at this
          have h2:min n vs.length * 74≤4096 * 74:=Nat.mul_le_mul_right 74 (by have:=HN.out;omega)
          omega
        have hpl:=rawB_len hvk HK.out
        have T1:=Lib.hid (fun u => refplain_any vs[n] (by rw [hvk.kind];exact HK.out) hvk.lo hvk.hi hvk.big u)
        have hl:¬ 9223372036854775807 < (textB X).size + (textB (plainB vs[n])).size:=by rw [textB_size,textB_size];omega
        clear hcells hvk hXl hpl
        generalize textB (plainB vs[n])=y at *
        generalize vs[n]=v at *
        have hnl:vs.length≤4096:=HN.out.2.2
        have hci:(n:Int) < (vs.length:Int):=by omega
        obtain ⟨⟨o0,o1,o2⟩,z0,z1,z2⟩:=HC.out.out.at
        have HBL:=Lib.hid (World.block_lt_of_cell? wr ⟨bb,off + n * 4,none⟩ v0)
        go_upto_region 16 with fail
        go_region_law (first
          | (go_simp;go_at_call 85;refine (T1.out wr.drew).mono ?_;rintro e w5 ⟨rfl,hb5⟩;have hb5':Below wr.heap.size wr w5:=⟨hb5.os,hb5.tape,hb5.output,hb5.size,hb5.block⟩;have q0:=(hb5'.cell (p:=⟨bb,off + n * 4,none⟩) HBL.out).trans v0;have q1:=(hb5'.cell (p:=⟨bb,off + n * 4 + 1,none⟩) HBL.out).trans v1;have q2:=(hb5'.cell (p:=⟨bb,off + n * 4 + 2,none⟩) HBL.out).trans v2;have q3:=(hb5'.cell (p:=⟨bb,off + n * 4 + 3,none⟩) HBL.out).trans v3;have hc5:=HC.out.more hb5';have HC5:=Lib.hid hc5;obtain ⟨⟨p0,p1,p2⟩,s0,s1,s2⟩:=hc5.out.at;clear hb5 hb5' hc5))
        all_goals (
          have HFIN:=Lib.hid (HC5.out.set0 (textB X ++ y) HNB.out HBW.out)
          go_wp2
          go_roundw
          case rel => exact ⟨n + 1,_,c,by go_num,rfl,by unfold Hid;rw [HE.out];exact HFIN.out⟩
          case measure => simp [intOf];omega)
      · obtain rfl:n=vs.length:=by omega
        have HW0:Hid (textB X=S0):=by
          unfold Hid;rw [← HS0.out,← HX.out,List.take_length];unfold wayP;rw [if_neg hk2]
        clear HS0
        clear c
        have hA1:=HA.out.below HC.out.below
        go_upto_region 18 with (go_at_call 86;refine (TC.out _ hA1).mono ?_;rintro e w2 ⟨am,cm,ae,ce,rfl,hm2,he2,hb2⟩;have HC2:=Lib.hid (HC.out.more hb2);have HRI:Hid (RunsIn wr.heap.size w2 am ae cm ce ms es):=⟨hm2,he2⟩;have HBB:Hid (b < wr.heap.size):=HC.out.out.lt;clear hm2 he2 hb2)
        clear hA1
        generalize wr.heap.size=B at *
        obtain ⟨⟨o0,o1,o2⟩,z0,z1,z2⟩:=HC2.out.out.at
        go_upto_region 19 with (go_at_call 53;refine (TV1.out _).mono ?_;rintro e w3 ⟨rfl,hb3⟩;have hc3:=HC2.out.more hb3;have HC3:=Lib.hid hc3;have HR3:=Lib.hid (HRI.out.more hb3);obtain ⟨⟨p0,p1,p2⟩,s0,s1,s2⟩:=hc3.out.at;clear hb3 hc3)
        have HC4:=Lib.hid (HC3.out.set1 (textB (vp es.length)) HNB.out HBW.out)
        have HR4:=Lib.hid (HR3.out.cell (j:=1) HBB.out (.string (textB (vp es.length))))
        clear o0 o1 o2 z0 z1 z2 p0 p1 p2 s0 s1 s2 HC3 HR3 HC2 HRI HC TC TV1
        generalize w3.setCell ⟨b,1,none⟩ (.string (textB (vp es.length)))=w4 at *
        go_wp2
        go_loopw [14] (fun iv wr => ∃ (n:Nat) (Y:List UInt8),n≤es.length∧iv=.int .i64 n∧Hid (vp es.length ++ runsB ((ms.zip es).take n)=Y)∧Hid (WyAt w wr r b (textB X) (textB Y) ⟨#[]⟩)∧Hid (RunsIn B wr am ae cm ce ms es)) (fun iv _ => es.length - (intOf iv).toNat)
        case atStart => exact ⟨0,vp es.length,Nat.zero_le _,rfl,by simp [Hid,runsB],HC4,HR4⟩
        case round =>
          obtain ⟨n,Y,hn,rfl,HY,HC,HRN⟩:=hrel
          by_cases c:n < es.length
          · have cm':n < ms.length:=by have:=HLN.out;omega
            obtain ⟨ge,rfl⟩:=HRN.out.vals.there (by intro h;rw [h] at c;simp at c)
            obtain ⟨gm,rfl⟩:=HRN.out.nums.there (by intro h;rw [h] at cm';simp at cm')
            obtain ⟨v0,v1,v2,v3⟩:=HRN.out.vals.get n c
            obtain ⟨m0,_⟩:=HRN.out.nums.get n cm'
            have hvk:=valk_raw HK.out (HEL.out es[n] (List.getElem_mem _))
            have hmm:=HML.out n cm'
            obtain ⟨m,hm⟩:∃ m:Nat,ms[n]=(m:Int):=⟨ms[n].toNat,by omega⟩
            have HE:Hid (textB (vp es.length ++ runsB ((ms.zip es).take (n + 1)))=textB Y ++ textB (vp m) ++ textB (plainB es[n])):=by
              unfold Hid
              rw [runs_take2 ms es n cm' c,hm,Int.toNat_natCast,← List.append_assoc,← List.append_assoc,HY.out,textB_append,textB_append]
            have hYl:Y.length≤500000:=by
              rw [← HY.out,List.length_append]
              have h1:=vp_le es.length
              have h2:=runsB_len (rs:=(ms.zip es).take n) (c:=74) fun x hx => (plainB_len (HEL.out _ (List.of_mem_zip (a:=x.1) (b:=x.2) (List.mem_of_mem_take hx)).2) HK.out).2
              have h3:((ms.zip es).take n).length≤4096:=by rw [List.length_take,List.length_zip];have:=HN.out;omega
              have h4:=Nat.mul_le_mul_right (10 + 74) h3
              omega
            have hpl:=rawB_len hvk HK.out
            have hvm:=vp_le m
            rw [hm] at m0 hmm
            have T1:=Lib.hid (fun u => rvarint_any m (by omega) u)
            have T2:=Lib.hid (fun u => refplain_any es[n] (by rw [hvk.kind];exact HK.out) hvk.lo hvk.hi hvk.big u)
            have hl1:¬ 9223372036854775807 < (textB Y).size + (textB (vp m)).size:=by rw [textB_size,textB_size];omega
            have hl2:¬ 9223372036854775807 < (textB Y).size + (textB (vp m)).size + (textB (plainB es[n])).size:=by rw [textB_size,textB_size,textB_size];omega
            have hl3:¬ 9223372036854775807 < (textB Y ++ textB (vp m)).size + (textB (plainB es[n])).size:=by rw [ByteArray.size_append];exact hl2
            clear hvk hYl hpl hvm hm hmm
            generalize textB (plainB es[n])=y at *
            generalize textB (vp m)=x at *
            generalize es[n]=v at *
            have hnl:es.length≤4096:=HN.out.1
            have hci:(n:Int) < (es.length:Int):=by omega
            have hcm:(n:Int) < (ms.length:Int):=by omega
            obtain ⟨⟨o0,o1,o2⟩,z0,z1,z2⟩:=HC.out.out.at
            have HBE1:=Lib.hid (World.block_lt_of_cell? wr ⟨ge,n * 4,none⟩ v0)
            have HBM1:=Lib.hid (World.block_lt_of_cell? wr ⟨gm,n,none⟩ m0)
            go_upto_region 22 with fail
            go_region_law (first
              | (have hx:=HC5.out;clear hx;go_simp;go_at_call 85;refine (T2.out w5).mono ?_;rintro e w6 ⟨rfl,hb6⟩
                 have k0:=(hb6.cell (p:=⟨ge,n * 4,none⟩) (Nat.lt_of_lt_of_le HBE1.out HS5.out)).trans q0;have k1:=(hb6.cell (p:=⟨ge,n * 4 + 1,none⟩) (Nat.lt_of_lt_of_le HBE1.out HS5.out)).trans q1;have k2:=(hb6.cell (p:=⟨ge,n * 4 + 2,none⟩) (Nat.lt_of_lt_of_le HBE1.out HS5.out)).trans q2;have k3:=(hb6.cell (p:=⟨ge,n * 4 + 3,none⟩) (Nat.lt_of_lt_of_le HBE1.out HS5.out)).trans q3;have k4:=(hb6.cell (p:=⟨gm,n,none⟩) (Nat.lt_of_lt_of_le HBM1.out HS5.out)).trans q4
                 have hc6:=HC5.out.more hb6;have HC6:=Lib.hid hc6;have HR6:=Lib.hid (HR5.out.more hb6);obtain ⟨⟨u0,u1,u2⟩,t0,t1,t2⟩:=hc6.out.at;clear hb6 hc6)
              | (go_simp;go_at_call 53;refine (T1.out wr.drew).mono ?_;rintro e w5 ⟨rfl,hb5⟩;have hb5':Below wr.heap.size wr w5:=⟨hb5.os,hb5.tape,hb5.output,hb5.size,hb5.block⟩
                 have q0:=(hb5'.cell (p:=⟨ge,n * 4,none⟩) HBE1.out).trans v0;have q1:=(hb5'.cell (p:=⟨ge,n * 4 + 1,none⟩) HBE1.out).trans v1;have q2:=(hb5'.cell (p:=⟨ge,n * 4 + 2,none⟩) HBE1.out).trans v2;have q3:=(hb5'.cell (p:=⟨ge,n * 4 + 3,none⟩) HBE1.out).trans v3;have q4:=(hb5'.cell (p:=⟨gm,n,none⟩) HBM1.out).trans m0
                 have hc5:=HC.out.more hb5';have HC5:=Lib.hid hc5;have HR5:=Lib.hid (HRN.out.more hb5');have HS5:=Lib.hid hb5'.size;obtain ⟨⟨p0,p1,p2⟩,s0,s1,s2⟩:=hc5.out.at;clear hb5 hb5' hc5))
            all_goals (
              have HFIN:=Lib.hid (HC6.out.set1 (textB Y ++ x ++ y) HNB.out HBW.out)
              have HRF:=Lib.hid (HR6.out.cell (j:=1) HBB.out (.string (textB Y ++ x ++ y)))
              clear v0 v1 v2 v3 m0 o0 o1 o2 z0 z1 z2 q0 q1 q2 q3 q4 k0 k1 k2 k3 k4 u0 u1 u2 t0 t1 t2 p0 p1 p2 s0 s1 s2
              generalize w6.setCell ⟨b,1,none⟩ (.string (textB Y ++ x ++ y))=w7 at *
              go_wp2
              go_roundw
              case rel => exact ⟨n + 1,_,c,by go_num,rfl,by unfold Hid;rw [HE.out];exact HFIN.out,HRF⟩
              case measure => simp [intOf];omega)
          · obtain rfl:n=es.length:=by omega
            have HY1:Hid (textB Y=S1):=by
              unfold Hid;rw [← HS1.out,← HY.out,HR1.out,List.take_of_length_le (by rw [List.length_zip];have:=HLN.out;omega)]
            clear c
            have hA1:=HA.out.below HC.out.below
            go_upto_region 24 with (go_at_call 87;refine (TB.out _ hA1).mono ?_;rintro e w2 ⟨aw,cw,ai,ci,rfl,he2,hm2,hb2⟩;have HC2:=Lib.hid (HC.out.more hb2);have HRI:Hid (RunsIn wr.heap.size w2 ai aw ci cw at_ ws):=⟨hm2,he2⟩;have HBB2:Hid (b < wr.heap.size):=HC.out.out.lt;clear hm2 he2 hb2)
            clear hA1 HRN
            generalize wr.heap.size=B2 at *
            obtain ⟨⟨o0,o1,o2⟩,z0,z1,z2⟩:=HC2.out.out.at
            go_upto_region 25 with (go_at_call 53;refine (TV2.out _).mono ?_;rintro e w3 ⟨rfl,hb3⟩;have hc3:=HC2.out.more hb3;have HC3:=Lib.hid hc3;have HR3:=Lib.hid (HRI.out.more hb3);obtain ⟨⟨p0,p1,p2⟩,s0,s1,s2⟩:=hc3.out.at;clear hb3 hc3)
            have HC4:=Lib.hid (HC3.out.set2 (textB (vp ws.length)) HNB.out HBW.out)
            have HR4:=Lib.hid (HR3.out.cell (j:=2) HBB2.out (.string (textB (vp ws.length))))
            clear o0 o1 o2 z0 z1 z2 p0 p1 p2 s0 s1 s2 HC3 HR3 HC2 HRI HC TB TV2
            generalize w3.setCell ⟨b,2,none⟩ (.string (textB (vp ws.length)))=w4 at *
            go_wp2
            go_loopw [17] (fun iv wr => ∃ (n:Nat) (Z:List UInt8),n≤ws.length∧iv=.int .i64 n∧Hid (vp ws.length ++ (ws.take n).flatMap plainB=Z)∧Hid (WyAt w wr r b (textB X) (textB Y) (textB Z))∧Hid (RunsIn B2 wr ai aw ci cw at_ ws)) (fun iv _ => ws.length - (intOf iv).toNat)
            case atStart => exact ⟨0,vp ws.length,Nat.zero_le _,rfl,by simp [Hid],HC4,HR4⟩
            case round =>
              obtain ⟨n,Z,hn,rfl,HZ,HC,HRN⟩:=hrel
              by_cases c:n < ws.length
              · obtain ⟨ge,rfl⟩:=HRN.out.vals.there (by intro h;rw [h] at c;simp at c)
                obtain ⟨v0,v1,v2,v3⟩:=HRN.out.vals.get n c
                have hvk:=valk_raw HK.out (HWL.out ws[n] (List.getElem_mem _))
                have HE:Hid (textB (vp ws.length ++ (ws.take (n + 1)).flatMap plainB)=textB Z ++ textB (plainB ws[n])):=by
                  unfold Hid
                  rw [flat_take2 ws plainB n c,← List.append_assoc,HZ.out,textB_append]
                have hZl:Z.length≤400000:=by
                  rw [← HZ.out,List.length_append]
                  have h1:=vp_le ws.length
                  have:=flat_len (vs:=ws.take n) (f:=plainB) (c:=74) fun v h => (plainB_len (HWL.out v (List.mem_of_mem_take h)) HK.out).2
                  rw [List.length_take] at this
                  have h2:min n ws.length * 74≤4096 * 74:=Nat.mul_le_mul_right 74 (by have:=HN.out;omega)
                  omega
                have hpl:=rawB_len hvk HK.out
                have T1:=Lib.hid (fun u => refplain_any ws[n] (by rw [hvk.kind];exact HK.out) hvk.lo hvk.hi hvk.big u)
                have hl:¬ 9223372036854775807 < (textB Z).size + (textB (plainB ws[n])).size:=by rw [textB_size,textB_size];omega
                clear hvk hZl hpl
                generalize textB (plainB ws[n])=y at *
                generalize ws[n]=v at *
                have hnl:ws.length≤4096:=HN.out.2.1
                have hci:(n:Int) < (ws.length:Int):=by omega
                obtain ⟨⟨o0,o1,o2⟩,z0,z1,z2⟩:=HC.out.out.at
                have HBL:=Lib.hid (World.block_lt_of_cell? wr ⟨ge,n * 4,none⟩ v0)
                go_upto_region 28 with fail
                go_region_law (first
                  | (go_simp;go_at_call 85;refine (T1.out wr.drew).mono ?_;rintro e w5 ⟨rfl,hb5⟩;have hb5':Below wr.heap.size wr w5:=⟨hb5.os,hb5.tape,hb5.output,hb5.size,hb5.block⟩;have q0:=(hb5'.cell (p:=⟨ge,n * 4,none⟩) HBL.out).trans v0;have q1:=(hb5'.cell (p:=⟨ge,n * 4 + 1,none⟩) HBL.out).trans v1;have q2:=(hb5'.cell (p:=⟨ge,n * 4 + 2,none⟩) HBL.out).trans v2;have q3:=(hb5'.cell (p:=⟨ge,n * 4 + 3,none⟩) HBL.out).trans v3;have hc5:=HC.out.more hb5';have HC5:=Lib.hid hc5;have HR5:=Lib.hid (HRN.out.more hb5');obtain ⟨⟨p0,p1,p2⟩,s0,s1,s2⟩:=hc5.out.at;clear hb5 hb5' hc5))
                all_goals (
                  have HFIN:=Lib.hid (HC5.out.set2 (textB Z ++ y) HNB.out HBW.out)
                  have HRF:=Lib.hid (HR5.out.cell (j:=2) HBB2.out (.string (textB Z ++ y)))
                  clear v0 v1 v2 v3 o0 o1 o2 z0 z1 z2 q0 q1 q2 q3 p0 p1 p2 s0 s1 s2
                  generalize w5.setCell ⟨b,2,none⟩ (.string (textB Z ++ y))=w7 at *
                  go_wp2
                  go_roundw
                  case rel => exact ⟨n + 1,_,c,by go_num,rfl,by unfold Hid;rw [HE.out];exact HFIN.out,HRF⟩
                  case measure => simp [intOf];omega)
              · obtain rfl:n=ws.length:=by omega
                have HZ1:Hid (textB Z ++ textB (packB (wid (ws.length - 1)) at_)=S2):=by
                  unfold Hid;rw [← HS2.out,← HZ.out,List.take_length,HR2.out,← textB_append,List.append_assoc]
                have hzl:¬ 9223372036854775807 < (textB Z).size + (textB (packB (wid (ws.length - 1)) at_)).size:=by
                  have:=congrArg ByteArray.size HZ1.out
                  rw [← HS2.out,ByteArray.size_append,textB_size,textB_size,textB_size] at this
                  have:=HL.out
                  rw [textB_size,textB_size];omega
                have hws1:=HWS.out
                have hLi:=HRN.out.nums.isL
                have HLI:=Lib.hid hLi
                clear hLi c HRN
                generalize textB (packB (wid (ws.length - 1)) at_)=y at *
                generalize wid (ws.length - 1)=wd at *
                go_upto_region 30 with (first
                  | (go_at_call 88;refine (TW.out _).mono ?_;rintro e w5 ⟨rfl,rfl⟩)
                  | (go_at_call 52;refine (TP.out _ _ _ HLI.out).mono ?_;rintro e w6 ⟨rfl,hb6⟩;have hc6:=HC.out.more hb6;have HC6:=Lib.hid hc6;obtain ⟨⟨p0,p1,p2⟩,s0,s1,s2⟩:=hc6.out.at;clear hb6 hc6))
                clear hws1
                have hc7:=HC6.out.set2 (textB Z ++ y) HNB.out HBW.out
                go_upto_region 31 with fail
                have HC7:=Lib.hid hc7
                clear hc7 p0 p1 p2 s0 s1 s2 HC6
                generalize w6.setCell ⟨b,2,none⟩ (.string (textB Z ++ y))=w7 at *
                obtain ⟨⟨p0,p1,p2⟩,s0,s1,s2⟩:=HC7.out.out.at
                obtain ⟨⟨r0,r1,r2⟩,t0,t1,t2⟩:=HC7.out.res.at
                have hrb:=HRB.out
                have HX2:=HW0.out
                have HY2:=HY1.out
                have HZ2:=HZ1.out
                clear HS1 HS2 HW0 HY1 HZ1
                rw [HX2,HY2] at HC7
                rw [HX2] at p0
                rw [HY2] at p1
                rw [HZ2] at HC7 p2
                clear HX2 HY2 HZ2
                obtain ⟨x0,hx0⟩:∃ x0,Hid (x0=S0):=⟨_,rfl⟩
                obtain ⟨x1,hx1⟩:∃ x1,Hid (x1=S1):=⟨_,rfl⟩
                obtain ⟨x2,hx2⟩:∃ x2,Hid (x2=S2):=⟨_,rfl⟩
                rw [← hx0.out] at HC7 p0
                rw [← hx1.out] at HC7 p1
                rw [← hx2.out] at HC7 p2
                go_wp2
                have hb9:=((HC7.out.below.setCell (p:=⟨r,0,none⟩) (B:=w.heap.size) HRW2.out (.string x0)).setCell (p:=⟨r,1,none⟩) HRW2.out (.string x1)).setCell (p:=⟨r,2,none⟩) HRW2.out (.string x2)
                have ho9:=((HC7.out.res.set0 x0).set1 x1).set2 x2
                generalize ((w7.setCell ⟨r,0,none⟩ (.string x0)).setCell ⟨r,1,none⟩ (.string x1)).setCell ⟨r,2,none⟩ (.string x2)=w9 at *
                clear p0 p1 p2 s0 s1 s2 r0 r1 r2 t0 t1 t2
                obtain ⟨⟨c0,c1,c2⟩,_⟩:=ho9.at
                try simp only [Exit.inBlock,Exit.then]
                refine bodyPost_ret (v:=.agg #[.string x0,.string x1,.string x2]) (by simp [results,Tryz.results51,go_sem,c0,c1,c2]) rfl ?_
                exact ⟨by rw [hx0.out,hx1.out,hx2.out],hb9⟩
end Go.Proofs.YtfbmlefhjoblbaaGreat
