/- Spaces and remarks left out: a claim is at most so large. -/
import Derived.Test.YtfbmlefhjoblbaaGreatRdGz
import Derived.Test.YtfbmlefhjoblbaaGreatRFacesGz
import Derived.Test.YtfbmlefhjoblbaaGreatRPackGz
import Derived.Handy
import Derived.Test.YtfbmlefhjoblbaaGreatNPFileGetsGz2
namespace Go.Proofs.YtfbmlefhjoblbaaGreat
open Go.Conc Go.RowKit
set_option linter.unusedVariables false
set_option linter.unusedSimpArgs false
structure TkAt (w:World) (g:Nat) (s:ByteArray) (t:Tk):Prop where
  b:w.heap[g]? = some (.cells #[.string s,.int .i64 (t.pos:Int),.bool t.bad] 103 (0,0))
  le:t.pos≤s.size
section
variable {w w':World} {g:Nat} {s:ByteArray} {t:Tk}
theorem TkAt.at (h:TkAt w g s t):(w.cell? ⟨g,0,none⟩=some (.string s)∧w.cell? ⟨g,1,none⟩=some (.int .i64 (t.pos:Int))∧w.cell? ⟨g,2,none⟩=some (.bool t.bad))∧(w.frozen? ⟨g,0,none⟩=false∧w.frozen? ⟨g,1,none⟩=false∧w.frozen? ⟨g,2,none⟩=false):=by
  have hb:=h.b
  refine ⟨⟨?_,?_,?_⟩,frozen_of_row w g 0 _ _ hb,frozen_of_row w g 1 _ _ hb,frozen_of_row w g 2 _ _ hb⟩ <;> (rw [cell_of_row _ _ _ _ _ _ hb];rfl)
theorem TkAt.same (h:TkAt w g s t) (hb:w'.heap[g]? = w.heap[g]?):TkAt w' g s t:=⟨by rw [hb];exact h.b,h.le⟩
theorem TkAt.lt (h:TkAt w g s t):g < w.heap.size:=(Array.getElem?_eq_some_iff.1 h.b).1
theorem TkAt.below (h:TkAt w g s t) (hb:Below w.heap.size w w'):TkAt w' g s t:=h.same (hb.block g h.lt)
theorem TkAt.frm {F:Nat→Prop} (h:TkAt w g s t) (hf:Frm F w w') (hF:¬ F g):TkAt w' g s t:=h.same (hf.block g h.lt hF)
theorem TkAt.alloc (h:TkAt w g s t) (o:Obj):TkAt (w.alloc o) g s t:=h.same (Below.heap_alloc w o g h.lt)
theorem TkAt.brk (h:TkAt w g s t):TkAt (w.setCell ⟨g,2,none⟩ (.bool true)) g s ⟨t.pos,true⟩:=⟨heap_setCell_same _ _ _ _ _ _ h.b,h.le⟩
theorem TkAt.mark (h:TkAt w g s t) (f:Bool):TkAt (w.setCell ⟨g,2,none⟩ (.bool f)) g s ⟨t.pos,f⟩:=⟨heap_setCell_same _ _ _ _ _ _ h.b,h.le⟩
theorem TkAt.go (h:TkAt w g s t) (p:Nat) (hp:p≤s.size):TkAt (w.setCell ⟨g,1,none⟩ (.int .i64 (p:Int))) g s ⟨p,t.bad⟩:=⟨heap_setCell_same _ _ _ _ _ _ h.b,hp⟩
end
theorem tkNum_cases (l:List UInt8) (t:Tk) (most:Nat) (hm:most≤9223372036854775807) :
    (∃ x z e,getA (readN l t.pos)=(x,z,e)∧tkNum l t most=(0,⟨t.pos,true⟩)∧(t.bad=true∨e ≠ 0∨(most:Int) < x)) ∨
    (∃ N q:Nat,getA (readN l t.pos)=((N:Int),(q:Int),0)∧t.bad=false∧N≤most∧q≤l.length∧tkNum l t most=(N,⟨q,false⟩)):=by
  unfold tkNum getA
  have hA:=@readN_at l t.pos
  generalize readN l t.pos=r at *
  obtain ⟨N,P,E⟩:=r
  simp only at hA ⊢
  by_cases hb:t.bad=true
  · exact .inl ⟨_,_,_,rfl,if_pos (.inl hb),.inl hb⟩
  by_cases hz:E=0
  · subst hz
    obtain ⟨q,rfl,_,hq⟩:=hA rfl
    simp only [if_true,Int.toNat_natCast]
    by_cases hN:9223372036854775807 < N
    · rw [if_pos hN,if_pos (.inr (.inr (by omega)))]
      exact .inl ⟨0,0,501,rfl,rfl,.inr (.inl (by decide))⟩
    · rw [if_neg hN]
      by_cases c:most < N
      · rw [if_pos (.inr (.inr c))]
        exact .inl ⟨_,_,_,rfl,rfl,.inr (.inr (by omega))⟩
      · rw [if_neg (by rintro (h | h | h);exact hb h;exact h rfl;exact c h)]
        exact .inr ⟨N,q,rfl,by simpa using hb,by omega,hq,rfl⟩
  · rw [if_neg hz,if_pos (.inr (.inl hz))]
    exact .inl ⟨0,0,E,rfl,rfl,.inr (.inl hz)⟩
set_option maxRecDepth 100000 in
set_option maxHeartbeats 1000000 in
theorem tknum_any (w:World) (g:Nat) (s:ByteArray) (t:Tk) (h:TkAt w g s t) (hs:s.size≤281474976710648) (most:Nat) (hm:most≤9223372036854775807) :
    Calls Tryz.prog 62 #[.pointer (some ⟨g,0,none⟩),.int .i64 (most:Int)] w fun e w' => e=.returned (.int .i64 ((tkNum s.data.toList t most).1:Int))∧TkAt w' g s (tkNum s.data.toList t most).2∧Frm (fun k => k=g) w w':=by
  have T:=Lib.hid (runvar_any s hs (t.pos:Int))
  have H:=Lib.hid h
  have hc:=tkNum_cases s.data.toList t most hm
  have hl:s.data.toList.length=s.size:=(size_list s).symm
  rw [hl] at hc
  generalize getA (readN s.data.toList (t.pos:Int))=r at *
  obtain ⟨x,z,e⟩:=r
  have T:Hid (∀ w:World,Calls Tryz.prog 99 #[.string s,.int .i64 (t.pos:Int)] w fun e' w' => e'=.returned (.tuple #[.int .i64 x,.int .i64 z,.int .i64 e])∧w=w'):=T
  rcases hc with ⟨x',z',e',he,hR,hw⟩ | ⟨N,q,he,hb,hle,hq,hR⟩
  · rw [hR]
    injection he with h1 h2
    injection h2 with h2 h3
    subst h1 h2 h3
    clear hR h hl
    cases hb:t.bad with
    | true =>
      clear hw
      go_enter Tryz.func62,Tryz.ntmps62
      go_upto_region 1 with fail
      refine region_class (fun w' => Below w.heap.size w w') (by kernel_rfl) (by kernel_rfl) (Below.refl _ _).drew ?_
      repeat (
        refine wpQuiet_step (fun K hK => ?_)
        go_simp
        first
        | (refine hK _ ?_;clear hK K)
        | (apply Exists.intro
           refine ⟨fun w1 hw1 => ?_,hK _ ?_⟩
           (first
             | (exact rfl)
             | (obtain ⟨⟨p0,p1,p2⟩,_⟩:=(H.out.below hw1).at;simp only [p0,p1,p2,Result.andThen];exact ⟨trivial,rfl⟩)
             | (go_at_call 99;exact (T.out _).mono fun e w2 ⟨he,hb⟩ => ⟨he,by rw [← hb];exact hw1⟩))
           clear hK K))
      refine wpQuiet_nil ?_
      intro w2 hw2
      have HR:=Lib.hid (H.out.below hw2)
      have HW:=Lib.hid hw2
      clear hw2
      obtain ⟨⟨c0,c1,c2⟩,f0,f1,f2⟩:=HR.out.at
      rw [hb] at c2
      go_wp2
      go_ret
      exact ⟨rfl,HR.out.brk,(Frm.of_new HW.out _).trans (frm_cell w2 g 2 _)⟩
    | false =>
      by_cases hz:e=0
      · subst hz
        have hlt:(most:Int) < x:=by
          rcases hw with hw | hw | hw
          · rw [hb] at hw;cases hw
          · exact absurd rfl hw
          · exact hw
        have hnb:decide ((most:Int) < x)=true:=by simpa using hlt
        clear hw
        go_enter Tryz.func62,Tryz.ntmps62
        go_upto_region 1 with fail
        refine region_class (fun w' => Below w.heap.size w w') (by kernel_rfl) (by kernel_rfl) (Below.refl _ _).drew ?_
        repeat (
          refine wpQuiet_step (fun K hK => ?_)
          go_simp
          first
          | (refine hK _ ?_;clear hK K)
          | (apply Exists.intro
             refine ⟨fun w1 hw1 => ?_,hK _ ?_⟩
             (first
               | (exact rfl)
               | (obtain ⟨⟨p0,p1,p2⟩,_⟩:=(H.out.below hw1).at;simp only [p0,p1,p2,Result.andThen];exact ⟨trivial,rfl⟩)
               | (go_at_call 99;exact (T.out _).mono fun e w2 ⟨he,hb⟩ => ⟨he,by rw [← hb];exact hw1⟩))
             clear hK K))
        refine wpQuiet_nil ?_
        intro w2 hw2
        have HR:=Lib.hid (H.out.below hw2)
        have HW:=Lib.hid hw2
        clear hw2
        obtain ⟨⟨c0,c1,c2⟩,f0,f1,f2⟩:=HR.out.at
        rw [hb] at c2
        go_wp2
        go_ret
        exact ⟨rfl,HR.out.brk,(Frm.of_new HW.out _).trans (frm_cell w2 g 2 _)⟩
      · have hnb:(e != 0)=true:=by simpa using hz
        clear hw
        go_enter Tryz.func62,Tryz.ntmps62
        go_upto_region 1 with fail
        refine region_class (fun w' => Below w.heap.size w w') (by kernel_rfl) (by kernel_rfl) (Below.refl _ _).drew ?_
        repeat (
          refine wpQuiet_step (fun K hK => ?_)
          go_simp
          first
          | (refine hK _ ?_;clear hK K)
          | (apply Exists.intro
             refine ⟨fun w1 hw1 => ?_,hK _ ?_⟩
             (first
               | (exact rfl)
               | (obtain ⟨⟨p0,p1,p2⟩,_⟩:=(H.out.below hw1).at;simp only [p0,p1,p2,Result.andThen];exact ⟨trivial,rfl⟩)
               | (go_at_call 99;exact (T.out _).mono fun e w2 ⟨he,hb⟩ => ⟨he,by rw [← hb];exact hw1⟩))
             clear hK K))
        refine wpQuiet_nil ?_
        intro w2 hw2
        have HR:=Lib.hid (H.out.below hw2)
        have HW:=Lib.hid hw2
        clear hw2
        obtain ⟨⟨c0,c1,c2⟩,f0,f1,f2⟩:=HR.out.at
        rw [hb] at c2
        go_wp2
        go_ret
        exact ⟨rfl,HR.out.brk,(Frm.of_new HW.out _).trans (frm_cell w2 g 2 _)⟩
  · injection he with h1 h2
    injection h2 with h2 h3
    subst h1 h2 h3
    rw [hR]
    have hnb:decide ((most:Int) < (N:Int))=false:=by simpa using hle
    have hnl:¬ most < N:=by omega
    have HQ:=Lib.hid hq
    clear hR hle h hl hq
    go_enter Tryz.func62,Tryz.ntmps62
    go_upto_region 1 with fail
    refine region_class (fun w' => Below w.heap.size w w') (by kernel_rfl) (by kernel_rfl) (Below.refl _ _).drew ?_
    repeat (
      refine wpQuiet_step (fun K hK => ?_)
      go_simp
      first
      | (refine hK _ ?_;clear hK K)
      | (apply Exists.intro
         refine ⟨fun w1 hw1 => ?_,hK _ ?_⟩
         (first
           | (exact rfl)
           | (obtain ⟨⟨p0,p1,p2⟩,_⟩:=(H.out.below hw1).at;simp only [p0,p1,p2,Result.andThen];exact ⟨trivial,rfl⟩)
           | (go_at_call 99;exact (T.out _).mono fun e w2 ⟨he,hb⟩ => ⟨he,by rw [← hb];exact hw1⟩))
         clear hK K))
    refine wpQuiet_nil ?_
    intro w2 hw2
    have HR:=Lib.hid (H.out.below hw2)
    have HW:=Lib.hid hw2
    clear hw2
    obtain ⟨⟨c0,c1,c2⟩,f0,f1,f2⟩:=HR.out.at
    rw [hb] at c2
    go_wp2
    go_ret
    have hfin:=HR.out.go q HQ.out
    rw [hb] at hfin
    exact ⟨rfl,hfin,(Frm.of_new HW.out _).trans (frm_cell w2 g 1 _)⟩
set_option maxRecDepth 100000 in
set_option maxHeartbeats 1000000 in
theorem tkbytes_any (w:World) (g:Nat) (s:ByteArray) (t:Tk) (h:TkAt w g s t) (hs:s.size≤281474976710648) (k:Nat) (hk:k≤9007199254740992) :
    Calls Tryz.prog 72 #[.pointer (some ⟨g,0,none⟩),.int .i64 (k:Int)] w fun e w' => e=.returned (.string (textB (tkBytes s.data.toList t k).1))∧TkAt w' g s (tkBytes s.data.toList t k).2∧Frm (fun k => k=g) w w':=by
  have hl:s.data.toList.length=s.size:=(size_list s).symm
  have HX:=Lib.hid (slice_text s t.pos k)
  have H:=Lib.hid h
  have hle:=h.le
  unfold tkBytes
  rw [hl]
  have e1:wrap64 ((s.size:Int) - (t.pos:Int))=(s.size:Int) - (t.pos:Int):=by unfold wrap64;omega
  have e2:wrap64 ((t.pos:Int) + (k:Int))=((t.pos + k:Nat):Int):=by unfold wrap64;omega
  have e3:wrap64 (((t.pos + k:Nat):Int) - (k:Int))=(t.pos:Int):=by unfold wrap64;omega
  cases hb:t.bad with
  | true =>
    rw [if_pos (.inl rfl)]
    clear e1 e2 e3 HX hk hl hle h
    obtain ⟨⟨c0,c1,c2⟩,f0,f1,f2⟩:=H.out.at
    rw [hb] at c2
    go_enter Tryz.func72,Tryz.ntmps72
    go_upto_region 1 with fail
    go_quiet (fail)
    have HR:Hid (TkAt (w.drewN nq) g s t):=H.out.same rfl
    have HW:Hid (Frm (fun k => k=g) w (w.drewN nq)):=(Frm.refl _ _).same rfl rfl rfl rfl
    generalize w.drewN nq=w2 at *
    clear c0 c1 c2 f0 f1 f2
    obtain ⟨⟨c0,c1,c2⟩,f0,f1,f2⟩:=HR.out.at
    rw [hb] at c2
    go_wp2
    go_ret
    exact ⟨rfl,HR.out.brk,HW.out.trans (frm_cell w2 g 2 _)⟩
  | false =>
    by_cases c:s.size < t.pos + k
    · rw [if_pos (.inr c)]
      have hc:decide ((s.size:Int) - (t.pos:Int) < (k:Int))=true:=decide_eq_true (by omega)
      have hc2:decide ((k:Int) < 0)=false:=decide_eq_false (by omega)
      have hc3:(s.size:Int) - (t.pos:Int) < (k:Int):=by omega
      clear e2 e3 HX hl hle h
      obtain ⟨⟨c0,c1,c2⟩,f0,f1,f2⟩:=H.out.at
      rw [hb] at c2
      go_enter Tryz.func72,Tryz.ntmps72
      go_upto_region 1 with fail
      go_quiet (fail)
      have HR:Hid (TkAt (w.drewN nq) g s t):=H.out.same rfl
      have HW:Hid (Frm (fun k => k=g) w (w.drewN nq)):=(Frm.refl _ _).same rfl rfl rfl rfl
      generalize w.drewN nq=w2 at *
      clear c0 c1 c2 f0 f1 f2
      obtain ⟨⟨c0,c1,c2⟩,f0,f1,f2⟩:=HR.out.at
      rw [hb] at c2
      go_wp2
      go_ret
      exact ⟨rfl,HR.out.brk,HW.out.trans (frm_cell w2 g 2 _)⟩
    · rw [if_neg (by rintro (h | h);cases h;exact c h)]
      have hc:decide ((s.size:Int) - (t.pos:Int) < (k:Int))=false:=decide_eq_false (by omega)
      have hc2:decide ((k:Int) < 0)=false:=decide_eq_false (by omega)
      have hc3:¬ (s.size:Int) - (t.pos:Int) < (k:Int):=by omega
      have hc4:¬ (k:Int) < 0:=by omega
      have hz:t.pos + k≤s.size:=by omega
      simp only
      rw [← HX.out]
      have HZ:=Lib.hid hz
      have hpz:t.pos≤t.pos + k:=by omega
      clear HX hl h
      obtain ⟨z,hzz⟩:∃ z,z=t.pos + k:=⟨_,rfl⟩
      have e4:(z:Int) - (k:Int)=(t.pos:Int):=by omega
      have HZC:Hid ((z:Int)=(t.pos:Int) + (k:Int)):=by unfold Hid;omega
      rw [← hzz] at e2 e3 hz hpz HZ ⊢
      clear hzz c
      have E4:=Lib.hid e4
      clear e4
      obtain ⟨⟨c0,c1,c2⟩,f0,f1,f2⟩:=H.out.at
      rw [hb] at c2
      go_enter Tryz.func72,Tryz.ntmps72
      go_upto_region 1 with fail
      go_quiet (fail)
      have HR:Hid (TkAt (w.drewN nq) g s t):=H.out.same rfl
      have HW:Hid (Frm (fun k => k=g) w (w.drewN nq)):=(Frm.refl _ _).same rfl rfl rfl rfl
      generalize w.drewN nq=w2 at *
      clear c0 c1 c2 f0 f1 f2
      obtain ⟨⟨c0,c1,c2⟩,f0,f1,f2⟩:=HR.out.at
      rw [hb] at c2
      go_wp2
      go_upto_region 5 with fail
      have HR3:=Lib.hid (HR.out.go z HZ.out)
      have HF3:=Lib.hid (HW.out.trans (frm_cell w2 g 1 (.int .i64 (z:Int))))
      rw [← HZC.out]
      generalize w2.setCell ⟨g,1,none⟩ (.int .i64 (z:Int))=w3 at *
      have e4:=E4.out
      clear HR c0 c1 c2 f0 f1 f2
      obtain ⟨⟨c0,c1,c2⟩,f0,f1,f2⟩:=HR3.out.at
      simp only at c1 c2
      go_wp2
      go_quiet (fail)
      go_wp2
      go_ret
      have hfin:=HR3.out
      rw [hb] at hfin
      exact ⟨rfl,hfin.same rfl,HF3.out.same rfl rfl rfl rfl⟩
end Go.Proofs.YtfbmlefhjoblbaaGreat
namespace Go.Proofs.YtfbmlefhjoblbaaGreat
open Go.Conc Go.RowKit
set_option linter.unusedVariables false
set_option linter.unusedSimpArgs false
theorem tk_store {w u:World} {g r0:Nat} {s:ByteArray} {t:Tk} {z:V} (hk:TkAt u g s t) (hs:Slot u r0 z) (hf:Frm (fun k => k=g) w u) (hr:r0=w.heap.size) (hg:g < w.heap.size) (p:V) :
    TkAt ((((u.setCell ⟨r0,0,none⟩ (.int .i64 p.k)).setCell ⟨r0,1,none⟩ (.int .i64 p.i)).setCell ⟨r0,2,none⟩ (.bool p.b)).setCell ⟨r0,3,none⟩ (.string p.s)) g s t ∧
    Slot ((((u.setCell ⟨r0,0,none⟩ (.int .i64 p.k)).setCell ⟨r0,1,none⟩ (.int .i64 p.i)).setCell ⟨r0,2,none⟩ (.bool p.b)).setCell ⟨r0,3,none⟩ (.string p.s)) r0 p ∧
    Frm (fun k => k=g) w ((((u.setCell ⟨r0,0,none⟩ (.int .i64 p.k)).setCell ⟨r0,1,none⟩ (.int .i64 p.i)).setCell ⟨r0,2,none⟩ (.bool p.b)).setCell ⟨r0,3,none⟩ (.string p.s)):=by
  have hgr:¬ g=r0:=by omega
  refine ⟨hk.frm (Frm.chain (u:=u) (g:=r0) (F:=fun k => k=r0) rfl p) hgr,hs.store p,?_⟩
  have hA:=hf.mono (F':=fun k => k=g∨k=r0) (fun k _ hk => .inl hk)
  refine (hA.trans (Frm.chain (u:=u) (g:=r0) (F:=fun k => k=g∨k=r0) (.inr rfl) p)).mono (fun k hk h => ?_)
  rcases h with h | h
  · exact h
  · omega
theorem tkZag_cases (l:List UInt8) (t:Tk) :
    (∃ x z e,zagA (readN l t.pos)=(x,z,e)∧tkValue l t 1=(zeroV,⟨t.pos,true⟩)∧(t.bad=true∨e ≠ 0)) ∨
    (∃ x,∃ q:Nat,zagA (readN l t.pos)=(x,(q:Int),0)∧t.bad=false∧q≤l.length∧tkValue l t 1=(⟨1,x,false,ByteArray.empty⟩,⟨q,false⟩)):=by
  have hV:tkValue l t 1=(if t.bad=true∨(readN l t.pos).2.2 ≠ 0 then (zeroV,⟨t.pos,true⟩) else (⟨1,unzz (readN l t.pos).1,false,ByteArray.empty⟩,⟨(readN l t.pos).2.1.toNat,false⟩)):=by unfold tkValue;rw [if_pos rfl]
  rw [hV]
  clear hV
  unfold zagA
  have hA:=@readN_at l t.pos
  generalize readN l t.pos=r at *
  obtain ⟨N,P,E⟩:=r
  simp only at hA ⊢
  by_cases hb:t.bad=true
  · exact .inl ⟨_,_,_,rfl,if_pos (.inl hb),.inl hb⟩
  by_cases hz:E=0
  · subst hz
    obtain ⟨q,rfl,_,hq⟩:=hA rfl
    simp only [if_true,Int.toNat_natCast]
    rw [if_neg (by rintro (h | h);exact hb h;exact h rfl)]
    exact .inr ⟨_,q,rfl,by simpa using hb,hq,rfl⟩
  · rw [if_neg hz,if_pos (.inr hz)]
    exact .inl ⟨0,0,E,rfl,rfl,.inr hz⟩
theorem tkBytes_len (l:List UInt8) (t:Tk) (k:Nat):(tkBytes l t k).1.length≤k:=by
  unfold tkBytes
  split
  · exact Nat.zero_le _
  · exact List.length_take_le _ _
theorem tkNum_most (l:List UInt8) (t:Tk) (most:Nat):(tkNum l t most).1≤most:=by
  unfold tkNum
  split
  · exact Nat.zero_le _
  · rename_i h
    simp only
    have:=fun x => h (.inr (.inr x))
    omega
set_option maxRecDepth 100000 in
set_option maxHeartbeats 2000000 in
theorem tkint_any (w:World) (g:Nat) (s:ByteArray) (t:Tk) (h:TkAt w g s t) (hs:s.size≤281474976710648) :
    Calls Tryz.prog 101 #[.pointer (some ⟨g,0,none⟩),.int .i64 1] w fun e w' => e=.returned (.agg #[.int .i64 (tkValue s.data.toList t 1).1.k,.int .i64 (tkValue s.data.toList t 1).1.i,.bool (tkValue s.data.toList t 1).1.b,.string (tkValue s.data.toList t 1).1.s])∧TkAt w' g s (tkValue s.data.toList t 1).2∧Frm (fun k => k=g) w w':=by
  have T:=Lib.hid (rzag_any s hs (t.pos:Int))
  have hc:=tkZag_cases s.data.toList t
  have hl:s.data.toList.length=s.size:=(size_list s).symm
  rw [hl] at hc
  generalize zagA (readN s.data.toList (t.pos:Int))=r at *
  obtain ⟨x,z,e⟩:=r
  have T:Hid (∀ w:World,Calls Tryz.prog 135 #[.string s,.int .i64 (t.pos:Int)] w fun e' w' => e'=.returned (.tuple #[.int .i64 x,.int .i64 z,.int .i64 e])∧w=w'):=T
  have HL:=Lib.hid h.lt
  have HS0:=Lib.hid (Slot.new w ⟨0,0,false,⟨#[]⟩⟩)
  have HF0:=Lib.hid (show Frm (fun k => k=g) w (w.alloc (.cells #[.int .i64 0,.int .i64 0,.bool false,.string ⟨#[]⟩] 24)) from (Frm.refl _ _).alloc _)
  rcases hc with ⟨x',z',e',he,hR,hw⟩ | ⟨N,q,he,hb,hq,hR⟩
  · rw [hR]
    injection he with h1 h2
    injection h2 with h2 h3
    subst h1 h2 h3
    clear hR hl
    cases hb:t.bad with
    | true =>
      clear hw
      go_enter Tryz.func101,Tryz.ntmps101
      go_upto_region 1 with fail
      obtain ⟨r0,hr0⟩:∃ r0,r0=w.heap.size:=⟨_,rfl⟩
      have HR00:=Lib.hid hr0
      rw [← hr0] at HS0 ⊢
      clear hr0
      have H:=Lib.hid (h.alloc (.cells #[.int .i64 0,.int .i64 0,.bool false,.string ⟨#[]⟩] 24))
      clear h
      generalize w.alloc (.cells #[.int .i64 0,.int .i64 0,.bool false,.string ⟨#[]⟩] 24)=u at *
      go_upto_region 3 with fail
      refine region_class (fun w' => Below u.heap.size u w') (by kernel_rfl) (by kernel_rfl) (Below.refl _ _).drew ?_
      repeat (
        refine wpQuiet_step (fun K hK => ?_)
        go_simp
        first
        | (refine hK _ ?_;clear hK K)
        | (apply Exists.intro
           refine ⟨fun w1 hw1 => ?_,hK _ ?_⟩
           (first
             | (exact rfl)
             | (obtain ⟨⟨p0,p1,p2⟩,_⟩:=(H.out.below hw1).at;simp only [p0,p1,p2,Result.andThen];exact ⟨trivial,rfl⟩)
             | (go_at_call 135;exact (T.out _).mono fun e w2 ⟨he,hb⟩ => ⟨he,by rw [← hb];exact hw1⟩))
           clear hK K))
      refine wpQuiet_nil ?_
      intro w2 hw2
      have HR:=Lib.hid (H.out.below hw2)
      have HW:=Lib.hid hw2
      clear hw2
      obtain ⟨⟨c0,c1,c2⟩,f0,f1,f2⟩:=HR.out.at
      rw [hb] at c2
      have hs2:=HS0.out.below HW.out
      have HS2:=Lib.hid hs2
      obtain ⟨⟨m0,m1,m2,m3⟩,y0,y1,y2,y3⟩:=hs2.at
      have HF2:=Lib.hid (HF0.out.trans (Frm.of_new HW.out _))
      have hgr:¬ g=r0:=by have h1:=HL.out;have h2:=HR00.out;omega
      have hrg:¬ r0=g:=fun h => hgr h.symm
      clear hs2
      go_wp2
      obtain ⟨k1,k2,k3⟩:=tk_store (w:=w) HR.out.brk (HS2.out.other (a:=⟨g,2,none⟩) (u:=.bool true) hgr) (HF2.out.trans (frm_cell w2 g 2 (.bool true))) HR00.out HL.out ⟨0,0,false,⟨#[]⟩⟩
      generalize hW:World.setCell _ _ _=w7 at k1 k2 k3 ⊢
      clear hW
      try simp only at k1 k2 k3
      clear c0 c1 c2 f0 f1 f2 m0 m1 m2 m3 y0 y1 y2 y3
      obtain ⟨⟨c0,c1,c2,c3⟩,_⟩:=k2.at
      try simp only [Exit.inBlock,Exit.then]
      refine bodyPost_ret (v:=.agg #[.int .i64 0,.int .i64 0,.bool false,.string ⟨#[]⟩]) (by simp [results,Tryz.results101,go_sem,c0,c1,c2,c3]) rfl ?_
      exact ⟨rfl,k1,k3⟩
    | false =>
      have hz:e ≠ 0:=by
        rcases hw with hw | hw
        · rw [hb] at hw;cases hw
        · exact hw
      have hnb:(e != 0)=true:=by simpa using hz
      clear hw
      go_enter Tryz.func101,Tryz.ntmps101
      go_upto_region 1 with fail
      obtain ⟨r0,hr0⟩:∃ r0,r0=w.heap.size:=⟨_,rfl⟩
      have HR00:=Lib.hid hr0
      rw [← hr0] at HS0 ⊢
      clear hr0
      have H:=Lib.hid (h.alloc (.cells #[.int .i64 0,.int .i64 0,.bool false,.string ⟨#[]⟩] 24))
      clear h
      generalize w.alloc (.cells #[.int .i64 0,.int .i64 0,.bool false,.string ⟨#[]⟩] 24)=u at *
      go_upto_region 3 with fail
      refine region_class (fun w' => Below u.heap.size u w') (by kernel_rfl) (by kernel_rfl) (Below.refl _ _).drew ?_
      repeat (
        refine wpQuiet_step (fun K hK => ?_)
        go_simp
        first
        | (refine hK _ ?_;clear hK K)
        | (apply Exists.intro
           refine ⟨fun w1 hw1 => ?_,hK _ ?_⟩
           (first
             | (exact rfl)
             | (obtain ⟨⟨p0,p1,p2⟩,_⟩:=(H.out.below hw1).at;simp only [p0,p1,p2,Result.andThen];exact ⟨trivial,rfl⟩)
             | (go_at_call 135;exact (T.out _).mono fun e w2 ⟨he,hb⟩ => ⟨he,by rw [← hb];exact hw1⟩))
           clear hK K))
      refine wpQuiet_nil ?_
      intro w2 hw2
      have HR:=Lib.hid (H.out.below hw2)
      have HW:=Lib.hid hw2
      clear hw2
      obtain ⟨⟨c0,c1,c2⟩,f0,f1,f2⟩:=HR.out.at
      rw [hb] at c2
      have hs2:=HS0.out.below HW.out
      have HS2:=Lib.hid hs2
      obtain ⟨⟨m0,m1,m2,m3⟩,y0,y1,y2,y3⟩:=hs2.at
      have HF2:=Lib.hid (HF0.out.trans (Frm.of_new HW.out _))
      have hgr:¬ g=r0:=by have h1:=HL.out;have h2:=HR00.out;omega
      have hrg:¬ r0=g:=fun h => hgr h.symm
      clear hs2
      go_wp2
      obtain ⟨k1,k2,k3⟩:=tk_store (w:=w) HR.out.brk (HS2.out.other (a:=⟨g,2,none⟩) (u:=.bool true) hgr) (HF2.out.trans (frm_cell w2 g 2 (.bool true))) HR00.out HL.out ⟨0,0,false,⟨#[]⟩⟩
      generalize hW:World.setCell _ _ _=w7 at k1 k2 k3 ⊢
      clear hW
      try simp only at k1 k2 k3
      clear c0 c1 c2 f0 f1 f2 m0 m1 m2 m3 y0 y1 y2 y3
      obtain ⟨⟨c0,c1,c2,c3⟩,_⟩:=k2.at
      try simp only [Exit.inBlock,Exit.then]
      refine bodyPost_ret (v:=.agg #[.int .i64 0,.int .i64 0,.bool false,.string ⟨#[]⟩]) (by simp [results,Tryz.results101,go_sem,c0,c1,c2,c3]) rfl ?_
      exact ⟨rfl,k1,k3⟩
  · injection he with h1 h2
    injection h2 with h2 h3
    subst h1 h2 h3
    rw [hR]
    have HQ:=Lib.hid hq
    clear hR hl hq
    go_enter Tryz.func101,Tryz.ntmps101
    go_upto_region 1 with fail
    obtain ⟨r0,hr0⟩:∃ r0,r0=w.heap.size:=⟨_,rfl⟩
    have HR00:=Lib.hid hr0
    rw [← hr0] at HS0 ⊢
    clear hr0
    have H:=Lib.hid (h.alloc (.cells #[.int .i64 0,.int .i64 0,.bool false,.string ⟨#[]⟩] 24))
    clear h
    generalize w.alloc (.cells #[.int .i64 0,.int .i64 0,.bool false,.string ⟨#[]⟩] 24)=u at *
    go_upto_region 3 with fail
    refine region_class (fun w' => Below u.heap.size u w') (by kernel_rfl) (by kernel_rfl) (Below.refl _ _).drew ?_
    repeat (
      refine wpQuiet_step (fun K hK => ?_)
      go_simp
      first
      | (refine hK _ ?_;clear hK K)
      | (apply Exists.intro
         refine ⟨fun w1 hw1 => ?_,hK _ ?_⟩
         (first
           | (exact rfl)
           | (obtain ⟨⟨p0,p1,p2⟩,_⟩:=(H.out.below hw1).at;simp only [p0,p1,p2,Result.andThen];exact ⟨trivial,rfl⟩)
           | (go_at_call 135;exact (T.out _).mono fun e w2 ⟨he,hb⟩ => ⟨he,by rw [← hb];exact hw1⟩))
         clear hK K))
    refine wpQuiet_nil ?_
    intro w2 hw2
    have HR:=Lib.hid (H.out.below hw2)
    have HW:=Lib.hid hw2
    clear hw2
    obtain ⟨⟨c0,c1,c2⟩,f0,f1,f2⟩:=HR.out.at
    rw [hb] at c2
    have hs2:=HS0.out.below HW.out
    have HS2:=Lib.hid hs2
    obtain ⟨⟨m0,m1,m2,m3⟩,y0,y1,y2,y3⟩:=hs2.at
    have HF2:=Lib.hid (HF0.out.trans (Frm.of_new HW.out _))
    have hgr:¬ g=r0:=by have h1:=HL.out;have h2:=HR00.out;omega
    have hrg:¬ r0=g:=fun h => hgr h.symm
    clear hs2
    go_wp2
    obtain ⟨k1,k2,k3⟩:=tk_store (w:=w) (HR.out.go q HQ.out) (HS2.out.other (a:=⟨g,1,none⟩) (u:=.int .i64 (q:Int)) hgr) (HF2.out.trans (frm_cell w2 g 1 (.int .i64 (q:Int)))) HR00.out HL.out ⟨1,x,false,⟨#[]⟩⟩
    rw [hb] at k1
    generalize hW:World.setCell _ _ _=w7 at k1 k2 k3 ⊢
    clear hW
    try simp only at k1 k2 k3
    clear c0 c1 c2 f0 f1 f2 m0 m1 m2 m3 y0 y1 y2 y3
    obtain ⟨⟨c0,c1,c2,c3⟩,_⟩:=k2.at
    try simp only [Exit.inBlock,Exit.then]
    refine bodyPost_ret (v:=.agg #[.int .i64 1,.int .i64 x,.bool false,.string ⟨#[]⟩]) (by simp [results,Tryz.results101,go_sem,c0,c1,c2,c3]) rfl ?_
    exact ⟨rfl,k1,k3⟩
set_option maxRecDepth 100000 in
set_option maxHeartbeats 2000000 in
theorem tkbool_any (w:World) (g:Nat) (s:ByteArray) (t:Tk) (h:TkAt w g s t) (hs:s.size≤281474976710648) :
    Calls Tryz.prog 101 #[.pointer (some ⟨g,0,none⟩),.int .i64 2] w fun e w' => e=.returned (.agg #[.int .i64 (tkValue s.data.toList t 2).1.k,.int .i64 (tkValue s.data.toList t 2).1.i,.bool (tkValue s.data.toList t 2).1.b,.string (tkValue s.data.toList t 2).1.s])∧TkAt w' g s (tkValue s.data.toList t 2).2∧Frm (fun k => k=g) w w':=by
  have T:=Lib.hid (fun (u:World) (h:TkAt u g s t) => tkbytes_any u g s t h hs 1 (by omega))
  have hR:tkValue s.data.toList t 2=(⟨2,0,decide ((tkBytes s.data.toList t 1).1=[1]),ByteArray.empty⟩,(tkBytes s.data.toList t 1).2):=by
    unfold tkValue;rw [if_neg (by decide),if_pos rfl]
  rw [hR]
  generalize tkBytes s.data.toList t 1=r at *
  obtain ⟨x,t2⟩:=r
  have T:Hid (∀ u:World,TkAt u g s t→Calls Tryz.prog 72 #[.pointer (some ⟨g,0,none⟩),.int .i64 1] u fun e w' => e=.returned (.string (textB x))∧TkAt w' g s t2∧Frm (fun k => k=g) u w'):=T
  simp only
  have hq:((textB x).toList == [1])=decide (x=[1]):=by
    rw [ByteArray.toList_eq,textB_list]
    by_cases c:x=[1]
    · subst c;rfl
    · rw [decide_eq_false c];simpa using c
  generalize decide (x=[1])=b at *
  generalize textB x=y at *
  have HL:=Lib.hid h.lt
  have HS0:=Lib.hid (Slot.new w ⟨0,0,false,⟨#[]⟩⟩)
  have HF0:=Lib.hid (show Frm (fun k => k=g) w (w.alloc (.cells #[.int .i64 0,.int .i64 0,.bool false,.string ⟨#[]⟩] 24)) from (Frm.refl _ _).alloc _)
  clear hR
  go_enter Tryz.func101,Tryz.ntmps101
  go_upto_region 1 with fail
  obtain ⟨r0,hr0⟩:∃ r0,r0=w.heap.size:=⟨_,rfl⟩
  have HR00:=Lib.hid hr0
  rw [← hr0] at HS0 ⊢
  clear hr0
  have H:=Lib.hid (h.alloc (.cells #[.int .i64 0,.int .i64 0,.bool false,.string ⟨#[]⟩] 24))
  clear h
  generalize w.alloc (.cells #[.int .i64 0,.int .i64 0,.bool false,.string ⟨#[]⟩] 24)=u at *
  have hgr:¬ g=r0:=by have h1:=HL.out;have h2:=HR00.out;omega
  have hrg:¬ r0=g:=fun h => hgr h.symm
  cases b with
  | true =>
    go_wp2_with (go_at_call 72;refine (T.out u H.out).mono ?_;rintro e w5 ⟨rfl,hr5,hf5⟩;have HR:=Lib.hid hr5;have HF5:=Lib.hid hf5;have hs5:=HS0.out.same (hf5.block r0 HS0.out.lt hrg);have HS2:=Lib.hid hs5;obtain ⟨⟨m0,m1,m2,m3⟩,y0,y1,y2,y3⟩:=hs5.at;clear hr5 hf5 hs5)
    obtain ⟨k1,k2,k3⟩:=tk_store (w:=w) HR.out HS2.out (HF0.out.trans HF5.out) HR00.out HL.out ⟨2,0,true,⟨#[]⟩⟩
    generalize hW:World.setCell _ _ _=w7 at k1 k2 k3 ⊢
    clear hW
    try simp only at k1 k2 k3
    clear m0 m1 m2 m3 y0 y1 y2 y3
    obtain ⟨⟨c0,c1,c2,c3⟩,_⟩:=k2.at
    try simp only [Exit.inBlock,Exit.then]
    refine bodyPost_ret (v:=.agg #[.int .i64 2,.int .i64 0,.bool true,.string ⟨#[]⟩]) (by simp [results,Tryz.results101,go_sem,c0,c1,c2,c3]) rfl ?_
    exact ⟨rfl,k1,k3⟩
  | false =>
    go_wp2_with (go_at_call 72;refine (T.out u H.out).mono ?_;rintro e w5 ⟨rfl,hr5,hf5⟩;have HR:=Lib.hid hr5;have HF5:=Lib.hid hf5;have hs5:=HS0.out.same (hf5.block r0 HS0.out.lt hrg);have HS2:=Lib.hid hs5;obtain ⟨⟨m0,m1,m2,m3⟩,y0,y1,y2,y3⟩:=hs5.at;clear hr5 hf5 hs5)
    obtain ⟨k1,k2,k3⟩:=tk_store (w:=w) HR.out HS2.out (HF0.out.trans HF5.out) HR00.out HL.out ⟨2,0,false,⟨#[]⟩⟩
    generalize hW:World.setCell _ _ _=w7 at k1 k2 k3 ⊢
    clear hW
    try simp only at k1 k2 k3
    clear m0 m1 m2 m3 y0 y1 y2 y3
    obtain ⟨⟨c0,c1,c2,c3⟩,_⟩:=k2.at
    try simp only [Exit.inBlock,Exit.then]
    refine bodyPost_ret (v:=.agg #[.int .i64 2,.int .i64 0,.bool false,.string ⟨#[]⟩]) (by simp [results,Tryz.results101,go_sem,c0,c1,c2,c3]) rfl ?_
    exact ⟨rfl,k1,k3⟩
set_option maxRecDepth 100000 in
set_option maxHeartbeats 2000000 in
theorem tktext_any (w:World) (g:Nat) (s:ByteArray) (t:Tk) (h:TkAt w g s t) (hs:s.size≤281474976710648) :
    Calls Tryz.prog 101 #[.pointer (some ⟨g,0,none⟩),.int .i64 3] w fun e w' => e=.returned (.agg #[.int .i64 (tkValue s.data.toList t 3).1.k,.int .i64 (tkValue s.data.toList t 3).1.i,.bool (tkValue s.data.toList t 3).1.b,.string (tkValue s.data.toList t 3).1.s])∧TkAt w' g s (tkValue s.data.toList t 3).2∧Frm (fun k => k=g) w w':=by
  have TN:=Lib.hid (fun (u:World) (h:TkAt u g s t) => tknum_any u g s t h hs 64 (by omega))
  have hR:tkValue s.data.toList t 3=(⟨3,0,false,textB (tkBytes s.data.toList (tkNum s.data.toList t 64).2 (tkNum s.data.toList t 64).1).1⟩,(tkBytes s.data.toList (tkNum s.data.toList t 64).2 (tkNum s.data.toList t 64).1).2):=by
    unfold tkValue;rw [if_neg (by decide),if_neg (by decide)]
  rw [hR]
  have hm:=tkNum_most s.data.toList t 64
  generalize tkNum s.data.toList t 64=r at *
  obtain ⟨m,t1⟩:=r
  simp only at hm
  have T:=Lib.hid (fun (u:World) (h:TkAt u g s t1) => tkbytes_any u g s t1 h hs m (by omega))
  simp only
  generalize tkBytes s.data.toList t1 m=r at *
  obtain ⟨x,t2⟩:=r
  have TN:Hid (∀ u:World,TkAt u g s t→Calls Tryz.prog 62 #[.pointer (some ⟨g,0,none⟩),.int .i64 64] u fun e w' => e=.returned (.int .i64 (m:Int))∧TkAt w' g s t1∧Frm (fun k => k=g) u w'):=TN
  have T:Hid (∀ u:World,TkAt u g s t1→Calls Tryz.prog 72 #[.pointer (some ⟨g,0,none⟩),.int .i64 (m:Int)] u fun e w' => e=.returned (.string (textB x))∧TkAt w' g s t2∧Frm (fun k => k=g) u w'):=T
  simp only
  generalize textB x=y at *
  have HL:=Lib.hid h.lt
  have HS0:=Lib.hid (Slot.new w ⟨0,0,false,⟨#[]⟩⟩)
  have HF0:=Lib.hid (show Frm (fun k => k=g) w (w.alloc (.cells #[.int .i64 0,.int .i64 0,.bool false,.string ⟨#[]⟩] 24)) from (Frm.refl _ _).alloc _)
  clear hR hm
  go_enter Tryz.func101,Tryz.ntmps101
  go_upto_region 1 with fail
  obtain ⟨r0,hr0⟩:∃ r0,r0=w.heap.size:=⟨_,rfl⟩
  have HR00:=Lib.hid hr0
  rw [← hr0] at HS0 ⊢
  clear hr0
  have H:=Lib.hid (h.alloc (.cells #[.int .i64 0,.int .i64 0,.bool false,.string ⟨#[]⟩] 24))
  clear h
  generalize w.alloc (.cells #[.int .i64 0,.int .i64 0,.bool false,.string ⟨#[]⟩] 24)=u at *
  have hgr:¬ g=r0:=by have h1:=HL.out;have h2:=HR00.out;omega
  have hrg:¬ r0=g:=fun h => hgr h.symm
  go_wp2_with (first
    | (go_at_call 62;refine (TN.out u H.out).mono ?_;rintro e w4 ⟨rfl,hr4,hf4⟩;have HR4:=Lib.hid hr4;have HF4:=Lib.hid hf4;have HS4:=Lib.hid (HS0.out.same (hf4.block r0 HS0.out.lt hrg));clear hr4 hf4)
    | (go_at_call 72;refine (T.out w4 HR4.out).mono ?_;rintro e w5 ⟨rfl,hr5,hf5⟩;have HR:=Lib.hid hr5;have HF5:=Lib.hid hf5;have hs5:=HS4.out.same (hf5.block r0 HS4.out.lt hrg);have HS2:=Lib.hid hs5;obtain ⟨⟨m0,m1,m2,m3⟩,y0,y1,y2,y3⟩:=hs5.at;clear hr5 hf5 hs5))
  obtain ⟨k1,k2,k3⟩:=tk_store (w:=w) HR.out HS2.out ((HF0.out.trans HF4.out).trans HF5.out) HR00.out HL.out ⟨3,0,false,y⟩
  generalize hW:World.setCell _ _ _=w7 at k1 k2 k3 ⊢
  clear hW
  try simp only at k1 k2 k3
  clear m0 m1 m2 m3 y0 y1 y2 y3
  obtain ⟨⟨c0,c1,c2,c3⟩,_⟩:=k2.at
  try simp only [Exit.inBlock,Exit.then]
  refine bodyPost_ret (v:=.agg #[.int .i64 3,.int .i64 0,.bool false,.string y]) (by simp [results,Tryz.results101,go_sem,c0,c1,c2,c3]) rfl ?_
  exact ⟨rfl,k1,k3⟩
theorem tkvalue_any (w:World) (g:Nat) (s:ByteArray) (t:Tk) (h:TkAt w g s t) (hs:s.size≤281474976710648) (k:Int) (hk:1≤k∧k≤3) :
    Calls Tryz.prog 101 #[.pointer (some ⟨g,0,none⟩),.int .i64 k] w fun e w' => e=.returned (.agg #[.int .i64 (tkValue s.data.toList t k).1.k,.int .i64 (tkValue s.data.toList t k).1.i,.bool (tkValue s.data.toList t k).1.b,.string (tkValue s.data.toList t k).1.s])∧TkAt w' g s (tkValue s.data.toList t k).2∧Frm (fun k => k=g) w w':=by
  rcases (show k=1∨k=2∨k=3 by omega) with rfl | rfl | rfl
  · exact tkint_any w g s t h hs
  · exact tkbool_any w g s t h hs
  · exact tktext_any w g s t h hs
theorem tp_sums (p:Nat) (hp:p≤1048576):wrap64 (p:Int)=(p:Int)∧wrap64 ((p:Int) + 7)=(p:Int) + 7∧wrap64 (((p:Int) + 7).tdiv 8)=(((p + 7) / 8:Nat):Int):=by
  refine ⟨?_,?_,?_⟩
  · unfold wrap64;omega
  · unfold wrap64;omega
  · rw [Int.tdiv_eq_ediv_of_nonneg (by omega)];unfold wrap64;omega
set_option maxRecDepth 100000 in
set_option maxHeartbeats 2000000 in
theorem tkpacked_any (w:World) (g:Nat) (s:ByteArray) (t:Tk) (h:TkAt w g s t) (hs:s.size≤281474976710648) (many wd:Nat) (hm:many≤4096) (hw:wd≤16) :
    Calls Tryz.prog 63 #[.pointer (some ⟨g,0,none⟩),.int .i64 (many:Int),.int .i64 (wd:Int)] w fun e w' => ∃ a cap,e=.returned (.slice a (tkPacked s.data.toList t many wd).1.length cap)∧OwnI w.heap.size w' a cap (tkPacked s.data.toList t many wd).1∧TkAt w' g s (tkPacked s.data.toList t many wd).2∧Frm (fun k => k=g) w w':=by
  have hbm:=bytes_most many wd (by omega) hw
  obtain ⟨e1',e2,e3⟩:=tp_sums (many * wd) hbm
  have e1:wrap64 ((many:Int) * (wd:Int))=((many * wd:Nat):Int):=by rw [← Int.natCast_mul];exact e1'
  have T:=Lib.hid (fun (u:World) (h:TkAt u g s t) => tkbytes_any u g s t h hs ((many * wd + 7) / 8) (by omega))
  have H:=Lib.hid h
  have HL:=Lib.hid h.lt
  unfold tkPacked
  have hm1:¬ ((4096:Int) < (many:Int)):=by omega
  have hm2:decide ((4096:Int) < (many:Int))=false:=decide_eq_false hm1
  cases hb:t.bad with
  | true =>
    rw [if_pos (.inl rfl)]
    obtain ⟨⟨c0,c1,c2⟩,f0,f1,f2⟩:=h.at
    rw [hb] at c2
    clear e1' e1 e2 e3 hbm T h
    go_enter Tryz.func63,Tryz.ntmps63
    go_wp2
    go_ret
    exact ⟨none,0,rfl,OwnI.nil _ _,H.out.brk,frm_cell w g 2 _⟩
  | false =>
    rw [if_neg (by rintro (h | h);cases h;omega)]
    have hq:(many * wd + 7) / 8≤281474976710648:=by omega
    generalize (many * wd + 7) / 8=q at *
    generalize many * wd=p at *
    have hxl:=tkBytes_len s.data.toList t q
    generalize tkBytes s.data.toList t q=r at *
    obtain ⟨x,t2⟩:=r
    simp only at T hxl ⊢
    have hxs:(textB x).size≤281474976710648:=by rw [textB_size];omega
    generalize textB x=y at *
    have T2:=Lib.hid (fun u => runpack_any u y hxs many wd)
    generalize unpackA y (many:Int) (wd:Int)=r at *
    obtain ⟨xs,E⟩:=r
    have T2:Hid (∀ u:World,Calls Tryz.prog 100 #[.string y,.int .i64 (many:Int),.int .i64 (wd:Int)] u fun e w' => ∃ a cap,e=.returned (.tuple #[.slice a xs.length cap,.int .i64 E])∧OwnI u.heap.size w' a cap xs∧Below u.heap.size u w'):=T2
    simp only
    obtain ⟨⟨c0,c1,c2⟩,f0,f1,f2⟩:=h.at
    rw [hb] at c2
    clear e1' hbm h hxl hxs hq
    cases hb2:t2.bad with
    | true =>
      go_enter Tryz.func63,Tryz.ntmps63
      go_wp2_with (first
        | (go_at_call 72;refine (T.out w H.out).mono ?_;rintro e w4 ⟨rfl,hr4,hf4⟩;have HR4:=Lib.hid hr4;have HF4:=Lib.hid hf4;clear hr4 hf4 c0 c1 c2 f0 f1 f2)
        | (go_at_call 100;refine (T2.out _).mono ?_;rintro e w5 ⟨a,cap,rfl,ho,hb5⟩;have hr5:=HR4.out.below hb5;have HR5:=Lib.hid hr5;obtain ⟨⟨c0,c1,c2⟩,f0,f1,f2⟩:=hr5.at;rw [hb2] at c2;have HO:=Lib.hid ho;have HB5:=Lib.hid hb5;clear hr5 ho hb5))
      go_ret
      refine ⟨a,cap,rfl,?_,?_,(HF4.out.trans (Frm.of_new HB5.out _)).trans (frm_cell w5 g 2 _)⟩
      · exact OwnI.lower (OwnI.frm HO.out (frm_cell w5 g 2 _) fun k hk _ e => by have:=(HO.out.at_ge hk).1;have h2:=HL.out;have h3:=HF4.out.size;omega) HF4.out.size
      · exact HR5.out.mark true
    | false =>
      by_cases hE:E=0
      · subst hE
        go_enter Tryz.func63,Tryz.ntmps63
        go_wp2_with (first
          | (go_at_call 72;refine (T.out w H.out).mono ?_;rintro e w4 ⟨rfl,hr4,hf4⟩;have HR4:=Lib.hid hr4;have HF4:=Lib.hid hf4;clear hr4 hf4 c0 c1 c2 f0 f1 f2)
          | (go_at_call 100;refine (T2.out _).mono ?_;rintro e w5 ⟨a,cap,rfl,ho,hb5⟩;have hr5:=HR4.out.below hb5;have HR5:=Lib.hid hr5;obtain ⟨⟨c0,c1,c2⟩,f0,f1,f2⟩:=hr5.at;rw [hb2] at c2;have HO:=Lib.hid ho;have HB5:=Lib.hid hb5;clear hr5 ho hb5))
        go_ret
        refine ⟨a,cap,rfl,?_,?_,(HF4.out.trans (Frm.of_new HB5.out _)).trans (frm_cell w5 g 2 _)⟩
        · exact OwnI.lower (OwnI.frm HO.out (frm_cell w5 g 2 _) fun k hk _ e => by have:=(HO.out.at_ge hk).1;have h2:=HL.out;have h3:=HF4.out.size;omega) HF4.out.size
        · exact HR5.out.mark false
      · have hnE:(E != 0)=true:=by simpa using hE
        have hdE:decide (E ≠ 0)=true:=decide_eq_true hE
        go_enter Tryz.func63,Tryz.ntmps63
        go_wp2_with (first
          | (go_at_call 72;refine (T.out w H.out).mono ?_;rintro e w4 ⟨rfl,hr4,hf4⟩;have HR4:=Lib.hid hr4;have HF4:=Lib.hid hf4;clear hr4 hf4 c0 c1 c2 f0 f1 f2)
          | (go_at_call 100;refine (T2.out _).mono ?_;rintro e w5 ⟨a,cap,rfl,ho,hb5⟩;have hr5:=HR4.out.below hb5;have HR5:=Lib.hid hr5;obtain ⟨⟨c0,c1,c2⟩,f0,f1,f2⟩:=hr5.at;rw [hb2] at c2;have HO:=Lib.hid ho;have HB5:=Lib.hid hb5;clear hr5 ho hb5))
        go_ret
        refine ⟨a,cap,rfl,?_,?_,(HF4.out.trans (Frm.of_new HB5.out _)).trans (frm_cell w5 g 2 _)⟩
        · exact OwnI.lower (OwnI.frm HO.out (frm_cell w5 g 2 _) fun k hk _ e => by have:=(HO.out.at_ge hk).1;have h2:=HL.out;have h3:=HF4.out.size;omega) HF4.out.size
        · rw [hdE];exact HR5.out.mark true
end Go.Proofs.YtfbmlefhjoblbaaGreat
namespace Go.Proofs.YtfbmlefhjoblbaaGreat
open Go.Conc Go.RowKit
set_option linter.unusedVariables false
set_option linter.unusedSimpArgs false
structure TsAt (w wr:World) (g:Nat) (s:ByteArray) (t:Tk) (av:Option Addr) (cv:Nat) (vs:List V):Prop where
  rd:TkAt wr g s t
  own:OwnV w.heap.size wr av cv vs
  frm:Frm (fun k => k=g) w wr
section
variable {w u u' u1:World} {g cv cv':Nat} {s:ByteArray} {t t':Tk} {av av':Option Addr} {vs:List V} {v:V}
theorem TsAt.apart (h:TsAt w u g s t av cv vs) (hg:g < w.heap.size):¬ At av g:=fun hk => by have:=(h.own.at_ge hk).1;omega
theorem TsAt.val (h:TsAt w u g s t av cv vs) (hg:g < w.heap.size) (hr:TkAt u1 g s t') (hf1:Frm (fun k => k=g) u u1) (ho:OwnV w.heap.size u' av' cv' (vs ++ [v])) (hf:Frm (At av) u1 u'):TsAt w u' g s t' av' cv' (vs ++ [v]):=by
  have hnv:∀ k,At av k→w.heap.size≤k:=fun k hk => (h.own.at_ge hk).1
  refine ⟨hr.frm hf (h.apart hg),ho,?_⟩
  refine ((h.frm.trans hf1).mono (F':=fun k => k=g∨w.heap.size≤k) fun k _ hk => .inl hk).trans (hf.mono (F':=fun k => k=g∨w.heap.size≤k) fun k _ hk => .inr (hnv k hk)) |>.mono fun k hk h => ?_
  rcases h with h | h
  · exact h
  · omega
theorem TsAt.go (h:TsAt w u g s t av cv vs) (hg:g < w.heap.size) (hr:TkAt u1 g s t') (hf1:Frm (fun k => k=g) u u1):TsAt w u1 g s t' av cv vs :=
  ⟨hr,h.own.frm hf1 fun k hk _ e => h.apart hg (by subst e;exact hk),h.frm.trans hf1⟩
end
set_option maxRecDepth 100000 in
set_option maxHeartbeats 4000000 in
theorem tkeach_any (w:World) (g:Nat) (s:ByteArray) (t:Tk) (h:TkAt w g s t) (hs:s.size≤281474976710648) (k:Int) (hk:1≤k∧k≤3) (hk2:k ≠ 2) (e:Nat) (he1:e ≠ 1) (he2:e ≠ 2) (many:Nat) (hm:many≤4096) :
    Calls Tryz.prog 64 #[.pointer (some ⟨g,0,none⟩),.int .i64 (e:Int),.int .i64 k,.int .i64 (many:Int)] w fun ex w' => ∃ a cap,ex=.returned (.slice a (tkWords s.data.toList k many t []).1.length cap)∧OwnV w.heap.size w' a cap (tkWords s.data.toList k many t []).1∧TkAt w' g s (tkWords s.data.toList k many t []).2∧Frm (fun k => k=g) w w':=by
  obtain ⟨R,hR⟩:∃ R,R=tkWords s.data.toList k many t []:=⟨_,rfl⟩
  rw [← hR]
  have T:=Lib.hid (fun (u:World) (t:Tk) (h:TkAt u g s t) => tkvalue_any u g s t h hs k hk)
  have H0:Hid (TsAt w w g s t none 0 []):=⟨h,OwnV.nil _ _,Frm.refl _ _⟩
  have HE0:Hid (tkWords s.data.toList k (many - 0) t []=R):=by unfold Hid;rw [hR];rfl
  have HG:=Lib.hid h.lt
  have HM:=Lib.hid hm
  have q1:((e:Int) == 1)=false:=by simpa using (by omega:¬ (e:Int)=1)
  have q2:((e:Int) == 2)=false:=by simpa using (by omega:¬ (e:Int)=2)
  have q3:(k == 2)=false:=by simpa using hk2
  clear hR h hk hk2 he1 he2
  go_enter Tryz.func64,Tryz.ntmps64
  go_wp2
  go_loopw [9,22] (fun vv iv wr => ∃ (i cv:Nat) (av:Option Addr) (vs:List V) (t:Tk),i≤many∧vv=.slice av vs.length cv∧iv=.int .i64 i∧Hid (vs.length=i)∧Hid (tkWords s.data.toList k (many - i) t vs=R)∧Hid (TsAt w wr g s t av cv vs)) (fun _ iv _ => many - (intOf iv).toNat)
  case atStart => exact ⟨0,0,none,[],t,Nat.zero_le _,rfl,rfl,rfl,HE0,H0⟩
  case round =>
    obtain ⟨i,cv,av,vs,t,hi,rfl,rfl,HLN,HE,HC⟩:=hrel
    obtain ⟨⟨c0,c1,c2⟩,f0,f1,f2⟩:=HC.out.rd.at
    by_cases c:i < many
    · have hci:(i:Int) < (many:Int):=by omega
      cases hb:t.bad with
      | true =>
        rw [hb] at c2
        have hR:R=(vs,t):=by
          rw [← HE.out,show many - i=(many - i - 1) + 1 by omega,tkWords,if_pos hb]
        subst hR
        go_wp2
        go_ret
        exact ⟨av,cv,rfl,HC.out.own,HC.out.rd,HC.out.frm⟩
      | false =>
        rw [hb] at c2
        have HN:Hid (tkWords s.data.toList k (many - (i + 1)) (tkValue s.data.toList t k).2 (vs ++ [(tkValue s.data.toList t k).1])=R):=by
          unfold Hid
          rw [← HE.out,show many - i=(many - (i + 1)) + 1 by omega,tkWords,if_neg (by rw [hb];simp)]
        have T1:=Lib.hid (T.out wr t HC.out.rd)
        generalize tkValue s.data.toList t k=r at *
        obtain ⟨v,t'⟩:=r
        simp only at HN T1
        have hwb:vs.length≤3518437208882:=by have:=HM.out;have:=HLN.out;omega
        have HWB:=Lib.hid hwb
        clear hwb
        go_upto_region 13 with fail
        go_wp2_with (first
          | (go_at_call 101;refine T1.out.mono ?_;rintro e w5 ⟨rfl,hr5,hf5⟩;have HR5:=Lib.hid hr5;have HF5:=Lib.hid hf5;have HO5:=Lib.hid (HC.out.go HG.out hr5 hf5).own;clear hr5 hf5 c0 c1 c2 f0 f1 f2)
          | (at_builtin;refine wp_val HO5.out (by have:=HC.out.frm.size;have:=HF5.out.size;omega) HWB.out rfl _ _ rfl v rfl rfl ?_;intro av' cv' u6 ho hf _;have HFIN:=Lib.hid (HC.out.val HG.out HR5.out HF5.out ho hf);clear ho hf))
        have HLN2:Hid ((vs ++ [v]).length=i + 1):=by unfold Hid;rw [List.length_append,HLN.out];rfl
        go_roundw
        case rel => exact ⟨i + 1,cv',av',vs ++ [v],t',c,by simp,by go_num,HLN2,HN,HFIN⟩
        case measure => simp [intOf];omega
    · obtain rfl:i=many:=by omega
      have hR:R=(vs,t):=by rw [← HE.out,Nat.sub_self];rfl
      subst hR
      go_wp2
      go_ret
      exact ⟨av,cv,rfl,HC.out.own,HC.out.rd,HC.out.frm⟩
def tkTruth (x:Int):V:=⟨2,0,decide (x=1),ByteArray.empty⟩
set_option maxRecDepth 100000 in
set_option maxHeartbeats 4000000 in
theorem tkbools_any (w:World) (g:Nat) (s:ByteArray) (t:Tk) (h:TkAt w g s t) (hs:s.size≤281474976710648) (e:Nat) (he1:e ≠ 1) (he2:e ≠ 2) (many:Nat) (hm:many≤4096) :
    Calls Tryz.prog 64 #[.pointer (some ⟨g,0,none⟩),.int .i64 (e:Int),.int .i64 2,.int .i64 (many:Int)] w fun ex w' => ∃ a cap,ex=.returned (.slice a ((tkPacked s.data.toList t many 1).1.map tkTruth).length cap)∧OwnV w.heap.size w' a cap ((tkPacked s.data.toList t many 1).1.map tkTruth)∧TkAt w' g s (tkPacked s.data.toList t many 1).2∧Frm (fun k => k=g) w w':=by
  have T:=Lib.hid (fun (u:World) (h:TkAt u g s t) => tkpacked_any u g s t h hs many 1 hm (by omega))
  have hlen:(tkPacked s.data.toList t many 1).1.length≤many:=by
    unfold tkPacked
    split
    · exact Nat.zero_le _
    · exact (unpack_len _ _ _).1
  generalize tkPacked s.data.toList t many 1=r at *
  obtain ⟨xs,t2⟩:=r
  have T:Hid (∀ u:World,TkAt u g s t→Calls Tryz.prog 63 #[.pointer (some ⟨g,0,none⟩),.int .i64 (many:Int),.int .i64 1] u fun e w' => ∃ a cap,e=.returned (.slice a xs.length cap)∧OwnI u.heap.size w' a cap xs∧TkAt w' g s t2∧Frm (fun k => k=g) u w'):=T
  simp only at hlen ⊢
  have hxl:xs.length≤4096:=Nat.le_trans hlen hm
  obtain ⟨R,hR⟩:∃ R,R=xs.map tkTruth:=⟨_,rfl⟩
  rw [← hR]
  have HR:=Lib.hid hR
  clear hR
  have HG:=Lib.hid h.lt
  have H:=Lib.hid h
  have q1:((e:Int) == 1)=false:=by simpa using (by omega:¬ (e:Int)=1)
  have q2:((e:Int) == 2)=false:=by simpa using (by omega:¬ (e:Int)=2)
  clear hlen hm he1 he2 h
  go_enter Tryz.func64,Tryz.ntmps64
  go_wp2_with (go_at_call 63;refine (T.out w H.out).mono ?_;rintro e w1 ⟨ax,cx,rfl,hx,hr1,hf1⟩;have HX0:=Lib.hid hx;have HC0:Hid (TsAt w w1 g s t2 none 0 []):=⟨hr1,OwnV.nil _ _,hf1⟩;clear hx hr1 hf1)
  go_loopw [9,21] (fun vv iv wr => ∃ (i cv:Nat) (av:Option Addr) (vs:List V),i≤xs.length∧vv=.slice av vs.length cv∧iv=.int .i64 i∧Hid (vs=(xs.take i).map tkTruth)∧Hid (OwnI w.heap.size wr ax cx xs)∧Hid (TsAt w wr g s t2 av cv vs)) (fun _ iv _ => xs.length - (intOf iv).toNat)
  case atStart => exact ⟨0,0,none,[],Nat.zero_le _,rfl,rfl,rfl,HX0,HC0⟩
  case round =>
    obtain ⟨i,cv,av,vs,hi,rfl,rfl,HV,HX,HC⟩:=hrel
    by_cases c:i < xs.length
    · have hci:(i:Int) < (xs.length:Int):=by omega
      have HV2:Hid (vs ++ [tkTruth (xs.getD i 0)]=(xs.take (i + 1)).map tkTruth):=by
        unfold Hid
        rw [HV.out,List.take_add_one,List.map_append,getD_in c,List.getElem?_eq_getElem c];rfl
      have hwb:vs.length≤3518437208882:=by rw [HV.out,List.length_map,List.length_take];omega
      have HWB:=Lib.hid hwb
      have HXP:=Lib.hid (fun (k:Nat) (hk:At ax k) => apart_iv HX.out HC.out.own hk)
      obtain ⟨bb,off,hax,hxc⟩:=HX.out.isL.get c
      have HX1:=HX
      subst hax
      have HXX:=Lib.hid hxc
      clear hwb
      generalize hz:xs.getD i 0=z at *
      have HZ:=Lib.hid hz
      clear hz
      generalize hb:tkTruth z=y at *
      have HY:=Lib.hid hb
      clear hb
      obtain rfl:⟨2,0,z == 1,⟨#[]⟩⟩=y:=HY.out
      go_upto_region 8 with fail
      go_wp2_with (at_builtin;refine wp_val HC.out.own HC.out.frm.size HWB.out rfl _ _ rfl ⟨2,0,z == 1,⟨#[]⟩⟩ rfl rfl ?_;intro av' cv' u6 ho hf _;have HFIN:=Lib.hid (HC.out.val HG.out HC.out.rd (Frm.refl _ _) ho hf);have HX6:=Lib.hid (OwnI.frm HX1.out hf fun k hk _ e => HXP.out k hk e);clear ho hf)
      go_roundw
      case rel => exact ⟨i + 1,cv',av',vs ++ [⟨2,0,z == 1,⟨#[]⟩⟩],c,by simp,by go_num,HV2,HX6,HFIN⟩
      case measure => simp [intOf];omega
    · obtain rfl:i=xs.length:=by omega
      obtain rfl:R=vs:=by rw [HR.out,HV.out,List.take_length]
      go_wp2
      go_ret
      exact ⟨av,cv,rfl,HC.out.own,HC.out.rd,HC.out.frm⟩
end Go.Proofs.YtfbmlefhjoblbaaGreat
namespace Go.Proofs.YtfbmlefhjoblbaaGreat
open Go.Conc Go.RowKit
set_option linter.unusedVariables false
set_option linter.unusedSimpArgs false
structure TrAt (w wr:World) (g:Nat) (s:ByteArray) (t:Tk) (b:Nat) (v:V) (av:Option Addr) (cv:Nat) (L:List V):Prop where
  ts:TsAt w wr g s t av cv L
  slot:Slot wr b v
  apart:¬ At av b
theorem TrAt.more {w u u':World} {g b cv cv':Nat} {s:ByteArray} {t:Tk} {v:V} {av av':Option Addr} {L:List V} (h:TrAt w u g s t b v av cv L) (hg:g < w.heap.size) (ho:OwnV w.heap.size u' av' cv' (L ++ [v])) (hf:Frm (At av) u u')
    (hn:∀ k,At av' k→At av k∨u.heap.size < k):TrAt w u' g s t b v av' cv' (L ++ [v]) :=
  ⟨h.ts.val hg h.ts.rd (Frm.refl _ _) ho hf,h.slot.same (hf.block b h.slot.lt h.apart),fun hk => by
    rcases hn b hk with h1 | h1
    · exact h.apart h1
    · have:=h.slot.lt;omega⟩
set_option maxRecDepth 100000 in
set_option maxHeartbeats 8000000 in
theorem tkruns_any (w:World) (g:Nat) (s:ByteArray) (t:Tk) (h:TkAt w g s t) (hs:s.size≤281474976710648) (k:Int) (hk:1≤k∧k≤3) (many:Nat) (hm:many≤4096) :
    Calls Tryz.prog 64 #[.pointer (some ⟨g,0,none⟩),.int .i64 1,.int .i64 k,.int .i64 (many:Int)] w fun ex w' => ∃ a cap,ex=.returned (.slice a (tkRuns s.data.toList k many (tkNum s.data.toList t 4096).1 (tkNum s.data.toList t 4096).2 []).1.length cap)∧OwnV w.heap.size w' a cap (tkRuns s.data.toList k many (tkNum s.data.toList t 4096).1 (tkNum s.data.toList t 4096).2 []).1∧TkAt w' g s (tkRuns s.data.toList k many (tkNum s.data.toList t 4096).1 (tkNum s.data.toList t 4096).2 []).2∧Frm (fun k => k=g) w w':=by
  have TN:=Lib.hid (fun (u:World) (t:Tk) (h:TkAt u g s t) => tknum_any u g s t h hs 4096 (by omega))
  have TV:=Lib.hid (fun (u:World) (t:Tk) (h:TkAt u g s t) => tkvalue_any u g s t h hs k hk)
  have T0:=Lib.hid (TN.out w t h)
  have hr4:=tkNum_most s.data.toList t 4096
  generalize tkNum s.data.toList t 4096=r at *
  obtain ⟨r,t0⟩:=r
  have T0:Hid (Calls Tryz.prog 62 #[.pointer (some ⟨g,0,none⟩),.int .i64 4096] w fun e w' => e=.returned (.int .i64 (r:Int))∧TkAt w' g s t0∧Frm (fun k => k=g) w w'):=T0
  simp only at hr4 ⊢
  obtain ⟨R,hR⟩:∃ R,R=tkRuns s.data.toList k many r t0 []:=⟨_,rfl⟩
  rw [← hR]
  have HE0:Hid (tkRuns s.data.toList k many (r - 0) t0 []=R):=by unfold Hid;rw [hR];rfl
  have HG:=Lib.hid h.lt
  have HM:=Lib.hid hm
  have H:=Lib.hid h
  clear hR h
  go_enter Tryz.func64,Tryz.ntmps64
  go_wp2_with (go_at_call 62;refine T0.out.mono ?_;rintro e w1 ⟨rfl,hr1,hf1⟩;have HC0:Hid (TsAt w w1 g s t0 none 0 []):=⟨hr1,OwnV.nil _ _,hf1⟩;clear hr1 hf1)
  go_loopw [9,11] (fun vv iv wr => ∃ (i cv:Nat) (av:Option Addr) (vs:List V) (t:Tk),i≤r∧vv=.slice av vs.length cv∧iv=.int .i64 i∧Hid (vs.length≤many)∧Hid (tkRuns s.data.toList k many (r - i) t vs=R)∧Hid (TsAt w wr g s t av cv vs)) (fun _ iv _ => r - (intOf iv).toNat)
  case atStart => exact ⟨0,0,none,[],t0,Nat.zero_le _,rfl,rfl,Nat.zero_le _,HE0,HC0⟩
  case round =>
    obtain ⟨i,cv,av,vs,t,hi,rfl,rfl,HLN,HE,HC⟩:=hrel
    obtain ⟨⟨c0,c1,c2⟩,f0,f1,f2⟩:=HC.out.rd.at
    by_cases c:i < r
    · have hci:(i:Int) < (r:Int):=by omega
      cases hb:t.bad with
      | true =>
        rw [hb] at c2
        have hR:R=(vs,t):=by
          rw [← HE.out,show r - i=(r - i - 1) + 1 by omega,tkRuns,if_pos hb]
        subst hR
        go_wp2
        go_ret
        exact ⟨av,cv,rfl,HC.out.own,HC.out.rd,HC.out.frm⟩
      | false =>
        rw [hb] at c2
        have HN:Hid (tkRuns s.data.toList k many (r - (i + 1)) (tkValue s.data.toList (tkNum s.data.toList t 4096).2 k).2 (vs ++ List.replicate (min (tkNum s.data.toList t 4096).1 (many - vs.length)) (tkValue s.data.toList (tkNum s.data.toList t 4096).2 k).1)=R):=by
          unfold Hid
          rw [← HE.out,show r - i=(r - (i + 1)) + 1 by omega,tkRuns,if_neg (by rw [hb];simp)]
        have T1:=Lib.hid (TN.out wr t HC.out.rd)
        generalize tkNum s.data.toList t 4096=q at *
        obtain ⟨m,t1⟩:=q
        simp only at HN
        have T1:Hid (Calls Tryz.prog 62 #[.pointer (some ⟨g,0,none⟩),.int .i64 4096] wr fun e w' => e=.returned (.int .i64 (m:Int))∧TkAt w' g s t1∧Frm (fun k => k=g) wr w'):=T1
        have T2:=Lib.hid (fun (u:World) (h:TkAt u g s t1) => TV.out u t1 h)
        generalize tkValue s.data.toList t1 k=q at *
        obtain ⟨v,t2⟩:=q
        have T2:Hid (∀ u:World,TkAt u g s t1→Calls Tryz.prog 101 #[.pointer (some ⟨g,0,none⟩),.int .i64 k] u fun e w' => e=.returned (.agg #[.int .i64 v.k,.int .i64 v.i,.bool v.b,.string v.s])∧TkAt w' g s t2∧Frm (fun k => k=g) u w'):=T2
        simp only at HN
        go_upto_region 21 with (first
          | (go_at_call 62;refine T1.out.mono ?_;rintro e w4 ⟨rfl,hr4,hf4⟩;have HR4:=Lib.hid hr4;have HC4:=Lib.hid (HC.out.go HG.out hr4 hf4);clear hr4 hf4 c0 c1 c2 f0 f1 f2)
          | (go_at_call 101;refine (T2.out w4 HR4.out).mono ?_;rintro e w5 ⟨rfl,hr5,hf5⟩;have HC5:=Lib.hid (HC4.out.go HG.out hr5 hf5);clear hr5 hf5))
        have H6:Hid (TrAt w (w5.alloc (.cells #[.int .i64 v.k,.int .i64 v.i,.bool v.b,.string v.s] 24)) g s t2 w5.heap.size v av cv (vs ++ List.replicate 0 v)):=by
          unfold Hid
          rw [List.replicate_zero,List.append_nil]
          exact ⟨⟨HC5.out.rd.alloc _,HC5.out.own.alloc _,HC5.out.frm.alloc _⟩,Slot.new w5 v,fun hk => by have:=(HC5.out.own.at_ge hk).2;omega⟩
        clear HC4 HC5 HR4 HC
        generalize w5.alloc (.cells #[.int .i64 v.k,.int .i64 v.i,.bool v.b,.string v.s] 24)=w6 at *
        generalize w5.heap.size=b6 at *
        obtain ⟨n,hn⟩:∃ n,n=min m (many - vs.length):=⟨_,rfl⟩
        rw [← hn] at HN
        have HNN:=Lib.hid hn
        have hl0:=HLN.out
        have hn4:n≤4096:=by omega
        have hnm:n≤m:=by omega
        have hnv:vs.length + n≤many:=by omega
        have hnx:n=m∨vs.length + n=many:=by omega
        have HNX:=Lib.hid hnx
        have HNV:=Lib.hid hnv
        have HNM:=Lib.hid hnm
        clear hn hl0 hnm hnv hnx
        go_upto_region 22 with fail
        go_loopw [9,14] (fun vv jv wi => ∃ (j cj:Nat) (aj:Option Addr),j≤n∧vv=.slice aj (vs ++ List.replicate j v).length cj∧jv=.int .i64 j∧Hid (TrAt w wi g s t2 b6 v aj cj (vs ++ List.replicate j v))) (fun _ jv _ => n - (intOf jv).toNat)
        case atStart => exact ⟨0,cv,av,Nat.zero_le _,by simp,rfl,H6⟩
        case round =>
          obtain ⟨j,cj,aj,hj,rfl,rfl,HI⟩:=hrel
          by_cases d:j < n
          · have hL:vs ++ List.replicate (j + 1) v=(vs ++ List.replicate j v) ++ [v]:=by rw [List.replicate_succ',List.append_assoc]
            have HLL:=Lib.hid hL
            have hlen:(vs ++ List.replicate j v).length < many:=by rw [List.length_append,List.length_replicate];have:=HNV.out;omega
            have hlb:(vs ++ List.replicate j v).length≤3518437208882:=by have:=HM.out;omega
            have HLB:=Lib.hid hlb
            clear hL hlb
            generalize vs ++ List.replicate j v=L at *
            have hd1:(j:Int) < (m:Int):=by have:=HNM.out;omega
            have hd2:(L.length:Int) < (many:Int):=by omega
            obtain ⟨⟨v0,v1,v2,v3⟩,_⟩:=HI.out.slot.at
            go_wp2_with (at_builtin;refine wp_val HI.out.ts.own HI.out.ts.frm.size HLB.out rfl _ _ rfl v rfl rfl ?_;intro av' cv' u6 ho hf hn;have HFIN:=Lib.hid (HI.out.more HG.out ho hf hn);clear ho hf hn)
            go_roundw
            case rel => exact ⟨j + 1,cv',av',d,by rw [HLL.out];simp,by go_num,by rw [HLL.out];exact HFIN⟩
            case measure => simp [intOf];omega
          · obtain rfl:j=n:=by omega
            have HLN2:Hid ((vs ++ List.replicate j v).length≤many):=by unfold Hid;rw [List.length_append,List.length_replicate];exact HNV.out
            have HFIN:Hid (TsAt w _ g s t2 aj cj (vs ++ List.replicate j v)):=HI.out.ts
            by_cases dm:j < m
            · have hlen:(vs ++ List.replicate j v).length=many:=by
                rw [List.length_append,List.length_replicate];have:=HNX.out;omega
              have hd1:(j:Int) < (m:Int):=by omega
              have hd2:¬ ((vs ++ List.replicate j v).length:Int) < (many:Int):=by omega
              have hd3:decide (((vs ++ List.replicate j v).length:Int) < (many:Int))=false:=decide_eq_false hd2
              clear hlen d
              generalize vs ++ List.replicate j v=L at *
              go_wp2
              go_roundw
              case rel => exact ⟨i + 1,cj,aj,L,t2,c,rfl,by go_num,HLN2,HN,HFIN⟩
              case measure => simp [intOf];omega
            · have hd1:¬ (j:Int) < (m:Int):=by omega
              have hd3:decide ((j:Int) < (m:Int))=false:=decide_eq_false hd1
              clear d
              generalize vs ++ List.replicate j v=L at *
              go_wp2
              go_roundw
              case rel => exact ⟨i + 1,cj,aj,L,t2,c,rfl,by go_num,HLN2,HN,HFIN⟩
              case measure => simp [intOf];omega
    · obtain rfl:i=r:=by omega
      have hR:R=(vs,t):=by rw [← HE.out,Nat.sub_self];rfl
      subst hR
      go_wp2
      go_ret
      exact ⟨av,cv,rfl,HC.out.own,HC.out.rd,HC.out.frm⟩
end Go.Proofs.YtfbmlefhjoblbaaGreat
namespace Go.Proofs.YtfbmlefhjoblbaaGreat
open Go.Conc Go.RowKit
set_option linter.unusedVariables false
set_option linter.unusedSimpArgs false
structure TkwAt (w wr:World) (g:Nat) (s:ByteArray) (t:Tk) (aw:Option Addr) (cw:Nat) (ws:List V) (ax:Option Addr) (cx:Nat) (xs:List Int) (av:Option Addr) (cv:Nat) (vs:List V):Prop where
  ts:TsAt w wr g s t av cv vs
  words:OwnV w.heap.size wr aw cw ws
  ints:OwnI w.heap.size wr ax cx xs
  apart:∀ k,At av k→¬ At aw k
theorem TkwAt.more {w u u':World} {g cv cv' cw cx:Nat} {s:ByteArray} {t:Tk} {v:V} {av av' aw ax:Option Addr} {vs ws:List V} {xs:List Int} (h:TkwAt w u g s t aw cw ws ax cx xs av cv vs) (hg:g < w.heap.size) (ho:OwnV w.heap.size u' av' cv' (vs ++ [v])) (hf:Frm (At av) u u')
    (hn:∀ k,At av' k→At av k∨u.heap.size < k):TkwAt w u' g s t aw cw ws ax cx xs av' cv' (vs ++ [v]) :=
  ⟨h.ts.val hg h.ts.rd (Frm.refl _ _) ho hf,h.words.frm hf fun k hk _ e => h.apart k e hk,h.ints.frm hf fun k hk _ e => apart_iv h.ints h.ts.own hk e,fun k hk ha => by
    rcases hn k hk with h1 | h1
    · exact h.apart k h1 ha
    · have:=(h.words.at_ge ha).2;omega⟩
theorem TkwAt.brk {w u:World} {g cv cw cx:Nat} {s:ByteArray} {t:Tk} {av aw ax:Option Addr} {vs ws:List V} {xs:List Int} (h:TkwAt w u g s t aw cw ws ax cx xs av cv vs) (hg:g < w.heap.size):TsAt w (u.setCell ⟨g,2,none⟩ (.bool true)) g s ⟨t.pos,true⟩ av cv vs :=
  h.ts.go hg h.ts.rd.brk (frm_cell u g 2 _)
set_option maxRecDepth 100000 in
set_option maxHeartbeats 8000000 in
theorem tkwords_any (w:World) (g:Nat) (s:ByteArray) (t:Tk) (h:TkAt w g s t) (hs:s.size≤281474976710648) (k:Int) (hk:1≤k∧k≤3) (many:Nat) (hm:many≤4096) :
    Calls Tryz.prog 64 #[.pointer (some ⟨g,0,none⟩),.int .i64 2,.int .i64 k,.int .i64 (many:Int)] w fun ex w' => ∃ a cap,ex=.returned (.slice a (tkSome s.data.toList t 2 k many).1.length cap)∧OwnV w.heap.size w' a cap (tkSome s.data.toList t 2 k many).1∧TkAt w' g s (tkSome s.data.toList t 2 k many).2∧Frm (fun k => k=g) w w':=by
  have TN:=Lib.hid (fun (u:World) (t:Tk) (h:TkAt u g s t) => tknum_any u g s t h hs 4096 (by omega))
  have TV:=Lib.hid (fun (u:World) (t:Tk) (h:TkAt u g s t) => tkvalue_any u g s t h hs k hk)
  have T0:=Lib.hid (TN.out w t h)
  have hr4:=tkNum_most s.data.toList t 4096
  obtain ⟨R,hR⟩:∃ R,R=tkSome s.data.toList t 2 k many:=⟨_,rfl⟩
  rw [← hR]
  unfold tkSome at hR
  rw [if_neg (by decide),if_pos rfl] at hR
  generalize tkNum s.data.toList t 4096=r at *
  obtain ⟨r,t0⟩:=r
  have T0:Hid (Calls Tryz.prog 62 #[.pointer (some ⟨g,0,none⟩),.int .i64 4096] w fun e w' => e=.returned (.int .i64 (r:Int))∧TkAt w' g s t0∧Frm (fun k => k=g) w w'):=T0
  simp only at hr4 hR
  obtain ⟨W,hW⟩:∃ W,W=tkWords s.data.toList k r t0 []:=⟨_,rfl⟩
  rw [← hW] at hR
  have HE0:Hid (tkWords s.data.toList k (r - 0) t0 []=W):=by unfold Hid;rw [hW];rfl
  clear hW
  have hwd:=wid_most hr4
  obtain ⟨wd,hwe⟩:∃ wd,wd=wid (r - 1):=⟨_,rfl⟩
  rw [← hwe] at hR hwd
  have TWD:Hid (∀ u:World,Calls Tryz.prog 88 #[.int .i64 ((r:Int) - 1)] u fun e w' => e=.returned (.int .i64 (wd:Int))∧u=w'):=fun u => by
    have h:=rwidth_any ((r:Int) - 1) (by omega) u
    rw [show ((r:Int) - 1).toNat=r - 1 by omega,← hwe] at h
    exact h
  have TP:=Lib.hid (fun (u:World) (t:Tk) (h:TkAt u g s t) => tkpacked_any u g s t h hs many wd hm (by omega))
  have hxl:(tkPacked s.data.toList W.2 many wd).1.length≤many:=by
    unfold tkPacked
    split
    · exact Nat.zero_le _
    · exact (unpack_len _ _ _).1
  have hxn:∀ x ∈ (tkPacked s.data.toList W.2 many wd).1,0≤x:=by
    unfold tkPacked
    split
    · intro x hx;cases hx
    · exact fun x hx => (unpack_digits _ _ _ x hx).1
  have T3:=Lib.hid (fun (u:World) (h:TkAt u g s W.2) => TP.out u W.2 h)
  generalize tkPacked s.data.toList W.2 many wd=q at *
  obtain ⟨xs,t3⟩:=q
  have T3:Hid (∀ u:World,TkAt u g s W.2→Calls Tryz.prog 63 #[.pointer (some ⟨g,0,none⟩),.int .i64 (many:Int),.int .i64 (wd:Int)] u fun e w' => ∃ a cap,e=.returned (.slice a xs.length cap)∧OwnI u.heap.size w' a cap xs∧TkAt w' g s t3∧Frm (fun k => k=g) u w'):=T3
  simp only at hxl hxn hR
  have HR:=Lib.hid hR
  have HXN:=Lib.hid hxn
  have HG:=Lib.hid h.lt
  have H:=Lib.hid h
  have hx4:xs.length≤4096:=by omega
  have e1:wrap64 ((r:Int) - 1)=(r:Int) - 1:=by unfold wrap64;omega
  have E1:=Lib.hid e1
  clear hR h hwd hwe hxl hxn TP e1
  go_enter Tryz.func64,Tryz.ntmps64
  go_wp2_with (go_at_call 62;refine T0.out.mono ?_;rintro e w1 ⟨rfl,hr1,hf1⟩;have HC0:Hid (TsAt w w1 g s t0 none 0 []):=⟨hr1,OwnV.nil _ _,hf1⟩;clear hr1 hf1)
  go_loopw [16,17] (fun vv iv wr => ∃ (i cv:Nat) (av:Option Addr) (vs:List V) (t:Tk),i≤r∧vv=.slice av vs.length cv∧iv=.int .i64 i∧Hid (vs.length=i)∧Hid (tkWords s.data.toList k (r - i) t vs=W)∧Hid (TsAt w wr g s t av cv vs)) (fun _ iv _ => r - (intOf iv).toNat)
  case atStart => exact ⟨0,0,none,[],t0,Nat.zero_le _,rfl,rfl,rfl,HE0,HC0⟩
  case round =>
    obtain ⟨i,cv,av,vs,t,hi,rfl,rfl,HLN,HE,HC⟩:=hrel
    obtain ⟨⟨c0,c1,c2⟩,f0,f1,f2⟩:=HC.out.rd.at
    by_cases hgo:i < r∧t.bad=false
    · obtain ⟨c,hb⟩:=hgo
      have hci:(i:Int) < (r:Int):=by omega
      rw [hb] at c2
      have HN:Hid (tkWords s.data.toList k (r - (i + 1)) (tkValue s.data.toList t k).2 (vs ++ [(tkValue s.data.toList t k).1])=W):=by
        unfold Hid
        rw [← HE.out,show r - i=(r - (i + 1)) + 1 by omega,tkWords,if_neg (by rw [hb];simp)]
      have T1:=Lib.hid (TV.out wr t HC.out.rd)
      generalize tkValue s.data.toList t k=q at *
      obtain ⟨v,t'⟩:=q
      simp only at HN T1
      have hwb:vs.length≤3518437208882:=by have:=HLN.out;omega
      have HWB:=Lib.hid hwb
      clear hwb
      go_upto_region 31 with fail
      go_wp2_with (first
        | (go_at_call 101;refine T1.out.mono ?_;rintro e w5 ⟨rfl,hr5,hf5⟩;have HR5:=Lib.hid hr5;have HF5:=Lib.hid hf5;have HO5:=Lib.hid (HC.out.go HG.out hr5 hf5).own;clear hr5 hf5 c0 c1 c2 f0 f1 f2)
        | (at_builtin;refine wp_val HO5.out (by have:=HC.out.frm.size;have:=HF5.out.size;omega) HWB.out rfl _ _ rfl v rfl rfl ?_;intro av' cv' u6 ho hf _;have HFIN:=Lib.hid (HC.out.val HG.out HR5.out HF5.out ho hf);clear ho hf))
      have HLN2:Hid ((vs ++ [v]).length=i + 1):=by unfold Hid;rw [List.length_append,HLN.out];rfl
      go_roundw
      case rel => exact ⟨i + 1,cv',av',vs ++ [v],t',c,by simp,by go_num,HLN2,HN,HFIN⟩
      case measure => simp [intOf];omega
    · have hcase:(i < r∧t.bad=true)∨i=r:=by
        by_cases c:i < r
        · exact .inl ⟨c,by cases hb:t.bad;exact absurd ⟨c,hb⟩ hgo;rfl⟩
        · exact .inr (by omega)
      have hW:W=(vs,t):=by
        rw [← HE.out]
        rcases hcase with ⟨c,hb⟩ | c
        · rw [show r - i=(r - i - 1) + 1 by omega,tkWords,if_pos hb]
        · rw [show r - i=0 by omega];rfl
      subst hW
      simp only at T3 HR
      clear HE HLN hgo
      have e1:=E1.out
      rcases hcase with ⟨c,hb⟩ | rfl
      · have hci:(i:Int) < (r:Int):=by omega
        rw [hb] at c2
        go_wp2_with (first
          | (go_at_call 88;refine (TWD.out _).mono ?_;rintro e w6 ⟨rfl,rfl⟩)
          | (go_at_call 63;refine (T3.out wr HC.out.rd).mono ?_;rintro e w7 ⟨ax,cx,rfl,ho,hr7,hf7⟩;have HC7:=Lib.hid (HC.out.go HG.out hr7 hf7);have HT0:Hid (TkwAt w w7 g s t3 av cv vs ax cx xs none 0 []):=⟨⟨hr7,OwnV.nil _ _,HC7.out.frm⟩,HC7.out.own,OwnI.lower ho HC.out.frm.size,fun k hk => by cases hk⟩;clear ho hr7 hf7))
        clear HC HC7 c0 c1 c2 f0 f1 f2
        cases hb3:t3.bad with
        | true =>
          obtain rfl:R=([],t3):=by rw [HR.out,if_pos hb3]
          go_loopw [9,19] (fun vv iv wr => vv=.slice none 0 0∧iv=.int .i64 0∧Hid (TkwAt w wr g s t3 av cv vs ax cx xs none 0 [])) (fun _ _ _ => 0)
          case atStart => exact ⟨rfl,rfl,HT0⟩
          case round =>
            obtain ⟨rfl,rfl,HT⟩:=hrel
            obtain ⟨⟨c0,c1,c2⟩,f0,f1,f2⟩:=HT.out.ts.rd.at
            rw [hb3] at c2
            by_cases cx0:0 < xs.length
            · have cxi:(0:Int) < (xs.length:Int):=by omega
              go_wp2
              go_ret
              exact ⟨none,0,rfl,OwnV.nil _ _,HT.out.ts.rd,HT.out.ts.frm⟩
            · have cxi:¬ (0:Int) < (xs.length:Int):=by omega
              go_wp2
              go_ret
              exact ⟨none,0,rfl,OwnV.nil _ _,HT.out.ts.rd,HT.out.ts.frm⟩
        | false =>
          obtain ⟨Q,hQ⟩:∃ Q,Q=tkPick vs xs []:=⟨_,rfl⟩
          have HR2:Hid (R=(Q.1,⟨t3.pos,Q.2⟩)):=by unfold Hid;rw [HR.out,if_neg (by rw [hb3];simp),hQ]
          have HQ0:Hid (tkPick vs (xs.drop 0) []=Q):=by unfold Hid;rw [hQ];rfl
          clear hQ
          generalize hws:vs=ws at *
          generalize av=aw at *
          generalize cv=cw at *
          clear hws HR
          go_loopw [9,19] (fun vv iv wr => ∃ (i cv:Nat) (av:Option Addr) (us:List V),i≤xs.length∧vv=.slice av us.length cv∧iv=.int .i64 i∧Hid (us.length=i)∧Hid (tkPick ws (xs.drop i) us=Q)∧Hid (TkwAt w wr g s t3 aw cw ws ax cx xs av cv us)) (fun _ iv _ => xs.length - (intOf iv).toNat)
          case atStart => exact ⟨0,0,none,[],Nat.zero_le _,rfl,rfl,rfl,HQ0,HT0⟩
          case round =>
            obtain ⟨n,cu,au,us,hn,rfl,rfl,HUN,HQ,HT⟩:=hrel
            obtain ⟨⟨c0,c1,c2⟩,f0,f1,f2⟩:=HT.out.ts.rd.at
            rw [hb3] at c2
            by_cases d:n < xs.length
            · have hdi:(n:Int) < (xs.length:Int):=by omega
              have hdrop:xs.drop n=xs.getD n 0 :: xs.drop (n + 1):=by rw [getD_in d];exact List.drop_eq_getElem_cons d
              have hx0:0≤xs.getD n 0:=by rw [getD_in d];exact HXN.out _ (List.getElem_mem _)
              obtain ⟨bx,ox,hax,hxc⟩:=HT.out.ints.isL.get d
              subst hax
              generalize xs.getD n 0=x at *
              obtain ⟨y,rfl⟩:∃ y:Nat,x=y:=⟨x.toNat,by omega⟩
              by_cases dw:y < ws.length
              · have HN:Hid (tkPick ws (xs.drop (n + 1)) (us ++ [ws.getD y zeroV])=Q):=by
                  unfold Hid
                  rw [← HQ.out,hdrop,tkPick,if_neg (by omega),Int.toNat_natCast]
                have hdw:(y:Int) < (ws.length:Int):=by omega
                have hdw2:¬ (ws.length:Int)≤(y:Int):=by omega
                obtain ⟨bw,ow,haw,hval⟩:=HT.out.words.isV.get dw
                subst haw
                generalize ws.getD y zeroV=v at *
                obtain ⟨v0,v1,v2,v3⟩:=hval
                have hwb:us.length≤3518437208882:=by have:=HUN.out;omega
                have HWB:=Lib.hid hwb
                clear hwb hdrop hx0
                go_wp2_with (at_builtin;refine wp_val HT.out.ts.own HT.out.ts.frm.size HWB.out rfl _ _ rfl v rfl rfl ?_;intro av' cv' u6 ho hf hn2;have HFIN:=Lib.hid (HT.out.more HG.out ho hf hn2);clear ho hf hn2)
                have HUN2:Hid ((us ++ [v]).length=n + 1):=by unfold Hid;rw [List.length_append,HUN.out];rfl
                go_roundw
                case rel => exact ⟨n + 1,cv',av',us ++ [v],d,by simp,by go_num,HUN2,HN,HFIN⟩
                case measure => simp [intOf];omega
              · have hdw2:(ws.length:Int)≤(y:Int):=by omega
                obtain rfl:Q=(us,true):=by rw [← HQ.out,hdrop,tkPick,if_pos hdw2]
                obtain rfl:R=(us,⟨t3.pos,true⟩):=HR2.out
                clear hdrop hx0
                go_wp2
                go_ret
                have hfin:=HT.out.brk HG.out
                exact ⟨au,cu,rfl,hfin.own,hfin.rd,hfin.frm⟩
            · obtain rfl:n=xs.length:=by omega
              obtain rfl:Q=(us,false):=by rw [← HQ.out,List.drop_length];rfl
              obtain rfl:R=(us,t3):=by rw [HR2.out];cases t3;simp only at hb3;rw [hb3]
              go_wp2
              go_ret
              exact ⟨au,cu,rfl,HT.out.ts.own,HT.out.ts.rd,HT.out.ts.frm⟩
      · go_wp2_with (first
          | (go_at_call 88;refine (TWD.out _).mono ?_;rintro e w6 ⟨rfl,rfl⟩)
          | (go_at_call 63;refine (T3.out wr HC.out.rd).mono ?_;rintro e w7 ⟨ax,cx,rfl,ho,hr7,hf7⟩;have HC7:=Lib.hid (HC.out.go HG.out hr7 hf7);have HT0:Hid (TkwAt w w7 g s t3 av cv vs ax cx xs none 0 []):=⟨⟨hr7,OwnV.nil _ _,HC7.out.frm⟩,HC7.out.own,OwnI.lower ho HC.out.frm.size,fun k hk => by cases hk⟩;clear ho hr7 hf7))
        clear HC HC7 c0 c1 c2 f0 f1 f2
        cases hb3:t3.bad with
        | true =>
          obtain rfl:R=([],t3):=by rw [HR.out,if_pos hb3]
          go_loopw [9,19] (fun vv iv wr => vv=.slice none 0 0∧iv=.int .i64 0∧Hid (TkwAt w wr g s t3 av cv vs ax cx xs none 0 [])) (fun _ _ _ => 0)
          case atStart => exact ⟨rfl,rfl,HT0⟩
          case round =>
            obtain ⟨rfl,rfl,HT⟩:=hrel
            obtain ⟨⟨c0,c1,c2⟩,f0,f1,f2⟩:=HT.out.ts.rd.at
            rw [hb3] at c2
            by_cases cx0:0 < xs.length
            · have cxi:(0:Int) < (xs.length:Int):=by omega
              go_wp2
              go_ret
              exact ⟨none,0,rfl,OwnV.nil _ _,HT.out.ts.rd,HT.out.ts.frm⟩
            · have cxi:¬ (0:Int) < (xs.length:Int):=by omega
              go_wp2
              go_ret
              exact ⟨none,0,rfl,OwnV.nil _ _,HT.out.ts.rd,HT.out.ts.frm⟩
        | false =>
          obtain ⟨Q,hQ⟩:∃ Q,Q=tkPick vs xs []:=⟨_,rfl⟩
          have HR2:Hid (R=(Q.1,⟨t3.pos,Q.2⟩)):=by unfold Hid;rw [HR.out,if_neg (by rw [hb3];simp),hQ]
          have HQ0:Hid (tkPick vs (xs.drop 0) []=Q):=by unfold Hid;rw [hQ];rfl
          clear hQ
          generalize hws:vs=ws at *
          generalize av=aw at *
          generalize cv=cw at *
          clear hws HR
          go_loopw [9,19] (fun vv iv wr => ∃ (i cv:Nat) (av:Option Addr) (us:List V),i≤xs.length∧vv=.slice av us.length cv∧iv=.int .i64 i∧Hid (us.length=i)∧Hid (tkPick ws (xs.drop i) us=Q)∧Hid (TkwAt w wr g s t3 aw cw ws ax cx xs av cv us)) (fun _ iv _ => xs.length - (intOf iv).toNat)
          case atStart => exact ⟨0,0,none,[],Nat.zero_le _,rfl,rfl,rfl,HQ0,HT0⟩
          case round =>
            obtain ⟨n,cu,au,us,hn,rfl,rfl,HUN,HQ,HT⟩:=hrel
            obtain ⟨⟨c0,c1,c2⟩,f0,f1,f2⟩:=HT.out.ts.rd.at
            rw [hb3] at c2
            by_cases d:n < xs.length
            · have hdi:(n:Int) < (xs.length:Int):=by omega
              have hdrop:xs.drop n=xs.getD n 0 :: xs.drop (n + 1):=by rw [getD_in d];exact List.drop_eq_getElem_cons d
              have hx0:0≤xs.getD n 0:=by rw [getD_in d];exact HXN.out _ (List.getElem_mem _)
              obtain ⟨bx,ox,hax,hxc⟩:=HT.out.ints.isL.get d
              subst hax
              generalize xs.getD n 0=x at *
              obtain ⟨y,rfl⟩:∃ y:Nat,x=y:=⟨x.toNat,by omega⟩
              by_cases dw:y < ws.length
              · have HN:Hid (tkPick ws (xs.drop (n + 1)) (us ++ [ws.getD y zeroV])=Q):=by
                  unfold Hid
                  rw [← HQ.out,hdrop,tkPick,if_neg (by omega),Int.toNat_natCast]
                have hdw:(y:Int) < (ws.length:Int):=by omega
                have hdw2:¬ (ws.length:Int)≤(y:Int):=by omega
                obtain ⟨bw,ow,haw,hval⟩:=HT.out.words.isV.get dw
                subst haw
                generalize ws.getD y zeroV=v at *
                obtain ⟨v0,v1,v2,v3⟩:=hval
                have hwb:us.length≤3518437208882:=by have:=HUN.out;omega
                have HWB:=Lib.hid hwb
                clear hwb hdrop hx0
                go_wp2_with (at_builtin;refine wp_val HT.out.ts.own HT.out.ts.frm.size HWB.out rfl _ _ rfl v rfl rfl ?_;intro av' cv' u6 ho hf hn2;have HFIN:=Lib.hid (HT.out.more HG.out ho hf hn2);clear ho hf hn2)
                have HUN2:Hid ((us ++ [v]).length=n + 1):=by unfold Hid;rw [List.length_append,HUN.out];rfl
                go_roundw
                case rel => exact ⟨n + 1,cv',av',us ++ [v],d,by simp,by go_num,HUN2,HN,HFIN⟩
                case measure => simp [intOf];omega
              · have hdw2:(ws.length:Int)≤(y:Int):=by omega
                obtain rfl:Q=(us,true):=by rw [← HQ.out,hdrop,tkPick,if_pos hdw2]
                obtain rfl:R=(us,⟨t3.pos,true⟩):=HR2.out
                clear hdrop hx0
                go_wp2
                go_ret
                have hfin:=HT.out.brk HG.out
                exact ⟨au,cu,rfl,hfin.own,hfin.rd,hfin.frm⟩
            · obtain rfl:n=xs.length:=by omega
              obtain rfl:Q=(us,false):=by rw [← HQ.out,List.drop_length];rfl
              obtain rfl:R=(us,t3):=by rw [HR2.out];cases t3;simp only at hb3;rw [hb3]
              go_wp2
              go_ret
              exact ⟨au,cu,rfl,HT.out.ts.own,HT.out.ts.rd,HT.out.ts.frm⟩
theorem tksome_any (w:World) (g:Nat) (s:ByteArray) (t:Tk) (h:TkAt w g s t) (hs:s.size≤281474976710648) (e:Nat) (k:Int) (hk:1≤k∧k≤3) (many:Nat) (hm:many≤4096) :
    Calls Tryz.prog 64 #[.pointer (some ⟨g,0,none⟩),.int .i64 (e:Int),.int .i64 k,.int .i64 (many:Int)] w fun ex w' => ∃ a cap,ex=.returned (.slice a (tkSome s.data.toList t e k many).1.length cap)∧OwnV w.heap.size w' a cap (tkSome s.data.toList t e k many).1∧TkAt w' g s (tkSome s.data.toList t e k many).2∧Frm (fun k => k=g) w w':=by
  by_cases h1:e=1
  · subst h1
    have hR:tkSome s.data.toList t 1 k many=tkRuns s.data.toList k many (tkNum s.data.toList t 4096).1 (tkNum s.data.toList t 4096).2 []:=by unfold tkSome;rw [if_pos rfl]
    rw [hR]
    exact tkruns_any w g s t h hs k hk many hm
  by_cases h2:e=2
  · subst h2
    exact tkwords_any w g s t h hs k hk many hm
  by_cases h3:k=2
  · subst h3
    have hR:tkSome s.data.toList t e 2 many=((tkPacked s.data.toList t many 1).1.map tkTruth,(tkPacked s.data.toList t many 1).2):=by unfold tkSome;rw [if_neg h1,if_neg h2,if_pos rfl];rfl
    rw [hR]
    exact tkbools_any w g s t h hs e h1 h2 many hm
  · have hR:tkSome s.data.toList t e k many=tkWords s.data.toList k many t []:=by unfold tkSome;rw [if_neg h1,if_neg h2,if_neg h3]
    rw [hR]
    exact tkeach_any w g s t h hs k hk h3 e h1 h2 many hm
end Go.Proofs.YtfbmlefhjoblbaaGreat
