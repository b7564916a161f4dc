/- Any columns as a file: which may be, its bytes, and what is handed in stays: the walk of the law. -/
import Derived.Test.YtfbmlefhjoblbaaGreatFAwQ
import Derived.Test.YtfbmlefhjoblbaaGreatJPFilePutsQ6
import Derived.Test.YtfbmlefhjoblbaaGreatJPFilePutsQ3
import Derived.Test.YtfbmlefhjoblbaaGreatRFileQ
namespace Go.Proofs.YtfbmlefhjoblbaaGreat
open Go.Conc Go.RowKit
set_option linter.unusedVariables false
set_option linter.unusedSimpArgs false

set_option maxRecDepth 100000 in
set_option maxHeartbeats 2000000 in
theorem fileputs_walk (p : DaAt) (d : Da) {w : World} (hd : DaIs w p d) (hi : InData d) :
    Calls Tryz.prog 9 #[.agg #[.int .i64 d.n, .slice p.ac d.cs.length p.kc, .slice p.ar d.rs.length p.kr]] w fun e w' => e = .returned (.bool true) ∧ Below w.heap.size w w' := by
  obtain ⟨ac, kc, ar, kr⟩ := p
  simp only at *
  have hf := hi.fin
  obtain ⟨u, hu⟩ : ∃ u, u = w.alloc (.cells #[.int .i64 d.n, .slice ac d.cs.length kc, .slice ar d.rs.length kr] 55) := ⟨_, rfl⟩
  have hs0 : DSlot u w.heap.size ⟨ac, kc, ar, kr⟩ d := by rw [hu]; exact DSlot.new w ⟨ac, kc, ar, kr⟩ d
  have hb0 : Below w.heap.size w u := by rw [hu]; exact (Below.refl _ _).alloc (Nat.le_refl _) _
  have HB0 := Lib.hid hb0
  have HS0 := Lib.hid hs0
  have HD := Lib.hid (hd.below hb0)
  have HI := Lib.hid hi
  have HF := Lib.hid hf
  have T1 := Lib.hid (filelent_any u ⟨ac, kc, ar, kr⟩ d HD.out (by have := hi.cl; omega) (by have := hi.rl; omega) (fun r hr => by have := (hi.rs r hr).len; omega))
  have TF := Lib.hid (fun (v : World) (hv : Below u.heap.size u v) => reffile_any v ⟨ac, kc, ar, kr⟩ d (HD.out.below hv) hf)
  have TM := Lib.hid (fun (v : World) (hv : Below u.heap.size u v) => refmay_any v ⟨ac, kc, ar, kr⟩ d (HD.out.below hv) hf.rows)
  have TP := Lib.hid (fun (v : World) (q : DaAt) (hq : DaIs v q d) => fileput_any v q d hq hf)
  have TQ := Lib.hid (fun (v : World) (q : DaAt) (hq : DaIs v q d) => filemay_any v q d hq hf)
  have TA := Lib.hid (fun v => fileawake_any v)
  clear hs0 hb0 hd hi hf
  simp only at T1 TF TM
  generalize fileA d = F9 at *
  obtain ⟨X, E⟩ := F9
  simp only at TF TP
  generalize mayA d = M at *
  obtain ⟨b0, b1, b2⟩ := HS0.out.at
  simp only at b0 b1 b2
  go_enter Tryz.func9, Tryz.ntmps9
  go_upto_region 1 with fail
  rw [← hu]
  clear hu
  go_upto_region 2 with (go_at_call 28; refine T1.out.mono ?_; rintro e w1 ⟨q, vs, rfl, hl, hb⟩; have HL := Lib.hid hl; have HB1 := Lib.hid hb; clear hl hb T1)
  obtain ⟨qc, qkc, qr, qkr⟩ := q
  simp only
  obtain ⟨u2, hu2⟩ : ∃ u2, u2 = w1.alloc (.cells #[.int .i64 d.n, .slice qc d.cs.length qkc, .slice qr d.rs.length qkr] 55) := ⟨_, rfl⟩
  have hb2 : Below w1.heap.size w1 u2 := by rw [hu2]; exact (Below.refl _ _).alloc (Nat.le_refl _) _
  have HX2 := Lib.hid (show DSlot u2 w1.heap.size ⟨qc, qkc, qr, qkr⟩ d by rw [hu2]; exact DSlot.new w1 ⟨qc, qkc, qr, qkr⟩ d)
  have HB2 := Lib.hid (HB1.out.trans (hb2.mono HB1.out.size))
  have HL2 := Lib.hid (HL.out.below hb2)
  change Code.wp _ _ _ _ (w1.alloc (.cells #[.int .i64 d.n, .slice qc d.cs.length qkc, .slice qr d.rs.length qkr] 55))
  rw [← hu2]
  clear hu2 hb2 b0 b1 b2 HL HB1
  generalize w1.heap.size = g1 at *
  obtain ⟨e0, e1, e2⟩ := HX2.out.at
  simp only at e0 e1 e2
  go_upto_region 3 with (go_at_call 29; refine (TP.out _ _ HL2.out.is).mono ?_; rintro e w3 ⟨rfl, hb⟩; have HB3 := Lib.hid (HB2.out.trans (hb.mono HB2.out.size)); have HX3 := Lib.hid (HX2.out.below hb); have HL3 := Lib.hid (HL2.out.below hb); clear hb)
  clear e0 e1 e2
  obtain ⟨b0, b1, b2⟩ := (HS0.out.below HB3.out).at
  simp only at b0 b1 b2
  go_upto_region 4 with (go_at_call 30; refine (TF.out _ HB3.out).mono ?_; rintro e w4 ⟨rfl, hb⟩; have HB4 := Lib.hid (HB3.out.trans (hb.mono HB3.out.size)); have HX4 := Lib.hid (HX3.out.below hb); have HL4 := Lib.hid (HL3.out.below hb); clear hb)
  clear b0 b1 b2 HX2 HX3 HL2 HL3 HB2 TP TF
  have hq1 : (X.toList == X.toList) = true := beq_self_eq_true _
  have hq2 : (E == E) = true := beq_self_eq_true _
  have hq3 : (M == M) = true := beq_self_eq_true _
  obtain ⟨gc, hgc⟩ := HL4.out.ac
  obtain ⟨gr, hgr⟩ := HL4.out.ar
  simp only at hgc hgr
  subst hgc hgr
  have TK := Lib.hid (fun (v : World) (hv : Below w4.heap.size w4 v) => keptcols_any v gc qkc ac kc u.heap.size d.cs (HL4.out.co.below hv) ((HD.out.below (HB4.out.trans (hv.mono HB4.out.size))).c) (by have := HI.out.cl; omega))
  have TR := Lib.hid (fun (v : World) (hv : Below w4.heap.size w4 v) => keptrows_any v gr qkr ar kr u.heap.size vs d.rs (HL4.out.below hv).ro (HL4.out.below hv).ls ((HD.out.below (HB4.out.trans (hv.mono HB4.out.size))).r) (by have := HI.out.rl; simp only [maxLen]; omega) (fun r hr => by have := (HI.out.rs r hr).len; omega))

  refine region_class (fun w' => Below w4.heap.size w4 w') (by kernel_rfl) (by kernel_rfl) (Below.refl _ _).drew ?_
  repeat (
    refine wpQuiet_step (fun K9 hK => ?_)
    go_simp
    first
    | (refine hK _ ?_; clear hK K9)
    | (apply Exists.intro
       refine ⟨fun v hv => ?_, hK _ ?_⟩
       (first
         | (exact rfl)
         | (go_at_call 17; exact (num_any _ _).mono fun e w2 ⟨he, hb⟩ => ⟨he, by rw [← hb]; exact hv⟩)
         | (go_at_call 31; exact (TQ.out v _ (HL4.out.below hv).is).mono fun e w2 ⟨he, hb⟩ => ⟨he, hv.trans (hb.mono hv.size)⟩)
         | (go_at_call 32; exact (TM.out v (HB4.out.trans (hv.mono HB4.out.size))).mono fun e w2 ⟨he, hb⟩ => ⟨he, hv.trans (hb.mono hv.size)⟩)
         | (go_at_call 33; exact (TK.out v hv).mono fun e w2 ⟨he, hb⟩ => ⟨he, hv.trans (hb.mono hv.size)⟩)
         | (go_at_call 34; exact (TR.out v hv).mono fun e w2 ⟨he, hb⟩ => ⟨he, hv.trans (hb.mono hv.size)⟩)
         | (go_at_call 35; exact (TA.out v).mono fun e w2 ⟨he, hb⟩ => ⟨he, hv.trans (hb.mono hv.size)⟩)
         | (obtain ⟨e0, e1, e2⟩ := (HX4.out.below hv).at; simp only at e0 e1 e2; simp only [e0, e1, e2, Result.andThen]; exact ⟨trivial, rfl⟩)
         | (obtain ⟨b0, b1, b2⟩ := (HS0.out.below (HB4.out.trans (hv.mono HB4.out.size))).at; simp only at b0 b1 b2; simp only [b0, b1, b2, Result.andThen]; exact ⟨trivial, rfl⟩)
         | (exact ⟨trivial, rfl⟩))
       clear hK K9))
  refine wpQuiet_nil ?_
  intro w9 hw9
  have HB9 := Lib.hid (HB0.out.trans ((HB4.out.trans (hw9.mono HB4.out.size)).mono HB0.out.size))
  clear hw9
  go_wp2
  go_ret
  exact ⟨rfl, HB9.out⟩
end Go.Proofs.YtfbmlefhjoblbaaGreat
