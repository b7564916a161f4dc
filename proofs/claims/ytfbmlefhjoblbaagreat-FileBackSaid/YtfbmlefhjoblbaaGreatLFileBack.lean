/- A file comes back with its statistics; what is taken is written as it stood; a byte turned is none: the walk of the law. -/
import Derived.Test.YtfbmlefhjoblbaaGreatFAw
import Derived.Test.YtfbmlefhjoblbaaGreatTurned
import Derived.Test.YtfbmlefhjoblbaaGreatBits
import Derived.Test.YtfbmlefhjoblbaaGreatDatA
import Derived.Test.YtfbmlefhjoblbaaGreatRStat2
namespace Go.Proofs.YtfbmlefhjoblbaaGreat
open Go.Conc Go.RowKit
set_option linter.unusedVariables false
set_option linter.unusedSimpArgs false

theorem byte_more (b : Nat) (h : b < 255) : wrap64 (1 + (b : Int)) % 256 = 1 + (b : Int) := by unfold wrap64; omega
theorem InData.fin {d : Da} (h : InData d) : FinD d := by
  refine ⟨fun c hc => ?_, fun r hr => ⟨?_, fun v hv => ⟨⟨((h.rs r hr).num v hv).1, ?_⟩, (h.rs r hr).txt v hv⟩⟩⟩
  · have := (h.cs c hc).2.1.2; omega
  · have := (h.rs r hr).len; omega
  · have := ((h.rs r hr).num v hv).2; omega

set_option maxRecDepth 100000 in
set_option maxHeartbeats 2000000 in
theorem fileback_walk (p : DaAt) (d : Da) (s : ByteArray) (k1 k2 : Int) {w : World} (g0 : -9223372036854775808 ≤ k1) (g1 : k1 < 9223372036854775808) (g2 : -9223372036854775808 ≤ k2) (g3 : k2 < 9223372036854775808) (hd : DaIs w p d) (hi : InData d) (hs : s.size ≤ 140737488351232) :
    Calls Tryz.prog 11 #[.agg #[.int .i64 d.n, .slice p.ac d.cs.length p.kc, .slice p.ar d.rs.length p.kr], .string s, .int .i64 k1, .int .i64 k2] w fun e w' => e = .returned (.bool true) ∧ Below w.heap.size w w' := by
  obtain ⟨ac, kc, ar, kr⟩ := p
  simp only at *
  have hf := hi.fin
  have TA := Lib.hid (fun v => fileawake_any v)
  have TP := Lib.hid (fun (v : World) (hv : Below w.heap.size w v) => fileput_any v ⟨ac, kc, ar, kr⟩ d (hd.below hv) hf)
  have TS := Lib.hid (fun v => rseal_any s (by omega) v)
  have hU := sealB_size s
  have T21 := Lib.hid (fun v => fileget_any v (sealB s) (by omega))
  have hback := fun h => fileGet_back (s := sealB s) h
  have herr := fun h => fileGet_err (s := sealB s) h
  have hin := fileGet_in (sealB s)
  generalize sealB s = U at *
  generalize fileGet U = Q at *
  obtain ⟨o9, f9⟩ := Q
  simp only at hback herr hin
  have HERR := Lib.hid herr
  have T24 : Hid (f9 = 0 → ∀ (v : World) (q : DaAt), DaIs v q o9 → Calls Tryz.prog 29 #[.agg #[.int .i64 o9.n, .slice q.ac o9.cs.length q.kc, .slice q.ar o9.rs.length q.kr]] v fun e w' => e = .returned (.tuple #[.string U, .int .i64 0]) ∧ Below v.heap.size v w') := fun h v q hq => by
    have h1 := fileput_any v q o9 hq hin.finD
    rw [(hback h).1, (hback h).2] at h1
    exact h1
  clear hback herr hin hU
  obtain ⟨u, hu⟩ : ∃ u, u = w.alloc (.cells #[.int .i64 d.n, .slice ac d.cs.length kc, .slice ar d.rs.length kr] 55) := ⟨_, rfl⟩
  have hs0 : DSlot u w.heap.size ⟨ac, kc, ar, kr⟩ d := by rw [hu]; exact DSlot.new w ⟨ac, kc, ar, kr⟩ d
  have hb0 : Below w.heap.size w u := by rw [hu]; exact (Below.refl _ _).alloc (Nat.le_refl _) _
  have HB0 := Lib.hid hb0
  have HS0 := Lib.hid hs0
  have HD := Lib.hid hd
  clear hs0 hb0 hd
  by_cases hE : (fileA d).2 = 0
  · obtain ⟨hm, hlen, hfa⟩ := file_ok hE
    obtain ⟨⟨n0, n1, c1, c2, hrl⟩, _⟩ := may_ok hm
    have hget := fileGet_put hE hf.inD
    have hXs : (fileA d).1 = sealB (textB (fileB d)) := by rw [hfa]
    have hXz : (fileA d).1.size = (fileB d).length + 4 := by rw [hXs, sealB_size, textB_size]
    rw [hE] at TP
    have hturn := turned_no (textB (fileB d))
    rw [← hXs] at hturn
    generalize (fileA d).1 = X at *
    have hXn : (X.toList == []) = false := by
      rw [ByteArray.toList_eq, beq_eq_false_iff_ne]
      intro e
      have := congrArg List.length e
      rw [← size_list, List.length_nil] at this
      omega
    have T5 : Hid (∀ v, Calls Tryz.prog 36 #[.string X] v (FGetPost v (plainD d, 0))) := fun v => by
      have h := fileget_any v X (by omega)
      rw [hget] at h
      exact h
    have hst : statsOf (plainD d) = statsA d.cs d.rs := stats_plain d.cs d.rs
    have hxl : (statsA d.cs d.rs).length = d.cs.length := by unfold statsA; rw [List.length_zipWith, hrl]; omega
    have T6 : Hid (∀ v, Calls Tryz.prog 37 #[.string X] v fun e w' => ∃ a c, e = .returned (.tuple #[.slice a d.cs.length c, .int .i64 0]) ∧ IsS w' a (statsA d.cs d.rs) ∧ Below v.heap.size v w') := fun v => by
      have h := filestats_any v X (by omega)
      rw [hget] at h
      refine h.mono fun e w' ⟨a, c, he, ho, hb⟩ => ⟨a, c, ?_, ?_, hb⟩
      · rw [he]
        show Ending.returned (.tuple #[.slice a (statsOf (plainD d)).length c, .int .i64 0]) = _
        rw [hst, hxl]
      · have := ho.isX
        rw [show statsOf ((plainD d, (0 : Int)).1) = statsA d.cs d.rs from hst] at this
        exact this
    have hcv := bytesW_run X
    obtain ⟨k, ek, hk⟩ := modN k1 X.size (by omega) (by omega)
    obtain ⟨b9, eb, hb9⟩ := modN k2 255 (by omega) (by omega)
    have eb : wrap64 ((IntKind.u64.wrap k2).tmod 255) = (b9 : Int) := eb
    have hk2 : k < X.data.size := hk
    obtain ⟨z, ez, nz⟩ := xor_ne X.data[k] (1 + b9) (by omega) (by omega)
    have ez : bits .xor .u8 (X.data[k].toNat : Int) (1 + (b9 : Int)) = (z.toNat : Int) := ez
    have hce : ∀ W : World, (bytesW X W).cell? ⟨W.heap.size, k, none⟩ = some (.int .u8 (X.data[k].toNat : Int)) := bytesW_cell X k hk2
    have hfz : ∀ W : World, (bytesW X W).frozen? ⟨W.heap.size, k, none⟩ = false := bytesW_froz X k hk2
    have T17 : Hid (∀ v, Calls Tryz.prog 36 #[.string (turnB X k z)] v (FGetPost v (zeroD, 1101))) := fun v => by
      have h := fileget_any v (turnB X k z) (by rw [turn_size]; omega)
      rw [fileGet_sum (hturn k z (by simpa using hk2) (by simpa using nz))] at h
      exact h
    generalize X.data[k].toNat = tk at *
    have HH := Lib.hid (And.intro n0 (And.intro n1 (And.intro c1 c2)))
    have HRL := Lib.hid hrl
    have HXL := Lib.hid hxl
    have HF := Lib.hid hf
    have HCV := Lib.hid (And.intro hcv (And.intro hce hfz))
    have HEK := Lib.hid (And.intro ek (And.intro eb ez))
    have HK2 := Lib.hid (And.intro hk2 (And.intro hk hb9))
    have HXN := Lib.hid hXn
    have HXZ := Lib.hid (show X.size ≤ 65536 by omega)
    clear hm hlen hfa n0 n1 c1 c2 hrl hget hXs hXz hturn hst hxl hcv hce hfz ek eb ez nz hE hf hi hs hk2 hk hb9 g0 g1 g2 g3 hXn
    obtain ⟨b0, b1, b2⟩ := HS0.out.at
    simp only at b0 b1 b2
    go_enter Tryz.func11, Tryz.ntmps11
    go_upto_region 1 with fail
    rw [← hu]
    clear hu
    go_upto_region 3 with (go_at_call 35; refine (TA.out _).mono ?_; rintro e w1 ⟨rfl, hb⟩; have HB1 := Lib.hid (HB0.out.trans (hb.mono HB0.out.size)); have HS1 := Lib.hid (HS0.out.below hb); clear hb)
    clear b0 b1 b2
    obtain ⟨b0, b1, b2⟩ := HS1.out.at
    simp only at b0 b1 b2
    go_upto_region 5 with (first
      | (go_at_call 29; refine (TP.out _ HB1.out).mono ?_; rintro e w2 ⟨rfl, hb⟩; have HB2 := Lib.hid (HB1.out.trans (hb.mono HB1.out.size)); have HS2 := Lib.hid (HS1.out.below hb); clear hb)
      | (go_at_call 17; refine (num_any _ _).mono ?_; rintro e w' ⟨rfl, rfl⟩))
    go_upto_region 6 with (go_at_call 36; refine (T5.out _).mono ?_; rintro e w3 ⟨q, us, rfl, ho, hb⟩; have HB3 := Lib.hid (HB2.out.trans (hb.mono HB2.out.size)); have HS3 := Lib.hid (HS2.out.below hb); have HO3 := Lib.hid ho.is.c; clear hb ho)
    change Code.wp _ _ _ _ (w3.alloc (.cells #[.int .i64 d.n, .slice q.ac d.cs.length q.kc, .slice q.ar (plainD d).rs.length q.kr] 55))
    obtain ⟨u4, hu4⟩ : ∃ u4, u4 = w3.alloc (.cells #[.int .i64 d.n, .slice q.ac d.cs.length q.kc, .slice q.ar (plainD d).rs.length q.kr] 55) := ⟨_, rfl⟩
    have hb4 : Below w3.heap.size w3 u4 := by rw [hu4]; exact (Below.refl _ _).alloc (Nat.le_refl _) _
    have HP4 := Lib.hid (show DSlot u4 w3.heap.size q (plainD d) by rw [hu4]; exact DSlot.new w3 q (plainD d))
    have HB4 := Lib.hid (HB3.out.trans (hb4.mono HB3.out.size))
    have HS4 := Lib.hid (HS3.out.below hb4)
    have HO4 := Lib.hid (HO3.out.below hb4)
    rw [← hu4]
    clear hu4 hb4 HB1 HB2 HB3 HS1 HS2 HS3 HO3
    go_upto_region 7 with (go_at_call 37; refine (T6.out _).mono ?_; rintro e w5 ⟨sa, sc, rfl, ho, hb⟩; have HB5 := Lib.hid (HB4.out.trans (hb.mono HB4.out.size)); have HS5 := Lib.hid (HS4.out.below hb); have HP5 := Lib.hid (HP4.out.below hb); have HO5 := Lib.hid (HO4.out.below hb); have HT5 := Lib.hid ho; clear hb ho)
    clear b0 b1 b2
    obtain ⟨b0, b1, b2⟩ := HS5.out.at
    obtain ⟨e0, e1, e2⟩ := HP5.out.at
    simp only at b0 b1 b2
    have hpn : (plainD d).n = d.n := rfl
    have hpc : (plainD d).cs = d.cs := rfl
    rw [hpn] at e0
    rw [hpc] at e1
    have TC5 : Hid (Calls Tryz.prog 44 #[.slice q.ac d.cs.length q.kc, .slice ac d.cs.length kc] w5 fun e w' => e = .returned (.bool true) ∧ Below w5.heap.size w5 w') := by
      have h := samecols_any w5 q.ac ac q.kc kc d.cs d.cs HO5.out (HD.out.c.below HB5.out) (by have := HH.out; simp only [maxLen]; omega)
      rw [decide_eq_true rfl] at h
      exact h
    have hXn := HXN.out
    go_upto_region 9 with (first
      | (go_at_call 17; refine (num_any _ _).mono ?_; rintro e w' ⟨rfl, rfl⟩)
      | (go_at_call 44; refine TC5.out.mono ?_; rintro e w6 ⟨rfl, hb⟩; have HB6 := Lib.hid (HB5.out.trans (hb.mono HB5.out.size)); have HS6 := Lib.hid (HS5.out.below hb); have HT6 := Lib.hid (HT5.out.below hb); clear hb; clear b0 b1 b2 e0 e1 e2; obtain ⟨b0, b1, b2⟩ := HS6.out.at; simp only at b0 b1 b2))
    clear b0 b1 b2 hXn TC5 hpn hpc HB4 HP4 HS4 HO4 HB5 HS5 HP5 HO5 HT5
    go_wp2
    go_loopw [15] (fun iv wr => ∃ n : Nat, n ≤ d.cs.length ∧ iv = .int .i64 n ∧ Hid (Below w6.heap.size w6 wr)) (fun iv _ => d.cs.length - (intOf iv).toNat)
    case atStart => exact ⟨0, Nat.zero_le _, rfl, Below.refl _ _⟩
    case round =>
      obtain ⟨n, hle, rfl, HB⟩ := hrel
      have hc12 : d.cs.length ≤ 12 := HH.out.2.2.2
      by_cases cn : n < d.cs.length
      · have cr : n < d.rs.length := by have := HRL.out; omega
        have cx : n < (statsA d.cs d.rs).length := by have := HXL.out; omega
        rcases HT6.out with e | ⟨bs, os, rfl, hss⟩
        · rw [e] at cx; simp at cx
        rcases HD.out.c with e | ⟨bc, oc, rfl, hcc⟩
        · rw [e] at cn; simp at cn
        rcases HD.out.r with e2 | ⟨br, orr, rfl, hrr⟩
        · rw [e2] at cr; simp at cr
        have hst := hss n cx
        have hco := (hcc n cn).c0
        obtain ⟨ur, hpr, ax, kx, rfl, vx, nx⟩ := hrr n cr
        have hfr := HF.out.row _ (List.getElem_mem cr)
        have hxe : (statsA d.cs d.rs)[n] = ofA d.cs[n].id d.rs[n] := List.getElem_zipWith
        rw [hxe] at hst
        have T12 := Lib.hid (fun (v : World) (hv : Below w.heap.size w v) => refstat_any d.cs[n].id ax kx d.rs[n] v (vx.below hv) hfr.1 (fun v hv => (hfr.2 v hv).2))
        have HCU : Hid (∀ v, Below w.heap.size w v → v.cell? ⟨bc, oc + n * 3, none⟩ = some (.int .i64 d.cs[n].id) ∧ v.cell? ⟨br, orr + n, none⟩ = some (.slice ax d.rs[n].length kx)) := fun v hv =>
          ⟨(World.cell?_of_block (hv.block bc (World.block_lt_of_cell? w ⟨bc, oc + n * 3, none⟩ hco))).trans hco, (World.cell?_of_block (hv.block br (World.block_lt_of_cell? w ⟨br, orr + n, none⟩ hpr))).trans hpr⟩
        have hni : (n : Int) < (d.cs.length : Int) := by omega
        have hnr : (n : Int) < (d.rs.length : Int) := by omega
        have HST := Lib.hid hst
        have hq := run_neq_stat (ofA d.cs[n].id d.rs[n]) (ofA d.cs[n].id d.rs[n])
        rw [decide_eq_true rfl] at hq
        have HBW := Lib.hid (HB6.out.trans (HB.out.mono HB6.out.size))
        have HQ := Lib.hid hq
        clear hcc hrr hpr vx nx hfr hxe hst hss hco hq
        generalize ofA d.cs[n].id d.rs[n] = st at *
        generalize d.cs[n].id = ci at *
        generalize d.rs[n] = rr at *
        go_upto_region 12 with fail
        refine region_class (fun w' => Below wr.heap.size wr w') (by kernel_rfl) (by kernel_rfl) (Below.refl _ _).drew ?_
        repeat (
          refine wpQuiet_step (fun K9 hK => ?_)
          go_simp
          first
          | (refine hK _ ?_; clear hK K9)
          | (apply Exists.intro
             refine ⟨fun w1 hw1 => ?_, hK _ ?_⟩
             (first
               | (exact rfl)
               | (go_at_call 45; exact (T12.out _ (HBW.out.trans (hw1.mono HBW.out.size))).mono fun e w2 ⟨he, hb⟩ => ⟨he, hw1.trans (hb.mono hw1.size)⟩)
               | (obtain ⟨b0, b1, b2⟩ := ((HS6.out.below HB.out).below hw1).at; simp only at b0 b1 b2; simp only [b0, b1, b2, Result.andThen]; exact ⟨trivial, rfl⟩)
               | (obtain ⟨c0, r0⟩ := HCU.out _ (HBW.out.trans (hw1.mono HBW.out.size)); simp only [c0, r0, Result.andThen]; exact ⟨trivial, rfl⟩)
               | (obtain ⟨z0, z1, z2, z3, z4, z5, z6, z7, z8, z9⟩ := (HST.out.below HB.out).below hw1; simp only [z0, z1, z2, z3, z4, z5, z6, z7, z8, z9, Result.andThen]; exact ⟨trivial, rfl⟩)
               | (rw [HQ.out]; exact ⟨trivial, rfl⟩)
               | (simp only [HQ.out, Result.andThen]; exact ⟨trivial, rfl⟩)
               | (exact ⟨trivial, rfl⟩))
             clear hK K9))
        refine wpQuiet_nil ?_
        intro w7 hw7
        have HB7 := Lib.hid (HB.out.trans (hw7.mono HB.out.size))
        clear hw7 HB T12 HCU HST HBW HQ
        go_wp2
        go_roundw
        case rel => exact ⟨n + 1, by omega, by go_num, HB7⟩
        case measure => simp [intOf]; omega
      · obtain rfl : n = d.cs.length := by omega
        have HB7 := Lib.hid (HB6.out.trans (HB.out.mono HB6.out.size))
        obtain ⟨hcv, hce, hfz⟩ := HCV.out
        obtain ⟨ek, eb, ez⟩ := HEK.out
        have hxz : X.size ≤ 65536 := HXZ.out
        have hk9 : k < X.size := HK2.out.2.1
        have ez2 : bits .xor .u8 (tk : Int) (wrap64 (1 + (b9 : Int)) % 256) = (z.toNat : Int) := by
          have hb9 : b9 < 255 := HK2.out.2.2
          rw [byte_more b9 hb9]
          exact ez
        clear ez
        have hki : (k : Int) < (X.size : Int) := by omega
        clear HB HB6 HS6 HT6 cn
        go_upto_region 17 with fail
        have hcv2 := turned_back X wr ((bytesW X wr).setCell ⟨wr.heap.size, k, none⟩ (.int .u8 (z.toNat : Int))) k z HK2.out.1 X.size rfl (Below.refl _ _)
        have hbx := (bytesW_below X wr).setCell (Nat.le_refl _) (.int .u8 (z.toNat : Int)) (p := ⟨wr.heap.size, k, none⟩)
        have HB8 := Lib.hid (HB7.out.trans (hbx.mono HB7.out.size))
        clear hcv hce hfz ek eb ez2 hbx HB7 hki hk9
        generalize (bytesW X wr).setCell ⟨wr.heap.size, k, none⟩ (.int .u8 (z.toNat : Int)) = v8 at *
        generalize turnB X k z = Y at *
        generalize capB X wr = cp at *
        generalize wr.heap.size = gb at *
        go_upto_region 18 with (go_at_call 36; refine (T17.out _).mono ?_; rintro e w9 ⟨q2, us2, rfl, ho, hb⟩; have HB9 := Lib.hid (HB8.out.trans (hb.mono HB8.out.size)); clear hb ho)
        clear hcv2
        change Code.wp _ _ _ _ (w9.alloc (.cells #[.int .i64 0, .slice q2.ac 0 q2.kc, .slice q2.ar 0 q2.kr] 55))
        have HBA := Lib.hid (HB9.out.alloc HB9.out.size (.cells #[.int .i64 0, .slice q2.ac 0 q2.kc, .slice q2.ar 0 q2.kr] 55))
        generalize w9.alloc (.cells #[.int .i64 0, .slice q2.ac 0 q2.kc, .slice q2.ar 0 q2.kr] 55) = va at *
        go_upto_region 20 with (go_at_call 17; refine (num_any _ _).mono ?_; rintro e w' ⟨rfl, rfl⟩)
        go_upto_region 22 with (first
          | (go_at_call 22; refine (TS.out _).mono ?_; rintro e x1 ⟨rfl, hb⟩; have HX1 := Lib.hid (HBA.out.trans (hb.mono HBA.out.size)); clear hb)
          | (go_at_call 36; refine (T21.out _).mono ?_; rintro e x2 ⟨q9, us9, rfl, ho, hb⟩; have HX2 := Lib.hid (HX1.out.trans (hb.mono HX1.out.size)); have HO9 := Lib.hid ho.is; clear hb ho))
        change Code.wp _ _ _ _ (x2.alloc (.cells #[.int .i64 o9.n, .slice q9.ac o9.cs.length q9.kc, .slice q9.ar o9.rs.length q9.kr] 55))
        obtain ⟨x3, hx3⟩ : ∃ x3, x3 = x2.alloc (.cells #[.int .i64 o9.n, .slice q9.ac o9.cs.length q9.kc, .slice q9.ar o9.rs.length q9.kr] 55) := ⟨_, rfl⟩
        have hb9 : Below x2.heap.size x2 x3 := by rw [hx3]; exact (Below.refl _ _).alloc (Nat.le_refl _) _
        have HS9 := Lib.hid (show DSlot x3 x2.heap.size q9 o9 by rw [hx3]; exact DSlot.new x2 q9 o9)
        have HX3 := Lib.hid (HX2.out.trans (hb9.mono HX2.out.size))
        have HO3 := Lib.hid (HO9.out.below hb9)
        rw [← hx3]
        clear hx3 hb9 HX2 HO9
        by_cases hF : f9 = 0
        · subst hF
          obtain ⟨z0, z1, z2⟩ := HS9.out.at
          have TF := Lib.hid (T24.out rfl x3 q9 HO3.out)
          go_wp2_with (first
            | (go_at_call 17; refine (num_any _ _).mono ?_; rintro e w' ⟨rfl, rfl⟩)
            | (go_at_call 29; refine TF.out.mono ?_; rintro e x4 ⟨rfl, hb⟩; have HX4 := Lib.hid (HX3.out.trans (hb.mono HX3.out.size)); clear hb))
          go_ret
          exact ⟨rfl, HX4.out⟩
        · have hne : (f9 != 0) = true := by simpa using hF
          have ho9 := HERR.out hF
          rw [ho9] at HS9
          obtain ⟨z0, z1, z2⟩ := HS9.out.at
          simp only [zeroD, List.length_nil] at z0 z1 z2
          clear ho9
          go_wp2_with (go_at_call 17; refine (num_any _ _).mono ?_; rintro e w' ⟨rfl, rfl⟩)
          go_ret
          exact ⟨rfl, HX3.out⟩
  · have hfa : fileA d = (ByteArray.empty, 1100) := by
      by_cases c : mayA d = true ∧ (fileB d).length + 4 ≤ 65536
      · exact absurd (by unfold fileA; rw [if_pos c]) hE
      · exact file_no c
    rw [hfa] at TP
    obtain ⟨b0, b1, b2⟩ := HS0.out.at
    simp only at b0 b1 b2
    clear hfa hE hf hi hs g0 g1 g2 g3
    go_enter Tryz.func11, Tryz.ntmps11
    go_upto_region 1 with fail
    rw [← hu]
    clear hu
    go_upto_region 3 with (go_at_call 35; refine (TA.out _).mono ?_; rintro e w1 ⟨rfl, hb⟩; have HB1 := Lib.hid (HB0.out.trans (hb.mono HB0.out.size)); have HS1 := Lib.hid (HS0.out.below hb); clear hb)
    clear b0 b1 b2
    obtain ⟨b0, b1, b2⟩ := HS1.out.at
    simp only at b0 b1 b2
    go_upto_region 20 with (first
      | (go_at_call 29; refine (TP.out _ HB1.out).mono ?_; rintro e w2 ⟨rfl, hb⟩; have HB2 := Lib.hid (HB1.out.trans (hb.mono HB1.out.size)); clear hb)
      | (go_at_call 17; refine (num_any _ _).mono ?_; rintro e w' ⟨rfl, rfl⟩))
    clear b0 b1 b2
    go_upto_region 22 with (first
      | (go_at_call 22; refine (TS.out _).mono ?_; rintro e x1 ⟨rfl, hb⟩; have HX1 := Lib.hid (HB2.out.trans (hb.mono HB2.out.size)); clear hb)
      | (go_at_call 36; refine (T21.out _).mono ?_; rintro e x2 ⟨q9, us9, rfl, ho, hb⟩; have HX2 := Lib.hid (HX1.out.trans (hb.mono HX1.out.size)); have HO9 := Lib.hid ho.is; clear hb ho))
    change Code.wp _ _ _ _ (x2.alloc (.cells #[.int .i64 o9.n, .slice q9.ac o9.cs.length q9.kc, .slice q9.ar o9.rs.length q9.kr] 55))
    obtain ⟨x3, hx3⟩ : ∃ x3, x3 = x2.alloc (.cells #[.int .i64 o9.n, .slice q9.ac o9.cs.length q9.kc, .slice q9.ar o9.rs.length q9.kr] 55) := ⟨_, rfl⟩
    have hb9 : Below x2.heap.size x2 x3 := by rw [hx3]; exact (Below.refl _ _).alloc (Nat.le_refl _) _
    have HS9 := Lib.hid (show DSlot x3 x2.heap.size q9 o9 by rw [hx3]; exact DSlot.new x2 q9 o9)
    have HX3 := Lib.hid (HX2.out.trans (hb9.mono HX2.out.size))
    have HO3 := Lib.hid (HO9.out.below hb9)
    rw [← hx3]
    clear hx3 hb9 HX2 HO9
    by_cases hF : f9 = 0
    · subst hF
      obtain ⟨z0, z1, z2⟩ := HS9.out.at
      have TF := Lib.hid (T24.out rfl x3 q9 HO3.out)
      go_wp2_with (first
        | (go_at_call 17; refine (num_any _ _).mono ?_; rintro e w' ⟨rfl, rfl⟩)
        | (go_at_call 29; refine TF.out.mono ?_; rintro e x4 ⟨rfl, hb⟩; have HX4 := Lib.hid (HX3.out.trans (hb.mono HX3.out.size)); clear hb))
      go_ret
      exact ⟨rfl, HX4.out⟩
    · have hne : (f9 != 0) = true := by simpa using hF
      have ho9 := HERR.out hF
      rw [ho9] at HS9
      obtain ⟨z0, z1, z2⟩ := HS9.out.at
      simp only [zeroD, List.length_nil] at z0 z1 z2
      clear ho9
      go_wp2_with (go_at_call 17; refine (num_any _ _).mono ?_; rintro e w' ⟨rfl, rfl⟩)
      go_ret
      exact ⟨rfl, HX3.out⟩
end Go.Proofs.YtfbmlefhjoblbaaGreat
