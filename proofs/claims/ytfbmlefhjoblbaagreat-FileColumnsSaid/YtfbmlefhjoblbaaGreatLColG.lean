/- A file of one column more has the others as they were; its statistics are one more: the walk of the law. -/
import Derived.Test.YtfbmlefhjoblbaaGreatLColH
import Derived.Test.YtfbmlefhjoblbaaGreatFAw
import Derived.Test.YtfbmlefhjoblbaaGreatFLent
import Derived.Test.YtfbmlefhjoblbaaGreatFMore
import Derived.Test.YtfbmlefhjoblbaaGreatBits
import Derived.Test.YtfbmlefhjoblbaaGreatWmath
import Derived.Test.YtfbmlefhjoblbaaGreatLFin
namespace Go.Proofs.YtfbmlefhjoblbaaGreat
open Go.Conc Go.RowKit
set_option linter.unusedVariables false
set_option linter.unusedSimpArgs false

def ColMore (w wx : World) (g8 : Nat) (p : DaAt) (d m : Da) (a' : Option Addr) (c' : Nat) : Prop := ∃ ar' cr', DSlot wx g8 ⟨a', c', ar', cr'⟩ m ∧ DaIs wx ⟨a', c', ar', cr'⟩ m ∧ Below w.heap.size w wx ∧ DSlot wx w.heap.size p d

set_option maxRecDepth 100000 in
set_option maxHeartbeats 2000000 in
theorem filecolumns_go (p : DaAt) (d : Da) (kind : Int) {w : World} (g0 : -9223372036854775808 ≤ kind) (g1 : kind < 9223372036854775808) (hd : DaIs w p d) (hi : InData d) (hE : (fileA d).2 = 0) (h12 : ¬ 12 ≤ d.cs.length) :
    Calls Tryz.prog 12 #[.agg #[.int .i64 d.n, .slice p.ac d.cs.length p.kc, .slice p.ar d.rs.length p.kr], .int .i64 kind] w fun e w' => e = .returned (.bool true) ∧ Below w.heap.size w w' := by
  obtain ⟨ac, kc, ar, kr⟩ := p
  simp only at *
  have hf := hi.fin
  have TA := Lib.hid (fun v => fileawake_any v)
  have TP := Lib.hid (fun (v : World) (hv : Below w.heap.size w v) => fileput_any v ⟨ac, kc, ar, kr⟩ d (hd.below hv) hf)
  obtain ⟨u, hu⟩ : ∃ u, u = w.alloc (.cells #[.int .i64 d.n, .slice ac d.cs.length kc, .slice ar d.rs.length kr] 55) := ⟨_, rfl⟩
  have hs0 : DSlot u w.heap.size ⟨ac, kc, ar, kr⟩ d := by rw [hu]; exact DSlot.new w ⟨ac, kc, ar, kr⟩ d
  have hb0 : Below w.heap.size w u := by rw [hu]; exact (Below.refl _ _).alloc (Nat.le_refl _) _
  have HB0 := Lib.hid hb0
  have HS0 := Lib.hid hs0
  have HD := Lib.hid hd
  clear hs0 hb0
  have hemp : ((⟨#[]⟩ : ByteArray).toList == []) = true := by rw [ByteArray.toList_eq]; rfl
  have hemp2 : (ByteArray.empty.toList == []) = true := by rw [ByteArray.toList_eq]; rfl
  obtain ⟨hm, hlen, hfa⟩ := file_ok hE
  obtain ⟨⟨n0, n1, c1, c2, hrl⟩, hokA⟩ := may_ok hm
  have hsg : (fileA d).1.size ≤ 65536 := by rw [hfa]; simp only; rw [sealB_size, textB_size]; omega
  have hgetd := fileGet_put hE hf.inD
  have hl12 : d.cs.length < 12 := by omega
  have hbig := fun (c : Co) (e1 : c.id = (d.cs.getD (d.cs.length - 1) zeroCo).id + 1) (e2 : c.nm = ByteArray.empty) (e3 : 1 ≤ c.kd ∧ c.kd ≤ 3) (e4 : (fileA (moreD d c)).2 ≠ 0) => more_big hE hl12 e1 e2 e3 e4
  have hid0 := okAt_id (hokA (d.cs.length - 1) (by omega))
  rw [hE] at TP
  have hgl : d.cs.getD (d.cs.length - 1) zeroCo = d.cs[d.cs.length - 1]'(by omega) := getD_in (by omega)
  rw [hgl] at hid0 hbig
  have h12' : decide ((12 : Int) ≤ (d.cs.length : Int)) = false := decide_eq_false (by omega)
  have hwl : wrap64 ((d.cs.length : Int) - 1) = ((d.cs.length - 1 : Nat) : Int) := by unfold wrap64; omega
  have hml : ((d.cs.length - 1 : Nat) : Int) < (d.cs.length : Int) := by omega
  obtain ⟨bc, oc, hac, hcc⟩ : ∃ b off, ac = some ⟨b, off, none⟩ ∧ ∀ i (h : i < d.cs.length), CoAt w b (off + i * 3) d.cs[i] := by
    rcases hd.c with e | h
    · rw [e] at c1; simp at c1
    · exact h
  have hlast := (hcc (d.cs.length - 1) (by omega)).c0
  have hidm := hf.ids _ (List.getElem_mem (show d.cs.length - 1 < d.cs.length by omega))
  have HLA : Hid (∀ v, Below w.heap.size w v → v.cell? ⟨bc, oc + (d.cs.length - 1) * 3, none⟩ = some (.int .i64 (d.cs[d.cs.length - 1]'(by omega)).id)) := fun v hv => (World.cell?_of_block (hv.block bc (World.block_lt_of_cell? w ⟨bc, oc + (d.cs.length - 1) * 3, none⟩ hlast))).trans hlast
  generalize (d.cs[d.cs.length - 1]'(by omega)).id = la at *
  generalize hX : (fileA d).1 = X at *
  subst hac
  obtain ⟨lm, hlm⟩ : ∃ lm, lm = d.cs.length - 1 := ⟨_, rfl⟩
  rw [← hlm] at hwl hml HLA
  obtain ⟨b0, b1, b2⟩ := HS0.out.at
  simp only at b0 b1 b2
  have HHH := Lib.hid (And.intro n0 (And.intro n1 (And.intro c1 (And.intro hl12 (And.intro hrl (And.intro hid0 hidm))))))
  have HBIG := Lib.hid hbig
  have HGD := Lib.hid hgetd
  have HSG := Lib.hid hsg
  have HF := Lib.hid hf
  have HI := Lib.hid hi
  have HM := Lib.hid hm
  have HE := Lib.hid hE
  have HLM := Lib.hid hlm
  clear hgl hcc hlast hidm hid0 hbig hgetd hsg hm hlen hfa n0 n1 c1 c2 hrl hokA hf hi hd hE h12 hl12 hlm hX
  go_enter Tryz.func12, Tryz.ntmps12
  go_upto_region 1 with fail
  rw [← hu]
  clear hu
  go_upto_region 3 with (go_at_call 35; refine (TA.out _).mono ?_; rintro e w1 ⟨rfl, hb⟩; have HB1 := Lib.hid (HB0.out.trans (hb.mono HB0.out.size)); have HS1 := Lib.hid (HS0.out.below hb); clear hb)
  clear b0 b1 b2
  obtain ⟨b0, b1, b2⟩ := HS1.out.at
  simp only at b0 b1 b2
  go_upto_region 4 with (go_at_call 29; refine (TP.out _ HB1.out).mono ?_; rintro e w2 ⟨rfl, hb⟩; have HB2 := Lib.hid (HB1.out.trans (hb.mono HB1.out.size)); have HS2 := Lib.hid (HS1.out.below hb); clear hb)
  clear b0 b1 b2
  obtain ⟨b0, b1, b2⟩ := HS2.out.at
  simp only at b0 b1 b2
  have hcl := HLA.out w2 HB2.out
  by_cases hla : 1000000 < la
  · have hla' : decide ((1000000 : Int) < la) = true := decide_eq_true hla
    go_wp2_with (go_at_call 17; refine (num_any _ _).mono ?_; rintro e w' ⟨rfl, rfl⟩)
    go_ret
    exact ⟨rfl, HB2.out⟩
  have hla' : decide ((1000000 : Int) < la) = false := decide_eq_false hla
  go_upto_region 9 with (go_at_call 17; refine (num_any _ _).mono ?_; rintro e w' ⟨rfl, rfl⟩)
  clear hcl hwl hml hla' h12' hemp hemp2
  obtain ⟨n0, n1, c1, hl12, hrl, hid0, hidm⟩ := HHH.out
  obtain ⟨nn, hnn⟩ : ∃ nn : Nat, d.n = (nn : Int) := ⟨d.n.toNat, (Int.toNat_of_nonneg n0).symm⟩
  have el : wrap64 (la + 1) = la + 1 := by unfold wrap64; omega
  have TL := Lib.hid (filelent_any w2 ⟨some ⟨bc, oc, none⟩, kc, ar, kr⟩ d (HD.out.below HB2.out) (by omega) (by omega) (fun r hr => by have := (HI.out.rs r hr).len; omega))
  obtain ⟨k3, ek, hk3⟩ := modN kind 3 (by omega) (by omega)
  have ek : wrap64 ((IntKind.u64.wrap kind).tmod 3) = (k3 : Int) := ek
  have ew := one_more k3 hk3
  have HK3 := Lib.hid hk3
  have HNN := Lib.hid hnn
  have hr12 : d.rs.length ≤ 12 := by omega
  clear hnn hrl
  go_upto_region 10 with (go_at_call 28; refine TL.out.mono ?_; rintro e w3 ⟨q, vs, rfl, hl, hb⟩; have HL3 := Lib.hid hl; have HB3 := Lib.hid (HB2.out.trans (hb.mono HB2.out.size)); have HS3 := Lib.hid (HS2.out.below hb); clear hl hb)
  clear b0 b1 b2
  have hvl : vs.length = d.rs.length := HL3.out.ls.1
  change Code.wp _ _ _ _ (w3.alloc (.cells #[.int .i64 d.n, .slice q.ac d.cs.length q.kc, .slice q.ar d.rs.length q.kr] 55))
  obtain ⟨u4, hu4⟩ : ∃ u4, u4 = w3.alloc (.cells #[.int .i64 d.n, .slice q.ac d.cs.length q.kc, .slice q.ar d.rs.length q.kr] 55) := ⟨_, rfl⟩
  have hb4 : Below w3.heap.size w3 u4 := by rw [hu4]; exact (Below.refl _ _).alloc (Nat.le_refl _) _
  have HP4 := Lib.hid (show DSlot u4 w3.heap.size q d by rw [hu4]; exact DSlot.new w3 q d)
  have HL4 := Lib.hid (HL3.out.below hb4)
  have HB4 := Lib.hid (HB3.out.trans (hb4.mono HB3.out.size))
  have HS4 := Lib.hid (HS3.out.below hb4)
  have hz4 : w2.heap.size ≤ u4.heap.size := by
    have h1 := hb4.size
    obtain ⟨g, hg⟩ := HL3.out.ac
    have h2 := HL3.out.cols.at_ge (k := g) (by rw [hg]; rfl)
    omega
  rw [← hu4]
  clear hu4 hb4
  have HG8 : Hid (∀ k, At q.ac k → k < w3.heap.size) := fun k hk => (HL3.out.cols.at_ge hk).2
  have HG9 : Hid (∀ k, At q.ar k → k < w3.heap.size) := fun k hk => (own_ge HL3.out.ro hk).2
  have HVLT : Hid (∀ g c xs, OwnV w2.heap.size w3 (some ⟨g, 0, none⟩) c xs → g < w3.heap.size) := fun g c xs ho => (ho.at_ge (k := g) rfl).2
  have HW23 := Lib.hid (show w2.heap.size ≤ w3.heap.size by obtain ⟨g, hg⟩ := HL3.out.ac; have h2 := HL3.out.cols.at_ge (k := g) (by rw [hg]; rfl); omega)
  generalize w3.heap.size = g8 at HP4 HG8 HG9 HVLT HW23 ⊢
  obtain ⟨e0, e1, e2⟩ := HP4.out.at
  obtain ⟨y0, y1, y2⟩ := HP4.out.froz
  have HC4 := Lib.hid HL4.out.cols
  go_upto_region 11 with (at_builtin; refine wp_co HC4.out hz4 (by omega) rfl _ _ rfl ⟨la + 1, ByteArray.empty, 1 + (k3 : Int)⟩ rfl rfl ?_; intro a' c' w5 hx hf5 hnew; have HX5 := Lib.hid hx; have HF5 := Lib.hid hf5; have hp5 := HP4.out.frm hf5 (fun hk => by have := HG8.out _ hk; omega); clear e0 e1 e2 y0 y1 y2; obtain ⟨e0, e1, e2⟩ := hp5.at; obtain ⟨y0, y1, y2⟩ := hp5.froz; have HP5 := Lib.hid hp5; clear hx hf5 hnew hp5)
  clear ek ew el
  obtain ⟨C9, hC9⟩ : ∃ C9 : Co, C9 = ⟨la + 1, ByteArray.empty, 1 + (k3 : Int)⟩ := ⟨_, rfl⟩
  have HC9 := Lib.hid hC9
  obtain ⟨u6, hu6⟩ : ∃ u6, u6 = w5.setCell ⟨g8, 1, none⟩ (.slice a' (d.cs ++ [C9]).length c') := ⟨_, rfl⟩
  have hlc : (d.cs ++ [C9]).length = d.cs.length + 1 := by simp
  change Code.wp _ _ _ _ (w5.setCell ⟨g8, 1, none⟩ (.slice a' (d.cs.length + 1 : Nat) c'))
  have hu6' := hu6
  rw [hlc] at hu6'
  rw [← hu6']
  clear hu6'
  rw [← hC9] at HX5
  have hs6 : Frm (fun k => k = g8) w5 u6 := by rw [hu6]; exact (Frm.refl (fun k => k = g8) w5).setCell (p := ⟨g8, 1, none⟩) rfl _
  have HP6 := Lib.hid (show DSlot u6 g8 ⟨a', c', q.ar, q.kr⟩ ⟨d.n, d.cs ++ [C9], d.rs⟩ by rw [hu6]; exact HP5.out.setC a' c' (d.cs ++ [C9]))
  have hgw : w.heap.size ≤ g8 := Nat.le_trans HB2.out.size HW23.out
  have HB5 := Lib.hid (Frm.to_below HB4.out HF5.out (fun k hk => Nat.le_trans HB2.out.size (HC4.out.at_ge hk).1) (Nat.le_refl _))
  have HB6 := Lib.hid (Frm.to_below HB5.out hs6 (fun k e => by omega) (Nat.le_refl _))
  have HS6 := Lib.hid (show DSlot u6 w.heap.size ⟨some ⟨bc, oc, none⟩, kc, ar, kr⟩ d from (HS4.out.frm HF5.out (fun hk => by have h1 := (HC4.out.at_ge hk).1; have h2 := HS2.out.lt; omega)).frm hs6 (fun e => by have h1 := HS2.out.lt; have h2 := HW23.out; omega))
  have HO6 := Lib.hid (HX5.out.frm hs6 fun k hk _ e => by
    subst e
    exact own_ty_data HX5.out HP5.out hk)
  have hro5 : OwnR w2.heap.size w5 q.ar d.rs.length q.kr vs := own_by HL4.out.ro HF5.out fun k hk _ hc => own_types ty_co_row HC4.out HL4.out.ro hc hk
  have HR6 := Lib.hid (show OwnR w2.heap.size u6 q.ar d.rs.length q.kr vs from own_by hro5 hs6 fun k hk _ e => by subst e; have := HG9.out _ hk; omega)
  have hls5 : LentR w2.heap.size w5 vs d.rs := HL4.out.ls.frm HF5.out fun g c xs ho hc => own_types ty_co_val HC4.out ho hc (by rfl)
  have HLS6 := Lib.hid (show LentR w2.heap.size u6 vs d.rs from ⟨hls5.1, fun i hi => by
    obtain ⟨gi, ci, k1, k2⟩ := hls5.2 i hi
    obtain ⟨gi', ci', k3, k4⟩ := HL3.out.ls.2 i hi
    rw [k1] at k3
    injection k3 with k3
    injection k3 with k3 _ _
    injection k3 with k3
    injection k3 with k3
    refine ⟨gi, ci, k1, k2.frm hs6 fun k hk _ e => ?_⟩
    have e2 : k = gi := by simpa [At] using hk
    have := HVLT.out gi' ci' _ k4
    omega⟩)
  have hz6 : w2.heap.size ≤ u6.heap.size := by
    have h1 := HF5.out.size
    have h2 := hs6.size
    omega
  clear e0 e1 e2 y0 y1 y2 hu6 hs6 hro5 hls5 HX5 HF5 HP5 HL4 HC4 HB4 HS4 HP4
  go_cut [68] from 69 to 76 (fun s wx => ColMore w wx g8 ⟨some ⟨bc, oc, none⟩, kc, ar, kr⟩ d (moreD d C9) a' c')
  case first =>
    obtain ⟨e0, e1, e2⟩ := HP6.out.at
    obtain ⟨b0, b1, b2⟩ := HS6.out.at
    simp only at e0 e1 e2 b0 b1 b2
    rw [HNN.out] at b0 e0
    obtain ⟨C, hmk, hmo⟩ := made_vals_own u6.drew nn (by have := HNN.out; omega)
    have hb7 : Below u6.heap.size u6 (u6.drew.alloc (.cells C 24)) := (Below.refl _ u6).drew.alloc (Nat.le_refl _) _
    have HMO := Lib.hid hmo
    have HP7 := Lib.hid (HP6.out.below hb7)
    have HR7 := Lib.hid (show OwnR w2.heap.size (u6.drew.alloc (.cells C 24)) q.ar d.rs.length q.kr vs from own_same HR6.out fun k _ hk => hb7.block k hk)
    have hz7 : w2.heap.size ≤ (u6.drew.alloc (.cells C 24)).heap.size := Nat.le_trans hz6 hb7.size
    have HB7 := Lib.hid hb7
    have HMZ : Hid (u6.drew.heap.size = u6.heap.size) := rfl
    obtain ⟨m0, m1, m2⟩ := (HP6.out.below ((Below.refl _ u6).alloc (Nat.le_refl _) (.cells C 24))).at
    simp only at m0 m1 m2
    obtain ⟨l0, l1, l2⟩ := ((HP6.out.below ((Below.refl _ u6).alloc (Nat.le_refl _) (.cells C 24))).below ((Below.refl _ _).alloc (Nat.le_refl _) (.cells #[.slice (some ⟨u6.heap.size, 0, none⟩) nn nn] 82))).at
    simp only at l0 l1 l2
    clear hmo hb7
    go_region_law (refine step_one oneRow HR7.out hvl hz7 (by omega) rfl _ _ rfl (.slice (some ⟨u6.heap.size, 0, none⟩) nn nn) rfl (by simp [Act.eval]) (by simp [Act.eval]) ?_; intro ar' cr' w7 ho7 hf7; have HO7 := Lib.hid ho7; have HF7 := Lib.hid hf7; have hp7 := HP7.out.frm hf7 (fun hk => by have := HG9.out _ hk; omega); obtain ⟨f0, f1, f2⟩ := hp7.at; obtain ⟨y0, y1, y2⟩ := hp7.froz; simp only at f0 f1 f2; have HQ7 := Lib.hid hp7; clear ho7 hf7 hp7)
    all_goals (
      go_wp2_with fail
      clear m0 m1 m2 l0 l1 l2 e0 e1 e2 b0 b1 b2 f0 f1 f2 y0 y1 y2 hmk
      obtain ⟨u8, hu8⟩ : ∃ u8, u8 = w7.setCell ⟨g8, 2, none⟩ (.slice ar' (d.rs ++ [List.replicate d.n.toNat zeroV]).length cr') := ⟨_, rfl⟩
      have hlr : (d.rs ++ [List.replicate d.n.toNat zeroV]).length = d.rs.length + 1 := by simp
      have hnn : d.n.toNat = nn := by rw [HNN.out, Int.toNat_natCast]
      have hs8 : Frm (fun k => k = g8) w7 u8 := by rw [hu8]; exact (Frm.refl (fun k => k = g8) w7).setCell (p := ⟨g8, 2, none⟩) rfl _
      have hp8 : DSlot u8 g8 ⟨a', c', ar', cr'⟩ (moreD d C9) := by rw [hu8]; exact HQ7.out.setR ar' cr' (d.rs ++ [List.replicate d.n.toNat zeroV])
      have hoM := HO6.out.below HB7.out
      have hoW := hoM.frm HF7.out fun k hk _ hc => own_types ty_co_row hoM HR7.out hk hc
      have ho8 := hoW.frm hs8 fun k hk _ e => by subst e; exact own_ty_data hoW HQ7.out hk
      have hro8 := own_by HO7.out hs8 fun k hk _ e => by subst e; exact own_not_data HO7.out (by decide) HQ7.out hk
      have hlM := HLS6.out.below HB7.out
      have hlW := hlM.frm HF7.out fun g c xs ho hc => own_types ty_row_val HR7.out ho hc (by rfl)
      have hl8 := hlW.frm hs8 fun g c xs ho e => by subst e; exact own_not_data ho (by decide) HQ7.out (by rfl)
      have hvW := HMO.out.frm HF7.out fun k hk _ hc => own_types ty_row_val HR7.out HMO.out hc hk
      have hv8 := hvW.frm hs8 fun k hk _ e => by subst e; exact own_not_data hvW (by decide) HQ7.out hk
      have hrl8 : (List.replicate nn zeroV).length = nn := List.length_replicate
      have hir : IsR u8 ar' (d.rs ++ [List.replicate d.n.toNat zeroV]) := by
        rw [hnn]
        refine isr_more (cr := cr') (a := some ⟨u6.drew.heap.size, 0, none⟩) (c := nn) ?_ hl8 hv8.isV (fun e => by cases e)
        rw [hrl8]
        exact hro8
      have hda : DaIs u8 ⟨a', c', ar', cr'⟩ (moreD d C9) := by
        refine ⟨ho8.isX, hir, fun e => ?_, fun e => ?_⟩
        · obtain ⟨g, hg⟩ := ho8.there (by simp)
          rw [hg] at e; cases e
        · rcases hir with h | ⟨b, off, hb, _⟩
          · simp at h
          · rw [hb] at e; cases e
      have hgw8 : w.heap.size ≤ g8 := hgw
      have HB8 := Lib.hid (Frm.to_below (Frm.to_below (HB6.out.trans (HB7.out.mono HB6.out.size)) HF7.out (fun k hk => Nat.le_trans HB2.out.size (own_ge HR7.out hk).1) (Nat.le_refl _)) hs8 (fun k e => by omega) (Nat.le_refl _))
      have HS8 := Lib.hid (((HS6.out.below HB7.out).frm HF7.out (fun hk => by have h1 := (own_ge HR7.out hk).1; have h2 := HS2.out.lt; omega)).frm hs8 (fun e => by have h1 := HS2.out.lt; have h2 := HW23.out; omega))
      have hu8' := hu8
      rw [hlr] at hu8'
      clear HB7 HF7 HO7 HQ7 HR7 HP7 HMO HLS6 HR6 HO6 HS6 HB6 HB5 HP6 hz7 hvl hoM hoW ho8 hro8 hlM hlW hl8 hvW hv8 hrl8 hir hs8 hu8
      go_meet
      have hm : ColMore w u8 g8 ⟨some ⟨bc, oc, none⟩, kc, ar, kr⟩ d (moreD d C9) a' c' := ⟨ar', cr', hp8, hda, HB8.out, HS8.out⟩
      rw [hu8'] at hm
      exact hm)
  case rest =>
    obtain ⟨ar', cr', hp8, hda, hb8, hs8⟩ := hcut
    have HB8 := Lib.hid hb8
    have HS8 := Lib.hid hs8
    have HP8 := Lib.hid hp8
    clear hb8 hs8 hp8
    generalize wc = u8 at *
    have hc9 : C9.id = la + 1 ∧ C9.nm = ByteArray.empty ∧ (1 ≤ C9.kd ∧ C9.kd ≤ 3) := by
      have := HK3.out
      rw [HC9.out]
      exact ⟨rfl, rfl, by simp only; omega, by simp only; omega⟩
    have hfin := more_fin (c := C9) HF.out (by rw [hc9.1]; omega) (by have := HHH.out; omega)
    have T12 := Lib.hid (fileput_any u8 ⟨a', c', ar', cr'⟩ (moreD d C9) hda hfin)
    have hbg := HBIG.out C9 hc9.1 hc9.2.1 hc9.2.2
    have hst := more_stats (d := d) (c := C9) HHH.out.2.2.2.2.1
    have hgt := fun h => fileGet_put (d := moreD d C9) h hfin.inD
    have hYz : (fileA (moreD d C9)).1.size ≤ 65536 := by
      by_cases c : mayA (moreD d C9) = true ∧ (fileB (moreD d C9)).length + 4 ≤ 65536
      · have : fileA (moreD d C9) = (sealB (textB (fileB (moreD d C9))), 0) := if_pos c
        rw [this]; simp only; rw [sealB_size, textB_size]; omega
      · rw [file_no c]; exact Nat.zero_le _
    have HST := Lib.hid hst
    have HHC := Lib.hid hc9
    clear hda hst hc9 hfin HLS6 HR6 HO6 HS6 HB6 HB5 HP6 hvl
    have hD1 : (moreD d C9).n = d.n := rfl
    have hD2 : (moreD d C9).cs.length = d.cs.length + 1 := by simp [moreD]
    have hD3 : (moreD d C9).rs.length = d.rs.length + 1 := by simp [moreD]
    have HDD := Lib.hid (And.intro hD1 (And.intro hD2 hD3))
    clear hD1 hD2 hD3
    generalize hDD : moreD d C9 = D9 at *
    have HDE := Lib.hid hDD
    clear hDD
    generalize hYY : fileA D9 = F9 at *
    obtain ⟨Y, E2⟩ := F9
    simp only at T12 hbg hgt hYz
    have HYY := Lib.hid hYY
    have HBG9 := Lib.hid hbg
    have HGT := Lib.hid hgt
    have HYZ := Lib.hid hYz
    clear hYY hbg hgt hYz
    obtain ⟨e0, e1, e2⟩ := HP8.out.at
    simp only at e0 e1 e2
    go_upto_region 13 with (go_at_call 29; refine T12.out.mono ?_; rintro e w9 ⟨rfl, hb⟩; have HB9 := Lib.hid (HB8.out.trans (hb.mono HB8.out.size)); have HS9 := Lib.hid (HS8.out.below hb); clear hb T12)
    clear e0 e1 e2 HP8
    have T14 : Hid (∀ v, Calls Tryz.prog 37 #[.string X] v fun e w' => ∃ a c, e = .returned (.tuple #[.slice a d.cs.length c, .int .i64 0]) ∧ IsS w' a (statsA d.cs d.rs) ∧ Below v.heap.size v w') := fun v => by
      have h := filestats_any v X (by have := HSG.out; omega)
      rw [HGD.out] at h
      have hst : statsOf (plainD d) = statsA d.cs d.rs := stats_plain d.cs d.rs
      have hxl : (statsA d.cs d.rs).length = d.cs.length := by unfold statsA; rw [List.length_zipWith]; have := HHH.out; omega
      refine h.mono fun e w' ⟨a, c, he, ho, hb⟩ => ⟨a, c, ?_, ?_, hb⟩
      · rw [he]
        show Ending.returned (.tuple #[.slice a (statsOf (plainD d)).length c, .int .i64 0]) = _
        rw [hst, hxl]
      · have := ho.isX
        rw [show statsOf ((plainD d, (0 : Int)).1) = statsA d.cs d.rs from hst] at this
        exact this
    by_cases hE2 : E2 = 0
    · subst hE2
      have hq := HGT.out rfl
      have T13 : Hid (∀ v, Calls Tryz.prog 36 #[.string Y] v (FGetPost v (plainD D9, 0))) := fun v => by
        have h := fileget_any v Y (by have := HYZ.out; omega)
        rw [hq] at h
        exact h
      have hxl : (statsA d.cs d.rs).length = d.cs.length := by unfold statsA; rw [List.length_zipWith]; have := HHH.out; omega
      have T15 : Hid (∀ v, Calls Tryz.prog 37 #[.string Y] v fun e w' => ∃ g c, e = .returned (.tuple #[.slice (some ⟨g, 0, none⟩) (d.cs.length + 1 : Nat) c, .int .i64 0]) ∧ (IsS w' (some ⟨g, 0, none⟩) (statsA d.cs d.rs ++ [⟨la + 1, d.n, zeroV, zeroV⟩]) ∧ SAt w' g (d.cs.length * 10) ⟨la + 1, d.n, zeroV, zeroV⟩) ∧ d.cs.length + 1 ≤ c ∧ Below v.heap.size v w') := fun v => by
        have h := filestats_any v Y (by have := HYZ.out; omega)
        rw [hq] at h
        have hst : statsOf (plainD D9) = statsA d.cs d.rs ++ [⟨la + 1, d.n, zeroV, zeroV⟩] := by
          show statsA D9.cs (D9.rs.map (List.map plainV)) = _
          rw [stats_plain, HST.out, HHC.out.1, Int.toNat_of_nonneg (by have := HHH.out; omega)]
        refine h.mono fun e w' ⟨a, c, he, ho, hb⟩ => ?_
        have ho2 : OwnS v.heap.size w' a c (statsA d.cs d.rs ++ [⟨la + 1, d.n, zeroV, zeroV⟩]) := by rw [← hst]; exact ho
        have he2 : e = .returned (.tuple #[.slice a (statsOf (plainD D9)).length c, .int .i64 0]) := he
        rw [hst, List.length_append, hxl] at he2
        obtain ⟨g, rfl⟩ := ho2.there (by simp)
        have hc := ho2.cap
        rw [List.length_append, hxl] at hc
        have hg := ho2.get (statsA d.cs d.rs).length (by simp)
        rw [List.getElem_append_right (Nat.le_refl _)] at hg
        simp only [Nat.sub_self, List.getElem_singleton] at hg
        rw [hxl] at hg
        exact ⟨g, c, he2, ⟨ho2.isX, hg⟩, hc, hb⟩
      have HXL := Lib.hid hxl
      clear hq hxl
      go_upto_region 14 with (go_at_call 36; refine (T13.out _).mono ?_; rintro e wa ⟨qa, usa, rfl, ho, hb⟩; have HBA := Lib.hid (HB9.out.trans (hb.mono HB9.out.size)); have HSA := Lib.hid (HS9.out.below hb); clear hb ho)
      change Code.wp _ _ _ _ (wa.alloc (.cells #[.int .i64 (plainD D9).n, .slice qa.ac (plainD D9).cs.length qa.kc, .slice qa.ar (plainD D9).rs.length qa.kr] 55))
      obtain ⟨ub, hub⟩ : ∃ ub, ub = wa.alloc (.cells #[.int .i64 (plainD D9).n, .slice qa.ac (plainD D9).cs.length qa.kc, .slice qa.ar (plainD D9).rs.length qa.kr] 55) := ⟨_, rfl⟩
      have hbb : Below wa.heap.size wa ub := by rw [hub]; exact (Below.refl _ _).alloc (Nat.le_refl _) _
      have HPB := Lib.hid (show DSlot ub wa.heap.size qa (plainD D9) by rw [hub]; exact DSlot.new wa qa (plainD D9))
      have HBB := Lib.hid (HBA.out.trans (hbb.mono HBA.out.size))
      have HSB := Lib.hid (HSA.out.below hbb)
      rw [← hub]
      clear hub hbb
      go_upto_region 15 with (go_at_call 37; refine (T14.out _).mono ?_; rintro e wc ⟨sa, ca, rfl, ho, hb⟩; have HBC := Lib.hid (HBB.out.trans (hb.mono HBB.out.size)); have HSC := Lib.hid (HSB.out.below hb); have HPC := Lib.hid (HPB.out.below hb); have HTA := Lib.hid ho; clear hb ho)
      go_upto_region 16 with (go_at_call 37; refine (T15.out _).mono ?_; rintro e wd ⟨gb, cb, rfl, ⟨ho, hst⟩, hcap, hb⟩; have HST2 := Lib.hid hst; have HCAP := Lib.hid hcap; have HBD := Lib.hid (HBC.out.trans (hb.mono HBC.out.size)); have HSD := Lib.hid (HSC.out.below hb); have HPD := Lib.hid (HPC.out.below hb); have HTA2 := Lib.hid (HTA.out.below hb); have HTB := Lib.hid ho; clear hb ho hst hcap)
      obtain ⟨b0, b1, b2⟩ := HSD.out.at
      simp only at b0 b1 b2
      go_upto_region 19 with (go_at_call 17; refine (num_any _ _).mono ?_; rintro e w' ⟨rfl, rfl⟩)
      clear b0 b1 b2
      have hpn : (plainD D9).n = d.n := HDD.out.1
      have hpr : (plainD D9).rs.length = d.rs.length + 1 := by show (D9.rs.map (List.map plainV)).length = _; rw [List.length_map]; exact HDD.out.2.2
      have hpr2 : d.rs.length = d.cs.length := HHH.out.2.2.2.2.1
      have TSS : Hid (∀ v, Below wd.heap.size wd v → Calls Tryz.prog 40 #[.slice (some ⟨gb, 0, none⟩) d.cs.length cb, .slice sa d.cs.length ca] v fun e w' => e = .returned (.bool true) ∧ Below v.heap.size v w') := fun v hv => by
        have ht := HTB.out.take (statsA d.cs d.rs).length
        rw [List.take_left] at ht
        have h := samestats_any v (some ⟨gb, 0, none⟩) sa cb ca (statsA d.cs d.rs) (statsA d.cs d.rs) (ht.below hv) (HTA2.out.below hv) (by rw [HXL.out]; simp only [maxLen]; omega)
        rw [HXL.out, decide_eq_true rfl] at h
        exact h
      have hqe := run_eql_stat ⟨la + 1, d.n, zeroV, zeroV⟩ ⟨la + 1, d.n, zeroV, zeroV⟩
      rw [decide_eq_true rfl] at hqe
      have HQE := Lib.hid hqe
      have hwk : wrap64 ((d.cs.length : Int) + 1) = (d.cs.length : Int) + 1 := len_more d.cs.length hl12
      have hwk2 : IntKind.i64.wrap ((d.cs.length : Int) + 1) = (d.cs.length : Int) + 1 := len_more2 d.cs.length hl12
      have hla3 : IntKind.i64.wrap (la + 1) = la + 1 := la_more2 la hid0 hla
      have hla2 : wrap64 (la + 1) = la + 1 := la_more la hid0 hla
      have hki : (d.cs.length : Int) < ((d.cs.length + 1 : Nat) : Int) := Int.ofNat_lt.2 (Nat.lt_succ_self _)
      obtain ⟨z, hz, x1, x2, x3, x4⟩ : ∃ z, z = zeroV ∧ z.k = 0 ∧ z.i = 0 ∧ z.b = false ∧ z.s.toList = [] := ⟨zeroV, rfl, zero_parts⟩
      rw [← hz] at HST2
      clear hz
      have hki3 : (d.cs.length : Int) < (d.cs.length : Int) + 1 := Int.lt_succ _
      have hki4 : (d.cs.length : Int) ≤ (d.cs.length : Int) + 1 := Int.le_of_lt (Int.lt_succ _)
      have hki2 : (d.cs.length : Int) ≤ ((d.cs.length + 1 : Nat) : Int) := Int.ofNat_le.2 (Nat.le_succ _)
      have hcp2 : d.cs.length ≤ cb := Nat.le_of_succ_le HCAP.out
      clear hqe
      refine region_class (fun w' => Below wd.heap.size wd w') (by kernel_rfl) (by kernel_rfl) (Below.refl _ _).drew ?_
      repeat (
        refine wpQuiet_step (fun K9 hK => ?_)
        go_simp
        first
        | (refine hK _ ?_; clear hK K9)
        | (apply Exists.intro
           refine ⟨fun w1 hw1 => ?_, hK _ ?_⟩
           (first
             | (exact rfl)
             | (go_at_call 17; exact (num_any _ _).mono fun e w2 ⟨he, hb⟩ => ⟨he, by rw [← hb]; exact hw1⟩)
             | (go_at_call 40; exact (TSS.out _ hw1).mono fun e w2 ⟨he, hb⟩ => ⟨he, hw1.trans (hb.mono hw1.size)⟩)
             | (obtain ⟨b0, b1, b2⟩ := (HSD.out.below hw1).at; simp only at b0 b1 b2; simp only [b0, b1, b2, Result.andThen]; exact ⟨trivial, rfl⟩)
             | (obtain ⟨e0, e1, e2⟩ := (HPD.out.below hw1).at; rw [hpn] at e0; rw [hpr] at e2; simp only [e0, e1, e2, Result.andThen]; exact ⟨trivial, rfl⟩)
             | (obtain ⟨z0, z1, z2, z3, z4, z5, z6, z7, z8, z9⟩ := HST2.out.below hw1; simp only [z0, z1, z2, z3, z4, z5, z6, z7, z8, z9, Result.andThen]; exact ⟨trivial, rfl⟩)
             | (rw [HQE.out]; exact ⟨trivial, rfl⟩)
             | (simp only [HQE.out, Result.andThen]; exact ⟨trivial, rfl⟩)
             | (exact ⟨trivial, rfl⟩))
           clear hK K9))
      refine wpQuiet_nil ?_
      intro wf hwf
      have HBF := Lib.hid (HBD.out.trans (hwf.mono HBD.out.size))
      clear hwf
      go_wp2
      go_ret
      exact ⟨rfl, HBF.out⟩
    · have hne : (E2 != 0) = true := by simpa using hE2
      have hbg := HBG9.out hE2
      have hbd : decide ((60000 : Int) < (X.size : Int)) = true := big_dec X.size hbg
      have T13 := Lib.hid (fun v => fileget_any v Y (by have := HYZ.out; omega))
      have T15 := Lib.hid (fun v => filestats_any v Y (by have := HYZ.out; omega))
      generalize fileGet Y = Q9 at *
      obtain ⟨o9, f9⟩ := Q9
      clear hbg hE2
      go_upto_region 14 with (go_at_call 36; refine (T13.out _).mono ?_; rintro e wa ⟨qa, usa, rfl, ho, hb⟩; have HBA := Lib.hid (HB9.out.trans (hb.mono HB9.out.size)); have HSA := Lib.hid (HS9.out.below hb); clear hb ho)
      change Code.wp _ _ _ _ (wa.alloc (.cells #[.int .i64 o9.n, .slice qa.ac o9.cs.length qa.kc, .slice qa.ar o9.rs.length qa.kr] 55))
      have hbb : Below wa.heap.size wa (wa.alloc (.cells #[.int .i64 o9.n, .slice qa.ac o9.cs.length qa.kc, .slice qa.ar o9.rs.length qa.kr] 55)) := (Below.refl _ _).alloc (Nat.le_refl _) _
      have HBB := Lib.hid (HBA.out.trans (hbb.mono HBA.out.size))
      have HSB := Lib.hid (HSA.out.below hbb)
      clear hbb
      generalize wa.alloc (.cells #[.int .i64 o9.n, .slice qa.ac o9.cs.length qa.kc, .slice qa.ar o9.rs.length qa.kr] 55) = ub at *
      go_upto_region 15 with (go_at_call 37; refine (T14.out _).mono ?_; rintro e wc ⟨sa, ca, rfl, ho, hb⟩; have HBC := Lib.hid (HBB.out.trans (hb.mono HBB.out.size)); have HSC := Lib.hid (HSB.out.below hb); clear hb ho)
      go_upto_region 16 with (go_at_call 37; refine (T15.out _).mono ?_; rintro e wd ⟨sb, cb, rfl, ho, hb⟩; have HBD := Lib.hid (HBC.out.trans (hb.mono HBC.out.size)); have HSD := Lib.hid (HSC.out.below hb); clear hb ho)
      obtain ⟨b0, b1, b2⟩ := HSD.out.at
      simp only at b0 b1 b2
      go_wp2_with (go_at_call 17; refine (num_any _ _).mono ?_; rintro e w' ⟨rfl, rfl⟩)
      go_ret
      exact ⟨rfl, HBD.out⟩
end Go.Proofs.YtfbmlefhjoblbaaGreat
