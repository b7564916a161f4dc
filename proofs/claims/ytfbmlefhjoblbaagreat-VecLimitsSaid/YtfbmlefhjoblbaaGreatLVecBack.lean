/- Values come back; what is taken is written as it stood: the walk of the law. -/
import Derived.Test.YtfbmlefhjoblbaaGreatLVecPuts
import Derived.Test.YtfbmlefhjoblbaaGreatVClean
namespace Go.Proofs.YtfbmlefhjoblbaaGreat
open Go.Conc Go.RowKit
set_option linter.unusedVariables false
set_option linter.unusedSimpArgs false

theorem get_facts {k : Int} {s : ByteArray} (hs : s.size ≤ 140737488355328) : ((colGet k s).2 ≠ 0 → (colGet k s).1 = []) ∧ Fine (colGet k s).1 := by
  have h0 : Fine [] := fun v hv => by simp at hv
  by_cases hk : 1 ≤ k ∧ k ≤ 3
  · cases hsl : isSealed s with
    | false => rw [get_sum hk hsl]; exact ⟨fun _ => rfl, h0⟩
    | true =>
      cases hr : readA k (openT s).data.toList with
      | none => rw [get_none hk hsl hr]; exact ⟨fun _ => rfl, h0⟩
      | some vs =>
        rw [get_some hk hsl hr]
        split
        · refine ⟨fun h => absurd rfl h, readA_fine hr ?_⟩
          have h1 := congrArg ByteArray.size (open_seal hsl)
          rw [sealB_size] at h1
          rw [← size_list]
          omega
        · exact ⟨fun _ => rfl, h0⟩
  · rw [get_no hk]; exact ⟨fun _ => rfl, h0⟩

set_option maxRecDepth 100000 in
set_option maxHeartbeats 8000000 in
/-- The law's end. -/
theorem vecback_walk (k : Int) (a : Option Addr) (cap : Nat) (vs : List V) (s : ByteArray) {w : World} (h0 : IsV w a vs) (n0 : a = none → vs.length = 0 ∧ cap = 0) (z0 : vs.length * 40 ≤ 140737488351232) (s0 : ∀ v ∈ vs, v.s.size ≤ 140737488351232) (q0 : ∀ v ∈ vs, -9223372036854775808 ≤ v.i ∧ v.i < 9223372036854775808) (ss : s.size ≤ 140737488351232) :
    Calls Tryz.prog 5 #[.int .i64 k, .slice a vs.length cap, .string s] w fun e w' => e = .returned (.bool true) ∧ Below w.heap.size w w' := by
  have hf := fine_arg s0 q0
  have hx : vs.length ≤ 9223372036854775807 := by omega
  have hsz := sealB_size s
  have T0 := Lib.hid vecawake_any
  have T1 := Lib.hid (fun (u : World) (h : IsV u a vs) => vecput_any u k a cap vs h hx hf)
  have T4 := Lib.hid (fun (u : World) => rseal_any s (by omega) u)
  have T5 := Lib.hid (fun (u : World) => vecget_any u k (sealB s) (by omega))
  obtain ⟨hge, hgf⟩ := get_facts (k := k) (s := sealB s) (by omega)
  have T6 := Lib.hid (fun (u : World) (p : Option Addr) (c : Nat) (h : IsV u p (colGet k (sealB s)).1) (hl : (colGet k (sealB s)).1.length ≤ 9223372036854775807) => vecput_any u k p c _ h hl hgf)
  have hbk : (colGet k (sealB s)).2 = 0 → (colPut k (colGet k (sealB s)).1).2.2 = 0 ∧ (colPut k (colGet k (sealB s)).1).1 = sealB s := fun h => by
    have hk : 1 ≤ k ∧ k ≤ 3 := by
      by_cases hk : 1 ≤ k ∧ k ≤ 3
      · exact hk
      · rw [get_no hk] at h; simp at h
    have := get_back (reads_parse hk) h
    exact ⟨this.1, this.2.1⟩
  have HBK := Lib.hid hbk
  have HGE := Lib.hid hge
  have hge2 : (colPut k vs).2.2 = 0 → colGet k (colPut k vs).1 = (vs.map plainV, 0) := fun h => by
    have hk := (putA_ok h).1
    exact get_put (reads_parse hk) h (fun v hv => (hf v hv).1)
  have HGP := Lib.hid hge2
  have hps := put_size (k := k) hf
  have T2 := Lib.hid (fun (u : World) => vecget_any u k (colPut k vs).1 (by omega))
  have HA := Lib.hid h0
  have HB : Hid (Below w.heap.size w w) := Below.refl _ _
  have T3 := Lib.hid rclean_any
  generalize sealB s = S2 at *
  generalize (colGet k S2) = G at *
  generalize colPut k G.1 = Q at *
  obtain ⟨xs, G2⟩ := G
  obtain ⟨Q1, Q2, Q3⟩ := Q
  generalize colPut k vs = P at *
  obtain ⟨P1, P2, P3⟩ := P
  simp only at *
  clear h0 n0 z0 s0 q0 hf hsz hge hgf hbk hge2 hps
  by_cases hp : P3 = 0
  · have hgp := HGP.out hp
    subst hp
    rw [hgp] at T2
    simp only [List.length_map] at T2
    clear hgp HGP
    go_enter Tryz.func5, Tryz.ntmps5
    go_upto_region 3 with (go_at_call 21; refine (T0.out _).mono ?_; rintro e w1 ⟨rfl, hb⟩; replace HB := Lib.hid (HB.out.trans (hb.mono HB.out.size)); replace HA := Lib.hid (HA.out.below hb); clear hb)
    go_upto_region 4 with (go_at_call 14; refine (T1.out _ HA.out).mono ?_; rintro e w2 ⟨rfl, hb⟩; replace HB := Lib.hid (HB.out.trans (hb.mono HB.out.size)); replace HA := Lib.hid (HA.out.below hb); clear hb)
    go_upto_region 8 with (first
      | (go_at_call 17; refine (num_any _ _).mono ?_; rintro e w' ⟨rfl, rfl⟩)
      | (go_at_call 23; refine (T2.out _).mono ?_; rintro e w3 ⟨aj, cj, rfl, ho, hb⟩; replace HB := Lib.hid (HB.out.trans (hb.mono HB.out.size)); replace HA := Lib.hid (HA.out.below hb); have HJ := Lib.hid ho.isV; clear hb ho))
    go_wp2
    go_loopw [11] (fun iv wr => ∃ n : Nat, n ≤ vs.length ∧ iv = .int .i64 n ∧ Hid (Below w3.heap.size w3 wr)) (fun iv _ => vs.length - (intOf iv).toNat)
    case atStart => exact ⟨0, Nat.zero_le _, rfl, Below.refl _ _⟩
    case round =>
      obtain ⟨n, hn, rfl, HBW⟩ := hrel
      by_cases c : n < vs.length
      · rcases HA.out with h | ⟨bb, off, rfl, hcells⟩
        · subst h; simp at c
        have HVV := Lib.hid ((hcells n c).below HBW.out)
        obtain ⟨bj, oj, rfl, hj⟩ := HJ.out.get (n := n) (by rw [List.length_map]; exact c)
        have HJJ := Lib.hid (hj.below HBW.out)
        have HJE : Hid ((vs.map plainV).getD n zeroV = plainV vs[n]) := by unfold Hid; rw [getD_in (by rw [List.length_map]; exact c), List.getElem_map]
        rw [HJE.out] at HJJ
        clear hcells hj HJE
        generalize vs[n] = v at *
        have T5' : Hid (∀ u, Calls Tryz.prog 27 #[.agg #[.int .i64 v.k, .int .i64 v.i, .bool v.b, .string v.s]] u fun e w' => e = .returned (.agg #[.int .i64 (plainV v).k, .int .i64 (plainV v).i, .bool (plainV v).b, .string (plainV v).s]) ∧ Below u.heap.size u w') := fun u => T3.out v u
        generalize plainV v = p at *
        have hq := run_neq_val p p
        simp only [decide_eq_true, Bool.not_true] at hq
        have hni : (n : Int) < (vs.length : Int) := by omega
        go_upto_region 11 with fail
        refine region_class (fun w' => Below wr.heap.size wr w') (by kernel_rfl) (by kernel_rfl) (Below.refl _ _).drew ?_
        repeat (
          refine wpQuiet_step (fun K9 hK => ?_)
          go_simp
          first
          | (refine hK _ ?_; clear hK K9)
          | (apply Exists.intro
             refine ⟨fun w1 hw1 => ?_, hK _ ?_⟩
             (first
               | (exact rfl)
               | (obtain ⟨p0, p1, p2, p3⟩ := HJJ.out.below hw1; simp only [p0, p1, p2, p3, Result.andThen]; exact ⟨trivial, rfl⟩)
               | (obtain ⟨p0, p1, p2, p3⟩ := HVV.out.below hw1; simp only [p0, p1, p2, p3, Result.andThen]; exact ⟨trivial, rfl⟩)
               | (go_at_call 27; exact (T5'.out _).mono fun e w2 ⟨he, hb⟩ => ⟨he, hw1.trans (hb.mono hw1.size)⟩)
               | (exact ⟨trivial, rfl⟩))
             clear hK K9))
        refine wpQuiet_nil ?_
        intro w8 hw8
        replace HBW := Lib.hid (HBW.out.trans (hw8.mono HBW.out.size))
        clear hw8 hq HVV HJJ
        go_wp2
        go_roundw
        case rel => exact ⟨n + 1, c, by go_num, HBW⟩
        case measure => simp [intOf]; omega
      · obtain rfl : n = vs.length := by omega
        replace HB := Lib.hid (HB.out.trans (HBW.out.mono HB.out.size))
        clear c HBW HJ HA T0 T1 T2
        go_upto_region 14 with (go_at_call 22; refine (T4.out _).mono ?_; rintro e w4 ⟨rfl, hb⟩; replace HB := Lib.hid (HB.out.trans (hb.mono HB.out.size)); clear hb)
        go_upto_region 15 with (go_at_call 23; refine (T5.out _).mono ?_; rintro e w5 ⟨ag, cg, rfl, ho, hb⟩; replace HB := Lib.hid (HB.out.trans (hb.mono HB.out.size)); have HG := Lib.hid ho.isV; have HGL := Lib.hid ho.len; clear hb ho)
        by_cases hg : G2 = 0
        · obtain ⟨e1, e2⟩ := HBK.out hg
          subst e1 e2 hg
          go_wp2_with (first
            | (go_at_call 17; refine (num_any _ _).mono ?_; rintro e w' ⟨rfl, rfl⟩)
            | (go_at_call 14; refine (T6.out _ _ _ HG.out HGL.out).mono ?_; rintro e w6 ⟨rfl, hb⟩; replace HB := Lib.hid (HB.out.trans (hb.mono HB.out.size)); clear hb))
          go_ret
          exact ⟨rfl, HB.out⟩
        · have he := HGE.out hg
          have hgn : (G2 == 0) = false := by simpa using hg
          have hgm : (G2 != 0) = true := by simpa using hg
          subst he
          clear hg
          go_wp2_with (go_at_call 17; refine (num_any _ _).mono ?_; rintro e w' ⟨rfl, rfl⟩)
          go_ret
          exact ⟨rfl, HB.out⟩
  · clear HGP
    have hpn : (P3 == 0) = false := by simpa using hp
    clear hp
    go_enter Tryz.func5, Tryz.ntmps5
    go_upto_region 3 with (go_at_call 21; refine (T0.out _).mono ?_; rintro e w1 ⟨rfl, hb⟩; replace HB := Lib.hid (HB.out.trans (hb.mono HB.out.size)); replace HA := Lib.hid (HA.out.below hb); clear hb)
    go_upto_region 4 with (go_at_call 14; refine (T1.out _ HA.out).mono ?_; rintro e w2 ⟨rfl, hb⟩; replace HB := Lib.hid (HB.out.trans (hb.mono HB.out.size)); clear hb)
    go_upto_region 13 with (go_at_call 17; refine (num_any _ _).mono ?_; rintro e w' ⟨rfl, rfl⟩)
    clear HA T0 T1 T2
    go_upto_region 14 with (go_at_call 22; refine (T4.out _).mono ?_; rintro e w4 ⟨rfl, hb⟩; replace HB := Lib.hid (HB.out.trans (hb.mono HB.out.size)); clear hb)
    go_upto_region 15 with (go_at_call 23; refine (T5.out _).mono ?_; rintro e w5 ⟨ag, cg, rfl, ho, hb⟩; replace HB := Lib.hid (HB.out.trans (hb.mono HB.out.size)); have HG := Lib.hid ho.isV; have HGL := Lib.hid ho.len; clear hb ho)
    by_cases hg : G2 = 0
    · obtain ⟨e1, e2⟩ := HBK.out hg
      subst e1 e2 hg
      go_wp2_with (first
        | (go_at_call 17; refine (num_any _ _).mono ?_; rintro e w' ⟨rfl, rfl⟩)
        | (go_at_call 14; refine (T6.out _ _ _ HG.out HGL.out).mono ?_; rintro e w6 ⟨rfl, hb⟩; replace HB := Lib.hid (HB.out.trans (hb.mono HB.out.size)); clear hb))
      go_ret
      exact ⟨rfl, HB.out⟩
    · have he := HGE.out hg
      have hgn : (G2 == 0) = false := by simpa using hg
      have hgm : (G2 != 0) = true := by simpa using hg
      subst he
      clear hg
      go_wp2_with (go_at_call 17; refine (num_any _ _).mono ?_; rintro e w' ⟨rfl, rfl⟩)
      go_ret
      exact ⟨rfl, HB.out⟩
end Go.Proofs.YtfbmlefhjoblbaaGreat
