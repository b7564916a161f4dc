/- Of two lists put together the statistics are the join of both's, and each value lies between the bounds: the walk of the law. -/
import Derived.Test.YtdefafiggojgmaaSAwake
namespace Go.Proofs.Ytdefafiggojgmaa
open Go.Conc Go.RowKit
set_option linter.unusedVariables false
set_option linter.unusedSimpArgs false

theorem of_sizes {c : Int} {vs : List V} (h : ∀ v ∈ vs, v.s.size ≤ 140737488351232) : (ofA c vs).lo.s.size ≤ 140737488351232 ∧ (ofA c vs).hi.s.size ≤ 140737488351232 :=
  ⟨Nat.le_trans (plainV_size _) (least_size vs h), Nat.le_trans (plainV_size _) (most_size vs h)⟩
set_option maxRecDepth 100000 in
set_option maxHeartbeats 8000000 in
theorem statsparts_walk (c : Int) (a : Option Addr) (ca : Nat) (xs : List V) (b : Option Addr) (cb : Nat) (ys : List V) {w : World} (g0 : xs.length ≤ 1048576) (g1 : ys.length ≤ 1048576) (h0 : IsV w a xs) (n0 : a = none → xs.length = 0 ∧ ca = 0) (z0 : xs.length * 40 ≤ 140737488351232) (s0 : ∀ v ∈ xs, v.s.size ≤ 140737488351232) (h1 : IsV w b ys) (n1 : b = none → ys.length = 0 ∧ cb = 0) (z1 : ys.length * 40 ≤ 140737488351232) (s1 : ∀ v ∈ ys, v.s.size ≤ 140737488351232) :
    Calls Try.prog 4 #[.int .i64 c, .slice a xs.length ca, .slice b ys.length cb] w fun e w' => e = .returned (.bool true) ∧ Below w.heap.size w w' := by
  obtain ⟨vs, hvs⟩ : ∃ vs, vs = xs ++ ys := ⟨_, rfl⟩
  have hlen : vs.length = xs.length + ys.length := by rw [hvs, List.length_append]
  have hsz : ∀ v ∈ vs, v.s.size ≤ 140737488351232 := fun v hv => by
    rw [hvs] at hv
    rcases List.mem_append.1 hv with h | h
    · exact s0 v h
    · exact s1 v h
  have T8 := Lib.hid statawake_any
  have T1 := Lib.hid (fun (u : World) (p : Option Addr) (k : Nat) (h : IsV u p vs) => statof_any c p k vs u h (by omega) hsz)
  have T2 : Hid (∀ (u : World) (p : Option Addr) (k : Nat) (zs : List V), IsV u p zs → (zs = xs ∨ zs = ys) → Calls Try.prog 7 #[.int .i64 c, .slice p zs.length k] u fun e w' => e = .returned (.agg #[.int .i64 (ofA c zs).c, .int .i64 (ofA c zs).n, .int .i64 (ofA c zs).lo.k, .int .i64 (ofA c zs).lo.i, .bool (ofA c zs).lo.b, .string (ofA c zs).lo.s, .int .i64 (ofA c zs).hi.k, .int .i64 (ofA c zs).hi.i, .bool (ofA c zs).hi.b, .string (ofA c zs).hi.s]) ∧ Below u.heap.size u w') := fun u p k zs h hz => statof_any c p k zs u h (by rcases hz with rfl | rfl <;> omega) (by rcases hz with rfl | rfl; exact s0; exact s1)
  have T4 : Hid (∀ (u : World), Calls Try.prog 9 #[.agg #[.int .i64 (ofA c xs).c, .int .i64 (ofA c xs).n, .int .i64 (ofA c xs).lo.k, .int .i64 (ofA c xs).lo.i, .bool (ofA c xs).lo.b, .string (ofA c xs).lo.s, .int .i64 (ofA c xs).hi.k, .int .i64 (ofA c xs).hi.i, .bool (ofA c xs).hi.b, .string (ofA c xs).hi.s], .agg #[.int .i64 (ofA c ys).c, .int .i64 (ofA c ys).n, .int .i64 (ofA c ys).lo.k, .int .i64 (ofA c ys).lo.i, .bool (ofA c ys).lo.b, .string (ofA c ys).lo.s, .int .i64 (ofA c ys).hi.k, .int .i64 (ofA c ys).hi.i, .bool (ofA c ys).hi.b, .string (ofA c ys).hi.s]] u fun e w' => e = .returned (.agg #[.int .i64 (ofA c vs).c, .int .i64 (ofA c vs).n, .int .i64 (ofA c vs).lo.k, .int .i64 (ofA c vs).lo.i, .bool (ofA c vs).lo.b, .string (ofA c vs).lo.s, .int .i64 (ofA c vs).hi.k, .int .i64 (ofA c vs).hi.i, .bool (ofA c vs).hi.b, .string (ofA c vs).hi.s]) ∧ Below u.heap.size u w') := fun u => by
    have h := statjoin_any (ofA c xs) (ofA c ys) (of_sizes s0) (of_sizes s1) u
    rw [join_of c c xs ys (by omega), ← hvs] at h
    exact h
  have T5 := Lib.hid rnull_any
  have T6 := Lib.hid rcmp_any
  have hlow : ∀ n (h : n < vs.length), kindV vs[n] ≠ 0 → ¬ ordV vs[n] (plainV (leastA vs)) < 0 ∧ ¬ 0 < ordV vs[n] (plainV (mostA vs)) := fun n h hk => by
    have e1 := least_low vs vs[n] (List.getElem_mem h) hk
    have e2 := most_high vs vs[n] (List.getElem_mem h) hk
    rw [ord_pr, ord_pos, ord_pl]
    exact ⟨e1.2, e2⟩
  have htk : ∀ n (h : n < vs.length), nullsA (vs.take (n + 1)) = if kindV vs[n] = 0 then nullsA (vs.take n) + 1 else nullsA (vs.take n) := fun n h => by
    rw [(List.take_append_getElem h).symm, nullsA_snoc]
  have hfin : nullsA (vs.take vs.length) = nullsA vs := by rw [List.take_length]
  have hlz := (of_sizes (c := c) hsz)
  have hof : ofA c vs = ⟨c, nullsA vs, plainV (leastA vs), plainV (mostA vs)⟩ := rfl
  have hnz := nullsA_le vs
  have HLOW := Lib.hid hlow
  have HTK := Lib.hid htk
  have HFIN := Lib.hid hfin
  have HSZ := Lib.hid hsz
  rw [hof] at T1 T4 hlz
  simp only at T1 T4 hlz
  generalize plainV (leastA vs) = lo at *
  generalize plainV (mostA vs) = hi at *
  generalize nullsA vs = kk at *
  have hsl : lo.s.size ≤ 9223372036854775807 := by omega
  have hsh : hi.s.size ≤ 9223372036854775807 := by omega
  have HX := Lib.hid h0
  have HY := Lib.hid h1
  have HN := Lib.hid n0
  have HM := Lib.hid n1
  have HVS := Lib.hid hvs
  have HLEN := Lib.hid hlen
  have hqR := run_neq_stat ⟨c, kk, lo, hi⟩ ⟨c, kk, lo, hi⟩
  simp only [decide_eq_true, Bool.not_true] at hqR
  have hL : vs.length ≤ 2097152 := by omega
  clear h0 h1 n0 n1 z0 z1 s0 s1 hlow htk hfin hsz hof hlz hvs hlen
  go_enter Try.func4, Try.ntmps4
  go_upto_region 3 with (go_at_call 12; refine (T8.out _).mono ?_; rintro e w1 ⟨rfl, hb⟩; have HB := Lib.hid hb; clear hb T8)
  go_upto_region 4 with (at_builtin; refine wp_copy (HX.out.below HB.out) HN.out (by omega) rfl _ _ rfl rfl rfl ?_; intro gx cx w2 hx hb; have HO := Lib.hid hx; have HBX := Lib.hid hb; have HBW := Lib.hid (HB.out.trans (hb.mono HB.out.size)); clear hb hx)
  have hbz : w1.heap.size ≤ w2.heap.size := HBX.out.size
  go_upto_region 5 with (at_builtin; refine wp_join HO.out hbz (HY.out.below HBW.out) HM.out (by omega) rfl _ _ rfl rfl rfl ?_; intro gv cv w3 hx hb; have HV := Lib.hid hx; have HBV := Lib.hid (HBX.out.trans hb); clear hb hx)
  have hb3 : Below w.heap.size w w3 := HB.out.trans (HBV.out.mono HB.out.size)
  have hv3 := HV.out.isV
  have hxv3 := HX.out.below hb3
  have hyv3 := HY.out.below hb3
  have hl0 : xs.length + ys.length = vs.length := HLEN.out.symm
  rw [← HVS.out] at hv3
  rw [hl0]
  clear HB HO HBX HBW HV HBV HX HY HN HM hbz hl0
  have HB := Lib.hid hb3
  have HV := Lib.hid hv3
  have HX := Lib.hid hxv3
  have HY := Lib.hid hyv3
  clear hb3 hv3 hxv3 hyv3
  go_upto_region 6 with (go_at_call 7; refine (T1.out _ _ _ HV.out).mono ?_; rintro e w4 ⟨rfl, hb⟩; replace HB := Lib.hid (HB.out.trans (hb.mono HB.out.size)); replace HV := Lib.hid (HV.out.below hb); replace HX := Lib.hid (HX.out.below hb); replace HY := Lib.hid (HY.out.below hb); clear hb T1)
  obtain ⟨u4, hu4⟩ : ∃ u4, u4 = w4.alloc (.cells #[.int .i64 c, .int .i64 kk, .int .i64 lo.k, .int .i64 lo.i, .bool lo.b, .string lo.s, .int .i64 hi.k, .int .i64 hi.i, .bool hi.b, .string hi.s] 26) := ⟨_, rfl⟩
  rw [← hu4]
  have hs4 : SSlot u4 w4.heap.size ⟨c, kk, lo, hi⟩ := by rw [hu4]; exact SSlot.new w4 ⟨c, kk, lo, hi⟩
  have hb4 : Below w4.heap.size w4 u4 := by rw [hu4]; exact (Below.refl _ _).alloc (Nat.le_refl _) _
  replace HB := Lib.hid (HB.out.trans (hb4.mono HB.out.size))
  replace HV := Lib.hid (HV.out.below hb4)
  replace HX := Lib.hid (HX.out.below hb4)
  replace HY := Lib.hid (HY.out.below hb4)
  have HS := Lib.hid hs4
  clear hu4 hs4 hb4
  generalize w4.heap.size = gs at *
  refine region_class (fun w' => Below u4.heap.size u4 w') (by kernel_rfl) (by kernel_rfl) (Below.refl _ _).drew ?_
  repeat (
    refine wpQuiet_step (fun K9 hK => ?_)
    go_simp
    first
    | (refine hK _ ?_; clear hK K9)
    | (apply Exists.intro
       refine ⟨fun w1 hw1 => ?_, hK _ ?_⟩
       (first
         | (exact rfl)
         | (go_at_call 7; have hxx := HX.out.below hw1; have hyy := HY.out.below hw1; refine (T2.out _ _ _ _ ?_ ?_).mono fun e w2 ⟨he, hb⟩ => ⟨he, hw1.trans (hb.mono hw1.size)⟩; (first | exact hxx | exact hyy); (first | exact .inl rfl | exact .inr rfl))
         | (go_at_call 9; exact (T4.out _).mono fun e w2 ⟨he, hb⟩ => ⟨he, hw1.trans (hb.mono hw1.size)⟩)
         | (simp only [hqR, Result.andThen]; exact ⟨trivial, rfl⟩)
         | (obtain ⟨⟨z0, z1, z2, z3, z4, z5, z6, z7, z8, z9⟩, _⟩ := (HS.out.below hw1).at; simp only [z0, z1, z2, z3, z4, z5, z6, z7, z8, z9, Result.andThen]; exact ⟨trivial, rfl⟩)
         | (exact ⟨trivial, rfl⟩))
       clear hK K9))
  refine wpQuiet_nil ?_
  intro w5 hw5
  replace HB := Lib.hid (HB.out.trans (hw5.mono HB.out.size))
  replace HV := Lib.hid (HV.out.below hw5)
  replace HS := Lib.hid (HS.out.below hw5)
  clear HX HY hw5 T2 T4 hqR
  go_wp2
  go_loopw [9, 10] (fun sv iv wr => ∃ n m : Nat, n ≤ vs.length ∧ iv = .int .i64 n ∧ sv = .int .i64 m ∧ Hid (m + nullsA (vs.take n) = n) ∧ Hid (Below w5.heap.size w5 wr)) (fun sv iv _ => vs.length - (intOf iv).toNat)
  case atStart => exact ⟨0, 0, Nat.zero_le _, rfl, rfl, rfl, Below.refl _ _⟩
  case round =>
    obtain ⟨n, m, hle, rfl, rfl, HMN, HBR⟩ := hrel
    by_cases cn : n < vs.length
    · rcases HV.out with h | ⟨bv, ov, e, hcells⟩
      · subst h; simp at cn
      injection e with e
      injection e with e1 e2 _
      subst e1 e2
      have hva := (hcells n cn).below HBR.out
      rw [Nat.zero_add] at hva
      have HVA := Lib.hid hva
      have HSR := Lib.hid (HS.out.below HBR.out)
      have HL1 := Lib.hid (HLOW.out n cn)
      have HT1 := Lib.hid (HTK.out n cn)
      have hs5 : vs[n].s.size ≤ 9223372036854775807 := by have := HSZ.out _ (List.getElem_mem cn); omega
      have hni : (n : Int) < (vs.length : Int) := by omega
      have hmn : m ≤ n := by have := HMN.out; omega
      clear hcells
      generalize vs[n] = v at *
      obtain ⟨p0, p1, p2, p3⟩ := hva
      by_cases c1 : kindV v = 0
      · have d1 : decide (kindV v = 0) = true := decide_eq_true c1
        have hk := HT1.out
        rw [if_pos c1] at hk
        have HK := Lib.hid hk
        clear hk c1
        go_upto_region 11 with (go_at_call 13; refine (T5.out _ _).mono ?_; rintro e wf ⟨rfl, hb⟩; replace HBR := Lib.hid (HBR.out.trans (hb.mono HBR.out.size)); clear hb p0 p1 p2 p3)
        go_wp2
        go_roundw
        case rel => exact ⟨n + 1, m, by omega, by go_num, rfl, by have := HMN.out; have := HK.out; unfold Hid; omega, HBR⟩
        case measure => simp [intOf]; omega
      · have d1 : decide (kindV v = 0) = false := decide_eq_false c1
        have hk := HT1.out
        rw [if_neg c1] at hk
        have HK := Lib.hid hk
        obtain ⟨l1, l2⟩ := HL1.out c1
        have d2 : decide (ordV v lo < 0) = false := decide_eq_false (by omega)
        have d3 : decide (0 < ordV v hi) = false := decide_eq_false (by omega)
        clear hk c1 l1 l2
        go_upto_region 14 with (go_at_call 13; refine (T5.out _ _).mono ?_; rintro e wf ⟨rfl, hb⟩; replace HBR := Lib.hid (HBR.out.trans (hb.mono HBR.out.size)); replace HVA := Lib.hid (HVA.out.below hb); replace HSR := Lib.hid (HSR.out.below hb); clear hb p0 p1 p2 p3)
        refine region_class (fun w' => Below wf.heap.size wf w') (by kernel_rfl) (by kernel_rfl) (Below.refl _ _).drew ?_
        repeat (
          refine wpQuiet_step (fun K9 hK => ?_)
          go_simp
          first
          | (refine hK _ ?_; clear hK K9)
          | (apply Exists.intro
             refine ⟨fun w1 hw1 => ?_, hK _ ?_⟩
             (first
               | (exact rfl)
               | (go_at_call 14; exact (T6.out _ _ (by assumption) (by assumption) _).mono fun e w2 ⟨he, hb⟩ => ⟨he, hw1.trans (hb.mono hw1.size)⟩)
               | (obtain ⟨p0, p1, p2, p3⟩ := HVA.out.below hw1; simp only [p0, p1, p2, p3, Result.andThen]; exact ⟨trivial, rfl⟩)
               | (obtain ⟨⟨z0, z1, z2, z3, z4, z5, z6, z7, z8, z9⟩, _⟩ := (HSR.out.below hw1).at; simp only [z0, z1, z2, z3, z4, z5, z6, z7, z8, z9, Result.andThen]; exact ⟨trivial, rfl⟩)
               | (exact ⟨trivial, rfl⟩))
             clear hK K9))
        refine wpQuiet_nil ?_
        intro w9 hw9
        replace HBR := Lib.hid (HBR.out.trans (hw9.mono HBR.out.size))
        clear hw9
        go_wp2
        go_roundw
        case rel => exact ⟨n + 1, m + 1, by omega, by go_num, by go_num, by have := HMN.out; have := HK.out; unfold Hid; omega, HBR⟩
        case measure => simp [intOf]; omega
    · obtain rfl : n = vs.length := by omega
      have hmn := HMN.out
      rw [HFIN.out] at hmn
      have hdf : wrap64 ((vs.length : Int) - (m : Int)) = (kk : Int) := by unfold wrap64; omega
      have HDF := Lib.hid hdf
      have hsr := HS.out.below HBR.out
      obtain ⟨⟨z0, z1, z2, z3, z4, z5, z6, z7, z8, z9⟩, _⟩ := hsr.at
      clear hdf hsr hmn
      go_upto_region 16 with fail
      have hd1 := HDF.out
      have hd2 : (vs.length : Int) - (m : Int) = (kk : Int) := by have := HMN.out; rw [HFIN.out] at this; omega
      go_wp2
      go_ret
      exact ⟨rfl, HB.out.trans (HBR.out.mono HB.out.size)⟩
end Go.Proofs.Ytdefafiggojgmaa
