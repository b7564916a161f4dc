/- Rows in groups: the walk. -/
import Derived.Test.YthfakpekdjmpjaaRSs
import Derived.Test.YthfakpekdjmpjaaSpcW
import Derived.Test.YthfakpekdjmpjaaSpcO
import Derived.Test.YthfakpekdjmpjaaSchO
import Derived.Test.YthfakpekdjmpjaaRowsA
import Derived.BigQuiet
namespace Go.Proofs.Ythfakpekdjmpjaa
open Go.Conc Go.RowKit
set_option linter.unusedVariables false
set_option linter.unusedSimpArgs false

theorem zero_may {p : Sp} {s : Sc} (h : maySp p s = true) : maySp ⟨0, []⟩ s = true := by
  have h2 := (maysp_most h).2.1
  exact maysp_good (by decide) h2 fun k hk => absurd hk (Nat.not_lt_zero k)
theorem split_cases (p : Sp) (s : Sc) (rs : List (List V)) : splitA p s rs = ([], 1300) ∨ (maySp p s = true ∧ (∀ r ∈ rs, rowB13 s.cs r = true) ∧ splitA p s rs = ((grpA (rs.map (partL p.fs s.cs))).2, 0)) := by
  by_cases hm : maySp p s = true
  · by_cases hr : rs.all (rowB13 s.cs) = true
    · exact .inr ⟨hm, List.all_eq_true.1 hr, splitA_good hm (List.all_eq_true.1 hr)⟩
    · refine .inl ?_
      unfold splitA
      rw [show rs.all (rowB13 s.cs) = false by simpa using hr, Bool.and_false]; rfl
  · exact .inl (splitA_no (by simpa using hm))
set_option maxRecDepth 100000 in
set_option maxHeartbeats 16000000 in
theorem specgroups_walk (fa : Option Addr) (fcap : Nat) (p : Sp) (a : Option Addr) (cap : Nat) (s : Sc) (ra : Option Addr) (rcap : Nat) (rs : List (List V)) {W : World}
    (hf : IsFd W fa p.fs) (hfn : fa = none → p.fs.length = 0 ∧ fcap = 0) (hfc : p.fs.length ≤ fcap) (hfi : InSp p) (ha : IsCo W a s.cs) (hsn : a = none → s.cs.length = 0 ∧ cap = 0) (hcap : s.cs.length ≤ cap) (hsi : InSc s) (hr : IsR W ra rs) (hrn : ra = none → rs.length = 0 ∧ rcap = 0) (hrl : rs.length * 24 ≤ 140737488351232) (hri : ∀ r ∈ rs, InRow r) :
    Calls Try.prog 10 #[.agg #[.int .i64 p.id, .slice fa p.fs.length fcap], .agg #[.int .i64 s.id, .slice a s.cs.length cap, .int .i64 s.next], .slice ra rs.length rcap] W fun e w' => e = .returned (.bool true) ∧ Below W.heap.size W w' := by
  have hl : s.cs.length ≤ maxLen := by have := hsi.cl; unfold maxLen; omega
  have hrl2 : rs.length ≤ 17592186044000 := by omega
  have hv : ∀ r ∈ rs, r.length ≤ 35184372088832 ∧ ∀ v ∈ r, (-9223372036854775808 ≤ v.i ∧ v.i < 9223372036854775808) ∧ v.s.size ≤ 140737488355328 := fun r h => ⟨by have := (hri r h).len; omega, fun v hv => ⟨(hri r h).num v hv, by have := (hri r h).txt v hv; omega⟩⟩
  have hP := P2.new W fa a fcap cap p s
  obtain ⟨u, hu⟩ : ∃ u, u = ((W.alloc (.cells #[.int .i64 p.id, .slice fa p.fs.length fcap] 65)).alloc (.cells #[.int .i64 s.id, .slice a s.cs.length cap, .int .i64 s.next] 24)) := ⟨_, rfl⟩
  rw [← hu] at hP
  have HP := Lib.hid hP
  have hw := hu.symm
  have TA := Lib.hid (fun (x : World) => specawake_any x)
  have TS := Lib.hid (fun (x : World) (hx : Below W.heap.size W x) => spsplit_any x fa a ra fcap cap rcap p s rs (hf.below hx) hfc (ha.below hx) hl hcap (hr.below hx) hrl2 hv)
  rcases split_cases p s rs with hS | ⟨hm, hrows, hS⟩
  · rw [hS] at TS
    clear hf hfn hfc hfi ha hsn hcap hsi hr hrn hrl hri hl hrl2 hv hS hP hu
    go_enter Try.func10, Try.ntmps10
    go_upto_region 1 with fail
    clear hw
    go_upto_region 3 with (go_at_call 32; refine (TA.out _).mono ?_; rintro e w1 ⟨rfl, hb⟩; have HP1 := Lib.hid (HP.out.more hb); clear hb)
    obtain ⟨c0, c1⟩ := HP1.out.sp.at
    obtain ⟨b0, b1, b2⟩ := HP1.out.sc.at
    go_wp2_with (first
      | (go_at_call 19; refine (num_any _ _).mono ?_; rintro e wn ⟨rfl, rfl⟩)
      | (go_at_call 41; refine (TS.out _ HP1.out.below).mono ?_; rintro e w2 ⟨ai, ci, rfl, ho, hb⟩; have HP2 := Lib.hid (HP1.out.more hb); clear ho hb c0 c1 b0 b1 b2))
    go_ret
    exact ⟨rfl, HP2.out.below⟩
  · rw [hS] at TS
    obtain ⟨qs, hqs⟩ : ∃ qs, qs = rs.map (partL p.fs s.cs) := ⟨_, rfl⟩
    rw [← hqs] at TS
    obtain ⟨at_, hat⟩ : ∃ at_, at_ = (grpA qs).2 := ⟨_, rfl⟩
    rw [← hat] at TS
    have hql : qs.length = rs.length := by rw [hqs, List.length_map]
    have hal : at_.length = rs.length := by rw [hat, (grouped qs).len, hql]
    have HQL := Lib.hid hql
    have HAL := Lib.hid hal
    have HAT := Lib.hid hat
    obtain ⟨zs, hzs⟩ : ∃ zs, zs = (grpA (rs.map (partL ([] : List Fd) s.cs))).2 := ⟨_, rfl⟩
    have hzl : zs.length = rs.length := by rw [hzs, (grouped _).len, List.length_map]
    have HZ0 : Hid (∀ i, i < zs.length → zs.getD i 0 = 0) := fun i hi => by
      rw [hzs]
      refine grp_one _ [] (fun x hx => ?_) i (by rw [List.length_map, ← hzl]; exact hi)
      rw [List.mem_map] at hx
      obtain ⟨r, _, rfl⟩ := hx
      rfl
    have TZ := Lib.hid (fun (x : World) (hx : Below W.heap.size W x) => spsplit_any x none a ra 0 cap rcap ⟨0, []⟩ s rs (.inl rfl) (Nat.le_refl _) (ha.below hx) hl hcap (hr.below hx) hrl2 hv)
    rw [splitA_good (zero_may hm) hrows, ← hzs] at TZ
    have TP := Lib.hid (fun (x : World) (hx : Below W.heap.size W x) (n : Nat) (hn : n < rs.length) (ar : Option Addr) (cr : Nat) (h1 : IsV W ar rs[n]) => show Calls Try.prog 37 _ x (PartPost x (partA p s rs[n])) from sppart_any x fa a ar fcap cap cr p s rs[n] (hf.below hx) hfc (ha.below hx) hl hcap (h1.below hx) (hv _ (List.getElem_mem hn)).1 (hv _ (List.getElem_mem hn)).2)
    have HPA : Hid (∀ n (hn : n < rs.length), partA p s rs[n] = (qs.getD n [], 0)) := fun n hn => by
      rw [partA_yes hm (hrows _ (List.getElem_mem hn)), hqs, List.getD_eq_getElem?_getD, List.getElem?_map, List.getElem?_eq_getElem hn]; rfl
    have HQOK : Hid (∀ n, n < rs.length → (∀ v ∈ qs.getD n [], plainV v = v ∧ v.s.size ≤ 9223372036854775807) ∧ (qs.getD n []).length ≤ maxLen) := fun n hn => by
      have e : qs.getD n [] = partL p.fs s.cs rs[n] := by rw [hqs, List.getD_eq_getElem?_getD, List.getElem?_map, List.getElem?_eq_getElem hn]; rfl
      rw [e]
      refine ⟨partL_ok _ _ _ fun v h => ((hv _ (List.getElem_mem hn)).2 v h).2, ?_⟩
      rw [partL_length]; have := (maysp_most hm).1; unfold maxLen; omega
    have HR := Lib.hid hr
    have HRL := Lib.hid hrl2
    have d1 : ((at_.length : Int) != (rs.length : Int)) = false := by rw [hal]; simp
    have HZL := Lib.hid hzl
    clear hf hfn hfc hfi ha hsn hcap hsi hr hrn hrl hri hl hrl2 hv hS hP hu hm hrows hqs hat hql hal hzs hzl
    go_enter Try.func10, Try.ntmps10
    go_upto_region 1 with fail
    clear hw
    go_upto_region 3 with (go_at_call 32; refine (TA.out _).mono ?_; rintro e w1 ⟨rfl, hb⟩; have HP1 := Lib.hid (HP.out.more hb); clear hb)
    obtain ⟨c0, c1⟩ := HP1.out.sp.at
    obtain ⟨b0, b1, b2⟩ := HP1.out.sc.at
    go_upto_region 6 with (first
      | (go_at_call 19; refine (num_any _ _).mono ?_; rintro e wn ⟨rfl, rfl⟩)
      | (go_at_call 41; refine (TS.out _ HP1.out.below).mono ?_; rintro e v ⟨ai, ci, rfl, ho, hb⟩; have HPV := Lib.hid (HP1.out.more hb); have HIA := Lib.hid (OwnI.isL ho); clear ho hb c0 c1 b0 b1 b2))
    go_upto_region 10 with fail
    clear d1 HP HP1 TS
    go_loopw [9, 10] (fun xv iv wr => ∃ n : Nat, n ≤ rs.length ∧ xv = .int .i64 ((grpA (qs.take n)).1.length : Nat) ∧ iv = .int .i64 n ∧ Hid (Below v.heap.size v wr)) (fun _ iv _ => rs.length - (intOf iv).toNat)
    case atStart => exact ⟨0, Nat.zero_le _, rfl, rfl, Below.refl _ _⟩
    case round =>
      obtain ⟨n, hle, rfl, rfl, HY⟩ := hrel
      have HX := Lib.hid (HPV.out.more HY.out)
      by_cases cn : n < rs.length
      · obtain ⟨b, off, ar, cr, rfl, hcell, hiv⟩ := HR.out.get cn
        have hcell' := (World.cell?_of_block (HX.out.below.block b (World.block_lt_of_cell? W ⟨b, off + n, none⟩ hcell))).trans hcell
        have HCELL := Lib.hid (fun (x : World) (hx : Below wr.heap.size wr x) => (World.cell?_of_block (hx.block b (World.block_lt_of_cell? wr ⟨b, off + n, none⟩ hcell'))).trans hcell')
        have cna : n < at_.length := by rw [HAL.out]; exact cn
        obtain ⟨ab, aoff, rfl, hac⟩ := IsL.get (HIA.out.below HY.out) cna
        have cnq : n < qs.length := by rw [HQL.out]; exact cn
        obtain ⟨q, hq⟩ : ∃ q, q = qs.getD n [] := ⟨_, rfl⟩
        have T3 := Lib.hid (fun (x : World) (hx : Below wr.heap.size wr x) => TP.out x (HX.out.more hx).below n cn ar cr hiv)
        rw [HPA.out n cn, ← hq] at T3
        have HQN : Hid ((∀ v ∈ q, plainV v = v ∧ v.s.size ≤ 9223372036854775807) ∧ q.length ≤ maxLen) := by rw [hq]; exact HQOK.out n cn
        have eg : at_.getD n 0 = ((placeG qs[n] (grpA (qs.take n)).1 : Nat) : Int) := by rw [HAT.out]; exact grp_at qs n cnq
        have hple := placeG_le qs[n] (grpA (qs.take n)).1
        have hnx := grp_len qs n cnq
        have HQE := Lib.hid hq
        rw [eg] at hac
        have HAC := Lib.hid (fun (x : World) (hx : Below wr.heap.size wr x) => (World.cell?_of_block (hx.block ab (World.block_lt_of_cell? wr _ hac))).trans hac)
        have HEG := Lib.hid eg
        have hlen : (grpA (qs.take n)).1.length ≤ n := by have := (grouped (qs.take n)).le; rw [List.length_take] at this; omega
        have hni : (n : Int) < (rs.length : Int) := by omega
        have hna : (n : Int) < (at_.length : Int) := by omega
        have hnb : (n : Int) < 17592186044000 := by have := HRL.out; omega
        have HCN := Lib.hid cn
        clear hcell hcell' hiv cna eg hq
        generalize rs[n] = r at *
        generalize placeG qs[n] (grpA (qs.take n)).1 = pl at *
        have HNX := Lib.hid hnx
        clear hnx
        generalize (grpA (qs.take n)).1.length = L at *
        have HG1 : Hid (pl ≤ L) := hple
        have HLN : Hid (L ≤ n) := hlen
        by_cases hpl : pl = L
        · have HN2 : Hid ((grpA (qs.take (n + 1))).1.length = L + 1) := by unfold Hid; rw [HNX.out, if_pos hpl]
          have HG2 : Hid (((pl : Int) == (L : Int)) = true) := by unfold Hid; rw [beq_iff_eq]; omega
          have HLB : Hid ((L : Int) < 17592186044000) := by unfold Hid; omega
          clear HNX hpl hlen hple
          have hg1 : ¬ L < pl := by have := HG1.out; omega
          go_upto_region 14 with fail
          clear hg1
          have hg2 := HG2.out
          have hLb := HLB.out
          go_upto_region 16 with fail
          clear hLb
          clear hg2 hac
          refine region_glue (fun w' => Below wr.heap.size wr w') 10 7 9 snd2 _ _ [0, 1, 2, 3, 4, 5, 6, 7, 8] [(6, relPart wr.heap.size q 0), (7, relPart wr.heap.size q 0)] [(7, 6)] (by kernel_rfl) (by kernel_rfl) rfl rfl rfl (fun R hR b v hb hu => ?_) (fun _ _ _ _ h => h) (by kernel_rfl) (ok_cons (relPart_ok _ _ _) (ok_cons (relPart_ok _ _ _) ok_nil)) (Below.refl _ _).drew (fun w1 w2 h1 h2 => h1.trans (h2.mono h1.size)) ?_
          · cases hR
            exact snd_tupP _ rfl rfl (by rw [hb]; exact of_decide_eq_true rfl) hu
          refine wpRelG_segL [0, 1, 2, 3, 4, 5] (fun l => (l.take 6).drop 0) rfl (by kernel_rfl) (by kernel_rfl) (by kernel_rfl) ?_
          simp only [List.take_succ_cons, List.take_zero, List.drop_succ_cons, List.drop_zero]
          repeat (
            first
            | go_big_quiet_skip
            | (go_big_quiet_want
               go_big_quiet_op
               first
               | go_big_quiet_on
               | (apply Exists.intro
                  refine ⟨fun v1 hv1 => ?_, ?_⟩
                  · (first
                    | (exact rfl)
                    | (obtain ⟨c0, c1⟩ := (HX.out.more hv1).sp.at; simp only [c0, c1, Result.andThen]; exact ⟨trivial, rfl⟩)
                    | (obtain ⟨b0, b1, b2⟩ := (HX.out.more hv1).sc.at; simp only [b0, b1, b2, Result.andThen]; exact ⟨trivial, rfl⟩)
                    | (have d0 := HCELL.out v1 hv1; simp only [d0, Result.andThen]; exact ⟨trivial, rfl⟩)
                    | (exact ⟨trivial, rfl⟩))
                  go_big_quiet_on)))
          refine wpQuiet_nil ?_
          refine wpRelG_rel (k := 6) rfl rfl (by decide) rfl (fun w5 hw5 => ?_) (fun v hv => ?_)
          · go_simp
            exact rel_part hw5.1 (T3.out w5 hw5.1)
          obtain ⟨a5, c5, rfl⟩ := hv
          simp only [Act.put, tupP, snd2_two, List.getElem_toArray, List.getElem_cons_succ, List.getElem_cons_zero, List.setIfInBounds_toArray, List.set_cons_succ, List.set_cons_zero]
          refine wpRelG_glued (p := 7) rfl rfl rfl (fun w5 hw5 => ?_) (fun v hv => ?_)
          · go_simp
            exact rel_mvP hw5.1 (hw5.2 6 rfl)
          obtain ⟨av, cv, rfl⟩ := hv
          simp only [Act.put, tupP, snd2_two, List.getElem_toArray, List.getElem_cons_succ, List.getElem_cons_zero, List.setIfInBounds_toArray, List.set_cons_succ, List.set_cons_zero]
          refine wpRelG_segL [8] (fun l => (l.take 9).drop 8) rfl (by kernel_rfl) (by kernel_rfl) (by kernel_rfl) ?_
          simp only [List.take_succ_cons, List.take_zero, List.drop_succ_cons, List.drop_zero]
          repeat (
            first
            | go_big_quiet_skip
            | (go_big_quiet_want
               go_big_quiet_op
               first
               | go_big_quiet_on
               | (apply Exists.intro
                  refine ⟨fun v1 hv1 => ?_, ?_⟩
                  · (first
                    | (exact rfl)
                    | (exact ⟨trivial, rfl⟩))
                  go_big_quiet_on)))
          refine wpQuiet_nil ?_
          refine wpRelG_nil ?_
          intro w9 hb9 hF
          have HO9 := Lib.hid ((show (relPart wr.heap.size q 0).V (tupP q 0 av cv) w9 from hF 7) av cv rfl)
          clear hF
          have HX9 := Lib.hid (HX.out.more hb9)
          have HY9 := Lib.hid (HY.out.trans (hb9.mono HY.out.size))
          have HAC9 := Lib.hid (fun (x : World) (hx : Below w9.heap.size w9 x) => HAC.out x (hb9.trans (hx.mono hb9.size)))
          clear hb9 HCELL T3 HAC
          go_upto_region 20 with (go_at_call 19; refine (num_any _ _).mono ?_; rintro e wn ⟨rfl, rfl⟩)
          go_loopw [13] (fun kv wr => ∃ k : Nat, k ≤ n ∧ kv = .int .i64 k ∧ Hid (Below w9.heap.size w9 wr)) (fun kv _ => n - (intOf kv).toNat)
          case atStart => exact ⟨0, Nat.zero_le _, rfl, Below.refl _ _⟩
          case round =>
            obtain ⟨k, hkl, rfl, HK⟩ := hrel
            have HXK := Lib.hid (HX9.out.more HK.out)
            by_cases ck : k < n
            · have ckr : k < rs.length := by have := HCN.out; omega
              obtain ⟨b2, off2, ar2, cr2, e2, hcell, hiv⟩ := HR.out.get ckr
              obtain ⟨rfl, rfl⟩ : b2 = b ∧ off2 = off := by simp only [Option.some.injEq, Addr.mk.injEq] at e2; exact ⟨e2.1.symm, e2.2.1.symm⟩
              have hcell' := (World.cell?_of_block (HXK.out.below.block _ (World.block_lt_of_cell? W ⟨_, _, none⟩ hcell))).trans hcell
              have HCELL := Lib.hid (fun (x : World) (hx : Below wr.heap.size wr x) => (World.cell?_of_block (hx.block _ (World.block_lt_of_cell? wr ⟨_, _, none⟩ hcell'))).trans hcell')
              have cka : k < at_.length := by rw [HAL.out]; exact ckr
              obtain ⟨ab2, aoff2, e3, hac⟩ := IsL.get (HIA.out.below (HY9.out.trans (HK.out.mono HY9.out.size))) cka
              obtain ⟨rfl, rfl⟩ : ab2 = ab ∧ aoff2 = aoff := by simp only [Option.some.injEq, Addr.mk.injEq] at e3; exact ⟨e3.1.symm, e3.2.1.symm⟩
              have T3 := Lib.hid (fun (x : World) (hx : Below wr.heap.size wr x) => TP.out x (HXK.out.more hx).below k ckr ar2 cr2 hiv)
              rw [HPA.out k ckr] at T3
              obtain ⟨hq1, hq2⟩ := HQOK.out k ckr
              have hsame := grp_same qs n k (by rw [HQL.out]; exact HCN.out) (by rw [HQL.out]; exact ckr)
              rw [← HAT.out, HEG.out, ← HQE.out] at hsame
              have HACN := Lib.hid (fun (x : World) (hx : Below wr.heap.size wr x) => HAC9.out x (HK.out.trans (hx.mono HK.out.size)))
              have HACK := Lib.hid (fun (x : World) (hx : Below wr.heap.size wr x) => (World.cell?_of_block (hx.block _ (World.block_lt_of_cell? wr _ hac))).trans hac)
              have hki : (k : Int) < (rs.length : Int) := by omega
              have hka : (k : Int) < (at_.length : Int) := by omega
              have hkn : (k : Int) < (n : Int) := by omega
              have hkb : (k : Int) < 17592186044000 := by omega
              have HCK := Lib.hid ck
              have HQ1 := Lib.hid hq1
              have HQ2 := Lib.hid hq2
              have HSM := Lib.hid hsame
              clear hq1 hq2 hsame hcell hcell' hiv hac e2 e3 cka
              generalize rs[k] = r2 at *
              generalize qs.getD k [] = q2 at *
              generalize at_.getD k 0 = zk at *
              go_upto_region 22 with fail
              refine region_glue (fun w' => Below wr.heap.size wr w') 10 7 9 snd2 _ _ [0, 1, 2, 3, 4, 5, 6, 7, 8] [(6, relPart wr.heap.size q2 0), (7, relPart wr.heap.size q2 0)] [(7, 6)] (by kernel_rfl) (by kernel_rfl) rfl rfl rfl (fun R hR b v hb hu => ?_) (fun _ _ _ _ h => h) (by kernel_rfl) (ok_cons (relPart_ok _ _ _) (ok_cons (relPart_ok _ _ _) ok_nil)) (Below.refl _ _).drew (fun w1 w2 h1 h2 => h1.trans (h2.mono h1.size)) ?_
              · cases hR
                exact snd_tupP _ rfl rfl (by rw [hb]; exact of_decide_eq_true rfl) hu
              refine wpRelG_segL [0, 1, 2, 3, 4, 5] (fun l => (l.take 6).drop 0) rfl (by kernel_rfl) (by kernel_rfl) (by kernel_rfl) ?_
              simp only [List.take_succ_cons, List.take_zero, List.drop_succ_cons, List.drop_zero]
              repeat (
                first
                | go_big_quiet_skip
                | (go_big_quiet_want
                   go_big_quiet_op
                   first
                   | go_big_quiet_on
                   | (apply Exists.intro
                      refine ⟨fun v1 hv1 => ?_, ?_⟩
                      · (first
                        | (exact rfl)
                        | (obtain ⟨c0, c1⟩ := (HXK.out.more hv1).sp.at; simp only [c0, c1, Result.andThen]; exact ⟨trivial, rfl⟩)
                        | (obtain ⟨b0, b1, b2⟩ := (HXK.out.more hv1).sc.at; simp only [b0, b1, b2, Result.andThen]; exact ⟨trivial, rfl⟩)
                        | (have d0 := HCELL.out v1 hv1; simp only [d0, Result.andThen]; exact ⟨trivial, rfl⟩)
                        | (exact ⟨trivial, rfl⟩))
                      go_big_quiet_on)))
              refine wpQuiet_nil ?_
              refine wpRelG_rel (k := 6) rfl rfl (by decide) rfl (fun w5 hw5 => ?_) (fun v hv => ?_)
              · go_simp
                exact rel_part hw5.1 (T3.out w5 hw5.1)
              obtain ⟨a5, c5, rfl⟩ := hv
              simp only [Act.put, tupP, snd2_two, List.getElem_toArray, List.getElem_cons_succ, List.getElem_cons_zero, List.setIfInBounds_toArray, List.set_cons_succ, List.set_cons_zero]
              refine wpRelG_glued (p := 7) rfl rfl rfl (fun w5 hw5 => ?_) (fun v hv => ?_)
              · go_simp
                exact rel_mvP hw5.1 (hw5.2 6 rfl)
              obtain ⟨bv, dv, rfl⟩ := hv
              simp only [Act.put, tupP, snd2_two, List.getElem_toArray, List.getElem_cons_succ, List.getElem_cons_zero, List.setIfInBounds_toArray, List.set_cons_succ, List.set_cons_zero]
              refine wpRelG_segL [8] (fun l => (l.take 9).drop 8) rfl (by kernel_rfl) (by kernel_rfl) (by kernel_rfl) ?_
              simp only [List.take_succ_cons, List.take_zero, List.drop_succ_cons, List.drop_zero]
              repeat (
                first
                | go_big_quiet_skip
                | (go_big_quiet_want
                   go_big_quiet_op
                   first
                   | go_big_quiet_on
                   | (apply Exists.intro
                      refine ⟨fun v1 hv1 => ?_, ?_⟩
                      · (first
                        | (exact rfl)
                        | (exact ⟨trivial, rfl⟩))
                      go_big_quiet_on)))
              refine wpQuiet_nil ?_
              refine wpRelG_nil ?_
              intro w10 hb9 hF
              have HO10 := Lib.hid ((show (relPart wr.heap.size q2 0).V (tupP q2 0 bv dv) w10 from hF 7) bv dv rfl)
              clear hF
              have HK10 := Lib.hid (HK.out.trans (hb9.mono HK.out.size))
              have HX10 := Lib.hid (HXK.out.more hb9)
              have HAN := Lib.hid (fun (x : World) (hx : Below w10.heap.size w10 x) => HACN.out x (hb9.trans (hx.mono hb9.size)))
              have HAK := Lib.hid (fun (x : World) (hx : Below w10.heap.size w10 x) => HACK.out x (hb9.trans (hx.mono hb9.size)))
              have T5 := Lib.hid (fun (x : World) (hx : Below w10.heap.size w10 x) => refalike_any x av bv cv dv q q2 ((HO9.out.isV.below HK10.out).below hx) (HO10.out.isV.below hx) HQN.out.2 HQN.out.1 HQ1.out)
              have heq : ((pl : Int) == zk) = decide (q = q2) := by
                rw [Bool.eq_iff_iff, beq_iff_eq, decide_eq_true_eq]; exact HSM.out
              clear hb9 HACN HACK HCELL T3 HSM HO10 HQ1 HQ2
              generalize decide (q = q2) = D at *
              go_upto_region 23 with fail
              cases D with
              | true =>
                refine region_class (fun w' => Below w10.heap.size w10 w') (by kernel_rfl) (by kernel_rfl) (Below.refl _ _).drew ?_
                repeat (
                  first
                  | go_big_quiet_skip
                  | (go_big_quiet_want
                     go_big_quiet_op
                     first
                     | go_big_quiet_on
                     | (apply Exists.intro
                        refine ⟨fun v1 hv1 => ?_, ?_⟩
                        · (first
                          | (exact rfl)
                          | (go_at_call 48; exact (T5.out v1 hv1).mono fun e w3 ⟨he, hb⟩ => ⟨he, hv1.trans (hb.mono hv1.size)⟩)
                          | (have d0 := HAN.out v1 hv1; simp only [d0, Result.andThen]; exact ⟨trivial, rfl⟩)
                          | (have d0 := HAK.out v1 hv1; simp only [d0, Result.andThen]; exact ⟨trivial, rfl⟩)
                          | (exact ⟨trivial, rfl⟩))
                        go_big_quiet_on)))
                refine wpQuiet_nil ?_
                intro w11 hw11
                have HK11 := Lib.hid (HK10.out.trans (hw11.mono HK10.out.size))
                clear hw11
                go_wp2
                go_roundw
                case rel => exact ⟨k + 1, by have := HCK.out; omega, by go_num, HK11⟩
                case measure => have := HCK.out; simp [intOf]; omega
              | false =>
                refine region_class (fun w' => Below w10.heap.size w10 w') (by kernel_rfl) (by kernel_rfl) (Below.refl _ _).drew ?_
                repeat (
                  first
                  | go_big_quiet_skip
                  | (go_big_quiet_want
                     go_big_quiet_op
                     first
                     | go_big_quiet_on
                     | (apply Exists.intro
                        refine ⟨fun v1 hv1 => ?_, ?_⟩
                        · (first
                          | (exact rfl)
                          | (go_at_call 48; exact (T5.out v1 hv1).mono fun e w3 ⟨he, hb⟩ => ⟨he, hv1.trans (hb.mono hv1.size)⟩)
                          | (have d0 := HAN.out v1 hv1; simp only [d0, Result.andThen]; exact ⟨trivial, rfl⟩)
                          | (have d0 := HAK.out v1 hv1; simp only [d0, Result.andThen]; exact ⟨trivial, rfl⟩)
                          | (exact ⟨trivial, rfl⟩))
                        go_big_quiet_on)))
                refine wpQuiet_nil ?_
                intro w11 hw11
                have HK11 := Lib.hid (HK10.out.trans (hw11.mono HK10.out.size))
                clear hw11
                go_wp2
                go_roundw
                case rel => exact ⟨k + 1, by have := HCK.out; omega, by go_num, HK11⟩
                case measure => have := HCK.out; simp [intOf]; omega
            · obtain rfl : k = n := by omega
              clear ck hkl
              go_wp2
              go_roundw
              case rel => exact ⟨k + 1, HCN.out, by rw [HN2.out]; go_num, by go_num, HY9.out.trans (HK.out.mono HY9.out.size)⟩
              case measure => have := HCN.out; simp [intOf]; omega
        · have HN2 : Hid ((grpA (qs.take (n + 1))).1.length = L) := by unfold Hid; rw [HNX.out, if_neg hpl]
          have HG2 : Hid (((pl : Int) == (L : Int)) = false) := by unfold Hid; rw [beq_eq_false_iff_ne]; omega
          clear HNX hpl hlen hple
          have hg1 : ¬ L < pl := by have := HG1.out; omega
          go_upto_region 14 with fail
          clear hg1
          have hg2 := HG2.out
          go_upto_region 16 with fail
          clear hg2 hac
          refine region_glue (fun w' => Below wr.heap.size wr w') 10 7 9 snd2 _ _ [0, 1, 2, 3, 4, 5, 6, 7, 8] [(6, relPart wr.heap.size q 0), (7, relPart wr.heap.size q 0)] [(7, 6)] (by kernel_rfl) (by kernel_rfl) rfl rfl rfl (fun R hR b v hb hu => ?_) (fun _ _ _ _ h => h) (by kernel_rfl) (ok_cons (relPart_ok _ _ _) (ok_cons (relPart_ok _ _ _) ok_nil)) (Below.refl _ _).drew (fun w1 w2 h1 h2 => h1.trans (h2.mono h1.size)) ?_
          · cases hR
            exact snd_tupP _ rfl rfl (by rw [hb]; exact of_decide_eq_true rfl) hu
          refine wpRelG_segL [0, 1, 2, 3, 4, 5] (fun l => (l.take 6).drop 0) rfl (by kernel_rfl) (by kernel_rfl) (by kernel_rfl) ?_
          simp only [List.take_succ_cons, List.take_zero, List.drop_succ_cons, List.drop_zero]
          repeat (
            first
            | go_big_quiet_skip
            | (go_big_quiet_want
               go_big_quiet_op
               first
               | go_big_quiet_on
               | (apply Exists.intro
                  refine ⟨fun v1 hv1 => ?_, ?_⟩
                  · (first
                    | (exact rfl)
                    | (obtain ⟨c0, c1⟩ := (HX.out.more hv1).sp.at; simp only [c0, c1, Result.andThen]; exact ⟨trivial, rfl⟩)
                    | (obtain ⟨b0, b1, b2⟩ := (HX.out.more hv1).sc.at; simp only [b0, b1, b2, Result.andThen]; exact ⟨trivial, rfl⟩)
                    | (have d0 := HCELL.out v1 hv1; simp only [d0, Result.andThen]; exact ⟨trivial, rfl⟩)
                    | (exact ⟨trivial, rfl⟩))
                  go_big_quiet_on)))
          refine wpQuiet_nil ?_
          refine wpRelG_rel (k := 6) rfl rfl (by decide) rfl (fun w5 hw5 => ?_) (fun v hv => ?_)
          · go_simp
            exact rel_part hw5.1 (T3.out w5 hw5.1)
          obtain ⟨a5, c5, rfl⟩ := hv
          simp only [Act.put, tupP, snd2_two, List.getElem_toArray, List.getElem_cons_succ, List.getElem_cons_zero, List.setIfInBounds_toArray, List.set_cons_succ, List.set_cons_zero]
          refine wpRelG_glued (p := 7) rfl rfl rfl (fun w5 hw5 => ?_) (fun v hv => ?_)
          · go_simp
            exact rel_mvP hw5.1 (hw5.2 6 rfl)
          obtain ⟨av, cv, rfl⟩ := hv
          simp only [Act.put, tupP, snd2_two, List.getElem_toArray, List.getElem_cons_succ, List.getElem_cons_zero, List.setIfInBounds_toArray, List.set_cons_succ, List.set_cons_zero]
          refine wpRelG_segL [8] (fun l => (l.take 9).drop 8) rfl (by kernel_rfl) (by kernel_rfl) (by kernel_rfl) ?_
          simp only [List.take_succ_cons, List.take_zero, List.drop_succ_cons, List.drop_zero]
          repeat (
            first
            | go_big_quiet_skip
            | (go_big_quiet_want
               go_big_quiet_op
               first
               | go_big_quiet_on
               | (apply Exists.intro
                  refine ⟨fun v1 hv1 => ?_, ?_⟩
                  · (first
                    | (exact rfl)
                    | (exact ⟨trivial, rfl⟩))
                  go_big_quiet_on)))
          refine wpQuiet_nil ?_
          refine wpRelG_nil ?_
          intro w9 hb9 hF
          have HO9 := Lib.hid ((show (relPart wr.heap.size q 0).V (tupP q 0 av cv) w9 from hF 7) av cv rfl)
          clear hF
          have HX9 := Lib.hid (HX.out.more hb9)
          have HY9 := Lib.hid (HY.out.trans (hb9.mono HY.out.size))
          have HAC9 := Lib.hid (fun (x : World) (hx : Below w9.heap.size w9 x) => HAC.out x (hb9.trans (hx.mono hb9.size)))
          clear hb9 HCELL T3 HAC
          go_upto_region 20 with (go_at_call 19; refine (num_any _ _).mono ?_; rintro e wn ⟨rfl, rfl⟩)
          go_loopw [13] (fun kv wr => ∃ k : Nat, k ≤ n ∧ kv = .int .i64 k ∧ Hid (Below w9.heap.size w9 wr)) (fun kv _ => n - (intOf kv).toNat)
          case atStart => exact ⟨0, Nat.zero_le _, rfl, Below.refl _ _⟩
          case round =>
            obtain ⟨k, hkl, rfl, HK⟩ := hrel
            have HXK := Lib.hid (HX9.out.more HK.out)
            by_cases ck : k < n
            · have ckr : k < rs.length := by have := HCN.out; omega
              obtain ⟨b2, off2, ar2, cr2, e2, hcell, hiv⟩ := HR.out.get ckr
              obtain ⟨rfl, rfl⟩ : b2 = b ∧ off2 = off := by simp only [Option.some.injEq, Addr.mk.injEq] at e2; exact ⟨e2.1.symm, e2.2.1.symm⟩
              have hcell' := (World.cell?_of_block (HXK.out.below.block _ (World.block_lt_of_cell? W ⟨_, _, none⟩ hcell))).trans hcell
              have HCELL := Lib.hid (fun (x : World) (hx : Below wr.heap.size wr x) => (World.cell?_of_block (hx.block _ (World.block_lt_of_cell? wr ⟨_, _, none⟩ hcell'))).trans hcell')
              have cka : k < at_.length := by rw [HAL.out]; exact ckr
              obtain ⟨ab2, aoff2, e3, hac⟩ := IsL.get (HIA.out.below (HY9.out.trans (HK.out.mono HY9.out.size))) cka
              obtain ⟨rfl, rfl⟩ : ab2 = ab ∧ aoff2 = aoff := by simp only [Option.some.injEq, Addr.mk.injEq] at e3; exact ⟨e3.1.symm, e3.2.1.symm⟩
              have T3 := Lib.hid (fun (x : World) (hx : Below wr.heap.size wr x) => TP.out x (HXK.out.more hx).below k ckr ar2 cr2 hiv)
              rw [HPA.out k ckr] at T3
              obtain ⟨hq1, hq2⟩ := HQOK.out k ckr
              have hsame := grp_same qs n k (by rw [HQL.out]; exact HCN.out) (by rw [HQL.out]; exact ckr)
              rw [← HAT.out, HEG.out, ← HQE.out] at hsame
              have HACN := Lib.hid (fun (x : World) (hx : Below wr.heap.size wr x) => HAC9.out x (HK.out.trans (hx.mono HK.out.size)))
              have HACK := Lib.hid (fun (x : World) (hx : Below wr.heap.size wr x) => (World.cell?_of_block (hx.block _ (World.block_lt_of_cell? wr _ hac))).trans hac)
              have hki : (k : Int) < (rs.length : Int) := by omega
              have hka : (k : Int) < (at_.length : Int) := by omega
              have hkn : (k : Int) < (n : Int) := by omega
              have hkb : (k : Int) < 17592186044000 := by omega
              have HCK := Lib.hid ck
              have HQ1 := Lib.hid hq1
              have HQ2 := Lib.hid hq2
              have HSM := Lib.hid hsame
              clear hq1 hq2 hsame hcell hcell' hiv hac e2 e3 cka
              generalize rs[k] = r2 at *
              generalize qs.getD k [] = q2 at *
              generalize at_.getD k 0 = zk at *
              go_upto_region 22 with fail
              refine region_glue (fun w' => Below wr.heap.size wr w') 10 7 9 snd2 _ _ [0, 1, 2, 3, 4, 5, 6, 7, 8] [(6, relPart wr.heap.size q2 0), (7, relPart wr.heap.size q2 0)] [(7, 6)] (by kernel_rfl) (by kernel_rfl) rfl rfl rfl (fun R hR b v hb hu => ?_) (fun _ _ _ _ h => h) (by kernel_rfl) (ok_cons (relPart_ok _ _ _) (ok_cons (relPart_ok _ _ _) ok_nil)) (Below.refl _ _).drew (fun w1 w2 h1 h2 => h1.trans (h2.mono h1.size)) ?_
              · cases hR
                exact snd_tupP _ rfl rfl (by rw [hb]; exact of_decide_eq_true rfl) hu
              refine wpRelG_segL [0, 1, 2, 3, 4, 5] (fun l => (l.take 6).drop 0) rfl (by kernel_rfl) (by kernel_rfl) (by kernel_rfl) ?_
              simp only [List.take_succ_cons, List.take_zero, List.drop_succ_cons, List.drop_zero]
              repeat (
                first
                | go_big_quiet_skip
                | (go_big_quiet_want
                   go_big_quiet_op
                   first
                   | go_big_quiet_on
                   | (apply Exists.intro
                      refine ⟨fun v1 hv1 => ?_, ?_⟩
                      · (first
                        | (exact rfl)
                        | (obtain ⟨c0, c1⟩ := (HXK.out.more hv1).sp.at; simp only [c0, c1, Result.andThen]; exact ⟨trivial, rfl⟩)
                        | (obtain ⟨b0, b1, b2⟩ := (HXK.out.more hv1).sc.at; simp only [b0, b1, b2, Result.andThen]; exact ⟨trivial, rfl⟩)
                        | (have d0 := HCELL.out v1 hv1; simp only [d0, Result.andThen]; exact ⟨trivial, rfl⟩)
                        | (exact ⟨trivial, rfl⟩))
                      go_big_quiet_on)))
              refine wpQuiet_nil ?_
              refine wpRelG_rel (k := 6) rfl rfl (by decide) rfl (fun w5 hw5 => ?_) (fun v hv => ?_)
              · go_simp
                exact rel_part hw5.1 (T3.out w5 hw5.1)
              obtain ⟨a5, c5, rfl⟩ := hv
              simp only [Act.put, tupP, snd2_two, List.getElem_toArray, List.getElem_cons_succ, List.getElem_cons_zero, List.setIfInBounds_toArray, List.set_cons_succ, List.set_cons_zero]
              refine wpRelG_glued (p := 7) rfl rfl rfl (fun w5 hw5 => ?_) (fun v hv => ?_)
              · go_simp
                exact rel_mvP hw5.1 (hw5.2 6 rfl)
              obtain ⟨bv, dv, rfl⟩ := hv
              simp only [Act.put, tupP, snd2_two, List.getElem_toArray, List.getElem_cons_succ, List.getElem_cons_zero, List.setIfInBounds_toArray, List.set_cons_succ, List.set_cons_zero]
              refine wpRelG_segL [8] (fun l => (l.take 9).drop 8) rfl (by kernel_rfl) (by kernel_rfl) (by kernel_rfl) ?_
              simp only [List.take_succ_cons, List.take_zero, List.drop_succ_cons, List.drop_zero]
              repeat (
                first
                | go_big_quiet_skip
                | (go_big_quiet_want
                   go_big_quiet_op
                   first
                   | go_big_quiet_on
                   | (apply Exists.intro
                      refine ⟨fun v1 hv1 => ?_, ?_⟩
                      · (first
                        | (exact rfl)
                        | (exact ⟨trivial, rfl⟩))
                      go_big_quiet_on)))
              refine wpQuiet_nil ?_
              refine wpRelG_nil ?_
              intro w10 hb9 hF
              have HO10 := Lib.hid ((show (relPart wr.heap.size q2 0).V (tupP q2 0 bv dv) w10 from hF 7) bv dv rfl)
              clear hF
              have HK10 := Lib.hid (HK.out.trans (hb9.mono HK.out.size))
              have HX10 := Lib.hid (HXK.out.more hb9)
              have HAN := Lib.hid (fun (x : World) (hx : Below w10.heap.size w10 x) => HACN.out x (hb9.trans (hx.mono hb9.size)))
              have HAK := Lib.hid (fun (x : World) (hx : Below w10.heap.size w10 x) => HACK.out x (hb9.trans (hx.mono hb9.size)))
              have T5 := Lib.hid (fun (x : World) (hx : Below w10.heap.size w10 x) => refalike_any x av bv cv dv q q2 ((HO9.out.isV.below HK10.out).below hx) (HO10.out.isV.below hx) HQN.out.2 HQN.out.1 HQ1.out)
              have heq : ((pl : Int) == zk) = decide (q = q2) := by
                rw [Bool.eq_iff_iff, beq_iff_eq, decide_eq_true_eq]; exact HSM.out
              clear hb9 HACN HACK HCELL T3 HSM HO10 HQ1 HQ2
              generalize decide (q = q2) = D at *
              go_upto_region 23 with fail
              cases D with
              | true =>
                refine region_class (fun w' => Below w10.heap.size w10 w') (by kernel_rfl) (by kernel_rfl) (Below.refl _ _).drew ?_
                repeat (
                  first
                  | go_big_quiet_skip
                  | (go_big_quiet_want
                     go_big_quiet_op
                     first
                     | go_big_quiet_on
                     | (apply Exists.intro
                        refine ⟨fun v1 hv1 => ?_, ?_⟩
                        · (first
                          | (exact rfl)
                          | (go_at_call 48; exact (T5.out v1 hv1).mono fun e w3 ⟨he, hb⟩ => ⟨he, hv1.trans (hb.mono hv1.size)⟩)
                          | (have d0 := HAN.out v1 hv1; simp only [d0, Result.andThen]; exact ⟨trivial, rfl⟩)
                          | (have d0 := HAK.out v1 hv1; simp only [d0, Result.andThen]; exact ⟨trivial, rfl⟩)
                          | (exact ⟨trivial, rfl⟩))
                        go_big_quiet_on)))
                refine wpQuiet_nil ?_
                intro w11 hw11
                have HK11 := Lib.hid (HK10.out.trans (hw11.mono HK10.out.size))
                clear hw11
                go_wp2
                go_roundw
                case rel => exact ⟨k + 1, by have := HCK.out; omega, by go_num, HK11⟩
                case measure => have := HCK.out; simp [intOf]; omega
              | false =>
                refine region_class (fun w' => Below w10.heap.size w10 w') (by kernel_rfl) (by kernel_rfl) (Below.refl _ _).drew ?_
                repeat (
                  first
                  | go_big_quiet_skip
                  | (go_big_quiet_want
                     go_big_quiet_op
                     first
                     | go_big_quiet_on
                     | (apply Exists.intro
                        refine ⟨fun v1 hv1 => ?_, ?_⟩
                        · (first
                          | (exact rfl)
                          | (go_at_call 48; exact (T5.out v1 hv1).mono fun e w3 ⟨he, hb⟩ => ⟨he, hv1.trans (hb.mono hv1.size)⟩)
                          | (have d0 := HAN.out v1 hv1; simp only [d0, Result.andThen]; exact ⟨trivial, rfl⟩)
                          | (have d0 := HAK.out v1 hv1; simp only [d0, Result.andThen]; exact ⟨trivial, rfl⟩)
                          | (exact ⟨trivial, rfl⟩))
                        go_big_quiet_on)))
                refine wpQuiet_nil ?_
                intro w11 hw11
                have HK11 := Lib.hid (HK10.out.trans (hw11.mono HK10.out.size))
                clear hw11
                go_wp2
                go_roundw
                case rel => exact ⟨k + 1, by have := HCK.out; omega, by go_num, HK11⟩
                case measure => have := HCK.out; simp [intOf]; omega
            · obtain rfl : k = n := by omega
              clear ck hkl
              go_wp2
              go_roundw
              case rel => exact ⟨k + 1, HCN.out, by rw [HN2.out], by go_num, HY9.out.trans (HK.out.mono HY9.out.size)⟩
              case measure => have := HCN.out; simp [intOf]; omega
      · obtain rfl : n = rs.length := by omega
        clear cn hle
        obtain ⟨b0, b1, b2⟩ := HX.out.sc.at
        go_upto_region 27 with (go_at_call 41; refine (TZ.out _ HX.out.below).mono ?_; rintro e y ⟨az, cz, rfl, ho, hb⟩; have HXZ := Lib.hid (HX.out.more hb); have HIZ := Lib.hid (OwnI.isL ho); clear ho hb b0 b1 b2)
        have d2 : ((zs.length : Int) == (rs.length : Int)) = true := by rw [HZL.out]; simp
        go_loopw [18] (fun iv wr => ∃ m : Nat, m ≤ zs.length ∧ iv = .int .i64 m ∧ Hid (Below y.heap.size y wr)) (fun iv _ => zs.length - (intOf iv).toNat)
        case atStart => exact ⟨0, Nat.zero_le _, rfl, Below.refl _ _⟩
        case round =>
          obtain ⟨m, hml, rfl, HYZ⟩ := hrel
          by_cases cm : m < zs.length
          · obtain ⟨zb, zoff, rfl, hzc⟩ := IsL.get (HIZ.out.below HYZ.out) cm
            rw [HZ0.out m cm] at hzc
            have hmi : (m : Int) < (zs.length : Int) := by omega
            have hmb : (m : Int) < 17592186044000 := by have := HRL.out; have := HZL.out; omega
            go_wp2
            go_roundw
            case rel => exact ⟨m + 1, cm, by go_num, HYZ⟩
            case measure => simp [intOf]; omega
          · obtain rfl : m = zs.length := by omega
            clear cm
            go_wp2_with (go_at_call 19; refine (num_any _ _).mono ?_; rintro e wn ⟨rfl, rfl⟩)
            go_ret
            exact ⟨rfl, (HXZ.out.more HYZ.out).below⟩
end Go.Proofs.Ythfakpekdjmpjaa
