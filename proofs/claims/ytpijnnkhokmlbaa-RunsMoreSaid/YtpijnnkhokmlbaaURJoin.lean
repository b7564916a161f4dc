/- The document's Join. -/
import Derived.Test.YtpijnnkhokmlbaaUJoin
import Derived.Test.YtpijnnkhokmlbaaBits
namespace Go.Proofs.Ytpijnnkhokmlbaa
open Go.Conc Go.RowKit
set_option linter.unusedVariables false
set_option linter.unusedSimpArgs false

/-- What the document's Join has behind n runs. -/
structure RJoinAt (w wr : World) (ms : List Int) (vs : List V) (n : Nat) (aj : Option Addr) (cj : Nat) (out : List V) : Prop where
  is : joinN ms vs n = some out
  vals : OwnV w.heap.size wr aj cj out
  below : Below w.heap.size w wr
/-- .. and some of the run at hand. -/
structure RJoinIn (w u : World) (aj : Option Addr) (cj : Nat) (out : List V) : Prop where
  vals : OwnV w.heap.size u aj cj out
  below : Below w.heap.size w u
section
variable {w u u' : World} {n cj : Nat} {v : V} {vs out : List V} {aj : Option Addr} {ms : List Int}
theorem RJoinAt.more (h : RJoinAt w u ms vs n aj cj out) (hb : Below u.heap.size u u') : RJoinAt w u' ms vs n aj cj out :=
  ⟨h.is, h.vals.below hb, h.below.trans (hb.mono h.below.size)⟩
theorem RJoinIn.more (h : RJoinIn w u aj cj out) (hb : Below u.heap.size u u') : RJoinIn w u' aj cj out :=
  ⟨h.vals.below hb, h.below.trans (hb.mono h.below.size)⟩
theorem RJoinIn.val {aj' : Option Addr} {cj' : Nat} (h : RJoinIn w u aj cj out) (ho : OwnV w.heap.size u' aj' cj' (out ++ [v])) (hf : Frm (At aj) u u') : RJoinIn w u' aj' cj' (out ++ [v]) :=
  ⟨ho, Frm.to_below h.below hf (fun k hk => (h.vals.at_ge hk).1) (Nat.le_refl _)⟩
end

set_option maxRecDepth 100000 in
set_option maxHeartbeats 8000000 in
theorem urjoin_any (w : World) (am a : Option Addr) (cm cap : Nat) (ms : List Int) (vs : List V) (hm : IsL w am ms) (ha : IsV w a vs) (hx : vs.length * 40 ≤ 140737488355328) (hs : ∀ v ∈ vs, v.s.size ≤ 281474976710656) (hmx : ∀ x ∈ ms, x < 9223372036854775808) :
    Calls Try.prog 11 #[.slice am ms.length cm, .slice a vs.length cap] w fun e w' => ∃ aj cj, e = .returned (.tuple #[.slice aj (joinA ms vs).1.length cj, .int .i64 (joinA ms vs).2]) ∧ OwnV w.heap.size w' aj cj (joinA ms vs).1 ∧ Below w.heap.size w w' := by
  by_cases hlen : ms.length = vs.length
  · obtain ⟨R, hR⟩ : ∃ R, R = joinA ms vs := ⟨_, rfl⟩
    rw [← hR]
    have HR := Lib.hid hR
    have HA := Lib.hid ha
    have HM := Lib.hid hm
    have HS := Lib.hid hs
    have HMX := Lib.hid hmx
    have HLN := Lib.hid hlen
    have H0 : Hid (RJoinAt w w ms vs 0 none 0 []) := ⟨rfl, OwnV.nil _ _, Below.refl _ _⟩
    have T1 : Hid (∀ (x y : V), x.s.size ≤ 281474976710656 → y.s.size ≤ 281474976710656 → ∀ u, Calls Try.prog 21 #[.agg #[.int .i64 x.k, .int .i64 x.i, .bool x.b, .string x.s], .agg #[.int .i64 y.k, .int .i64 y.i, .bool y.b, .string y.s]] u fun e w' => e = .returned (.int .i64 (ordV x y)) ∧ Below u.heap.size u w') := fun x y hx hy u => rcmp_any x y (by omega) (by omega) u
    rw [hlen]
    clear hR ha hs hm hmx hlen
    go_enter Try.func11, Try.ntmps11
    go_wp2
    go_loopw [6, 7] (fun jv iv wr => ∃ (n cj : Nat) (aj : Option Addr) (out : List V), n ≤ vs.length ∧ iv = .int .i64 n ∧ jv = .slice aj out.length cj ∧ Hid (RJoinAt w wr ms vs n aj cj out)) (fun _ iv _ => vs.length - (intOf iv).toNat)
    case atStart => exact ⟨0, 0, none, [], Nat.zero_le _, rfl, rfl, H0⟩
    case round =>
      obtain ⟨n, cj, aj, out, hn, rfl, rfl, HC⟩ := hrel
      by_cases c : n < vs.length
      · rcases HA.out with h | ⟨bb, off, rfl, hcells⟩
        · subst h; simp at c
        obtain ⟨bm, om, rfl, hmc⟩ := HM.out.get (n := n) (by have := HLN.out; omega)
        have HVN := Lib.hid (hcells n c)
        have hsz := HS.out vs[n] (List.getElem_mem _)
        have HJ : Hid (joinN ms vs (n + 1) = if ms.getD n 0 < 1 ∨ 4096 - (out.length : Int) < ms.getD n 0 ∨ (0 < n ∧ plainV (vs.getD (n - 1) zeroV) = plainV vs[n]) then none else some (out ++ List.replicate (ms.getD n 0).toNat (plainV vs[n]))) := by
          unfold Hid
          rw [joinN, HC.out.is, ← getD_in (d := zeroV)]
        have hol := joinN_le _ _ HC.out.is
        have hx1 : ms.getD n 0 < 9223372036854775808 := by
          have hn2 : n < ms.length := by have := HLN.out; omega
          rw [getD_in hn2]; exact HMX.out _ (List.getElem_mem _)
        have HCE := Lib.hid hcells
        clear hcells
        generalize vs[n] = v at *
        generalize ms.getD n 0 = x at *
        obtain ⟨p, hp⟩ : ∃ p, p = plainV v := ⟨_, rfl⟩
        have T3 : Hid (∀ u, Calls Try.prog 20 #[.agg #[.int .i64 v.k, .int .i64 v.i, .bool v.b, .string v.s]] u fun e w' => e = .returned (.agg #[.int .i64 p.k, .int .i64 p.i, .bool p.b, .string p.s]) ∧ Below u.heap.size u w') := by rw [hp]; exact fun u => rclean_any v u
        have HP := Lib.hid hp
        rw [← hp] at HJ
        clear hp
        have HMC := Lib.hid hmc
        clear hmc
        have hmc := (HC.out.below.cell (p := ⟨bm, om + n, none⟩) (World.block_lt_of_cell? w _ HMC.out)).trans HMC.out
        have hni : (n : Int) < (vs.length : Int) := by omega
        have hno : (x < 1 ∨ 4096 - (out.length : Int) < x ∨ (0 < n ∧ plainV (vs.getD (n - 1) zeroV) = p)) → R = ([], 700) := by
          intro h
          rw [HR.out]
          refine joinA_none (k := n + 1) c ?_
          rw [HJ.out, if_pos h]
        by_cases x1 : x < 1
        · obtain rfl := hno (.inl x1)
          clear hno
          go_upto_region 7 with fail
          go_quiet (fail)
          go_wp2
          go_ret2
          exact ⟨none, 0, rfl, OwnV.nil _ _, bel_drewN HC.out.below⟩
        by_cases x2 : 4096 - (out.length : Int) < x
        · obtain rfl := hno (.inr (.inl x2))
          clear hno
          go_upto_region 7 with fail
          go_quiet (fail)
          go_wp2
          go_ret2
          exact ⟨none, 0, rfl, OwnV.nil _ _, bel_drewN HC.out.below⟩
        by_cases hn0 : n = 0
        · have hng : ¬ (0 < n) := by omega
          have HOK : Hid (0 < n → plainV (vs.getD (n - 1) zeroV) = p → False) := fun h => absurd h hng
          clear hno hn0
          go_upto_region 7 with fail
          go_quiet (fail)
          replace HC := Lib.hid (HC.out.more (bel_drewN (n := nq) (Below.refl _ wr)))
          generalize wr.drewN nq = w2 at *
          have HJ2 : Hid (joinN ms vs (n + 1) = some (out ++ List.replicate x.toNat p)) := by
            unfold Hid
            rw [HJ.out, if_neg]
            rintro (h | h | ⟨h0, h⟩)
            · omega
            · omega
            · exact HOK.out h0 h
          clear HJ HOK hmc
          obtain ⟨X, rfl⟩ : ∃ X : Nat, x = X := ⟨x.toNat, by omega⟩
          rw [Int.toNat_natCast] at HJ2
          have hXb : out.length + X ≤ 4096 := by omega
          have H1 : Hid (RJoinIn w w2 aj cj (out ++ List.replicate 0 p)) := by unfold Hid; rw [List.replicate_zero, List.append_nil]; exact ⟨HC.out.vals, HC.out.below⟩
          clear x1 x2 HC
          go_upto_region 10 with fail
          go_loopw [6, 8] (fun jv iv wi => ∃ (j cj : Nat) (aj : Option Addr), j ≤ X ∧ iv = .int .i64 j ∧ jv = .slice aj (out ++ List.replicate j p).length cj ∧ Hid (RJoinIn w wi aj cj (out ++ List.replicate j p))) (fun _ iv _ => X - (intOf iv).toNat)
          case atStart => exact ⟨0, cj, aj, Nat.zero_le _, rfl, by simp, H1⟩
          case round =>
            obtain ⟨j, cj2, aj2, hj, rfl, rfl, HI⟩ := hrel
            have hmc := (HI.out.below.cell (p := ⟨bm, om + n, none⟩) (World.block_lt_of_cell? w _ HMC.out)).trans HMC.out
            by_cases c2 : j < X
            · have hL : out ++ List.replicate (j + 1) p = (out ++ List.replicate j p) ++ [p] := by rw [List.replicate_succ', List.append_assoc]
              have HLL := Lib.hid hL
              have hlen : (out ++ List.replicate j p).length ≤ 3518437208882 := by rw [List.length_append, List.length_replicate]; omega
              have HLE := Lib.hid hlen
              clear hL hlen
              obtain ⟨v0, v1, v2, v3⟩ := HVN.out.below HI.out.below
              generalize out ++ List.replicate j p = L at *
              go_wp2_with (first
                | (go_at_call 20; refine (T3.out _).mono ?_; rintro e w5 ⟨rfl, hb⟩; replace HI := Lib.hid (HI.out.more hb); clear hb)
                | (at_builtin; refine wp_val HI.out.vals HI.out.below.size HLE.out rfl _ _ rfl p rfl rfl ?_; intro aj' cj' u7 ho hf _; replace HI := Lib.hid (HI.out.val ho hf); clear ho hf))
              go_roundw
              case rel => exact ⟨j + 1, cj', aj', c2, by go_num, by rw [HLL.out]; simp, by rw [HLL.out]; exact HI⟩
              case measure => simp [intOf]; omega
            · obtain rfl : j = X := by omega
              clear c2
              have HFIN : Hid (RJoinAt w _ ms vs (n + 1) aj2 cj2 (out ++ List.replicate j p)) := ⟨HJ2.out, HI.out.vals, HI.out.below⟩
              generalize out ++ List.replicate j p = L at *
              go_wp2
              go_roundw
              case rel => exact ⟨n + 1, cj2, aj2, L, c, by go_num, rfl, HFIN⟩
              case measure => simp [intOf]; omega
        · obtain ⟨k, hk⟩ : ∃ k, n = k + 1 := ⟨n - 1, by omega⟩
          have hng : (0 : Int) < (n : Int) := by omega
          have hng2 : 0 < n := by omega
          have hkc : k < vs.length := by omega
          have hki : (k : Int) < (vs.length : Int) := by omega
          have hkw : IntKind.i64.wrap ((n : Int) - 1) = (k : Int) := by rw [show (n : Int) - 1 = (k : Int) by omega]; exact wrap_i64_nat k (by omega)
          have how : IntKind.i64.wrap (4096 - (out.length : Int)) = 4096 - (out.length : Int) := by rw [show 4096 - (out.length : Int) = ((4096 - out.length : Nat) : Int) by omega]; exact wrap_i64_nat _ (by omega)
          have HVK := Lib.hid (HCE.out k hkc)
          have HLK := Lib.hid (HS.out vs[k] (List.getElem_mem _))
          have HLV : Hid (vs.getD (n - 1) zeroV = vs[k]) := by unfold Hid; rw [hk, Nat.add_sub_cancel]; exact getD_in hkc
          have HSZ := Lib.hid hsz
          generalize vs[k] = l at *
          have HK := Lib.hid hk
          clear hk hsz hn0
          have hz : (ordV l v == 0) = decide (plainV l = p) := by
            have h := ordV_zero l v
            rw [← HP.out] at h
            by_cases e : plainV l = p
            · rw [decide_eq_true e, h.2 e]; rfl
            · rw [decide_eq_false e]
              have := fun e2 => e (h.1 e2)
              simpa using this
          have HZ := Lib.hid hz
          clear hz
          have HV1 := Lib.hid (HVN.out.below HC.out.below)
          have HV2 := Lib.hid (HVK.out.below HC.out.below)
          go_upto_region 7 with fail
          refine region_class (fun w' => Below wr.heap.size wr w') (by kernel_rfl) (by kernel_rfl) (Below.refl _ _).drew ?_
          repeat (
            refine wpQuiet_step (fun K hK => ?_)
            go_simp
            first
            | (refine hK _ ?_; clear hK K)
            | (apply Exists.intro
               refine ⟨fun w1 hw1 => ?_, hK _ ?_⟩
               (first
                 | (exact rfl)
                 | (have h := hw1.cell (p := ⟨bm, om + n, none⟩) (World.block_lt_of_cell? wr _ hmc); rw [hmc] at h; simp only [h, Result.andThen]; exact ⟨trivial, rfl⟩)
                 | (obtain ⟨p0, p1, p2, p3⟩ := HV1.out.below hw1; simp only [p0, p1, p2, p3, Result.andThen]; exact ⟨trivial, rfl⟩)
                 | (obtain ⟨p0, p1, p2, p3⟩ := HV2.out.below hw1; simp only [p0, p1, p2, p3, Result.andThen]; exact ⟨trivial, rfl⟩)
                 | (go_at_call 21; exact (T1.out _ _ HLK.out HSZ.out _).mono fun e w2 ⟨he, hb⟩ => ⟨he, hw1.trans (hb.mono hw1.size)⟩))
               clear hK K))
          refine wpQuiet_nil ?_
          intro w2 hw2
          replace HC := Lib.hid (HC.out.more hw2)
          clear hw2 HV1 HV2 HVK T1 HLK HSZ hmc how hkw hki
          rw [HZ.out]
          clear HZ
          by_cases e : plainV l = p
          · rw [decide_eq_true e]
            obtain rfl := hno (.inr (.inr ⟨by omega, by rw [HLV.out]; exact e⟩))
            clear hno e
            go_wp2
            go_ret2
            exact ⟨none, 0, rfl, OwnV.nil _ _, HC.out.below⟩
          · rw [decide_eq_false e]
            have HOK : Hid (0 < n → plainV (vs.getD (n - 1) zeroV) = p → False) := fun _ h => e (by rw [HLV.out] at h; exact h)
            have hmc : True := trivial
            clear hno e
            have HJ2 : Hid (joinN ms vs (n + 1) = some (out ++ List.replicate x.toNat p)) := by
              unfold Hid
              rw [HJ.out, if_neg]
              rintro (h | h | ⟨h0, h⟩)
              · omega
              · omega
              · exact HOK.out h0 h
            clear HJ HOK hmc
            obtain ⟨X, rfl⟩ : ∃ X : Nat, x = X := ⟨x.toNat, by omega⟩
            rw [Int.toNat_natCast] at HJ2
            have hXb : out.length + X ≤ 4096 := by omega
            have H1 : Hid (RJoinIn w w2 aj cj (out ++ List.replicate 0 p)) := by unfold Hid; rw [List.replicate_zero, List.append_nil]; exact ⟨HC.out.vals, HC.out.below⟩
            clear x1 x2 HC
            go_upto_region 10 with fail
            go_loopw [6, 8] (fun jv iv wi => ∃ (j cj : Nat) (aj : Option Addr), j ≤ X ∧ iv = .int .i64 j ∧ jv = .slice aj (out ++ List.replicate j p).length cj ∧ Hid (RJoinIn w wi aj cj (out ++ List.replicate j p))) (fun _ iv _ => X - (intOf iv).toNat)
            case atStart => exact ⟨0, cj, aj, Nat.zero_le _, rfl, by simp, H1⟩
            case round =>
              obtain ⟨j, cj2, aj2, hj, rfl, rfl, HI⟩ := hrel
              have hmc := (HI.out.below.cell (p := ⟨bm, om + n, none⟩) (World.block_lt_of_cell? w _ HMC.out)).trans HMC.out
              by_cases c2 : j < X
              · have hL : out ++ List.replicate (j + 1) p = (out ++ List.replicate j p) ++ [p] := by rw [List.replicate_succ', List.append_assoc]
                have HLL := Lib.hid hL
                have hlen : (out ++ List.replicate j p).length ≤ 3518437208882 := by rw [List.length_append, List.length_replicate]; omega
                have HLE := Lib.hid hlen
                clear hL hlen
                obtain ⟨v0, v1, v2, v3⟩ := HVN.out.below HI.out.below
                generalize out ++ List.replicate j p = L at *
                go_wp2_with (first
                  | (go_at_call 20; refine (T3.out _).mono ?_; rintro e w5 ⟨rfl, hb⟩; replace HI := Lib.hid (HI.out.more hb); clear hb)
                  | (at_builtin; refine wp_val HI.out.vals HI.out.below.size HLE.out rfl _ _ rfl p rfl rfl ?_; intro aj' cj' u7 ho hf _; replace HI := Lib.hid (HI.out.val ho hf); clear ho hf))
                go_roundw
                case rel => exact ⟨j + 1, cj', aj', c2, by go_num, by rw [HLL.out]; simp, by rw [HLL.out]; exact HI⟩
                case measure => simp [intOf]; omega
              · obtain rfl : j = X := by omega
                clear c2
                have HFIN : Hid (RJoinAt w _ ms vs (n + 1) aj2 cj2 (out ++ List.replicate j p)) := ⟨HJ2.out, HI.out.vals, HI.out.below⟩
                generalize out ++ List.replicate j p = L at *
                go_wp2
                go_roundw
                case rel => exact ⟨n + 1, cj2, aj2, L, c, by go_num, rfl, HFIN⟩
                case measure => simp [intOf]; omega
      · obtain rfl : n = vs.length := by omega
        have hR : R = (out, 0) := by rw [HR.out]; exact joinA_some HLN.out HC.out.is
        subst hR
        clear c
        go_wp2
        go_ret2
        exact ⟨aj, cj, rfl, HC.out.vals, HC.out.below⟩
  · rw [joinA_len hlen]
    have hne : ((ms.length : Int) != (vs.length : Int)) = true := by simp; omega
    clear hm ha hs hmx hlen
    go_enter Try.func11, Try.ntmps11
    go_wp2
    go_ret2
    exact ⟨none, 0, rfl, OwnV.nil _ _, Below.refl _ _⟩
end Go.Proofs.Ytpijnnkhokmlbaa
