/- The program's Join. -/
import Derived.Test.YtpijnnkhokmlbaaUCut
namespace Go.Proofs.Ytpijnnkhokmlbaa
open Go.Conc Go.RowKit
set_option linter.unusedVariables false
set_option linter.unusedSimpArgs false

/-- What Join has behind n runs. -/
structure JoinAt (w wr : World) (ms : List Int) (vs : List V) (n : Nat) (aj : Option Addr) (cj : Nat) (out : List V) (lv : V) : Prop where
  is : joinN ms vs n = some out
  vals : OwnV (w.heap.size + 1) wr aj cj out
  slot : Slot wr w.heap.size lv
  one : n = 0 ∨ lv = plainV (vs.getD (n - 1) zeroV)
  below : Below w.heap.size w wr
/-- .. and the value at hand. -/
structure JoinRd (w u : World) (g : Nat) (v : V) (aj : Option Addr) (cj : Nat) (out : List V) (lv : V) : Prop where
  vals : OwnV (w.heap.size + 1) u aj cj out
  slot : Slot u w.heap.size lv
  hand : Slot u g v
  off : ¬ At aj g
  gt : w.heap.size < g
  below : Below w.heap.size w u
/-- .. and its copy. -/
structure JoinIn (w u : World) (g h : Nat) (v : V) (aj : Option Addr) (cj : Nat) (out : List V) (lv : V) : Prop where
  rd : JoinRd w u g v aj cj out lv
  copy : Slot u h v
  off : ¬ At aj h
section
variable {w u u' : World} {g h n cj : Nat} {v lv : V} {vs out : List V} {aj : Option Addr} {ms : List Int}
theorem JoinAt.rd (h : JoinAt w u ms vs n aj cj out lv) (v : V) : JoinRd w (u.alloc (.cells #[.int .i64 v.k, .int .i64 v.i, .bool v.b, .string v.s] 41)) u.heap.size v aj cj out lv :=
  ⟨own_same h.vals fun k _ hk => Below.heap_alloc u _ k hk, h.slot.alloc _, Slot.new u v, fun hk => by have := (h.vals.at_ge hk).2; omega, h.slot.lt, h.below.alloc h.below.size _⟩
theorem JoinRd.more (h : JoinRd w u g v aj cj out lv) (hb : Below u.heap.size u u') : JoinRd w u' g v aj cj out lv :=
  ⟨h.vals.below hb, h.slot.below hb, h.hand.below hb, h.off, h.gt, h.below.trans (hb.mono h.below.size)⟩
theorem JoinRd.store (h : JoinRd w u g v aj cj out lv) (p : V) : JoinRd w ((((u.setCell ⟨g, 0, none⟩ (.int .i64 p.k)).setCell ⟨g, 1, none⟩ (.int .i64 p.i)).setCell ⟨g, 2, none⟩ (.bool p.b)).setCell ⟨g, 3, none⟩ (.string p.s)) g p aj cj out lv := by
  have hf := Frm.chain (u := u) (F := fun k => k = g) rfl p
  have hg := h.gt
  exact ⟨h.vals.frm hf fun k hk _ e => h.off (e ▸ hk), h.slot.same (hf.block _ h.slot.lt (by omega)), h.hand.store p, h.off, hg, Frm.to_below h.below hf (fun k e => by omega) (Nat.le_refl _)⟩
theorem JoinRd.copied (h : JoinRd w u g v aj cj out lv) : JoinIn w (u.alloc (.cells #[.int .i64 v.k, .int .i64 v.i, .bool v.b, .string v.s] 41)) g u.heap.size v aj cj out lv :=
  ⟨h.more ((Below.refl _ _).alloc (Nat.le_refl _) _), Slot.new u v, fun hk => by have := (h.vals.at_ge hk).2; omega⟩
theorem JoinIn.val {aj' : Option Addr} {cj' : Nat} (h' : JoinIn w u g h v aj cj out lv) (ho : OwnV (w.heap.size + 1) u' aj' cj' (out ++ [v])) (hf : Frm (At aj) u u') (hn : ∀ k, At aj' k → At aj k ∨ u.heap.size < k) : JoinIn w u' g h v aj' cj' (out ++ [v]) lv := by
  have hs := h'.rd.slot.same (hf.block _ h'.rd.slot.lt fun hk => by have := (h'.rd.vals.at_ge hk).1; omega)
  have lg := h'.rd.hand.lt
  have lh := h'.copy.lt
  exact ⟨⟨ho, hs, h'.rd.hand.same (hf.block _ lg h'.rd.off), fun hk => by
    rcases hn _ hk with h1 | h1
    · exact h'.rd.off h1
    · omega, h'.rd.gt, Frm.to_below h'.rd.below hf (fun k hk => by have := (h'.rd.vals.at_ge hk).1; omega) (Nat.le_refl _)⟩, h'.copy.same (hf.block _ lh h'.off), fun hk => by
    rcases hn _ hk with h1 | h1
    · exact h'.off h1
    · omega⟩
theorem JoinRd.kept (h : JoinRd w u g v aj cj out lv) {n : Nat} (hc : joinN ms vs n = some out) (hp : n = 0 ∨ v = plainV (vs.getD (n - 1) zeroV)) : JoinAt w ((((u.setCell ⟨w.heap.size, 0, none⟩ (.int .i64 v.k)).setCell ⟨w.heap.size, 1, none⟩ (.int .i64 v.i)).setCell ⟨w.heap.size, 2, none⟩ (.bool v.b)).setCell ⟨w.heap.size, 3, none⟩ (.string v.s)) ms vs n aj cj out v := by
  have hf := Frm.chain (u := u) (F := fun k => k = w.heap.size) rfl v
  exact ⟨hc, h.vals.frm hf fun k hk _ e => by have := (h.vals.at_ge hk).1; omega, h.slot.store v, hp, Frm.to_below h.below hf (fun k e => by omega) (Nat.le_refl _)⟩
end
theorem IsL.get {w : World} {a : Option Addr} {xs : List Int} (h : IsL w a xs) {n : Nat} (hn : n < xs.length) : ∃ b off, a = some ⟨b, off, none⟩ ∧ w.cell? ⟨b, off + n, none⟩ = some (.int .i64 (xs.getD n 0)) := by
  rcases h with h | ⟨b, off, rfl, hc⟩
  · subst h; simp at hn
  · exact ⟨b, off, rfl, by rw [getD_in hn]; exact hc n hn⟩

set_option maxRecDepth 100000 in
set_option maxHeartbeats 8000000 in
theorem ujoin_any (w : World) (am a : Option Addr) (cm cap : Nat) (ms : List Int) (vs : List V) (hm : IsL w am ms) (ha : IsV w a vs) (hx : vs.length * 40 ≤ 140737488355328) (hs : ∀ v ∈ vs, v.s.size ≤ 281474976710656) (hmx : ∀ x ∈ ms, x < 9223372036854775808) :
    Calls Try.prog 10 #[.slice am ms.length cm, .slice a vs.length cap] w fun e w' => ∃ aj cj, e = .returned (.tuple #[.slice aj (joinA ms vs).1.length cj, .int .i64 (joinA ms vs).2]) ∧ OwnV w.heap.size w' aj cj (joinA ms vs).1 ∧ Below w.heap.size w w' := by
  by_cases hlen : ms.length = vs.length
  · obtain ⟨R, hR⟩ : ∃ R, R = joinA ms vs := ⟨_, rfl⟩
    rw [← hR]
    have HR := Lib.hid hR
    have HA := Lib.hid ha
    have HM := Lib.hid hm
    have HS := Lib.hid hs
    have HMX := Lib.hid hmx
    have HLN := Lib.hid hlen
    have H0 : Hid (JoinAt w (w.alloc (.cells #[.int .i64 0, .int .i64 0, .bool false, .string ⟨#[]⟩] 41)) ms vs 0 none 0 [] ⟨0, 0, false, ⟨#[]⟩⟩) :=
      ⟨rfl, OwnV.nil _ _, Slot.new w ⟨0, 0, false, ⟨#[]⟩⟩, .inl rfl, (Below.refl _ _).alloc (Nat.le_refl _) _⟩
    rw [hlen]
    clear hR ha hs hm hmx hlen
    go_enter Try.func10, Try.ntmps10
    go_wp2
    go_loopw [6, 18] (fun jv iv wr => ∃ (n cj : Nat) (aj : Option Addr) (out : List V) (lv : V), n ≤ vs.length ∧ iv = .int .i64 n ∧ jv = .slice aj out.length cj ∧ Hid (JoinAt w wr ms vs n aj cj out lv)) (fun _ iv _ => vs.length - (intOf iv).toNat)
    case atStart => exact ⟨0, 0, none, [], _, Nat.zero_le _, rfl, rfl, H0⟩
    case round =>
      obtain ⟨n, cj, aj, out, lv, hn, rfl, rfl, HC⟩ := hrel
      by_cases c : n < vs.length
      · rcases HA.out with h | ⟨bb, off, rfl, hcells⟩
        · subst h; simp at c
        obtain ⟨bm, om, rfl, hmc⟩ := HM.out.get (n := n) (by have := HLN.out; omega)
        obtain ⟨v0, v1, v2, v3⟩ := (hcells n c).below HC.out.below
        have hsz := HS.out vs[n] (List.getElem_mem _)
        have HJ : Hid (joinN ms vs (n + 1) = if ms.getD n 0 < 1 ∨ 4096 - (out.length : Int) < ms.getD n 0 ∨ (0 < n ∧ plainV (vs.getD (n - 1) zeroV) = plainV vs[n]) then none else some (out ++ List.replicate (ms.getD n 0).toNat (plainV vs[n]))) := by
          unfold Hid
          rw [joinN, HC.out.is, ← getD_in (d := zeroV)]
        have hol := joinN_le _ _ HC.out.is
        have HV : Hid (vs.getD n zeroV = vs[n]) := getD_in c
        have hx1 : ms.getD n 0 < 9223372036854775808 := by
          have hn2 : n < ms.length := by have := HLN.out; omega
          rw [getD_in hn2]; exact HMX.out _ (List.getElem_mem _)
        clear hcells
        generalize vs[n] = v at *
        generalize ms.getD n 0 = x at *
        obtain ⟨p, hp⟩ : ∃ p, p = plainV v := ⟨_, rfl⟩
        have HP := Lib.hid hp
        have T1 : Hid (∀ u, Calls Try.prog 24 #[.agg #[.int .i64 v.k, .int .i64 v.i, .bool v.b, .string v.s]] u fun e w' => e = .returned (.agg #[.int .i64 p.k, .int .i64 p.i, .bool p.b, .string p.s]) ∧ Below u.heap.size u w') := by rw [hp]; exact fun u => plain_any v u
        have T2 : Hid (∀ u, Calls Try.prog 25 #[.agg #[.int .i64 p.k, .int .i64 p.i, .bool p.b, .string p.s]] u fun e w' => e = .returned (.agg #[.int .i64 p.k, .int .i64 p.i, .bool p.b, .string p.s]) ∧ Below u.heap.size u w') := by
          have := fun u => vcopy_any (plainV v) (Nat.le_trans (plainV_size v) hsz) u
          rw [plainV_twice, ← hp] at this
          exact this
        rw [← hp] at HJ
        clear hp hsz
        have HRD := Lib.hid (HC.out.rd v)
        have HIS := Lib.hid HC.out.is
        have HON := Lib.hid HC.out.one
        have HMC := Lib.hid hmc
        clear hmc
        generalize hg8 : wr.heap.size = g8 at *
        clear HC
        go_upto_region 8 with fail
        generalize wr.alloc (.cells #[.int .i64 v.k, .int .i64 v.i, .bool v.b, .string v.s] 41) = u1 at *
        obtain ⟨⟨a0, a1, a2, a3⟩, b0, b1, b2, b3⟩ := HRD.out.hand.at
        go_upto_region 9 with (go_at_call 24; refine (T1.out _).mono ?_; rintro e w2 ⟨rfl, hb⟩; replace HRD := Lib.hid (HRD.out.more hb); obtain ⟨⟨a0, a1, a2, a3⟩, b0, b1, b2, b3⟩ := HRD.out.hand.at; clear hb)
        replace HRD := Lib.hid (HRD.out.store p)
        generalize ((((w2.setCell ⟨g8, 0, none⟩ (.int .i64 p.k)).setCell ⟨g8, 1, none⟩ (.int .i64 p.i)).setCell ⟨g8, 2, none⟩ (.bool p.b)).setCell ⟨g8, 3, none⟩ (.string p.s)) = u3 at *
        clear a0 a1 a2 a3 b0 b1 b2 b3 T1 v0 v1 v2 v3
        obtain ⟨⟨a0, a1, a2, a3⟩, _⟩ := HRD.out.hand.at
        obtain ⟨⟨l0, l1, l2, l3⟩, m0, m1, m2, m3⟩ := HRD.out.slot.at
        have hmc := (HRD.out.below.cell (p := ⟨bm, om + n, none⟩) (World.block_lt_of_cell? w _ HMC.out)).trans HMC.out
        have hq := run_eql_val p lv
        have hno : (x < 1 ∨ 4096 - (out.length : Int) < x ∨ (0 < n ∧ p = lv)) → R = ([], 700) := by
          intro h
          rw [HR.out]
          refine joinA_none (k := n + 1) c ?_
          rw [HJ.out, if_pos]
          rcases h with h | h | ⟨h0, h⟩
          · exact .inl h
          · exact .inr (.inl h)
          · refine .inr (.inr ⟨h0, ?_⟩)
            rcases HON.out with h1 | h1
            · omega
            · rw [← h1, h]
        by_cases x1 : x < 1
        · obtain rfl := hno (.inl x1)
          clear hno hq
          go_wp2
          go_ret2
          exact ⟨none, 0, rfl, OwnV.nil _ _, HRD.out.below⟩
        by_cases x2 : 4096 - (out.length : Int) < x
        · obtain rfl := hno (.inr (.inl x2))
          clear hno hq
          go_wp2
          go_ret2
          exact ⟨none, 0, rfl, OwnV.nil _ _, HRD.out.below⟩
        have hsplit : (0 < n ∧ p = lv) ∨ n = 0 ∨ (0 < n ∧ decide (p = lv) = false) := by
          by_cases h0 : n = 0
          · exact .inr (.inl h0)
          · by_cases e : p = lv
            · exact .inl ⟨by omega, e⟩
            · exact .inr (.inr ⟨by omega, decide_eq_false e⟩)
        rcases hsplit with ⟨hn0, hpl⟩ | hok
        · obtain rfl := hno (.inr (.inr ⟨hn0, hpl⟩))
          subst hpl
          simp only [decide_eq_true] at hq
          clear hno
          go_wp2
          go_ret2
          exact ⟨none, 0, rfl, OwnV.nil _ _, HRD.out.below⟩
        have HJ2 : Hid (joinN ms vs (n + 1) = some (out ++ List.replicate x.toNat p)) := by
          unfold Hid
          rw [HJ.out, if_neg]
          rintro (h | h | ⟨h0, h⟩)
          · omega
          · omega
          · rcases hok with h1 | ⟨h1, h2⟩
            · omega
            · rcases HON.out with h3 | h3
              · omega
              · exact absurd (by rw [h3, h]) (of_decide_eq_false h2)
        clear hno HJ HON HIS
        obtain ⟨X, rfl⟩ : ∃ X : Nat, x = X := ⟨x.toNat, by omega⟩
        rw [Int.toNat_natCast] at HJ2
        have hXb : out.length + X ≤ 4096 := by omega
        have HNX := Lib.hid (show n + 1 = 0 ∨ p = plainV (vs.getD (n + 1 - 1) zeroV) by rw [Nat.add_sub_cancel, HV.out]; exact .inr HP.out)
        rcases hok with hn0 | ⟨hn0, hpl⟩
        · have hng : ¬ (0 < n) := by omega
          clear hn0
          go_upto_region 11 with fail
          clear l0 l1 l2 l3 m0 m1 m2 m3 hq hmc x1 x2
          go_upto_region 12 with (go_at_call 25; refine (T2.out _).mono ?_; rintro e w5 ⟨rfl, hb⟩; replace HRD := Lib.hid (HRD.out.more hb); have HIN := Lib.hid HRD.out.copied; clear hb; generalize hg10 : w5.heap.size = g10 at *)
          generalize w5.alloc (.cells #[.int .i64 p.k, .int .i64 p.i, .bool p.b, .string p.s] 41) = u6 at *
          clear a0 a1 a2 a3
          have hmc := (HIN.out.rd.below.cell (p := ⟨bm, om + n, none⟩) (World.block_lt_of_cell? w _ HMC.out)).trans HMC.out
          have H1 : Hid (JoinIn w u6 g8 g10 p aj cj (out ++ List.replicate 0 p) lv) := by unfold Hid; rw [List.replicate_zero, List.append_nil]; exact HIN.out
          go_upto_region 13 with fail
          clear hmc
          go_loopw [6, 55] (fun jv iv wi => ∃ (j cj : Nat) (aj : Option Addr), j ≤ X ∧ iv = .int .i64 j ∧ jv = .slice aj (out ++ List.replicate j p).length cj ∧ Hid (JoinIn w wi g8 g10 p aj cj (out ++ List.replicate j p) lv)) (fun _ iv _ => X - (intOf iv).toNat)
          case atStart => exact ⟨0, cj, aj, Nat.zero_le _, rfl, by simp, H1⟩
          case round =>
            obtain ⟨j, cj2, aj2, hj, rfl, rfl, HI⟩ := hrel
            by_cases c2 : j < X
            · have hL : out ++ List.replicate (j + 1) p = (out ++ List.replicate j p) ++ [p] := by rw [List.replicate_succ', List.append_assoc]
              have HLL := Lib.hid hL
              have hlen : (out ++ List.replicate j p).length ≤ 3518437208882 := by rw [List.length_append, List.length_replicate]; omega
              have HLE := Lib.hid hlen
              clear hL hlen
              obtain ⟨⟨a0, a1, a2, a3⟩, _⟩ := HI.out.copy.at
              generalize out ++ List.replicate j p = L at *
              go_wp2_with (at_builtin; refine wp_val HI.out.rd.vals (by have := HI.out.rd.gt; have := HI.out.rd.hand.lt; omega) HLE.out rfl _ _ rfl p rfl rfl ?_; intro aj' cj' u7 ho hf hn2; replace HI := Lib.hid (HI.out.val ho hf hn2); clear ho hf hn2)
              go_roundw
              case rel => exact ⟨j + 1, cj', aj', c2, by go_num, by rw [HLL.out]; simp, by rw [HLL.out]; exact HI⟩
              case measure => simp [intOf]; omega
            · obtain rfl : j = X := by omega
              clear c2
              obtain ⟨⟨a0, a1, a2, a3⟩, _⟩ := HI.out.rd.hand.at
              obtain ⟨⟨l0, l1, l2, l3⟩, m0, m1, m2, m3⟩ := HI.out.rd.slot.at
              have HFIN := Lib.hid (HI.out.rd.kept HJ2.out HNX.out)
              generalize out ++ List.replicate j p = L at *
              go_wp2
              go_roundw
              case rel => exact ⟨n + 1, cj2, aj2, L, p, c, by go_num, rfl, HFIN⟩
              case measure => simp [intOf]; omega
        · rw [hpl] at hq
          clear hpl
          go_upto_region 11 with fail
          clear l0 l1 l2 l3 m0 m1 m2 m3 hq hmc x1 x2
          go_upto_region 12 with (go_at_call 25; refine (T2.out _).mono ?_; rintro e w5 ⟨rfl, hb⟩; replace HRD := Lib.hid (HRD.out.more hb); have HIN := Lib.hid HRD.out.copied; clear hb; generalize hg10 : w5.heap.size = g10 at *)
          generalize w5.alloc (.cells #[.int .i64 p.k, .int .i64 p.i, .bool p.b, .string p.s] 41) = u6 at *
          clear a0 a1 a2 a3
          have hmc := (HIN.out.rd.below.cell (p := ⟨bm, om + n, none⟩) (World.block_lt_of_cell? w _ HMC.out)).trans HMC.out
          have H1 : Hid (JoinIn w u6 g8 g10 p aj cj (out ++ List.replicate 0 p) lv) := by unfold Hid; rw [List.replicate_zero, List.append_nil]; exact HIN.out
          go_upto_region 13 with fail
          clear hmc
          go_loopw [6, 55] (fun jv iv wi => ∃ (j cj : Nat) (aj : Option Addr), j ≤ X ∧ iv = .int .i64 j ∧ jv = .slice aj (out ++ List.replicate j p).length cj ∧ Hid (JoinIn w wi g8 g10 p aj cj (out ++ List.replicate j p) lv)) (fun _ iv _ => X - (intOf iv).toNat)
          case atStart => exact ⟨0, cj, aj, Nat.zero_le _, rfl, by simp, H1⟩
          case round =>
            obtain ⟨j, cj2, aj2, hj, rfl, rfl, HI⟩ := hrel
            by_cases c2 : j < X
            · have hL : out ++ List.replicate (j + 1) p = (out ++ List.replicate j p) ++ [p] := by rw [List.replicate_succ', List.append_assoc]
              have HLL := Lib.hid hL
              have hlen : (out ++ List.replicate j p).length ≤ 3518437208882 := by rw [List.length_append, List.length_replicate]; omega
              have HLE := Lib.hid hlen
              clear hL hlen
              obtain ⟨⟨a0, a1, a2, a3⟩, _⟩ := HI.out.copy.at
              generalize out ++ List.replicate j p = L at *
              go_wp2_with (at_builtin; refine wp_val HI.out.rd.vals (by have := HI.out.rd.gt; have := HI.out.rd.hand.lt; omega) HLE.out rfl _ _ rfl p rfl rfl ?_; intro aj' cj' u7 ho hf hn2; replace HI := Lib.hid (HI.out.val ho hf hn2); clear ho hf hn2)
              go_roundw
              case rel => exact ⟨j + 1, cj', aj', c2, by go_num, by rw [HLL.out]; simp, by rw [HLL.out]; exact HI⟩
              case measure => simp [intOf]; omega
            · obtain rfl : j = X := by omega
              clear c2
              obtain ⟨⟨a0, a1, a2, a3⟩, _⟩ := HI.out.rd.hand.at
              obtain ⟨⟨l0, l1, l2, l3⟩, m0, m1, m2, m3⟩ := HI.out.rd.slot.at
              have HFIN := Lib.hid (HI.out.rd.kept HJ2.out HNX.out)
              generalize out ++ List.replicate j p = L at *
              go_wp2
              go_roundw
              case rel => exact ⟨n + 1, cj2, aj2, L, p, c, by go_num, rfl, HFIN⟩
              case measure => simp [intOf]; omega
      · obtain rfl : n = vs.length := by omega
        have hR : R = (out, 0) := by rw [HR.out]; exact joinA_some HLN.out HC.out.is
        subst hR
        clear c
        go_wp2
        go_ret2
        exact ⟨aj, cj, rfl, HC.out.vals.lower (by omega), HC.out.below⟩
  · rw [joinA_len hlen]
    have hne : ((ms.length : Int) != (vs.length : Int)) = true := by simp; omega
    clear hm ha hs hmx hlen
    go_enter Try.func10, Try.ntmps10
    go_wp2
    go_ret2
    exact ⟨none, 0, rfl, OwnV.nil _ _, Below.refl _ _⟩
end Go.Proofs.Ytpijnnkhokmlbaa
