/- The document's taker: values by runs. -/
import Derived.Test.YtlgfaajmonjpmaaGreatTkE
namespace Go.Proofs.YtlgfaajmonjpmaaGreat
open Go.Conc Go.RowKit
set_option linter.unusedVariables false
set_option linter.unusedSimpArgs false

/-- Within a run: the taker, the values so far, the run's value. -/
structure TrAt (w wr : World) (g : Nat) (s : ByteArray) (t : Tk) (b : Nat) (v : V) (av : Option Addr) (cv : Nat) (L : List V) : Prop where
  ts : TsAt w wr g s t av cv L
  slot : Slot wr b v
  apart : ¬ At av b
theorem TrAt.more {w u u' : World} {g b cv cv' : Nat} {s : ByteArray} {t : Tk} {v : V} {av av' : Option Addr} {L : List V} (h : TrAt w u g s t b v av cv L) (hg : g < w.heap.size) (ho : OwnV w.heap.size u' av' cv' (L ++ [v])) (hf : Frm (At av) u u')
    (hn : ∀ k, At av' k → At av k ∨ u.heap.size < k) : TrAt w u' g s t b v av' cv' (L ++ [v]) :=
  ⟨h.ts.val hg h.ts.rd (Frm.refl _ _) ho hf, h.slot.same (hf.block b h.slot.lt h.apart), fun hk => by
    rcases hn b hk with h1 | h1
    · exact h.apart h1
    · have := h.slot.lt; omega⟩

set_option maxRecDepth 100000 in
set_option maxHeartbeats 8000000 in
theorem tkruns_any (w : World) (g : Nat) (s : ByteArray) (t : Tk) (h : TkAt w g s t) (hs : s.size ≤ 281474976710648) (k : Int) (hk : 1 ≤ k ∧ k ≤ 3) (many : Nat) (hm : many ≤ 4096) :
    Calls Tryz.prog 64 #[.pointer (some ⟨g, 0, none⟩), .int .i64 1, .int .i64 k, .int .i64 (many : Int)] w fun ex w' => ∃ a cap, ex = .returned (.slice a (tkRuns s.data.toList k many (tkNum s.data.toList t 4096).1 (tkNum s.data.toList t 4096).2 []).1.length cap) ∧ OwnV w.heap.size w' a cap (tkRuns s.data.toList k many (tkNum s.data.toList t 4096).1 (tkNum s.data.toList t 4096).2 []).1 ∧ TkAt w' g s (tkRuns s.data.toList k many (tkNum s.data.toList t 4096).1 (tkNum s.data.toList t 4096).2 []).2 ∧ Frm (fun k => k = g) w w' := by
  have TN := Lib.hid (fun (u : World) (t : Tk) (h : TkAt u g s t) => tknum_any u g s t h hs 4096 (by omega))
  have TV := Lib.hid (fun (u : World) (t : Tk) (h : TkAt u g s t) => tkvalue_any u g s t h hs k hk)
  have T0 := Lib.hid (TN.out w t h)
  have hr4 := tkNum_most s.data.toList t 4096
  generalize tkNum s.data.toList t 4096 = r at *
  obtain ⟨r, t0⟩ := r
  have T0 : Hid (Calls Tryz.prog 62 #[.pointer (some ⟨g, 0, none⟩), .int .i64 4096] w fun e w' => e = .returned (.int .i64 (r : Int)) ∧ TkAt w' g s t0 ∧ Frm (fun k => k = g) w w') := T0
  simp only at hr4 ⊢
  obtain ⟨R, hR⟩ : ∃ R, R = tkRuns s.data.toList k many r t0 [] := ⟨_, rfl⟩
  rw [← hR]
  have HE0 : Hid (tkRuns s.data.toList k many (r - 0) t0 [] = R) := by unfold Hid; rw [hR]; rfl
  have HG := Lib.hid h.lt
  have HM := Lib.hid hm
  have H := Lib.hid h
  clear hR h
  go_enter Tryz.func64, Tryz.ntmps64
  go_wp2_with (go_at_call 62; refine T0.out.mono ?_; rintro e w1 ⟨rfl, hr1, hf1⟩; have HC0 : Hid (TsAt w w1 g s t0 none 0 []) := ⟨hr1, OwnV.nil _ _, hf1⟩; clear hr1 hf1)
  go_loopw [9, 11] (fun vv iv wr => ∃ (i cv : Nat) (av : Option Addr) (vs : List V) (t : Tk), i ≤ r ∧ vv = .slice av vs.length cv ∧ iv = .int .i64 i ∧ Hid (vs.length ≤ many) ∧ Hid (tkRuns s.data.toList k many (r - i) t vs = R) ∧ Hid (TsAt w wr g s t av cv vs)) (fun _ iv _ => r - (intOf iv).toNat)
  case atStart => exact ⟨0, 0, none, [], t0, Nat.zero_le _, rfl, rfl, Nat.zero_le _, HE0, HC0⟩
  case round =>
    obtain ⟨i, cv, av, vs, t, hi, rfl, rfl, HLN, HE, HC⟩ := hrel
    obtain ⟨⟨c0, c1, c2⟩, f0, f1, f2⟩ := HC.out.rd.at
    by_cases c : i < r
    · have hci : (i : Int) < (r : Int) := by omega
      cases hb : t.bad with
      | true =>
        rw [hb] at c2
        have hR : R = (vs, t) := by
          rw [← HE.out, show r - i = (r - i - 1) + 1 by omega, tkRuns, if_pos hb]
        subst hR
        go_wp2
        go_ret
        exact ⟨av, cv, rfl, HC.out.own, HC.out.rd, HC.out.frm⟩
      | false =>
        rw [hb] at c2
        have HN : Hid (tkRuns s.data.toList k many (r - (i + 1)) (tkValue s.data.toList (tkNum s.data.toList t 4096).2 k).2 (vs ++ List.replicate (min (tkNum s.data.toList t 4096).1 (many - vs.length)) (tkValue s.data.toList (tkNum s.data.toList t 4096).2 k).1) = R) := by
          unfold Hid
          rw [← HE.out, show r - i = (r - (i + 1)) + 1 by omega, tkRuns, if_neg (by rw [hb]; simp)]
        have T1 := Lib.hid (TN.out wr t HC.out.rd)
        generalize tkNum s.data.toList t 4096 = q at *
        obtain ⟨m, t1⟩ := q
        simp only at HN
        have T1 : Hid (Calls Tryz.prog 62 #[.pointer (some ⟨g, 0, none⟩), .int .i64 4096] wr fun e w' => e = .returned (.int .i64 (m : Int)) ∧ TkAt w' g s t1 ∧ Frm (fun k => k = g) wr w') := T1
        have T2 := Lib.hid (fun (u : World) (h : TkAt u g s t1) => TV.out u t1 h)
        generalize tkValue s.data.toList t1 k = q at *
        obtain ⟨v, t2⟩ := q
        have T2 : Hid (∀ u : World, TkAt u g s t1 → Calls Tryz.prog 101 #[.pointer (some ⟨g, 0, none⟩), .int .i64 k] u fun e w' => e = .returned (.agg #[.int .i64 v.k, .int .i64 v.i, .bool v.b, .string v.s]) ∧ TkAt w' g s t2 ∧ Frm (fun k => k = g) u w') := T2
        simp only at HN
        go_upto_region 21 with (first
          | (go_at_call 62; refine T1.out.mono ?_; rintro e w4 ⟨rfl, hr4, hf4⟩; have HR4 := Lib.hid hr4; have HC4 := Lib.hid (HC.out.go HG.out hr4 hf4); clear hr4 hf4 c0 c1 c2 f0 f1 f2)
          | (go_at_call 101; refine (T2.out w4 HR4.out).mono ?_; rintro e w5 ⟨rfl, hr5, hf5⟩; have HC5 := Lib.hid (HC4.out.go HG.out hr5 hf5); clear hr5 hf5))
        have H6 : Hid (TrAt w (w5.alloc (.cells #[.int .i64 v.k, .int .i64 v.i, .bool v.b, .string v.s] 24)) g s t2 w5.heap.size v av cv (vs ++ List.replicate 0 v)) := by
          unfold Hid
          rw [List.replicate_zero, List.append_nil]
          exact ⟨⟨HC5.out.rd.alloc _, HC5.out.own.alloc _, HC5.out.frm.alloc _⟩, Slot.new w5 v, fun hk => by have := (HC5.out.own.at_ge hk).2; omega⟩
        clear HC4 HC5 HR4 HC
        generalize w5.alloc (.cells #[.int .i64 v.k, .int .i64 v.i, .bool v.b, .string v.s] 24) = w6 at *
        generalize w5.heap.size = b6 at *
        obtain ⟨n, hn⟩ : ∃ n, n = min m (many - vs.length) := ⟨_, rfl⟩
        rw [← hn] at HN
        have HNN := Lib.hid hn
        have hl0 := HLN.out
        have hn4 : n ≤ 4096 := by omega
        have hnm : n ≤ m := by omega
        have hnv : vs.length + n ≤ many := by omega
        have hnx : n = m ∨ vs.length + n = many := by omega
        have HNX := Lib.hid hnx
        have HNV := Lib.hid hnv
        have HNM := Lib.hid hnm
        clear hn hl0 hnm hnv hnx
        go_upto_region 22 with fail
        go_loopw [9, 14] (fun vv jv wi => ∃ (j cj : Nat) (aj : Option Addr), j ≤ n ∧ vv = .slice aj (vs ++ List.replicate j v).length cj ∧ jv = .int .i64 j ∧ Hid (TrAt w wi g s t2 b6 v aj cj (vs ++ List.replicate j v))) (fun _ jv _ => n - (intOf jv).toNat)
        case atStart => exact ⟨0, cv, av, Nat.zero_le _, by simp, rfl, H6⟩
        case round =>
          obtain ⟨j, cj, aj, hj, rfl, rfl, HI⟩ := hrel
          by_cases d : j < n
          · have hL : vs ++ List.replicate (j + 1) v = (vs ++ List.replicate j v) ++ [v] := by rw [List.replicate_succ', List.append_assoc]
            have HLL := Lib.hid hL
            have hlen : (vs ++ List.replicate j v).length < many := by rw [List.length_append, List.length_replicate]; have := HNV.out; omega
            have hlb : (vs ++ List.replicate j v).length ≤ 3518437208882 := by have := HM.out; omega
            have HLB := Lib.hid hlb
            clear hL hlb
            generalize vs ++ List.replicate j v = L at *
            have hd1 : (j : Int) < (m : Int) := by have := HNM.out; omega
            have hd2 : (L.length : Int) < (many : Int) := by omega
            obtain ⟨⟨v0, v1, v2, v3⟩, _⟩ := HI.out.slot.at
            go_wp2_with (at_builtin; refine wp_val HI.out.ts.own HI.out.ts.frm.size HLB.out rfl _ _ rfl v rfl rfl ?_; intro av' cv' u6 ho hf hn; have HFIN := Lib.hid (HI.out.more HG.out ho hf hn); clear ho hf hn)
            go_roundw
            case rel => exact ⟨j + 1, cv', av', d, by rw [HLL.out]; simp, by go_num, by rw [HLL.out]; exact HFIN⟩
            case measure => simp [intOf]; omega
          · obtain rfl : j = n := by omega
            have HLN2 : Hid ((vs ++ List.replicate j v).length ≤ many) := by unfold Hid; rw [List.length_append, List.length_replicate]; exact HNV.out
            have HFIN : Hid (TsAt w _ g s t2 aj cj (vs ++ List.replicate j v)) := HI.out.ts
            by_cases dm : j < m
            · have hlen : (vs ++ List.replicate j v).length = many := by
                rw [List.length_append, List.length_replicate]; have := HNX.out; omega
              have hd1 : (j : Int) < (m : Int) := by omega
              have hd2 : ¬ ((vs ++ List.replicate j v).length : Int) < (many : Int) := by omega
              have hd3 : decide (((vs ++ List.replicate j v).length : Int) < (many : Int)) = false := decide_eq_false hd2
              clear hlen d
              generalize vs ++ List.replicate j v = L at *
              go_wp2
              go_roundw
              case rel => exact ⟨i + 1, cj, aj, L, t2, c, rfl, by go_num, HLN2, HN, HFIN⟩
              case measure => simp [intOf]; omega
            · have hd1 : ¬ (j : Int) < (m : Int) := by omega
              have hd3 : decide ((j : Int) < (m : Int)) = false := decide_eq_false hd1
              clear d
              generalize vs ++ List.replicate j v = L at *
              go_wp2
              go_roundw
              case rel => exact ⟨i + 1, cj, aj, L, t2, c, rfl, by go_num, HLN2, HN, HFIN⟩
              case measure => simp [intOf]; omega
    · obtain rfl : i = r := by omega
      have hR : R = (vs, t) := by rw [← HE.out, Nat.sub_self]; rfl
      subst hR
      go_wp2
      go_ret
      exact ⟨av, cv, rfl, HC.out.own, HC.out.rd, HC.out.frm⟩
end Go.Proofs.YtlgfaajmonjpmaaGreat
