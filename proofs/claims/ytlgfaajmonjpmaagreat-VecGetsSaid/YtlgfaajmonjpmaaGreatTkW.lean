/- The document's taker: values by words. -/
import Derived.Test.YtlgfaajmonjpmaaGreatTkR
import Derived.Test.YtlgfaajmonjpmaaGreatWin
namespace Go.Proofs.YtlgfaajmonjpmaaGreat
open Go.Conc Go.RowKit
set_option linter.unusedVariables false
set_option linter.unusedSimpArgs false

/-- The words, the places, the values so far. -/
structure TkwAt (w wr : World) (g : Nat) (s : ByteArray) (t : Tk) (aw : Option Addr) (cw : Nat) (ws : List V) (ax : Option Addr) (cx : Nat) (xs : List Int) (av : Option Addr) (cv : Nat) (vs : List V) : Prop where
  ts : TsAt w wr g s t av cv vs
  words : OwnV w.heap.size wr aw cw ws
  ints : OwnI w.heap.size wr ax cx xs
  apart : ∀ k, At av k → ¬ At aw k
theorem TkwAt.more {w u u' : World} {g cv cv' cw cx : Nat} {s : ByteArray} {t : Tk} {v : V} {av av' aw ax : Option Addr} {vs ws : List V} {xs : List Int} (h : TkwAt w u g s t aw cw ws ax cx xs av cv vs) (hg : g < w.heap.size) (ho : OwnV w.heap.size u' av' cv' (vs ++ [v])) (hf : Frm (At av) u u')
    (hn : ∀ k, At av' k → At av k ∨ u.heap.size < k) : TkwAt w u' g s t aw cw ws ax cx xs av' cv' (vs ++ [v]) :=
  ⟨h.ts.val hg h.ts.rd (Frm.refl _ _) ho hf, h.words.frm hf fun k hk _ e => h.apart k e hk, h.ints.frm hf fun k hk _ e => apart_iv h.ints h.ts.own hk e, fun k hk ha => by
    rcases hn k hk with h1 | h1
    · exact h.apart k h1 ha
    · have := (h.words.at_ge ha).2; omega⟩
theorem TkwAt.brk {w u : World} {g cv cw cx : Nat} {s : ByteArray} {t : Tk} {av aw ax : Option Addr} {vs ws : List V} {xs : List Int} (h : TkwAt w u g s t aw cw ws ax cx xs av cv vs) (hg : g < w.heap.size) : TsAt w (u.setCell ⟨g, 2, none⟩ (.bool true)) g s ⟨t.pos, true⟩ av cv vs :=
  h.ts.go hg h.ts.rd.brk (frm_cell u g 2 _)

set_option maxRecDepth 100000 in
set_option maxHeartbeats 8000000 in
theorem tkwords_any (w : World) (g : Nat) (s : ByteArray) (t : Tk) (h : TkAt w g s t) (hs : s.size ≤ 281474976710648) (k : Int) (hk : 1 ≤ k ∧ k ≤ 3) (many : Nat) (hm : many ≤ 4096) :
    Calls Tryz.prog 64 #[.pointer (some ⟨g, 0, none⟩), .int .i64 2, .int .i64 k, .int .i64 (many : Int)] w fun ex w' => ∃ a cap, ex = .returned (.slice a (tkSome s.data.toList t 2 k many).1.length cap) ∧ OwnV w.heap.size w' a cap (tkSome s.data.toList t 2 k many).1 ∧ TkAt w' g s (tkSome s.data.toList t 2 k many).2 ∧ Frm (fun k => k = g) w w' := by
  have TN := Lib.hid (fun (u : World) (t : Tk) (h : TkAt u g s t) => tknum_any u g s t h hs 4096 (by omega))
  have TV := Lib.hid (fun (u : World) (t : Tk) (h : TkAt u g s t) => tkvalue_any u g s t h hs k hk)
  have T0 := Lib.hid (TN.out w t h)
  have hr4 := tkNum_most s.data.toList t 4096
  obtain ⟨R, hR⟩ : ∃ R, R = tkSome s.data.toList t 2 k many := ⟨_, rfl⟩
  rw [← hR]
  unfold tkSome at hR
  rw [if_neg (by decide), if_pos rfl] at hR
  generalize tkNum s.data.toList t 4096 = r at *
  obtain ⟨r, t0⟩ := r
  have T0 : Hid (Calls Tryz.prog 62 #[.pointer (some ⟨g, 0, none⟩), .int .i64 4096] w fun e w' => e = .returned (.int .i64 (r : Int)) ∧ TkAt w' g s t0 ∧ Frm (fun k => k = g) w w') := T0
  simp only at hr4 hR
  obtain ⟨W, hW⟩ : ∃ W, W = tkWords s.data.toList k r t0 [] := ⟨_, rfl⟩
  rw [← hW] at hR
  have HE0 : Hid (tkWords s.data.toList k (r - 0) t0 [] = W) := by unfold Hid; rw [hW]; rfl
  clear hW
  have hwd := wid_most hr4
  obtain ⟨wd, hwe⟩ : ∃ wd, wd = wid (r - 1) := ⟨_, rfl⟩
  rw [← hwe] at hR hwd
  have TWD : Hid (∀ u : World, Calls Tryz.prog 88 #[.int .i64 ((r : Int) - 1)] u fun e w' => e = .returned (.int .i64 (wd : Int)) ∧ u = w') := fun u => by
    have h := rwidth_any ((r : Int) - 1) (by omega) u
    rw [show ((r : Int) - 1).toNat = r - 1 by omega, ← hwe] at h
    exact h
  have TP := Lib.hid (fun (u : World) (t : Tk) (h : TkAt u g s t) => tkpacked_any u g s t h hs many wd hm (by omega))
  have hxl : (tkPacked s.data.toList W.2 many wd).1.length ≤ many := by
    unfold tkPacked
    split
    · exact Nat.zero_le _
    · exact (unpack_len _ _ _).1
  have hxn : ∀ x ∈ (tkPacked s.data.toList W.2 many wd).1, 0 ≤ x := by
    unfold tkPacked
    split
    · intro x hx; cases hx
    · exact fun x hx => (unpack_digits _ _ _ x hx).1
  have T3 := Lib.hid (fun (u : World) (h : TkAt u g s W.2) => TP.out u W.2 h)
  generalize tkPacked s.data.toList W.2 many wd = q at *
  obtain ⟨xs, t3⟩ := q
  have T3 : Hid (∀ u : World, TkAt u g s W.2 → Calls Tryz.prog 63 #[.pointer (some ⟨g, 0, none⟩), .int .i64 (many : Int), .int .i64 (wd : Int)] u fun e w' => ∃ a cap, e = .returned (.slice a xs.length cap) ∧ OwnI u.heap.size w' a cap xs ∧ TkAt w' g s t3 ∧ Frm (fun k => k = g) u w') := T3
  simp only at hxl hxn hR
  have HR := Lib.hid hR
  have HXN := Lib.hid hxn
  have HG := Lib.hid h.lt
  have H := Lib.hid h
  have hx4 : xs.length ≤ 4096 := by omega
  have e1 : wrap64 ((r : Int) - 1) = (r : Int) - 1 := by unfold wrap64; omega
  have E1 := Lib.hid e1
  clear hR h hwd hwe hxl hxn TP e1
  go_enter Tryz.func64, Tryz.ntmps64
  go_wp2_with (go_at_call 62; refine T0.out.mono ?_; rintro e w1 ⟨rfl, hr1, hf1⟩; have HC0 : Hid (TsAt w w1 g s t0 none 0 []) := ⟨hr1, OwnV.nil _ _, hf1⟩; clear hr1 hf1)
  go_loopw [16, 17] (fun vv iv wr => ∃ (i cv : Nat) (av : Option Addr) (vs : List V) (t : Tk), i ≤ r ∧ vv = .slice av vs.length cv ∧ iv = .int .i64 i ∧ Hid (vs.length = i) ∧ Hid (tkWords s.data.toList k (r - i) t vs = W) ∧ Hid (TsAt w wr g s t av cv vs)) (fun _ iv _ => r - (intOf iv).toNat)
  case atStart => exact ⟨0, 0, none, [], t0, Nat.zero_le _, rfl, rfl, rfl, HE0, HC0⟩
  case round =>
    obtain ⟨i, cv, av, vs, t, hi, rfl, rfl, HLN, HE, HC⟩ := hrel
    obtain ⟨⟨c0, c1, c2⟩, f0, f1, f2⟩ := HC.out.rd.at
    by_cases hgo : i < r ∧ t.bad = false
    · obtain ⟨c, hb⟩ := hgo
      have hci : (i : Int) < (r : Int) := by omega
      rw [hb] at c2
      have HN : Hid (tkWords s.data.toList k (r - (i + 1)) (tkValue s.data.toList t k).2 (vs ++ [(tkValue s.data.toList t k).1]) = W) := by
        unfold Hid
        rw [← HE.out, show r - i = (r - (i + 1)) + 1 by omega, tkWords, if_neg (by rw [hb]; simp)]
      have T1 := Lib.hid (TV.out wr t HC.out.rd)
      generalize tkValue s.data.toList t k = q at *
      obtain ⟨v, t'⟩ := q
      simp only at HN T1
      have hwb : vs.length ≤ 3518437208882 := by have := HLN.out; omega
      have HWB := Lib.hid hwb
      clear hwb
      go_upto_region 31 with fail
      go_wp2_with (first
        | (go_at_call 101; refine T1.out.mono ?_; rintro e w5 ⟨rfl, hr5, hf5⟩; have HR5 := Lib.hid hr5; have HF5 := Lib.hid hf5; have HO5 := Lib.hid (HC.out.go HG.out hr5 hf5).own; clear hr5 hf5 c0 c1 c2 f0 f1 f2)
        | (at_builtin; refine wp_val HO5.out (by have := HC.out.frm.size; have := HF5.out.size; omega) HWB.out rfl _ _ rfl v rfl rfl ?_; intro av' cv' u6 ho hf _; have HFIN := Lib.hid (HC.out.val HG.out HR5.out HF5.out ho hf); clear ho hf))
      have HLN2 : Hid ((vs ++ [v]).length = i + 1) := by unfold Hid; rw [List.length_append, HLN.out]; rfl
      go_roundw
      case rel => exact ⟨i + 1, cv', av', vs ++ [v], t', c, by simp, by go_num, HLN2, HN, HFIN⟩
      case measure => simp [intOf]; omega
    · have hcase : (i < r ∧ t.bad = true) ∨ i = r := by
        by_cases c : i < r
        · exact .inl ⟨c, by cases hb : t.bad; exact absurd ⟨c, hb⟩ hgo; rfl⟩
        · exact .inr (by omega)
      have hW : W = (vs, t) := by
        rw [← HE.out]
        rcases hcase with ⟨c, hb⟩ | c
        · rw [show r - i = (r - i - 1) + 1 by omega, tkWords, if_pos hb]
        · rw [show r - i = 0 by omega]; rfl
      subst hW
      simp only at T3 HR
      clear HE HLN hgo
      have e1 := E1.out
      rcases hcase with ⟨c, hb⟩ | rfl
      · have hci : (i : Int) < (r : Int) := by omega
        rw [hb] at c2
        go_wp2_with (first
          | (go_at_call 88; refine (TWD.out _).mono ?_; rintro e w6 ⟨rfl, rfl⟩)
          | (go_at_call 63; refine (T3.out wr HC.out.rd).mono ?_; rintro e w7 ⟨ax, cx, rfl, ho, hr7, hf7⟩; have HC7 := Lib.hid (HC.out.go HG.out hr7 hf7); have HT0 : Hid (TkwAt w w7 g s t3 av cv vs ax cx xs none 0 []) := ⟨⟨hr7, OwnV.nil _ _, HC7.out.frm⟩, HC7.out.own, OwnI.lower ho HC.out.frm.size, fun k hk => by cases hk⟩; clear ho hr7 hf7))
        clear HC HC7 c0 c1 c2 f0 f1 f2
        cases hb3 : t3.bad with
        | true =>
          obtain rfl : R = ([], t3) := by rw [HR.out, if_pos hb3]
          go_loopw [9, 19] (fun vv iv wr => vv = .slice none 0 0 ∧ iv = .int .i64 0 ∧ Hid (TkwAt w wr g s t3 av cv vs ax cx xs none 0 [])) (fun _ _ _ => 0)
          case atStart => exact ⟨rfl, rfl, HT0⟩
          case round =>
            obtain ⟨rfl, rfl, HT⟩ := hrel
            obtain ⟨⟨c0, c1, c2⟩, f0, f1, f2⟩ := HT.out.ts.rd.at
            rw [hb3] at c2
            by_cases cx0 : 0 < xs.length
            · have cxi : (0 : Int) < (xs.length : Int) := by omega
              go_wp2
              go_ret
              exact ⟨none, 0, rfl, OwnV.nil _ _, HT.out.ts.rd, HT.out.ts.frm⟩
            · have cxi : ¬ (0 : Int) < (xs.length : Int) := by omega
              go_wp2
              go_ret
              exact ⟨none, 0, rfl, OwnV.nil _ _, HT.out.ts.rd, HT.out.ts.frm⟩
        | false =>
          obtain ⟨Q, hQ⟩ : ∃ Q, Q = tkPick vs xs [] := ⟨_, rfl⟩
          have HR2 : Hid (R = (Q.1, ⟨t3.pos, Q.2⟩)) := by unfold Hid; rw [HR.out, if_neg (by rw [hb3]; simp), hQ]
          have HQ0 : Hid (tkPick vs (xs.drop 0) [] = Q) := by unfold Hid; rw [hQ]; rfl
          clear hQ
          generalize hws : vs = ws at *
          generalize av = aw at *
          generalize cv = cw at *
          clear hws HR
          go_loopw [9, 19] (fun vv iv wr => ∃ (i cv : Nat) (av : Option Addr) (us : List V), i ≤ xs.length ∧ vv = .slice av us.length cv ∧ iv = .int .i64 i ∧ Hid (us.length = i) ∧ Hid (tkPick ws (xs.drop i) us = Q) ∧ Hid (TkwAt w wr g s t3 aw cw ws ax cx xs av cv us)) (fun _ iv _ => xs.length - (intOf iv).toNat)
          case atStart => exact ⟨0, 0, none, [], Nat.zero_le _, rfl, rfl, rfl, HQ0, HT0⟩
          case round =>
            obtain ⟨n, cu, au, us, hn, rfl, rfl, HUN, HQ, HT⟩ := hrel
            obtain ⟨⟨c0, c1, c2⟩, f0, f1, f2⟩ := HT.out.ts.rd.at
            rw [hb3] at c2
            by_cases d : n < xs.length
            · have hdi : (n : Int) < (xs.length : Int) := by omega
              have hdrop : xs.drop n = xs.getD n 0 :: xs.drop (n + 1) := by rw [getD_in d]; exact List.drop_eq_getElem_cons d
              have hx0 : 0 ≤ xs.getD n 0 := by rw [getD_in d]; exact HXN.out _ (List.getElem_mem _)
              obtain ⟨bx, ox, hax, hxc⟩ := HT.out.ints.isL.get d
              subst hax
              generalize xs.getD n 0 = x at *
              obtain ⟨y, rfl⟩ : ∃ y : Nat, x = y := ⟨x.toNat, by omega⟩
              by_cases dw : y < ws.length
              · have HN : Hid (tkPick ws (xs.drop (n + 1)) (us ++ [ws.getD y zeroV]) = Q) := by
                  unfold Hid
                  rw [← HQ.out, hdrop, tkPick, if_neg (by omega), Int.toNat_natCast]
                have hdw : (y : Int) < (ws.length : Int) := by omega
                have hdw2 : ¬ (ws.length : Int) ≤ (y : Int) := by omega
                obtain ⟨bw, ow, haw, hval⟩ := HT.out.words.isV.get dw
                subst haw
                generalize ws.getD y zeroV = v at *
                obtain ⟨v0, v1, v2, v3⟩ := hval
                have hwb : us.length ≤ 3518437208882 := by have := HUN.out; omega
                have HWB := Lib.hid hwb
                clear hwb hdrop hx0
                go_wp2_with (at_builtin; refine wp_val HT.out.ts.own HT.out.ts.frm.size HWB.out rfl _ _ rfl v rfl rfl ?_; intro av' cv' u6 ho hf hn2; have HFIN := Lib.hid (HT.out.more HG.out ho hf hn2); clear ho hf hn2)
                have HUN2 : Hid ((us ++ [v]).length = n + 1) := by unfold Hid; rw [List.length_append, HUN.out]; rfl
                go_roundw
                case rel => exact ⟨n + 1, cv', av', us ++ [v], d, by simp, by go_num, HUN2, HN, HFIN⟩
                case measure => simp [intOf]; omega
              · have hdw2 : (ws.length : Int) ≤ (y : Int) := by omega
                obtain rfl : Q = (us, true) := by rw [← HQ.out, hdrop, tkPick, if_pos hdw2]
                obtain rfl : R = (us, ⟨t3.pos, true⟩) := HR2.out
                clear hdrop hx0
                go_wp2
                go_ret
                have hfin := HT.out.brk HG.out
                exact ⟨au, cu, rfl, hfin.own, hfin.rd, hfin.frm⟩
            · obtain rfl : n = xs.length := by omega
              obtain rfl : Q = (us, false) := by rw [← HQ.out, List.drop_length]; rfl
              obtain rfl : R = (us, t3) := by rw [HR2.out]; cases t3; simp only at hb3; rw [hb3]
              go_wp2
              go_ret
              exact ⟨au, cu, rfl, HT.out.ts.own, HT.out.ts.rd, HT.out.ts.frm⟩
      · go_wp2_with (first
          | (go_at_call 88; refine (TWD.out _).mono ?_; rintro e w6 ⟨rfl, rfl⟩)
          | (go_at_call 63; refine (T3.out wr HC.out.rd).mono ?_; rintro e w7 ⟨ax, cx, rfl, ho, hr7, hf7⟩; have HC7 := Lib.hid (HC.out.go HG.out hr7 hf7); have HT0 : Hid (TkwAt w w7 g s t3 av cv vs ax cx xs none 0 []) := ⟨⟨hr7, OwnV.nil _ _, HC7.out.frm⟩, HC7.out.own, OwnI.lower ho HC.out.frm.size, fun k hk => by cases hk⟩; clear ho hr7 hf7))
        clear HC HC7 c0 c1 c2 f0 f1 f2
        cases hb3 : t3.bad with
        | true =>
          obtain rfl : R = ([], t3) := by rw [HR.out, if_pos hb3]
          go_loopw [9, 19] (fun vv iv wr => vv = .slice none 0 0 ∧ iv = .int .i64 0 ∧ Hid (TkwAt w wr g s t3 av cv vs ax cx xs none 0 [])) (fun _ _ _ => 0)
          case atStart => exact ⟨rfl, rfl, HT0⟩
          case round =>
            obtain ⟨rfl, rfl, HT⟩ := hrel
            obtain ⟨⟨c0, c1, c2⟩, f0, f1, f2⟩ := HT.out.ts.rd.at
            rw [hb3] at c2
            by_cases cx0 : 0 < xs.length
            · have cxi : (0 : Int) < (xs.length : Int) := by omega
              go_wp2
              go_ret
              exact ⟨none, 0, rfl, OwnV.nil _ _, HT.out.ts.rd, HT.out.ts.frm⟩
            · have cxi : ¬ (0 : Int) < (xs.length : Int) := by omega
              go_wp2
              go_ret
              exact ⟨none, 0, rfl, OwnV.nil _ _, HT.out.ts.rd, HT.out.ts.frm⟩
        | false =>
          obtain ⟨Q, hQ⟩ : ∃ Q, Q = tkPick vs xs [] := ⟨_, rfl⟩
          have HR2 : Hid (R = (Q.1, ⟨t3.pos, Q.2⟩)) := by unfold Hid; rw [HR.out, if_neg (by rw [hb3]; simp), hQ]
          have HQ0 : Hid (tkPick vs (xs.drop 0) [] = Q) := by unfold Hid; rw [hQ]; rfl
          clear hQ
          generalize hws : vs = ws at *
          generalize av = aw at *
          generalize cv = cw at *
          clear hws HR
          go_loopw [9, 19] (fun vv iv wr => ∃ (i cv : Nat) (av : Option Addr) (us : List V), i ≤ xs.length ∧ vv = .slice av us.length cv ∧ iv = .int .i64 i ∧ Hid (us.length = i) ∧ Hid (tkPick ws (xs.drop i) us = Q) ∧ Hid (TkwAt w wr g s t3 aw cw ws ax cx xs av cv us)) (fun _ iv _ => xs.length - (intOf iv).toNat)
          case atStart => exact ⟨0, 0, none, [], Nat.zero_le _, rfl, rfl, rfl, HQ0, HT0⟩
          case round =>
            obtain ⟨n, cu, au, us, hn, rfl, rfl, HUN, HQ, HT⟩ := hrel
            obtain ⟨⟨c0, c1, c2⟩, f0, f1, f2⟩ := HT.out.ts.rd.at
            rw [hb3] at c2
            by_cases d : n < xs.length
            · have hdi : (n : Int) < (xs.length : Int) := by omega
              have hdrop : xs.drop n = xs.getD n 0 :: xs.drop (n + 1) := by rw [getD_in d]; exact List.drop_eq_getElem_cons d
              have hx0 : 0 ≤ xs.getD n 0 := by rw [getD_in d]; exact HXN.out _ (List.getElem_mem _)
              obtain ⟨bx, ox, hax, hxc⟩ := HT.out.ints.isL.get d
              subst hax
              generalize xs.getD n 0 = x at *
              obtain ⟨y, rfl⟩ : ∃ y : Nat, x = y := ⟨x.toNat, by omega⟩
              by_cases dw : y < ws.length
              · have HN : Hid (tkPick ws (xs.drop (n + 1)) (us ++ [ws.getD y zeroV]) = Q) := by
                  unfold Hid
                  rw [← HQ.out, hdrop, tkPick, if_neg (by omega), Int.toNat_natCast]
                have hdw : (y : Int) < (ws.length : Int) := by omega
                have hdw2 : ¬ (ws.length : Int) ≤ (y : Int) := by omega
                obtain ⟨bw, ow, haw, hval⟩ := HT.out.words.isV.get dw
                subst haw
                generalize ws.getD y zeroV = v at *
                obtain ⟨v0, v1, v2, v3⟩ := hval
                have hwb : us.length ≤ 3518437208882 := by have := HUN.out; omega
                have HWB := Lib.hid hwb
                clear hwb hdrop hx0
                go_wp2_with (at_builtin; refine wp_val HT.out.ts.own HT.out.ts.frm.size HWB.out rfl _ _ rfl v rfl rfl ?_; intro av' cv' u6 ho hf hn2; have HFIN := Lib.hid (HT.out.more HG.out ho hf hn2); clear ho hf hn2)
                have HUN2 : Hid ((us ++ [v]).length = n + 1) := by unfold Hid; rw [List.length_append, HUN.out]; rfl
                go_roundw
                case rel => exact ⟨n + 1, cv', av', us ++ [v], d, by simp, by go_num, HUN2, HN, HFIN⟩
                case measure => simp [intOf]; omega
              · have hdw2 : (ws.length : Int) ≤ (y : Int) := by omega
                obtain rfl : Q = (us, true) := by rw [← HQ.out, hdrop, tkPick, if_pos hdw2]
                obtain rfl : R = (us, ⟨t3.pos, true⟩) := HR2.out
                clear hdrop hx0
                go_wp2
                go_ret
                have hfin := HT.out.brk HG.out
                exact ⟨au, cu, rfl, hfin.own, hfin.rd, hfin.frm⟩
            · obtain rfl : n = xs.length := by omega
              obtain rfl : Q = (us, false) := by rw [← HQ.out, List.drop_length]; rfl
              obtain rfl : R = (us, t3) := by rw [HR2.out]; cases t3; simp only at hb3; rw [hb3]
              go_wp2
              go_ret
              exact ⟨au, cu, rfl, HT.out.ts.own, HT.out.ts.rd, HT.out.ts.frm⟩

theorem tksome_any (w : World) (g : Nat) (s : ByteArray) (t : Tk) (h : TkAt w g s t) (hs : s.size ≤ 281474976710648) (e : Nat) (k : Int) (hk : 1 ≤ k ∧ k ≤ 3) (many : Nat) (hm : many ≤ 4096) :
    Calls Tryz.prog 64 #[.pointer (some ⟨g, 0, none⟩), .int .i64 (e : Int), .int .i64 k, .int .i64 (many : Int)] w fun ex w' => ∃ a cap, ex = .returned (.slice a (tkSome s.data.toList t e k many).1.length cap) ∧ OwnV w.heap.size w' a cap (tkSome s.data.toList t e k many).1 ∧ TkAt w' g s (tkSome s.data.toList t e k many).2 ∧ Frm (fun k => k = g) w w' := by
  by_cases h1 : e = 1
  · subst h1
    have hR : tkSome s.data.toList t 1 k many = tkRuns s.data.toList k many (tkNum s.data.toList t 4096).1 (tkNum s.data.toList t 4096).2 [] := by unfold tkSome; rw [if_pos rfl]
    rw [hR]
    exact tkruns_any w g s t h hs k hk many hm
  by_cases h2 : e = 2
  · subst h2
    exact tkwords_any w g s t h hs k hk many hm
  by_cases h3 : k = 2
  · subst h3
    have hR : tkSome s.data.toList t e 2 many = ((tkPacked s.data.toList t many 1).1.map tkTruth, (tkPacked s.data.toList t many 1).2) := by unfold tkSome; rw [if_neg h1, if_neg h2, if_pos rfl]; rfl
    rw [hR]
    exact tkbools_any w g s t h hs e h1 h2 many hm
  · have hR : tkSome s.data.toList t e k many = tkWords s.data.toList k many t [] := by unfold tkSome; rw [if_neg h1, if_neg h2, if_neg h3]
    rw [hR]
    exact tkeach_any w g s t h hs k hk h3 e h1 h2 many hm
end Go.Proofs.YtlgfaajmonjpmaaGreat
