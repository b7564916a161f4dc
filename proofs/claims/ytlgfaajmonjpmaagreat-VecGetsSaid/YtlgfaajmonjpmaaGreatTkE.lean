/- The document's taker: so many values one behind the other; so many truths in bits. -/
import Derived.Test.YtlgfaajmonjpmaaGreatTkV
namespace Go.Proofs.YtlgfaajmonjpmaaGreat
open Go.Conc Go.RowKit
set_option linter.unusedVariables false
set_option linter.unusedSimpArgs false

/-- What has been taken: the taker, the values so far. -/
structure TsAt (w wr : World) (g : Nat) (s : ByteArray) (t : Tk) (av : Option Addr) (cv : Nat) (vs : List V) : Prop where
  rd : TkAt wr g s t
  own : OwnV w.heap.size wr av cv vs
  frm : Frm (fun k => k = g) w wr
section
variable {w u u' u1 : World} {g cv cv' : Nat} {s : ByteArray} {t t' : Tk} {av av' : Option Addr} {vs : List V} {v : V}
theorem TsAt.apart (h : TsAt w u g s t av cv vs) (hg : g < w.heap.size) : ¬ At av g := fun hk => by have := (h.own.at_ge hk).1; omega
theorem TsAt.val (h : TsAt w u g s t av cv vs) (hg : g < w.heap.size) (hr : TkAt u1 g s t') (hf1 : Frm (fun k => k = g) u u1) (ho : OwnV w.heap.size u' av' cv' (vs ++ [v])) (hf : Frm (At av) u1 u') : TsAt w u' g s t' av' cv' (vs ++ [v]) := by
  have hnv : ∀ k, At av k → w.heap.size ≤ k := fun k hk => (h.own.at_ge hk).1
  refine ⟨hr.frm hf (h.apart hg), ho, ?_⟩
  refine ((h.frm.trans hf1).mono (F' := fun k => k = g ∨ w.heap.size ≤ k) fun k _ hk => .inl hk).trans (hf.mono (F' := fun k => k = g ∨ w.heap.size ≤ k) fun k _ hk => .inr (hnv k hk)) |>.mono fun k hk h => ?_
  rcases h with h | h
  · exact h
  · omega
theorem TsAt.go (h : TsAt w u g s t av cv vs) (hg : g < w.heap.size) (hr : TkAt u1 g s t') (hf1 : Frm (fun k => k = g) u u1) : TsAt w u1 g s t' av cv vs :=
  ⟨hr, h.own.frm hf1 fun k hk _ e => h.apart hg (by subst e; exact hk), h.frm.trans hf1⟩
end

set_option maxRecDepth 100000 in
set_option maxHeartbeats 4000000 in
theorem tkeach_any (w : World) (g : Nat) (s : ByteArray) (t : Tk) (h : TkAt w g s t) (hs : s.size ≤ 281474976710648) (k : Int) (hk : 1 ≤ k ∧ k ≤ 3) (hk2 : k ≠ 2) (e : Nat) (he1 : e ≠ 1) (he2 : e ≠ 2) (many : Nat) (hm : many ≤ 4096) :
    Calls Tryz.prog 64 #[.pointer (some ⟨g, 0, none⟩), .int .i64 (e : Int), .int .i64 k, .int .i64 (many : Int)] w fun ex w' => ∃ a cap, ex = .returned (.slice a (tkWords s.data.toList k many t []).1.length cap) ∧ OwnV w.heap.size w' a cap (tkWords s.data.toList k many t []).1 ∧ TkAt w' g s (tkWords s.data.toList k many t []).2 ∧ Frm (fun k => k = g) w w' := by
  obtain ⟨R, hR⟩ : ∃ R, R = tkWords s.data.toList k many t [] := ⟨_, rfl⟩
  rw [← hR]
  have T := Lib.hid (fun (u : World) (t : Tk) (h : TkAt u g s t) => tkvalue_any u g s t h hs k hk)
  have H0 : Hid (TsAt w w g s t none 0 []) := ⟨h, OwnV.nil _ _, Frm.refl _ _⟩
  have HE0 : Hid (tkWords s.data.toList k (many - 0) t [] = R) := by unfold Hid; rw [hR]; rfl
  have HG := Lib.hid h.lt
  have HM := Lib.hid hm
  have q1 : ((e : Int) == 1) = false := by simpa using (by omega : ¬ (e : Int) = 1)
  have q2 : ((e : Int) == 2) = false := by simpa using (by omega : ¬ (e : Int) = 2)
  have q3 : (k == 2) = false := by simpa using hk2
  clear hR h hk hk2 he1 he2
  go_enter Tryz.func64, Tryz.ntmps64
  go_wp2
  go_loopw [9, 22] (fun vv iv wr => ∃ (i cv : Nat) (av : Option Addr) (vs : List V) (t : Tk), i ≤ many ∧ vv = .slice av vs.length cv ∧ iv = .int .i64 i ∧ Hid (vs.length = i) ∧ Hid (tkWords s.data.toList k (many - i) t vs = R) ∧ Hid (TsAt w wr g s t av cv vs)) (fun _ iv _ => many - (intOf iv).toNat)
  case atStart => exact ⟨0, 0, none, [], t, Nat.zero_le _, rfl, rfl, rfl, HE0, H0⟩
  case round =>
    obtain ⟨i, cv, av, vs, t, hi, rfl, rfl, HLN, HE, HC⟩ := hrel
    obtain ⟨⟨c0, c1, c2⟩, f0, f1, f2⟩ := HC.out.rd.at
    by_cases c : i < many
    · have hci : (i : Int) < (many : Int) := by omega
      cases hb : t.bad with
      | true =>
        rw [hb] at c2
        have hR : R = (vs, t) := by
          rw [← HE.out, show many - i = (many - i - 1) + 1 by omega, tkWords, if_pos hb]
        subst hR
        go_wp2
        go_ret
        exact ⟨av, cv, rfl, HC.out.own, HC.out.rd, HC.out.frm⟩
      | false =>
        rw [hb] at c2
        have HN : Hid (tkWords s.data.toList k (many - (i + 1)) (tkValue s.data.toList t k).2 (vs ++ [(tkValue s.data.toList t k).1]) = R) := by
          unfold Hid
          rw [← HE.out, show many - i = (many - (i + 1)) + 1 by omega, tkWords, if_neg (by rw [hb]; simp)]
        have T1 := Lib.hid (T.out wr t HC.out.rd)
        generalize tkValue s.data.toList t k = r at *
        obtain ⟨v, t'⟩ := r
        simp only at HN T1
        have hwb : vs.length ≤ 3518437208882 := by have := HM.out; have := HLN.out; omega
        have HWB := Lib.hid hwb
        clear hwb
        go_upto_region 13 with fail
        go_wp2_with (first
          | (go_at_call 101; refine T1.out.mono ?_; rintro e w5 ⟨rfl, hr5, hf5⟩; have HR5 := Lib.hid hr5; have HF5 := Lib.hid hf5; have HO5 := Lib.hid (HC.out.go HG.out hr5 hf5).own; clear hr5 hf5 c0 c1 c2 f0 f1 f2)
          | (at_builtin; refine wp_val HO5.out (by have := HC.out.frm.size; have := HF5.out.size; omega) HWB.out rfl _ _ rfl v rfl rfl ?_; intro av' cv' u6 ho hf _; have HFIN := Lib.hid (HC.out.val HG.out HR5.out HF5.out ho hf); clear ho hf))
        have HLN2 : Hid ((vs ++ [v]).length = i + 1) := by unfold Hid; rw [List.length_append, HLN.out]; rfl
        go_roundw
        case rel => exact ⟨i + 1, cv', av', vs ++ [v], t', c, by simp, by go_num, HLN2, HN, HFIN⟩
        case measure => simp [intOf]; omega
    · obtain rfl : i = many := by omega
      have hR : R = (vs, t) := by rw [← HE.out, Nat.sub_self]; rfl
      subst hR
      go_wp2
      go_ret
      exact ⟨av, cv, rfl, HC.out.own, HC.out.rd, HC.out.frm⟩

/-- A bit as a truth. -/
def tkTruth (x : Int) : V := ⟨2, 0, decide (x = 1), ByteArray.empty⟩
set_option maxRecDepth 100000 in
set_option maxHeartbeats 4000000 in
theorem tkbools_any (w : World) (g : Nat) (s : ByteArray) (t : Tk) (h : TkAt w g s t) (hs : s.size ≤ 281474976710648) (e : Nat) (he1 : e ≠ 1) (he2 : e ≠ 2) (many : Nat) (hm : many ≤ 4096) :
    Calls Tryz.prog 64 #[.pointer (some ⟨g, 0, none⟩), .int .i64 (e : Int), .int .i64 2, .int .i64 (many : Int)] w fun ex w' => ∃ a cap, ex = .returned (.slice a ((tkPacked s.data.toList t many 1).1.map tkTruth).length cap) ∧ OwnV w.heap.size w' a cap ((tkPacked s.data.toList t many 1).1.map tkTruth) ∧ TkAt w' g s (tkPacked s.data.toList t many 1).2 ∧ Frm (fun k => k = g) w w' := by
  have T := Lib.hid (fun (u : World) (h : TkAt u g s t) => tkpacked_any u g s t h hs many 1 hm (by omega))
  have hlen : (tkPacked s.data.toList t many 1).1.length ≤ many := by
    unfold tkPacked
    split
    · exact Nat.zero_le _
    · exact (unpack_len _ _ _).1
  generalize tkPacked s.data.toList t many 1 = r at *
  obtain ⟨xs, t2⟩ := r
  have T : Hid (∀ u : World, TkAt u g s t → Calls Tryz.prog 63 #[.pointer (some ⟨g, 0, none⟩), .int .i64 (many : Int), .int .i64 1] u fun e w' => ∃ a cap, e = .returned (.slice a xs.length cap) ∧ OwnI u.heap.size w' a cap xs ∧ TkAt w' g s t2 ∧ Frm (fun k => k = g) u w') := T
  simp only at hlen ⊢
  have hxl : xs.length ≤ 4096 := Nat.le_trans hlen hm
  obtain ⟨R, hR⟩ : ∃ R, R = xs.map tkTruth := ⟨_, rfl⟩
  rw [← hR]
  have HR := Lib.hid hR
  clear hR
  have HG := Lib.hid h.lt
  have H := Lib.hid h
  have q1 : ((e : Int) == 1) = false := by simpa using (by omega : ¬ (e : Int) = 1)
  have q2 : ((e : Int) == 2) = false := by simpa using (by omega : ¬ (e : Int) = 2)
  clear hlen hm he1 he2 h
  go_enter Tryz.func64, Tryz.ntmps64
  go_wp2_with (go_at_call 63; refine (T.out w H.out).mono ?_; rintro e w1 ⟨ax, cx, rfl, hx, hr1, hf1⟩; have HX0 := Lib.hid hx; have HC0 : Hid (TsAt w w1 g s t2 none 0 []) := ⟨hr1, OwnV.nil _ _, hf1⟩; clear hx hr1 hf1)
  go_loopw [9, 21] (fun vv iv wr => ∃ (i cv : Nat) (av : Option Addr) (vs : List V), i ≤ xs.length ∧ vv = .slice av vs.length cv ∧ iv = .int .i64 i ∧ Hid (vs = (xs.take i).map tkTruth) ∧ Hid (OwnI w.heap.size wr ax cx xs) ∧ Hid (TsAt w wr g s t2 av cv vs)) (fun _ iv _ => xs.length - (intOf iv).toNat)
  case atStart => exact ⟨0, 0, none, [], Nat.zero_le _, rfl, rfl, rfl, HX0, HC0⟩
  case round =>
    obtain ⟨i, cv, av, vs, hi, rfl, rfl, HV, HX, HC⟩ := hrel
    by_cases c : i < xs.length
    · have hci : (i : Int) < (xs.length : Int) := by omega
      have HV2 : Hid (vs ++ [tkTruth (xs.getD i 0)] = (xs.take (i + 1)).map tkTruth) := by
        unfold Hid
        rw [HV.out, List.take_add_one, List.map_append, getD_in c, List.getElem?_eq_getElem c]; rfl
      have hwb : vs.length ≤ 3518437208882 := by rw [HV.out, List.length_map, List.length_take]; omega
      have HWB := Lib.hid hwb
      have HXP := Lib.hid (fun (k : Nat) (hk : At ax k) => apart_iv HX.out HC.out.own hk)
      obtain ⟨bb, off, hax, hxc⟩ := HX.out.isL.get c
      have HX1 := HX
      subst hax
      have HXX := Lib.hid hxc
      clear hwb
      generalize hz : xs.getD i 0 = z at *
      have HZ := Lib.hid hz
      clear hz
      generalize hb : tkTruth z = y at *
      have HY := Lib.hid hb
      clear hb
      obtain rfl : ⟨2, 0, z == 1, ⟨#[]⟩⟩ = y := HY.out
      go_upto_region 8 with fail
      go_wp2_with (at_builtin; refine wp_val HC.out.own HC.out.frm.size HWB.out rfl _ _ rfl ⟨2, 0, z == 1, ⟨#[]⟩⟩ rfl rfl ?_; intro av' cv' u6 ho hf _; have HFIN := Lib.hid (HC.out.val HG.out HC.out.rd (Frm.refl _ _) ho hf); have HX6 := Lib.hid (OwnI.frm HX1.out hf fun k hk _ e => HXP.out k hk e); clear ho hf)
      go_roundw
      case rel => exact ⟨i + 1, cv', av', vs ++ [⟨2, 0, z == 1, ⟨#[]⟩⟩], c, by simp, by go_num, HV2, HX6, HFIN⟩
      case measure => simp [intOf]; omega
    · obtain rfl : i = xs.length := by omega
      obtain rfl : R = vs := by rw [HR.out, HV.out, List.take_length]
      go_wp2
      go_ret
      exact ⟨av, cv, rfl, HC.out.own, HC.out.rd, HC.out.frm⟩
end Go.Proofs.YtlgfaajmonjpmaaGreat
