/- The program's Build. -/
import Derived.Test.YtgpnfmkonhaccaaVMap
import Derived.Test.YtgpnfmkonhaccaaVProg
namespace Go.Proofs.Ytgpnfmkonhaccaa
open Go.Conc Go.RowKit
set_option linter.unusedVariables false

/-- What Build has behind n values. -/
structure WAt (w wr : World) (vs : List V) (n : Nat) (aw ai : Option Addr) (cw ci : Nat) (ws : List V) (at_ : List Int) : Prop where
  is : buildA (vs.take n) = (ws, at_)
  words : OwnV (w.heap.size + 1) wr aw cw ws
  nums : OwnI (w.heap.size + 1) wr ai ci at_
  map : MapOf wr w.heap.size ws
  below : Below w.heap.size w wr

/-- .. and the value at hand. -/
structure WRd (w u : World) (g : Nat) (v : V) (aw ai : Option Addr) (cw ci : Nat) (ms ws : List V) (at_ : List Int) : Prop where
  words : OwnV (w.heap.size + 1) u aw cw ws
  nums : OwnI (w.heap.size + 1) u ai ci at_
  map : MapOf u w.heap.size ms
  hand : Slot u g v
  offw : ¬ At aw g
  offi : ¬ At ai g
  gt : w.heap.size < g
  below : Below w.heap.size w u
section
variable {w u u' : World} {g n cw ci : Nat} {v : V} {vs ws ms : List V} {aw ai : Option Addr} {at_ : List Int}
theorem WAt.rd (h : WAt w u vs n aw ai cw ci ws at_) (v : V) : WRd w (u.alloc (.cells #[.int .i64 v.k, .int .i64 v.i, .bool v.b, .string v.s] 41)) u.heap.size v aw ai cw ci ws ws at_ :=
  ⟨own_same h.words fun k _ hk => Below.heap_alloc u _ k hk, own_same h.nums fun k _ hk => Below.heap_alloc u _ k hk, h.map.same (Below.heap_alloc u _ _ h.map.lt), Slot.new u v, fun hk => by have := (h.words.at_ge hk).2; omega, fun hk => by have := (h.nums.at_ge hk).2; omega, h.map.lt, h.below.alloc h.below.size _⟩
theorem WRd.more (h : WRd w u g v aw ai cw ci ms ws at_) (hb : Below u.heap.size u u') : WRd w u' g v aw ai cw ci ms ws at_ :=
  ⟨h.words.below hb, h.nums.below hb, h.map.below hb, h.hand.below hb, h.offw, h.offi, h.gt, h.below.trans (hb.mono h.below.size)⟩
theorem WRd.store (h : WRd w u g v aw ai cw ci ms ws at_) (p : V) : WRd w ((((u.setCell ⟨g, 0, none⟩ (.int .i64 p.k)).setCell ⟨g, 1, none⟩ (.int .i64 p.i)).setCell ⟨g, 2, none⟩ (.bool p.b)).setCell ⟨g, 3, none⟩ (.string p.s)) g p aw ai cw ci ms ws at_ := by
  have hf := Frm.chain (u := u) (F := fun k => k = g) rfl p
  have hg := h.gt
  exact ⟨h.words.frm hf fun k hk _ e => h.offw (e ▸ hk), h.nums.frm hf fun k hk _ e => h.offi (e ▸ hk), h.map.same (hf.block _ h.map.lt (by omega)), h.hand.store p, h.offw, h.offi, hg, Frm.to_below h.below hf (fun k e => by omega) (Nat.le_refl _)⟩
theorem WRd.put {ms' : List V} (h : WRd w u g v aw ai cw ci ms ws at_) (hm : MapOf u' w.heap.size ms') (hf : Frm (fun k => k = w.heap.size) u u') : WRd w u' g v aw ai cw ci ms' ws at_ := by
  have hg := h.gt
  exact ⟨h.words.frm hf fun k hk _ e => by have := (h.words.at_ge hk).1; omega, h.nums.frm hf fun k hk _ e => by have := (h.nums.at_ge hk).1; omega, hm, h.hand.same (hf.block _ h.hand.lt (by omega)), h.offw, h.offi, hg, Frm.to_below h.below hf (fun k e => by omega) (Nat.le_refl _)⟩
theorem WRd.val {aw' : Option Addr} {cw' : Nat} {ws' : List V} (h : WRd w u g v aw ai cw ci ms ws at_) (ho : OwnV (w.heap.size + 1) u' aw' cw' ws') (hf : Frm (At aw) u u') (hn : ∀ k, At aw' k → At aw k ∨ u.heap.size < k) : WRd w u' g v aw' ai cw' ci ms ws' at_ := by
  have hl := h.hand.lt
  exact ⟨ho, h.nums.frm hf fun k hk _ hk2 => apart_iv h.nums h.words hk hk2, h.map.same (hf.block _ h.map.lt fun hk => by have := (h.words.at_ge hk).1; omega), h.hand.same (hf.block _ hl fun hk => h.offw hk), fun hk => by
    rcases hn _ hk with h1 | h1
    · exact h.offw h1
    · omega, h.offi, h.gt, Frm.to_below h.below hf (fun k hk => by have := (h.words.at_ge hk).1; omega) (Nat.le_refl _)⟩
theorem WRd.num {ai' : Option Addr} {ci' n : Nat} {at' : List Int} (h : WRd w u g v aw ai cw ci ws ws at_) (ho : OwnI (w.heap.size + 1) u' ai' ci' at') (hf : Frm (At ai) u u') (hc : buildA (vs.take n) = (ws, at')) : WAt w u' vs n aw ai' cw ci' ws at' :=
  ⟨hc, h.words.frm hf fun k hk _ hk2 => apart_iv h.nums h.words hk2 hk, ho, h.map.same (hf.block _ h.map.lt fun hk => by have := (h.nums.at_ge hk).1; omega), Frm.to_below h.below hf (fun k hk => by have := (h.nums.at_ge hk).1; omega) (Nat.le_refl _)⟩
end

set_option maxRecDepth 100000 in
set_option maxHeartbeats 4000000 in
theorem wbuild_any (w : World) (a : Option Addr) (cap : Nat) (vs : List V) (ha : IsV w a vs) (hx : vs.length * 40 ≤ 140737488355328) (hs : ∀ v ∈ vs, v.s.size ≤ 281474976710656) :
    Calls Try.prog 8 #[.slice a vs.length cap] w fun e w' => ∃ aw cw ai ci, e = .returned (.tuple #[.slice aw (buildA vs).1.length cw, .slice ai (buildA vs).2.length ci]) ∧ OwnV w.heap.size w' aw cw (buildA vs).1 ∧ OwnI w.heap.size w' ai ci (buildA vs).2 ∧ Below w.heap.size w w' := by
  obtain ⟨R, hR⟩ : ∃ R, R = buildA vs := ⟨_, rfl⟩
  rw [← hR]
  have HR := Lib.hid hR
  have HA := Lib.hid ha
  have HS := Lib.hid hs
  have H0 : Hid (WAt w (w.alloc (.map #[] 0)) vs 0 none none 0 0 [] []) :=
    ⟨rfl, OwnV.nil _ _, OwnI.nil _ _, MapOf.new w, (Below.refl _ _).alloc (Nat.le_refl _) _⟩
  clear hR ha hs
  have hmm := @run_makeMap Try.prog
  go_enter Try.func8, Try.ntmps8
  go_wp2
  clear hmm
  go_loopw [4, 5, 14] (fun wv tv iv wr => ∃ (n cw ci : Nat) (aw ai : Option Addr) (ws : List V) (at_ : List Int), n ≤ vs.length ∧ iv = .int .i64 n ∧ wv = .slice aw ws.length cw ∧ tv = .slice ai at_.length ci ∧ Hid (WAt w wr vs n aw ai cw ci ws at_)) (fun _ _ iv _ => vs.length - (intOf iv).toNat)
  case atStart => exact ⟨0, 0, 0, none, none, [], [], Nat.zero_le _, rfl, rfl, rfl, H0⟩
  case round =>
    obtain ⟨n, cw, ci, aw, ai, ws, at_, hn, rfl, rfl, rfl, HC⟩ := hrel
    by_cases c : n < vs.length
    · rcases HA.out with h | ⟨bb, off, rfl, hcells⟩
      · subst h; simp at c
      obtain ⟨v0, v1, v2, v3⟩ := (hcells n c).below HC.out.below
      have hsz := HS.out vs[n] (List.getElem_mem _)
      have HST := Lib.hid (buildA_take vs n c)
      clear hcells
      generalize vs[n] = v at *
      obtain ⟨p, hp⟩ : ∃ p, p = plainV v := ⟨_, rfl⟩
      have HP := Lib.hid hp
      have T1 : Hid (∀ u, Calls Try.prog 24 #[.agg #[.int .i64 v.k, .int .i64 v.i, .bool v.b, .string v.s]] u fun e w' => e = .returned (.agg #[.int .i64 p.k, .int .i64 p.i, .bool p.b, .string p.s]) ∧ Below u.heap.size u w') := by rw [hp]; exact fun u => plain_any v u
      have T2 : Hid (∀ u, Calls Try.prog 25 #[.agg #[.int .i64 p.k, .int .i64 p.i, .bool p.b, .string p.s]] u fun e w' => e = .returned (.agg #[.int .i64 p.k, .int .i64 p.i, .bool p.b, .string p.s]) ∧ Below u.heap.size u w') := by
        have := fun u => vcopy_any (plainV v) (Nat.le_trans (plainV_size v) hsz) u
        rw [plainV_twice, ← hp] at this
        exact this
      clear hp hsz
      have HB := built (vs.take n)
      rw [HC.out.is] at HB
      have htl : at_.length = n := by rw [HB.len, List.length_take]; omega
      have hwl : ws.length ≤ n := by have := HB.le; simp only [List.length_take] at this; omega
      have HEN : Hid (buildA (vs.take (n + 1)) = (if placeV p ws = ws.length then ws ++ [p] else ws, at_ ++ [((placeV p ws : Nat) : Int)])) := by
        unfold Hid
        rw [HST.out, HC.out.is, buildStep, ← HP.out]
      have hle := placeV_le p ws
      have hib : at_.length ≤ 17592186044000 := by omega
      have hwb : ws.length ≤ 3518437208882 := by omega
      clear HB HST HP hwl htl
      have HRD := Lib.hid (HC.out.rd v)
      generalize hg8 : wr.heap.size = g8 at *
      clear HC
      go_upto_region 7 with fail
      generalize wr.alloc (.cells #[.int .i64 v.k, .int .i64 v.i, .bool v.b, .string v.s] 41) = u1 at *
      obtain ⟨⟨a0, a1, a2, a3⟩, b0, b1, b2, b3⟩ := HRD.out.hand.at
      go_upto_region 8 with (go_at_call 24; refine (T1.out _).mono ?_; rintro e w2 ⟨rfl, hb⟩; replace HRD := Lib.hid (HRD.out.more hb); obtain ⟨⟨a0, a1, a2, a3⟩, b0, b1, b2, b3⟩ := HRD.out.hand.at; clear hb)
      replace HRD := Lib.hid (HRD.out.store p)
      generalize ((((w2.setCell ⟨g8, 0, none⟩ (.int .i64 p.k)).setCell ⟨g8, 1, none⟩ (.int .i64 p.i)).setCell ⟨g8, 2, none⟩ (.bool p.b)).setCell ⟨g8, 3, none⟩ (.string p.s)) = u3 at *
      clear a0 a1 a2 a3 b0 b1 b2 b3 T1 v0 v1 v2 v3
      obtain ⟨⟨a0, a1, a2, a3⟩, _⟩ := HRD.out.hand.at
      by_cases hpl : placeV p ws < ws.length
      · obtain ⟨k, hk⟩ : ∃ k, k = placeV p ws := ⟨_, rfl⟩
        rw [← hk] at HEN
        have HK := Lib.hid hk
        have HKL := Lib.hid hpl
        clear hk hpl hle
        go_upto_region 9 with (at_lookup; refine wp_look_yes HRD.out.map rfl _ _ rfl p HK.out HKL.out rfl rfl ?_)
        go_upto_region 13 with fail
        clear a0 a1 a2 a3
        have HEN2 : Hid (buildA (vs.take (n + 1)) = (ws, at_ ++ [(k : Int)])) := by
          unfold Hid
          rw [HEN.out, if_neg (by have h1 := HK.out; have h2 := HKL.out; omega)]
        go_wp2_with (at_builtin; refine wp_num HRD.out.nums (by have := HRD.out.gt; have := HRD.out.hand.lt; omega) hib rfl _ _ rfl k rfl rfl ?_; intro ai' ci' u4 ho hf; have HFIN := Lib.hid (HRD.out.num (vs := vs) ho hf HEN2.out); clear ho hf)
        go_roundw
        case rel => exact ⟨n + 1, cw, ci', aw, ai', ws, at_ ++ [(k : Int)], c, by go_num, rfl, by simp, HFIN⟩
        case measure => simp [intOf]; omega
      · have hpe : placeV p ws = ws.length := by omega
        rw [hpe, if_pos rfl] at HEN
        have HPE := Lib.hid hpe
        have HPL := Lib.hid hpl
        clear hpe hpl hle
        go_upto_region 9 with (at_lookup; refine wp_look_no HRD.out.map rfl _ _ rfl p HPL.out rfl rfl ?_)
        go_upto_region 11 with fail
        go_upto_region 12 with (at_mapUpdate; refine wp_putmap HRD.out.map rfl _ _ _ rfl p HPE.out rfl rfl rfl ?_; intro u5 hm hf; replace HRD := Lib.hid (HRD.out.put hm hf); clear hm hf)
        clear a0 a1 a2 a3
        obtain ⟨⟨a0, a1, a2, a3⟩, _⟩ := HRD.out.hand.at
        go_upto_region 13 with (first
          | (go_at_call 25; refine (T2.out _).mono ?_; rintro e w5 ⟨rfl, hb⟩; replace HRD := Lib.hid (HRD.out.more hb); clear hb)
          | (at_builtin; refine wp_val HRD.out.words (by have := HRD.out.gt; have := HRD.out.hand.lt; omega) hwb rfl _ _ rfl p rfl rfl ?_; intro aw' cw' u6 ho hf hn2; replace HRD := Lib.hid (HRD.out.val ho hf hn2); clear ho hf hn2))
        clear a0 a1 a2 a3
        go_wp2_with (at_builtin; refine wp_num HRD.out.nums (by have := HRD.out.gt; have := HRD.out.hand.lt; omega) hib rfl _ _ rfl (ws.length : Int) rfl rfl ?_; intro ai' ci' u7 ho hf; have HFIN := Lib.hid (HRD.out.num (vs := vs) ho hf HEN.out); clear ho hf)
        go_roundw
        case rel => exact ⟨n + 1, cw', ci', aw', ai', ws ++ [p], at_ ++ [(ws.length : Int)], c, by go_num, by simp, by simp, HFIN⟩
        case measure => simp [intOf]; omega
    · obtain rfl : n = vs.length := by omega
      have hR : R = (ws, at_) := by rw [HR.out, ← HC.out.is, List.take_length]
      subst hR
      clear c
      go_wp2
      go_ret2
      exact ⟨aw, cw, ai, ci, rfl, HC.out.words.lower (by omega), HC.out.nums.lower (by omega), HC.out.below⟩
end Go.Proofs.Ytgpnfmkonhaccaa
