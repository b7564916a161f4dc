/- The program's Cut. -/
import Derived.Test.YtpijnnkhokmlbaaUmath
import Derived.Test.YtpijnnkhokmlbaaValA
namespace Go.Proofs.Ytpijnnkhokmlbaa
open Go.Conc Go.RowKit
set_option linter.unusedVariables false

/-- What Cut has behind n values. -/
structure CutAt (w wr : World) (vs : List V) (n : Nat) (am ae : Option Addr) (cm ce : Nat) (m : List Int) (e : List V) (lv : V) : Prop where
  is : cutA (vs.take n) = (m, e)
  nums : OwnI (w.heap.size + 1) wr am cm m
  vals : OwnV (w.heap.size + 1) wr ae ce e
  slot : Slot wr w.heap.size lv
  one : n = 0 ∨ e.getLast? = some lv
  below : Below w.heap.size w wr

/-- .. and the value at hand. -/
structure CutRd (w u : World) (g : Nat) (v : V) (am ae : Option Addr) (cm ce : Nat) (m : List Int) (e : List V) (lv : V) : Prop where
  nums : OwnI (w.heap.size + 1) u am cm m
  vals : OwnV (w.heap.size + 1) u ae ce e
  slot : Slot u w.heap.size lv
  hand : Slot u g v
  offm : ¬ At am g
  offe : ¬ At ae g
  gt : w.heap.size < g
  below : Below w.heap.size w u
section
variable {w u u' : World} {g n cm ce : Nat} {v lv : V} {vs : List V} {am ae : Option Addr} {m : List Int} {e : List V}
theorem CutAt.rd (h : CutAt w u vs n am ae cm ce m e lv) (v : V) : CutRd w (u.alloc (.cells #[.int .i64 v.k, .int .i64 v.i, .bool v.b, .string v.s] 41)) u.heap.size v am ae cm ce m e lv :=
  ⟨own_same h.nums fun k _ hk => Below.heap_alloc u _ k hk, own_same h.vals fun k _ hk => Below.heap_alloc u _ k hk, h.slot.alloc _, Slot.new u v, fun hk => by have := (h.nums.at_ge hk).2; omega, fun hk => by have := (h.vals.at_ge hk).2; omega, h.slot.lt, h.below.alloc h.below.size _⟩
theorem CutRd.more (h : CutRd w u g v am ae cm ce m e lv) (hb : Below u.heap.size u u') : CutRd w u' g v am ae cm ce m e lv :=
  ⟨h.nums.below hb, h.vals.below hb, h.slot.below hb, h.hand.below hb, h.offm, h.offe, h.gt, h.below.trans (hb.mono h.below.size)⟩
theorem Frm.chain {F : Nat → Prop} (hg : F g) (p : V) : Frm F u ((((u.setCell ⟨g, 0, none⟩ (.int .i64 p.k)).setCell ⟨g, 1, none⟩ (.int .i64 p.i)).setCell ⟨g, 2, none⟩ (.bool p.b)).setCell ⟨g, 3, none⟩ (.string p.s)) :=
  ((((Frm.refl F u).setCell (p := ⟨g, 0, none⟩) hg _).setCell (p := ⟨g, 1, none⟩) hg _).setCell (p := ⟨g, 2, none⟩) hg _).setCell (p := ⟨g, 3, none⟩) hg _
theorem CutRd.store (h : CutRd w u g v am ae cm ce m e lv) (p : V) : CutRd w ((((u.setCell ⟨g, 0, none⟩ (.int .i64 p.k)).setCell ⟨g, 1, none⟩ (.int .i64 p.i)).setCell ⟨g, 2, none⟩ (.bool p.b)).setCell ⟨g, 3, none⟩ (.string p.s)) g p am ae cm ce m e lv := by
  have hf := Frm.chain (u := u) (F := fun k => k = g) rfl p
  have hg := h.gt
  exact ⟨h.nums.frm hf fun k hk _ e => h.offm (e ▸ hk), h.vals.frm hf fun k hk _ e => h.offe (e ▸ hk), h.slot.same (hf.block _ h.slot.lt (by omega)), h.hand.store p, h.offm, h.offe, hg, Frm.to_below h.below hf (fun k e => by omega) (Nat.le_refl _)⟩
/-- The last value is the one at hand. -/
theorem CutRd.kept (h : CutRd w u g v am ae cm ce m e lv) (p : V) {n : Nat} (hc : cutA (vs.take n) = (m, e)) (hp : e.getLast? = some p) : CutAt w ((((u.setCell ⟨w.heap.size, 0, none⟩ (.int .i64 p.k)).setCell ⟨w.heap.size, 1, none⟩ (.int .i64 p.i)).setCell ⟨w.heap.size, 2, none⟩ (.bool p.b)).setCell ⟨w.heap.size, 3, none⟩ (.string p.s)) vs n am ae cm ce m e p := by
  have hf := Frm.chain (u := u) (F := fun k => k = w.heap.size) rfl p
  exact ⟨hc, h.nums.frm hf fun k hk _ e => by have := (h.nums.at_ge hk).1; omega, h.vals.frm hf fun k hk _ e => by have := (h.vals.at_ge hk).1; omega, h.slot.store p, .inr hp, Frm.to_below h.below hf (fun k e => by omega) (Nat.le_refl _)⟩
/-- One more of the last run. -/
theorem CutRd.again {gm k : Nat} (h : CutRd w u g v (some ⟨gm, 0, none⟩) ae cm ce m e lv) (z : Int) {n : Nat} (hc : cutA (vs.take n) = (m.set k z, e)) (hp : e.getLast? = some lv) : CutAt w (u.setCell ⟨gm, k, none⟩ (.int .i64 z)) vs n (some ⟨gm, 0, none⟩) ae cm ce (m.set k z) e lv := by
  have hf : Frm (fun k => k = gm) u (u.setCell ⟨gm, k, none⟩ (.int .i64 z)) := (Frm.refl (fun k => k = gm) u).setCell (p := ⟨gm, k, none⟩) rfl _
  have hgm := (h.nums.at_ge (k := gm) rfl).1
  exact ⟨hc, h.nums.stored k z, h.vals.frm hf fun k hk _ e => apart_iv h.nums h.vals (k := gm) rfl (e ▸ hk), h.slot.same (hf.block _ h.slot.lt (by omega)), .inr hp, Frm.to_below h.below hf (fun k e => by omega) (Nat.le_refl _)⟩
/-- A run more: its number. -/
theorem CutRd.num {am' : Option Addr} {cm' : Nat} {z : Int} (h : CutRd w u g v am ae cm ce m e lv) (ho : OwnI (w.heap.size + 1) u' am' cm' (m ++ [z])) (hf : Frm (At am) u u') : CutRd w u' g v am' ae cm' ce (m ++ [z]) e lv := by
  have hg := h.gt
  refine ⟨ho, h.vals.frm hf fun k hk _ hk2 => apart_iv h.nums h.vals hk2 hk, h.slot.same (hf.block _ h.slot.lt fun hk => by have := (h.nums.at_ge hk).1; omega), h.hand.same (hf.block _ h.hand.lt fun hk => h.offm hk), fun hk => ?_, h.offe, hg, Frm.to_below h.below hf (fun k hk => by have := (h.nums.at_ge hk).1; omega) (Nat.le_refl _)⟩
  have hs := h.hand.same (hf.block _ h.hand.lt fun hk => h.offm hk)
  rcases ho.block with ⟨rfl, _⟩ | ⟨g2, rfl, _, _, _, cur, hc, _⟩
  · simp [At] at hk
  · simp [At] at hk
    subst hk
    have := hs.b
    rw [hc] at this
    injection this with this
    injection this with _ h3 _
    exact absurd h3 types_apart.2
/-- A run more: its value. -/
theorem CutRd.val {ae' : Option Addr} {ce' n : Nat} {p : V} (h : CutRd w u g p am ae cm ce m e lv) (ho : OwnV (w.heap.size + 1) u' ae' ce' (e ++ [p])) (hf : Frm (At ae) u u') (hc : cutA (vs.take n) = (m, e ++ [p])) :
    (Slot u' g p ∧ Slot u' w.heap.size lv) ∧ CutAt w ((((u'.setCell ⟨w.heap.size, 0, none⟩ (.int .i64 p.k)).setCell ⟨w.heap.size, 1, none⟩ (.int .i64 p.i)).setCell ⟨w.heap.size, 2, none⟩ (.bool p.b)).setCell ⟨w.heap.size, 3, none⟩ (.string p.s)) vs n am ae' cm ce' m (e ++ [p]) p := by
  have hs := h.slot.same (hf.block _ h.slot.lt fun hk => by have := (h.vals.at_ge hk).1; omega)
  refine ⟨⟨h.hand.same (hf.block _ h.hand.lt fun hk => h.offe hk), hs⟩, ?_⟩
  have hn := h.nums.frm hf fun k hk _ hk2 => apart_iv h.nums h.vals hk hk2
  have hb := Frm.to_below h.below hf (fun k hk => by have := (h.vals.at_ge hk).1; omega) (Nat.le_refl _)
  have hf2 := Frm.chain (u := u') (F := fun k => k = w.heap.size) rfl p
  exact ⟨hc, hn.frm hf2 fun k hk _ e => by have := (hn.at_ge hk).1; omega, ho.frm hf2 fun k hk _ e => by have := (ho.at_ge hk).1; omega, hs.store p, .inr (by simp), Frm.to_below hb hf2 (fun k e => by omega) (Nat.le_refl _)⟩
end

set_option maxRecDepth 100000 in
set_option maxHeartbeats 4000000 in
theorem ucut_any (w : World) (a : Option Addr) (cap : Nat) (vs : List V) (ha : IsV w a vs) (hx : vs.length * 40 ≤ 140737488355328) (hs : ∀ v ∈ vs, v.s.size ≤ 281474976710656) :
    Calls Try.prog 8 #[.slice a vs.length cap] w fun e w' => ∃ am cm ae ce, e = .returned (.tuple #[.slice am (cutA vs).1.length cm, .slice ae (cutA vs).2.length ce]) ∧ OwnI w.heap.size w' am cm (cutA vs).1 ∧ OwnV w.heap.size w' ae ce (cutA vs).2 ∧ Below w.heap.size w w' := by
  obtain ⟨R, hR⟩ : ∃ R, R = cutA vs := ⟨_, rfl⟩
  rw [← hR]
  have HR := Lib.hid hR
  have HA := Lib.hid ha
  have HS := Lib.hid hs
  have H0 : Hid (CutAt w (w.alloc (.cells #[.int .i64 0, .int .i64 0, .bool false, .string ⟨#[]⟩] 41)) vs 0 none none 0 0 [] [] ⟨0, 0, false, ⟨#[]⟩⟩) :=
    ⟨rfl, OwnI.nil _ _, OwnV.nil _ _, Slot.new w ⟨0, 0, false, ⟨#[]⟩⟩, .inl rfl, (Below.refl _ _).alloc (Nat.le_refl _) _⟩
  clear hR ha hs
  go_enter Try.func8, Try.ntmps8
  go_wp2
  go_loopw [4, 5, 11] (fun mv ev iv wr => ∃ (n cm ce : Nat) (am ae : Option Addr) (m : List Int) (e : List V) (last : V), n ≤ vs.length ∧ iv = .int .i64 n ∧ mv = .slice am m.length cm ∧ ev = .slice ae e.length ce ∧ Hid (CutAt w wr vs n am ae cm ce m e last)) (fun _ _ iv _ => vs.length - (intOf iv).toNat)
  case atStart => exact ⟨0, 0, 0, none, none, [], [], _, Nat.zero_le _, rfl, rfl, rfl, H0⟩
  case round =>
    obtain ⟨n, cm, ce, am, ae, m, e, lv, hn, rfl, rfl, rfl, HC⟩ := hrel
    by_cases c : n < vs.length
    · rcases HA.out with h | ⟨bb, off, rfl, hcells⟩
      · subst h; simp at c
      obtain ⟨v0, v1, v2, v3⟩ := (hcells n c).below HC.out.below
      have hsz := HS.out vs[n] (List.getElem_mem _)
      have HST := Lib.hid (cutA_take vs n c)
      clear hcells
      generalize vs[n] = v at *
      obtain ⟨p, hp⟩ : ∃ p, p = plainV v := ⟨_, rfl⟩
      have HP := Lib.hid hp
      have T1 : Hid (∀ u, Calls Try.prog 24 #[.agg #[.int .i64 v.k, .int .i64 v.i, .bool v.b, .string v.s]] u fun e w' => e = .returned (.agg #[.int .i64 p.k, .int .i64 p.i, .bool p.b, .string p.s]) ∧ Below u.heap.size u w') := by rw [hp]; exact fun u => plain_any v u
      have T2 : Hid (∀ u, Calls Try.prog 25 #[.agg #[.int .i64 p.k, .int .i64 p.i, .bool p.b, .string p.s]] u fun e w' => e = .returned (.agg #[.int .i64 p.k, .int .i64 p.i, .bool p.b, .string p.s]) ∧ Below u.heap.size u w') := by
        have := fun u => vcopy_any (plainV v) (Nat.le_trans (plainV_size v) hsz) u
        rw [plainV_twice, ← hp] at this
        exact this
      clear hp hsz
      have HRD := Lib.hid (HC.out.rd v)
      generalize hg8 : wr.heap.size = g8 at *
      go_upto_region 7 with fail
      generalize wr.alloc (.cells #[.int .i64 v.k, .int .i64 v.i, .bool v.b, .string v.s] 41) = u1 at *
      obtain ⟨⟨a0, a1, a2, a3⟩, b0, b1, b2, b3⟩ := HRD.out.hand.at
      go_upto_region 8 with (go_at_call 24; refine (T1.out _).mono ?_; rintro e w2 ⟨rfl, hb⟩; replace HRD := Lib.hid (HRD.out.more hb); obtain ⟨⟨a0, a1, a2, a3⟩, b0, b1, b2, b3⟩ := HRD.out.hand.at; clear hb)
      replace HRD := Lib.hid (HRD.out.store p)
      generalize ((((w2.setCell ⟨g8, 0, none⟩ (.int .i64 p.k)).setCell ⟨g8, 1, none⟩ (.int .i64 p.i)).setCell ⟨g8, 2, none⟩ (.bool p.b)).setCell ⟨g8, 3, none⟩ (.string p.s)) = u3 at *
      clear a0 a1 a2 a3 b0 b1 b2 b3 T1 v0 v1 v2 v3
      obtain ⟨⟨a0, a1, a2, a3⟩, _⟩ := HRD.out.hand.at
      obtain ⟨⟨l0, l1, l2, l3⟩, m0, m1, m2, m3⟩ := HRD.out.slot.at
      have HIS := Lib.hid HC.out.is
      have HON := Lib.hid HC.out.one
      have hml : m.length = e.length := by have h := (cutd (vs.take n)).len; rw [HC.out.is] at h; exact h
      have hel : e.length ≤ n := by have h := (cutd (vs.take n)).le; rw [HC.out.is, List.length_take] at h; simp only at h; omega
      clear HC
      have hq := run_eql_val p lv
      by_cases hl : e.getLast? = some p
      · have hn0 : n ≠ 0 := fun h0 => by
          have := HIS.out
          rw [h0, List.take_zero, cutA_nil] at this
          injection this with _ h2
          rw [← h2] at hl
          simp at hl
        obtain rfl : lv = p := by
          rcases HON.out with h | h
          · exact absurd h hn0
          · rw [hl] at h; exact (Option.some.inj h).symm
        simp only [decide_eq_true] at hq
        have he0 : e ≠ [] := fun h => by rw [h] at hl; simp at hl
        have hm0 : m ≠ [] := fun h => he0 (List.eq_nil_of_length_eq_zero (by rw [← hml, h]; rfl))
        obtain ⟨gm, rfl⟩ := HRD.out.nums.there hm0
        obtain ⟨k, hk⟩ : ∃ k, m.length = k + 1 := ⟨m.length - 1, by have := List.length_pos_iff.2 hm0; omega⟩
        obtain ⟨n0, n1⟩ := HRD.out.nums.get k (by omega)
        obtain ⟨x, hx'⟩ : ∃ x, x = m.getD k 0 := ⟨_, rfl⟩
        have hle : x ≤ n := by
          have h := cut_num_le (vs.take n) k (by rw [HIS.out]; show k < m.length; omega)
          rw [HIS.out, List.length_take, ← hx'] at h
          omega
        have hge : 1 ≤ x := by
          have h := (cutd (vs.take n)).pos k (by rw [HIS.out]; show k < m.length; omega)
          rw [HIS.out, ← hx'] at h
          exact h
        rw [← getD_in (d := 0), ← hx'] at n0
        have HEN : Hid (cutA (vs.take (n + 1)) = (m.set k (x + 1), e)) := by
          unfold Hid
          rw [HST.out, HIS.out, cutStep, ← HP.out]
          simp only
          rw [if_pos hl, hk, Nat.add_sub_cancel, ← hx']
        have HL := Lib.hid hl
        have HK := Lib.hid hk
        have hkn : k + 1 ≤ n := by omega
        rw [hk]
        clear hl hk hml hel he0 hm0 HIS HON HST HP hx'
        go_wp2
        go_roundw
        case rel => exact ⟨n + 1, cm, ce, some ⟨gm, 0, none⟩, ae, m.set k (x + 1), e, lv, c, by go_num, by rw [List.length_set, HK.out], rfl, Lib.hid (HRD.out.again (x + 1) HEN.out HL.out)⟩
        case measure => simp [intOf]; omega
      · have HEN : Hid (cutA (vs.take (n + 1)) = (m ++ [1], e ++ [p])) := by
          unfold Hid
          rw [HST.out, HIS.out, cutStep, ← HP.out]
          simp only
          rw [if_neg hl]
        have hsplit : n = 0 ∨ (0 < n ∧ decide (p = lv) = false) := by
          rcases HON.out with h | h
          · exact .inl h
          · by_cases h0 : n = 0
            · exact .inl h0
            · exact .inr ⟨by omega, decide_eq_false fun e => hl (by rw [h, e])⟩
        have hmb : m.length ≤ 17592186044000 := by omega
        have heb : e.length ≤ 3518437208882 := by omega
        clear hl hml hel HIS HON HST HP
        rcases hsplit with hn0 | ⟨hn0, hpl⟩
        · subst hn0
          go_upto_region 10 with fail
          go_upto_region 11 with (at_builtin; refine wp_num HRD.out.nums (by have := HRD.out.gt; have := HRD.out.hand.lt; omega) hmb rfl _ _ rfl 1 rfl rfl ?_; intro am' cm' u4 ho hf; replace HRD := Lib.hid (HRD.out.num ho hf); clear ho hf)
          clear a0 a1 a2 a3 l0 l1 l2 l3 m0 m1 m2 m3 hq
          obtain ⟨⟨a0, a1, a2, a3⟩, _⟩ := HRD.out.hand.at
          go_upto_region 12 with (first
            | (go_at_call 25; refine (T2.out _).mono ?_; rintro e w5 ⟨rfl, hb⟩; replace HRD := Lib.hid (HRD.out.more hb); clear hb)
            | (at_builtin; refine wp_val HRD.out.vals (by have := HRD.out.gt; have := HRD.out.hand.lt; omega) heb rfl _ _ rfl p rfl rfl ?_; intro ae' ce' u6 ho hf _; have hfin := HRD.out.val (vs := vs) ho hf HEN.out; obtain ⟨⟨⟨a0, a1, a2, a3⟩, _⟩, ⟨l0, l1, l2, l3⟩, m0, m1, m2, m3⟩ := And.intro hfin.1.1.at hfin.1.2.at; have HFIN := Lib.hid hfin.2; clear ho hf hfin))
          go_wp2
          go_roundw
          case rel => exact ⟨_, cm', ce', am', ae', m ++ [1], e ++ [p], p, c, by go_num, by simp, by simp, HFIN⟩
          case measure => simp [intOf]; omega
        · rw [hpl] at hq
          clear hpl
          go_upto_region 10 with fail
          go_upto_region 11 with (at_builtin; refine wp_num HRD.out.nums (by have := HRD.out.gt; have := HRD.out.hand.lt; omega) hmb rfl _ _ rfl 1 rfl rfl ?_; intro am' cm' u4 ho hf; replace HRD := Lib.hid (HRD.out.num ho hf); clear ho hf)
          clear a0 a1 a2 a3 l0 l1 l2 l3 m0 m1 m2 m3 hq
          obtain ⟨⟨a0, a1, a2, a3⟩, _⟩ := HRD.out.hand.at
          go_upto_region 12 with (first
            | (go_at_call 25; refine (T2.out _).mono ?_; rintro e w5 ⟨rfl, hb⟩; replace HRD := Lib.hid (HRD.out.more hb); clear hb)
            | (at_builtin; refine wp_val HRD.out.vals (by have := HRD.out.gt; have := HRD.out.hand.lt; omega) heb rfl _ _ rfl p rfl rfl ?_; intro ae' ce' u6 ho hf _; have hfin := HRD.out.val (vs := vs) ho hf HEN.out; obtain ⟨⟨⟨a0, a1, a2, a3⟩, _⟩, ⟨l0, l1, l2, l3⟩, m0, m1, m2, m3⟩ := And.intro hfin.1.1.at hfin.1.2.at; have HFIN := Lib.hid hfin.2; clear ho hf hfin))
          go_wp2
          go_roundw
          case rel => exact ⟨_, cm', ce', am', ae', m ++ [1], e ++ [p], p, c, by go_num, by simp, by simp, HFIN⟩
          case measure => simp [intOf]; omega
    · obtain rfl : n = vs.length := by omega
      have hR : R = (m, e) := by rw [HR.out, ← HC.out.is, List.take_length]
      subst hR
      clear c
      go_wp2
      go_ret2
      exact ⟨am, cm, ae, ce, rfl, HC.out.nums.lower (by omega), HC.out.vals.lower (by omega), HC.out.below⟩
end Go.Proofs.Ytpijnnkhokmlbaa
