/- The program's parser: objects. -/
import Derived.Test.YtcobadgpelhcoaaDoorDObAt
namespace Go.Proofs.YtcobadgpelhcoaaDoor
open Go.Conc Go.RowKit Go.Maps
set_option linter.unusedVariables false
set_option linter.unusedSimpArgs false

theorem one_one {k : ByteArray} : ∀ u ∈ [Value.string k], u.oneCell' = true := by
  intro u hu; simp only [List.mem_cons, List.not_mem_nil, or_false] at hu; subst hu; rfl
theorem one_news (w : World) (u0 : Value) : ∀ (j : Nat) (u : Value), [u0][j]? = some u → (w.alloc (.cells #[u0] 9)).cell? ((⟨w.heap.size, 0, none⟩ : Addr).add j) = some u := by
  intro j u h
  have hn : (w.alloc (.cells #[u0] 9)).heap[w.heap.size]? = some (.cells #[u0] 9 (0, 0)) := heap_alloc_new w _
  have hj : j = 0 := by have := List.getElem?_eq_some_iff.1 h; obtain ⟨h, _⟩ := this; simp at h; omega
  subst hj
  have e : (⟨w.heap.size, 0, none⟩ : Addr).add 0 = ⟨w.heap.size, 0, none⟩ := rfl
  rw [e, cell_of_row _ w.heap.size 0 _ _ _ hn]; simpa using h
theorem wpList_app_str (w : World) {ops : Array Oper} {rest : List Oper} {o : Oper} {a : Act} {Q : Exit → Act → World → Prop} (hgd : o.guard = none) (d x : Operand)
    (ho : o.op = .call { callee := .builtin .append, args := #[d, x], argTypes := #[23, 23] })
    (base : Nat) (hbase : base ≤ w.heap.size) (v : Value) (n : Nat) (xs p : List Value) (ad : Addr) (c : Nat) (hd : a.eval d = v) (hx : a.eval x = .slice (some ad) 1 c)
    (hown : w.ownsRow base 9 1 v n xs) (hxl : xs.length = n * 1) (hl : n ≤ 200000) (hp : p.length = 1) (hp1 : ∀ u ∈ p, u.oneCell' = true) (hnews : ∀ j u, p[j]? = some u → w.cell? (ad.add j) = some u)
    (hK : ∀ v' w', w'.ownsRow base 9 1 v' (n + 1) (xs ++ p) → w.grownBy w' v.ownBlock → NewRow w v v' → wpList Tryd.prog ops Q rest (a.put o.dst v') w') : wpList Tryd.prog ops Q (o :: rest) a w := by
  obtain ⟨v', w', hr, h1, h2, h3⟩ := run_append_str w base hbase v n xs p hown hxl hl hp hp1 ad c hnews
  exact wpList_append_eq w hgd d x 23 23 ho v _ hd hx (hr _) (hK v' w' h1 h2 h3)
theorem textAt_len {l : List UInt8} : ∀ {f i : Nat} {acc bs : List UInt8} {k : Nat}, textAt l f i acc = .ok (bs, k) → bs.length + 4 * i ≤ acc.length + 4 * k
  | 0, i, acc, bs, k, h => by simp [textAt] at h
  | f + 1, i, acc, bs, k, h => by
    unfold textAt at h
    split at h
    · simp at h
    · rename_i h0
      have hle := rr_le l i
      split at h
      · simp only [Except.ok.injEq, Prod.mk.injEq] at h
        obtain ⟨rfl, rfl⟩ := h
        omega
      · split at h
        · split at h
          · simp at h
          · rename_i bs' k' hE
            have h1 := escAt_ge hE
            have h2 := textAt_len h
            rw [List.length_append] at h2
            omega
        · have h2 := textAt_len h
          rw [List.length_append, List.length_take] at h2
          omega
theorem keyAt_in {l bs : List UInt8} {i k : Nat} (hi : i ≤ l.length) (h : keyAt l i = .ok (bs, k)) : i ≤ k ∧ k ≤ l.length ∧ bs.length ≤ 4 * l.length := by
  unfold keyAt at h
  split at h
  · split at h
    · simp at h
    · rename_i q i2 hT
      simp only [Except.ok.injEq, Prod.mk.injEq] at h
      obtain ⟨rfl, rfl⟩ := h
      have h1 := textOf_in hT
      have h2 := textAt_len (l := l) hT
      have h3 := skipW_ge l i
      have h4 := skipW_ge l i2
      have h5 := skipW_le l i2 h1.2
      simp only [List.length_nil] at h2
      omega
  · simp at h

set_option maxHeartbeats 4000000 in
set_option maxRecDepth 100000 in
theorem jobject_none (pb : Nat) (s : ByteArray) (i d k0 : Nat) (w : World) (h : JPAt w pb s i d) (hi1 : i + 1 ≤ s.size) (hs : s.size ≤ 65536) (hd : d < 16) (hk0 : skipW s.data.toList (i + 1) = k0) (hk0s : k0 ≤ s.size) (hk0i : i + 1 ≤ k0) (h93 : pk s.data.toList k0 = 125) (hk1 : k0 + 1 ≤ s.size) :
    Calls Tryd.prog 70 #[.pointer (some ⟨pb, 0, none⟩)] w (JV pb s i d (.ok (jObj [] [], k0 + 1)) w) := by
  have hlt := h.lt
  have H := Lib.hid h
  have HK0 := Lib.hid hk0
  have HC := Lib.hid h93
  clear h h93 hk0
  have B0 := Lib.hid (j6_new w (.int .i64 0) (.bool false) (.int .i64 0) (.string ⟨#[]⟩) (.slice none 0 0) (.slice none 0 0))
  go_enter Tryd.func70, Tryd.ntmps70
  go_wp2_with (first
      | (go_at_call 80
         have hB := Lib.hid (j6_new1 w (.cells #[.int .i64 0, .bool false, .int .i64 0, .string ⟨#[]⟩, .slice none 0 0, .slice none 0 0] 25) (.int .i64 5) (.bool false) (.int .i64 0) (.string ⟨#[]⟩) (.slice none 0 0) (.slice none 0 0))
         have hR0 := Lib.hid (j6_alloc B0.out (.cells #[.int .i64 5, .bool false, .int .i64 0, .string ⟨#[]⟩, .slice none 0 0, .slice none 0 0] 25))
         have hA := Lib.hid (((Frm.refl (One pb) w).alloc (.cells #[.int .i64 0, .bool false, .int .i64 0, .string ⟨#[]⟩, .slice none 0 0, .slice none 0 0] 25)).alloc (.cells #[.int .i64 5, .bool false, .int .i64 0, .string ⟨#[]⟩, .slice none 0 0, .slice none 0 0] 25))
         have hP := Lib.hid (H.out.below ((((Below.refl _ w).alloc (Nat.le_refl _) (.cells #[.int .i64 0, .bool false, .int .i64 0, .string ⟨#[]⟩, .slice none 0 0, .slice none 0 0] 25))).alloc (by simp) (.cells #[.int .i64 5, .bool false, .int .i64 0, .string ⟨#[]⟩, .slice none 0 0, .slice none 0 0] 25)))
         refine (jopen_yes pb s i d _ hP.out hi1 hs hd).mono ?_; rintro e w1 ⟨rfl, hp, hf⟩; rw [HK0.out] at hp
         have HP1 := Lib.hid hp; have HF1 := Lib.hid hf; clear hp hf)
      | (go_at_call 81; refine (jcloses_yes pb s 125 k0 d _ HP1.out hk0s hs hd HC.out).mono ?_; rintro e w2 ⟨rfl, hp, hf⟩; have HP2 := Lib.hid hp; have HF2 := Lib.hid hf; clear hp hf
         have HB2 := Lib.hid ((hB.out.frm HF1.out (by unfold One; omega)).frm HF2.out (by unfold One; omega))
         have HR2 := Lib.hid ((hR0.out.frm HF1.out (by unfold One; omega)).frm HF2.out (by unfold One; omega))
         have b0 := HB2.out.c0; have b1 := HB2.out.c1; have b2 := HB2.out.c2; have b3 := HB2.out.c3; have b4 := HB2.out.c4; have b5 := HB2.out.c5
         have r0 := HR2.out.c0; have r1 := HR2.out.c1; have r2 := HR2.out.c2; have r3 := HR2.out.c3; have r4 := HR2.out.c4; have r5 := HR2.out.c5
         have z0 := HR2.out.fz 0; have z1 := HR2.out.fz 1; have z2 := HR2.out.fz 2; have z3 := HR2.out.fz 3; have z4 := HR2.out.fz 4; have z5 := HR2.out.fz 5))
  have hv := HR2.out.fill (.int .i64 5) (.bool false) (.int .i64 0) (.string ⟨#[]⟩) (.slice none 0 0) (.slice none 0 0)
  have hfv := frm_fill6 w2 w.heap.size (.int .i64 5) (.bool false) (.int .i64 0) (.string ⟨#[]⟩) (.slice none 0 0) (.slice none 0 0)
  change bodyPost _ _ _ _ _ (Fill6 w2 w.heap.size (.int .i64 5) (.bool false) (.int .i64 0) (.string ⟨#[]⟩) (.slice none 0 0) (.slice none 0 0))
  generalize Fill6 w2 w.heap.size (.int .i64 5) (.bool false) (.int .i64 0) (.string ⟨#[]⟩) (.slice none 0 0) (.slice none 0 0) = v at *
  refine bodyPost_ret (v := .agg #[.int .i64 5, .bool false, .int .i64 0, .string ⟨#[]⟩, .slice none 0 0, .slice none 0 0]) (by simp [results, Tryd.results70, go_sem, hv.c0, hv.c1, hv.c2, hv.c3, hv.c4, hv.c5]) rfl ?_
  have hff := frm_new_one ((hA.out.trans HF1.out).trans HF2.out) (Nat.le_refl _) hfv
  exact ⟨_, rfl, by omega, hk1, HP2.out.frm hfv (by unfold One; omega), hff, JInU.plain 5 false 0 ⟨#[]⟩⟩

/-- The loop of an object goes on. -/
def JOs (pb d i mb : Nat) (s : ByteArray) (f : Nat → Rd J) (R : Rd J) (w : World) (g : Nat) (wr : World) : Prop :=
  ∃ (k : Nat) (ks : List ByteArray) (acc : List J) (cs : List (List Value)) (lv kv : Value), k ≤ s.size ∧ i ≤ k ∧ s.size + 1 ≤ k + g ∧ Hid (objAt s.data.toList f g k ks acc = R) ∧ acc.length ≤ k ∧ ks.length = acc.length ∧ ObAt pb d s w wr k mb ks ks acc cs lv kv

set_option maxHeartbeats 16000000 in
set_option maxRecDepth 100000 in
theorem jobject_some (pb : Nat) (s : ByteArray) (i d k0 : Nat) (f : Nat → Rd J) (HS : SubOk pb s (d + 1) f) (w : World) (h : JPAt w pb s i d) (hi1 : i + 1 ≤ s.size) (hs : s.size ≤ 65536) (hd : d < 16) (hk0 : skipW s.data.toList (i + 1) = k0) (hk0s : k0 ≤ s.size) (hk0i : i + 1 ≤ k0) (h93 : ¬ pk s.data.toList k0 = 125) :
    Calls Tryd.prog 70 #[.pointer (some ⟨pb, 0, none⟩)] w (JV pb s i d (objAt s.data.toList f (s.size + 1) k0 [] []) w) := by
  have hlt := h.lt
  have HL := Lib.hid (show s.data.toList.length = s.size by simp)
  have H := Lib.hid h
  have HK0 := Lib.hid hk0
  have HC := Lib.hid h93
  have HSS := Lib.hid HS
  have hmm := @run_makeMap Tryd.prog
  clear h h93 hk0 HS
  have B0 := Lib.hid (j6_new w (.int .i64 0) (.bool false) (.int .i64 0) (.string ⟨#[]⟩) (.slice none 0 0) (.slice none 0 0))
  generalize hR : objAt s.data.toList f (s.size + 1) k0 [] [] = R
  have HR := Lib.hid hR
  clear hR
  go_enter Tryd.func70, Tryd.ntmps70
  go_wp2_with (first
      | (go_at_call 80
         have hB := Lib.hid (j6_new1 w (.cells #[.int .i64 0, .bool false, .int .i64 0, .string ⟨#[]⟩, .slice none 0 0, .slice none 0 0] 25) (.int .i64 5) (.bool false) (.int .i64 0) (.string ⟨#[]⟩) (.slice none 0 0) (.slice none 0 0))
         have hR0 := Lib.hid (j6_alloc B0.out (.cells #[.int .i64 5, .bool false, .int .i64 0, .string ⟨#[]⟩, .slice none 0 0, .slice none 0 0] 25))
         have hA := Lib.hid (((Frm.refl (One pb) w).alloc (.cells #[.int .i64 0, .bool false, .int .i64 0, .string ⟨#[]⟩, .slice none 0 0, .slice none 0 0] 25)).alloc (.cells #[.int .i64 5, .bool false, .int .i64 0, .string ⟨#[]⟩, .slice none 0 0, .slice none 0 0] 25))
         have hP := Lib.hid (H.out.below ((((Below.refl _ w).alloc (Nat.le_refl _) (.cells #[.int .i64 0, .bool false, .int .i64 0, .string ⟨#[]⟩, .slice none 0 0, .slice none 0 0] 25))).alloc (by simp) (.cells #[.int .i64 5, .bool false, .int .i64 0, .string ⟨#[]⟩, .slice none 0 0, .slice none 0 0] 25)))
         refine (jopen_yes pb s i d _ hP.out hi1 hs hd).mono ?_; rintro e w1 ⟨rfl, hp, hf⟩; rw [HK0.out] at hp
         have HP1 := Lib.hid hp; have HF1 := Lib.hid hf; clear hp hf)
      | (go_at_call 81; refine (jcloses_no pb s 125 k0 (d + 1) _ HP1.out hs HC.out).mono ?_; rintro e w2 ⟨rfl, hp, hf⟩; have HP2 := Lib.hid hp; have HF2 := Lib.hid hf; clear hp hf
         have HB2 := Lib.hid ((hB.out.frm HF1.out (by unfold One; omega)).frm HF2.out (by unfold One; omega))
         have HR2 := Lib.hid ((hR0.out.frm HF1.out (by unfold One; omega)).frm HF2.out (by unfold One; omega))))
  obtain ⟨mb, hmb⟩ : ∃ mb, mb = w2.heap.size := ⟨_, rfl⟩
  have HM : Hid (OwnKeys (w2.alloc (.map #[] 0)) mb []) := by unfold Hid; rw [hmb]; exact World.ownsMap_made w2 Tryd.prog 9 unitElem
  have hmb2 : w.heap.size + 2 ≤ mb := by have := HB2.out.lt; omega
  rw [← hmb]
  have HM0 := Lib.hid hmb
  clear hmb
  go_loopg [] (s.size + 1) (fun g wr => JOs pb d i mb s f R w g wr)
  case atStart => exact ⟨k0, [], [], [], .slice none 0 0, .slice none 0 0, hk0s, by omega, by omega, HR.out, by simp, rfl,
    ⟨HP2.out.below ((Below.refl _ _).alloc (Nat.le_refl _) _), j6_alloc HB2.out _, j6_alloc HR2.out _, World.ownsRow_nil _ _ _ _, World.ownsRow_nil _ _ _ _, fun g h => (by simp [Value.ownBlock] at h), HM.out, hmb2, by simp [Value.ownBlock], by simp [Value.ownBlock], JsInU.nil _ _, ((hA.out.trans HF1.out).trans HF2.out).alloc _⟩⟩
  case round =>
    clear HB2 HR2 HP2 hB hR0 hA hP HP1 HF1 HF2 HC HK0 B0 HR HM HM0
    obtain ⟨k, ks, acc, cs, lv, kv, hk, hki, hkg, hla, hacc, hkl, hob⟩ := hrel
    obtain ⟨g, rfl⟩ : ∃ g, gk = g + 1 := ⟨gk - 1, by omega⟩
    have HOB := Lib.hid hob
    have hksl : ks.length ≤ k := by omega
    have HKL := Lib.hid hkl
    clear hkl
    have hwsz := hob.jb.lt
    clear hob
    have hla2 := hla.out
    rw [objAt_eq] at hla2
    have HKY := Lib.hid (fun u hu => jkey_any pb s k (d + 1) u hu hk hs)
    cases hKA : keyAt s.data.toList k with
    | error x =>
      obtain rfl : R = .error x := by rw [← hla2, hKA]
      rw [hKA] at HKY
      clear hla hla2 hKA
      go_wp2_with (go_at_call 82; refine (HKY.out _ HOB.out.pat).mono ?_; rintro e w1 ⟨rfl, hf⟩; unfold thrown; have HF1 := Lib.hid hf; clear hf)
      exact ⟨rfl, rfl, HOB.out.frm.trans HF1.out⟩
    | ok q =>
      obtain ⟨bs, i2⟩ := q
      rw [hKA] at HKY hla2
      obtain ⟨hki2, hi2, hbl⟩ := keyAt_in (by rw [HL.out]; exact hk) hKA
      rw [HL.out] at hi2 hbl
      have hkz : (ByteArray.mk bs.toArray).size ≤ 140737488351232 := by
        have e : (ByteArray.mk bs.toArray).size = bs.length := by simp [ByteArray.size]
        omega
      clear hla hKA
      cases hse : seenB ks ⟨bs.toArray⟩ with
      | true =>
        obtain rfl : R = .error 300 := by rw [← hla2]; simp only [hse, if_true]
        have HN := Lib.hid hse
        clear hse hla2
        go_wp2_with (first
          | (go_at_call 82; refine (HKY.out _ HOB.out.pat).mono ?_; rintro e w1 ⟨rfl, hp, hf⟩; have HO1 := Lib.hid (HOB.out.pass hlt hf hp); clear hp hf)
          | (go_at_call 79; refine (jnote_old mb ks ⟨bs.toArray⟩ _ HO1.out.map hkz HN.out).mono ?_; rintro e w2 ⟨rfl, hb⟩; unfold thrown; have HB := Lib.hid hb; clear hb))
        exact ⟨rfl, rfl, HO1.out.frm.trans (Frm.of_new HB.out _)⟩
      | false =>
        have HN := Lib.hid hse
        simp only [hse, Bool.false_eq_true, if_false] at hla2
        cases hw : wordAt [58] s.data.toList i2 with
        | false =>
          obtain rfl : R = .error 300 := by rw [← hla2, hw]; rfl
          have HW := Lib.hid hw
          clear hse hla2 hw
          go_wp2_with (first
            | (go_at_call 82; refine (HKY.out _ HOB.out.pat).mono ?_; rintro e w1 ⟨rfl, hp, hf⟩; have HO1 := Lib.hid (HOB.out.pass hlt hf hp); clear hp hf)
            | (go_at_call 79; refine (jnote_new mb ks ⟨bs.toArray⟩ _ HO1.out.map (by omega) hkz HN.out).mono ?_; rintro e w2 ⟨rfl, hm, hf⟩; have HO2 := Lib.hid (HO1.out.noted hlt hf hm); have k5 := HO2.out.jb.c5; have hsz2 := HO2.out.jb.lt; clear hm hf)
            | (at_builtin; refine wpList_app_str _ rfl _ _ rfl (w.heap.size + 2) (by simp at hsz2 ⊢; omega) kv ks.length (ks.map Value.string) [.string ⟨bs.toArray⟩] ⟨w2.heap.size, 0, none⟩ 1 rfl rfl (HO2.out.ownK.alloc _) (by simp) (by omega) rfl one_one (one_news w2 _) ?_; intro kv' w3 hown hgrow hnew; obtain ⟨ka, kc, rfl⟩ := own_slice hown; have HO3 := Lib.hid (HO2.out.keyed hlt _ _ _ _ hgrow hnew hown); have HJ3 := HO2.out.jbk _ _ hgrow; have hfz3 := HJ3.fz 5; have hc53 := HJ3.c5; clear hown hgrow hnew HJ3)
            | (go_at_call 72; refine (jexpect_no pb s ⟨#[58]⟩ i2 (d + 1) _ HO3.out.pat hs hi2 (by decide) HW.out).mono ?_; rintro e w4 ⟨rfl, hf⟩; unfold thrown; have HF4 := Lib.hid hf; clear hf))
          exact ⟨rfl, rfl, HO3.out.frm.trans HF4.out⟩
        | true =>
          have HW := Lib.hid hw
          have hi3 : i2 + 1 ≤ s.size := by rw [show ([58] : List UInt8) = [UInt8.ofNat 58] from rfl, wordAt_one (by omega) (by omega)] at hw; obtain ⟨_, _, _, h⟩ := pk_some (of_decide_eq_true hw) (by omega); rw [HL.out] at h; omega
          rw [hw, if_pos rfl] at hla2
          have HLB := Lib.hid hla2
          clear hse hla2 hw
          go_wp2_with (first
            | (go_at_call 82; refine (HKY.out _ HOB.out.pat).mono ?_; rintro e w1 ⟨rfl, hp, hf⟩; have HO1 := Lib.hid (HOB.out.pass hlt hf hp); clear hp hf)
            | (go_at_call 79; refine (jnote_new mb ks ⟨bs.toArray⟩ _ HO1.out.map (by omega) hkz HN.out).mono ?_; rintro e w2 ⟨rfl, hm, hf⟩; have HO2 := Lib.hid (HO1.out.noted hlt hf hm); have k5 := HO2.out.jb.c5; have hsz2 := HO2.out.jb.lt; clear hm hf)
            | (at_builtin; refine wpList_app_str _ rfl _ _ rfl (w.heap.size + 2) (by simp at hsz2 ⊢; omega) kv ks.length (ks.map Value.string) [.string ⟨bs.toArray⟩] ⟨w2.heap.size, 0, none⟩ 1 rfl rfl (HO2.out.ownK.alloc _) (by simp) (by omega) rfl one_one (one_news w2 _) ?_; intro kv' w3 hown hgrow hnew; obtain ⟨ka, kc, rfl⟩ := own_slice hown; have HO3 := Lib.hid (HO2.out.keyed hlt _ _ _ _ hgrow hnew hown); have HJ3 := HO2.out.jbk _ _ hgrow; have hfz3 := HJ3.fz 5; have hc53 := HJ3.c5; clear hown hgrow hnew HJ3)
            | (go_at_call 72; refine (jexpect_yes pb s ⟨#[58]⟩ i2 (d + 1) _ HO3.out.pat hs hi2 (by decide) HW.out).mono ?_; rintro e w4 ⟨rfl, hp, hf⟩; have HO4 := Lib.hid (HO3.out.pass hlt hf hp); clear hp hf))
          have HV := Lib.hid (HSS.out (i2 + 1) w4.drew HO4.out.pat hi3)
          have b4 := HO4.out.jb.c4
          clear HKY hfz3 hc53 k5
          cases hV : valW s.data.toList f (i2 + 1) with
          | error c =>
            rw [hV] at HV
            obtain rfl : R = .error c := by rw [← HLB.out, hV]
            clear hV HLB
            refine wp_region_any (by kernel_rfl) ?_
            change wpAny _ _ _ _ _ _ _ (World.drew _)
            refine wpAny_take (i := 0) (v := ?_) rfl (by kernel_rfl) (by kernel_rfl) (by kernel_rfl) (fun _ _ _ h => h) (Or.inl ⟨by rfl, fun w => ?_⟩) ?_
            rotate_left
            · go_simp
              try with_reducible rfl
            try simp only [Go.Act.put, List.setIfInBounds_toArray, List.set_cons_zero, List.set_cons_succ]
            refine wpAny_take (i := 2) (v := ?_) rfl (by kernel_rfl) (by kernel_rfl) (by kernel_rfl) (fun _ _ _ h => h) (Or.inl ⟨by rfl, fun w => ?_⟩) ?_
            rotate_left
            · go_simp
              try with_reducible rfl
            try simp only [Go.Act.put, List.setIfInBounds_toArray, List.set_cons_zero, List.set_cons_succ]
            refine wpAny_ready (rs := [1, 3]) (by kernel_rfl) (by simp) (AllReady.cons rfl (fun K hK => ?_) (AllReady.cons rfl (fun K hK => ?_) (AllReady.nil)))
            · go_simp
              refine hK _ _ ?_
              clear hK K
              try simp only [Go.Act.put, List.setIfInBounds_toArray, List.set_cons_zero, List.set_cons_succ]
              refine wpAny_ready (rs := [3]) (by kernel_rfl) (by simp) (AllReady.cons rfl (fun K hK => ?_) (AllReady.nil))
              go_simp
              refine HV.out.mono ?_
              rintro e w5 ⟨rfl, hf⟩
              unfold thrown
              dsimp only
              exact ⟨rfl, rfl, HO4.out.frm.drew.trans hf⟩
            · go_simp
              refine HV.out.mono ?_
              rintro e w5 ⟨rfl, hf⟩
              unfold thrown
              dsimp only
              exact ⟨rfl, rfl, HO4.out.frm.drew.trans hf⟩
          | ok q =>
            obtain ⟨j, k2⟩ := q
            rw [hV] at HV
            have HLA : Hid (R = (if wordAt [125] s.data.toList k2 then .ok (jObj (ks ++ [⟨bs.toArray⟩]) (acc ++ [j]), k2 + 1) else if wordAt [44] s.data.toList k2 then objAt s.data.toList f g (k2 + 1) (ks ++ [⟨bs.toArray⟩]) (acc ++ [j]) else .error 300)) := by
              unfold Hid; rw [← HLB.out, hV]
            clear hV HLB
            refine wp_region_any (by kernel_rfl) ?_
            change wpAny _ _ _ _ _ _ _ (World.drew _)
            refine wpAny_take (i := 0) (v := ?_) rfl (by kernel_rfl) (by kernel_rfl) (by kernel_rfl) (fun _ _ _ h => h) (Or.inl ⟨by rfl, fun w => ?_⟩) ?_
            rotate_left
            · go_simp
              try with_reducible rfl
            try simp only [Go.Act.put, List.setIfInBounds_toArray, List.set_cons_zero, List.set_cons_succ]
            refine wpAny_take (i := 2) (v := ?_) rfl (by kernel_rfl) (by kernel_rfl) (by kernel_rfl) (fun _ _ _ h => h) (Or.inl ⟨by rfl, fun w => ?_⟩) ?_
            rotate_left
            · go_simp
              try with_reducible rfl
            try simp only [Go.Act.put, List.setIfInBounds_toArray, List.set_cons_zero, List.set_cons_succ]
            refine wpAny_ready (rs := [1, 3]) (by kernel_rfl) (by simp) (AllReady.cons rfl (fun K hK => ?_) (AllReady.cons rfl (fun K hK => ?_) (AllReady.nil)))
            · go_simp
              refine hK _ _ ?_
              clear hK K
              try simp only [Go.Act.put, List.setIfInBounds_toArray, List.set_cons_zero, List.set_cons_succ]
              refine wpAny_ready (rs := [3]) (by kernel_rfl) (by simp) (AllReady.cons rfl (fun K hK => ?_) (AllReady.nil))
              go_simp
              refine HV.out.mono ?_
              rintro e w5 ⟨ccs, rfl, hik, hks, hp1, hf1, hj1⟩
              obtain ⟨x0, x1, x2, x3, x4, x5, rfl⟩ := six_of hj1.length
              have HST := Lib.hid (HO4.out.drew.step hlt hp1 hf1 hj1)
              have HJW := Lib.hid (HO4.out.drew.jbw hf1 hlt)
              have HO5 := Lib.hid (HO4.out.drew.pass hlt hf1 hp1)
              have B4 := HO5.out.jb.c4
              have B4b := (j6_alloc HO5.out.jb (.cells #[x0, x1, x2, x3, x4, x5] 25)).c4
              have hsz1 := HO5.out.jb.lt
              have HJ1 := Lib.hid hj1
              clear hp1 hf1 hj1
              dsimp only
              refine hK _ _ ?_
              clear hK K
              try simp only [Go.Act.put, List.setIfInBounds_toArray, List.set_cons_zero, List.set_cons_succ]
              refine wpAny_ready (rs := [4]) (by kernel_rfl) (by simp) (AllReady.cons rfl (fun K hK => ?_) (AllReady.nil))
              go_simp
              refine hK _ _ ?_
              clear hK K
              try simp only [Go.Act.put, List.setIfInBounds_toArray, List.set_cons_zero, List.set_cons_succ]
              refine wpAny_ready (rs := [5]) (by kernel_rfl) (by simp) (AllReady.cons rfl (fun K hK => ?_) (AllReady.nil))
              refine step_append_json rfl _ _ rfl (w.heap.size + 2) (by simp at hsz1 ⊢; omega) lv acc.length cs.flatten [x0, x1, x2, x3, x4, x5] ⟨w5.heap.size, 0, none⟩ 1 (by rfl) (by rfl) (HO5.out.ownL.alloc _) HO5.out.js.flat (by omega) rfl HJ1.out.one (six_news w5 _ _ _ _ _ _) ?_
              intro lv' w6 hown hgrow hnew
              obtain ⟨la, lc, rfl⟩ := own_slice hown
              have HO6 := Lib.hid (HST.out _ _ _ hgrow hnew hown)
              have HJ2 := HJW.out _ _ hgrow
              have hfz := HJ2.fz 4
              have hc4 := HJ2.c4
              clear hown hgrow hnew HST HJ2 HJW
              refine hK _ _ ?_
              clear hK K
              try simp only [Go.Act.put, List.setIfInBounds_toArray, List.set_cons_zero, List.set_cons_succ]
              refine wpAny_take (i := 6) (v := ?_) rfl (by kernel_rfl) (by kernel_rfl) (by kernel_rfl) (fun _ _ _ h => h) (Or.inl ⟨by rfl, fun w => ?_⟩) ?_
              rotate_left
              · go_simp
                try with_reducible rfl
              try simp only [Go.Act.put, List.setIfInBounds_toArray, List.set_cons_zero, List.set_cons_succ]
              refine wpAny_ready (rs := [7]) (by kernel_rfl) (by simp) (AllReady.cons rfl (fun K hK => ?_) (AllReady.nil))
              go_simp
              refine hK _ _ ?_
              clear hK K
              try simp only [Go.Act.put, List.setIfInBounds_toArray, List.set_cons_zero, List.set_cons_succ]
              refine wpAny_done (by kernel_rfl) ?_ _
              have HP3 := Lib.hid HO6.out.pat
              generalize w6.setCell ⟨w.heap.size + 1, 4, none⟩ (.slice la (acc.length + 1) lc) = w7 at *
              clear hfz hc4 B4 B4b b4
              by_cases h93 : pk s.data.toList k2 = 125
              · obtain rfl : R = .ok (jObj (ks ++ [⟨bs.toArray⟩]) (acc ++ [j]), k2 + 1) := by rw [HLA.out, if_pos (by rw [show ([125] : List UInt8) = [UInt8.ofNat 125] from rfl, wordAt_one (by omega) (by omega)]; simpa using h93)]
                have hk3 : k2 + 1 ≤ s.size := by obtain ⟨_, _, _, h⟩ := pk_some h93 (by omega); rw [HL.out] at h; omega
                have HC := Lib.hid h93
                clear h93
                go_wp2_with (go_at_call 81; refine (jcloses_yes pb s 125 k2 d _ HP3.out hks hs hd HC.out).mono ?_; rintro e w8 ⟨rfl, hp, hf⟩; have HP4 := Lib.hid hp; have HF4 := Lib.hid hf; clear hp hf
                             have HB2 := Lib.hid (HO6.out.jb.frm HF4.out (by unfold One; omega))
                             have HR2 := Lib.hid (HO6.out.rb.frm HF4.out (by unfold One; omega))
                             have b0 := HB2.out.c0; have b1 := HB2.out.c1; have b2 := HB2.out.c2; have b3 := HB2.out.c3; have b4 := HB2.out.c4; have b5 := HB2.out.c5
                             have r0 := HR2.out.c0; have r1 := HR2.out.c1; have r2 := HR2.out.c2; have r3 := HR2.out.c3; have r4 := HR2.out.c4; have r5 := HR2.out.c5
                             have z0 := HR2.out.fz 0; have z1 := HR2.out.fz 1; have z2 := HR2.out.fz 2; have z3 := HR2.out.fz 3; have z4 := HR2.out.fz 4; have z5 := HR2.out.fz 5)
                have hv := HR2.out.fill (.int .i64 5) (.bool false) (.int .i64 0) (.string ⟨#[]⟩) (.slice la (acc.length + 1) lc) (.slice ka (ks.length + 1) kc)
                have hfv := frm_fill6 w8 w.heap.size (.int .i64 5) (.bool false) (.int .i64 0) (.string ⟨#[]⟩) (.slice la (acc.length + 1) lc) (.slice ka (ks.length + 1) kc)
                change bodyPost _ _ _ _ _ (Fill6 w8 w.heap.size (.int .i64 5) (.bool false) (.int .i64 0) (.string ⟨#[]⟩) (.slice la (acc.length + 1) lc) (.slice ka (ks.length + 1) kc))
                generalize Fill6 w8 w.heap.size (.int .i64 5) (.bool false) (.int .i64 0) (.string ⟨#[]⟩) (.slice la (acc.length + 1) lc) (.slice ka (ks.length + 1) kc) = v at *
                refine bodyPost_ret (v := .agg #[.int .i64 5, .bool false, .int .i64 0, .string ⟨#[]⟩, .slice la (acc.length + 1) lc, .slice ka (ks.length + 1) kc]) (by simp [results, Tryd.results70, go_sem, hv.c0, hv.c1, hv.c2, hv.c3, hv.c4, hv.c5]) rfl ?_
                have hfin := HO6.out.fin hlt HF4.out hfv
                exact ⟨_, rfl, by omega, hk3, HP4.out.frm hfv (by unfold One; omega), hfin.2, hfin.1⟩
              have HLA2 := HLA.out
              rw [if_neg (by rw [show ([125] : List UInt8) = [UInt8.ofNat 125] from rfl, wordAt_one (by omega) (by omega)]; simpa using h93)] at HLA2
              have HC := Lib.hid h93
              clear h93 HLA
              cases h44 : wordAt [44] s.data.toList k2 with
              | true =>
                rw [h44, if_pos rfl] at HLA2
                have HLA := Lib.hid HLA2
                have hk3 : k2 + 1 ≤ s.size := by rw [show ([44] : List UInt8) = [UInt8.ofNat 44] from rfl, wordAt_one (by omega) (by omega)] at h44; obtain ⟨_, _, _, h⟩ := pk_some (of_decide_eq_true h44) (by omega); rw [HL.out] at h; omega
                have HW4 := Lib.hid h44
                clear h44 HLA2
                go_wp2_with (first
                  | (go_at_call 81; refine (jcloses_no pb s 125 k2 (d + 1) _ HP3.out hs HC.out).mono ?_; rintro e w8 ⟨rfl, hp, hf⟩; have HO7 := Lib.hid (HO6.out.pass hlt hf hp); clear hp hf)
                  | (go_at_call 72; refine (jexpect_yes pb s ⟨#[44]⟩ k2 (d + 1) _ HO7.out.pat hs hks (by decide) HW4.out).mono ?_; rintro e w9 ⟨rfl, hp, hf⟩; have HO8 := Lib.hid (HO7.out.pass hlt hf hp); clear hp hf))
                go_roundg g
                case rel => exact ⟨k2 + 1, ks ++ [ByteArray.mk bs.toArray], acc ++ [j], cs ++ [[x0, x1, x2, x3, x4, x5]], _, _, hk3, by omega, by omega, HLA.out.symm, by simp; omega, by simp [HKL.out], HO8.out⟩
                case measure => omega
              | false =>
                obtain rfl : R = .error 300 := by rw [HLA2, h44]; rfl
                have HW4 := Lib.hid h44
                clear h44 HLA2
                go_wp2_with (first
                  | (go_at_call 81; refine (jcloses_no pb s 125 k2 (d + 1) _ HP3.out hs HC.out).mono ?_; rintro e w8 ⟨rfl, hp, hf⟩; have HO7 := Lib.hid (HO6.out.pass hlt hf hp); clear hp hf)
                  | (go_at_call 72; refine (jexpect_no pb s ⟨#[44]⟩ k2 (d + 1) _ HO7.out.pat hs hks (by decide) HW4.out).mono ?_; rintro e w9 ⟨rfl, hf⟩; unfold thrown; have HF5 := Lib.hid hf; clear hf))
                exact ⟨rfl, rfl, HO7.out.frm.trans HF5.out⟩
            · go_simp
              refine HV.out.mono ?_
              rintro e w5 ⟨ccs, rfl, hik, hks, hp1, hf1, hj1⟩
              obtain ⟨x0, x1, x2, x3, x4, x5, rfl⟩ := six_of hj1.length
              have HST := Lib.hid (HO4.out.drew.step hlt hp1 hf1 hj1)
              have HJW := Lib.hid (HO4.out.drew.jbw hf1 hlt)
              have HO5 := Lib.hid (HO4.out.drew.pass hlt hf1 hp1)
              have B4 := HO5.out.jb.c4
              have B4b := (j6_alloc HO5.out.jb (.cells #[x0, x1, x2, x3, x4, x5] 25)).c4
              have hsz1 := HO5.out.jb.lt
              have HJ1 := Lib.hid hj1
              clear hp1 hf1 hj1
              dsimp only
              refine hK _ _ ?_
              clear hK K
              try simp only [Go.Act.put, List.setIfInBounds_toArray, List.set_cons_zero, List.set_cons_succ]
              refine wpAny_ready (rs := [1, 4]) (by kernel_rfl) (by simp) (AllReady.cons rfl (fun K hK => ?_) (AllReady.cons rfl (fun K hK => ?_) (AllReady.nil)))
              · go_simp
                refine hK _ _ ?_
                clear hK K
                try simp only [Go.Act.put, List.setIfInBounds_toArray, List.set_cons_zero, List.set_cons_succ]
                refine wpAny_ready (rs := [4]) (by kernel_rfl) (by simp) (AllReady.cons rfl (fun K hK => ?_) (AllReady.nil))
                go_simp
                refine hK _ _ ?_
                clear hK K
                try simp only [Go.Act.put, List.setIfInBounds_toArray, List.set_cons_zero, List.set_cons_succ]
                refine wpAny_ready (rs := [5]) (by kernel_rfl) (by simp) (AllReady.cons rfl (fun K hK => ?_) (AllReady.nil))
                refine step_append_json rfl _ _ rfl (w.heap.size + 2) (by simp at hsz1 ⊢; omega) lv acc.length cs.flatten [x0, x1, x2, x3, x4, x5] ⟨w5.heap.size, 0, none⟩ 1 (by rfl) (by rfl) (HO5.out.ownL.alloc _) HO5.out.js.flat (by omega) rfl HJ1.out.one (six_news w5 _ _ _ _ _ _) ?_
                intro lv' w6 hown hgrow hnew
                obtain ⟨la, lc, rfl⟩ := own_slice hown
                have HO6 := Lib.hid (HST.out _ _ _ hgrow hnew hown)
                have HJ2 := HJW.out _ _ hgrow
                have hfz := HJ2.fz 4
                have hc4 := HJ2.c4
                clear hown hgrow hnew HST HJ2 HJW
                refine hK _ _ ?_
                clear hK K
                try simp only [Go.Act.put, List.setIfInBounds_toArray, List.set_cons_zero, List.set_cons_succ]
                refine wpAny_take (i := 6) (v := ?_) rfl (by kernel_rfl) (by kernel_rfl) (by kernel_rfl) (fun _ _ _ h => h) (Or.inl ⟨by rfl, fun w => ?_⟩) ?_
                rotate_left
                · go_simp
                  try with_reducible rfl
                try simp only [Go.Act.put, List.setIfInBounds_toArray, List.set_cons_zero, List.set_cons_succ]
                refine wpAny_ready (rs := [7]) (by kernel_rfl) (by simp) (AllReady.cons rfl (fun K hK => ?_) (AllReady.nil))
                go_simp
                refine hK _ _ ?_
                clear hK K
                try simp only [Go.Act.put, List.setIfInBounds_toArray, List.set_cons_zero, List.set_cons_succ]
                refine wpAny_done (by kernel_rfl) ?_ _
                have HP3 := Lib.hid HO6.out.pat
                generalize w6.setCell ⟨w.heap.size + 1, 4, none⟩ (.slice la (acc.length + 1) lc) = w7 at *
                clear hfz hc4 B4 B4b b4
                by_cases h93 : pk s.data.toList k2 = 125
                · obtain rfl : R = .ok (jObj (ks ++ [⟨bs.toArray⟩]) (acc ++ [j]), k2 + 1) := by rw [HLA.out, if_pos (by rw [show ([125] : List UInt8) = [UInt8.ofNat 125] from rfl, wordAt_one (by omega) (by omega)]; simpa using h93)]
                  have hk3 : k2 + 1 ≤ s.size := by obtain ⟨_, _, _, h⟩ := pk_some h93 (by omega); rw [HL.out] at h; omega
                  have HC := Lib.hid h93
                  clear h93
                  go_wp2_with (go_at_call 81; refine (jcloses_yes pb s 125 k2 d _ HP3.out hks hs hd HC.out).mono ?_; rintro e w8 ⟨rfl, hp, hf⟩; have HP4 := Lib.hid hp; have HF4 := Lib.hid hf; clear hp hf
                               have HB2 := Lib.hid (HO6.out.jb.frm HF4.out (by unfold One; omega))
                               have HR2 := Lib.hid (HO6.out.rb.frm HF4.out (by unfold One; omega))
                               have b0 := HB2.out.c0; have b1 := HB2.out.c1; have b2 := HB2.out.c2; have b3 := HB2.out.c3; have b4 := HB2.out.c4; have b5 := HB2.out.c5
                               have r0 := HR2.out.c0; have r1 := HR2.out.c1; have r2 := HR2.out.c2; have r3 := HR2.out.c3; have r4 := HR2.out.c4; have r5 := HR2.out.c5
                               have z0 := HR2.out.fz 0; have z1 := HR2.out.fz 1; have z2 := HR2.out.fz 2; have z3 := HR2.out.fz 3; have z4 := HR2.out.fz 4; have z5 := HR2.out.fz 5)
                  have hv := HR2.out.fill (.int .i64 5) (.bool false) (.int .i64 0) (.string ⟨#[]⟩) (.slice la (acc.length + 1) lc) (.slice ka (ks.length + 1) kc)
                  have hfv := frm_fill6 w8 w.heap.size (.int .i64 5) (.bool false) (.int .i64 0) (.string ⟨#[]⟩) (.slice la (acc.length + 1) lc) (.slice ka (ks.length + 1) kc)
                  change bodyPost _ _ _ _ _ (Fill6 w8 w.heap.size (.int .i64 5) (.bool false) (.int .i64 0) (.string ⟨#[]⟩) (.slice la (acc.length + 1) lc) (.slice ka (ks.length + 1) kc))
                  generalize Fill6 w8 w.heap.size (.int .i64 5) (.bool false) (.int .i64 0) (.string ⟨#[]⟩) (.slice la (acc.length + 1) lc) (.slice ka (ks.length + 1) kc) = v at *
                  refine bodyPost_ret (v := .agg #[.int .i64 5, .bool false, .int .i64 0, .string ⟨#[]⟩, .slice la (acc.length + 1) lc, .slice ka (ks.length + 1) kc]) (by simp [results, Tryd.results70, go_sem, hv.c0, hv.c1, hv.c2, hv.c3, hv.c4, hv.c5]) rfl ?_
                  have hfin := HO6.out.fin hlt HF4.out hfv
                  exact ⟨_, rfl, by omega, hk3, HP4.out.frm hfv (by unfold One; omega), hfin.2, hfin.1⟩
                have HLA2 := HLA.out
                rw [if_neg (by rw [show ([125] : List UInt8) = [UInt8.ofNat 125] from rfl, wordAt_one (by omega) (by omega)]; simpa using h93)] at HLA2
                have HC := Lib.hid h93
                clear h93 HLA
                cases h44 : wordAt [44] s.data.toList k2 with
                | true =>
                  rw [h44, if_pos rfl] at HLA2
                  have HLA := Lib.hid HLA2
                  have hk3 : k2 + 1 ≤ s.size := by rw [show ([44] : List UInt8) = [UInt8.ofNat 44] from rfl, wordAt_one (by omega) (by omega)] at h44; obtain ⟨_, _, _, h⟩ := pk_some (of_decide_eq_true h44) (by omega); rw [HL.out] at h; omega
                  have HW4 := Lib.hid h44
                  clear h44 HLA2
                  go_wp2_with (first
                    | (go_at_call 81; refine (jcloses_no pb s 125 k2 (d + 1) _ HP3.out hs HC.out).mono ?_; rintro e w8 ⟨rfl, hp, hf⟩; have HO7 := Lib.hid (HO6.out.pass hlt hf hp); clear hp hf)
                    | (go_at_call 72; refine (jexpect_yes pb s ⟨#[44]⟩ k2 (d + 1) _ HO7.out.pat hs hks (by decide) HW4.out).mono ?_; rintro e w9 ⟨rfl, hp, hf⟩; have HO8 := Lib.hid (HO7.out.pass hlt hf hp); clear hp hf))
                  go_roundg g
                  case rel => exact ⟨k2 + 1, ks ++ [ByteArray.mk bs.toArray], acc ++ [j], cs ++ [[x0, x1, x2, x3, x4, x5]], _, _, hk3, by omega, by omega, HLA.out.symm, by simp; omega, by simp [HKL.out], HO8.out⟩
                  case measure => omega
                | false =>
                  obtain rfl : R = .error 300 := by rw [HLA2, h44]; rfl
                  have HW4 := Lib.hid h44
                  clear h44 HLA2
                  go_wp2_with (first
                    | (go_at_call 81; refine (jcloses_no pb s 125 k2 (d + 1) _ HP3.out hs HC.out).mono ?_; rintro e w8 ⟨rfl, hp, hf⟩; have HO7 := Lib.hid (HO6.out.pass hlt hf hp); clear hp hf)
                    | (go_at_call 72; refine (jexpect_no pb s ⟨#[44]⟩ k2 (d + 1) _ HO7.out.pat hs hks (by decide) HW4.out).mono ?_; rintro e w9 ⟨rfl, hf⟩; unfold thrown; have HF5 := Lib.hid hf; clear hf))
                  exact ⟨rfl, rfl, HO7.out.frm.trans HF5.out⟩
              · go_simp
                refine hK _ _ ?_
                clear hK K
                try simp only [Go.Act.put, List.setIfInBounds_toArray, List.set_cons_zero, List.set_cons_succ]
                refine wpAny_ready (rs := [1]) (by kernel_rfl) (by simp) (AllReady.cons rfl (fun K hK => ?_) (AllReady.nil))
                go_simp
                refine hK _ _ ?_
                clear hK K
                try simp only [Go.Act.put, List.setIfInBounds_toArray, List.set_cons_zero, List.set_cons_succ]
                refine wpAny_ready (rs := [5]) (by kernel_rfl) (by simp) (AllReady.cons rfl (fun K hK => ?_) (AllReady.nil))
                refine step_append_json rfl _ _ rfl (w.heap.size + 2) (by simp at hsz1 ⊢; omega) lv acc.length cs.flatten [x0, x1, x2, x3, x4, x5] ⟨w5.heap.size, 0, none⟩ 1 (by rfl) (by rfl) (HO5.out.ownL.alloc _) HO5.out.js.flat (by omega) rfl HJ1.out.one (six_news w5 _ _ _ _ _ _) ?_
                intro lv' w6 hown hgrow hnew
                obtain ⟨la, lc, rfl⟩ := own_slice hown
                have HO6 := Lib.hid (HST.out _ _ _ hgrow hnew hown)
                have HJ2 := HJW.out _ _ hgrow
                have hfz := HJ2.fz 4
                have hc4 := HJ2.c4
                clear hown hgrow hnew HST HJ2 HJW
                refine hK _ _ ?_
                clear hK K
                try simp only [Go.Act.put, List.setIfInBounds_toArray, List.set_cons_zero, List.set_cons_succ]
                refine wpAny_take (i := 6) (v := ?_) rfl (by kernel_rfl) (by kernel_rfl) (by kernel_rfl) (fun _ _ _ h => h) (Or.inl ⟨by rfl, fun w => ?_⟩) ?_
                rotate_left
                · go_simp
                  try with_reducible rfl
                try simp only [Go.Act.put, List.setIfInBounds_toArray, List.set_cons_zero, List.set_cons_succ]
                refine wpAny_ready (rs := [7]) (by kernel_rfl) (by simp) (AllReady.cons rfl (fun K hK => ?_) (AllReady.nil))
                go_simp
                refine hK _ _ ?_
                clear hK K
                try simp only [Go.Act.put, List.setIfInBounds_toArray, List.set_cons_zero, List.set_cons_succ]
                refine wpAny_done (by kernel_rfl) ?_ _
                have HP3 := Lib.hid HO6.out.pat
                generalize w6.setCell ⟨w.heap.size + 1, 4, none⟩ (.slice la (acc.length + 1) lc) = w7 at *
                clear hfz hc4 B4 B4b b4
                by_cases h93 : pk s.data.toList k2 = 125
                · obtain rfl : R = .ok (jObj (ks ++ [⟨bs.toArray⟩]) (acc ++ [j]), k2 + 1) := by rw [HLA.out, if_pos (by rw [show ([125] : List UInt8) = [UInt8.ofNat 125] from rfl, wordAt_one (by omega) (by omega)]; simpa using h93)]
                  have hk3 : k2 + 1 ≤ s.size := by obtain ⟨_, _, _, h⟩ := pk_some h93 (by omega); rw [HL.out] at h; omega
                  have HC := Lib.hid h93
                  clear h93
                  go_wp2_with (go_at_call 81; refine (jcloses_yes pb s 125 k2 d _ HP3.out hks hs hd HC.out).mono ?_; rintro e w8 ⟨rfl, hp, hf⟩; have HP4 := Lib.hid hp; have HF4 := Lib.hid hf; clear hp hf
                               have HB2 := Lib.hid (HO6.out.jb.frm HF4.out (by unfold One; omega))
                               have HR2 := Lib.hid (HO6.out.rb.frm HF4.out (by unfold One; omega))
                               have b0 := HB2.out.c0; have b1 := HB2.out.c1; have b2 := HB2.out.c2; have b3 := HB2.out.c3; have b4 := HB2.out.c4; have b5 := HB2.out.c5
                               have r0 := HR2.out.c0; have r1 := HR2.out.c1; have r2 := HR2.out.c2; have r3 := HR2.out.c3; have r4 := HR2.out.c4; have r5 := HR2.out.c5
                               have z0 := HR2.out.fz 0; have z1 := HR2.out.fz 1; have z2 := HR2.out.fz 2; have z3 := HR2.out.fz 3; have z4 := HR2.out.fz 4; have z5 := HR2.out.fz 5)
                  have hv := HR2.out.fill (.int .i64 5) (.bool false) (.int .i64 0) (.string ⟨#[]⟩) (.slice la (acc.length + 1) lc) (.slice ka (ks.length + 1) kc)
                  have hfv := frm_fill6 w8 w.heap.size (.int .i64 5) (.bool false) (.int .i64 0) (.string ⟨#[]⟩) (.slice la (acc.length + 1) lc) (.slice ka (ks.length + 1) kc)
                  change bodyPost _ _ _ _ _ (Fill6 w8 w.heap.size (.int .i64 5) (.bool false) (.int .i64 0) (.string ⟨#[]⟩) (.slice la (acc.length + 1) lc) (.slice ka (ks.length + 1) kc))
                  generalize Fill6 w8 w.heap.size (.int .i64 5) (.bool false) (.int .i64 0) (.string ⟨#[]⟩) (.slice la (acc.length + 1) lc) (.slice ka (ks.length + 1) kc) = v at *
                  refine bodyPost_ret (v := .agg #[.int .i64 5, .bool false, .int .i64 0, .string ⟨#[]⟩, .slice la (acc.length + 1) lc, .slice ka (ks.length + 1) kc]) (by simp [results, Tryd.results70, go_sem, hv.c0, hv.c1, hv.c2, hv.c3, hv.c4, hv.c5]) rfl ?_
                  have hfin := HO6.out.fin hlt HF4.out hfv
                  exact ⟨_, rfl, by omega, hk3, HP4.out.frm hfv (by unfold One; omega), hfin.2, hfin.1⟩
                have HLA2 := HLA.out
                rw [if_neg (by rw [show ([125] : List UInt8) = [UInt8.ofNat 125] from rfl, wordAt_one (by omega) (by omega)]; simpa using h93)] at HLA2
                have HC := Lib.hid h93
                clear h93 HLA
                cases h44 : wordAt [44] s.data.toList k2 with
                | true =>
                  rw [h44, if_pos rfl] at HLA2
                  have HLA := Lib.hid HLA2
                  have hk3 : k2 + 1 ≤ s.size := by rw [show ([44] : List UInt8) = [UInt8.ofNat 44] from rfl, wordAt_one (by omega) (by omega)] at h44; obtain ⟨_, _, _, h⟩ := pk_some (of_decide_eq_true h44) (by omega); rw [HL.out] at h; omega
                  have HW4 := Lib.hid h44
                  clear h44 HLA2
                  go_wp2_with (first
                    | (go_at_call 81; refine (jcloses_no pb s 125 k2 (d + 1) _ HP3.out hs HC.out).mono ?_; rintro e w8 ⟨rfl, hp, hf⟩; have HO7 := Lib.hid (HO6.out.pass hlt hf hp); clear hp hf)
                    | (go_at_call 72; refine (jexpect_yes pb s ⟨#[44]⟩ k2 (d + 1) _ HO7.out.pat hs hks (by decide) HW4.out).mono ?_; rintro e w9 ⟨rfl, hp, hf⟩; have HO8 := Lib.hid (HO7.out.pass hlt hf hp); clear hp hf))
                  go_roundg g
                  case rel => exact ⟨k2 + 1, ks ++ [ByteArray.mk bs.toArray], acc ++ [j], cs ++ [[x0, x1, x2, x3, x4, x5]], _, _, hk3, by omega, by omega, HLA.out.symm, by simp; omega, by simp [HKL.out], HO8.out⟩
                  case measure => omega
                | false =>
                  obtain rfl : R = .error 300 := by rw [HLA2, h44]; rfl
                  have HW4 := Lib.hid h44
                  clear h44 HLA2
                  go_wp2_with (first
                    | (go_at_call 81; refine (jcloses_no pb s 125 k2 (d + 1) _ HP3.out hs HC.out).mono ?_; rintro e w8 ⟨rfl, hp, hf⟩; have HO7 := Lib.hid (HO6.out.pass hlt hf hp); clear hp hf)
                    | (go_at_call 72; refine (jexpect_no pb s ⟨#[44]⟩ k2 (d + 1) _ HO7.out.pat hs hks (by decide) HW4.out).mono ?_; rintro e w9 ⟨rfl, hf⟩; unfold thrown; have HF5 := Lib.hid hf; clear hf))
                  exact ⟨rfl, rfl, HO7.out.frm.trans HF5.out⟩
end Go.Proofs.YtcobadgpelhcoaaDoor
