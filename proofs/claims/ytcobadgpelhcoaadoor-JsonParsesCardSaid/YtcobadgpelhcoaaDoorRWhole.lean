/- The document's parser: objects. The document's parser: objects. The document's parser: any value, at any depth. The document's parser, whole. -/
import Derived.Test.YtcobadgpelhcoaaDoorRLists
import Derived.Test.YtcobadgpelhcoaaDoorEPrinter
import Derived.Test.YtcobadgpelhcoaaDoorDParse
namespace Go.Proofs.YtcobadgpelhcoaaDoor
open Go.Conc Go.RowKit
set_option linter.unusedVariables false
set_option linter.unusedSimpArgs false

set_option maxHeartbeats 8000000 in
set_option maxRecDepth 100000 in
theorem pobj_none (pb : Nat) (s : ByteArray) (i : Nat) (deep : Int) (w : World) (h : PAt w pb s i 0) (hs : s.size ≤ 65536) (hi : i < s.size) (hd : 16 < deep) :
    Calls Tryd.prog 37 #[.pointer (some ⟨pb, 0, none⟩), .int .i64 deep] w (PV pb s (.error 301) w) := by
  have hlt := h.lt
  have hne : w.heap.size ≠ pb := by omega
  have HA := Lib.hid (rat_new 5 h)
  clear h
  have g0 : decide (deep > 16) = true := by simpa using hd
  have g1 : decide (16 < deep) = true := by simpa using hd
  go_enter Tryd.func37, Tryd.ntmps37
  go_upto_region 2 with fail
  generalize (w.alloc (.cells #[.int .i64 0, .bool false, .int .i64 0, .string ⟨#[]⟩, .slice none 0 0, .slice none 0 0] 25)).alloc (.cells #[.int .i64 5, .bool false, .int .i64 0, .string ⟨#[]⟩, .slice none 0 0, .slice none 0 0] 25) = wa at *
  go_wp2_with (go_at_call 24; refine (pfail_any pb s i 0 301 _ HA.out.pat).mono ?_; rintro e w1 ⟨rfl, p1, f1⟩; rw [if_pos rfl] at p1; have HX := Lib.hid (HA.out.pass hlt f1 p1); clear p1 f1; have b0 := HX.out.jb.c0; have b1 := HX.out.jb.c1; have b2 := HX.out.jb.c2; have b3 := HX.out.jb.c3; have b4 := HX.out.jb.c4; have b5 := HX.out.jb.c5; have r0 := HX.out.rb.c0; have r1 := HX.out.rb.c1; have r2 := HX.out.rb.c2; have r3 := HX.out.rb.c3; have r4 := HX.out.rb.c4; have r5 := HX.out.rb.c5; have z0 := HX.out.rb.fz 0; have z1 := HX.out.rb.fz 1; have z2 := HX.out.rb.fz 2; have z3 := HX.out.rb.fz 3; have z4 := HX.out.rb.fz 4; have z5 := HX.out.rb.fz 5)
  have hv := HX.out.rb.fill (.int .i64 5) (.bool false) (.int .i64 0) (.string ⟨#[]⟩) (.slice none 0 0) (.slice none 0 0)
  change bodyPost _ _ _ _ _ (Fill6 w1 w.heap.size (.int .i64 5) (.bool false) (.int .i64 0) (.string ⟨#[]⟩) (.slice none 0 0) (.slice none 0 0))
  have hfin := pv_fin (r := (.error 301)) 5 false 0 ⟨#[]⟩ none 0 0 none 0 0 HX.out.rb HX.out.pat HX.out.frm (Nat.le_of_lt hi) (Nat.le_refl _) hne ⟨rfl, .inr rfl⟩
  generalize Fill6 w1 w.heap.size (.int .i64 5) (.bool false) (.int .i64 0) (.string ⟨#[]⟩) (.slice none 0 0) (.slice none 0 0) = v at *
  exact bodyPost_ret (v := .agg #[.int .i64 5, .bool false, .int .i64 0, .string ⟨#[]⟩, .slice none 0 0, .slice none 0 0]) (by simp [results, Tryd.results37, go_sem, hv.c0, hv.c1, hv.c2, hv.c3, hv.c4, hv.c5]) rfl hfin

set_option maxHeartbeats 8000000 in
set_option maxRecDepth 100000 in
theorem pobj_empty (pb : Nat) (s : ByteArray) (i : Nat) (deep : Int) (w : World) (h : PAt w pb s i 0) (hs : s.size ≤ 65536) (hi : i < s.size) (hd : deep ≤ 16) (hw : wordAt [125] s.data.toList (skipW s.data.toList (i + 1)) = true) :
    Calls Tryd.prog 37 #[.pointer (some ⟨pb, 0, none⟩), .int .i64 deep] w (PV pb s (.ok (jObj [] [], skipW s.data.toList (i + 1) + 1)) w) := by
  have HL := Lib.hid (show s.data.toList.length = s.size by simp)
  have hd2 : deep ≤ 16 := hd
  have g0 : decide (deep > 16) = false := by simp; omega
  have g1 : decide (16 < deep) = false := by simp; omega
  have hk0 : skipW s.data.toList (i + 1) ≤ s.size := by have := skipW_le s.data.toList (i + 1) (by rw [HL.out]; omega); rw [HL.out] at this; exact this
  have hk0i := skipW_ge s.data.toList (i + 1)
  have hk1 : skipW s.data.toList (i + 1) + 1 ≤ s.size := ((wordAt_iff s ⟨#[125]⟩ _ hk0).1 hw).1
  generalize hk : skipW s.data.toList (i + 1) = k0 at *
  have TW : Hid (∀ u, PAt u pb s k0 0 → Calls Tryd.prog 34 #[.pointer (some ⟨pb, 0, none⟩), .string ⟨#[125]⟩] u (PTold pb s (k0 + 1) 0 (.bool true) u)) := by
    intro u hu
    have := pword_any pb s ⟨#[125]⟩ k0 0 u hu (by omega) hs (by decide)
    rw [show (ByteArray.mk #[125]).data.toList = [125] from rfl, hw] at this
    exact this
  have hlt := h.lt
  have hne : w.heap.size ≠ pb := by omega
  have HA := Lib.hid (rat_new 5 h)
  clear h
  have HK := Lib.hid hk
  clear hk
  go_enter Tryd.func37, Tryd.ntmps37
  go_upto_region 2 with fail
  generalize (w.alloc (.cells #[.int .i64 0, .bool false, .int .i64 0, .string ⟨#[]⟩, .slice none 0 0, .slice none 0 0] 25)).alloc (.cells #[.int .i64 5, .bool false, .int .i64 0, .string ⟨#[]⟩, .slice none 0 0, .slice none 0 0] 25) = wa at *
  have c0 := HA.out.pat.c0; have c1 := HA.out.pat.c1; have c2 := HA.out.pat.c2; have q1 := HA.out.pat.fz 1; have q2 := HA.out.pat.fz 2
  go_wp2_with (first
    | (have hx := HX2.out; clear hx; go_at_call 34; refine (TW.out _ HX2.out.pat).mono ?_; rintro e w3 ⟨rfl, p1, f1⟩; have HX3 := Lib.hid (HX2.out.pass hlt f1 p1); clear p1 f1; have b0 := HX3.out.jb.c0; have b1 := HX3.out.jb.c1; have b2 := HX3.out.jb.c2; have b3 := HX3.out.jb.c3; have b4 := HX3.out.jb.c4; have b5 := HX3.out.jb.c5; have r0 := HX3.out.rb.c0; have r1 := HX3.out.rb.c1; have r2 := HX3.out.rb.c2; have r3 := HX3.out.rb.c3; have r4 := HX3.out.rb.c4; have r5 := HX3.out.rb.c5; have z0 := HX3.out.rb.fz 0; have z1 := HX3.out.rb.fz 1; have z2 := HX3.out.rb.fz 2; have z3 := HX3.out.rb.fz 3; have z4 := HX3.out.rb.fz 4; have z5 := HX3.out.rb.fz 5)
    | (go_at_call 22; have HX1 := Lib.hid ((HA.out.pass hlt (frm_at _ _ _ _) (HA.out.pat.setAt (i + 1)))); refine (pwhite_any pb s (i + 1) 0 _ HX1.out.pat (by omega) hs).mono ?_; rintro e w2 ⟨rfl, p1, f1⟩; rw [HK.out] at p1; have HX2 := Lib.hid (HX1.out.pass hlt f1 p1); clear p1 f1))
  have hv := HX3.out.rb.fill (.int .i64 5) (.bool false) (.int .i64 0) (.string ⟨#[]⟩) (.slice none 0 0) (.slice none 0 0)
  change bodyPost _ _ _ _ _ (Fill6 w3 w.heap.size (.int .i64 5) (.bool false) (.int .i64 0) (.string ⟨#[]⟩) (.slice none 0 0) (.slice none 0 0))
  have hfin := pv_fin (r := (.ok (jObj [] [], k0 + 1))) 5 false 0 ⟨#[]⟩ none 0 0 none 0 0 HX3.out.rb HX3.out.pat HX3.out.frm hk1 (Nat.le_refl _) hne ⟨rfl, rfl, HX3.out.val (acc := []) (ks := []) (cs := []) (JsIn.nil _ _)⟩
  generalize Fill6 w3 w.heap.size (.int .i64 5) (.bool false) (.int .i64 0) (.string ⟨#[]⟩) (.slice none 0 0) (.slice none 0 0) = v at *
  exact bodyPost_ret (v := .agg #[.int .i64 5, .bool false, .int .i64 0, .string ⟨#[]⟩, .slice none 0 0, .slice none 0 0]) (by simp [results, Tryd.results37, go_sem, hv.c0, hv.c1, hv.c2, hv.c3, hv.c4, hv.c5]) rfl hfin
theorem objAt_text {l : List UInt8} {f : Nat → Rd J} {g i : Nat} {ks : List ByteArray} {acc : List J} {x : Int} (h : l[skipW l i]? = some 34) (ht : textOf l (skipW l i) = .error x) : objAt l f (g + 1) i ks acc = .error x := by
  unfold objAt; rw [if_pos h, ht]
theorem objAt_no {l : List UInt8} {f : Nat → Rd J} {g i : Nat} {ks : List ByteArray} {acc : List J} (h : ¬ l[skipW l i]? = some 34) : objAt l f (g + 1) i ks acc = .error 300 := by
  unfold objAt; rw [if_neg h]
theorem objAt_dup {l : List UInt8} {f : Nat → Rd J} {g i i2 : Nat} {ks : List ByteArray} {acc : List J} {t : ByteArray} (h : l[skipW l i]? = some 34) (ht : textOf l (skipW l i) = .ok (t.data.toList, i2)) {j : Nat} (hj : j < ks.length) (he : ks[j] = t) : objAt l f (g + 1) i ks acc = .error 300 := by
  unfold objAt; rw [if_pos h, ht]
  dsimp only
  rw [if_pos]
  rw [List.any_eq_true]
  exact ⟨ks[j], List.getElem_mem hj, by rw [he]; simp⟩
theorem objAt_go {l : List UInt8} {f : Nat → Rd J} {g i i2 : Nat} {ks : List ByteArray} {acc : List J} {t : ByteArray} (h : l[skipW l i]? = some 34) (ht : textOf l (skipW l i) = .ok (t.data.toList, i2)) (hn : ∀ j (hj : j < ks.length), ks[j] ≠ t) : objAt l f (g + 1) i ks acc =
    if wordAt [58] l (skipW l i2) then
      match f (skipW l (skipW l i2 + 1)) with
      | .error e => .error e
      | .ok (j, i3) =>
        if wordAt [125] l (skipW l i3) then .ok (jObj (ks ++ [t]) (acc ++ [j]), skipW l i3 + 1)
        else if wordAt [44] l (skipW l i3) then objAt l f g (skipW l i3 + 1) (ks ++ [t]) (acc ++ [j])
        else .error 300
    else .error 300 := by
  have hany : ¬ (ks.any (fun q => q.data.toList == t.data.toList)) = true := by
    rw [List.any_eq_true]
    rintro ⟨q, hq, he⟩
    obtain ⟨j, hj, rfl⟩ := List.mem_iff_getElem.1 hq
    refine hn j hj ?_
    have h2 : (ks[j]).data.toList = t.data.toList := by simpa using he
    have h3 : (ks[j]).data = t.data := by rw [← Array.toArray_toList (xs := (ks[j]).data), h2, Array.toArray_toList]
    exact ByteArray.ext h3
  have e : (⟨t.data.toList.toArray⟩ : ByteArray) = t := rfl
  conv => lhs; unfold objAt
  rw [if_pos h, ht]
  dsimp only
  rw [if_neg hany, e]
  rfl
theorem str_news (w : World) (t : ByteArray) : ∀ (j : Nat) (u : Value), [Value.string t][j]? = some u → (w.alloc (.cells #[.string t] 9)).cell? ((⟨w.heap.size, 0, none⟩ : Addr).add j) = some u := by
  intro j u h
  have hj : j = 0 := by have := (List.getElem?_eq_some_iff.1 h).1; simpa using this
  subst hj
  simp only [List.getElem?_cons_zero, Option.some.injEq] at h
  subst h
  have hb : (w.alloc (.cells #[.string t] 9)).heap[w.heap.size]? = some (.cells #[.string t] 9 (0, 0)) := heap_alloc_new w _
  have := cell_of_row (w.alloc (.cells #[.string t] 9)) w.heap.size 0 _ _ _ hb
  have e : (⟨w.heap.size, 0, none⟩ : Addr).add 0 = ⟨w.heap.size, 0, none⟩ := by unfold Addr.add; simp
  rw [e, this]; rfl
theorem one_str (t : ByteArray) : ∀ u ∈ ([.string t] : List Value), u.oneCell' = true := by
  intro u hu; simp only [List.mem_cons, List.not_mem_nil, or_false] at hu; subst hu; rfl
theorem map_snoc (ks : List ByteArray) (t : ByteArray) : ks.map Value.string ++ [.string t] = (ks ++ [t]).map Value.string := by simp
/-- The loop of an object goes on, or it has failed. -/
def PLo (pb : Nat) (s : ByteArray) (f : Nat → Rd J) (R : Rd J) (w : World) (g : Nat) (wr : World) : Prop :=
  (∃ (k : Nat) (ks : List ByteArray) (acc : List J) (cs : List (List Value)) (la : Option Addr) (lc : Nat) (ka : Option Addr) (kc : Nat), k ≤ s.size ∧ s.size + 1 ≤ k + g ∧ Hid (objAt s.data.toList f g k ks acc = R) ∧ acc.length ≤ k ∧ ks.length = acc.length ∧
    RAt pb s 5 w wr k 0 acc.length ks.length cs.flatten (ks.map Value.string) (.slice la acc.length lc) (.slice ka ks.length kc) ∧ JsIn (RF w (.slice la acc.length lc) (.slice ka ks.length kc)) wr acc cs)
  ∨ RFail pb s 5 R w wr

end Go.Proofs.YtcobadgpelhcoaaDoor

namespace Go.Proofs.YtcobadgpelhcoaaDoor
open Go.Conc Go.RowKit
set_option linter.unusedVariables false
set_option linter.unusedSimpArgs false

set_option maxHeartbeats 8000000 in
set_option maxRecDepth 100000 in
theorem pobj_some (pb : Nat) (s : ByteArray) (i : Nat) (deep : Int) (w : World) (h : PAt w pb s i 0) (hs : s.size ≤ 65536) (hi : i < s.size) (f : Nat → Rd J) (hd : deep ≤ 16) (hd0 : 0 ≤ deep) (HS : ∀ k u, PAt u pb s k 0 → k ≤ s.size → Calls Tryd.prog 23 #[.pointer (some ⟨pb, 0, none⟩), .int .i64 deep] u (PV pb s (f k) u)) (hf : ∀ k j k2, f k = .ok (j, k2) → k ≤ k2) (hw : wordAt [125] s.data.toList (skipW s.data.toList (i + 1)) = false) :
    Calls Tryd.prog 37 #[.pointer (some ⟨pb, 0, none⟩), .int .i64 deep] w (PV pb s (objAt s.data.toList f (s.size + 1) (skipW s.data.toList (i + 1)) [] []) w) := by
  have HL := Lib.hid (show s.data.toList.length = s.size by simp)
  have hd2 : deep ≤ 16 := hd
  have g0 : decide (deep > 16) = false := by simp; omega
  have g1 : decide (16 < deep) = false := by simp; omega
  have hk0 : skipW s.data.toList (i + 1) ≤ s.size := by have := skipW_le s.data.toList (i + 1) (by rw [HL.out]; omega); rw [HL.out] at this; exact this
  have hk0i := skipW_ge s.data.toList (i + 1)
  generalize hk : skipW s.data.toList (i + 1) = k0 at *
  have TW : Hid (∀ u, PAt u pb s k0 0 → Calls Tryd.prog 34 #[.pointer (some ⟨pb, 0, none⟩), .string ⟨#[125]⟩] u (PTold pb s k0 0 (.bool false) u)) := by
    intro u hu
    have := pword_any pb s ⟨#[125]⟩ k0 0 u hu (by omega) hs (by decide)
    rw [show (ByteArray.mk #[125]).data.toList = [125] from rfl, hw] at this
    exact this
  have hlt := h.lt
  have hne : w.heap.size ≠ pb := by omega
  have HA := Lib.hid (rat_new 5 h)
  clear h
  have HK := Lib.hid hk
  have HSS := Lib.hid HS
  have HFf := Lib.hid hf
  clear hk HS hw hf
  generalize hR : objAt s.data.toList f (s.size + 1) k0 [] [] = R
  have HR := Lib.hid hR
  clear hR
  go_enter Tryd.func37, Tryd.ntmps37
  go_upto_region 2 with fail
  generalize (w.alloc (.cells #[.int .i64 0, .bool false, .int .i64 0, .string ⟨#[]⟩, .slice none 0 0, .slice none 0 0] 25)).alloc (.cells #[.int .i64 5, .bool false, .int .i64 0, .string ⟨#[]⟩, .slice none 0 0, .slice none 0 0] 25) = wa at *
  have c0 := HA.out.pat.c0; have c1 := HA.out.pat.c1; have c2 := HA.out.pat.c2; have q1 := HA.out.pat.fz 1; have q2 := HA.out.pat.fz 2
  go_wp2_with (first
    | (have hx := HX2.out; clear hx; go_at_call 34; refine (TW.out _ HX2.out.pat).mono ?_; rintro e w3 ⟨rfl, p1, f1⟩; have HX3 := Lib.hid (HX2.out.pass hlt f1 p1); clear p1 f1)
    | (go_at_call 22; have HX1 := Lib.hid ((HA.out.pass hlt (frm_at _ _ _ _) (HA.out.pat.setAt (i + 1)))); refine (pwhite_any pb s (i + 1) 0 _ HX1.out.pat (by omega) hs).mono ?_; rintro e w2 ⟨rfl, p1, f1⟩; rw [HK.out] at p1; have HX2 := Lib.hid (HX1.out.pass hlt f1 p1); clear p1 f1))
  go_loopg [] (s.size + 1) (fun g wr => PLo pb s f R w g wr)
  case atStart => exact .inl ⟨k0, [], [], [], none, 0, none, 0, hk0, by omega, HR.out, by simp, rfl, HX3.out, JsIn.nil _ _⟩
  case round =>
    clear HX1 HX2 HX3 HA TW HK HR c0 c1 c2 q1 q2
    rcases hrel with ⟨k, ks, acc, cs, la0, lc0, ka0, kc0, hk, hkg, hla, hacc, hka, hx, hj⟩ | ⟨k, c, n1, n2, xs, ys, la, nl, lc, ka, nk, kc, hk, hc, rfl, hx⟩
    rotate_left
    · have HX := Lib.hid hx
      have gc : (c == 0) = false := by simp; omega
      clear hx
      have c2 := HX.out.pat.c2
      have b0 := HX.out.jb.c0; have b1 := HX.out.jb.c1; have b2 := HX.out.jb.c2; have b3 := HX.out.jb.c3; have b4 := HX.out.jb.c4; have b5 := HX.out.jb.c5; have r0 := HX.out.rb.c0; have r1 := HX.out.rb.c1; have r2 := HX.out.rb.c2; have r3 := HX.out.rb.c3; have r4 := HX.out.rb.c4; have r5 := HX.out.rb.c5; have z0 := HX.out.rb.fz 0; have z1 := HX.out.rb.fz 1; have z2 := HX.out.rb.fz 2; have z3 := HX.out.rb.fz 3; have z4 := HX.out.rb.fz 4; have z5 := HX.out.rb.fz 5
      go_wp2
      have hv := HX.out.rb.fill (.int .i64 5) (.bool false) (.int .i64 0) (.string ⟨#[]⟩) (.slice la nl lc) (.slice ka nk kc)
      change bodyPost _ _ _ _ _ (Fill6 wr w.heap.size (.int .i64 5) (.bool false) (.int .i64 0) (.string ⟨#[]⟩) (.slice la nl lc) (.slice ka nk kc))
      have hfin := pv_fin (r := (.error c)) 5 false 0 ⟨#[]⟩ la nl lc ka nk kc HX.out.rb HX.out.pat HX.out.frm hk (Nat.le_refl _) hne ⟨rfl, hc⟩
      generalize Fill6 wr w.heap.size (.int .i64 5) (.bool false) (.int .i64 0) (.string ⟨#[]⟩) (.slice la nl lc) (.slice ka nk kc) = v at *
      exact bodyPost_ret (v := .agg #[.int .i64 5, .bool false, .int .i64 0, .string ⟨#[]⟩, .slice la nl lc, .slice ka nk kc]) (by simp [results, Tryd.results37, go_sem, hv.c0, hv.c1, hv.c2, hv.c3, hv.c4, hv.c5]) rfl hfin
    obtain ⟨g, rfl⟩ : ∃ g, gk = g + 1 := ⟨gk - 1, by omega⟩
    obtain ⟨m, hm⟩ : ∃ m, m = ks.length := ⟨_, rfl⟩
    rw [← hm] at hx hj hka
    have HMK := Lib.hid hm
    have HX := Lib.hid hx
    have HJ := Lib.hid hj
    have HLA := Lib.hid hla.out
    have c2 := HX.out.pat.c2
    have hmm : m ≤ 65536 := by omega
    have HKA := Lib.hid hka
    clear hx hj hm hla hka
    obtain ⟨k1, hk1⟩ : ∃ k1, k1 = skipW s.data.toList k := ⟨_, rfl⟩
    have hk1s : k1 ≤ s.size := by rw [hk1]; have := skipW_le s.data.toList k (by rw [HL.out]; omega); rw [HL.out] at this; exact this
    have hk1k : k ≤ k1 := by rw [hk1]; exact skipW_ge _ _
    have HK1 := Lib.hid hk1
    clear hk1
    have g3 : (0 : Int) ≤ (k1 : Int) := by omega
    by_cases h34 : s.data.toList[k1]? = some 34
    rotate_left
    · have hLA := HLA.out
      rw [objAt_no (by rw [← HK1.out]; exact h34)] at hLA
      subst hLA
      by_cases hlt1 : k1 < s.size
      · have hne34 : s[k1].toNat ≠ 34 := by
          intro h
          apply h34
          rw [List.getElem?_eq_getElem (by rw [HL.out]; exact hlt1)]
          exact congrArg some (UInt8.toNat_inj.1 h)
        have gge : decide ((k1 : Int) ≥ (s.size : Int)) = false := by simp; omega
        have gl1 : ¬ (s.size : Int) ≤ (k1 : Int) := by omega
        have gl2 : (k1 : Int) < (s.size : Int) := by omega
        have gc : ((s[k1].toNat : Int) == 34) = false := by simp; omega
        have gn : ((s[k1].toNat : Int) != 34) = true := by simp; omega
        go_wp2_with (go_at_call 22; refine (pwhite_any pb s k 0 _ HX.out.pat hk hs).mono ?_; rintro e w2 ⟨rfl, p1, f1⟩; rw [← HK1.out] at p1; have HX2 := Lib.hid (HX.out.pass hlt f1 p1); have HJ2 := Lib.hid (js_pass HJ.out hlt f1); have c0 := p1.c0; have c1 := p1.c1; clear p1 f1)
        go_quiet (fail)
        go_wp2_with (go_at_call 24; refine (pfail_any pb s k1 0 300 _ (HX2.out.drewN _).pat).mono ?_; rintro e w3 ⟨rfl, p1, f1⟩; rw [if_pos rfl] at p1; have HX3 := Lib.hid ((HX2.out.drewN _).pass hlt f1 p1); clear p1 f1; have b0 := HX3.out.jb.c0; have b1 := HX3.out.jb.c1; have b2 := HX3.out.jb.c2; have b3 := HX3.out.jb.c3; have b4 := HX3.out.jb.c4; have b5 := HX3.out.jb.c5; have r0 := HX3.out.rb.c0; have r1 := HX3.out.rb.c1; have r2 := HX3.out.rb.c2; have r3 := HX3.out.rb.c3; have r4 := HX3.out.rb.c4; have r5 := HX3.out.rb.c5; have z0 := HX3.out.rb.fz 0; have z1 := HX3.out.rb.fz 1; have z2 := HX3.out.rb.fz 2; have z3 := HX3.out.rb.fz 3; have z4 := HX3.out.rb.fz 4; have z5 := HX3.out.rb.fz 5)
        have hv := HX3.out.rb.fill (.int .i64 5) (.bool false) (.int .i64 0) (.string ⟨#[]⟩) (.slice la0 acc.length lc0) (.slice ka0 m kc0)
        change bodyPost _ _ _ _ _ (Fill6 w3 w.heap.size (.int .i64 5) (.bool false) (.int .i64 0) (.string ⟨#[]⟩) (.slice la0 acc.length lc0) (.slice ka0 m kc0))
        have hfin := pv_fin (r := (.error 300)) 5 false 0 ⟨#[]⟩ la0 acc.length lc0 ka0 m kc0 HX3.out.rb HX3.out.pat HX3.out.frm hk1s (Nat.le_refl _) hne ⟨rfl, .inl rfl⟩
        generalize Fill6 w3 w.heap.size (.int .i64 5) (.bool false) (.int .i64 0) (.string ⟨#[]⟩) (.slice la0 acc.length lc0) (.slice ka0 m kc0) = v at *
        exact bodyPost_ret (v := .agg #[.int .i64 5, .bool false, .int .i64 0, .string ⟨#[]⟩, .slice la0 acc.length lc0, .slice ka0 m kc0]) (by simp [results, Tryd.results37, go_sem, hv.c0, hv.c1, hv.c2, hv.c3, hv.c4, hv.c5]) rfl hfin
      · have gge : decide ((k1 : Int) ≥ (s.size : Int)) = true := by simp; omega
        have gl1 : (s.size : Int) ≤ (k1 : Int) := by omega
        go_wp2_with (go_at_call 22; refine (pwhite_any pb s k 0 _ HX.out.pat hk hs).mono ?_; rintro e w2 ⟨rfl, p1, f1⟩; rw [← HK1.out] at p1; have HX2 := Lib.hid (HX.out.pass hlt f1 p1); have HJ2 := Lib.hid (js_pass HJ.out hlt f1); have c0 := p1.c0; have c1 := p1.c1; clear p1 f1)
        go_quiet (fail)
        go_wp2_with (go_at_call 24; refine (pfail_any pb s k1 0 300 _ (HX2.out.drewN _).pat).mono ?_; rintro e w3 ⟨rfl, p1, f1⟩; rw [if_pos rfl] at p1; have HX3 := Lib.hid ((HX2.out.drewN _).pass hlt f1 p1); clear p1 f1; have b0 := HX3.out.jb.c0; have b1 := HX3.out.jb.c1; have b2 := HX3.out.jb.c2; have b3 := HX3.out.jb.c3; have b4 := HX3.out.jb.c4; have b5 := HX3.out.jb.c5; have r0 := HX3.out.rb.c0; have r1 := HX3.out.rb.c1; have r2 := HX3.out.rb.c2; have r3 := HX3.out.rb.c3; have r4 := HX3.out.rb.c4; have r5 := HX3.out.rb.c5; have z0 := HX3.out.rb.fz 0; have z1 := HX3.out.rb.fz 1; have z2 := HX3.out.rb.fz 2; have z3 := HX3.out.rb.fz 3; have z4 := HX3.out.rb.fz 4; have z5 := HX3.out.rb.fz 5)
        have hv := HX3.out.rb.fill (.int .i64 5) (.bool false) (.int .i64 0) (.string ⟨#[]⟩) (.slice la0 acc.length lc0) (.slice ka0 m kc0)
        change bodyPost _ _ _ _ _ (Fill6 w3 w.heap.size (.int .i64 5) (.bool false) (.int .i64 0) (.string ⟨#[]⟩) (.slice la0 acc.length lc0) (.slice ka0 m kc0))
        have hfin := pv_fin (r := (.error 300)) 5 false 0 ⟨#[]⟩ la0 acc.length lc0 ka0 m kc0 HX3.out.rb HX3.out.pat HX3.out.frm hk1s (Nat.le_refl _) hne ⟨rfl, .inl rfl⟩
        generalize Fill6 w3 w.heap.size (.int .i64 5) (.bool false) (.int .i64 0) (.string ⟨#[]⟩) (.slice la0 acc.length lc0) (.slice ka0 m kc0) = v at *
        exact bodyPost_ret (v := .agg #[.int .i64 5, .bool false, .int .i64 0, .string ⟨#[]⟩, .slice la0 acc.length lc0, .slice ka0 m kc0]) (by simp [results, Tryd.results37, go_sem, hv.c0, hv.c1, hv.c2, hv.c3, hv.c4, hv.c5]) rfl hfin
    have hlt1 : k1 < s.size := by have := (List.getElem?_eq_some_iff.1 h34).1; rw [HL.out] at this; exact this
    have hc34 : s[k1].toNat = 34 := by
      have := (List.getElem?_eq_some_iff.1 h34).2
      exact congrArg UInt8.toNat this
    have gge : decide ((k1 : Int) ≥ (s.size : Int)) = false := by simp; omega
    have gl1 : ¬ (s.size : Int) ≤ (k1 : Int) := by omega
    have gl2 : (k1 : Int) < (s.size : Int) := by omega
    have gc : ((s[k1].toNat : Int) == 34) = true := by simp; omega
    have gn : ((s[k1].toNat : Int) != 34) = false := by simp; omega
    have H34 := Lib.hid h34
    clear h34 hc34
    have TX := Lib.hid (fun u hu => ptext_any pb s k1 u hu hlt1 hs)
    cases hT : textOf s.data.toList k1 with
    | error x =>
      have hLA := HLA.out
      rw [objAt_text (by rw [← HK1.out]; exact H34.out) (by rw [← HK1.out]; exact hT)] at hLA
      subst hLA
      rw [hT] at TX
      clear hT HLA
      go_wp2_with (go_at_call 22; refine (pwhite_any pb s k 0 _ HX.out.pat hk hs).mono ?_; rintro e w2 ⟨rfl, p1, f1⟩; rw [← HK1.out] at p1; have HX2 := Lib.hid (HX.out.pass hlt f1 p1); have HJ2 := Lib.hid (js_pass HJ.out hlt f1); have c0 := p1.c0; have c1 := p1.c1; clear p1 f1)
      go_quiet (fail)
      go_upto_region 15 with (go_at_call 35; refine (TX.out _ (HX2.out.drewN _).pat).mono ?_; rintro e w3 ⟨t, i2, c3, rfl, hi2, p1, f1, hm⟩; have HX3 := Lib.hid ((HX2.out.drewN _).pass hlt f1 p1); have HJ3 := Lib.hid (js_pass HJ2.out hlt (((Frm.refl (One pb) w2).drewN _).trans f1)); have c2 := p1.c2; have HM := Lib.hid hm; clear p1 f1 hm;have b0 := HX3.out.jb.c0; have b1 := HX3.out.jb.c1; have b2 := HX3.out.jb.c2; have b3 := HX3.out.jb.c3; have b4 := HX3.out.jb.c4; have b5 := HX3.out.jb.c5; have r0 := HX3.out.rb.c0; have r1 := HX3.out.rb.c1; have r2 := HX3.out.rb.c2; have r3 := HX3.out.rb.c3; have r4 := HX3.out.rb.c4; have r5 := HX3.out.rb.c5; have z0 := HX3.out.rb.fz 0; have z1 := HX3.out.rb.fz 1; have z2 := HX3.out.rb.fz 2; have z3 := HX3.out.rb.fz 3; have z4 := HX3.out.rb.fz 4; have z5 := HX3.out.rb.fz 5)
      obtain ⟨rfl, hx⟩ := HM.out
      have gx : (c3 != 0) = true := by simp; omega
      have gy : (c3 == 0) = false := by simp; omega
      clear HM
      go_wp2
      have hv := HX3.out.rb.fill (.int .i64 5) (.bool false) (.int .i64 0) (.string ⟨#[]⟩) (.slice la0 acc.length lc0) (.slice ka0 m kc0)
      change bodyPost _ _ _ _ _ (Fill6 w3 w.heap.size (.int .i64 5) (.bool false) (.int .i64 0) (.string ⟨#[]⟩) (.slice la0 acc.length lc0) (.slice ka0 m kc0))
      have hfin := pv_fin (r := (.error c3)) 5 false 0 ⟨#[]⟩ la0 acc.length lc0 ka0 m kc0 HX3.out.rb HX3.out.pat HX3.out.frm hi2 (Nat.le_refl _) hne ⟨rfl, .inl hx⟩
      generalize Fill6 w3 w.heap.size (.int .i64 5) (.bool false) (.int .i64 0) (.string ⟨#[]⟩) (.slice la0 acc.length lc0) (.slice ka0 m kc0) = v at *
      exact bodyPost_ret (v := .agg #[.int .i64 5, .bool false, .int .i64 0, .string ⟨#[]⟩, .slice la0 acc.length lc0, .slice ka0 m kc0]) (by simp [results, Tryd.results37, go_sem, hv.c0, hv.c1, hv.c2, hv.c3, hv.c4, hv.c5]) rfl hfin
    | ok q =>
      obtain ⟨bs, i2'⟩ := q
      rw [hT] at TX
      have HT := Lib.hid hT
      clear hT
      go_wp2_with (go_at_call 22; refine (pwhite_any pb s k 0 _ HX.out.pat hk hs).mono ?_; rintro e w2 ⟨rfl, p1, f1⟩; rw [← HK1.out] at p1; have HX2 := Lib.hid (HX.out.pass hlt f1 p1); have HJ2 := Lib.hid (js_pass HJ.out hlt f1); have c0 := p1.c0; have c1 := p1.c1; clear p1 f1)
      go_quiet (fail)
      go_upto_region 15 with (go_at_call 35; refine (TX.out _ (HX2.out.drewN _).pat).mono ?_; rintro e w3 ⟨t, i2, c3, rfl, hi2, p1, f1, hm⟩; have HX3 := Lib.hid ((HX2.out.drewN _).pass hlt f1 p1); have HJ3 := Lib.hid (js_pass HJ2.out hlt (((Frm.refl (One pb) w2).drewN _).trans f1)); have c2 := p1.c2; have HM := Lib.hid hm; clear p1 f1 hm)
      obtain ⟨ht, hi22, rfl⟩ := HM.out
      subst hi22
      have hbs : bs = t.data.toList := by rw [ht]
      rw [hbs] at HT
      clear HM hbs ht TX bs
      have b5 := HX3.out.jb.c5
      go_wp2
      go_loopg [7] (m + 1) (fun g2 iv wr => ∃ q : Nat, iv = .int .i64 q ∧ q ≤ m ∧ m + 1 ≤ q + g2 ∧ w3 = wr ∧ Hid (∀ j (h : j < ks.length), j < q → ks[j] ≠ t))
      case atStart => exact ⟨0, rfl, by omega, by omega, rfl, fun j _ h => by omega⟩
      case round =>
        obtain ⟨q, rfl, hq, hqg, hwr, hun⟩ := hrel
        subst hwr
        by_cases hqm : q = m
        rotate_left
        · obtain ⟨g2, rfl⟩ : ∃ g2, gk = g2 + 1 := ⟨gk - 1, by omega⟩
          have hqk : q < ks.length := by have := HMK.out; omega
          have hqi : (q : Int) < (m : Int) := by omega
          have hq0 : (0 : Int) ≤ (q : Int) := by omega
          have gq : decide ((q : Int) < (m : Int)) = true := by simp; omega
          obtain ⟨bk, ok, ck, hkv, _, _, hcell⟩ := RowIn.key (row_of_own (F := fun _ => True) HX3.out.ownK fun _ _ => trivial) HMK.out.symm (k := q) (by omega)
          simp only [Value.slice.injEq] at hkv
          obtain ⟨rfl, _, rfl⟩ := hkv
          have kq := hcell q hqk
          clear hcell
          by_cases he : ks[q] = t
          · have hLA := HLA.out
            rw [objAt_dup (by rw [← HK1.out]; exact H34.out) (by rw [← HK1.out]; exact HT.out) hqk he] at hLA
            subst hLA
            rw [he] at kq
            clear he
            go_wp2_with (go_at_call 24; refine (pfail_any pb s i2 0 300 _ HX3.out.pat).mono ?_; rintro e w4 ⟨rfl, p1, f1⟩; rw [if_pos rfl] at p1; have HX4 := Lib.hid (HX3.out.pass hlt f1 p1); clear p1 f1; have b0 := HX4.out.jb.c0; have b1 := HX4.out.jb.c1; have b2 := HX4.out.jb.c2; have b3 := HX4.out.jb.c3; have b4 := HX4.out.jb.c4; have b5 := HX4.out.jb.c5; have r0 := HX4.out.rb.c0; have r1 := HX4.out.rb.c1; have r2 := HX4.out.rb.c2; have r3 := HX4.out.rb.c3; have r4 := HX4.out.rb.c4; have r5 := HX4.out.rb.c5; have z0 := HX4.out.rb.fz 0; have z1 := HX4.out.rb.fz 1; have z2 := HX4.out.rb.fz 2; have z3 := HX4.out.rb.fz 3; have z4 := HX4.out.rb.fz 4; have z5 := HX4.out.rb.fz 5)
            have hv := HX4.out.rb.fill (.int .i64 5) (.bool false) (.int .i64 0) (.string ⟨#[]⟩) (.slice la0 acc.length lc0) (.slice (some ⟨bk, ok, none⟩) m kc0)
            change bodyPost _ _ _ _ _ (Fill6 w4 w.heap.size (.int .i64 5) (.bool false) (.int .i64 0) (.string ⟨#[]⟩) (.slice la0 acc.length lc0) (.slice (some ⟨bk, ok, none⟩) m kc0))
            have hfin := pv_fin (r := (.error 300)) 5 false 0 ⟨#[]⟩ la0 acc.length lc0 (some ⟨bk, ok, none⟩) m kc0 HX4.out.rb HX4.out.pat HX4.out.frm hi2 (Nat.le_refl _) hne ⟨rfl, .inl rfl⟩
            generalize Fill6 w4 w.heap.size (.int .i64 5) (.bool false) (.int .i64 0) (.string ⟨#[]⟩) (.slice la0 acc.length lc0) (.slice (some ⟨bk, ok, none⟩) m kc0) = v at *
            exact bodyPost_ret (v := .agg #[.int .i64 5, .bool false, .int .i64 0, .string ⟨#[]⟩, .slice la0 acc.length lc0, .slice (some ⟨bk, ok, none⟩) m kc0]) (by simp [results, Tryd.results37, go_sem, hv.c0, hv.c1, hv.c2, hv.c3, hv.c4, hv.c5]) rfl hfin
          · have ge := bytes_neq he
            have hun2 : Hid (∀ j (h : j < ks.length), j < q + 1 → ks[j] ≠ t) := fun j h hj => by
              by_cases hjq : j = q
              · subst hjq; exact he
              · exact hun.out j h (by omega)
            generalize ks[q] = key at *
            clear he hun
            go_wp2
            go_roundg g2
            case rel => exact ⟨q + 1, by go_num, by omega, by omega, rfl, hun2⟩
            case measure => omega
        subst hqm
        have gq : decide ((q : Int) < (q : Int)) = false := by simp
        have hi21 := textOf_ge HT.out
        have hgo := @objAt_go s.data.toList f g k i2 ks acc t (by rw [← HK1.out]; exact H34.out) (by rw [← HK1.out]; exact HT.out) (fun j hj => hun.out j hj (by have := HMK.out; omega))
        rw [HLA.out] at hgo
        obtain ⟨k3, hk3⟩ : ∃ k3, k3 = skipW s.data.toList i2 := ⟨_, rfl⟩
        rw [← hk3] at hgo
        have hk3s : k3 ≤ s.size := by rw [hk3]; have := skipW_le s.data.toList i2 (by rw [HL.out]; omega); rw [HL.out] at this; exact this
        have hk3i : i2 ≤ k3 := by rw [hk3]; exact skipW_ge _ _
        have HK3 := Lib.hid hk3
        clear hun HT H34 HLA hk3
        cases h58 : wordAt [58] s.data.toList k3 with
        | false =>
          rw [h58, if_neg (by simp)] at hgo
          subst hgo
          have TC : Hid (∀ u, PAt u pb s k3 0 → Calls Tryd.prog 34 #[.pointer (some ⟨pb, 0, none⟩), .string ⟨#[58]⟩] u (PTold pb s k3 0 (.bool false) u)) := by
            intro u hu
            have := pword_any pb s ⟨#[58]⟩ k3 0 u hu (by omega) hs (by decide)
            rw [show (ByteArray.mk #[58]).data.toList = [58] from rfl, h58] at this
            exact this
          clear h58
          go_wp2_with (first
            | (go_at_call 24; refine (pfail_any pb s k3 0 300 _ HX5.out.pat).mono ?_; rintro e w6 ⟨rfl, p1, f1⟩; rw [if_pos rfl] at p1; have HX6 := Lib.hid (HX5.out.pass hlt f1 p1); clear p1 f1; have b0 := HX6.out.jb.c0; have b1 := HX6.out.jb.c1; have b2 := HX6.out.jb.c2; have b3 := HX6.out.jb.c3; have b4 := HX6.out.jb.c4; have b5 := HX6.out.jb.c5; have r0 := HX6.out.rb.c0; have r1 := HX6.out.rb.c1; have r2 := HX6.out.rb.c2; have r3 := HX6.out.rb.c3; have r4 := HX6.out.rb.c4; have r5 := HX6.out.rb.c5; have z0 := HX6.out.rb.fz 0; have z1 := HX6.out.rb.fz 1; have z2 := HX6.out.rb.fz 2; have z3 := HX6.out.rb.fz 3; have z4 := HX6.out.rb.fz 4; have z5 := HX6.out.rb.fz 5)
            | (have hx := HX4.out; clear hx; go_at_call 34; refine (TC.out _ HX4.out.pat).mono ?_; rintro e w5 ⟨rfl, p1, f1⟩; have HX5 := Lib.hid (HX4.out.pass hlt f1 p1); have HJ5 := Lib.hid (js_pass HJ4.out hlt f1); clear p1 f1)
            | (go_at_call 22; refine (pwhite_any pb s i2 0 _ HX3.out.pat hi2 hs).mono ?_; rintro e w4 ⟨rfl, p1, f1⟩; rw [← HK3.out] at p1; have HX4 := Lib.hid (HX3.out.pass hlt f1 p1); have HJ4 := Lib.hid (js_pass HJ3.out hlt f1); clear p1 f1))
          have hv := HX6.out.rb.fill (.int .i64 5) (.bool false) (.int .i64 0) (.string ⟨#[]⟩) (.slice la0 acc.length lc0) (.slice ka0 q kc0)
          change bodyPost _ _ _ _ _ (Fill6 w6 w.heap.size (.int .i64 5) (.bool false) (.int .i64 0) (.string ⟨#[]⟩) (.slice la0 acc.length lc0) (.slice ka0 q kc0))
          have hfin := pv_fin (r := (.error 300)) 5 false 0 ⟨#[]⟩ la0 acc.length lc0 ka0 q kc0 HX6.out.rb HX6.out.pat HX6.out.frm hk3s (Nat.le_refl _) hne ⟨rfl, .inl rfl⟩
          generalize Fill6 w6 w.heap.size (.int .i64 5) (.bool false) (.int .i64 0) (.string ⟨#[]⟩) (.slice la0 acc.length lc0) (.slice ka0 q kc0) = v at *
          exact bodyPost_ret (v := .agg #[.int .i64 5, .bool false, .int .i64 0, .string ⟨#[]⟩, .slice la0 acc.length lc0, .slice ka0 q kc0]) (by simp [results, Tryd.results37, go_sem, hv.c0, hv.c1, hv.c2, hv.c3, hv.c4, hv.c5]) rfl hfin
        | true =>
          rw [h58, if_pos rfl] at hgo
          have hk3t : k3 + 1 ≤ s.size := ((wordAt_iff s ⟨#[58]⟩ _ hk3s).1 h58).1
          obtain ⟨k4, hk4⟩ : ∃ k4, k4 = skipW s.data.toList (k3 + 1) := ⟨_, rfl⟩
          rw [← hk4] at hgo
          have hk4s : k4 ≤ s.size := by rw [hk4]; have := skipW_le s.data.toList (k3 + 1) (by rw [HL.out]; omega); rw [HL.out] at this; exact this
          have hk4i : k3 + 1 ≤ k4 := by rw [hk4]; exact skipW_ge _ _
          have HK4 := Lib.hid hk4
          have HV := Lib.hid (fun u hu => HSS.out k4 u hu hk4s)
          have TC : Hid (∀ u, PAt u pb s k3 0 → Calls Tryd.prog 34 #[.pointer (some ⟨pb, 0, none⟩), .string ⟨#[58]⟩] u (PTold pb s (k3 + 1) 0 (.bool true) u)) := by
            intro u hu
            have := pword_any pb s ⟨#[58]⟩ k3 0 u hu (by omega) hs (by decide)
            rw [show (ByteArray.mk #[58]).data.toList = [58] from rfl, h58] at this
            exact this
          clear h58 hk4 HSS
          cases hV : f k4 with
          | error x =>
            rw [hV] at HV hgo
            dsimp only at hgo
            subst hgo
            clear hV
            go_upto_region 29 with (first
              | (go_at_call 23; refine (HV.out _ HX6.out.pat).mono ?_; rintro e w7 ⟨k0, b0, n0, t0, la, nl, lc, ka, nk, kc, kk, cc, rfl, hkk, p1, f1, hm⟩; have HX7 := Lib.hid (HX6.out.pass hlt f1 p1); have HJ7 := Lib.hid (js_pass HJ6.out hlt f1); have HM := Lib.hid hm; clear p1 f1 hm)
              | (have hx := HX5.out; clear hx; go_at_call 22; refine (pwhite_any pb s (k3 + 1) 0 _ HX5.out.pat hk3t hs).mono ?_; rintro e w6 ⟨rfl, p1, f1⟩; rw [← HK4.out] at p1; have HX6 := Lib.hid (HX5.out.pass hlt f1 p1); have HJ6 := Lib.hid (js_pass HJ5.out hlt f1); clear p1 f1)
              | (have hx := HX4.out; clear hx; go_at_call 34; refine (TC.out _ HX4.out.pat).mono ?_; rintro e w5 ⟨rfl, p1, f1⟩; have HX5 := Lib.hid (HX4.out.pass hlt f1 p1); have HJ5 := Lib.hid (js_pass HJ4.out hlt f1); clear p1 f1)
              | (go_at_call 22; refine (pwhite_any pb s i2 0 _ HX3.out.pat hi2 hs).mono ?_; rintro e w4 ⟨rfl, p1, f1⟩; rw [← HK3.out] at p1; have HX4 := Lib.hid (HX3.out.pass hlt f1 p1); have HJ4 := Lib.hid (js_pass HJ3.out hlt f1); clear p1 f1))
            have hBa := (Below.refl _ w7).alloc (Nat.le_refl _) (.cells #[.int .i64 k0, .bool b0, .int .i64 n0, .string t0, .slice la nl lc, .slice ka nk kc] 25)
            have HJa := j6_new w7 (.int .i64 k0) (.bool b0) (.int .i64 n0) (.string t0) (.slice la nl lc) (.slice ka nk kc)
            have hsa : w7.heap.size < (w7.alloc (.cells #[.int .i64 k0, .bool b0, .int .i64 n0, .string t0, .slice la nl lc, .slice ka nk kc] 25)).heap.size := by simp
            generalize w7.alloc (.cells #[.int .i64 k0, .bool b0, .int .i64 n0, .string t0, .slice la nl lc, .slice ka nk kc] 25) = wa at *
            have hBb := hBa.alloc (by omega) (.cells #[.string t] 9)
            have HXb := Lib.hid (HX7.out.below hBb)
            have HXa := Lib.hid (HX7.out.below hBa)
            have hbase : w.heap.size + 2 ≤ (wa.alloc (.cells #[.string t] 9)).heap.size := by have := HXb.out.jb.lt; omega
            have hks := HMK.out
            obtain ⟨kv', w8, hr, hown, hgrow, hnew⟩ := run_append_str (wa.alloc (.cells #[.string t] 9)) (w.heap.size + 2) hbase (.slice ka0 q kc0) q (ks.map Value.string) [.string t] (by have := HXb.out.ownK; exact this) (by simp; omega) (by omega) rfl (one_str t) ⟨wa.heap.size, 0, none⟩ 1 (str_news wa t)
            obtain ⟨ka', kc', rfl⟩ := own_slice hown
            have HX9 := Lib.hid (HX7.out.addK hlt hBb hgrow hnew hown)
            have HAK := Lib.hid (fun (l : List J) (cs : List (List Value)) (h : JsIn (RF w (.slice la0 acc.length lc0) (.slice ka0 q kc0)) w7 l cs) => js_addK h hBb hgrow hnew)
            have HRn := Lib.hid hr
            have hq := HX7.out.jbg hBb (.slice ka0 q kc0) (.inr rfl) hgrow
            have hJb : J6 w8 w7.heap.size (.int .i64 k0) (.bool b0) (.int .i64 n0) (.string t0) (.slice la nl lc) (.slice ka nk kc) :=
              (hgrow.block _ (by have := hBb.size; have := HJa.lt; simp; omega) (fun e => by have := (own_lt HX7.out.ownK e.symm).2; omega)).trans (j6_alloc HJa _)
            have hJc : J6 (w8.setCell ⟨w.heap.size + 1, 5, none⟩ (.slice ka' (q + 1) kc')) w7.heap.size (.int .i64 k0) (.bool b0) (.int .i64 n0) (.string t0) (.slice la nl lc) (.slice ka nk kc) :=
              (Below.heap_setCell _ _ _ _ (by have := HX7.out.jb.lt; show w7.heap.size ≠ w.heap.size + 1; omega)).trans hJb
            have HJc := Lib.hid hJc
            have q5 := hq.fz 5
            have hc5 := hq.c5
            have b5 := HXa.out.jb.c5
            clear hBa hBb hown hgrow hnew hr hq HXb HXa hsa HJa hks hJb hJc
            go_upto_region 30 with (at_builtin; refine wpList_append_eq _ rfl (.tmp 98) (.tmp 100) 23 23 rfl _ _ rfl rfl (HRn.out _) ?_)
            generalize w8.setCell ⟨w.heap.size + 1, 5, none⟩ (.slice ka' (q + 1) kc') = w9 at *
            clear q5 hc5 b5 HRn hbase
            have hBb := (Below.refl _ w9).alloc (Nat.le_refl _) (.cells #[.int .i64 k0, .bool b0, .int .i64 n0, .string t0, .slice la nl lc, .slice ka nk kc] 25)
            have HXb := Lib.hid (HX9.out.below hBb)
            have hbase : w.heap.size + 2 ≤ (w9.alloc (.cells #[.int .i64 k0, .bool b0, .int .i64 n0, .string t0, .slice la nl lc, .slice ka nk kc] 25)).heap.size := by have := HXb.out.jb.lt; omega
            obtain ⟨lv', w10, hr, hown, hgrow, hnew⟩ := run_append_json (w9.alloc (.cells #[.int .i64 k0, .bool b0, .int .i64 n0, .string t0, .slice la nl lc, .slice ka nk kc] 25)) (w.heap.size + 2) hbase (.slice la0 acc.length lc0) acc.length cs.flatten [.int .i64 k0, .bool b0, .int .i64 n0, .string t0, .slice la nl lc, .slice ka nk kc] HXb.out.ownL HJ7.out.flat (by omega) rfl (one_six _ _ _ _ _ _ _ _ _ _) ⟨w9.heap.size, 0, none⟩ 1 (six_news w9 _ _ _ _ _ _)
            obtain ⟨la', lc', rfl⟩ := own_slice hown
            have HX11 := Lib.hid (HX9.out.addL hlt hBb hgrow hnew hown)
            have HAJ := Lib.hid (fun (l : List J) (cs : List (List Value)) (h : JsIn (RF w (.slice la0 acc.length lc0) (.slice ka0 q kc0)) w7 l cs) => js_addL (HAK.out l cs h) hBb hgrow hnew)
            have HRn := Lib.hid hr
            have hq := HX9.out.jbg hBb (.slice la0 acc.length lc0) (.inl rfl) hgrow
            have q4 := hq.fz 4
            have hc4 := hq.c4
            have b4 := HX9.out.jb.c4
            have a0 := HJc.out.c0; have a1 := HJc.out.c1; have a2 := HJc.out.c2; have a3 := HJc.out.c3; have a4 := HJc.out.c4; have a5 := HJc.out.c5
            clear hBb hown hgrow hnew hr hq HXb HAK
            go_upto_region 31 with (at_builtin; refine wpList_append_eq _ rfl (.tmp 104) (.tmp 106) 22 22 rfl _ _ rfl rfl (HRn.out _) ?_)
            generalize w10.setCell ⟨w.heap.size + 1, 4, none⟩ (.slice la' (acc.length + 1) lc') = w11 at *
            clear q4 hc4 b4 a0 a1 a2 a3 a4 a5 HRn hbase HJc
            obtain ⟨rfl, hx⟩ := HM.out
            have gc : (cc == 0) = false := by simp; omega
            clear HM
            have hkk3 : skipW s.data.toList kk ≤ s.size := by have := skipW_le s.data.toList kk (by rw [HL.out]; omega); rw [HL.out] at this; exact this
            go_wp2_with (go_at_call 22; refine (pwhite_any pb s kk cc _ HX11.out.pat hkk hs).mono ?_; rintro e w12 ⟨rfl, p1, f1⟩; have HX12 := Lib.hid (HX11.out.pass hlt f1 p1); have c2 := p1.c2; clear p1 f1)
            go_roundg g
            case rel => exact .inr ⟨_, cc, _, _, _, _, la', _, lc', ka', _, kc', hkk3, hx, rfl, HX12.out⟩
            case measure => omega
          | ok q2 =>
            obtain ⟨j, kv⟩ := q2
            rw [hV] at HV hgo
            have hkv := HFf.out _ _ _ hV
            clear hV
            go_upto_region 29 with (first
              | (go_at_call 23; refine (HV.out _ HX6.out.pat).mono ?_; rintro e w7 ⟨k0, b0, n0, t0, la, nl, lc, ka, nk, kc, kk, cc, rfl, hkk, p1, f1, hm⟩; have HX7 := Lib.hid (HX6.out.pass hlt f1 p1); have HJ7 := Lib.hid (js_pass HJ6.out hlt f1); have HM := Lib.hid hm; clear p1 f1 hm)
              | (have hx := HX5.out; clear hx; go_at_call 22; refine (pwhite_any pb s (k3 + 1) 0 _ HX5.out.pat hk3t hs).mono ?_; rintro e w6 ⟨rfl, p1, f1⟩; rw [← HK4.out] at p1; have HX6 := Lib.hid (HX5.out.pass hlt f1 p1); have HJ6 := Lib.hid (js_pass HJ5.out hlt f1); clear p1 f1)
              | (have hx := HX4.out; clear hx; go_at_call 34; refine (TC.out _ HX4.out.pat).mono ?_; rintro e w5 ⟨rfl, p1, f1⟩; have HX5 := Lib.hid (HX4.out.pass hlt f1 p1); have HJ5 := Lib.hid (js_pass HJ4.out hlt f1); clear p1 f1)
              | (go_at_call 22; refine (pwhite_any pb s i2 0 _ HX3.out.pat hi2 hs).mono ?_; rintro e w4 ⟨rfl, p1, f1⟩; rw [← HK3.out] at p1; have HX4 := Lib.hid (HX3.out.pass hlt f1 p1); have HJ4 := Lib.hid (js_pass HJ3.out hlt f1); clear p1 f1))
            have hBa := (Below.refl _ w7).alloc (Nat.le_refl _) (.cells #[.int .i64 k0, .bool b0, .int .i64 n0, .string t0, .slice la nl lc, .slice ka nk kc] 25)
            have HJa := j6_new w7 (.int .i64 k0) (.bool b0) (.int .i64 n0) (.string t0) (.slice la nl lc) (.slice ka nk kc)
            have hsa : w7.heap.size < (w7.alloc (.cells #[.int .i64 k0, .bool b0, .int .i64 n0, .string t0, .slice la nl lc, .slice ka nk kc] 25)).heap.size := by simp
            generalize w7.alloc (.cells #[.int .i64 k0, .bool b0, .int .i64 n0, .string t0, .slice la nl lc, .slice ka nk kc] 25) = wa at *
            have hBb := hBa.alloc (by omega) (.cells #[.string t] 9)
            have HXb := Lib.hid (HX7.out.below hBb)
            have HXa := Lib.hid (HX7.out.below hBa)
            have hbase : w.heap.size + 2 ≤ (wa.alloc (.cells #[.string t] 9)).heap.size := by have := HXb.out.jb.lt; omega
            have hks := HMK.out
            obtain ⟨kv', w8, hr, hown, hgrow, hnew⟩ := run_append_str (wa.alloc (.cells #[.string t] 9)) (w.heap.size + 2) hbase (.slice ka0 q kc0) q (ks.map Value.string) [.string t] (by have := HXb.out.ownK; exact this) (by simp; omega) (by omega) rfl (one_str t) ⟨wa.heap.size, 0, none⟩ 1 (str_news wa t)
            obtain ⟨ka', kc', rfl⟩ := own_slice hown
            have HX9 := Lib.hid (HX7.out.addK hlt hBb hgrow hnew hown)
            have HAK := Lib.hid (fun (l : List J) (cs : List (List Value)) (h : JsIn (RF w (.slice la0 acc.length lc0) (.slice ka0 q kc0)) w7 l cs) => js_addK h hBb hgrow hnew)
            have HRn := Lib.hid hr
            have hq := HX7.out.jbg hBb (.slice ka0 q kc0) (.inr rfl) hgrow
            have hJb : J6 w8 w7.heap.size (.int .i64 k0) (.bool b0) (.int .i64 n0) (.string t0) (.slice la nl lc) (.slice ka nk kc) :=
              (hgrow.block _ (by have := hBb.size; have := HJa.lt; simp; omega) (fun e => by have := (own_lt HX7.out.ownK e.symm).2; omega)).trans (j6_alloc HJa _)
            have hJc : J6 (w8.setCell ⟨w.heap.size + 1, 5, none⟩ (.slice ka' (q + 1) kc')) w7.heap.size (.int .i64 k0) (.bool b0) (.int .i64 n0) (.string t0) (.slice la nl lc) (.slice ka nk kc) :=
              (Below.heap_setCell _ _ _ _ (by have := HX7.out.jb.lt; show w7.heap.size ≠ w.heap.size + 1; omega)).trans hJb
            have HJc := Lib.hid hJc
            have q5 := hq.fz 5
            have hc5 := hq.c5
            have b5 := HXa.out.jb.c5
            clear hBa hBb hown hgrow hnew hr hq HXb HXa hsa HJa hks hJb hJc
            go_upto_region 30 with (at_builtin; refine wpList_append_eq _ rfl (.tmp 98) (.tmp 100) 23 23 rfl _ _ rfl rfl (HRn.out _) ?_)
            generalize w8.setCell ⟨w.heap.size + 1, 5, none⟩ (.slice ka' (q + 1) kc') = w9 at *
            clear q5 hc5 b5 HRn hbase
            have hBb := (Below.refl _ w9).alloc (Nat.le_refl _) (.cells #[.int .i64 k0, .bool b0, .int .i64 n0, .string t0, .slice la nl lc, .slice ka nk kc] 25)
            have HXb := Lib.hid (HX9.out.below hBb)
            have hbase : w.heap.size + 2 ≤ (w9.alloc (.cells #[.int .i64 k0, .bool b0, .int .i64 n0, .string t0, .slice la nl lc, .slice ka nk kc] 25)).heap.size := by have := HXb.out.jb.lt; omega
            obtain ⟨lv', w10, hr, hown, hgrow, hnew⟩ := run_append_json (w9.alloc (.cells #[.int .i64 k0, .bool b0, .int .i64 n0, .string t0, .slice la nl lc, .slice ka nk kc] 25)) (w.heap.size + 2) hbase (.slice la0 acc.length lc0) acc.length cs.flatten [.int .i64 k0, .bool b0, .int .i64 n0, .string t0, .slice la nl lc, .slice ka nk kc] HXb.out.ownL HJ7.out.flat (by omega) rfl (one_six _ _ _ _ _ _ _ _ _ _) ⟨w9.heap.size, 0, none⟩ 1 (six_news w9 _ _ _ _ _ _)
            obtain ⟨la', lc', rfl⟩ := own_slice hown
            have HX11 := Lib.hid (HX9.out.addL hlt hBb hgrow hnew hown)
            have HAJ := Lib.hid (fun (l : List J) (cs : List (List Value)) (h : JsIn (RF w (.slice la0 acc.length lc0) (.slice ka0 q kc0)) w7 l cs) => js_addL (HAK.out l cs h) hBb hgrow hnew)
            have HRn := Lib.hid hr
            have hq := HX9.out.jbg hBb (.slice la0 acc.length lc0) (.inl rfl) hgrow
            have q4 := hq.fz 4
            have hc4 := hq.c4
            have b4 := HX9.out.jb.c4
            have a0 := HJc.out.c0; have a1 := HJc.out.c1; have a2 := HJc.out.c2; have a3 := HJc.out.c3; have a4 := HJc.out.c4; have a5 := HJc.out.c5
            clear hBb hown hgrow hnew hr hq HXb HAK
            go_upto_region 31 with (at_builtin; refine wpList_append_eq _ rfl (.tmp 104) (.tmp 106) 22 22 rfl _ _ rfl rfl (HRn.out _) ?_)
            generalize w10.setCell ⟨w.heap.size + 1, 4, none⟩ (.slice la' (acc.length + 1) lc') = w11 at *
            clear q4 hc4 b4 a0 a1 a2 a3 a4 a5 HRn hbase HJc
            obtain ⟨rfl, rfl, hj⟩ := HM.out
            have HJ11 := Lib.hid (HAJ.out _ _ (HJ7.out.snoc (HX6.out.news hj)))
            have HX11b : Hid (RAt pb s 5 w w11 kk 0 (acc ++ [j]).length (ks ++ [t]).length (cs ++ [([.int .i64 k0, .bool b0, .int .i64 n0, .string t0, .slice la nl lc, .slice ka nk kc] : List Value)]).flatten ((ks ++ [t]).map Value.string) (.slice la' (acc.length + 1) lc') (.slice ka' (q + 1) kc')) := by
              unfold Hid; rw [← flat_snoc, ← len_snoc, ← len_snoc, ← map_snoc, ← HMK.out]; exact HX11.out
            clear HM HAJ HJ7 hj
            try dsimp only at hgo
            obtain ⟨k6, hk6⟩ : ∃ k6, k6 = skipW s.data.toList kk := ⟨_, rfl⟩
            rw [← hk6] at hgo
            have HK6 := Lib.hid hk6
            have hk6s : k6 ≤ s.size := by rw [hk6]; have := skipW_le s.data.toList kk (by rw [HL.out]; omega); rw [HL.out] at this; exact this
            have hk6k : kk ≤ k6 := by rw [hk6]; exact skipW_ge _ _
            clear hk6
            cases h125 : wordAt [125] s.data.toList k6 with
            | true =>
              rw [h125, if_pos rfl] at hgo
              subst hgo
              have hk7 : k6 + 1 ≤ s.size := ((wordAt_iff s ⟨#[125]⟩ _ hk6s).1 h125).1
              have TE : Hid (∀ u, PAt u pb s k6 0 → Calls Tryd.prog 34 #[.pointer (some ⟨pb, 0, none⟩), .string ⟨#[125]⟩] u (PTold pb s (k6 + 1) 0 (.bool true) u)) := by
                intro u hu
                have := pword_any pb s ⟨#[125]⟩ k6 0 u hu (by omega) hs (by decide)
                rw [show (ByteArray.mk #[125]).data.toList = [125] from rfl, h125] at this
                exact this
              clear h125
              go_wp2_with (first
                | (have hx := HX12.out; clear hx; go_at_call 34; refine (TE.out _ HX12.out.pat).mono ?_; rintro e w13 ⟨rfl, p1, f1⟩; have HX13 := Lib.hid (HX12.out.pass hlt f1 p1); have HJ13 := Lib.hid (js_pass HJ12.out hlt f1); have b0 := HX13.out.jb.c0; have b1 := HX13.out.jb.c1; have b2 := HX13.out.jb.c2; have b3 := HX13.out.jb.c3; have b4 := HX13.out.jb.c4; have b5 := HX13.out.jb.c5; have r0 := HX13.out.rb.c0; have r1 := HX13.out.rb.c1; have r2 := HX13.out.rb.c2; have r3 := HX13.out.rb.c3; have r4 := HX13.out.rb.c4; have r5 := HX13.out.rb.c5; have z0 := HX13.out.rb.fz 0; have z1 := HX13.out.rb.fz 1; have z2 := HX13.out.rb.fz 2; have z3 := HX13.out.rb.fz 3; have z4 := HX13.out.rb.fz 4; have z5 := HX13.out.rb.fz 5; clear p1 f1)
                | (go_at_call 22; refine (pwhite_any pb s kk 0 _ HX11b.out.pat hkk hs).mono ?_; rintro e w12 ⟨rfl, p1, f1⟩; rw [← HK6.out] at p1; have HX12 := Lib.hid (HX11b.out.pass hlt f1 p1); have HJ12 := Lib.hid (js_pass HJ11.out hlt f1); have c2 := p1.c2; clear p1 f1))
              have hv := HX13.out.rb.fill (.int .i64 5) (.bool false) (.int .i64 0) (.string ⟨#[]⟩) (.slice la' (acc.length + 1) lc') (.slice ka' (q + 1) kc')
              change bodyPost _ _ _ _ _ (Fill6 w13 w.heap.size (.int .i64 5) (.bool false) (.int .i64 0) (.string ⟨#[]⟩) (.slice la' (acc.length + 1) lc') (.slice ka' (q + 1) kc'))
              have hfin := pv_fin (r := (.ok (jObj (ks ++ [t]) (acc ++ [j]), k6 + 1))) 5 false 0 ⟨#[]⟩ la' (acc.length + 1) lc' ka' (q + 1) kc' HX13.out.rb HX13.out.pat HX13.out.frm hk7 (Nat.le_refl _) hne ⟨rfl, rfl, RAt.val HX13.out HJ13.out⟩
              generalize Fill6 w13 w.heap.size (.int .i64 5) (.bool false) (.int .i64 0) (.string ⟨#[]⟩) (.slice la' (acc.length + 1) lc') (.slice ka' (q + 1) kc') = v at *
              exact bodyPost_ret (v := .agg #[.int .i64 5, .bool false, .int .i64 0, .string ⟨#[]⟩, .slice la' (acc.length + 1) lc', .slice ka' (q + 1) kc']) (by simp [results, Tryd.results37, go_sem, hv.c0, hv.c1, hv.c2, hv.c3, hv.c4, hv.c5]) rfl hfin
            | false =>
              rw [h125, if_neg (by simp)] at hgo
              have TE : Hid (∀ u, PAt u pb s k6 0 → Calls Tryd.prog 34 #[.pointer (some ⟨pb, 0, none⟩), .string ⟨#[125]⟩] u (PTold pb s k6 0 (.bool false) u)) := by
                intro u hu
                have := pword_any pb s ⟨#[125]⟩ k6 0 u hu (by omega) hs (by decide)
                rw [show (ByteArray.mk #[125]).data.toList = [125] from rfl, h125] at this
                exact this
              clear h125
              cases h44 : wordAt [44] s.data.toList k6 with
              | true =>
                rw [h44, if_pos rfl] at hgo
                have HGO := Lib.hid hgo
                have hk7 : k6 + 1 ≤ s.size := ((wordAt_iff s ⟨#[44]⟩ _ hk6s).1 h44).1
                have TD : Hid (∀ u, PAt u pb s k6 0 → Calls Tryd.prog 34 #[.pointer (some ⟨pb, 0, none⟩), .string ⟨#[44]⟩] u (PTold pb s (k6 + 1) 0 (.bool true) u)) := by
                  intro u hu
                  have := pword_any pb s ⟨#[44]⟩ k6 0 u hu (by omega) hs (by decide)
                  rw [show (ByteArray.mk #[44]).data.toList = [44] from rfl, h44] at this
                  exact this
                clear h44 hgo
                go_wp2_with (first
                  | (have hx := HX13.out; clear hx; go_at_call 34; refine (TD.out _ HX13.out.pat).mono ?_; rintro e w14 ⟨rfl, p1, f1⟩; have HX14 := Lib.hid (HX13.out.pass hlt f1 p1); have HJ14 := Lib.hid (js_pass HJ13.out hlt f1); clear p1 f1)
                  | (have hx := HX12.out; clear hx; go_at_call 34; refine (TE.out _ HX12.out.pat).mono ?_; rintro e w13 ⟨rfl, p1, f1⟩; have HX13 := Lib.hid (HX12.out.pass hlt f1 p1); have HJ13 := Lib.hid (js_pass HJ12.out hlt f1); have c2 := p1.c2; clear p1 f1)
                  | (go_at_call 22; refine (pwhite_any pb s kk 0 _ HX11b.out.pat hkk hs).mono ?_; rintro e w12 ⟨rfl, p1, f1⟩; rw [← HK6.out] at p1; have HX12 := Lib.hid (HX11b.out.pass hlt f1 p1); have HJ12 := Lib.hid (js_pass HJ11.out hlt f1); have c2 := p1.c2; clear p1 f1))
                have hrx : RAt pb s 5 w w14 (k6 + 1) 0 (acc ++ [j]).length (ks ++ [t]).length (cs ++ [([.int .i64 k0, .bool b0, .int .i64 n0, .string t0, .slice la nl lc, .slice ka nk kc] : List Value)]).flatten ((ks ++ [t]).map Value.string) (.slice la' (acc ++ [j]).length lc') (.slice ka' (ks ++ [t]).length kc') := by
                  have := HX14.out; rw [show acc.length + 1 = (acc ++ [j]).length by simp, show q + 1 = (ks ++ [t]).length by simp; exact HMK.out] at this; exact this
                have hjx : JsIn (RF w (.slice la' (acc ++ [j]).length lc') (.slice ka' (ks ++ [t]).length kc')) w14 (acc ++ [j]) (cs ++ [([.int .i64 k0, .bool b0, .int .i64 n0, .string t0, .slice la nl lc, .slice ka nk kc] : List Value)]) := by
                  have := HJ14.out; rw [show acc.length + 1 = (acc ++ [j]).length by simp, show q + 1 = (ks ++ [t]).length by simp; exact HMK.out] at this; exact this
                have HRX := Lib.hid hrx
                have HJX := Lib.hid hjx
                clear hrx hjx
                go_roundg g
                case rel => exact .inl ⟨k6 + 1, ks ++ [t], acc ++ [j], cs ++ [[.int .i64 k0, .bool b0, .int .i64 n0, .string t0, .slice la nl lc, .slice ka nk kc]], la', lc', ka', kc', hk7, by omega, HGO.out.symm, by simp; omega, by have := HKA.out; have := HMK.out; simp; omega, HRX.out, HJX.out⟩
                case measure => omega
              | false =>
                rw [h44, if_neg (by simp)] at hgo
                subst hgo
                have TD : Hid (∀ u, PAt u pb s k6 0 → Calls Tryd.prog 34 #[.pointer (some ⟨pb, 0, none⟩), .string ⟨#[44]⟩] u (PTold pb s k6 0 (.bool false) u)) := by
                  intro u hu
                  have := pword_any pb s ⟨#[44]⟩ k6 0 u hu (by omega) hs (by decide)
                  rw [show (ByteArray.mk #[44]).data.toList = [44] from rfl, h44] at this
                  exact this
                clear h44
                go_wp2_with (first
                  | (go_at_call 24; refine (pfail_any pb s k6 0 300 _ HX14.out.pat).mono ?_; rintro e w15 ⟨rfl, p1, f1⟩; rw [if_pos rfl] at p1; have HX15 := Lib.hid (HX14.out.pass hlt f1 p1); clear p1 f1)
                  | (have hx := HX13.out; clear hx; go_at_call 34; refine (TD.out _ HX13.out.pat).mono ?_; rintro e w14 ⟨rfl, p1, f1⟩; have HX14 := Lib.hid (HX13.out.pass hlt f1 p1); have HJ14 := Lib.hid (js_pass HJ13.out hlt f1); clear p1 f1)
                  | (have hx := HX12.out; clear hx; go_at_call 34; refine (TE.out _ HX12.out.pat).mono ?_; rintro e w13 ⟨rfl, p1, f1⟩; have HX13 := Lib.hid (HX12.out.pass hlt f1 p1); have HJ13 := Lib.hid (js_pass HJ12.out hlt f1); have c2 := p1.c2; clear p1 f1)
                  | (go_at_call 22; refine (pwhite_any pb s kk 0 _ HX11b.out.pat hkk hs).mono ?_; rintro e w12 ⟨rfl, p1, f1⟩; rw [← HK6.out] at p1; have HX12 := Lib.hid (HX11b.out.pass hlt f1 p1); have HJ12 := Lib.hid (js_pass HJ11.out hlt f1); have c2 := p1.c2; clear p1 f1))
                go_roundg g
                case rel => exact .inr ⟨k6, 300, _, _, _, _, la', _, lc', ka', _, kc', hk6s, .inl rfl, rfl, HX15.out⟩
                case measure => omega
end Go.Proofs.YtcobadgpelhcoaaDoor

namespace Go.Proofs.YtcobadgpelhcoaaDoor
open Go.Conc Go.RowKit
set_option linter.unusedVariables false

theorem rvalue_any (pb : Nat) (s : ByteArray) (hs : s.size ≤ 65536) : ∀ (d : Nat) (deep : Int), d ≤ 16 → deep = 16 - (d : Int) → ∀ (i : Nat) (w : World), PAt w pb s i 0 → i ≤ s.size →
    Calls Tryd.prog 23 #[.pointer (some ⟨pb, 0, none⟩), .int .i64 deep] w (PV pb s (valAt s.data.toList d i) w)
  | 0, deep, hd, he, i, w, h, hi => pval_of pb s none i deep w h hi hs (by omega) (fun hlt u hu => plist_none pb s i (deep + 1) u hu hs hlt (by omega)) (fun hlt u hu => pobj_none pb s i (deep + 1) u hu hs hlt (by omega))
  | d + 1, deep, hd, he, i, w, h, hi => by
    have ih := rvalue_any pb s hs d (deep + 1) (by omega) (by omega)
    have HL : s.data.toList.length = s.size := by simp
    refine pval_of pb s (some (valAt s.data.toList d)) i deep w h hi hs (by omega) (fun hlt u hu => ?_) (fun hlt u hu => ?_)
    · unfold listR
      dsimp only
      rw [HL]
      cases hw : wordAt [93] s.data.toList (skipW s.data.toList (i + 1)) with
      | true => rw [if_pos rfl]; exact plist_empty pb s i (deep + 1) u hu hs hlt (by omega) hw
      | false =>
        rw [if_neg (by simp)]
        exact plist_some pb s i (deep + 1) u hu hs hlt (valAt s.data.toList d) (by omega) (by omega) (fun k v hv hk => ih k v hv hk) (fun k j k2 hk => valAt_ge d k j k2 hk) hw
    · unfold objR
      dsimp only
      rw [HL]
      cases hw : wordAt [125] s.data.toList (skipW s.data.toList (i + 1)) with
      | true => rw [if_pos rfl]; exact pobj_empty pb s i (deep + 1) u hu hs hlt (by omega) hw
      | false =>
        rw [if_neg (by simp)]
        exact pobj_some pb s i (deep + 1) u hu hs hlt (valAt s.data.toList d) (by omega) (by omega) (fun k v hv hk => ih k v hv hk) (fun k j k2 hk => valAt_ge d k j k2 hk) hw
end Go.Proofs.YtcobadgpelhcoaaDoor

namespace Go.Proofs.YtcobadgpelhcoaaDoor
open Go.Conc Go.RowKit
set_option linter.unusedVariables false
set_option linter.unusedSimpArgs false

theorem below_of_one {a w v : World} {pb : Nat} (hb : Below a.heap.size a w) (h : Frm (One pb) w v) (hp : a.heap.size ≤ pb) : Below a.heap.size a v :=
  ⟨h.os.trans hb.os, h.tape.trans hb.tape, h.output.trans hb.output, Nat.le_trans hb.size h.size, fun j hj => (h.block j (Nat.lt_of_lt_of_le hj hb.size) (fun e => by have : j = pb := e; omega)).trans (hb.block j hj)⟩
theorem rp_parse {l : List UInt8} (h : l.length ≤ 65536) : parse l = match valAt l 16 (skipW l 0) with
    | .error e => .error e
    | .ok (j, i) => if skipW l i = l.length then .ok j else .error 300 := by
  unfold parse; rw [if_neg (by omega)]; rfl

set_option maxHeartbeats 8000000 in
set_option maxRecDepth 100000 in
theorem rparse_any (s : ByteArray) (w : World) (hsz : s.size ≤ 140737488351232) : Calls Tryd.prog 11 #[.string s] w (JPd (parse s.data.toList) w) := by
  have HL := Lib.hid (show s.data.toList.length = s.size by simp)
  by_cases hs : s.size ≤ 65536
  · have g0 : decide ((s.size : Int) > 65536) = false := by simp; omega
    have g1 : decide ((65536 : Int) < (s.size : Int)) = false := by simp; omega
    rw [rp_parse (by rw [HL.out]; exact hs)]
    have hA := ((Below.refl _ w).alloc (Nat.le_refl _) (.cells #[.int .i64 0, .bool false, .int .i64 0, .string ⟨#[]⟩, .slice none 0 0, .slice none 0 0] 25))
    have hA2 := Lib.hid (hA.alloc (by simp) (.cells #[.string s, .int .i64 0, .int .i64 0] 55))
    have HR0 := Lib.hid (j6_alloc (j6_new w (.int .i64 0) (.bool false) (.int .i64 0) (.string ⟨#[]⟩) (.slice none 0 0) (.slice none 0 0)) (.cells #[.string s, .int .i64 0, .int .i64 0] 55))
    have HP0 : Hid (PAt ((w.alloc (.cells #[.int .i64 0, .bool false, .int .i64 0, .string ⟨#[]⟩, .slice none 0 0, .slice none 0 0] 25)).alloc (.cells #[.string s, .int .i64 0, .int .i64 0] 55)) (w.heap.size + 1) s 0 0) := by
      have := heap_alloc_new (w.alloc (.cells #[.int .i64 0, .bool false, .int .i64 0, .string ⟨#[]⟩, .slice none 0 0, .slice none 0 0] 25)) (.cells #[.string s, .int .i64 0, .int .i64 0] 55)
      unfold Hid PAt; simpa using this
    clear hA
    have hk0 : skipW s.data.toList 0 ≤ s.size := by have := skipW_le s.data.toList 0 (by omega); rw [HL.out] at this; exact this
    have HV := Lib.hid (fun (u : World) (hu : PAt u (w.heap.size + 1) s (skipW s.data.toList 0) 0) => rvalue_any (w.heap.size + 1) s hs 16 0 (by omega) (by omega) _ u hu hk0)
    cases hV : valAt s.data.toList 16 (skipW s.data.toList 0) with
    | error x =>
      rw [hV] at HV
      clear hV
      dsimp only
      go_enter Tryd.func11, Tryd.ntmps11
      go_upto_region 4 with fail
      generalize (w.alloc (.cells #[.int .i64 0, .bool false, .int .i64 0, .string ⟨#[]⟩, .slice none 0 0, .slice none 0 0] 25)).alloc (.cells #[.string s, .int .i64 0, .int .i64 0] 55) = wa at *
      go_upto_region 6 with (first
        | (go_at_call 23; refine (HV.out _ HP1.out).mono ?_; rintro e w2 ⟨k0, b0, n0, t0, la, nl, lc, ka, nk, kc, kk, cc, rfl, hkk, p1, f1, hm⟩; have HP2 := Lib.hid p1; have HR2 := Lib.hid (HR1.out.frm f1 (by unfold One; omega)); have HF2 := Lib.hid (HF1.out.trans f1); have HM := Lib.hid hm; have hs1 := f1.size; clear p1 f1 hm)
        | (go_at_call 22; refine (pwhite_any (w.heap.size + 1) s 0 0 _ HP0.out (by omega) hs).mono ?_; rintro e w1 ⟨rfl, p1, f1⟩; have HP1 := Lib.hid p1; have HR1 := Lib.hid (HR0.out.frm f1 (by unfold One; omega)); have HF1 := Lib.hid f1; clear p1 f1))
      have hBa := (Below.refl _ w2).alloc (Nat.le_refl _) (.cells #[.int .i64 k0, .bool b0, .int .i64 n0, .string t0, .slice la nl lc, .slice ka nk kc] 25)
      have HJa := Lib.hid (j6_new w2 (.int .i64 k0) (.bool b0) (.int .i64 n0) (.string t0) (.slice la nl lc) (.slice ka nk kc))
      have HPa := Lib.hid (HP2.out.new hBa)
      have HRa := Lib.hid ((hBa.block _ HR2.out.lt).trans HR2.out)
      have HFa := Lib.hid (HF2.out.trans (Frm.of_new hBa _))
      have HBa := Lib.hid hBa
      generalize w2.alloc (.cells #[.int .i64 k0, .bool b0, .int .i64 n0, .string t0, .slice la nl lc, .slice ka nk kc] 25) = wb at *
      have hw1 := HP1.out.lt
      clear hBa HR2 HR1 HR0 HP0 HP1
      obtain ⟨rfl, hx⟩ := HM.out
      have gc : (cc == 0) = false := by simp; omega
      have gn : (cc != 0) = true := by simp; omega
      clear HM
      go_upto_region 10 with (go_at_call 22; refine (pwhite_any (w.heap.size + 1) s kk cc _ HPa.out hkk hs).mono ?_; rintro e w3 ⟨rfl, p1, f1⟩; have HP3 := Lib.hid p1; have HR3 : Hid (J6 w3 w.heap.size (.int .i64 0) (.bool false) (.int .i64 0) (.string ⟨#[]⟩) (.slice none 0 0) (.slice none 0 0)) := J6.frm HRa.out f1 (by unfold One; omega); have HJ3 := Lib.hid (HJa.out.frm f1 (by have := HP2.out.lt; unfold One; omega)); have HF3 := Lib.hid (HFa.out.trans f1); have HFw := Lib.hid f1; have c1 := p1.c1; have c2 := p1.c2; have r0 := HR3.out.c0; have r1 := HR3.out.c1; have r2 := HR3.out.c2; have r3 := HR3.out.c3; have r4 := HR3.out.c4; have r5 := HR3.out.c5; have z0 := HR3.out.fz 0; have z1 := HR3.out.fz 1; have z2 := HR3.out.fz 2; have z3 := HR3.out.fz 3; have z4 := HR3.out.fz 4; have z5 := HR3.out.fz 5; clear p1 f1)
      go_region
      go_wp2
      have hv0 := HR3.out.fill (.int .i64 0) (.bool false) (.int .i64 0) (.string ⟨#[]⟩) (.slice none 0 0) (.slice none 0 0)
      have hfv0 := frm_fill6 w3 w.heap.size (.int .i64 0) (.bool false) (.int .i64 0) (.string ⟨#[]⟩) (.slice none 0 0) (.slice none 0 0)
      change bodyPost _ _ _ _ _ (Fill6 w3 w.heap.size (.int .i64 0) (.bool false) (.int .i64 0) (.string ⟨#[]⟩) (.slice none 0 0) (.slice none 0 0)).drew
      generalize Fill6 w3 w.heap.size (.int .i64 0) (.bool false) (.int .i64 0) (.string ⟨#[]⟩) (.slice none 0 0) (.slice none 0 0) = v0 at *
      have hv : J6 v0.drew w.heap.size (.int .i64 0) (.bool false) (.int .i64 0) (.string ⟨#[]⟩) (.slice none 0 0) (.slice none 0 0) := hv0
      have hfv : Frm (One w.heap.size) w3 v0.drew := hfv0.drew
      clear hv0 hfv0
      generalize v0.drew = v at *
      refine bodyPost_ret (v := .tuple #[zJ, .int .i64 cc]) (by simp [results, Tryd.results11, go_sem, zJ, hv.c0, hv.c1, hv.c2, hv.c3, hv.c4, hv.c5]) rfl ?_
      exact ⟨rfl, below_of_one (below_of_one hA2.out HF3.out (by omega)) hfv (Nat.le_refl _)⟩
    | ok q =>
      obtain ⟨j, kv⟩ := q
      rw [hV] at HV
      clear hV
      dsimp only
      by_cases hend : skipW s.data.toList kv = s.data.toList.length
      · rw [if_pos hend]
        have HE := Lib.hid hend
        clear hend
        go_enter Tryd.func11, Tryd.ntmps11
        go_upto_region 4 with fail
        generalize (w.alloc (.cells #[.int .i64 0, .bool false, .int .i64 0, .string ⟨#[]⟩, .slice none 0 0, .slice none 0 0] 25)).alloc (.cells #[.string s, .int .i64 0, .int .i64 0] 55) = wa at *
        go_upto_region 6 with (first
          | (go_at_call 23; refine (HV.out _ HP1.out).mono ?_; rintro e w2 ⟨k0, b0, n0, t0, la, nl, lc, ka, nk, kc, kk, cc, rfl, hkk, p1, f1, hm⟩; have HP2 := Lib.hid p1; have HR2 := Lib.hid (HR1.out.frm f1 (by unfold One; omega)); have HF2 := Lib.hid (HF1.out.trans f1); have HM := Lib.hid hm; have hs1 := f1.size; clear p1 f1 hm)
          | (go_at_call 22; refine (pwhite_any (w.heap.size + 1) s 0 0 _ HP0.out (by omega) hs).mono ?_; rintro e w1 ⟨rfl, p1, f1⟩; have HP1 := Lib.hid p1; have HR1 := Lib.hid (HR0.out.frm f1 (by unfold One; omega)); have HF1 := Lib.hid f1; clear p1 f1))
        have hBa := (Below.refl _ w2).alloc (Nat.le_refl _) (.cells #[.int .i64 k0, .bool b0, .int .i64 n0, .string t0, .slice la nl lc, .slice ka nk kc] 25)
        have HJa := Lib.hid (j6_new w2 (.int .i64 k0) (.bool b0) (.int .i64 n0) (.string t0) (.slice la nl lc) (.slice ka nk kc))
        have HPa := Lib.hid (HP2.out.new hBa)
        have HRa := Lib.hid ((hBa.block _ HR2.out.lt).trans HR2.out)
        have HFa := Lib.hid (HF2.out.trans (Frm.of_new hBa _))
        have HBa := Lib.hid hBa
        generalize w2.alloc (.cells #[.int .i64 k0, .bool b0, .int .i64 n0, .string t0, .slice la nl lc, .slice ka nk kc] 25) = wb at *
        have hw1 := HP1.out.lt
        clear hBa HR2 HR1 HR0 HP0 HP1
        obtain ⟨rfl, rfl, hj⟩ := HM.out
        have HJJ := Lib.hid hj
        clear HM hj
        have hend2 := HE.out
        rw [HL.out] at hend2
        have gn : (((skipW s.data.toList kk : Nat) : Int) != (s.size : Int)) = false := by simp; omega
        have ge : (((skipW s.data.toList kk : Nat) : Int) == (s.size : Int)) = true := by simp; omega
        clear hend2
        go_wp2_with (go_at_call 22; refine (pwhite_any (w.heap.size + 1) s kk 0 _ HPa.out hkk hs).mono ?_; rintro e w3 ⟨rfl, p1, f1⟩; have HP3 := Lib.hid p1; have HR3 : Hid (J6 w3 w.heap.size (.int .i64 0) (.bool false) (.int .i64 0) (.string ⟨#[]⟩) (.slice none 0 0) (.slice none 0 0)) := J6.frm HRa.out f1 (by unfold One; omega); have HJ3 := Lib.hid (HJa.out.frm f1 (by have := HP2.out.lt; unfold One; omega)); have HF3 := Lib.hid (HFa.out.trans f1); have HFw := Lib.hid f1; have c1 := p1.c1; have c2 := p1.c2; have r0 := HR3.out.c0; have r1 := HR3.out.c1; have r2 := HR3.out.c2; have r3 := HR3.out.c3; have r4 := HR3.out.c4; have r5 := HR3.out.c5; have z0 := HR3.out.fz 0; have z1 := HR3.out.fz 1; have z2 := HR3.out.fz 2; have z3 := HR3.out.fz 3; have z4 := HR3.out.fz 4; have z5 := HR3.out.fz 5; clear p1 f1; have a0 := HJ3.out.c0; have a1 := HJ3.out.c1; have a2 := HJ3.out.c2; have a3 := HJ3.out.c3; have a4 := HJ3.out.c4; have a5 := HJ3.out.c5)
        have hv := HR3.out.fill (.int .i64 k0) (.bool b0) (.int .i64 n0) (.string t0) (.slice la nl lc) (.slice ka nk kc)
        have hfv := frm_fill6 w3 w.heap.size (.int .i64 k0) (.bool b0) (.int .i64 n0) (.string t0) (.slice la nl lc) (.slice ka nk kc)
        change bodyPost _ _ _ _ _ (Fill6 w3 w.heap.size (.int .i64 k0) (.bool b0) (.int .i64 n0) (.string t0) (.slice la nl lc) (.slice ka nk kc))
        generalize Fill6 w3 w.heap.size (.int .i64 k0) (.bool b0) (.int .i64 n0) (.string t0) (.slice la nl lc) (.slice ka nk kc) = v at *
        refine bodyPost_ret (v := .tuple #[.agg #[.int .i64 k0, .bool b0, .int .i64 n0, .string t0, .slice la nl lc, .slice ka nk kc], .int .i64 0]) (by simp [results, Tryd.results11, go_sem, hv.c0, hv.c1, hv.c2, hv.c3, hv.c4, hv.c5]) rfl ?_
        have hj1 := HJJ.out.frm (Frm.of_new HBa.out (fun _ => False)) (fun _ _ _ h => h)
        have hj2 := hj1.frm HFw.out (fun g hg _ hP => by have : g = w.heap.size + 1 := hP; have : w1.heap.size ≤ g := hg; omega)
        have hj3 := hj2.frm hfv (fun g hg _ hP => by have : g = w.heap.size := hP; have : w1.heap.size ≤ g := hg; omega)
        exact ⟨_, rfl, below_of_one (below_of_one hA2.out HF3.out (by omega)) hfv (Nat.le_refl _), hj3.mono fun g _ hg => by have : w1.heap.size ≤ g := hg; omega⟩
      · rw [if_neg hend]
        have HE := Lib.hid hend
        clear hend
        go_enter Tryd.func11, Tryd.ntmps11
        go_upto_region 4 with fail
        generalize (w.alloc (.cells #[.int .i64 0, .bool false, .int .i64 0, .string ⟨#[]⟩, .slice none 0 0, .slice none 0 0] 25)).alloc (.cells #[.string s, .int .i64 0, .int .i64 0] 55) = wa at *
        go_upto_region 6 with (first
          | (go_at_call 23; refine (HV.out _ HP1.out).mono ?_; rintro e w2 ⟨k0, b0, n0, t0, la, nl, lc, ka, nk, kc, kk, cc, rfl, hkk, p1, f1, hm⟩; have HP2 := Lib.hid p1; have HR2 := Lib.hid (HR1.out.frm f1 (by unfold One; omega)); have HF2 := Lib.hid (HF1.out.trans f1); have HM := Lib.hid hm; have hs1 := f1.size; clear p1 f1 hm)
          | (go_at_call 22; refine (pwhite_any (w.heap.size + 1) s 0 0 _ HP0.out (by omega) hs).mono ?_; rintro e w1 ⟨rfl, p1, f1⟩; have HP1 := Lib.hid p1; have HR1 := Lib.hid (HR0.out.frm f1 (by unfold One; omega)); have HF1 := Lib.hid f1; clear p1 f1))
        have hBa := (Below.refl _ w2).alloc (Nat.le_refl _) (.cells #[.int .i64 k0, .bool b0, .int .i64 n0, .string t0, .slice la nl lc, .slice ka nk kc] 25)
        have HJa := Lib.hid (j6_new w2 (.int .i64 k0) (.bool b0) (.int .i64 n0) (.string t0) (.slice la nl lc) (.slice ka nk kc))
        have HPa := Lib.hid (HP2.out.new hBa)
        have HRa := Lib.hid ((hBa.block _ HR2.out.lt).trans HR2.out)
        have HFa := Lib.hid (HF2.out.trans (Frm.of_new hBa _))
        have HBa := Lib.hid hBa
        generalize w2.alloc (.cells #[.int .i64 k0, .bool b0, .int .i64 n0, .string t0, .slice la nl lc, .slice ka nk kc] 25) = wb at *
        have hw1 := HP1.out.lt
        clear hBa HR2 HR1 HR0 HP0 HP1
        obtain ⟨rfl, rfl, hj⟩ := HM.out
        have HJJ := Lib.hid hj
        clear HM hj
        have hend2 := HE.out
        rw [HL.out] at hend2
        have gn : (((skipW s.data.toList kk : Nat) : Int) != (s.size : Int)) = true := by simp; omega
        have ge : (((skipW s.data.toList kk : Nat) : Int) == (s.size : Int)) = false := by simp; omega
        clear hend2
        go_upto_region 10 with (first
          | (go_at_call 24; refine (pfail_any (w.heap.size + 1) s _ 0 300 _ HP3.out).mono ?_; rintro e w4 ⟨rfl, p1, f1⟩; rw [if_pos rfl] at p1; have HR4 : Hid (J6 w4 w.heap.size (.int .i64 0) (.bool false) (.int .i64 0) (.string ⟨#[]⟩) (.slice none 0 0) (.slice none 0 0)) := J6.frm HR3.out f1 (by unfold One; omega); have HF4 := Lib.hid (HF3.out.trans f1); have c2 := p1.c2; have r0 := HR4.out.c0; have r1 := HR4.out.c1; have r2 := HR4.out.c2; have r3 := HR4.out.c3; have r4 := HR4.out.c4; have r5 := HR4.out.c5; have z0 := HR4.out.fz 0; have z1 := HR4.out.fz 1; have z2 := HR4.out.fz 2; have z3 := HR4.out.fz 3; have z4 := HR4.out.fz 4; have z5 := HR4.out.fz 5; clear p1 f1)
          | (go_at_call 22; refine (pwhite_any (w.heap.size + 1) s kk 0 _ HPa.out hkk hs).mono ?_; rintro e w3 ⟨rfl, p1, f1⟩; have HP3 := Lib.hid p1; have HR3 : Hid (J6 w3 w.heap.size (.int .i64 0) (.bool false) (.int .i64 0) (.string ⟨#[]⟩) (.slice none 0 0) (.slice none 0 0)) := J6.frm HRa.out f1 (by unfold One; omega); have HJ3 := Lib.hid (HJa.out.frm f1 (by have := HP2.out.lt; unfold One; omega)); have HF3 := Lib.hid (HFa.out.trans f1); have HFw := Lib.hid f1; have c1 := p1.c1; have c2 := p1.c2; have r0 := HR3.out.c0; have r1 := HR3.out.c1; have r2 := HR3.out.c2; have r3 := HR3.out.c3; have r4 := HR3.out.c4; have r5 := HR3.out.c5; have z0 := HR3.out.fz 0; have z1 := HR3.out.fz 1; have z2 := HR3.out.fz 2; have z3 := HR3.out.fz 3; have z4 := HR3.out.fz 4; have z5 := HR3.out.fz 5; clear p1 f1))
        go_region
        go_wp2
        have hv0 := HR4.out.fill (.int .i64 0) (.bool false) (.int .i64 0) (.string ⟨#[]⟩) (.slice none 0 0) (.slice none 0 0)
        have hfv0 := frm_fill6 w4 w.heap.size (.int .i64 0) (.bool false) (.int .i64 0) (.string ⟨#[]⟩) (.slice none 0 0) (.slice none 0 0)
        change bodyPost _ _ _ _ _ (Fill6 w4 w.heap.size (.int .i64 0) (.bool false) (.int .i64 0) (.string ⟨#[]⟩) (.slice none 0 0) (.slice none 0 0)).drew
        generalize Fill6 w4 w.heap.size (.int .i64 0) (.bool false) (.int .i64 0) (.string ⟨#[]⟩) (.slice none 0 0) (.slice none 0 0) = v0 at *
        have hv : J6 v0.drew w.heap.size (.int .i64 0) (.bool false) (.int .i64 0) (.string ⟨#[]⟩) (.slice none 0 0) (.slice none 0 0) := hv0
        have hfv : Frm (One w.heap.size) w4 v0.drew := hfv0.drew
        clear hv0 hfv0
        generalize v0.drew = v at *
        refine bodyPost_ret (v := .tuple #[zJ, .int .i64 300]) (by simp [results, Tryd.results11, go_sem, zJ, hv.c0, hv.c1, hv.c2, hv.c3, hv.c4, hv.c5]) rfl ?_
        exact ⟨rfl, below_of_one (below_of_one hA2.out HF4.out (by omega)) hfv (Nat.le_refl _)⟩
  · have g0 : decide ((s.size : Int) > 65536) = true := by simp; omega
    have g1 : decide ((65536 : Int) < (s.size : Int)) = true := by simp; omega
    have e : parse s.data.toList = .error 302 := by unfold parse; rw [if_pos (by rw [HL.out]; omega)]
    rw [e]
    have hA := ((Below.refl _ w).alloc (Nat.le_refl _) (.cells #[.int .i64 0, .bool false, .int .i64 0, .string ⟨#[]⟩, .slice none 0 0, .slice none 0 0] 25))
    have HR0 := j6_new w (.int .i64 0) (.bool false) (.int .i64 0) (.string ⟨#[]⟩) (.slice none 0 0) (.slice none 0 0)
    go_enter Tryd.func11, Tryd.ntmps11
    go_wp2
    refine bodyPost_ret (v := .tuple #[zJ, .int .i64 302]) (by simp [results, Tryd.results11, go_sem, zJ, HR0.c0, HR0.c1, HR0.c2, HR0.c3, HR0.c4, HR0.c5]) rfl ?_
    exact ⟨rfl, hA⟩
end Go.Proofs.YtcobadgpelhcoaaDoor
