/- The program's parser: a value by its first byte, with the white about it, as deep as it may go. The program's parser: values as deep as they may go; a whole text. The program's Parse: a whole text; what is thrown is caught. The program's Parse: what stands beneath its catch; Parse. The program's Parse. -/
import Derived.Test.YtcobadgpelhcoaaDoorDObj
import Derived.Recover
import Derived.Laws.Pointers
namespace Go.Proofs.YtcobadgpelhcoaaDoor
open Go.Conc Go.RowKit
set_option linter.unusedVariables false
set_option linter.unusedSimpArgs false

theorem JInU.form {F : Nat → Prop} {w : World} {j : J} {c : List Value} (h : JInU F w j c) : ∃ k b n s la ll lc ka kl kc, c = [.int .i64 k, .bool b, .int .i64 n, .string s, .slice la ll lc, .slice ka kl kc] := by
  cases h with
  | mk k b n s l ks lv kv cs hl hk hc hs =>
    obtain ⟨_, a, cap, rfl, _⟩ := hl
    obtain ⟨_, a', cap', rfl, _⟩ := hk
    exact ⟨_, _, _, _, _, _, _, _, _, _, rfl⟩
theorem J6.drewN {w : World} {b : Nat} {a0 a1 a2 a3 a4 a5 : Value} (h : J6 w b a0 a1 a2 a3 a4 a5) (n : Nat) : J6 (w.drewN n) b a0 a1 a2 a3 a4 a5 := h

set_option maxHeartbeats 4000000 in
set_option maxRecDepth 100000 in
theorem jbare_list_no (pb : Nat) (s : ByteArray) (i d : Nat) (x : Int) (w : World) (h : JPAt w pb s i d) (hs : s.size ≤ 65536) (hc : pk s.data.toList i = 91)
    (hl : ∀ u, JPAt u pb s i d → Calls Tryd.prog 69 #[.pointer (some ⟨pb, 0, none⟩)] u (JV pb s i d (.error x) u)) :
    Calls Tryd.prog 56 #[.pointer (some ⟨pb, 0, none⟩)] w (JV pb s i d (.error x) w) := by
  have H := Lib.hid h
  have HC := Lib.hid hc
  have HLL := Lib.hid hl
  clear h hc hl
  go_enter Tryd.func56, Tryd.ntmps56
  go_wp2_with (first
    | (go_at_call 68
       have hB := Lib.hid (j6_new w (.int .i64 0) (.bool false) (.int .i64 0) (.string ⟨#[]⟩) (.slice none 0 0) (.slice none 0 0))
       have hA := Lib.hid ((Frm.refl (One pb) w).alloc (.cells #[.int .i64 0, .bool false, .int .i64 0, .string ⟨#[]⟩, .slice none 0 0, .slice none 0 0] 25))
       have hP := Lib.hid (H.out.below ((Below.refl _ w).alloc (Nat.le_refl _) (.cells #[.int .i64 0, .bool false, .int .i64 0, .string ⟨#[]⟩, .slice none 0 0, .slice none 0 0] 25)))
       refine (jpeek_is hP.out hs HC.out).mono ?_; rintro e u' ⟨rfl, n, rfl⟩)
    | (go_at_call 69; refine (HLL.out _ (hP.out.drewN n)).mono ?_; rintro e w1 ⟨rfl, hf⟩; unfold thrown; have HF := Lib.hid hf; clear hf))
  exact ⟨rfl, rfl, (hA.out.drewN n).trans HF.out⟩
set_option maxHeartbeats 4000000 in
set_option maxRecDepth 100000 in
theorem jbare_list_yes (pb : Nat) (s : ByteArray) (i d : Nat) (j : J) (k : Nat) (w : World) (h : JPAt w pb s i d) (hs : s.size ≤ 65536) (hc : pk s.data.toList i = 91)
    (hl : ∀ u, JPAt u pb s i d → Calls Tryd.prog 69 #[.pointer (some ⟨pb, 0, none⟩)] u (JV pb s i d (.ok (j, k)) u)) :
    Calls Tryd.prog 56 #[.pointer (some ⟨pb, 0, none⟩)] w (JV pb s i d (.ok (j, k)) w) := by
  have hlt := h.lt
  have H := Lib.hid h
  have HC := Lib.hid hc
  have HLL := Lib.hid hl
  clear h hc hl
  go_enter Tryd.func56, Tryd.ntmps56
  go_wp2_with (first
    | (go_at_call 68
       have hB := Lib.hid (j6_new w (.int .i64 0) (.bool false) (.int .i64 0) (.string ⟨#[]⟩) (.slice none 0 0) (.slice none 0 0))
       have hA := Lib.hid ((Frm.refl (One pb) w).alloc (.cells #[.int .i64 0, .bool false, .int .i64 0, .string ⟨#[]⟩, .slice none 0 0, .slice none 0 0] 25))
       have hP := Lib.hid (H.out.below ((Below.refl _ w).alloc (Nat.le_refl _) (.cells #[.int .i64 0, .bool false, .int .i64 0, .string ⟨#[]⟩, .slice none 0 0, .slice none 0 0] 25)))
       refine (jpeek_is hP.out hs HC.out).mono ?_; rintro e u' ⟨rfl, n, rfl⟩)
    | (go_at_call 69; refine (HLL.out _ (hP.out.drewN n)).mono ?_; rintro e w1 ⟨cs, rfl, hik, hks, hp, hf, hj⟩; obtain ⟨xk, xb, xn, xs, xla, xll, xlc, xka, xkl, xkc, rfl⟩ := hj.form; have HF := Lib.hid hf; have HP1 := Lib.hid hp; have HJ := Lib.hid hj; clear hf hp hj
       have HR2 := Lib.hid ((hB.out.drewN n).frm HF.out (by unfold One; omega))
       have r0 := HR2.out.c0; have r1 := HR2.out.c1; have r2 := HR2.out.c2; have r3 := HR2.out.c3; have r4 := HR2.out.c4; have r5 := HR2.out.c5
       have z0 := HR2.out.fz 0; have z1 := HR2.out.fz 1; have z2 := HR2.out.fz 2; have z3 := HR2.out.fz 3; have z4 := HR2.out.fz 4; have z5 := HR2.out.fz 5))
  have hv := HR2.out.fill (Value.int .i64 xk) (Value.bool xb) (Value.int .i64 xn) (Value.string xs) (Value.slice xla xll xlc) (Value.slice xka xkl xkc)
  have hfv := frm_fill6 w1 w.heap.size (Value.int .i64 xk) (Value.bool xb) (Value.int .i64 xn) (Value.string xs) (Value.slice xla xll xlc) (Value.slice xka xkl xkc)
  change bodyPost _ _ _ _ _ (Fill6 w1 w.heap.size (Value.int .i64 xk) (Value.bool xb) (Value.int .i64 xn) (Value.string xs) (Value.slice xla xll xlc) (Value.slice xka xkl xkc))
  generalize Fill6 w1 w.heap.size (Value.int .i64 xk) (Value.bool xb) (Value.int .i64 xn) (Value.string xs) (Value.slice xla xll xlc) (Value.slice xka xkl xkc) = v at *
  refine bodyPost_ret (v := .agg #[Value.int .i64 xk, Value.bool xb, Value.int .i64 xn, Value.string xs, Value.slice xla xll xlc, Value.slice xka xkl xkc]) (by simp [results, Tryd.results56, go_sem, hv.c0, hv.c1, hv.c2, hv.c3, hv.c4, hv.c5]) rfl ?_
  have hff := frm_new_one ((hA.out.drewN n).trans HF.out) (Nat.le_refl _) hfv
  exact ⟨_, rfl, hik, hks, HP1.out.frm hfv (by unfold One; omega), hff, (HJ.out.frm hfv fun g hg _ hgp => by have : g = w.heap.size := hgp; simp at hg; omega).mono fun g _ hg => by simp at hg; omega⟩

set_option maxHeartbeats 4000000 in
set_option maxRecDepth 100000 in
theorem jbare_obj_no (pb : Nat) (s : ByteArray) (i d : Nat) (x : Int) (w : World) (h : JPAt w pb s i d) (hs : s.size ≤ 65536) (hc : pk s.data.toList i = 123)
    (hl : ∀ u, JPAt u pb s i d → Calls Tryd.prog 70 #[.pointer (some ⟨pb, 0, none⟩)] u (JV pb s i d (.error x) u)) :
    Calls Tryd.prog 56 #[.pointer (some ⟨pb, 0, none⟩)] w (JV pb s i d (.error x) w) := by
  have H := Lib.hid h
  have HC := Lib.hid hc
  have HLL := Lib.hid hl
  clear h hc hl
  go_enter Tryd.func56, Tryd.ntmps56
  go_wp2_with (first
    | (go_at_call 68
       have hB := Lib.hid (j6_new w (.int .i64 0) (.bool false) (.int .i64 0) (.string ⟨#[]⟩) (.slice none 0 0) (.slice none 0 0))
       have hA := Lib.hid ((Frm.refl (One pb) w).alloc (.cells #[.int .i64 0, .bool false, .int .i64 0, .string ⟨#[]⟩, .slice none 0 0, .slice none 0 0] 25))
       have hP := Lib.hid (H.out.below ((Below.refl _ w).alloc (Nat.le_refl _) (.cells #[.int .i64 0, .bool false, .int .i64 0, .string ⟨#[]⟩, .slice none 0 0, .slice none 0 0] 25)))
       refine (jpeek_is hP.out hs HC.out).mono ?_; rintro e u' ⟨rfl, n, rfl⟩)
    | (go_at_call 70; refine (HLL.out _ (hP.out.drewN n)).mono ?_; rintro e w1 ⟨rfl, hf⟩; unfold thrown; have HF := Lib.hid hf; clear hf))
  exact ⟨rfl, rfl, (hA.out.drewN n).trans HF.out⟩
set_option maxHeartbeats 4000000 in
set_option maxRecDepth 100000 in
theorem jbare_obj_yes (pb : Nat) (s : ByteArray) (i d : Nat) (j : J) (k : Nat) (w : World) (h : JPAt w pb s i d) (hs : s.size ≤ 65536) (hc : pk s.data.toList i = 123)
    (hl : ∀ u, JPAt u pb s i d → Calls Tryd.prog 70 #[.pointer (some ⟨pb, 0, none⟩)] u (JV pb s i d (.ok (j, k)) u)) :
    Calls Tryd.prog 56 #[.pointer (some ⟨pb, 0, none⟩)] w (JV pb s i d (.ok (j, k)) w) := by
  have hlt := h.lt
  have H := Lib.hid h
  have HC := Lib.hid hc
  have HLL := Lib.hid hl
  clear h hc hl
  go_enter Tryd.func56, Tryd.ntmps56
  go_wp2_with (first
    | (go_at_call 68
       have hB := Lib.hid (j6_new w (.int .i64 0) (.bool false) (.int .i64 0) (.string ⟨#[]⟩) (.slice none 0 0) (.slice none 0 0))
       have hA := Lib.hid ((Frm.refl (One pb) w).alloc (.cells #[.int .i64 0, .bool false, .int .i64 0, .string ⟨#[]⟩, .slice none 0 0, .slice none 0 0] 25))
       have hP := Lib.hid (H.out.below ((Below.refl _ w).alloc (Nat.le_refl _) (.cells #[.int .i64 0, .bool false, .int .i64 0, .string ⟨#[]⟩, .slice none 0 0, .slice none 0 0] 25)))
       refine (jpeek_is hP.out hs HC.out).mono ?_; rintro e u' ⟨rfl, n, rfl⟩)
    | (go_at_call 70; refine (HLL.out _ (hP.out.drewN n)).mono ?_; rintro e w1 ⟨cs, rfl, hik, hks, hp, hf, hj⟩; obtain ⟨xk, xb, xn, xs, xla, xll, xlc, xka, xkl, xkc, rfl⟩ := hj.form; have HF := Lib.hid hf; have HP1 := Lib.hid hp; have HJ := Lib.hid hj; clear hf hp hj
       have HR2 := Lib.hid ((hB.out.drewN n).frm HF.out (by unfold One; omega))
       have r0 := HR2.out.c0; have r1 := HR2.out.c1; have r2 := HR2.out.c2; have r3 := HR2.out.c3; have r4 := HR2.out.c4; have r5 := HR2.out.c5
       have z0 := HR2.out.fz 0; have z1 := HR2.out.fz 1; have z2 := HR2.out.fz 2; have z3 := HR2.out.fz 3; have z4 := HR2.out.fz 4; have z5 := HR2.out.fz 5))
  have hv := HR2.out.fill (Value.int .i64 xk) (Value.bool xb) (Value.int .i64 xn) (Value.string xs) (Value.slice xla xll xlc) (Value.slice xka xkl xkc)
  have hfv := frm_fill6 w1 w.heap.size (Value.int .i64 xk) (Value.bool xb) (Value.int .i64 xn) (Value.string xs) (Value.slice xla xll xlc) (Value.slice xka xkl xkc)
  change bodyPost _ _ _ _ _ (Fill6 w1 w.heap.size (Value.int .i64 xk) (Value.bool xb) (Value.int .i64 xn) (Value.string xs) (Value.slice xla xll xlc) (Value.slice xka xkl xkc))
  generalize Fill6 w1 w.heap.size (Value.int .i64 xk) (Value.bool xb) (Value.int .i64 xn) (Value.string xs) (Value.slice xla xll xlc) (Value.slice xka xkl xkc) = v at *
  refine bodyPost_ret (v := .agg #[Value.int .i64 xk, Value.bool xb, Value.int .i64 xn, Value.string xs, Value.slice xla xll xlc, Value.slice xka xkl xkc]) (by simp [results, Tryd.results56, go_sem, hv.c0, hv.c1, hv.c2, hv.c3, hv.c4, hv.c5]) rfl ?_
  have hff := frm_new_one ((hA.out.drewN n).trans HF.out) (Nat.le_refl _) hfv
  exact ⟨_, rfl, hik, hks, HP1.out.frm hfv (by unfold One; omega), hff, (HJ.out.frm hfv fun g hg _ hgp => by have : g = w.heap.size := hgp; simp at hg; omega).mono fun g _ hg => by simp at hg; omega⟩

set_option maxHeartbeats 4000000 in
set_option maxRecDepth 100000 in
theorem jbare_text_no (pb : Nat) (s : ByteArray) (i d c : Nat) (x : Int) (w : World) (h : JPAt w pb s i d) (hs : s.size ≤ 65536) (hc : pk s.data.toList i = c) (hc34 : c = 34)
    (hl : ∀ u, JPAt u pb s i d → Calls Tryd.prog 71 #[.pointer (some ⟨pb, 0, none⟩)] u (JRes pb s d (.error x) u)) :
    Calls Tryd.prog 56 #[.pointer (some ⟨pb, 0, none⟩)] w (JV pb s i d (.error x) w) := by
  have H := Lib.hid h
  have HC := Lib.hid hc
  have HLL := Lib.hid hl
  subst hc34
  clear h hc hl
  go_enter Tryd.func56, Tryd.ntmps56
  go_wp2_with (first
    | (go_at_call 68
       have hB := Lib.hid (j6_new w (.int .i64 0) (.bool false) (.int .i64 0) (.string ⟨#[]⟩) (.slice none 0 0) (.slice none 0 0))
       have hA := Lib.hid ((Frm.refl (One pb) w).alloc (.cells #[.int .i64 0, .bool false, .int .i64 0, .string ⟨#[]⟩, .slice none 0 0, .slice none 0 0] 25))
       have hP := Lib.hid (H.out.below ((Below.refl _ w).alloc (Nat.le_refl _) (.cells #[.int .i64 0, .bool false, .int .i64 0, .string ⟨#[]⟩, .slice none 0 0, .slice none 0 0] 25)))
       refine (jpeek_is hP.out hs HC.out).mono ?_; rintro e u' ⟨rfl, n, rfl⟩)
    | (go_at_call 71; refine (HLL.out _ (hP.out.drewN n)).mono ?_; rintro e w1 ⟨rfl, hf⟩; unfold thrown; have HF := Lib.hid hf; clear hf))
  exact ⟨rfl, rfl, (hA.out.drewN n).trans HF.out⟩
set_option maxHeartbeats 4000000 in
set_option maxRecDepth 100000 in
theorem jbare_text_yes (pb : Nat) (s : ByteArray) (i d c : Nat) (t : ByteArray) (k : Nat) (w : World) (h : JPAt w pb s i d) (hs : s.size ≤ 65536) (hc : pk s.data.toList i = c) (hc34 : c = 34) (hik : i ≤ k) (hks : k ≤ s.size)
    (hl : ∀ u, JPAt u pb s i d → Calls Tryd.prog 71 #[.pointer (some ⟨pb, 0, none⟩)] u (JRes pb s d (.ok (.string t, k)) u)) :
    Calls Tryd.prog 56 #[.pointer (some ⟨pb, 0, none⟩)] w (JV pb s i d (.ok (jText t, k)) w) := by
  have hlt := h.lt
  have H := Lib.hid h
  have HC := Lib.hid hc
  have HLL := Lib.hid hl
  subst hc34
  clear h hc hl
  go_enter Tryd.func56, Tryd.ntmps56
  go_wp2_with (first
    | (go_at_call 68
       have hB := Lib.hid (j6_new w (.int .i64 0) (.bool false) (.int .i64 0) (.string ⟨#[]⟩) (.slice none 0 0) (.slice none 0 0))
       have hA := Lib.hid ((Frm.refl (One pb) w).alloc (.cells #[.int .i64 0, .bool false, .int .i64 0, .string ⟨#[]⟩, .slice none 0 0, .slice none 0 0] 25))
       have hP := Lib.hid (H.out.below ((Below.refl _ w).alloc (Nat.le_refl _) (.cells #[.int .i64 0, .bool false, .int .i64 0, .string ⟨#[]⟩, .slice none 0 0, .slice none 0 0] 25)))
       refine (jpeek_is hP.out hs HC.out).mono ?_; rintro e u' ⟨rfl, n, rfl⟩)
    | (go_at_call 71; refine (HLL.out _ (hP.out.drewN n)).mono ?_; rintro e w1 ⟨rfl, hp, hf⟩; have HF := Lib.hid hf; have HP1 := Lib.hid hp; clear hf hp
       have HR2 := Lib.hid ((hB.out.drewN n).frm HF.out (by unfold One; omega))
       have r0 := HR2.out.c0; have r1 := HR2.out.c1; have r2 := HR2.out.c2; have r3 := HR2.out.c3; have r4 := HR2.out.c4; have r5 := HR2.out.c5
       have z0 := HR2.out.fz 0; have z1 := HR2.out.fz 1; have z2 := HR2.out.fz 2; have z3 := HR2.out.fz 3; have z4 := HR2.out.fz 4; have z5 := HR2.out.fz 5))
  have hv := HR2.out.fill (Value.int .i64 3) (Value.bool false) (Value.int .i64 0) (Value.string t) (Value.slice none 0 0) (Value.slice none 0 0)
  have hfv := frm_fill6 w1 w.heap.size (Value.int .i64 3) (Value.bool false) (Value.int .i64 0) (Value.string t) (Value.slice none 0 0) (Value.slice none 0 0)
  change bodyPost _ _ _ _ _ (Fill6 w1 w.heap.size (Value.int .i64 3) (Value.bool false) (Value.int .i64 0) (Value.string t) (Value.slice none 0 0) (Value.slice none 0 0))
  generalize Fill6 w1 w.heap.size (Value.int .i64 3) (Value.bool false) (Value.int .i64 0) (Value.string t) (Value.slice none 0 0) (Value.slice none 0 0) = v at *
  refine bodyPost_ret (v := .agg #[Value.int .i64 3, Value.bool false, Value.int .i64 0, Value.string t, Value.slice none 0 0, Value.slice none 0 0]) (by simp [results, Tryd.results56, go_sem, hv.c0, hv.c1, hv.c2, hv.c3, hv.c4, hv.c5]) rfl ?_
  have hff := frm_new_one ((hA.out.drewN n).trans HF.out) (Nat.le_refl _) hfv
  exact ⟨_, rfl, hik, hks, HP1.out.frm hfv (by unfold One; omega), hff, JInU.plain 3 false 0 t⟩

set_option maxHeartbeats 4000000 in
set_option maxRecDepth 100000 in
theorem jbare_num_no (pb : Nat) (s : ByteArray) (i d c : Nat) (x : Int) (w : World) (h : JPAt w pb s i d) (hs : s.size ≤ 65536) (hc : pk s.data.toList i = c) (h91 : ¬ c = 91) (h123 : ¬ c = 123) (h34 : ¬ c = 34) (h110 : ¬ c = 110) (h116 : ¬ c = 116) (h102 : ¬ c = 102)
    (hl : ∀ u, JPAt u pb s i d → Calls Tryd.prog 73 #[.pointer (some ⟨pb, 0, none⟩)] u (JRes pb s d (.error x) u)) :
    Calls Tryd.prog 56 #[.pointer (some ⟨pb, 0, none⟩)] w (JV pb s i d (.error x) w) := by
  have H := Lib.hid h
  have HC := Lib.hid hc
  have HLL := Lib.hid hl
  clear h hc hl
  go_enter Tryd.func56, Tryd.ntmps56
  go_wp2_with (first
    | (go_at_call 68
       have hB := Lib.hid (j6_new w (.int .i64 0) (.bool false) (.int .i64 0) (.string ⟨#[]⟩) (.slice none 0 0) (.slice none 0 0))
       have hA := Lib.hid ((Frm.refl (One pb) w).alloc (.cells #[.int .i64 0, .bool false, .int .i64 0, .string ⟨#[]⟩, .slice none 0 0, .slice none 0 0] 25))
       have hP := Lib.hid (H.out.below ((Below.refl _ w).alloc (Nat.le_refl _) (.cells #[.int .i64 0, .bool false, .int .i64 0, .string ⟨#[]⟩, .slice none 0 0, .slice none 0 0] 25)))
       refine (jpeek_is hP.out hs HC.out).mono ?_; rintro e u' ⟨rfl, n, rfl⟩)
    | (go_at_call 73; refine (HLL.out _ (hP.out.drewN n)).mono ?_; rintro e w1 ⟨rfl, hf⟩; unfold thrown; have HF := Lib.hid hf; clear hf))
  exact ⟨rfl, rfl, (hA.out.drewN n).trans HF.out⟩
set_option maxHeartbeats 4000000 in
set_option maxRecDepth 100000 in
theorem jbare_num_yes (pb : Nat) (s : ByteArray) (i d c : Nat) (y : Int) (k : Nat) (w : World) (h : JPAt w pb s i d) (hs : s.size ≤ 65536) (hc : pk s.data.toList i = c) (h91 : ¬ c = 91) (h123 : ¬ c = 123) (h34 : ¬ c = 34) (h110 : ¬ c = 110) (h116 : ¬ c = 116) (h102 : ¬ c = 102) (hik : i ≤ k) (hks : k ≤ s.size)
    (hl : ∀ u, JPAt u pb s i d → Calls Tryd.prog 73 #[.pointer (some ⟨pb, 0, none⟩)] u (JRes pb s d (.ok (.int .i64 y, k)) u)) :
    Calls Tryd.prog 56 #[.pointer (some ⟨pb, 0, none⟩)] w (JV pb s i d (.ok (jInt y, k)) w) := by
  have hlt := h.lt
  have H := Lib.hid h
  have HC := Lib.hid hc
  have HLL := Lib.hid hl
  clear h hc hl
  go_enter Tryd.func56, Tryd.ntmps56
  go_wp2_with (first
    | (go_at_call 68
       have hB := Lib.hid (j6_new w (.int .i64 0) (.bool false) (.int .i64 0) (.string ⟨#[]⟩) (.slice none 0 0) (.slice none 0 0))
       have hA := Lib.hid ((Frm.refl (One pb) w).alloc (.cells #[.int .i64 0, .bool false, .int .i64 0, .string ⟨#[]⟩, .slice none 0 0, .slice none 0 0] 25))
       have hP := Lib.hid (H.out.below ((Below.refl _ w).alloc (Nat.le_refl _) (.cells #[.int .i64 0, .bool false, .int .i64 0, .string ⟨#[]⟩, .slice none 0 0, .slice none 0 0] 25)))
       refine (jpeek_is hP.out hs HC.out).mono ?_; rintro e u' ⟨rfl, n, rfl⟩)
    | (go_at_call 73; refine (HLL.out _ (hP.out.drewN n)).mono ?_; rintro e w1 ⟨rfl, hp, hf⟩; have HF := Lib.hid hf; have HP1 := Lib.hid hp; clear hf hp
       have HR2 := Lib.hid ((hB.out.drewN n).frm HF.out (by unfold One; omega))
       have r0 := HR2.out.c0; have r1 := HR2.out.c1; have r2 := HR2.out.c2; have r3 := HR2.out.c3; have r4 := HR2.out.c4; have r5 := HR2.out.c5
       have z0 := HR2.out.fz 0; have z1 := HR2.out.fz 1; have z2 := HR2.out.fz 2; have z3 := HR2.out.fz 3; have z4 := HR2.out.fz 4; have z5 := HR2.out.fz 5))
  have hv := HR2.out.fill (Value.int .i64 2) (Value.bool false) (Value.int .i64 y) (Value.string ⟨#[]⟩) (Value.slice none 0 0) (Value.slice none 0 0)
  have hfv := frm_fill6 w1 w.heap.size (Value.int .i64 2) (Value.bool false) (Value.int .i64 y) (Value.string ⟨#[]⟩) (Value.slice none 0 0) (Value.slice none 0 0)
  change bodyPost _ _ _ _ _ (Fill6 w1 w.heap.size (Value.int .i64 2) (Value.bool false) (Value.int .i64 y) (Value.string ⟨#[]⟩) (Value.slice none 0 0) (Value.slice none 0 0))
  generalize Fill6 w1 w.heap.size (Value.int .i64 2) (Value.bool false) (Value.int .i64 y) (Value.string ⟨#[]⟩) (Value.slice none 0 0) (Value.slice none 0 0) = v at *
  refine bodyPost_ret (v := .agg #[Value.int .i64 2, Value.bool false, Value.int .i64 y, Value.string ⟨#[]⟩, Value.slice none 0 0, Value.slice none 0 0]) (by simp [results, Tryd.results56, go_sem, hv.c0, hv.c1, hv.c2, hv.c3, hv.c4, hv.c5]) rfl ?_
  have hff := frm_new_one ((hA.out.drewN n).trans HF.out) (Nat.le_refl _) hfv
  exact ⟨_, rfl, hik, hks, HP1.out.frm hfv (by unfold One; omega), hff, JInU.plain 2 false y ⟨#[]⟩⟩

set_option maxHeartbeats 4000000 in
set_option maxRecDepth 100000 in
theorem jbare_null_no (pb : Nat) (s : ByteArray) (i d : Nat) (w : World) (h : JPAt w pb s i d) (hs : s.size ≤ 65536) (hi : i ≤ s.size) (hc : pk s.data.toList i = 110) (hw : wordAt [110, 117, 108, 108] s.data.toList i = false) :
    Calls Tryd.prog 56 #[.pointer (some ⟨pb, 0, none⟩)] w (JV pb s i d (.error 300) w) := by
  have H := Lib.hid h
  have HC := Lib.hid hc
  have HW := Lib.hid hw
  clear h hc hw
  go_enter Tryd.func56, Tryd.ntmps56
  go_wp2_with (first
    | (go_at_call 68
       have hB := Lib.hid (j6_new w (.int .i64 0) (.bool false) (.int .i64 0) (.string ⟨#[]⟩) (.slice none 0 0) (.slice none 0 0))
       have hA := Lib.hid ((Frm.refl (One pb) w).alloc (.cells #[.int .i64 0, .bool false, .int .i64 0, .string ⟨#[]⟩, .slice none 0 0, .slice none 0 0] 25))
       have hP := Lib.hid (H.out.below ((Below.refl _ w).alloc (Nat.le_refl _) (.cells #[.int .i64 0, .bool false, .int .i64 0, .string ⟨#[]⟩, .slice none 0 0, .slice none 0 0] 25)))
       refine (jpeek_is hP.out hs HC.out).mono ?_; rintro e u' ⟨rfl, n, rfl⟩)
    | (go_at_call 72; refine (jexpect_no pb s ⟨#[110, 117, 108, 108]⟩ i d _ (hP.out.drewN n) hs hi (by decide) HW.out).mono ?_; rintro e w1 ⟨rfl, hf⟩; unfold thrown; have HF := Lib.hid hf; clear hf))
  exact ⟨rfl, rfl, (hA.out.drewN n).trans HF.out⟩
set_option maxHeartbeats 4000000 in
set_option maxRecDepth 100000 in
theorem jbare_null_yes (pb : Nat) (s : ByteArray) (i d : Nat) (w : World) (h : JPAt w pb s i d) (hs : s.size ≤ 65536) (hi : i ≤ s.size) (hc : pk s.data.toList i = 110) (hw : wordAt [110, 117, 108, 108] s.data.toList i = true) (hks : i + 4 ≤ s.size) :
    Calls Tryd.prog 56 #[.pointer (some ⟨pb, 0, none⟩)] w (JV pb s i d (.ok (jNull, i + 4)) w) := by
  have hlt := h.lt
  have H := Lib.hid h
  have HC := Lib.hid hc
  have HW := Lib.hid hw
  clear h hc hw
  go_enter Tryd.func56, Tryd.ntmps56
  go_wp2_with (first
    | (go_at_call 68
       have hB := Lib.hid (j6_new w (.int .i64 0) (.bool false) (.int .i64 0) (.string ⟨#[]⟩) (.slice none 0 0) (.slice none 0 0))
       have hA := Lib.hid ((Frm.refl (One pb) w).alloc (.cells #[.int .i64 0, .bool false, .int .i64 0, .string ⟨#[]⟩, .slice none 0 0, .slice none 0 0] 25))
       have hP := Lib.hid (H.out.below ((Below.refl _ w).alloc (Nat.le_refl _) (.cells #[.int .i64 0, .bool false, .int .i64 0, .string ⟨#[]⟩, .slice none 0 0, .slice none 0 0] 25)))
       refine (jpeek_is hP.out hs HC.out).mono ?_; rintro e u' ⟨rfl, n, rfl⟩)
    | (go_at_call 72; refine (jexpect_yes pb s ⟨#[110, 117, 108, 108]⟩ i d _ (hP.out.drewN n) hs hi (by decide) HW.out).mono ?_; rintro e w1 ⟨rfl, hp, hf⟩; have HF := Lib.hid hf; have HP1 := Lib.hid hp; clear hf hp
       have HR2 := Lib.hid ((hB.out.drewN n).frm HF.out (by unfold One; omega))
       have r0 := HR2.out.c0; have r1 := HR2.out.c1; have r2 := HR2.out.c2; have r3 := HR2.out.c3; have r4 := HR2.out.c4; have r5 := HR2.out.c5
       have z0 := HR2.out.fz 0; have z1 := HR2.out.fz 1; have z2 := HR2.out.fz 2; have z3 := HR2.out.fz 3; have z4 := HR2.out.fz 4; have z5 := HR2.out.fz 5))
  have hv := HR2.out.fill (Value.int .i64 0) (Value.bool false) (Value.int .i64 0) (Value.string ⟨#[]⟩) (Value.slice none 0 0) (Value.slice none 0 0)
  have hfv := frm_fill6 w1 w.heap.size (Value.int .i64 0) (Value.bool false) (Value.int .i64 0) (Value.string ⟨#[]⟩) (Value.slice none 0 0) (Value.slice none 0 0)
  change bodyPost _ _ _ _ _ (Fill6 w1 w.heap.size (Value.int .i64 0) (Value.bool false) (Value.int .i64 0) (Value.string ⟨#[]⟩) (Value.slice none 0 0) (Value.slice none 0 0))
  generalize Fill6 w1 w.heap.size (Value.int .i64 0) (Value.bool false) (Value.int .i64 0) (Value.string ⟨#[]⟩) (Value.slice none 0 0) (Value.slice none 0 0) = v at *
  refine bodyPost_ret (v := .agg #[Value.int .i64 0, Value.bool false, Value.int .i64 0, Value.string ⟨#[]⟩, Value.slice none 0 0, Value.slice none 0 0]) (by simp [results, Tryd.results56, go_sem, hv.c0, hv.c1, hv.c2, hv.c3, hv.c4, hv.c5]) rfl ?_
  have hff := frm_new_one ((hA.out.drewN n).trans HF.out) (Nat.le_refl _) hfv
  exact ⟨_, rfl, by omega, hks, HP1.out.frm hfv (by unfold One; omega), hff, JInU.plain 0 false 0 ⟨#[]⟩⟩

set_option maxHeartbeats 4000000 in
set_option maxRecDepth 100000 in
theorem jbare_true_no (pb : Nat) (s : ByteArray) (i d : Nat) (w : World) (h : JPAt w pb s i d) (hs : s.size ≤ 65536) (hi : i ≤ s.size) (hc : pk s.data.toList i = 116) (hw : wordAt [116, 114, 117, 101] s.data.toList i = false) :
    Calls Tryd.prog 56 #[.pointer (some ⟨pb, 0, none⟩)] w (JV pb s i d (.error 300) w) := by
  have H := Lib.hid h
  have HC := Lib.hid hc
  have HW := Lib.hid hw
  clear h hc hw
  go_enter Tryd.func56, Tryd.ntmps56
  go_wp2_with (first
    | (go_at_call 68
       have hB := Lib.hid (j6_new w (.int .i64 0) (.bool false) (.int .i64 0) (.string ⟨#[]⟩) (.slice none 0 0) (.slice none 0 0))
       have hA := Lib.hid ((Frm.refl (One pb) w).alloc (.cells #[.int .i64 0, .bool false, .int .i64 0, .string ⟨#[]⟩, .slice none 0 0, .slice none 0 0] 25))
       have hP := Lib.hid (H.out.below ((Below.refl _ w).alloc (Nat.le_refl _) (.cells #[.int .i64 0, .bool false, .int .i64 0, .string ⟨#[]⟩, .slice none 0 0, .slice none 0 0] 25)))
       refine (jpeek_is hP.out hs HC.out).mono ?_; rintro e u' ⟨rfl, n, rfl⟩)
    | (go_at_call 72; refine (jexpect_no pb s ⟨#[116, 114, 117, 101]⟩ i d _ (hP.out.drewN n) hs hi (by decide) HW.out).mono ?_; rintro e w1 ⟨rfl, hf⟩; unfold thrown; have HF := Lib.hid hf; clear hf))
  exact ⟨rfl, rfl, (hA.out.drewN n).trans HF.out⟩
set_option maxHeartbeats 4000000 in
set_option maxRecDepth 100000 in
theorem jbare_true_yes (pb : Nat) (s : ByteArray) (i d : Nat) (w : World) (h : JPAt w pb s i d) (hs : s.size ≤ 65536) (hi : i ≤ s.size) (hc : pk s.data.toList i = 116) (hw : wordAt [116, 114, 117, 101] s.data.toList i = true) (hks : i + 4 ≤ s.size) :
    Calls Tryd.prog 56 #[.pointer (some ⟨pb, 0, none⟩)] w (JV pb s i d (.ok (jBool true, i + 4)) w) := by
  have hlt := h.lt
  have H := Lib.hid h
  have HC := Lib.hid hc
  have HW := Lib.hid hw
  clear h hc hw
  go_enter Tryd.func56, Tryd.ntmps56
  go_wp2_with (first
    | (go_at_call 68
       have hB := Lib.hid (j6_new w (.int .i64 0) (.bool false) (.int .i64 0) (.string ⟨#[]⟩) (.slice none 0 0) (.slice none 0 0))
       have hA := Lib.hid ((Frm.refl (One pb) w).alloc (.cells #[.int .i64 0, .bool false, .int .i64 0, .string ⟨#[]⟩, .slice none 0 0, .slice none 0 0] 25))
       have hP := Lib.hid (H.out.below ((Below.refl _ w).alloc (Nat.le_refl _) (.cells #[.int .i64 0, .bool false, .int .i64 0, .string ⟨#[]⟩, .slice none 0 0, .slice none 0 0] 25)))
       refine (jpeek_is hP.out hs HC.out).mono ?_; rintro e u' ⟨rfl, n, rfl⟩)
    | (go_at_call 72; refine (jexpect_yes pb s ⟨#[116, 114, 117, 101]⟩ i d _ (hP.out.drewN n) hs hi (by decide) HW.out).mono ?_; rintro e w1 ⟨rfl, hp, hf⟩; have HF := Lib.hid hf; have HP1 := Lib.hid hp; clear hf hp
       have HR2 := Lib.hid ((hB.out.drewN n).frm HF.out (by unfold One; omega))
       have r0 := HR2.out.c0; have r1 := HR2.out.c1; have r2 := HR2.out.c2; have r3 := HR2.out.c3; have r4 := HR2.out.c4; have r5 := HR2.out.c5
       have z0 := HR2.out.fz 0; have z1 := HR2.out.fz 1; have z2 := HR2.out.fz 2; have z3 := HR2.out.fz 3; have z4 := HR2.out.fz 4; have z5 := HR2.out.fz 5))
  have hv := HR2.out.fill (Value.int .i64 1) (Value.bool true) (Value.int .i64 0) (Value.string ⟨#[]⟩) (Value.slice none 0 0) (Value.slice none 0 0)
  have hfv := frm_fill6 w1 w.heap.size (Value.int .i64 1) (Value.bool true) (Value.int .i64 0) (Value.string ⟨#[]⟩) (Value.slice none 0 0) (Value.slice none 0 0)
  change bodyPost _ _ _ _ _ (Fill6 w1 w.heap.size (Value.int .i64 1) (Value.bool true) (Value.int .i64 0) (Value.string ⟨#[]⟩) (Value.slice none 0 0) (Value.slice none 0 0))
  generalize Fill6 w1 w.heap.size (Value.int .i64 1) (Value.bool true) (Value.int .i64 0) (Value.string ⟨#[]⟩) (Value.slice none 0 0) (Value.slice none 0 0) = v at *
  refine bodyPost_ret (v := .agg #[Value.int .i64 1, Value.bool true, Value.int .i64 0, Value.string ⟨#[]⟩, Value.slice none 0 0, Value.slice none 0 0]) (by simp [results, Tryd.results56, go_sem, hv.c0, hv.c1, hv.c2, hv.c3, hv.c4, hv.c5]) rfl ?_
  have hff := frm_new_one ((hA.out.drewN n).trans HF.out) (Nat.le_refl _) hfv
  exact ⟨_, rfl, by omega, hks, HP1.out.frm hfv (by unfold One; omega), hff, JInU.plain 1 true 0 ⟨#[]⟩⟩

set_option maxHeartbeats 4000000 in
set_option maxRecDepth 100000 in
theorem jbare_false_no (pb : Nat) (s : ByteArray) (i d : Nat) (w : World) (h : JPAt w pb s i d) (hs : s.size ≤ 65536) (hi : i ≤ s.size) (hc : pk s.data.toList i = 102) (hw : wordAt [102, 97, 108, 115, 101] s.data.toList i = false) :
    Calls Tryd.prog 56 #[.pointer (some ⟨pb, 0, none⟩)] w (JV pb s i d (.error 300) w) := by
  have H := Lib.hid h
  have HC := Lib.hid hc
  have HW := Lib.hid hw
  clear h hc hw
  go_enter Tryd.func56, Tryd.ntmps56
  go_wp2_with (first
    | (go_at_call 68
       have hB := Lib.hid (j6_new w (.int .i64 0) (.bool false) (.int .i64 0) (.string ⟨#[]⟩) (.slice none 0 0) (.slice none 0 0))
       have hA := Lib.hid ((Frm.refl (One pb) w).alloc (.cells #[.int .i64 0, .bool false, .int .i64 0, .string ⟨#[]⟩, .slice none 0 0, .slice none 0 0] 25))
       have hP := Lib.hid (H.out.below ((Below.refl _ w).alloc (Nat.le_refl _) (.cells #[.int .i64 0, .bool false, .int .i64 0, .string ⟨#[]⟩, .slice none 0 0, .slice none 0 0] 25)))
       refine (jpeek_is hP.out hs HC.out).mono ?_; rintro e u' ⟨rfl, n, rfl⟩)
    | (go_at_call 72; refine (jexpect_no pb s ⟨#[102, 97, 108, 115, 101]⟩ i d _ (hP.out.drewN n) hs hi (by decide) HW.out).mono ?_; rintro e w1 ⟨rfl, hf⟩; unfold thrown; have HF := Lib.hid hf; clear hf))
  exact ⟨rfl, rfl, (hA.out.drewN n).trans HF.out⟩
set_option maxHeartbeats 4000000 in
set_option maxRecDepth 100000 in
theorem jbare_false_yes (pb : Nat) (s : ByteArray) (i d : Nat) (w : World) (h : JPAt w pb s i d) (hs : s.size ≤ 65536) (hi : i ≤ s.size) (hc : pk s.data.toList i = 102) (hw : wordAt [102, 97, 108, 115, 101] s.data.toList i = true) (hks : i + 5 ≤ s.size) :
    Calls Tryd.prog 56 #[.pointer (some ⟨pb, 0, none⟩)] w (JV pb s i d (.ok (jBool false, i + 5)) w) := by
  have hlt := h.lt
  have H := Lib.hid h
  have HC := Lib.hid hc
  have HW := Lib.hid hw
  clear h hc hw
  go_enter Tryd.func56, Tryd.ntmps56
  go_wp2_with (first
    | (go_at_call 68
       have hB := Lib.hid (j6_new w (.int .i64 0) (.bool false) (.int .i64 0) (.string ⟨#[]⟩) (.slice none 0 0) (.slice none 0 0))
       have hA := Lib.hid ((Frm.refl (One pb) w).alloc (.cells #[.int .i64 0, .bool false, .int .i64 0, .string ⟨#[]⟩, .slice none 0 0, .slice none 0 0] 25))
       have hP := Lib.hid (H.out.below ((Below.refl _ w).alloc (Nat.le_refl _) (.cells #[.int .i64 0, .bool false, .int .i64 0, .string ⟨#[]⟩, .slice none 0 0, .slice none 0 0] 25)))
       refine (jpeek_is hP.out hs HC.out).mono ?_; rintro e u' ⟨rfl, n, rfl⟩)
    | (go_at_call 72; refine (jexpect_yes pb s ⟨#[102, 97, 108, 115, 101]⟩ i d _ (hP.out.drewN n) hs hi (by decide) HW.out).mono ?_; rintro e w1 ⟨rfl, hp, hf⟩; have HF := Lib.hid hf; have HP1 := Lib.hid hp; clear hf hp
       have HR2 := Lib.hid ((hB.out.drewN n).frm HF.out (by unfold One; omega))
       have r0 := HR2.out.c0; have r1 := HR2.out.c1; have r2 := HR2.out.c2; have r3 := HR2.out.c3; have r4 := HR2.out.c4; have r5 := HR2.out.c5
       have z0 := HR2.out.fz 0; have z1 := HR2.out.fz 1; have z2 := HR2.out.fz 2; have z3 := HR2.out.fz 3; have z4 := HR2.out.fz 4; have z5 := HR2.out.fz 5))
  have hv := HR2.out.fill (Value.int .i64 1) (Value.bool false) (Value.int .i64 0) (Value.string ⟨#[]⟩) (Value.slice none 0 0) (Value.slice none 0 0)
  have hfv := frm_fill6 w1 w.heap.size (Value.int .i64 1) (Value.bool false) (Value.int .i64 0) (Value.string ⟨#[]⟩) (Value.slice none 0 0) (Value.slice none 0 0)
  change bodyPost _ _ _ _ _ (Fill6 w1 w.heap.size (Value.int .i64 1) (Value.bool false) (Value.int .i64 0) (Value.string ⟨#[]⟩) (Value.slice none 0 0) (Value.slice none 0 0))
  generalize Fill6 w1 w.heap.size (Value.int .i64 1) (Value.bool false) (Value.int .i64 0) (Value.string ⟨#[]⟩) (Value.slice none 0 0) (Value.slice none 0 0) = v at *
  refine bodyPost_ret (v := .agg #[Value.int .i64 1, Value.bool false, Value.int .i64 0, Value.string ⟨#[]⟩, Value.slice none 0 0, Value.slice none 0 0]) (by simp [results, Tryd.results56, go_sem, hv.c0, hv.c1, hv.c2, hv.c3, hv.c4, hv.c5]) rfl ?_
  have hff := frm_new_one ((hA.out.drewN n).trans HF.out) (Nat.le_refl _) hfv
  exact ⟨_, rfl, by omega, hks, HP1.out.frm hfv (by unfold One; omega), hff, JInU.plain 1 false 0 ⟨#[]⟩⟩
end Go.Proofs.YtcobadgpelhcoaaDoor

namespace Go.Proofs.YtcobadgpelhcoaaDoor
open Go.Conc Go.RowKit
set_option linter.unusedVariables false
set_option linter.unusedSimpArgs false

set_option maxHeartbeats 4000000 in
set_option maxRecDepth 100000 in
theorem jlist_deep (pb : Nat) (s : ByteArray) (i d : Nat) (w : World) (h : JPAt w pb s i d) (hd : d = 16) :
    Calls Tryd.prog 69 #[.pointer (some ⟨pb, 0, none⟩)] w (JV pb s i d (.error 301) w) := by
  have H := Lib.hid h
  clear h
  go_enter Tryd.func69, Tryd.ntmps69
  go_wp2_with (go_at_call 80
               have hA := Lib.hid (((Frm.refl (One pb) w).alloc (.cells #[.int .i64 0, .bool false, .int .i64 0, .string ⟨#[]⟩, .slice none 0 0, .slice none 0 0] 25)).alloc (.cells #[.int .i64 4, .bool false, .int .i64 0, .string ⟨#[]⟩, .slice none 0 0, .slice none 0 0] 25))
               have hP := Lib.hid (H.out.below ((((Below.refl _ w).alloc (Nat.le_refl _) (.cells #[.int .i64 0, .bool false, .int .i64 0, .string ⟨#[]⟩, .slice none 0 0, .slice none 0 0] 25))).alloc (by simp) (.cells #[.int .i64 4, .bool false, .int .i64 0, .string ⟨#[]⟩, .slice none 0 0, .slice none 0 0] 25)))
               refine (jopen_no pb s i d _ hP.out hd).mono ?_; rintro e w1 ⟨rfl, hf⟩; unfold thrown; have HF1 := Lib.hid hf; clear hf)
  exact ⟨rfl, rfl, hA.out.trans HF1.out⟩
set_option maxHeartbeats 4000000 in
set_option maxRecDepth 100000 in
theorem jobject_deep (pb : Nat) (s : ByteArray) (i d : Nat) (w : World) (h : JPAt w pb s i d) (hd : d = 16) :
    Calls Tryd.prog 70 #[.pointer (some ⟨pb, 0, none⟩)] w (JV pb s i d (.error 301) w) := by
  have H := Lib.hid h
  clear h
  go_enter Tryd.func70, Tryd.ntmps70
  go_wp2_with (go_at_call 80
               have hA := Lib.hid (((Frm.refl (One pb) w).alloc (.cells #[.int .i64 0, .bool false, .int .i64 0, .string ⟨#[]⟩, .slice none 0 0, .slice none 0 0] 25)).alloc (.cells #[.int .i64 5, .bool false, .int .i64 0, .string ⟨#[]⟩, .slice none 0 0, .slice none 0 0] 25))
               have hP := Lib.hid (H.out.below ((((Below.refl _ w).alloc (Nat.le_refl _) (.cells #[.int .i64 0, .bool false, .int .i64 0, .string ⟨#[]⟩, .slice none 0 0, .slice none 0 0] 25))).alloc (by simp) (.cells #[.int .i64 5, .bool false, .int .i64 0, .string ⟨#[]⟩, .slice none 0 0, .slice none 0 0] 25)))
               refine (jopen_no pb s i d _ hP.out hd).mono ?_; rintro e w1 ⟨rfl, hf⟩; unfold thrown; have HF1 := Lib.hid hf; clear hf)
  exact ⟨rfl, rfl, hA.out.trans HF1.out⟩

theorem wordAt_le {W l : List UInt8} {i : Nat} (h : wordAt W l i = true) (h0 : 0 < W.length) : i + W.length ≤ l.length := by
  unfold wordAt at h
  have := (List.isPrefixOf_iff_prefix.1 h).length_le
  rw [List.length_drop] at this
  omega
/-- What stands within: nothing may, or what is known. -/
def SubAt (pb : Nat) (s : ByteArray) (d : Nat) (sub : Option (Nat → Rd J)) : Prop := match sub with | none => d = 16 | some f => d < 16 ∧ SubOk pb s (d + 1) f
theorem jv_of {pb d i : Nat} {s : ByteArray} {r : Rd J} (hl : ∀ u, JPAt u pb s i d → Calls Tryd.prog 69 #[.pointer (some ⟨pb, 0, none⟩)] u (JV pb s i d r u)) (w : World) (h : JPAt w pb s i d) (hs : s.size ≤ 65536) (hc : pk s.data.toList i = 91) :
    Calls Tryd.prog 56 #[.pointer (some ⟨pb, 0, none⟩)] w (JV pb s i d r w) := by
  match r, hl with
  | .error x, hl => exact jbare_list_no pb s i d x w h hs hc hl
  | .ok (j, k), hl => exact jbare_list_yes pb s i d j k w h hs hc hl
theorem jv_of2 {pb d i : Nat} {s : ByteArray} {r : Rd J} (hl : ∀ u, JPAt u pb s i d → Calls Tryd.prog 70 #[.pointer (some ⟨pb, 0, none⟩)] u (JV pb s i d r u)) (w : World) (h : JPAt w pb s i d) (hs : s.size ≤ 65536) (hc : pk s.data.toList i = 123) :
    Calls Tryd.prog 56 #[.pointer (some ⟨pb, 0, none⟩)] w (JV pb s i d r w) := by
  match r, hl with
  | .error x, hl => exact jbare_obj_no pb s i d x w h hs hc hl
  | .ok (j, k), hl => exact jbare_obj_yes pb s i d j k w h hs hc hl

theorem jbare_any (pb : Nat) (s : ByteArray) (i d : Nat) (sub : Option (Nat → Rd J)) (hsub : SubAt pb s d sub) (w : World) (h : JPAt w pb s i d) (hi : i ≤ s.size) (hs : s.size ≤ 65536) :
    Calls Tryd.prog 56 #[.pointer (some ⟨pb, 0, none⟩)] w (JV pb s i d (valP numD s.data.toList sub i) w) := by
  have HL : s.data.toList.length = s.size := by simp
  have hin : ∀ c, pk s.data.toList i = c → 0 < c → i + 1 ≤ s.size := fun c e h0 => by obtain ⟨_, _, _, h⟩ := pk_some e h0; omega
  unfold valP
  have hk1 := skipW_ge s.data.toList (i + 1)
  by_cases h91 : pk s.data.toList i = 91
  · rw [if_pos h91]
    have hi1 := hin 91 h91 (by omega)
    have hk2 := skipW_le s.data.toList (i + 1) (by omega)
    match sub, hsub with
    | none, hd => exact jv_of (fun u hu => jlist_deep pb s i d u hu hd) w h hs h91
    | some f, hd =>
      by_cases h93 : pk s.data.toList (skipW s.data.toList (i + 1)) = 93
      · obtain ⟨_, _, _, h3⟩ := pk_some h93 (by omega)
        simp only [h93, if_true]
        exact jv_of (fun u hu => jlist_none pb s i d _ u hu hi1 hs hd.1 rfl (by omega) hk1 h93 (by omega)) w h hs h91
      · simp only [h93, if_false, HL]
        exact jv_of (fun u hu => jlist_some pb s i d _ f hd.2 u hu hi1 hs hd.1 rfl (by omega) hk1 h93) w h hs h91
  rw [if_neg h91]
  by_cases h123 : pk s.data.toList i = 123
  · rw [if_pos h123]
    have hi1 := hin 123 h123 (by omega)
    have hk2 := skipW_le s.data.toList (i + 1) (by omega)
    match sub, hsub with
    | none, hd => exact jv_of2 (fun u hu => jobject_deep pb s i d u hu hd) w h hs h123
    | some f, hd =>
      by_cases h93 : pk s.data.toList (skipW s.data.toList (i + 1)) = 125
      · obtain ⟨_, _, _, h3⟩ := pk_some h93 (by omega)
        simp only [h93, if_true]
        exact jv_of2 (fun u hu => jobject_none pb s i d _ u hu hi1 hs hd.1 rfl (by omega) hk1 h93 (by omega)) w h hs h123
      · simp only [h93, if_false, HL]
        exact jv_of2 (fun u hu => jobject_some pb s i d _ f hd.2 u hu hi1 hs hd.1 rfl (by omega) hk1 h93) w h hs h123
  rw [if_neg h123]
  by_cases h34 : pk s.data.toList i = 34
  · rw [if_pos h34]
    have hi1 := hin 34 h34 (by omega)
    have hw : wordAt [34] s.data.toList i = true := by
      rw [show ([34] : List UInt8) = [UInt8.ofNat 34] from rfl, wordAt_one (by omega) (by omega)]; simpa using h34
    have hJ := fun u hu => jtext_yes pb s i d u hu (by omega) hs hw
    cases hT : textOf s.data.toList i with
    | error x => rw [hT] at hJ; exact jbare_text_no pb s i d 34 x w h hs h34 rfl hJ
    | ok q =>
      obtain ⟨t, k⟩ := q
      rw [hT] at hJ
      have := textOf_in hT
      exact jbare_text_yes pb s i d 34 ⟨t.toArray⟩ k w h hs h34 rfl (by omega) (by omega) hJ
  rw [if_neg h34]
  by_cases h110 : pk s.data.toList i = 110
  · rw [if_pos h110]
    cases hw : wordAt [110, 117, 108, 108] s.data.toList i with
    | false => exact jbare_null_no pb s i d w h hs hi h110 hw
    | true => have := wordAt_le hw (by decide); simp at this; exact jbare_null_yes pb s i d w h hs hi h110 hw (by omega)
  rw [if_neg h110]
  by_cases h116 : pk s.data.toList i = 116
  · rw [if_pos h116]
    cases hw : wordAt [116, 114, 117, 101] s.data.toList i with
    | false => exact jbare_true_no pb s i d w h hs hi h116 hw
    | true => have := wordAt_le hw (by decide); simp at this; exact jbare_true_yes pb s i d w h hs hi h116 hw (by omega)
  rw [if_neg h116]
  by_cases h102 : pk s.data.toList i = 102
  · rw [if_pos h102]
    cases hw : wordAt [102, 97, 108, 115, 101] s.data.toList i with
    | false => exact jbare_false_no pb s i d w h hs hi h102 hw
    | true => have := wordAt_le hw (by decide); simp at this; exact jbare_false_yes pb s i d w h hs hi h102 hw (by omega)
  rw [if_neg h102]
  have hJ := fun u hu => jnumber_any pb s i d u hu hi hs
  cases hN : numD s.data.toList i with
  | error x => rw [hN] at hJ; exact jbare_num_no pb s i d _ x w h hs rfl h91 h123 h34 h110 h116 h102 hJ
  | ok q =>
    obtain ⟨n, k⟩ := q
    rw [hN] at hJ
    have := numD_in (by omega) hN
    exact jbare_num_yes pb s i d _ n k w h hs rfl h91 h123 h34 h110 h116 h102 (by omega) (by omega) hJ

set_option maxHeartbeats 4000000 in
set_option maxRecDepth 100000 in
theorem jvalue_of (pb : Nat) (s : ByteArray) (d : Nat) (sub : Option (Nat → Rd J)) (hsub : SubAt pb s d sub) (hs : s.size ≤ 65536) : SubOk pb s d (valP numD s.data.toList sub) := by
  intro i w h hi
  have hlt := h.lt
  have H := Lib.hid h
  clear h
  have HL : s.data.toList.length = s.size := by simp
  have hk1 := skipW_ge s.data.toList i
  have hk2 := skipW_le s.data.toList i (by omega)
  obtain ⟨k0, hk0⟩ : ∃ k, k = skipW s.data.toList i := ⟨_, rfl⟩
  rw [← hk0] at hk1 hk2
  have HK0 := Lib.hid hk0.symm
  unfold valW
  rw [← hk0]
  clear hk0
  have HV := Lib.hid (fun u hu => jbare_any pb s k0 d sub hsub u hu (by omega) hs)
  cases hV : valP numD s.data.toList sub k0 with
  | error x =>
    rw [hV] at HV
    clear hV
    go_enter Tryd.func32, Tryd.ntmps32
    go_wp2_with (first
      | (go_at_call 55; have hA := Lib.hid ((Frm.refl (One pb) w).alloc (.cells #[.int .i64 0, .bool false, .int .i64 0, .string ⟨#[]⟩, .slice none 0 0, .slice none 0 0] 25)); have hB := Lib.hid (j6_new w (.int .i64 0) (.bool false) (.int .i64 0) (.string ⟨#[]⟩) (.slice none 0 0) (.slice none 0 0)); have hP := Lib.hid (H.out.below ((Below.refl _ w).alloc (Nat.le_refl _) (.cells #[.int .i64 0, .bool false, .int .i64 0, .string ⟨#[]⟩, .slice none 0 0, .slice none 0 0] 25))); refine (jskip_any pb s i d _ hP.out hi hs).mono ?_; rintro e w1 ⟨rfl, hp, hf⟩; rw [HK0.out] at hp; have HP1 := Lib.hid hp; have HF1 := Lib.hid hf; clear hp hf)
      | (go_at_call 56; refine (HV.out _ HP1.out).mono ?_; rintro e w2 ⟨rfl, hf⟩; unfold thrown; have HF2 := Lib.hid hf; clear hf))
    exact ⟨rfl, rfl, (hA.out.trans HF1.out).trans HF2.out⟩
  | ok q =>
    obtain ⟨j, k⟩ := q
    rw [hV] at HV
    have hk3 := skipW_ge s.data.toList k
    clear hV
    go_enter Tryd.func32, Tryd.ntmps32
    go_wp2_with (first
      | (go_at_call 55; first
         | (have hA := Lib.hid ((Frm.refl (One pb) w).alloc (.cells #[.int .i64 0, .bool false, .int .i64 0, .string ⟨#[]⟩, .slice none 0 0, .slice none 0 0] 25)); have hB := Lib.hid (j6_new w (.int .i64 0) (.bool false) (.int .i64 0) (.string ⟨#[]⟩) (.slice none 0 0) (.slice none 0 0)); have hP := Lib.hid (H.out.below ((Below.refl _ w).alloc (Nat.le_refl _) (.cells #[.int .i64 0, .bool false, .int .i64 0, .string ⟨#[]⟩, .slice none 0 0, .slice none 0 0] 25))); (with_reducible refine (jskip_any pb s i d _ hP.out hi hs).mono ?_); rintro e w1 ⟨rfl, hp, hf⟩; rw [HK0.out] at hp; have HP1 := Lib.hid hp; have HF1 := Lib.hid hf; clear hp hf)
         | (have HP2a := Lib.hid (HP2.out.below ((Below.refl _ w2).alloc (Nat.le_refl _) (.cells #[.int .i64 xk, .bool xb, .int .i64 xn, .string xs, .slice xla xll xlc, .slice xka xkl xkc] 25))); have HB3 := Lib.hid (j6_new w2 (.int .i64 xk) (.bool xb) (.int .i64 xn) (.string xs) (.slice xla xll xlc) (.slice xka xkl xkc)); have HA3 := Lib.hid ((Frm.refl (One pb) w2).alloc (.cells #[.int .i64 xk, .bool xb, .int .i64 xn, .string xs, .slice xla xll xlc, .slice xka xkl xkc] 25)); refine (jskip_any pb s k d _ HP2a.out hks hs).mono ?_; rintro e w3 ⟨rfl, hp, hf⟩; have HP3 := Lib.hid hp; have HF3 := Lib.hid (HA3.out.trans hf); have HB4 := Lib.hid (HB3.out.frm hf (by have := HP2.out.lt; unfold One; omega)); clear hp hf; have b0 := HB4.out.c0; have b1 := HB4.out.c1; have b2 := HB4.out.c2; have b3 := HB4.out.c3; have b4 := HB4.out.c4; have b5 := HB4.out.c5; have HR2 := Lib.hid (((hB.out.frm HF1.out (by unfold One; omega)).frm HF2.out (by unfold One; omega)).frm HF3.out (by unfold One; omega)); have r0 := HR2.out.c0; have r1 := HR2.out.c1; have r2 := HR2.out.c2; have r3 := HR2.out.c3; have r4 := HR2.out.c4; have r5 := HR2.out.c5; have z0 := HR2.out.fz 0; have z1 := HR2.out.fz 1; have z2 := HR2.out.fz 2; have z3 := HR2.out.fz 3; have z4 := HR2.out.fz 4; have z5 := HR2.out.fz 5))
      | (go_at_call 56; refine (HV.out _ HP1.out).mono ?_; rintro e w2 ⟨cs, rfl, hik, hks, hp, hf, hj⟩; obtain ⟨xk, xb, xn, xs, xla, xll, xlc, xka, xkl, xkc, rfl⟩ := hj.form; have HP2 := Lib.hid hp; have HF2 := Lib.hid hf; have HJ := Lib.hid hj; clear hp hf hj))
    have hk4 := skipW_le s.data.toList k (by omega)
    have hz := HF1.out.size
    have hv := HR2.out.fill (Value.int .i64 xk) (Value.bool xb) (Value.int .i64 xn) (Value.string xs) (Value.slice xla xll xlc) (Value.slice xka xkl xkc)
    have hfv := frm_fill6 w3 w.heap.size (Value.int .i64 xk) (Value.bool xb) (Value.int .i64 xn) (Value.string xs) (Value.slice xla xll xlc) (Value.slice xka xkl xkc)
    change bodyPost _ _ _ _ _ (Fill6 w3 w.heap.size (Value.int .i64 xk) (Value.bool xb) (Value.int .i64 xn) (Value.string xs) (Value.slice xla xll xlc) (Value.slice xka xkl xkc))
    generalize Fill6 w3 w.heap.size (Value.int .i64 xk) (Value.bool xb) (Value.int .i64 xn) (Value.string xs) (Value.slice xla xll xlc) (Value.slice xka xkl xkc) = v at *
    refine bodyPost_ret (v := .agg #[Value.int .i64 xk, Value.bool xb, Value.int .i64 xn, Value.string xs, Value.slice xla xll xlc, Value.slice xka xkl xkc]) (by simp [results, Tryd.results32, go_sem, hv.c0, hv.c1, hv.c2, hv.c3, hv.c4, hv.c5]) rfl ?_
    have hff := frm_new_one (((hA.out.trans HF1.out).trans HF2.out).trans HF3.out) (Nat.le_refl _) hfv
    exact ⟨_, rfl, by omega, by omega, HP3.out.frm hfv (by unfold One; omega), hff, ((HJ.out.frm HF3.out fun g hg _ hgp => (by have : g = pb := hgp; simp at hg hz; omega)).frm hfv fun g hg _ hgp => (by have : g = w.heap.size := hgp; simp at hg hz; omega)).mono fun g _ hg => by simp at hg hz; omega⟩

theorem sub_ok (pb : Nat) (s : ByteArray) (hs : s.size ≤ 65536) : ∀ (n d : Nat), d + n = 16 → SubOk pb s d (valN numD s.data.toList n)
  | 0, d, h => jvalue_of pb s d none (show d = 16 by omega) hs
  | n + 1, d, h => jvalue_of pb s d (some (valN numD s.data.toList n)) ⟨by omega, sub_ok pb s hs n (d + 1) (by omega)⟩ hs
end Go.Proofs.YtcobadgpelhcoaaDoor

namespace Go.Proofs.YtcobadgpelhcoaaDoor
open Go.Conc Go.RowKit
set_option linter.unusedVariables false
set_option linter.unusedSimpArgs false

/-- A value that is all the text. -/
def wholeN (l : List UInt8) : Except Int J := match valW l (valN numD l 16) 0 with | .error e => .error e | .ok (j, i) => if i < l.length then .error 300 else .ok j
/-- It answers a value in new memory, or it throws. -/
def JW (pb : Nat) (r : Except Int J) (w : World) (e : Ending) (w' : World) : Prop :=
  match r with
  | .ok j => ∃ cs : List Value, e = .returned (.agg cs.toArray) ∧ Frm (One pb) w w' ∧ JInU (fun g => w.heap.size ≤ g) w' j cs
  | .error c => JThrew pb c w e w'

set_option maxHeartbeats 4000000 in
set_option maxRecDepth 100000 in
theorem jwhole_any (pb : Nat) (s : ByteArray) (w : World) (h : JPAt w pb s 0 0) (hs : s.size ≤ 65536) :
    Calls Tryd.prog 21 #[.pointer (some ⟨pb, 0, none⟩)] w (JW pb (wholeN s.data.toList) w) := by
  have hlt := h.lt
  have H := Lib.hid h
  clear h
  have HL : s.data.toList.length = s.size := by simp
  have HV := Lib.hid (fun u hu => sub_ok pb s hs 16 0 rfl 0 u hu (Nat.zero_le _))
  unfold wholeN
  cases hV : valW s.data.toList (valN numD s.data.toList 16) 0 with
  | error x =>
    rw [hV] at HV
    clear hV
    go_enter Tryd.func21, Tryd.ntmps21
    go_wp2_with (go_at_call 32; have hA := Lib.hid ((Frm.refl (One pb) w).alloc (.cells #[.int .i64 0, .bool false, .int .i64 0, .string ⟨#[]⟩, .slice none 0 0, .slice none 0 0] 25)); have hP := Lib.hid (H.out.below ((Below.refl _ w).alloc (Nat.le_refl _) (.cells #[.int .i64 0, .bool false, .int .i64 0, .string ⟨#[]⟩, .slice none 0 0, .slice none 0 0] 25))); refine (HV.out _ hP.out).mono ?_; rintro e w2 ⟨rfl, hf⟩; unfold thrown; have HF2 := Lib.hid hf; clear hf)
    exact ⟨rfl, rfl, hA.out.trans HF2.out⟩
  | ok q =>
    obtain ⟨j, k⟩ := q
    rw [hV] at HV
    clear hV
    by_cases hk : k < s.size
    · simp only [HL, hk, if_true]
      go_enter Tryd.func21, Tryd.ntmps21
      go_wp2_with (first
        | (go_at_call 32; have hA := Lib.hid ((Frm.refl (One pb) w).alloc (.cells #[.int .i64 0, .bool false, .int .i64 0, .string ⟨#[]⟩, .slice none 0 0, .slice none 0 0] 25)); have hP := Lib.hid (H.out.below ((Below.refl _ w).alloc (Nat.le_refl _) (.cells #[.int .i64 0, .bool false, .int .i64 0, .string ⟨#[]⟩, .slice none 0 0, .slice none 0 0] 25))); refine (HV.out _ hP.out).mono ?_; rintro e w2 ⟨cs, rfl, hik, hks, hp, hf, hj⟩; obtain ⟨xk, xb, xn, xs, xla, xll, xlc, xka, xkl, xkc, rfl⟩ := hj.form; have HF2 := Lib.hid hf; have HP2 := Lib.hid (hp.below ((Below.refl _ w2).alloc (Nat.le_refl _) (.cells #[.int .i64 xk, .bool xb, .int .i64 xn, .string xs, .slice xla xll xlc, .slice xka xkl xkc] 25))); have HA2 := Lib.hid ((Frm.refl (One pb) w2).alloc (.cells #[.int .i64 xk, .bool xb, .int .i64 xn, .string xs, .slice xla xll xlc, .slice xka xkl xkc] 25)); clear hp hf hj; have q0 := HP2.out.c0; have q1 := HP2.out.c1)
        | (go_at_call 33; refine (jthrow_any _ _).mono ?_; rintro e u' ⟨rfl, rfl⟩))
      go_quiet (fail)
      go_wp2_with (go_at_call 33; refine (jthrow_any _ _).mono ?_; rintro e u' ⟨rfl, rfl⟩)
      exact ⟨rfl, rfl, (hA.out.trans HF2.out).trans (HA2.out.drewN _)⟩
    · simp only [HL, hk, if_false]
      go_enter Tryd.func21, Tryd.ntmps21
      go_wp2_with (first
        | (go_at_call 32; have hA := Lib.hid ((Frm.refl (One pb) w).alloc (.cells #[.int .i64 0, .bool false, .int .i64 0, .string ⟨#[]⟩, .slice none 0 0, .slice none 0 0] 25)); have hB := Lib.hid (j6_new w (.int .i64 0) (.bool false) (.int .i64 0) (.string ⟨#[]⟩) (.slice none 0 0) (.slice none 0 0)); have hP := Lib.hid (H.out.below ((Below.refl _ w).alloc (Nat.le_refl _) (.cells #[.int .i64 0, .bool false, .int .i64 0, .string ⟨#[]⟩, .slice none 0 0, .slice none 0 0] 25))); refine (HV.out _ hP.out).mono ?_; rintro e w2 ⟨cs, rfl, hik, hks, hp, hf, hj⟩; obtain ⟨xk, xb, xn, xs, xla, xll, xlc, xka, xkl, xkc, rfl⟩ := hj.form; have HF2 := Lib.hid hf; have HP2 := Lib.hid (hp.below ((Below.refl _ w2).alloc (Nat.le_refl _) (.cells #[.int .i64 xk, .bool xb, .int .i64 xn, .string xs, .slice xla xll xlc, .slice xka xkl xkc] 25))); have HB4 := Lib.hid (j6_new w2 (.int .i64 xk) (.bool xb) (.int .i64 xn) (.string xs) (.slice xla xll xlc) (.slice xka xkl xkc)); have HA2 := Lib.hid ((Frm.refl (One pb) w2).alloc (.cells #[.int .i64 xk, .bool xb, .int .i64 xn, .string xs, .slice xla xll xlc, .slice xka xkl xkc] 25)); have HR2 := Lib.hid (j6_alloc (hB.out.frm HF2.out (by unfold One; omega)) (.cells #[.int .i64 xk, .bool xb, .int .i64 xn, .string xs, .slice xla xll xlc, .slice xka xkl xkc] 25)); have HJ := Lib.hid hj; clear hp hf hj; have q0 := HP2.out.c0; have q1 := HP2.out.c1; have b0 := HB4.out.c0; have b1 := HB4.out.c1; have b2 := HB4.out.c2; have b3 := HB4.out.c3; have b4 := HB4.out.c4; have b5 := HB4.out.c5; have r0 := HR2.out.c0; have r1 := HR2.out.c1; have r2 := HR2.out.c2; have r3 := HR2.out.c3; have r4 := HR2.out.c4; have r5 := HR2.out.c5; have zr0 := HR2.out.fz 0; have zr1 := HR2.out.fz 1; have zr2 := HR2.out.fz 2; have zr3 := HR2.out.fz 3; have zr4 := HR2.out.fz 4; have zr5 := HR2.out.fz 5))
      go_quiet (fail)
      go_wp2
      have hz := HF2.out.size
      have hv := (HR2.out.drewN nq).fill (.int .i64 xk) (.bool xb) (.int .i64 xn) (.string xs) (.slice xla xll xlc) (.slice xka xkl xkc)
      have hfv := frm_fill6 ((w2.alloc (.cells #[.int .i64 xk, .bool xb, .int .i64 xn, .string xs, .slice xla xll xlc, .slice xka xkl xkc] 25)).drewN nq) w.heap.size (.int .i64 xk) (.bool xb) (.int .i64 xn) (.string xs) (.slice xla xll xlc) (.slice xka xkl xkc)
      change bodyPost _ _ _ _ _ (Fill6 ((w2.alloc (.cells #[.int .i64 xk, .bool xb, .int .i64 xn, .string xs, .slice xla xll xlc, .slice xka xkl xkc] 25)).drewN nq) w.heap.size (.int .i64 xk) (.bool xb) (.int .i64 xn) (.string xs) (.slice xla xll xlc) (.slice xka xkl xkc))
      generalize Fill6 ((w2.alloc (.cells #[.int .i64 xk, .bool xb, .int .i64 xn, .string xs, .slice xla xll xlc, .slice xka xkl xkc] 25)).drewN nq) w.heap.size (.int .i64 xk) (.bool xb) (.int .i64 xn) (.string xs) (.slice xla xll xlc) (.slice xka xkl xkc) = v at *
      refine bodyPost_ret (v := .agg #[.int .i64 xk, .bool xb, .int .i64 xn, .string xs, .slice xla xll xlc, .slice xka xkl xkc]) (by simp [results, Tryd.results21, go_sem, hv.c0, hv.c1, hv.c2, hv.c3, hv.c4, hv.c5]) rfl ?_
      have hff := frm_new_one ((hA.out.trans HF2.out).trans (HA2.out.drewN nq)) (Nat.le_refl _) hfv
      exact ⟨_, rfl, hff, ((HJ.out.frm (HA2.out.drewN nq) fun g hg hl hgp => (by have : g = pb := hgp; simp at hg hz; omega)).frm hfv fun g hg _ hgp => (by have : g = w.heap.size := hgp; simp at hg hz; omega)).mono fun g _ hg => by simp at hg hz; omega⟩

set_option maxRecDepth 100000 in
theorem jcodeof_any (code : Int) (w : World) : Calls Tryd.prog 31 #[.iface 26 (.int .i64 code)] w fun e w' => e = .returned (.int .i64 code) ∧ w = w' := by
  have hta : ∀ u : World, (Instr.typeAssert (.iface 26 (.int .i64 code)) 20 26 true).run Tryd.prog u = .ok (.tuple #[.int .i64 code, .bool true]) u := fun u => by simp [Instr.typeAssert, run_underlying Tryd.underlying26, go_sem, Result.andThen]
  go_enter Tryd.func31, Tryd.ntmps31
  go_wp2
  go_ret
  exact ⟨rfl, rfl⟩

set_option maxRecDepth 100000 in
/-- What is thrown is caught. -/
theorem jcatch_thrown (b : Nat) (code x : Int) (older : List PanicEntry) (w : World) (hc : w.cell? ⟨b, 0, none⟩ = some (.int .i64 x)) (hz : w.frozen? ⟨b, 0, none⟩ = false) :
    CallsD Tryd.prog 30 #[.pointer (some ⟨b, 0, none⟩)] (.panicking ({ v := .iface 26 (.int .i64 code), recovered := false } :: older)) w fun e u' w' =>
      e = .returned (.tuple #[]) ∧ u' = .panicking ({ v := .iface 26 (.int .i64 code), recovered := true } :: older) ∧ w' = w.setCell ⟨b, 0, none⟩ (.int .i64 code) := by
  refine callsD_of_wpS Tryd.func30 rfl fun c₀ cs hu => ?_
  apply wpS_seq
  apply wpS_region
  simp [wpOpsS, go_sem, recoverD, hu, Tryd.ntmps30, Exit.thenS]
  apply wpS_seq
  apply wpS_region
  simp [wpOpsS, go_sem, recoverD, hu, Tryd.ntmps30, Exit.thenS]
  refine wpS_cond (t := true) (by simp [Act.eval, Array.replicate]) ?_
  simp only [if_true]
  refine wpS_of_wp ?_
  go_wp2_with (go_at_call 31; refine (jcodeof_any _ _).mono ?_; rintro e u' ⟨rfl, rfl⟩)
  simp [bodyPostS, results, Tryd.results30]

set_option maxRecDepth 100000 in
theorem jcatch_idle (p : Addr) (w : World) :
    CallsD Tryd.prog 30 #[.pointer (some p)] .returning w fun e u' w' => e = .returned (.tuple #[]) ∧ u' = .returning ∧ w' = w := by
  refine callsD_of_wpS Tryd.func30 rfl fun c₀ cs hu => ?_
  apply wpS_seq
  apply wpS_region
  simp [wpOpsS, go_sem, recoverD, hu, Tryd.ntmps30, Exit.thenS]
  apply wpS_seq
  apply wpS_region
  simp [wpOpsS, go_sem, recoverD, hu, Tryd.ntmps30, Exit.thenS]
  refine wpS_cond (t := false) (by simp [Act.eval, Array.replicate]) ?_
  simp only [Bool.false_eq_true, if_false]
  refine wpS_of_wp (wp_skip ?_)
  cases c₀
  simp_all [bodyPostS, results, Tryd.results30]
end Go.Proofs.YtcobadgpelhcoaaDoor

namespace Go.Proofs.YtcobadgpelhcoaaDoor
open Go.Conc Go.RowKit
set_option linter.unusedVariables false
set_option linter.unusedSimpArgs false

theorem JPAt.new (w : World) (s : ByteArray) : JPAt (w.alloc (.cells #[.string s, .int .i64 0, .int .i64 0] 51)) w.heap.size s 0 0 := heap_alloc_new w _
/-- A value is laid in a block, or something is thrown. -/
def JC (jb : Nat) (r : Except Int J) (w : World) (e : Ending) (w' : World) : Prop :=
  match r with
  | .ok j => e = .returned (.tuple #[]) ∧ Frm (One jb) w w' ∧ ∃ a0 a1 a2 a3 a4 a5, J6 w' jb a0 a1 a2 a3 a4 a5 ∧ JInU (fun g => w.heap.size ≤ g) w' j [a0, a1, a2, a3, a4, a5]
  | .error c => e = thrown c ∧ Below w.heap.size w w'

set_option maxHeartbeats 4000000 in
set_option maxRecDepth 100000 in
theorem jparsec_any (sb jb : Nat) (s : ByteArray) (o0 o1 o2 o3 o4 o5 : Value) (w : World) (hsb : w.cell? ⟨sb, 0, none⟩ = some (.string s)) (hjb : J6 w jb o0 o1 o2 o3 o4 o5) (hs : s.size ≤ 65536) :
    Calls Tryd.prog 20 #[.pointer (some ⟨sb, 0, none⟩), .pointer (some ⟨jb, 0, none⟩)] w (JC jb (wholeN s.data.toList) w) := by
  have hlt := hjb.lt
  have HJB := Lib.hid hjb
  have HP := Lib.hid (JPAt.new w s)
  have HA := Lib.hid ((Below.refl _ w).alloc (Nat.le_refl _) (.cells #[.string s, .int .i64 0, .int .i64 0] 51))
  have HW := Lib.hid (jwhole_any w.heap.size s _ HP.out hs)
  clear hjb
  cases hV : wholeN s.data.toList with
  | error x =>
    rw [hV] at HW
    clear hV
    go_enter Tryd.func20, Tryd.ntmps20
    go_wp2_with (go_at_call 21; refine HW.out.mono ?_; rintro e w2 ⟨rfl, hf⟩; unfold thrown; have HF2 := Lib.hid hf; clear hf)
    exact ⟨rfl, rfl, ((Frm.of_below HA.out).trans (HF2.out.mono fun k _ hk => by have : k = w.heap.size := hk; omega)).below (Nat.le_refl _)⟩
  | ok j =>
    rw [hV] at HW
    clear hV
    go_enter Tryd.func20, Tryd.ntmps20
    go_wp2_with (go_at_call 21; refine HW.out.mono ?_; rintro e w2 ⟨cs, rfl, hf, hj⟩; obtain ⟨xk, xb, xn, xs, xla, xll, xlc, xka, xkl, xkc, rfl⟩ := hj.form; have HF2 := Lib.hid hf; have HJ := Lib.hid hj; clear hf hj; have HR2 := Lib.hid ((j6_alloc HJB.out (.cells #[.string s, .int .i64 0, .int .i64 0] 51)).frm HF2.out (by unfold One; omega)); have r0 := HR2.out.c0; have r1 := HR2.out.c1; have r2 := HR2.out.c2; have r3 := HR2.out.c3; have r4 := HR2.out.c4; have r5 := HR2.out.c5; have zr0 := HR2.out.fz 0; have zr1 := HR2.out.fz 1; have zr2 := HR2.out.fz 2; have zr3 := HR2.out.fz 3; have zr4 := HR2.out.fz 4; have zr5 := HR2.out.fz 5)
    have hz := HF2.out.size
    have hv := HR2.out.fill (.int .i64 xk) (.bool xb) (.int .i64 xn) (.string xs) (.slice xla xll xlc) (.slice xka xkl xkc)
    have hfv := frm_fill6 w2 jb (.int .i64 xk) (.bool xb) (.int .i64 xn) (.string xs) (.slice xla xll xlc) (.slice xka xkl xkc)
    change bodyPost _ _ _ _ _ (Fill6 w2 jb (.int .i64 xk) (.bool xb) (.int .i64 xn) (.string xs) (.slice xla xll xlc) (.slice xka xkl xkc))
    generalize Fill6 w2 jb (.int .i64 xk) (.bool xb) (.int .i64 xn) (.string xs) (.slice xla xll xlc) (.slice xka xkl xkc) = v at *
    go_end0
    have hbw : Below w.heap.size w w2 := ((Frm.of_below HA.out).trans (HF2.out.mono fun k _ hk => (by have : k = w.heap.size := hk; omega))).below (Nat.le_refl _)
    exact ⟨rfl, (Frm.of_new hbw (One jb)).trans hfv, _, _, _, _, _, _, hv, (HJ.out.frm hfv fun g hg _ hgp => (by have : g = jb := hgp; simp at hg hz; omega)).mono fun g _ hg => by simp at hg; omega⟩

/-- Behind the catch. -/
def JG (jb : Nat) (r : Except Int J) (w : World) (e : Ending) (w' : World) : Prop :=
  match r with
  | .ok j => e = .returned (.int .i64 0) ∧ Frm (One jb) w w' ∧ ∃ a0 a1 a2 a3 a4 a5, J6 w' jb a0 a1 a2 a3 a4 a5 ∧ JInU (fun g => w.heap.size ≤ g) w' j [a0, a1, a2, a3, a4, a5]
  | .error c => e = .returned (.int .i64 c) ∧ Below w.heap.size w w'

set_option maxHeartbeats 4000000 in
set_option maxRecDepth 100000 in
theorem jcaught_parse (sb jb : Nat) (s : ByteArray) (o0 o1 o2 o3 o4 o5 : Value) (w : World) (hsb : w.cell? ⟨sb, 0, none⟩ = some (.string s)) (hsl : sb < w.heap.size) (hjb : J6 w jb o0 o1 o2 o3 o4 o5) (hs : s.size ≤ 65536) :
    Calls Tryd.prog 19 #[.func (.func 20) #[] #[.pointer (some ⟨sb, 0, none⟩), .pointer (some ⟨jb, 0, none⟩)]] w (JG jb (wholeN s.data.toList) w) := by
  have hmf : ∀ (fn : Fn) (first cap : Array Value) (w : World), (Instr.makeFunc fn first cap).run Tryd.prog w = .ok (.func fn first cap) w := fun _ _ _ _ => rfl
  have hlt := hjb.lt
  have HA := Lib.hid ((Below.refl _ w).alloc (Nat.le_refl _) (.cells #[.int .i64 0] 26))
  have HN : Hid ((w.alloc (.cells #[.int .i64 0] 26)).heap[w.heap.size]? = some (.cells #[.int .i64 0] 26)) := heap_alloc_new w _
  have hsb1 : (w.alloc (.cells #[.int .i64 0] 26)).cell? ⟨sb, 0, none⟩ = some (.string s) := by rw [← hsb]; exact World.cell?_of_block (Below.heap_alloc _ _ _ hsl)
  have HW := Lib.hid (jparsec_any sb jb s o0 o1 o2 o3 o4 o5 _ hsb1 (j6_alloc hjb (.cells #[.int .i64 0] 26)) hs)
  clear hjb hsb hsb1
  cases hV : wholeN s.data.toList with
  | error x =>
    rw [hV] at HW
    clear hV
    go_enter_defers Tryd.func19, Tryd.ntmps19
    go_wp2_with (go_at_call 20; refine HW.out.mono ?_; rintro e w2 ⟨rfl, hf⟩; unfold thrown; have HF2 := Lib.hid hf; clear hf)
    refine leaves_cons (f := 30) (args := #[.pointer (some ⟨w.heap.size, 0, none⟩)]) (by simp) (by simp [go_sem]) ?_
    have hb2 : w2.heap[w.heap.size]? = some (.cells #[.int .i64 0] 26) := (HF2.out.block _ (by simp)).trans HN.out
    refine (jcatch_thrown w.heap.size x 0 [] w2 ?_ ?_).mono ?_
    · rw [cell_of_row w2 w.heap.size 0 _ _ _ hb2]; rfl
    · exact frozen_of_row w2 w.heap.size 0 _ _ hb2
    rintro e u' w'' ⟨rfl, rfl, rfl⟩
    have hc2 : (w2.setCell ⟨w.heap.size, 0, none⟩ (.int .i64 x)).cell? ⟨w.heap.size, 0, none⟩ = some (.int .i64 x) := by
      have hb := Go.Joins.block_setCell (i := 0) hb2 (.int .i64 x)
      rw [cell_of_row _ w.heap.size 0 _ _ _ hb]; rfl
    have hbel : Below w.heap.size w (w2.setCell ⟨w.heap.size, 0, none⟩ (.int .i64 x)) :=
      (((Frm.of_below HA.out).trans ((Frm.of_below HF2.out).mono fun k _ hk => by simp at hk; omega)).trans ((frm_at _ _ _ _).mono fun k _ hk => by have : k = w.heap.size := hk; omega)).below (Nat.le_refl _)
    simp [Leaves, settle, results, Tryd.results19, go_sem, hc2]
    exact ⟨rfl, hbel⟩
  | ok j =>
    rw [hV] at HW
    clear hV
    go_enter_defers Tryd.func19, Tryd.ntmps19
    go_wp2_with (go_at_call 20; refine HW.out.mono ?_; rintro e w2 ⟨rfl, hf, a0, a1, a2, a3, a4, a5, h6, hj⟩; have HF2 := Lib.hid hf; have H6 := Lib.hid h6; have HJ := Lib.hid hj; clear hf h6 hj
                 have hb2 : w2.heap[w.heap.size]? = some (.cells #[.int .i64 0] 26) := (HF2.out.block _ (by simp) (by unfold One; omega)).trans HN.out
                 have hc1 : w2.cell? ⟨w.heap.size, 0, none⟩ = some (.int .i64 0) := by rw [cell_of_row w2 w.heap.size 0 _ _ _ hb2]; rfl
                 have hz1 : w2.frozen? ⟨w.heap.size, 0, none⟩ = false := frozen_of_row w2 w.heap.size 0 _ _ hb2)
    refine leaves_cons (f := 30) (args := #[.pointer (some ⟨w.heap.size, 0, none⟩)]) (by simp) (by simp [go_sem]) ?_
    refine (jcatch_idle _ _).mono ?_
    rintro e u' w'' ⟨rfl, rfl, rfl⟩
    have hc2 : (w2.setCell ⟨w.heap.size, 0, none⟩ (.int .i64 0)).cell? ⟨w.heap.size, 0, none⟩ = some (.int .i64 0) := by
      have hb := Go.Joins.block_setCell (i := 0) hb2 (.int .i64 0)
      rw [cell_of_row _ w.heap.size 0 _ _ _ hb]; rfl
    have hz := HF2.out.size
    have hfv := frm_at w2 w.heap.size 0 (.int .i64 0)
    simp [Leaves, settle, results, Tryd.results19, go_sem, hc2]
    refine ⟨rfl, frm_new_one ((Frm.of_new HA.out (One jb)).trans HF2.out) (Nat.le_refl _) hfv, _, _, _, _, _, _, H6.out.frm hfv (by unfold One; omega), (HJ.out.frm hfv fun g hg _ hgp => (by have : g = w.heap.size := hgp; simp at hg; omega)).mono fun g _ hg => by simp at hg; omega⟩
end Go.Proofs.YtcobadgpelhcoaaDoor

namespace Go.Proofs.YtcobadgpelhcoaaDoor
open Go.Conc Go.RowKit
set_option linter.unusedVariables false
set_option linter.unusedSimpArgs false

/-- No value. -/
def zJ : Value := .agg #[.int .i64 0, .bool false, .int .i64 0, .string ⟨#[]⟩, .slice none 0 0, .slice none 0 0]
/-- What Parse answers. -/
def JPdU (r : Except Int J) (w : World) (e : Ending) (w' : World) : Prop :=
  match r with
  | .ok j => ∃ cs : List Value, e = .returned (.tuple #[.agg cs.toArray, .int .i64 0]) ∧ Below w.heap.size w w' ∧ JInU (fun g => w.heap.size ≤ g) w' j cs
  | .error c => e = .returned (.tuple #[zJ, .int .i64 c]) ∧ Below w.heap.size w w'
theorem parseN_whole {l : List UInt8} (h : l.length ≤ 65536) : parseN numD l = wholeN l := by
  unfold parseN wholeN
  rw [if_neg (by omega)]
  cases valW l (valN numD l 16) 0 with
  | error c => rfl
  | ok q =>
    obtain ⟨j, i⟩ := q
    by_cases hi : l.length ≤ i
    · simp only [hi, if_true, show ¬ i < l.length by omega, if_false]
    · simp only [hi, if_false, show i < l.length by omega, if_true]

set_option maxHeartbeats 4000000 in
set_option maxRecDepth 100000 in
theorem jparse_anyU (s : ByteArray) (w : World) (hsz : s.size ≤ 140737488351232) : Calls Tryd.prog 10 #[.string s] w (JPdU (parseN numD s.data.toList) w) := by
  have hmf : ∀ (fn : Fn) (first cap : Array Value) (w : World), (Instr.makeFunc fn first cap).run Tryd.prog w = .ok (.func fn first cap) w := fun _ _ _ _ => rfl
  have HL : s.data.toList.length = s.size := by simp
  have B0 : (w.alloc (.cells #[.string s] 9)).heap[w.heap.size]? = some (.cells #[.string s] 9) := heap_alloc_new w _
  have R0 := j6_new1 w (.cells #[.string s] 9) (.int .i64 0) (.bool false) (.int .i64 0) (.string ⟨#[]⟩) (.slice none 0 0) (.slice none 0 0)
  have HB0 := (Below.refl _ w).alloc (Nat.le_refl _) (.cells #[.string s] 9)
  have HB1 := HB0.alloc (by simp) (.cells #[.int .i64 0, .bool false, .int .i64 0, .string ⟨#[]⟩, .slice none 0 0, .slice none 0 0] 25)
  have sb1 : ((w.alloc (.cells #[.string s] 9)).alloc (.cells #[.int .i64 0, .bool false, .int .i64 0, .string ⟨#[]⟩, .slice none 0 0, .slice none 0 0] 25)).heap[w.heap.size]? = some (.cells #[.string s] 9) := (Below.heap_alloc _ _ _ (by simp)).trans B0
  have scell : ((w.alloc (.cells #[.string s] 9)).alloc (.cells #[.int .i64 0, .bool false, .int .i64 0, .string ⟨#[]⟩, .slice none 0 0, .slice none 0 0] 25)).cell? ⟨w.heap.size, 0, none⟩ = some (.string s) := by rw [cell_of_row _ w.heap.size 0 _ _ _ sb1]; rfl
  by_cases hs : s.size ≤ 65536
  · have g0 : decide ((65536 : Int) < (s.size : Int)) = false := by simp; omega
    have HS := Lib.hid hs
    rw [parseN_whole (by omega)]
    have J0 := j6_new (((w.alloc (.cells #[.string s] 9)).alloc (.cells #[.int .i64 0, .bool false, .int .i64 0, .string ⟨#[]⟩, .slice none 0 0, .slice none 0 0] 25))) (.int .i64 0) (.bool false) (.int .i64 0) (.string ⟨#[]⟩) (.slice none 0 0) (.slice none 0 0)
    have sb2 := (Below.heap_alloc ((w.alloc (.cells #[.string s] 9)).alloc (.cells #[.int .i64 0, .bool false, .int .i64 0, .string ⟨#[]⟩, .slice none 0 0, .slice none 0 0] 25)) (.cells #[.int .i64 0, .bool false, .int .i64 0, .string ⟨#[]⟩, .slice none 0 0, .slice none 0 0] 25) w.heap.size (by simp <;> omega)).trans sb1
    have sc2 : (((w.alloc (.cells #[.string s] 9)).alloc (.cells #[.int .i64 0, .bool false, .int .i64 0, .string ⟨#[]⟩, .slice none 0 0, .slice none 0 0] 25)).alloc (.cells #[.int .i64 0, .bool false, .int .i64 0, .string ⟨#[]⟩, .slice none 0 0, .slice none 0 0] 25)).cell? ⟨w.heap.size, 0, none⟩ = some (.string s) := by rw [cell_of_row _ w.heap.size 0 _ _ _ sb2]; rfl
    have HW := Lib.hid (jcaught_parse w.heap.size ((w.alloc (.cells #[.string s] 9)).alloc (.cells #[.int .i64 0, .bool false, .int .i64 0, .string ⟨#[]⟩, .slice none 0 0, .slice none 0 0] 25)).heap.size s _ _ _ _ _ _ _ sc2 (by simp; omega) J0 hs)
    have R1 := Lib.hid (j6_alloc R0 (.cells #[.int .i64 0, .bool false, .int .i64 0, .string ⟨#[]⟩, .slice none 0 0, .slice none 0 0] 25))
    have HB2 := Lib.hid (HB1.alloc (by simp <;> omega) (.cells #[.int .i64 0, .bool false, .int .i64 0, .string ⟨#[]⟩, .slice none 0 0, .slice none 0 0] 25))
    have HJ0 := Lib.hid J0
    clear R0 J0 sb2 sc2 sb1 B0 HB0 HB1 hs
    have e2 : ((w.alloc (.cells #[.string s] 9)).alloc (.cells #[.int .i64 0, .bool false, .int .i64 0, .string ⟨#[]⟩, .slice none 0 0, .slice none 0 0] 25)).heap.size = w.heap.size + 2 := by simp
    rw [e2] at HW HJ0
    cases hV : wholeN s.data.toList with
    | error x =>
      rw [hV] at HW
      clear hV
      go_enter Tryd.func10, Tryd.ntmps10
      go_wp2_with (go_at_call 19; refine HW.out.mono ?_; rintro e w2 ⟨rfl, hf⟩; have HF2 := Lib.hid hf; clear hf; have HR2 := Lib.hid (R1.out.frm (F := fun k => w.heap.size + 3 ≤ k) ((Frm.of_below HF2.out).mono fun k _ hk => (by simp at hk; omega)) (by omega)); have HJ2 := Lib.hid (HJ0.out.frm (F := fun k => w.heap.size + 3 ≤ k) ((Frm.of_below HF2.out).mono fun k _ hk => (by simp at hk; omega)) (by omega)); have r0 := HR2.out.c0; have r1 := HR2.out.c1; have r2 := HR2.out.c2; have r3 := HR2.out.c3; have r4 := HR2.out.c4; have r5 := HR2.out.c5; have zr0 := HR2.out.fz 0; have zr1 := HR2.out.fz 1; have zr2 := HR2.out.fz 2; have zr3 := HR2.out.fz 3; have zr4 := HR2.out.fz 4; have zr5 := HR2.out.fz 5; have j0 := HJ2.out.c0; have j1 := HJ2.out.c1; have j2 := HJ2.out.c2; have j3 := HJ2.out.c3; have j4 := HJ2.out.c4; have j5 := HJ2.out.c5)
      have hv := HR2.out.fill (.int .i64 0) (.bool false) (.int .i64 0) (.string ⟨#[]⟩) (.slice none 0 0) (.slice none 0 0)
      have hfv := frm_fill6 w2 (w.heap.size + 1) (.int .i64 0) (.bool false) (.int .i64 0) (.string ⟨#[]⟩) (.slice none 0 0) (.slice none 0 0)
      change bodyPost _ _ _ _ _ (Fill6 w2 (w.heap.size + 1) (.int .i64 0) (.bool false) (.int .i64 0) (.string ⟨#[]⟩) (.slice none 0 0) (.slice none 0 0))
      generalize Fill6 w2 (w.heap.size + 1) (.int .i64 0) (.bool false) (.int .i64 0) (.string ⟨#[]⟩) (.slice none 0 0) (.slice none 0 0) = v at *
      refine bodyPost_ret (v := .tuple #[zJ, .int .i64 x]) (by simp [results, Tryd.results10, go_sem, zJ, hv.c0, hv.c1, hv.c2, hv.c3, hv.c4, hv.c5]) rfl ?_
      exact ⟨rfl, (((Frm.of_below HB2.out).trans ((Frm.of_below HF2.out).mono fun k _ hk => by simp at hk; omega)).trans (hfv.mono fun k _ hk => by have : k = w.heap.size + 1 := hk; omega)).below (Nat.le_refl _)⟩
    | ok j =>
      rw [hV] at HW
      clear hV
      go_enter Tryd.func10, Tryd.ntmps10
      go_wp2_with (go_at_call 19; refine HW.out.mono ?_; rintro e w2 ⟨rfl, hf, a0, a1, a2, a3, a4, a5, h6, hj⟩; obtain ⟨xk, xb, xn, xs, xla, xll, xlc, xka, xkl, xkc, hform⟩ := hj.form; simp only [List.cons.injEq, and_true] at hform; obtain ⟨rfl, rfl, rfl, rfl, rfl, rfl⟩ := hform; have HF2 := Lib.hid hf; have HJ2 := Lib.hid h6; have HJ := Lib.hid hj; clear hf h6 hj; have HR2 := Lib.hid (R1.out.frm HF2.out (by unfold One; omega)); have r0 := HR2.out.c0; have r1 := HR2.out.c1; have r2 := HR2.out.c2; have r3 := HR2.out.c3; have r4 := HR2.out.c4; have r5 := HR2.out.c5; have zr0 := HR2.out.fz 0; have zr1 := HR2.out.fz 1; have zr2 := HR2.out.fz 2; have zr3 := HR2.out.fz 3; have zr4 := HR2.out.fz 4; have zr5 := HR2.out.fz 5; have j0 := HJ2.out.c0; have j1 := HJ2.out.c1; have j2 := HJ2.out.c2; have j3 := HJ2.out.c3; have j4 := HJ2.out.c4; have j5 := HJ2.out.c5)
      have hv := HR2.out.fill (.int .i64 xk) (.bool xb) (.int .i64 xn) (.string xs) (.slice xla xll xlc) (.slice xka xkl xkc)
      have hz := HF2.out.size
      have hfv := frm_fill6 w2 (w.heap.size + 1) (.int .i64 xk) (.bool xb) (.int .i64 xn) (.string xs) (.slice xla xll xlc) (.slice xka xkl xkc)
      change bodyPost _ _ _ _ _ (Fill6 w2 (w.heap.size + 1) (.int .i64 xk) (.bool xb) (.int .i64 xn) (.string xs) (.slice xla xll xlc) (.slice xka xkl xkc))
      generalize Fill6 w2 (w.heap.size + 1) (.int .i64 xk) (.bool xb) (.int .i64 xn) (.string xs) (.slice xla xll xlc) (.slice xka xkl xkc) = v at *
      refine bodyPost_ret (v := .tuple #[.agg #[.int .i64 xk, .bool xb, .int .i64 xn, .string xs, .slice xla xll xlc, .slice xka xkl xkc], .int .i64 0]) (by simp [results, Tryd.results10, go_sem, hv.c0, hv.c1, hv.c2, hv.c3, hv.c4, hv.c5]) rfl ?_
      exact ⟨_, rfl, (((Frm.of_below HB2.out).trans (HF2.out.mono fun k _ hk => by have : k = w.heap.size + 2 := hk; omega)).trans (hfv.mono fun k _ hk => by have : k = w.heap.size + 1 := hk; omega)).below (Nat.le_refl _),
        (HJ.out.frm hfv fun g hg _ hgp => (by have : g = w.heap.size + 1 := hgp; simp at hg hz; omega)).mono fun g _ hg => by simp at hg hz; omega⟩
  · have g0 : decide ((65536 : Int) < (s.size : Int)) = true := by simp; omega
    have e : parseN numD s.data.toList = .error 302 := by unfold parseN; rw [if_pos (by omega)]
    rw [e]
    have HR2 := Lib.hid R0
    have r0 := HR2.out.c0; have r1 := HR2.out.c1; have r2 := HR2.out.c2; have r3 := HR2.out.c3; have r4 := HR2.out.c4; have r5 := HR2.out.c5; have zr0 := HR2.out.fz 0; have zr1 := HR2.out.fz 1; have zr2 := HR2.out.fz 2; have zr3 := HR2.out.fz 3; have zr4 := HR2.out.fz 4; have zr5 := HR2.out.fz 5
    go_enter Tryd.func10, Tryd.ntmps10
    go_wp2
    refine bodyPost_ret (v := .tuple #[zJ, .int .i64 302]) (by simp [results, Tryd.results10, go_sem, zJ, R0.c0, R0.c1, R0.c2, R0.c3, R0.c4, R0.c5]) rfl ?_
    exact ⟨rfl, HB1⟩
/-- What Parse answers. -/
def JPd (r : Except Int J) (w : World) (e : Ending) (w' : World) : Prop :=
  match r with
  | .ok j => ∃ cs : List Value, e = .returned (.tuple #[.agg cs.toArray, .int .i64 0]) ∧ Below w.heap.size w w' ∧ JIn (fun g => w.heap.size ≤ g) w' j cs
  | .error c => e = .returned (.tuple #[zJ, .int .i64 c]) ∧ Below w.heap.size w w'
theorem jparse_any (s : ByteArray) (w : World) (hsz : s.size ≤ 140737488351232) : Calls Tryd.prog 10 #[.string s] w (JPd (parseN numD s.data.toList) w) := by
  refine (jparse_anyU s w hsz).mono fun e w' h => ?_
  generalize parseN numD s.data.toList = r at *
  cases r with
  | error c => exact h
  | ok j => obtain ⟨cs, h1, h2, h3⟩ := h; exact ⟨cs, h1, h2, h3.weak⟩
end Go.Proofs.YtcobadgpelhcoaaDoor
