/- The program's parser: lists. -/
import Derived.Test.YtcobadgpelhcoaaDoorDOut
namespace Go.Proofs.YtcobadgpelhcoaaDoor
open Go.Conc Go.RowKit
set_option linter.unusedVariables false

set_option maxHeartbeats 4000000 in
set_option maxRecDepth 100000 in
theorem jlist_none (pb : Nat) (s : ByteArray) (i d k0 : Nat) (w : World) (h : JPAt w pb s i d) (hi1 : i + 1 ≤ s.size) (hs : s.size ≤ 65536) (hd : d < 16) (hk0 : skipW s.data.toList (i + 1) = k0) (hk0s : k0 ≤ s.size) (hk0i : i + 1 ≤ k0) (h93 : pk s.data.toList k0 = 93) (hk1 : k0 + 1 ≤ s.size) :
    Calls Tryd.prog 69 #[.pointer (some ⟨pb, 0, none⟩)] w (JV pb s i d (.ok (jList [], k0 + 1)) w) := by
  have hlt := h.lt
  have H := Lib.hid h
  have HK0 := Lib.hid hk0
  have HC := Lib.hid h93
  clear h h93 hk0
  have B0 := Lib.hid (j6_new w (.int .i64 0) (.bool false) (.int .i64 0) (.string ⟨#[]⟩) (.slice none 0 0) (.slice none 0 0))
  go_enter Tryd.func69, Tryd.ntmps69
  go_wp2_with (first
      | (go_at_call 80
         have hB := Lib.hid (j6_new1 w (.cells #[.int .i64 0, .bool false, .int .i64 0, .string ⟨#[]⟩, .slice none 0 0, .slice none 0 0] 25) (.int .i64 4) (.bool false) (.int .i64 0) (.string ⟨#[]⟩) (.slice none 0 0) (.slice none 0 0))
         have hR0 := Lib.hid (j6_alloc B0.out (.cells #[.int .i64 4, .bool false, .int .i64 0, .string ⟨#[]⟩, .slice none 0 0, .slice none 0 0] 25))
         have hA := Lib.hid (((Frm.refl (One pb) w).alloc (.cells #[.int .i64 0, .bool false, .int .i64 0, .string ⟨#[]⟩, .slice none 0 0, .slice none 0 0] 25)).alloc (.cells #[.int .i64 4, .bool false, .int .i64 0, .string ⟨#[]⟩, .slice none 0 0, .slice none 0 0] 25))
         have hP := Lib.hid (H.out.below ((((Below.refl _ w).alloc (Nat.le_refl _) (.cells #[.int .i64 0, .bool false, .int .i64 0, .string ⟨#[]⟩, .slice none 0 0, .slice none 0 0] 25))).alloc (by simp) (.cells #[.int .i64 4, .bool false, .int .i64 0, .string ⟨#[]⟩, .slice none 0 0, .slice none 0 0] 25)))
         refine (jopen_yes pb s i d _ hP.out hi1 hs hd).mono ?_; rintro e w1 ⟨rfl, hp, hf⟩; rw [HK0.out] at hp
         have HP1 := Lib.hid hp; have HF1 := Lib.hid hf; clear hp hf)
      | (go_at_call 81; refine (jcloses_yes pb s 93 k0 d _ HP1.out hk0s hs hd HC.out).mono ?_; rintro e w2 ⟨rfl, hp, hf⟩; have HP2 := Lib.hid hp; have HF2 := Lib.hid hf; clear hp hf
         have HB2 := Lib.hid ((hB.out.frm HF1.out (by unfold One; omega)).frm HF2.out (by unfold One; omega))
         have HR2 := Lib.hid ((hR0.out.frm HF1.out (by unfold One; omega)).frm HF2.out (by unfold One; omega))
         have b0 := HB2.out.c0; have b1 := HB2.out.c1; have b2 := HB2.out.c2; have b3 := HB2.out.c3; have b4 := HB2.out.c4; have b5 := HB2.out.c5
         have r0 := HR2.out.c0; have r1 := HR2.out.c1; have r2 := HR2.out.c2; have r3 := HR2.out.c3; have r4 := HR2.out.c4; have r5 := HR2.out.c5
         have z0 := HR2.out.fz 0; have z1 := HR2.out.fz 1; have z2 := HR2.out.fz 2; have z3 := HR2.out.fz 3; have z4 := HR2.out.fz 4; have z5 := HR2.out.fz 5))
  have hv := HR2.out.fill (.int .i64 4) (.bool false) (.int .i64 0) (.string ⟨#[]⟩) (.slice none 0 0) (.slice none 0 0)
  have hfv := frm_fill6 w2 w.heap.size (.int .i64 4) (.bool false) (.int .i64 0) (.string ⟨#[]⟩) (.slice none 0 0) (.slice none 0 0)
  change bodyPost _ _ _ _ _ (Fill6 w2 w.heap.size (.int .i64 4) (.bool false) (.int .i64 0) (.string ⟨#[]⟩) (.slice none 0 0) (.slice none 0 0))
  generalize Fill6 w2 w.heap.size (.int .i64 4) (.bool false) (.int .i64 0) (.string ⟨#[]⟩) (.slice none 0 0) (.slice none 0 0) = v at *
  refine bodyPost_ret (v := .agg #[.int .i64 4, .bool false, .int .i64 0, .string ⟨#[]⟩, .slice none 0 0, .slice none 0 0]) (by simp [results, Tryd.results69, go_sem, hv.c0, hv.c1, hv.c2, hv.c3, hv.c4, hv.c5]) rfl ?_
  have hff := frm_new_one ((hA.out.trans HF1.out).trans HF2.out) (Nat.le_refl _) hfv
  exact ⟨_, rfl, by omega, hk1, HP2.out.frm hfv (by unfold One; omega), hff, JInU.plain 4 false 0 ⟨#[]⟩⟩
end Go.Proofs.YtcobadgpelhcoaaDoor
