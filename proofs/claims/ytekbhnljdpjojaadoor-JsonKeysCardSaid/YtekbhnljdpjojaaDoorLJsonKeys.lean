/- The law on keys, walked. -/
import Derived.Test.YtekbhnljdpjojaaDoorKPr
import Derived.Deep.RegionHeld3
import Derived.Deep.Cut
import Derived.Deep.CutRange
namespace Go.Proofs.YtekbhnljdpjojaaDoor
open Go.Conc Go.RowKit Go.Maps Go.WideMaps
set_option linter.unusedVariables false
set_option linter.unusedSimpArgs false

theorem below_fill6 {B : Nat} {a w : World} (h : Below B a w) {b : Nat} (hb : B ≤ b) (v0 v1 v2 v3 v4 v5 : Value) : Below B a (Fill6 w b v0 v1 v2 v3 v4 v5) :=
  (((((h.setCell (p := ⟨b, 0, none⟩) hb v0).setCell (p := ⟨b, 1, none⟩) hb v1).setCell (p := ⟨b, 2, none⟩) hb v2).setCell (p := ⟨b, 3, none⟩) hb v3).setCell (p := ⟨b, 4, none⟩) hb v4).setCell (p := ⟨b, 5, none⟩) hb v5

set_option maxHeartbeats 8000000 in
set_option maxRecDepth 100000 in
theorem jsonKeys_walk (B : Nat) (many at_ : Int) (twice : Bool) (w : World) (ht : TabLow B w) (hB : B ≤ w.heap.size) :
    Calls Tryd.prog 8 #[.int .i64 many, .int .i64 at_, .bool twice] w fun e w' => e = .returned (.bool true) ∧ Below w.heap.size w w' := by
  have HA := Lib.hid (jawake_any B w ht hB)
  have HT := Lib.hid ht
  have HD := Lib.hid decimal_z
  obtain ⟨m, hm, em⟩ := i64_and7 many
  obtain ⟨k, hk⟩ : ∃ k, k = m + 1 := ⟨_, rfl⟩
  have ek : (1 : Int) + (m : Int) = (k : Int) := by omega
  have hk8 : k ≤ 8 := by omega
  have hk1 : 1 ≤ k := by omega
  clear ht hk hm
  go_enter Tryd.func8, Tryd.ntmps8
  go_wp2_with (go_at_call 14; refine HA.out.mono ?_; rintro e w0 ⟨rfl, hb0⟩; have HB0 := Lib.hid hb0; clear hb0)
  go_loopg [9] (k + 1) (fun g iv wr => JKl k w0 g iv wr)
  case atStart => exact ⟨0, [], _, _, rfl, by omega, by omega, rfl, j6_new w0 _ _ _ _ _ _, World.ownsRow_nil _ _ _ _, World.ownsRow_nil _ _ _ _, fun _ => JsIn.nil _ _, (Below.refl _ w0).alloc (Nat.le_refl _) _⟩
  case round =>
    obtain ⟨i, cs, lv, kv, rfl, hi, hig, hk⟩ := hrel
    obtain ⟨g, rfl⟩ : ∃ g, gk = g + 1 := ⟨gk - 1, by omega⟩
    have HK := Lib.hid hk
    obtain ⟨ka, kc, hkv⟩ := own_slice hk.ownK
    rw [kKeys_len] at hkv
    subst hkv
    have c5 := hk.j6.c5
    have HKL : Hid ((kKeys i).length = i) := kKeys_len i
    have HVL : Hid ((kVals i).length = i) := kVals_len i
    have hil := Lib.itoa_length_le (i : Int) (by omega) (by omega)
    clear hk
    by_cases hik : i = k
    · have g0 : decide ((i : Int) < (k : Int)) = false := by simp; omega
      clear g0
      subst hik
      obtain ⟨j, hj, ej⟩ : ∃ j : Nat, j < i ∧ (IntKind.u64.wrap at_).tmod (i : Int) = (j : Int) := by
        have h0 := wrap_u64_nonneg at_
        rw [Int.tmod_eq_emod_of_nonneg h0]
        have h1 := Int.emod_nonneg (IntKind.u64.wrap at_) (show (i : Int) ≠ 0 by omega)
        have h2 := Int.emod_lt_of_pos (IntKind.u64.wrap at_) (show (0 : Int) < (i : Int) by omega)
        exact ⟨((IntKind.u64.wrap at_) % (i : Int)).toNat, by omega, by omega⟩
      have gk0 : ((i : Int) == 0) = false := by simp; omega
      have gk1 : ¬ (i : Int) = 0 := by omega
      have gk2 : ¬ i = 0 := by omega
      have g0 : decide ((i : Int) < (i : Int)) = false := by simp
      have c0 := HK.out.j6.c0; have c1 := HK.out.j6.c1; have c2 := HK.out.j6.c2; have c3 := HK.out.j6.c3; have c4 := HK.out.j6.c4
      have hjl := HK.out.j6.lt
      have hil2 := Lib.itoa_length_le (j : Int) (by omega) (by omega)
      have hcat : ¬ (9223372036854775807 < 1 + (Lib.itoa (j : Int)).length) := by omega
      go_upto_region 11 with (fail)
      go_cut [11, 12] from 54 to 61 (fun p q wx => ∃ (pv : Nat) (la2 : Option Addr) (lc2 : Nat) (ka2 : Option Addr) (kc2 : Nat), p = .pointer (some ⟨pv, 0, none⟩) ∧ q = .bool true ∧ wr.heap.size ≤ pv ∧ KAt w0.heap.size w0 wx (kKeys i) (kVals i) cs lv (.slice ka i kc) ∧ J6 wx pv (.int .i64 2) (.bool false) (.int .i64 (10 * (j : Int))) (.string ⟨#[]⟩) (.slice la2 0 lc2) (.slice ka2 0 kc2))
      case first =>
        go_region_held3 (fun w' => w'.cell? ⟨w0.heap.size, 0, none⟩ = some (.int .i64 5) ∧ w'.cell? ⟨w0.heap.size, 1, none⟩ = some (.bool false) ∧ w'.cell? ⟨w0.heap.size, 2, none⟩ = some (.int .i64 0) ∧ w'.cell? ⟨w0.heap.size, 3, none⟩ = some (.string ⟨#[]⟩) ∧ w'.cell? ⟨w0.heap.size, 4, none⟩ = some lv ∧ w'.cell? ⟨w0.heap.size, 5, none⟩ = some (.slice ka i kc)) (first | go_keep | (have hne : w0.heap.size ≠ w5.heap.size := (by have := HK5.out.j6.lt; omega); rw [fcell w6 (w5.heap.size) w0.heap.size 0 _ _ _ _ _ _ hne, fcell w6 (w5.heap.size) w0.heap.size 1 _ _ _ _ _ _ hne, fcell w6 (w5.heap.size) w0.heap.size 2 _ _ _ _ _ _ hne, fcell w6 (w5.heap.size) w0.heap.size 3 _ _ _ _ _ _ hne, fcell w6 (w5.heap.size) w0.heap.size 4 _ _ _ _ _ _ hne, fcell w6 (w5.heap.size) w0.heap.size 5 _ _ _ _ _ _ hne]; exact ⟨r0, r1, r2, r3, r4, r5⟩) | (have hne : w0.heap.size ≠ wr.heap.size := (by omega); rw [fcell w6 (wr.heap.size) w0.heap.size 0 _ _ _ _ _ _ hne, fcell w6 (wr.heap.size) w0.heap.size 1 _ _ _ _ _ _ hne, fcell w6 (wr.heap.size) w0.heap.size 2 _ _ _ _ _ _ hne, fcell w6 (wr.heap.size) w0.heap.size 3 _ _ _ _ _ _ hne, fcell w6 (wr.heap.size) w0.heap.size 4 _ _ _ _ _ _ hne, fcell w6 (wr.heap.size) w0.heap.size 5 _ _ _ _ _ _ hne]; exact ⟨r0, r1, r2, r3, r4, r5⟩) | (trace_state; fail))
          (first
            | (go_at_call 18; refine (HD.out (j : Int) (by omega) (by omega) _).mono ?_; rintro e w5 ⟨rfl, hb5⟩; have hw5 : Below wr.heap.size wr w5 := (by first | exact (((Frm.of_below (Below.refl _ wr)).drew).trans (Frm.of_new hb5 _)).below (Nat.le_refl _) | exact ((((Frm.of_below (Below.refl _ wr)).drew).alloc _).trans (Frm.of_new hb5 _)).below (Nat.le_refl _)); (first | (have HZ5 := Lib.hid (show J6 w5 wr.heap.size (.int .i64 0) (.bool false) (.int .i64 0) (.string ⟨#[]⟩) (.slice none 0 0) (.slice none 0 0) from (j6_new wr.drew (.int .i64 0) (.bool false) (.int .i64 0) (.string ⟨#[]⟩) (.slice none 0 0) (.slice none 0 0)).frm (Frm.of_new hb5 (fun _ => False)) id)) | skip); have hk5 := HK.out.below hw5; have HK5 := Lib.hid hk5; have HW5 := Lib.hid hw5; have s0 := hk5.j6.c0; have s1 := hk5.j6.c1; have s2 := hk5.j6.c2; have s3 := hk5.j6.c3; have s4 := hk5.j6.c4; have s5 := hk5.j6.c5; clear hb5 hk5 hw5)
            | (go_at_call 17; refine (kGet i j hj hk8 (fun g => g < w5.heap.size) _ _ (by first | exact HK5.out.jin | exact HK5.out.jin.same (fun g _ hl => Below.heap_alloc _ _ _ hl) (by simp))).mono ?_; rintro e w6 ⟨⟨la2, lc2, ka2, kc2, rfl⟩, hb6⟩; have hw6 : Below wr.heap.size wr w6 := (by first | exact ((Frm.of_below HW5.out).trans (Frm.of_new hb6 _)).below (Nat.le_refl _) | exact (((Frm.of_below HW5.out).alloc _).trans (Frm.of_new hb6 _)).below (Nat.le_refl _)); (first | (have zz : J6 w6 wr.heap.size (.int .i64 0) (.bool false) (.int .i64 0) (.string ⟨#[]⟩) (.slice none 0 0) (.slice none 0 0) := HZ5.out.frm (Frm.of_new hb6 (fun _ => False)) id; have HZ6 := Lib.hid zz; have y0 := zz.c0; have x0 := zz.fz 0; have y1 := zz.c1; have x1 := zz.fz 1; have y2 := zz.c2; have x2 := zz.fz 2; have y3 := zz.c3; have x3 := zz.fz 3; have y4 := zz.c4; have x4 := zz.fz 4; have y5 := zz.c5; have x5 := zz.fz 5; clear zz) | (have zz : J6 w6 w5.heap.size (.int .i64 0) (.bool false) (.int .i64 0) (.string ⟨#[]⟩) (.slice none 0 0) (.slice none 0 0) := (j6_new w5 (.int .i64 0) (.bool false) (.int .i64 0) (.string ⟨#[]⟩) (.slice none 0 0) (.slice none 0 0)).frm (Frm.of_new hb6 (fun _ => False)) id; have HZ6 := Lib.hid zz; have y0 := zz.c0; have x0 := zz.fz 0; have y1 := zz.c1; have x1 := zz.fz 1; have y2 := zz.c2; have x2 := zz.fz 2; have y3 := zz.c3; have x3 := zz.fz 3; have y4 := zz.c4; have x4 := zz.fz 4; have y5 := zz.c5; have x5 := zz.fz 5; clear zz) | skip); have hk6 := HK.out.below hw6; have HK6 := Lib.hid hk6; have HW6 := Lib.hid hw6; have r0 := hk6.j6.c0; have r1 := hk6.j6.c1; have r2 := hk6.j6.c2; have r3 := hk6.j6.c3; have r4 := hk6.j6.c4; have r5 := hk6.j6.c5; clear hb6 hk6 hw6))
        · go_wp2_with (fail)
          go_meet
          case rel => exact ⟨w6.heap.size, la2, lc2, ka2, kc2, rfl, rfl, HW6.out.size, HK.out.below (HW6.out.alloc HW6.out.size _), j6_new _ _ _ _ _ _ _⟩
        · go_wp2_with (fail)
          go_meet
          case rel => exact ⟨w5.heap.size, la2, lc2, ka2, kc2, rfl, rfl, HW5.out.size, HK.out.below (below_fill6 HW6.out HW5.out.size _ _ _ _ _ _), HZ6.out.fill _ _ _ _ _ _⟩
        · go_wp2_with (fail)
          go_meet
          case rel => exact ⟨wr.heap.size, la2, lc2, ka2, kc2, rfl, rfl, Nat.le_refl _, HK.out.below (below_fill6 HW6.out (Nat.le_refl _) _ _ _ _ _ _), HZ6.out.fill _ _ _ _ _ _⟩
      case rest =>
        obtain ⟨pv, la2, lc2, ka2, kc2, rfl, rfl, hpv, hkx, hjx⟩ := hcut
        have HNL : Hid (∀ g, lv.ownBlock = some g → g ≠ pv) := fun g hg => by obtain ⟨_, c, p, h1⟩ := own_type HK.out.ownL hg; have := (Array.getElem?_eq_some_iff.1 h1).1; omega
        have HNK : Hid (∀ g, (Value.slice ka i kc).ownBlock = some g → g ≠ pv) := fun g hg => by obtain ⟨_, c, p, h1⟩ := own_type HK.out.ownK hg; have := (Array.getElem?_eq_some_iff.1 h1).1; omega
        have HNP : Hid (w0.heap.size ≠ pv) := by have := HK.out.j6.lt; show w0.heap.size ≠ pv; omega
        obtain ⟨fg, fcap, fa, fb, fc, fd, rfl, hfl, q0, q1, q2, q3, q4, q5⟩ := hkx.first hk1
        have HKX := Lib.hid hkx
        have HJX := Lib.hid hjx
        have HFL := Lib.hid hfl
        have r0 := hkx.j6.c0; have r1 := hkx.j6.c1; have r2 := hkx.j6.c2; have r3 := hkx.j6.c3; have r4 := hkx.j6.c4; have r5 := hkx.j6.c5
        clear hkx hjx hfl c0 c1 c2 c3 c4 c5 q0 q1 q2 q3 q4 q5
        go_upto_region 13 with (first | (go_at_call 17; refine (kGet2 i hk8 (fun g => g < wc.heap.size) _ _ HKX.out.jin).mono ?_; rintro e w7 ⟨he, hb7⟩; unfold zJ at he; subst he; have HW7 := Lib.hid hb7; clear hb7) | fail)
        have hb8 : Below wc.heap.size wc (w7.alloc (.cells #[.int .i64 0, .bool false, .int .i64 0, .string ⟨#[]⟩, .slice none 0 0, .slice none 0 0] 25)) := HW7.out.alloc HW7.out.size _
        generalize w7.alloc (.cells #[.int .i64 0, .bool false, .int .i64 0, .string ⟨#[]⟩, .slice none 0 0, .slice none 0 0] 25) = w8 at hb8 ⊢
        generalize w7.heap.size = zv at *
        have hk8b := HKX.out.below hb8
        have hj8 : J6 w8 pv (.int .i64 2) (.bool false) (.int .i64 (10 * (j : Int))) (.string ⟨#[]⟩) (.slice la2 0 lc2) (.slice ka2 0 kc2) := (hb8.block pv HJX.out.lt).trans HJX.out
        clear HW7 HKX HJX HFL r0 r1 r2 r3 r4 r5
        obtain ⟨fg, fcap, fa, fb, fc, fd, hlve, hfl, q0, q1, q2, q3, q4, q5⟩ := hk8b.first hk1
        cases hlve
        have r4 := hk8b.j6.c4
        have HKX := Lib.hid hk8b
        have HJX := Lib.hid hj8
        clear hb8 hk8b hj8
        go_upto_region 14 with (first | (go_at_call 17; refine (jget_other 2 (by decide) false 0 ⟨#[]⟩ (.slice fa 0 fb) (.slice fc 0 fd) ⟨_, _, _, rfl⟩ ⟨_, _, _, rfl⟩ _ _).mono ?_; rintro e w9 ⟨he, hb9⟩; unfold zJ at he; subst he; have HW9 := Lib.hid hb9; clear hb9) | fail)
        have hb10 : Below w8.heap.size w8 (w9.alloc (.cells #[.int .i64 0, .bool false, .int .i64 0, .string ⟨#[]⟩, .slice none 0 0, .slice none 0 0] 25)) := HW9.out.alloc HW9.out.size _
        generalize (w9.alloc (.cells #[.int .i64 0, .bool false, .int .i64 0, .string ⟨#[]⟩, .slice none 0 0, .slice none 0 0] 25)) = w10 at hb10 ⊢
        generalize w9.heap.size = yv at *
        have hk10 := HKX.out.below hb10
        have hj10 : J6 w10 pv (.int .i64 2) (.bool false) (.int .i64 (10 * (j : Int))) (.string ⟨#[]⟩) (.slice la2 0 lc2) (.slice ka2 0 kc2) := (hb10.block pv HJX.out.lt).trans HJX.out
        clear HW9 HKX HJX r4 q0 q1 q2 q3 q4 q5 hfl
        have HKX := Lib.hid hk10
        have HJX := Lib.hid hj10
        clear hb10 hk10 hj10
        go_upto_if 75 with (fail)
        go_cut [16] from 48 to 89 (fun s wx => ∃ (ks : List ByteArray) (vs : List J) (cs2 : List (List Value)) (lv2 kv2 : Value), s = .bool false ∧ ((twice = false ∧ ks = kKeys i ∧ vs = kVals i) ∨ (twice = true ∧ ∃ x, ks = kKeys i ++ [kKey j] ∧ vs = kVals i ++ [x] ∧ JSm x)) ∧ KAt w0.heap.size w0 wx ks vs cs2 lv2 kv2 ∧ J6 wx pv (.int .i64 2) (.bool false) (.int .i64 (10 * (j : Int))) (.string ⟨#[]⟩) (.slice la2 0 lc2) (.slice ka2 0 kc2))
        case first =>
          cases twice
          · go_wp2_with (fail)
            go_meet
            case rel => exact ⟨_, _, _, _, _, by first | rfl | trivial, Or.inl ⟨by first | rfl | trivial, rfl, rfl⟩, HKX.out, HJX.out⟩
          · generalize Value.slice (some ⟨fg, 0, none⟩) i fcap = lv at HKX HNL
            have c5 := HKX.out.j6.c5
            go_wp2
            refine wp_region_any (by kernel_rfl) ?_
            change wpAny _ _ _ _ _ _ _ (World.drew _)
            refine wpAny_take (i := 0) (v := ?_) rfl (by kernel_rfl) (by kernel_rfl) (by kernel_rfl) (fun _ _ _ h => h) (Or.inl ⟨by rfl, fun w => ?_⟩) ?_
            rotate_left
            · go_simp
              try with_reducible rfl
            try simp only [Go.Act.put, List.setIfInBounds_toArray, List.set_cons_zero, List.set_cons_succ]
            refine wpAny_take (i := 2) (v := ?_) rfl (by kernel_rfl) (by kernel_rfl) (by kernel_rfl) (fun _ _ _ h => h) (Or.inl ⟨by rfl, fun w => ?_⟩) ?_
            rotate_left
            · go_simp
              try with_reducible rfl
            try simp only [Go.Act.put, List.setIfInBounds_toArray, List.set_cons_zero, List.set_cons_succ]
            refine wpAny_ready (rs := [1, 3]) (by kernel_rfl) (by simp) (AllReady.cons rfl (fun K hK => ?_) (AllReady.cons rfl (fun K hK => ?_) (AllReady.nil)))
            · go_simp
              refine hK _ _ ?_
              clear hK K
              try simp only [Go.Act.put, List.setIfInBounds_toArray, List.set_cons_zero, List.set_cons_succ]
              refine wpAny_ready (rs := [3]) (by kernel_rfl) (by simp) (AllReady.cons rfl (fun K hK => ?_) (AllReady.nil))
              · go_simp
                refine (HD.out (j : Int) (by omega) (by omega) w10.drew).mono ?_
                rintro e w1 ⟨rfl, hb1⟩
                have HB1 := Lib.hid hb1
                have hk1 := (HKX.out.drew).below hb1
                have HK1 := Lib.hid hk1; have HJ1 := Lib.hid (show J6 w1 pv (.int .i64 2) (.bool false) (.int .i64 (10 * (j : Int))) (.string ⟨#[]⟩) (.slice la2 0 lc2) (.slice ka2 0 kc2) from (hb1.block pv HJX.out.lt).trans HJX.out)
                have b5 := hk1.j6.c5
                have b5a := (j6_alloc hk1.j6 (.cells #[.string (kKey j)] 9)).c5
                have hsz1 := hk1.j6.lt
                clear hb1 hk1
                dsimp only
                refine hK _ _ ?_
                clear hK K
                try simp only [Go.Act.put, List.setIfInBounds_toArray, List.set_cons_zero, List.set_cons_succ]
                refine wpAny_take (i := 4) (v := .string (kKey j)) rfl (by kernel_rfl) (by kernel_rfl) (by kernel_rfl) (fun _ _ _ h => h) (Or.inl ⟨by rfl, fun w => ?_⟩) ?_
                · go_simp
                  first | rfl | (rw [if_neg (by omega)]; rfl)
                try simp only [Go.Act.put, List.setIfInBounds_toArray, List.set_cons_zero, List.set_cons_succ]
                refine wpAny_ready (rs := [5]) (by kernel_rfl) (by simp) (AllReady.cons rfl (fun K hK => ?_) (AllReady.nil))
                · go_simp
                  refine hK _ _ ?_
                  clear hK K
                  try simp only [Go.Act.put, List.setIfInBounds_toArray, List.set_cons_zero, List.set_cons_succ]
                  refine wpAny_ready (rs := [6]) (by kernel_rfl) (by simp) (AllReady.cons rfl (fun K hK => ?_) (AllReady.nil))
                  · have ho1 := HK1.out.ownK
                    rw [kKeys_len] at ho1
                    refine step_append_str rfl _ _ rfl (w0.heap.size + 1) (by simp at hsz1 ⊢; omega) (.slice ka i kc) i ((kKeys i).map Value.string) [.string (kKey j)] ⟨w1.heap.size, 0, none⟩ 1 (by rfl) (by rfl) (ho1.alloc _) (by simp [kKeys_len]) (by omega) rfl one_one (one_news w1 _) ?_
                    intro kv' w2 hown hgrow hnew
                    obtain ⟨ka9, kc9, rfl⟩ := own_slice hown
                    have HG2 := Lib.hid hgrow
                    have HO2 := Lib.hid hown
                    have j2 : J6 w2 w0.heap.size (.int .i64 5) (.bool false) (.int .i64 0) (.string ⟨#[]⟩) lv (.slice ka i kc) := (hgrow.block _ (by simp; omega) (fun e => by have := (own_type HK1.out.ownK e.symm).1; omega)).trans (j6_alloc HK1.out.j6 _)
                    have f5 := j2.fz 5
                    have d5 := j2.c5
                    have HJ2 := Lib.hid (show J6 w2 pv (.int .i64 2) (.bool false) (.int .i64 (10 * (j : Int))) (.string ⟨#[]⟩) (.slice la2 0 lc2) (.slice ka2 0 kc2) from (hgrow.block pv (by have := J6.lt HJ1.out; simp; omega) (fun e => HNK.out _ e.symm rfl)).trans (j6_alloc HJ1.out _)); clear hown hgrow hnew j2 ho1
                    refine hK _ _ ?_
                    clear hK K
                    try simp only [Go.Act.put, List.setIfInBounds_toArray, List.set_cons_zero, List.set_cons_succ]
                    refine wpAny_take (i := 7) (v := ?_) rfl (by kernel_rfl) (by kernel_rfl) (by kernel_rfl) (fun _ _ _ h => h) (Or.inl ⟨by rfl, fun w => ?_⟩) ?_
                    rotate_left
                    · go_simp
                      try with_reducible rfl
                    try simp only [Go.Act.put, List.setIfInBounds_toArray, List.set_cons_zero, List.set_cons_succ]
                    refine wpAny_ready (rs := [8]) (by kernel_rfl) (by simp) (AllReady.cons rfl (fun K hK => ?_) (AllReady.nil))
                    go_simp
                    refine hK _ _ ?_
                    clear hK K
                    try simp only [Go.Act.put, List.setIfInBounds_toArray, List.set_cons_zero, List.set_cons_succ]
                    refine wpAny_done (by kernel_rfl) ?_ _
                    have hk2 : KAt w0.heap.size w0 (w2.setCell ⟨w0.heap.size, 5, none⟩ (.slice ka9 (i + 1) kc9)) (kKeys i ++ [kKey j]) (kVals i) cs lv (.slice ka9 (i + 1) kc9) := (HK1.out.below ((Below.refl _ w1).alloc (Nat.le_refl _) (.cells #[.string (kKey j)] 9))).keyed HG2.out (by rw [kKeys_len]; exact HO2.out)
                    have HJ3 := Lib.hid (show J6 (w2.setCell ⟨w0.heap.size, 5, none⟩ (.slice ka9 (i + 1) kc9)) pv (.int .i64 2) (.bool false) (.int .i64 (10 * (j : Int))) (.string ⟨#[]⟩) (.slice la2 0 lc2) (.slice ka2 0 kc2) from (Below.heap_setCell _ _ _ _ (fun e => HNP.out e.symm)).trans HJ2.out); generalize w2.setCell ⟨w0.heap.size, 5, none⟩ (.slice ka9 (i + 1) kc9) = w3 at *
                    have HK2 := Lib.hid hk2
                    obtain ⟨la, lc, hlv⟩ := own_slice hk2.ownL
                    rw [kVals_len] at hlv
                    subst hlv
                    have e4 := hk2.j6.c4
                    have hsz2 := hk2.j6.lt
                    clear hk2 b5 b5a f5 d5
                    have ho3 := HK2.out.ownL
                    rw [kVals_len] at ho3
                    go_wp2_with (at_builtin; refine wpList_app_json _ rfl _ _ rfl (w0.heap.size + 1) (by simp at hsz2 ⊢; omega) (.slice la i lc) i cs.flatten [.int .i64 0, .bool false, .int .i64 0, .string ⟨#[]⟩, .slice none 0 0, .slice none 0 0] ⟨w3.heap.size, 0, none⟩ 1 rfl rfl (ho3.alloc _) (by have := (HK2.out.js w0).flat; rw [kVals_len] at this; exact this) (by omega) rfl (JIn.plain (F := fun _ => False) (w := w0) 0 false 0 ⟨#[]⟩).one (six_news w3 _ _ _ _ _ _) ?_; intro lv' w4 hown hgrow hnew; obtain ⟨la9, lc9, rfl⟩ := own_slice hown; have HG4 := Lib.hid hgrow; have HO4 := Lib.hid hown; have j4 : J6 w4 w0.heap.size (.int .i64 5) (.bool false) (.int .i64 0) (.string ⟨#[]⟩) (.slice la i lc) (.slice ka9 (i + 1) kc9) := (hgrow.block _ (by simp; omega) (fun e => by have := (own_type HK2.out.ownL e.symm).1; omega)).trans (j6_alloc HK2.out.j6 _); have f4 := j4.fz 4; have d4 := j4.c4; have HJ4 := Lib.hid (show J6 w4 pv (.int .i64 2) (.bool false) (.int .i64 (10 * (j : Int))) (.string ⟨#[]⟩) (.slice la2 0 lc2) (.slice ka2 0 kc2) from (hgrow.block pv (by have := J6.lt HJ3.out; simp; omega) (fun e => HNL.out _ e.symm rfl)).trans (j6_alloc HJ3.out _)); clear hown hgrow hnew j4)
                    have hk4 : KAt w0.heap.size w0 (w4.setCell ⟨w0.heap.size, 4, none⟩ (.slice la9 (i + 1) lc9)) (kKeys i ++ [kKey j]) (kVals i ++ [.mk 0 false 0 ⟨#[]⟩ [] []]) (cs ++ [[.int .i64 0, .bool false, .int .i64 0, .string ⟨#[]⟩, .slice none 0 0, .slice none 0 0]]) (.slice la9 (i + 1) lc9) (.slice ka9 (i + 1) kc9) := (HK2.out.below ((Below.refl _ w3).alloc (Nat.le_refl _) _)).valued HG4.out (by rw [kVals_len]; exact HO4.out) (fun w => JIn.plain 0 false 0 ⟨#[]⟩)
                    go_wp2_with (fail)
                    go_meet
                    case rel => exact ⟨_, _, _, _, _, by first | rfl | trivial, Or.inr ⟨by first | rfl | trivial, _, rfl, rfl, jsm_scal 0 false 0 ByteArray.empty ⟨by decide, by decide⟩ (by decide)⟩, hk4, (Below.heap_setCell _ _ _ _ (fun e => HNP.out e.symm)).trans HJ4.out⟩
            · go_simp
              refine (HD.out (j : Int) (by omega) (by omega) w10.drew).mono ?_
              rintro e w1 ⟨rfl, hb1⟩
              have HB1 := Lib.hid hb1
              have hk1 := (HKX.out.drew).below hb1
              have HK1 := Lib.hid hk1; have HJ1 := Lib.hid (show J6 w1 pv (.int .i64 2) (.bool false) (.int .i64 (10 * (j : Int))) (.string ⟨#[]⟩) (.slice la2 0 lc2) (.slice ka2 0 kc2) from (hb1.block pv HJX.out.lt).trans HJX.out)
              have b5 := hk1.j6.c5
              have b5a := (j6_alloc hk1.j6 (.cells #[.string (kKey j)] 9)).c5
              have hsz1 := hk1.j6.lt
              clear hb1 hk1
              dsimp only
              refine hK _ _ ?_
              clear hK K
              try simp only [Go.Act.put, List.setIfInBounds_toArray, List.set_cons_zero, List.set_cons_succ]
              refine wpAny_take (i := 4) (v := .string (kKey j)) rfl (by kernel_rfl) (by kernel_rfl) (by kernel_rfl) (fun _ _ _ h => h) (Or.inl ⟨by rfl, fun w => ?_⟩) ?_
              · go_simp
                first | rfl | (rw [if_neg (by omega)]; rfl)
              try simp only [Go.Act.put, List.setIfInBounds_toArray, List.set_cons_zero, List.set_cons_succ]
              refine wpAny_ready (rs := [1, 5]) (by kernel_rfl) (by simp) (AllReady.cons rfl (fun K hK => ?_) (AllReady.cons rfl (fun K hK => ?_) (AllReady.nil)))
              · go_simp
                refine hK _ _ ?_
                clear hK K
                try simp only [Go.Act.put, List.setIfInBounds_toArray, List.set_cons_zero, List.set_cons_succ]
                refine wpAny_ready (rs := [5]) (by kernel_rfl) (by simp) (AllReady.cons rfl (fun K hK => ?_) (AllReady.nil))
                · go_simp
                  refine hK _ _ ?_
                  clear hK K
                  try simp only [Go.Act.put, List.setIfInBounds_toArray, List.set_cons_zero, List.set_cons_succ]
                  refine wpAny_ready (rs := [6]) (by kernel_rfl) (by simp) (AllReady.cons rfl (fun K hK => ?_) (AllReady.nil))
                  · have ho1 := HK1.out.ownK
                    rw [kKeys_len] at ho1
                    refine step_append_str rfl _ _ rfl (w0.heap.size + 1) (by simp at hsz1 ⊢; omega) (.slice ka i kc) i ((kKeys i).map Value.string) [.string (kKey j)] ⟨w1.heap.size, 0, none⟩ 1 (by rfl) (by rfl) (ho1.alloc _) (by simp [kKeys_len]) (by omega) rfl one_one (one_news w1 _) ?_
                    intro kv' w2 hown hgrow hnew
                    obtain ⟨ka9, kc9, rfl⟩ := own_slice hown
                    have HG2 := Lib.hid hgrow
                    have HO2 := Lib.hid hown
                    have j2 : J6 w2 w0.heap.size (.int .i64 5) (.bool false) (.int .i64 0) (.string ⟨#[]⟩) lv (.slice ka i kc) := (hgrow.block _ (by simp; omega) (fun e => by have := (own_type HK1.out.ownK e.symm).1; omega)).trans (j6_alloc HK1.out.j6 _)
                    have f5 := j2.fz 5
                    have d5 := j2.c5
                    have HJ2 := Lib.hid (show J6 w2 pv (.int .i64 2) (.bool false) (.int .i64 (10 * (j : Int))) (.string ⟨#[]⟩) (.slice la2 0 lc2) (.slice ka2 0 kc2) from (hgrow.block pv (by have := J6.lt HJ1.out; simp; omega) (fun e => HNK.out _ e.symm rfl)).trans (j6_alloc HJ1.out _)); clear hown hgrow hnew j2 ho1
                    refine hK _ _ ?_
                    clear hK K
                    try simp only [Go.Act.put, List.setIfInBounds_toArray, List.set_cons_zero, List.set_cons_succ]
                    refine wpAny_take (i := 7) (v := ?_) rfl (by kernel_rfl) (by kernel_rfl) (by kernel_rfl) (fun _ _ _ h => h) (Or.inl ⟨by rfl, fun w => ?_⟩) ?_
                    rotate_left
                    · go_simp
                      try with_reducible rfl
                    try simp only [Go.Act.put, List.setIfInBounds_toArray, List.set_cons_zero, List.set_cons_succ]
                    refine wpAny_ready (rs := [8]) (by kernel_rfl) (by simp) (AllReady.cons rfl (fun K hK => ?_) (AllReady.nil))
                    go_simp
                    refine hK _ _ ?_
                    clear hK K
                    try simp only [Go.Act.put, List.setIfInBounds_toArray, List.set_cons_zero, List.set_cons_succ]
                    refine wpAny_done (by kernel_rfl) ?_ _
                    have hk2 : KAt w0.heap.size w0 (w2.setCell ⟨w0.heap.size, 5, none⟩ (.slice ka9 (i + 1) kc9)) (kKeys i ++ [kKey j]) (kVals i) cs lv (.slice ka9 (i + 1) kc9) := (HK1.out.below ((Below.refl _ w1).alloc (Nat.le_refl _) (.cells #[.string (kKey j)] 9))).keyed HG2.out (by rw [kKeys_len]; exact HO2.out)
                    have HJ3 := Lib.hid (show J6 (w2.setCell ⟨w0.heap.size, 5, none⟩ (.slice ka9 (i + 1) kc9)) pv (.int .i64 2) (.bool false) (.int .i64 (10 * (j : Int))) (.string ⟨#[]⟩) (.slice la2 0 lc2) (.slice ka2 0 kc2) from (Below.heap_setCell _ _ _ _ (fun e => HNP.out e.symm)).trans HJ2.out); generalize w2.setCell ⟨w0.heap.size, 5, none⟩ (.slice ka9 (i + 1) kc9) = w3 at *
                    have HK2 := Lib.hid hk2
                    obtain ⟨la, lc, hlv⟩ := own_slice hk2.ownL
                    rw [kVals_len] at hlv
                    subst hlv
                    have e4 := hk2.j6.c4
                    have hsz2 := hk2.j6.lt
                    clear hk2 b5 b5a f5 d5
                    have ho3 := HK2.out.ownL
                    rw [kVals_len] at ho3
                    go_wp2_with (at_builtin; refine wpList_app_json _ rfl _ _ rfl (w0.heap.size + 1) (by simp at hsz2 ⊢; omega) (.slice la i lc) i cs.flatten [.int .i64 0, .bool false, .int .i64 0, .string ⟨#[]⟩, .slice none 0 0, .slice none 0 0] ⟨w3.heap.size, 0, none⟩ 1 rfl rfl (ho3.alloc _) (by have := (HK2.out.js w0).flat; rw [kVals_len] at this; exact this) (by omega) rfl (JIn.plain (F := fun _ => False) (w := w0) 0 false 0 ⟨#[]⟩).one (six_news w3 _ _ _ _ _ _) ?_; intro lv' w4 hown hgrow hnew; obtain ⟨la9, lc9, rfl⟩ := own_slice hown; have HG4 := Lib.hid hgrow; have HO4 := Lib.hid hown; have j4 : J6 w4 w0.heap.size (.int .i64 5) (.bool false) (.int .i64 0) (.string ⟨#[]⟩) (.slice la i lc) (.slice ka9 (i + 1) kc9) := (hgrow.block _ (by simp; omega) (fun e => by have := (own_type HK2.out.ownL e.symm).1; omega)).trans (j6_alloc HK2.out.j6 _); have f4 := j4.fz 4; have d4 := j4.c4; have HJ4 := Lib.hid (show J6 w4 pv (.int .i64 2) (.bool false) (.int .i64 (10 * (j : Int))) (.string ⟨#[]⟩) (.slice la2 0 lc2) (.slice ka2 0 kc2) from (hgrow.block pv (by have := J6.lt HJ3.out; simp; omega) (fun e => HNL.out _ e.symm rfl)).trans (j6_alloc HJ3.out _)); clear hown hgrow hnew j4)
                    have hk4 : KAt w0.heap.size w0 (w4.setCell ⟨w0.heap.size, 4, none⟩ (.slice la9 (i + 1) lc9)) (kKeys i ++ [kKey j]) (kVals i ++ [.mk 0 false 0 ⟨#[]⟩ [] []]) (cs ++ [[.int .i64 0, .bool false, .int .i64 0, .string ⟨#[]⟩, .slice none 0 0, .slice none 0 0]]) (.slice la9 (i + 1) lc9) (.slice ka9 (i + 1) kc9) := (HK2.out.below ((Below.refl _ w3).alloc (Nat.le_refl _) _)).valued HG4.out (by rw [kVals_len]; exact HO4.out) (fun w => JIn.plain 0 false 0 ⟨#[]⟩)
                    go_wp2_with (fail)
                    go_meet
                    case rel => exact ⟨_, _, _, _, _, by first | rfl | trivial, Or.inr ⟨by first | rfl | trivial, _, rfl, rfl, jsm_scal 0 false 0 ByteArray.empty ⟨by decide, by decide⟩ (by decide)⟩, hk4, (Below.heap_setCell _ _ _ _ (fun e => HNP.out e.symm)).trans HJ4.out⟩
              · go_simp
                refine hK _ _ ?_
                clear hK K
                try simp only [Go.Act.put, List.setIfInBounds_toArray, List.set_cons_zero, List.set_cons_succ]
                refine wpAny_ready (rs := [1]) (by kernel_rfl) (by simp) (AllReady.cons rfl (fun K hK => ?_) (AllReady.nil))
                · go_simp
                  refine hK _ _ ?_
                  clear hK K
                  try simp only [Go.Act.put, List.setIfInBounds_toArray, List.set_cons_zero, List.set_cons_succ]
                  refine wpAny_ready (rs := [6]) (by kernel_rfl) (by simp) (AllReady.cons rfl (fun K hK => ?_) (AllReady.nil))
                  · have ho1 := HK1.out.ownK
                    rw [kKeys_len] at ho1
                    refine step_append_str rfl _ _ rfl (w0.heap.size + 1) (by simp at hsz1 ⊢; omega) (.slice ka i kc) i ((kKeys i).map Value.string) [.string (kKey j)] ⟨w1.heap.size, 0, none⟩ 1 (by rfl) (by rfl) (ho1.alloc _) (by simp [kKeys_len]) (by omega) rfl one_one (one_news w1 _) ?_
                    intro kv' w2 hown hgrow hnew
                    obtain ⟨ka9, kc9, rfl⟩ := own_slice hown
                    have HG2 := Lib.hid hgrow
                    have HO2 := Lib.hid hown
                    have j2 : J6 w2 w0.heap.size (.int .i64 5) (.bool false) (.int .i64 0) (.string ⟨#[]⟩) lv (.slice ka i kc) := (hgrow.block _ (by simp; omega) (fun e => by have := (own_type HK1.out.ownK e.symm).1; omega)).trans (j6_alloc HK1.out.j6 _)
                    have f5 := j2.fz 5
                    have d5 := j2.c5
                    have HJ2 := Lib.hid (show J6 w2 pv (.int .i64 2) (.bool false) (.int .i64 (10 * (j : Int))) (.string ⟨#[]⟩) (.slice la2 0 lc2) (.slice ka2 0 kc2) from (hgrow.block pv (by have := J6.lt HJ1.out; simp; omega) (fun e => HNK.out _ e.symm rfl)).trans (j6_alloc HJ1.out _)); clear hown hgrow hnew j2 ho1
                    refine hK _ _ ?_
                    clear hK K
                    try simp only [Go.Act.put, List.setIfInBounds_toArray, List.set_cons_zero, List.set_cons_succ]
                    refine wpAny_take (i := 7) (v := ?_) rfl (by kernel_rfl) (by kernel_rfl) (by kernel_rfl) (fun _ _ _ h => h) (Or.inl ⟨by rfl, fun w => ?_⟩) ?_
                    rotate_left
                    · go_simp
                      try with_reducible rfl
                    try simp only [Go.Act.put, List.setIfInBounds_toArray, List.set_cons_zero, List.set_cons_succ]
                    refine wpAny_ready (rs := [8]) (by kernel_rfl) (by simp) (AllReady.cons rfl (fun K hK => ?_) (AllReady.nil))
                    go_simp
                    refine hK _ _ ?_
                    clear hK K
                    try simp only [Go.Act.put, List.setIfInBounds_toArray, List.set_cons_zero, List.set_cons_succ]
                    refine wpAny_done (by kernel_rfl) ?_ _
                    have hk2 : KAt w0.heap.size w0 (w2.setCell ⟨w0.heap.size, 5, none⟩ (.slice ka9 (i + 1) kc9)) (kKeys i ++ [kKey j]) (kVals i) cs lv (.slice ka9 (i + 1) kc9) := (HK1.out.below ((Below.refl _ w1).alloc (Nat.le_refl _) (.cells #[.string (kKey j)] 9))).keyed HG2.out (by rw [kKeys_len]; exact HO2.out)
                    have HJ3 := Lib.hid (show J6 (w2.setCell ⟨w0.heap.size, 5, none⟩ (.slice ka9 (i + 1) kc9)) pv (.int .i64 2) (.bool false) (.int .i64 (10 * (j : Int))) (.string ⟨#[]⟩) (.slice la2 0 lc2) (.slice ka2 0 kc2) from (Below.heap_setCell _ _ _ _ (fun e => HNP.out e.symm)).trans HJ2.out); generalize w2.setCell ⟨w0.heap.size, 5, none⟩ (.slice ka9 (i + 1) kc9) = w3 at *
                    have HK2 := Lib.hid hk2
                    obtain ⟨la, lc, hlv⟩ := own_slice hk2.ownL
                    rw [kVals_len] at hlv
                    subst hlv
                    have e4 := hk2.j6.c4
                    have hsz2 := hk2.j6.lt
                    clear hk2 b5 b5a f5 d5
                    have ho3 := HK2.out.ownL
                    rw [kVals_len] at ho3
                    go_wp2_with (at_builtin; refine wpList_app_json _ rfl _ _ rfl (w0.heap.size + 1) (by simp at hsz2 ⊢; omega) (.slice la i lc) i cs.flatten [.int .i64 0, .bool false, .int .i64 0, .string ⟨#[]⟩, .slice none 0 0, .slice none 0 0] ⟨w3.heap.size, 0, none⟩ 1 rfl rfl (ho3.alloc _) (by have := (HK2.out.js w0).flat; rw [kVals_len] at this; exact this) (by omega) rfl (JIn.plain (F := fun _ => False) (w := w0) 0 false 0 ⟨#[]⟩).one (six_news w3 _ _ _ _ _ _) ?_; intro lv' w4 hown hgrow hnew; obtain ⟨la9, lc9, rfl⟩ := own_slice hown; have HG4 := Lib.hid hgrow; have HO4 := Lib.hid hown; have j4 : J6 w4 w0.heap.size (.int .i64 5) (.bool false) (.int .i64 0) (.string ⟨#[]⟩) (.slice la i lc) (.slice ka9 (i + 1) kc9) := (hgrow.block _ (by simp; omega) (fun e => by have := (own_type HK2.out.ownL e.symm).1; omega)).trans (j6_alloc HK2.out.j6 _); have f4 := j4.fz 4; have d4 := j4.c4; have HJ4 := Lib.hid (show J6 w4 pv (.int .i64 2) (.bool false) (.int .i64 (10 * (j : Int))) (.string ⟨#[]⟩) (.slice la2 0 lc2) (.slice ka2 0 kc2) from (hgrow.block pv (by have := J6.lt HJ3.out; simp; omega) (fun e => HNL.out _ e.symm rfl)).trans (j6_alloc HJ3.out _)); clear hown hgrow hnew j4)
                    have hk4 : KAt w0.heap.size w0 (w4.setCell ⟨w0.heap.size, 4, none⟩ (.slice la9 (i + 1) lc9)) (kKeys i ++ [kKey j]) (kVals i ++ [.mk 0 false 0 ⟨#[]⟩ [] []]) (cs ++ [[.int .i64 0, .bool false, .int .i64 0, .string ⟨#[]⟩, .slice none 0 0, .slice none 0 0]]) (.slice la9 (i + 1) lc9) (.slice ka9 (i + 1) kc9) := (HK2.out.below ((Below.refl _ w3).alloc (Nat.le_refl _) _)).valued HG4.out (by rw [kVals_len]; exact HO4.out) (fun w => JIn.plain 0 false 0 ⟨#[]⟩)
                    go_wp2_with (fail)
                    go_meet
                    case rel => exact ⟨_, _, _, _, _, by first | rfl | trivial, Or.inr ⟨by first | rfl | trivial, _, rfl, rfl, jsm_scal 0 false 0 ByteArray.empty ⟨by decide, by decide⟩ (by decide)⟩, hk4, (Below.heap_setCell _ _ _ _ (fun e => HNP.out e.symm)).trans HJ4.out⟩
        case rest =>
          obtain ⟨ks, vs, cs2, lv2, kv2, rfl, hks, hkx, hjx⟩ := hcut
          have hbx : Below w.heap.size w wc := HB0.out.trans (hkx.bel.mono HB0.out.size)
          have HTX : Hid (TabLow B wc) := HT.out.keep fun g hg => hbx.block g (by omega)
          have hBx : Hid (B ≤ wc.heap.size) := by have := hbx.size; show B ≤ wc.heap.size; omega
          have HPr := Lib.hid (kPr B i j hk1 hk8 hj twice ks vs hks _ wc hkx.jin HTX.out hBx.out)
          have HJX := Lib.hid hjx
          have HBX := Lib.hid hbx
          have r0 := hkx.j6.c0; have r1 := hkx.j6.c1; have r2 := hkx.j6.c2; have r3 := hkx.j6.c3; have r4 := hkx.j6.c4; have r5 := hkx.j6.c5
          clear hkx hjx hbx hks HTX hBx
          go_upto_region 18 with (first | (go_at_call 15; refine HPr.out.mono ?_; rintro e w11 ⟨⟨ps, rfl⟩, hb11⟩; have HW11 := Lib.hid hb11; clear hb11) | fail)
          have HJY := Lib.hid ((HW11.out.block pv HJX.out.lt).trans HJX.out)
          have HBY := Lib.hid (HBX.out.trans (HW11.out.mono HBX.out.size))
          clear HW11 HPr HJX HBX r0 r1 r2 r3 r4 r5
          go_upto_region 19 with (first | (go_at_call 10; refine (jdup w11).mono ?_; rintro e w12 ⟨he, hb12⟩; unfold zJ at he; subst he; have HW12 := Lib.hid hb12; clear hb12) | fail)
          have hb13 : Below w11.heap.size w11 (w12.alloc (.cells #[.int .i64 0, .bool false, .int .i64 0, .string ⟨#[]⟩, .slice none 0 0, .slice none 0 0] 25)) := HW12.out.alloc HW12.out.size _
          generalize (w12.alloc (.cells #[.int .i64 0, .bool false, .int .i64 0, .string ⟨#[]⟩, .slice none 0 0, .slice none 0 0] 25)) = w13 at hb13 ⊢
          generalize w12.heap.size = xv at *
          have hj13 : J6 w13 pv (.int .i64 2) (.bool false) (.int .i64 (10 * (j : Int))) (.string ⟨#[]⟩) (.slice la2 0 lc2) (.slice ka2 0 kc2) := (hb13.block pv (J6.lt HJY.out)).trans HJY.out
          have n2 := hj13.c2
          have HBZ := Lib.hid (HBY.out.trans (hb13.mono HBY.out.size))
          clear HW12 HJY HBY hj13 hb13 HA HT HD HB0
          cases twice
          · go_wp2
            go_ret
            exact ⟨rfl, HBZ.out⟩
          · go_wp2
            go_ret
            exact ⟨rfl, HBZ.out⟩
    have hik2 : i < k := by omega
    have g0 : decide ((i : Int) < (k : Int)) = true := by simp; omega
    clear hik
    go_wp2
    refine wp_region_any (by kernel_rfl) ?_
    change wpAny _ _ _ _ _ _ _ (World.drew _)
    refine wpAny_take (i := 0) (v := ?_) rfl (by kernel_rfl) (by kernel_rfl) (by kernel_rfl) (fun _ _ _ h => h) (Or.inl ⟨by rfl, fun w => ?_⟩) ?_
    rotate_left
    · go_simp
      try with_reducible rfl
    try simp only [Go.Act.put, List.setIfInBounds_toArray, List.set_cons_zero, List.set_cons_succ]
    refine wpAny_take (i := 2) (v := ?_) rfl (by kernel_rfl) (by kernel_rfl) (by kernel_rfl) (fun _ _ _ h => h) (Or.inl ⟨by rfl, fun w => ?_⟩) ?_
    rotate_left
    · go_simp
      try with_reducible rfl
    try simp only [Go.Act.put, List.setIfInBounds_toArray, List.set_cons_zero, List.set_cons_succ]
    refine wpAny_ready (rs := [1, 3]) (by kernel_rfl) (by simp) (AllReady.cons rfl (fun K hK => ?_) (AllReady.cons rfl (fun K hK => ?_) (AllReady.nil)))
    · go_simp
      refine hK _ _ ?_
      clear hK K
      try simp only [Go.Act.put, List.setIfInBounds_toArray, List.set_cons_zero, List.set_cons_succ]
      refine wpAny_ready (rs := [3]) (by kernel_rfl) (by simp) (AllReady.cons rfl (fun K hK => ?_) (AllReady.nil))
      · go_simp
        refine (HD.out (i : Int) (by omega) (by omega) wr.drew).mono ?_
        rintro e w1 ⟨rfl, hb1⟩
        have HB1 := Lib.hid hb1
        have hk1 := (HK.out.drew).below hb1
        have HK1 := Lib.hid hk1
        have b5 := hk1.j6.c5
        have b5a := (j6_alloc hk1.j6 (.cells #[.string (kKey i)] 9)).c5
        have hsz1 := hk1.j6.lt
        clear hb1 hk1
        dsimp only
        refine hK _ _ ?_
        clear hK K
        try simp only [Go.Act.put, List.setIfInBounds_toArray, List.set_cons_zero, List.set_cons_succ]
        refine wpAny_take (i := 4) (v := .string (kKey i)) rfl (by kernel_rfl) (by kernel_rfl) (by kernel_rfl) (fun _ _ _ h => h) (Or.inl ⟨by rfl, fun w => ?_⟩) ?_
        · go_simp
          first | rfl | (rw [if_neg (by omega)]; rfl)
        try simp only [Go.Act.put, List.setIfInBounds_toArray, List.set_cons_zero, List.set_cons_succ]
        refine wpAny_ready (rs := [5]) (by kernel_rfl) (by simp) (AllReady.cons rfl (fun K hK => ?_) (AllReady.nil))
        · go_simp
          refine hK _ _ ?_
          clear hK K
          try simp only [Go.Act.put, List.setIfInBounds_toArray, List.set_cons_zero, List.set_cons_succ]
          refine wpAny_ready (rs := [6]) (by kernel_rfl) (by simp) (AllReady.cons rfl (fun K hK => ?_) (AllReady.nil))
          · have ho1 := HK1.out.ownK
            rw [kKeys_len] at ho1
            refine step_append_str rfl _ _ rfl (w0.heap.size + 1) (by simp at hsz1 ⊢; omega) (.slice ka i kc) i ((kKeys i).map Value.string) [.string (kKey i)] ⟨w1.heap.size, 0, none⟩ 1 (by rfl) (by rfl) (ho1.alloc _) (by simp [kKeys_len]) (by omega) rfl one_one (one_news w1 _) ?_
            intro kv' w2 hown hgrow hnew
            obtain ⟨ka2, kc2, rfl⟩ := own_slice hown
            have HG2 := Lib.hid hgrow
            have HO2 := Lib.hid hown
            have j2 : J6 w2 w0.heap.size (.int .i64 5) (.bool false) (.int .i64 0) (.string ⟨#[]⟩) lv (.slice ka i kc) := (hgrow.block _ (by simp; omega) (fun e => by have := (own_type HK1.out.ownK e.symm).1; omega)).trans (j6_alloc HK1.out.j6 _)
            have f5 := j2.fz 5
            have d5 := j2.c5
            clear hown hgrow hnew j2 ho1
            refine hK _ _ ?_
            clear hK K
            try simp only [Go.Act.put, List.setIfInBounds_toArray, List.set_cons_zero, List.set_cons_succ]
            refine wpAny_take (i := 7) (v := ?_) rfl (by kernel_rfl) (by kernel_rfl) (by kernel_rfl) (fun _ _ _ h => h) (Or.inl ⟨by rfl, fun w => ?_⟩) ?_
            rotate_left
            · go_simp
              try with_reducible rfl
            try simp only [Go.Act.put, List.setIfInBounds_toArray, List.set_cons_zero, List.set_cons_succ]
            refine wpAny_ready (rs := [8]) (by kernel_rfl) (by simp) (AllReady.cons rfl (fun K hK => ?_) (AllReady.nil))
            go_simp
            refine hK _ _ ?_
            clear hK K
            try simp only [Go.Act.put, List.setIfInBounds_toArray, List.set_cons_zero, List.set_cons_succ]
            refine wpAny_done (by kernel_rfl) ?_ _
            have hk2 : KAt w0.heap.size w0 (w2.setCell ⟨w0.heap.size, 5, none⟩ (.slice ka2 (i + 1) kc2)) (kKeys i ++ [kKey i]) (kVals i) cs lv (.slice ka2 (i + 1) kc2) := (HK1.out.below ((Below.refl _ w1).alloc (Nat.le_refl _) (.cells #[.string (kKey i)] 9))).keyed HG2.out (by rw [kKeys_len]; exact HO2.out)
            rw [← kKeys_snoc] at hk2
            generalize w2.setCell ⟨w0.heap.size, 5, none⟩ (.slice ka2 (i + 1) kc2) = w3 at *
            have HK2 := Lib.hid hk2
            obtain ⟨la, lc, hlv⟩ := own_slice hk2.ownL
            rw [kVals_len] at hlv
            subst hlv
            have e4 := hk2.j6.c4
            have hsz2 := hk2.j6.lt
            have g10 : (10 : Int) * (i : Int) = 10 * (i : Int) := rfl
            clear hk2 b5 b5a f5 d5
            have ho3 := HK2.out.ownL
            rw [kVals_len] at ho3
            go_wp2_with (at_builtin; refine wpList_app_json _ rfl _ _ rfl (w0.heap.size + 1) (by simp at hsz2 ⊢; omega) (.slice la i lc) i cs.flatten [.int .i64 2, .bool false, .int .i64 (10 * (i : Int)), .string ⟨#[]⟩, .slice none 0 0, .slice none 0 0] ⟨w3.heap.size, 0, none⟩ 1 rfl rfl (ho3.alloc _) (by have := (HK2.out.js w0).flat; rw [kVals_len] at this; exact this) (by omega) rfl (JIn.plain (F := fun _ => False) (w := w0) 2 false (10 * (i : Int)) ⟨#[]⟩).one (six_news w3 _ _ _ _ _ _) ?_; intro lv' w4 hown hgrow hnew; obtain ⟨la2, lc2, rfl⟩ := own_slice hown; have HG4 := Lib.hid hgrow; have HO4 := Lib.hid hown; have j4 : J6 w4 w0.heap.size (.int .i64 5) (.bool false) (.int .i64 0) (.string ⟨#[]⟩) (.slice la i lc) (.slice ka2 (i + 1) kc2) := (hgrow.block _ (by simp; omega) (fun e => by have := (own_type HK2.out.ownL e.symm).1; omega)).trans (j6_alloc HK2.out.j6 _); have f4 := j4.fz 4; have d4 := j4.c4; clear hown hgrow hnew j4)
            have hk4 : KAt w0.heap.size w0 (w4.setCell ⟨w0.heap.size, 4, none⟩ (.slice la2 (i + 1) lc2)) (kKeys (i + 1)) (kVals i ++ [kVal i]) (cs ++ [[.int .i64 2, .bool false, .int .i64 (10 * (i : Int)), .string ⟨#[]⟩, .slice none 0 0, .slice none 0 0]]) (.slice la2 (i + 1) lc2) (.slice ka2 (i + 1) kc2) := (HK2.out.below ((Below.refl _ w3).alloc (Nat.le_refl _) _)).valued HG4.out (by rw [kVals_len]; exact HO4.out) (fun w => JIn.plain 2 false (10 * (i : Int)) ⟨#[]⟩)
            rw [← kVals_snoc] at hk4
            go_roundg g
            case rel => exact ⟨i + 1, _, _, _, by first | rfl | (congr 1), by omega, by omega, hk4⟩
            case measure => omega
    · go_simp
      refine (HD.out (i : Int) (by omega) (by omega) wr.drew).mono ?_
      rintro e w1 ⟨rfl, hb1⟩
      have HB1 := Lib.hid hb1
      have hk1 := (HK.out.drew).below hb1
      have HK1 := Lib.hid hk1
      have b5 := hk1.j6.c5
      have b5a := (j6_alloc hk1.j6 (.cells #[.string (kKey i)] 9)).c5
      have hsz1 := hk1.j6.lt
      clear hb1 hk1
      dsimp only
      refine hK _ _ ?_
      clear hK K
      try simp only [Go.Act.put, List.setIfInBounds_toArray, List.set_cons_zero, List.set_cons_succ]
      refine wpAny_take (i := 4) (v := .string (kKey i)) rfl (by kernel_rfl) (by kernel_rfl) (by kernel_rfl) (fun _ _ _ h => h) (Or.inl ⟨by rfl, fun w => ?_⟩) ?_
      · go_simp
        first | rfl | (rw [if_neg (by omega)]; rfl)
      try simp only [Go.Act.put, List.setIfInBounds_toArray, List.set_cons_zero, List.set_cons_succ]
      refine wpAny_ready (rs := [1, 5]) (by kernel_rfl) (by simp) (AllReady.cons rfl (fun K hK => ?_) (AllReady.cons rfl (fun K hK => ?_) (AllReady.nil)))
      · go_simp
        refine hK _ _ ?_
        clear hK K
        try simp only [Go.Act.put, List.setIfInBounds_toArray, List.set_cons_zero, List.set_cons_succ]
        refine wpAny_ready (rs := [5]) (by kernel_rfl) (by simp) (AllReady.cons rfl (fun K hK => ?_) (AllReady.nil))
        · go_simp
          refine hK _ _ ?_
          clear hK K
          try simp only [Go.Act.put, List.setIfInBounds_toArray, List.set_cons_zero, List.set_cons_succ]
          refine wpAny_ready (rs := [6]) (by kernel_rfl) (by simp) (AllReady.cons rfl (fun K hK => ?_) (AllReady.nil))
          · have ho1 := HK1.out.ownK
            rw [kKeys_len] at ho1
            refine step_append_str rfl _ _ rfl (w0.heap.size + 1) (by simp at hsz1 ⊢; omega) (.slice ka i kc) i ((kKeys i).map Value.string) [.string (kKey i)] ⟨w1.heap.size, 0, none⟩ 1 (by rfl) (by rfl) (ho1.alloc _) (by simp [kKeys_len]) (by omega) rfl one_one (one_news w1 _) ?_
            intro kv' w2 hown hgrow hnew
            obtain ⟨ka2, kc2, rfl⟩ := own_slice hown
            have HG2 := Lib.hid hgrow
            have HO2 := Lib.hid hown
            have j2 : J6 w2 w0.heap.size (.int .i64 5) (.bool false) (.int .i64 0) (.string ⟨#[]⟩) lv (.slice ka i kc) := (hgrow.block _ (by simp; omega) (fun e => by have := (own_type HK1.out.ownK e.symm).1; omega)).trans (j6_alloc HK1.out.j6 _)
            have f5 := j2.fz 5
            have d5 := j2.c5
            clear hown hgrow hnew j2 ho1
            refine hK _ _ ?_
            clear hK K
            try simp only [Go.Act.put, List.setIfInBounds_toArray, List.set_cons_zero, List.set_cons_succ]
            refine wpAny_take (i := 7) (v := ?_) rfl (by kernel_rfl) (by kernel_rfl) (by kernel_rfl) (fun _ _ _ h => h) (Or.inl ⟨by rfl, fun w => ?_⟩) ?_
            rotate_left
            · go_simp
              try with_reducible rfl
            try simp only [Go.Act.put, List.setIfInBounds_toArray, List.set_cons_zero, List.set_cons_succ]
            refine wpAny_ready (rs := [8]) (by kernel_rfl) (by simp) (AllReady.cons rfl (fun K hK => ?_) (AllReady.nil))
            go_simp
            refine hK _ _ ?_
            clear hK K
            try simp only [Go.Act.put, List.setIfInBounds_toArray, List.set_cons_zero, List.set_cons_succ]
            refine wpAny_done (by kernel_rfl) ?_ _
            have hk2 : KAt w0.heap.size w0 (w2.setCell ⟨w0.heap.size, 5, none⟩ (.slice ka2 (i + 1) kc2)) (kKeys i ++ [kKey i]) (kVals i) cs lv (.slice ka2 (i + 1) kc2) := (HK1.out.below ((Below.refl _ w1).alloc (Nat.le_refl _) (.cells #[.string (kKey i)] 9))).keyed HG2.out (by rw [kKeys_len]; exact HO2.out)
            rw [← kKeys_snoc] at hk2
            generalize w2.setCell ⟨w0.heap.size, 5, none⟩ (.slice ka2 (i + 1) kc2) = w3 at *
            have HK2 := Lib.hid hk2
            obtain ⟨la, lc, hlv⟩ := own_slice hk2.ownL
            rw [kVals_len] at hlv
            subst hlv
            have e4 := hk2.j6.c4
            have hsz2 := hk2.j6.lt
            have g10 : (10 : Int) * (i : Int) = 10 * (i : Int) := rfl
            clear hk2 b5 b5a f5 d5
            have ho3 := HK2.out.ownL
            rw [kVals_len] at ho3
            go_wp2_with (at_builtin; refine wpList_app_json _ rfl _ _ rfl (w0.heap.size + 1) (by simp at hsz2 ⊢; omega) (.slice la i lc) i cs.flatten [.int .i64 2, .bool false, .int .i64 (10 * (i : Int)), .string ⟨#[]⟩, .slice none 0 0, .slice none 0 0] ⟨w3.heap.size, 0, none⟩ 1 rfl rfl (ho3.alloc _) (by have := (HK2.out.js w0).flat; rw [kVals_len] at this; exact this) (by omega) rfl (JIn.plain (F := fun _ => False) (w := w0) 2 false (10 * (i : Int)) ⟨#[]⟩).one (six_news w3 _ _ _ _ _ _) ?_; intro lv' w4 hown hgrow hnew; obtain ⟨la2, lc2, rfl⟩ := own_slice hown; have HG4 := Lib.hid hgrow; have HO4 := Lib.hid hown; have j4 : J6 w4 w0.heap.size (.int .i64 5) (.bool false) (.int .i64 0) (.string ⟨#[]⟩) (.slice la i lc) (.slice ka2 (i + 1) kc2) := (hgrow.block _ (by simp; omega) (fun e => by have := (own_type HK2.out.ownL e.symm).1; omega)).trans (j6_alloc HK2.out.j6 _); have f4 := j4.fz 4; have d4 := j4.c4; clear hown hgrow hnew j4)
            have hk4 : KAt w0.heap.size w0 (w4.setCell ⟨w0.heap.size, 4, none⟩ (.slice la2 (i + 1) lc2)) (kKeys (i + 1)) (kVals i ++ [kVal i]) (cs ++ [[.int .i64 2, .bool false, .int .i64 (10 * (i : Int)), .string ⟨#[]⟩, .slice none 0 0, .slice none 0 0]]) (.slice la2 (i + 1) lc2) (.slice ka2 (i + 1) kc2) := (HK2.out.below ((Below.refl _ w3).alloc (Nat.le_refl _) _)).valued HG4.out (by rw [kVals_len]; exact HO4.out) (fun w => JIn.plain 2 false (10 * (i : Int)) ⟨#[]⟩)
            rw [← kVals_snoc] at hk4
            go_roundg g
            case rel => exact ⟨i + 1, _, _, _, by first | rfl | (congr 1), by omega, by omega, hk4⟩
            case measure => omega
      · go_simp
        refine hK _ _ ?_
        clear hK K
        try simp only [Go.Act.put, List.setIfInBounds_toArray, List.set_cons_zero, List.set_cons_succ]
        refine wpAny_ready (rs := [1]) (by kernel_rfl) (by simp) (AllReady.cons rfl (fun K hK => ?_) (AllReady.nil))
        · go_simp
          refine hK _ _ ?_
          clear hK K
          try simp only [Go.Act.put, List.setIfInBounds_toArray, List.set_cons_zero, List.set_cons_succ]
          refine wpAny_ready (rs := [6]) (by kernel_rfl) (by simp) (AllReady.cons rfl (fun K hK => ?_) (AllReady.nil))
          · have ho1 := HK1.out.ownK
            rw [kKeys_len] at ho1
            refine step_append_str rfl _ _ rfl (w0.heap.size + 1) (by simp at hsz1 ⊢; omega) (.slice ka i kc) i ((kKeys i).map Value.string) [.string (kKey i)] ⟨w1.heap.size, 0, none⟩ 1 (by rfl) (by rfl) (ho1.alloc _) (by simp [kKeys_len]) (by omega) rfl one_one (one_news w1 _) ?_
            intro kv' w2 hown hgrow hnew
            obtain ⟨ka2, kc2, rfl⟩ := own_slice hown
            have HG2 := Lib.hid hgrow
            have HO2 := Lib.hid hown
            have j2 : J6 w2 w0.heap.size (.int .i64 5) (.bool false) (.int .i64 0) (.string ⟨#[]⟩) lv (.slice ka i kc) := (hgrow.block _ (by simp; omega) (fun e => by have := (own_type HK1.out.ownK e.symm).1; omega)).trans (j6_alloc HK1.out.j6 _)
            have f5 := j2.fz 5
            have d5 := j2.c5
            clear hown hgrow hnew j2 ho1
            refine hK _ _ ?_
            clear hK K
            try simp only [Go.Act.put, List.setIfInBounds_toArray, List.set_cons_zero, List.set_cons_succ]
            refine wpAny_take (i := 7) (v := ?_) rfl (by kernel_rfl) (by kernel_rfl) (by kernel_rfl) (fun _ _ _ h => h) (Or.inl ⟨by rfl, fun w => ?_⟩) ?_
            rotate_left
            · go_simp
              try with_reducible rfl
            try simp only [Go.Act.put, List.setIfInBounds_toArray, List.set_cons_zero, List.set_cons_succ]
            refine wpAny_ready (rs := [8]) (by kernel_rfl) (by simp) (AllReady.cons rfl (fun K hK => ?_) (AllReady.nil))
            go_simp
            refine hK _ _ ?_
            clear hK K
            try simp only [Go.Act.put, List.setIfInBounds_toArray, List.set_cons_zero, List.set_cons_succ]
            refine wpAny_done (by kernel_rfl) ?_ _
            have hk2 : KAt w0.heap.size w0 (w2.setCell ⟨w0.heap.size, 5, none⟩ (.slice ka2 (i + 1) kc2)) (kKeys i ++ [kKey i]) (kVals i) cs lv (.slice ka2 (i + 1) kc2) := (HK1.out.below ((Below.refl _ w1).alloc (Nat.le_refl _) (.cells #[.string (kKey i)] 9))).keyed HG2.out (by rw [kKeys_len]; exact HO2.out)
            rw [← kKeys_snoc] at hk2
            generalize w2.setCell ⟨w0.heap.size, 5, none⟩ (.slice ka2 (i + 1) kc2) = w3 at *
            have HK2 := Lib.hid hk2
            obtain ⟨la, lc, hlv⟩ := own_slice hk2.ownL
            rw [kVals_len] at hlv
            subst hlv
            have e4 := hk2.j6.c4
            have hsz2 := hk2.j6.lt
            have g10 : (10 : Int) * (i : Int) = 10 * (i : Int) := rfl
            clear hk2 b5 b5a f5 d5
            have ho3 := HK2.out.ownL
            rw [kVals_len] at ho3
            go_wp2_with (at_builtin; refine wpList_app_json _ rfl _ _ rfl (w0.heap.size + 1) (by simp at hsz2 ⊢; omega) (.slice la i lc) i cs.flatten [.int .i64 2, .bool false, .int .i64 (10 * (i : Int)), .string ⟨#[]⟩, .slice none 0 0, .slice none 0 0] ⟨w3.heap.size, 0, none⟩ 1 rfl rfl (ho3.alloc _) (by have := (HK2.out.js w0).flat; rw [kVals_len] at this; exact this) (by omega) rfl (JIn.plain (F := fun _ => False) (w := w0) 2 false (10 * (i : Int)) ⟨#[]⟩).one (six_news w3 _ _ _ _ _ _) ?_; intro lv' w4 hown hgrow hnew; obtain ⟨la2, lc2, rfl⟩ := own_slice hown; have HG4 := Lib.hid hgrow; have HO4 := Lib.hid hown; have j4 : J6 w4 w0.heap.size (.int .i64 5) (.bool false) (.int .i64 0) (.string ⟨#[]⟩) (.slice la i lc) (.slice ka2 (i + 1) kc2) := (hgrow.block _ (by simp; omega) (fun e => by have := (own_type HK2.out.ownL e.symm).1; omega)).trans (j6_alloc HK2.out.j6 _); have f4 := j4.fz 4; have d4 := j4.c4; clear hown hgrow hnew j4)
            have hk4 : KAt w0.heap.size w0 (w4.setCell ⟨w0.heap.size, 4, none⟩ (.slice la2 (i + 1) lc2)) (kKeys (i + 1)) (kVals i ++ [kVal i]) (cs ++ [[.int .i64 2, .bool false, .int .i64 (10 * (i : Int)), .string ⟨#[]⟩, .slice none 0 0, .slice none 0 0]]) (.slice la2 (i + 1) lc2) (.slice ka2 (i + 1) kc2) := (HK2.out.below ((Below.refl _ w3).alloc (Nat.le_refl _) _)).valued HG4.out (by rw [kVals_len]; exact HO4.out) (fun w => JIn.plain 2 false (10 * (i : Int)) ⟨#[]⟩)
            rw [← kVals_snoc] at hk4
            go_roundg g
            case rel => exact ⟨i + 1, _, _, _, by first | rfl | (congr 1), by omega, by omega, hk4⟩
            case measure => omega
end Go.Proofs.YtekbhnljdpjojaaDoor
