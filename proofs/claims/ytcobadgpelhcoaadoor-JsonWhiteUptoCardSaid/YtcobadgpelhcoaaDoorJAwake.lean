/- What every program answers: the concrete values. What every program answers that is one. -/
import Derived.Test.YtcobadgpelhcoaaDoorGGet
namespace Go.Proofs.YtcobadgpelhcoaaDoor
open Go.Conc Go.RowKit
set_option linter.unusedVariables false

def awS : List UInt8 := [32, 123, 34, 97, 34, 58, 91, 49, 44, 45, 50, 44, 110, 117, 108, 108, 44, 34, 120, 92, 110, 34, 93, 125, 32]
def awP : List UInt8 := [123, 34, 97, 34, 58, 91, 49, 44, 45, 50, 44, 110, 117, 108, 108, 44, 34, 120, 92, 110, 34, 93, 125]
def awL : List J := [jInt 1, jInt (-2), jNull, jText ⟨#[120, 10]⟩]
def awJ : J := jObj [⟨#[97]⟩] [jList awL]
set_option maxRecDepth 100000 in
theorem aw_parse : parseN numD awS = .ok awJ := by kernel_rfl
theorem aw_bad : parseN numD [91, 49, 46, 48, 93] = .error 300 := by kernel_rfl
theorem aw_i1 : Lib.itoa 1 = [49] := by kernel_rfl
theorem aw_i2 : Lib.itoa (-2) = [45, 50] := by kernel_rfl
set_option maxRecDepth 100000 in
theorem aw_print : printN awJ = .ok awP := by kernel_rfl
end Go.Proofs.YtcobadgpelhcoaaDoor

namespace Go.Proofs.YtcobadgpelhcoaaDoor
open Go.Conc Go.RowKit Go.Maps Go.WideMaps
set_option linter.unusedVariables false
set_option linter.unusedSimpArgs false

theorem fits_scal (k : Int) (b : Bool) (n : Int) (s : ByteArray) : FitsOk (.mk k b n s [] []) 88 1 := fits_step k b n s [] 0 (by decide) (fun y hy => by simp at hy)
theorem copy_scal (k : Int) (b : Bool) (n : Int) (s : ByteArray) : CopyOk (.mk k b n s [] []) := copy_step k b n s [] [] (by decide) (by decide) (fun y hy => by simp at hy)
theorem jsm_scal (k : Int) (b : Bool) (n : Int) (s : ByteArray) (hn : -9223372036854775808 ≤ n ∧ n ≤ 9223372036854775807) (hs : s.size ≤ 4000000) : JSm (.mk k b n s [] []) := .mk k b n s [] [] hn hs (by decide) (by decide) (fun k hk => by simp at hk) (fun y hy => by simp at hy)
theorem aw_fits : FitsOk (jList awL) 440 2 := fits_step 4 false 0 ByteArray.empty awL 1 (by decide) (fun y hy => by
  simp only [awL, List.mem_cons, List.not_mem_nil, or_false] at hy
  rcases hy with rfl | rfl | rfl | rfl <;> exact fits_scal _ _ _ _)
theorem aw_copy : CopyOk (jList awL) := copy_step 4 false 0 ByteArray.empty awL [] (by decide) (by decide) (fun y hy => by
  simp only [awL, List.mem_cons, List.not_mem_nil, or_false] at hy
  rcases hy with rfl | rfl | rfl | rfl <;> exact copy_scal _ _ _ _)
theorem aw_sm : JSm awJ := .mk 5 false 0 ByteArray.empty [jList awL] [⟨#[97]⟩] (by decide) (by decide) (by decide) (by decide) (fun k hk => by simp only [List.mem_singleton] at hk; subst hk; decide) (fun y hy => by
  simp only [List.mem_singleton] at hy
  subst hy
  exact .mk 4 false 0 ByteArray.empty awL [] (by decide) (by decide) (by decide) (by decide) (fun k hk => by simp at hk) (fun y hy => by
    simp only [awL, List.mem_cons, List.not_mem_nil, or_false] at hy
    rcases hy with rfl | rfl | rfl | rfl
    · exact jsm_scal _ _ _ _ (by decide) (by decide)
    · exact jsm_scal _ _ _ _ (by decide) (by decide)
    · exact jsm_scal _ _ _ _ (by decide) (by decide)
    · exact jsm_scal _ _ _ _ (by decide) (by decide)))
theorem aw_p1 (u : World) : Calls Tryd.prog 10 #[.string ⟨#[32, 123, 34, 97, 34, 58, 91, 49, 44, 45, 50, 44, 110, 117, 108, 108, 44, 34, 120, 92, 110, 34, 93, 125, 32]⟩] u (JPd (.ok awJ) u) := by
  have := jparse_any ⟨#[32, 123, 34, 97, 34, 58, 91, 49, 44, 45, 50, 44, 110, 117, 108, 108, 44, 34, 120, 92, 110, 34, 93, 125, 32]⟩ u (by decide)
  rw [show parseN numD (ByteArray.mk #[32, 123, 34, 97, 34, 58, 91, 49, 44, 45, 50, 44, 110, 117, 108, 108, 44, 34, 120, 92, 110, 34, 93, 125, 32]).data.toList = .ok awJ from aw_parse] at this
  exact this
theorem aw_p2 (u : World) : Calls Tryd.prog 10 #[.string ⟨#[91, 49, 46, 48, 93]⟩] u (JPd (.error 300) u) := by
  have := jparse_any ⟨#[91, 49, 46, 48, 93]⟩ u (by decide)
  rw [show parseN numD (ByteArray.mk #[91, 49, 46, 48, 93]).data.toList = .error 300 from aw_bad] at this
  exact this

theorem aw_g1 (F : Nat → Prop) (c : List Value) (u : World) (hj : JIn F u awJ c) : Calls Tryd.prog 17 #[.agg c.toArray, .string ⟨#[97]⟩] u fun e w' => (∃ la lc ka kc, e = .returned (.tuple #[.agg #[.int .i64 4, .bool false, .int .i64 0, .string ⟨#[]⟩, .slice la 4 lc, .slice ka 0 kc], .bool true])) ∧ Below u.heap.size u w' :=
  jget_found false 0 ByteArray.empty [jList awL] [⟨#[97]⟩] ⟨#[97]⟩ 0 440 2 rfl (by decide) (by decide) (by decide) rfl (fun j hj h0 => by omega) aw_fits aw_copy (by decide) (by decide) F c u hj
theorem aw_g2 (F : Nat → Prop) (c : List Value) (u : World) (hj : JIn F u awJ c) : Calls Tryd.prog 17 #[.agg c.toArray, .string ⟨#[98]⟩] u fun e w' => e = .returned (.tuple #[zJ, .bool false]) ∧ Below u.heap.size u w' :=
  jget_none false 0 ByteArray.empty [jList awL] [⟨#[97]⟩] ⟨#[98]⟩ rfl (by decide) (fun j hj h0 => by
    have : j = 0 := by simp at hj; omega
    subst this
    have := congrArg (fun x : ByteArray => x.data.toList) h0
    simp at this) F c u hj

set_option maxHeartbeats 8000000 in
set_option maxRecDepth 100000 in
theorem jawake_any (B : Nat) (w : World) (ht : TabLow B w) (hB : B ≤ w.heap.size) : Calls Tryd.prog 14 #[] w fun e w' => e = .returned (.bool true) ∧ Below w.heap.size w w' := by
  have hseq : ((ByteArray.mk awP.toArray).toList == [123, 34, 97, 34, 58, 91, 49, 44, 45, 50, 44, 110, 117, 108, 108, 44, 34, 120, 92, 110, 34, 93, 125]) = true := by kernel_rfl
  have HSQ := Lib.hid hseq
  have HT := Lib.hid ht
  clear ht hseq
  go_enter Tryd.func14, Tryd.ntmps14
  go_wp2_with (first
    | (go_at_call 10; first
       | ((with_reducible refine (aw_p1 _).mono ?_); rintro e w1 ⟨cs, rfl, hb1, hj⟩; obtain ⟨xk, xb, xn, xs, xla, xll, xlc, xka, xkl, xkc, rfl⟩ := hj.form
          have hA1 := hb1.alloc hb1.size (.cells #[.int .i64 xk, .bool xb, .int .i64 xn, .string xs, .slice xla xll xlc, .slice xka xkl xkc] 25)
          have HA1 := Lib.hid hA1
          have O1 := j6_new w1 (.int .i64 xk) (.bool xb) (.int .i64 xn) (.string xs) (.slice xla xll xlc) (.slice xka xkl xkc)
          have HO1 := Lib.hid O1
          have HJ1 := Lib.hid ((hj.same (fun g _ hl => Below.heap_alloc w1 (.cells #[.int .i64 xk, .bool xb, .int .i64 xn, .string xs, .slice xla xll xlc, .slice xka xkl xkc] 25) g hl) (by simp)).mono (F' := fun g => g < (w1.alloc (.cells #[.int .i64 xk, .bool xb, .int .i64 xn, .string xs, .slice xla xll xlc, .slice xka xkl xkc] 25)).heap.size) fun g hl _ => hl)
          have hTT := HT.out.keep fun g hg => hA1.block g (by omega)
          have HT1 := Lib.hid hTT
          clear hb1 hj hA1 O1 hTT)
       | ((with_reducible refine (aw_p2 _).mono ?_); rintro e w3 ⟨rfl, hb3⟩; unfold zJ; have hz3 := hb3.size; have HB3 := Lib.hid (hb3.alloc hb3.size (.cells #[.int .i64 0, .bool false, .int .i64 0, .string ⟨#[]⟩, .slice none 0 0, .slice none 0 0] 25)); have O3 := HO2.out.frm (Frm.of_new HB3.out (fun _ => False)) id; have HO3 := Lib.hid O3; have HJ3 := Lib.hid (((HJ1.out.same (fun g _ hl => HB2.out.block g hl) HB2.out.size).mono (F' := fun g => g < w2.heap.size) fun g hl _ => hl).same (fun g _ hl => HB3.out.block g hl) HB3.out.size); have d0 := O3.c0; have d1 := O3.c1; have d2 := O3.c2; have d3 := O3.c3; have d4 := O3.c4; have d5 := O3.c5; clear hb3 O3))
    | (go_at_call 15; refine (jprint_any B awJ [.int .i64 xk, .bool xb, .int .i64 xn, .string xs, .slice xla xll xlc, .slice xka xkl xkc] _ HJ1.out aw_sm HT1.out (by have := HA1.out.size; omega)).mono ?_; rw [aw_print]; rintro e w2 ⟨rfl, hb2⟩; have HB2 := Lib.hid hb2; have O2 := HO1.out.frm (Frm.of_new hb2 (fun _ => False)) id; have HO2 := Lib.hid O2; clear hb2 O2)
    | (go_at_call 17; first
       | ((with_reducible refine (aw_g1 (fun g => g < w2.heap.size) [.int .i64 xk, .bool xb, .int .i64 xn, .string xs, .slice xla xll xlc, .slice xka xkl xkc] _ HJ3.out).mono ?_); rintro e w4 ⟨⟨la4, lc4, ka4, kc4, rfl⟩, hb4⟩; have HB4 := Lib.hid (hb4.alloc hb4.size (.cells #[.int .i64 4, .bool false, .int .i64 0, .string ⟨#[]⟩, .slice la4 4 lc4, .slice ka4 0 kc4] 25)); have O4 := HO3.out.frm (Frm.of_new HB4.out (fun _ => False)) id; have HO4 := Lib.hid O4; have e0 := O4.c0; have e1 := O4.c1; have e2 := O4.c2; have e3 := O4.c3; have e4 := O4.c4; have e5 := O4.c5; have HJ4 := Lib.hid (HJ3.out.same (fun g _ hl => HB4.out.block g hl) HB4.out.size); have V4 := j6_new w4 (.int .i64 4) (.bool false) (.int .i64 0) (.string ⟨#[]⟩) (.slice la4 4 lc4) (.slice ka4 0 kc4); have HV4 := Lib.hid V4; clear hb4 O4 V4)
       | ((with_reducible refine (aw_g2 (fun g => g < w2.heap.size) [.int .i64 xk, .bool xb, .int .i64 xn, .string xs, .slice xla xll xlc, .slice xka xkl xkc] _ HJ4.out).mono ?_); rintro e w5 ⟨rfl, hb5⟩; unfold zJ; have HB5 := Lib.hid (hb5.alloc hb5.size (.cells #[.int .i64 0, .bool false, .int .i64 0, .string ⟨#[]⟩, .slice none 0 0, .slice none 0 0] 25)); have V5 := HV4.out.frm (Frm.of_new HB5.out (fun _ => False)) id; have v4 := V5.c4; have hsq := HSQ.out; clear hb5 V5))
    | (go_at_call 13; refine (num_any _ _).mono ?_; rintro e w' ⟨rfl, rfl⟩))
  go_ret
  exact ⟨rfl, (((((Frm.of_below HA1.out).trans (Frm.of_new HB2.out _)).trans (Frm.of_new HB3.out _)).trans (Frm.of_new HB4.out _)).trans (Frm.of_new HB5.out _)).below (Nat.le_refl _)⟩
end Go.Proofs.YtcobadgpelhcoaaDoor
