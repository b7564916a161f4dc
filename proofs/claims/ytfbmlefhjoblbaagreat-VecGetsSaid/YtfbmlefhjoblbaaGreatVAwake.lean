/- What every program answers that is one. -/
import Derived.Test.YtfbmlefhjoblbaaGreatRefC
import Derived.Test.YtfbmlefhjoblbaaGreatReadV
import Derived.Test.YtfbmlefhjoblbaaGreatLess
import Derived.Test.YtfbmlefhjoblbaaGreatValC
import Derived.Test.YtfbmlefhjoblbaaGreatValL
import Derived.Test.YtfbmlefhjoblbaaGreatVOrd
namespace Go.Proofs.YtfbmlefhjoblbaaGreat
open Go.Conc Go.RowKit
set_option linter.unusedVariables false
set_option linter.unusedSimpArgs false

theorem put_size {k : Int} {vs : List V} (hf : Fine vs) : (colPut k vs).1.size ≤ 500004 := by
  have h := congrArg Prod.fst (colPut_W k vs)
  simp only at h
  rw [h]
  have h2 := colW_size (k := k) hf
  split
  · simp only [sealB_size]; omega
  · simp
def vaA : V := ⟨1, 5, false, ⟨#[]⟩⟩
def vaL : List V := [vaA, zeroV, vaA]
theorem va_mem {P : V → Prop} (h1 : P vaA) (h2 : P zeroV) : ∀ v ∈ vaL, P v := by
  intro v hv
  simp only [vaL, List.mem_cons, List.not_mem_nil, or_false] at hv
  rcases hv with rfl | rfl | rfl <;> assumption
theorem va_fine : Fine vaL := va_mem ⟨⟨by decide, by decide⟩, by decide⟩ ⟨⟨by decide, by decide⟩, by decide⟩
theorem va_ok : (colPut 1 vaL).2.2 = 0 := by
  rw [putA_yes (by omega) (by decide) (va_mem (by kernel_rfl) (by kernel_rfl))]
theorem va_form : colPut 3 vaL = (ByteArray.empty, 0, 901) := putA_form (by omega) (.inr ⟨vaA, by simp [vaL], by kernel_rfl⟩)
theorem va_sum : colGet 1 ⟨#[97, 98, 99, 100, 101]⟩ = ([], 902) := get_sum (by omega) (by kernel_rfl)
theorem va_get : colGet 1 (colPut 1 vaL).1 = (vaL, 0) := by
  rw [get_put (reads_parse (by omega)) va_ok (va_mem (P := fun v => -9223372036854775808 ≤ v.i ∧ v.i ≤ 9223372036854775807) ⟨by decide, by decide⟩ ⟨by decide, by decide⟩)]
  rfl
theorem va_first {u : World} {g : Nat} (h : IsV u (some ⟨g, 0, none⟩) vaL) : u.cell? ⟨g, 0, none⟩ = some (.int .i64 1) ∧ u.cell? ⟨g, 1, none⟩ = some (.int .i64 5) ∧ u.cell? ⟨g, 2, none⟩ = some (.bool false) ∧ u.cell? ⟨g, 3, none⟩ = some (.string ⟨#[]⟩) := by
  rcases h with h | ⟨bb, off, e, hc⟩
  · simp [vaL] at h
  · injection e with e
    injection e with e1 e2
    subst e1 e2
    obtain ⟨c0, c1, c2, c3⟩ := hc 0 (by decide)
    exact ⟨c0, c1, c2, c3⟩
theorem va_less : decide (ordV zeroV vaA < 0) = true := by kernel_rfl

set_option maxRecDepth 100000 in
set_option maxHeartbeats 4000000 in
theorem vecawake_any (w : World) : Calls Tryz.prog 21 #[] w fun e w' => e = .returned (.bool true) ∧ Below w.heap.size w w' := by
  have T1 : Hid (∀ (u : World) (a : Option Addr) (h : IsV u a vaL), Calls Tryz.prog 14 #[.int .i64 1, .slice a 3 3] u fun e w' => e = .returned (.tuple #[.string (colPut 1 vaL).1, .int .i64 0]) ∧ Below u.heap.size u w') := fun u a h => by
    have h := vecput_any u 1 a 3 vaL h (by decide) va_fine
    rw [va_ok] at h
    exact h
  have T2 : Hid (∀ (u : World), Calls Tryz.prog 23 #[.int .i64 1, .string (colPut 1 vaL).1] u fun e w' => ∃ a cap, e = .returned (.tuple #[.slice a 3 cap, .int .i64 0]) ∧ IsV w' a vaL ∧ Below u.heap.size u w') := fun u => by
    have h := vecget_any u 1 (colPut 1 vaL).1 (by have := put_size (k := 1) va_fine; omega)
    rw [va_get] at h
    exact h.mono fun e w' ⟨a, c, h1, h2, h3⟩ => ⟨a, c, h1, h2.isV, h3⟩
  have T3 : Hid (∀ (u : World) (a : Option Addr) (h : IsV u a vaL), Calls Tryz.prog 14 #[.int .i64 3, .slice a 3 3] u fun e w' => e = .returned (.tuple #[.string ByteArray.empty, .int .i64 901]) ∧ Below u.heap.size u w') := fun u a h => by
    have h := vecput_any u 3 a 3 vaL h (by decide) va_fine
    rw [va_form] at h
    exact h
  have T4 : Hid (∀ (u : World), Calls Tryz.prog 23 #[.int .i64 1, .string ⟨#[97, 98, 99, 100, 101]⟩] u fun e w' => ∃ a cap, e = .returned (.tuple #[.slice a 0 cap, .int .i64 902]) ∧ Below u.heap.size u w') := fun u => by
    have h := vecget_any u 1 ⟨#[97, 98, 99, 100, 101]⟩ (by decide)
    rw [va_sum] at h
    exact h.mono fun e w' ⟨a, c, h1, h2, h3⟩ => ⟨a, c, h1, h3⟩
  have T5 : Hid (∀ (u : World) (a : Option Addr) (h : IsV u a vaL), Calls Tryz.prog 16 #[.int .i64 1, .slice a 3 3] u fun e w' => e = .returned (.tuple #[.int .i64 (colPut 1 vaL).2.1, .int .i64 0]) ∧ Below u.heap.size u w') := fun u a h => by
    have h := vecenc_any u 1 a 3 vaL h (by decide) va_fine
    rw [va_ok] at h
    exact h
  have T6 : Hid (∀ (u : World) (a : Option Addr) (h : IsV u a vaL), Calls Tryz.prog 15 #[.int .i64 1, .slice a 3 3] u fun e w' => e = .returned (.tuple #[.string (colPut 1 vaL).1, .int .i64 (colPut 1 vaL).2.1, .int .i64 0]) ∧ Below u.heap.size u w') := fun u a h => by
    have h := refvec_any u 1 a 3 vaL h (by decide) va_fine
    rw [va_ok] at h
    exact h
  have T7 : Hid (∀ (u : World) (a b : Option Addr) (c : Nat) (h : IsV u a vaL) (h2 : IsV u b vaL), Calls Tryz.prog 25 #[.slice a 3 c, .slice b 3 3] u fun e w' => e = .returned (.bool true) ∧ Below u.heap.size u w') := fun u a b c h h2 => by
    have h := samevals_any u a b c 3 vaL vaL h h2 (by decide)
    rw [decide_eq_true rfl] at h
    exact h
  have T8 : Hid (∀ (u : World), Calls Tryz.prog 19 #[.agg #[.int .i64 0, .int .i64 0, .bool false, .string ⟨#[]⟩], .agg #[.int .i64 1, .int .i64 5, .bool false, .string ⟨#[]⟩]] u fun e w' => e = .returned (.bool true) ∧ Below u.heap.size u w') := fun u => by
    have h := vecless_any zeroV vaA u
    rw [va_less] at h
    exact h
  have hb1 : Below w.heap.size w (w.alloc (.cells #[.int .i64 1, .int .i64 5, .bool false, .string ⟨#[]⟩, .int .i64 0, .int .i64 0, .bool false, .string ⟨#[]⟩, .int .i64 1, .int .i64 5, .bool false, .string ⟨#[]⟩] 24)) := (Below.refl _ w).alloc (Nat.le_refl _) _
  have ha1 : IsV (w.alloc (.cells #[.int .i64 1, .int .i64 5, .bool false, .string ⟨#[]⟩, .int .i64 0, .int .i64 0, .bool false, .string ⟨#[]⟩, .int .i64 1, .int .i64 5, .bool false, .string ⟨#[]⟩] 24)) (some ⟨w.heap.size, 0, none⟩) vaL := isv_new w vaL _ rfl
  have HB := Lib.hid hb1
  have HA := Lib.hid ha1
  clear hb1 ha1
  generalize (colPut 1 vaL).1 = S at *
  generalize (colPut 1 vaL).2.1 = E at *
  go_enter Tryz.func21, Tryz.ntmps21
  go_upto_region 2 with fail
  obtain ⟨g, hg⟩ : ∃ g, g = w.heap.size := ⟨_, rfl⟩
  rw [← hg] at HA ⊢
  clear hg
  generalize w.alloc (.cells #[.int .i64 1, .int .i64 5, .bool false, .string ⟨#[]⟩, .int .i64 0, .int .i64 0, .bool false, .string ⟨#[]⟩, .int .i64 1, .int .i64 5, .bool false, .string ⟨#[]⟩] 24) = w1 at *
  go_upto_region 3 with (go_at_call 14; refine (T1.out _ _ HA.out).mono ?_; rintro e w2 ⟨rfl, hb⟩; replace HB := Lib.hid (HB.out.trans (hb.mono HB.out.size)); replace HA := Lib.hid (HA.out.below hb); clear hb)
  go_upto_region 4 with (go_at_call 23; refine (T2.out _).mono ?_; rintro e w3 ⟨ax, cx, rfl, hx, hb⟩; replace HB := Lib.hid (HB.out.trans (hb.mono HB.out.size)); replace HA := Lib.hid (HA.out.below hb); have HX := Lib.hid hx; clear hb hx)
  go_upto_region 5 with (go_at_call 14; refine (T3.out _ _ HA.out).mono ?_; rintro e w4 ⟨rfl, hb⟩; replace HB := Lib.hid (HB.out.trans (hb.mono HB.out.size)); replace HA := Lib.hid (HA.out.below hb); replace HX := Lib.hid (HX.out.below hb); clear hb)
  go_upto_region 6 with (go_at_call 23; refine (T4.out _).mono ?_; rintro e w5 ⟨ay, cy, rfl, hb⟩; replace HB := Lib.hid (HB.out.trans (hb.mono HB.out.size)); replace HA := Lib.hid (HA.out.below hb); replace HX := Lib.hid (HX.out.below hb); clear hb)
  go_upto_region 7 with (go_at_call 16; refine (T5.out _ _ HA.out).mono ?_; rintro e w6 ⟨rfl, hb⟩; replace HB := Lib.hid (HB.out.trans (hb.mono HB.out.size)); replace HA := Lib.hid (HA.out.below hb); replace HX := Lib.hid (HX.out.below hb); clear hb)
  go_upto_region 8 with (go_at_call 15; refine (T6.out _ _ HA.out).mono ?_; rintro e w7 ⟨rfl, hb⟩; replace HB := Lib.hid (HB.out.trans (hb.mono HB.out.size)); replace HA := Lib.hid (HA.out.below hb); replace HX := Lib.hid (HX.out.below hb); clear hb)
  clear T1 T2 T3 T4 T5 T6
  go_wp2_with (first
    | (go_at_call 17; refine (num_any _ _).mono ?_; rintro e w' ⟨rfl, rfl⟩)
    | (go_at_call 25; refine (T7.out _ _ _ _ HX.out HA.out).mono ?_; rintro e w8 ⟨rfl, hb⟩; replace HB := Lib.hid (HB.out.trans (hb.mono HB.out.size)); replace HA := Lib.hid (HA.out.below hb); clear hb; obtain ⟨c0, c1, c2, c3⟩ := va_first HA.out)
    | (go_at_call 19; refine (T8.out _).mono ?_; rintro e w9 ⟨rfl, hb⟩; replace HB := Lib.hid (HB.out.trans (hb.mono HB.out.size)); clear hb))
  go_ret
  exact ⟨rfl, HB.out⟩
end Go.Proofs.YtfbmlefhjoblbaaGreat
