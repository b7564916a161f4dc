/- SameJson: values that are the same are told so. What every program answers: the concrete values. What every program answers that is one. -/
import Derived.Test.YtcobadgpelhcoaaDoorEPrint
import Derived.Deep.QuietTactic
import Derived.BigQuiet
import Derived.StillTailTactics
import Derived.Test.YtcobadgpelhcoaaDoorGGet
namespace Go.Proofs.YtcobadgpelhcoaaDoor
open Go.Conc Go.RowKit
set_option linter.unusedVariables false
set_option linter.unusedSimpArgs false

/-- Two that are the same are told so. -/
def SameOk (x : J) : Prop :=
  ∀ (F F2 : Nat → Prop) (c c2 : List Value) (w : World), JIn F w x c → JIn F2 w x c2 →
    Calls Tryd.prog 12 #[.agg c.toArray, .agg c2.toArray] w fun e w' => e = .returned (.bool true) ∧ Below w.heap.size w w'

theorem jin_below {F : Nat → Prop} {w w' : World} {j : J} {c : List Value} (h : JIn F w j c) (hb : Below w.heap.size w w') : JIn F w' j c := h.same (fun g _ hl => hb.block g hl) hb.size
theorem j6_below {w w' : World} {b : Nat} {a0 a1 a2 a3 a4 a5 : Value} (h : J6 w b a0 a1 a2 a3 a4 a5) (hb : Below w.heap.size w w') : J6 w' b a0 a1 a2 a3 a4 a5 := (hb.block b (Array.getElem?_eq_some_iff.1 h).1).trans h
theorem below_drewN {B : Nat} {a w : World} (h : Below B a w) (n : Nat) : Below B a (w.drewN n) := ⟨h.os, h.tape, h.output, h.size, h.block⟩
theorem key_cell {F : Nat → Prop} {w w' : World} {ks : List ByteArray} {a : Option Addr} {cap : Nat} (h : RowIn F w 1 ks.length (.slice a ks.length cap) (ks.map Value.string)) {k : Nat} (hk : k < ks.length) (hb : Below w.heap.size w w') :
    ∃ b o, a = some ⟨b, o, none⟩ ∧ w'.cell? ⟨b, o + k, none⟩ = some (.string ks[k]) := by
  obtain ⟨b, o, c, hv, hF, hbl, hc⟩ := h.key rfl hk
  simp only [Value.slice.injEq] at hv
  refine ⟨b, o, hv.1, ?_⟩
  rw [← hc k hk]
  exact World.cell?_of_block (hb.block b hbl)

set_option maxHeartbeats 8000000 in
set_option maxRecDepth 100000 in
theorem same_step (k : Int) (b : Bool) (n : Int) (s : ByteArray) (l : List J) (ks : List ByteArray) (hl : l.length ≤ 9000000000000) (hkl : ks.length ≤ 9000000000000) (hsub : ∀ y ∈ l, SameOk y) : SameOk (.mk k b n s l ks) := by
  intro F F2 c c2 w hj hj2
  obtain ⟨_, _, _, _, _, _, lv, kv, cs, hrow, hkrow, hcs, hjs⟩ := hj
  obtain ⟨_, _, _, _, _, _, lv2, kv2, cs2, hrow2, hkrow2, hcs2, hjs2⟩ := hj2
  obtain ⟨_, la, lc, rfl, _⟩ := id hrow
  obtain ⟨_, ka, kc, rfl, _⟩ := id hkrow
  obtain ⟨_, la2, lc2, rfl, _⟩ := id hrow2
  obtain ⟨_, ka2, kc2, rfl, _⟩ := id hkrow2
  have HRow := Lib.hid hrow
  have HKRow := Lib.hid hkrow
  have HRow2 := Lib.hid hrow2
  have HKRow2 := Lib.hid hkrow2
  have HJs : Hid (JsIn F w l cs) := ⟨hcs, hjs⟩
  have HJs2 : Hid (JsIn F2 w l cs2) := ⟨hcs2, hjs2⟩
  have HSub := Lib.hid hsub
  obtain ⟨m, hm⟩ : ∃ m, m = l.length := ⟨_, rfl⟩
  obtain ⟨mk, hmk⟩ : ∃ mk, mk = ks.length := ⟨_, rfl⟩
  rw [← hm, ← hmk]
  have oa := j6_alloc (j6_new w (.int .i64 k) (.bool b) (.int .i64 n) (.string s) (.slice la m lc) (.slice ka mk kc)) (.cells #[.int .i64 k, .bool b, .int .i64 n, .string s, .slice la2 m lc2, .slice ka2 mk kc2] 25)
  have ob := j6_new (w.alloc (.cells #[.int .i64 k, .bool b, .int .i64 n, .string s, .slice la m lc, .slice ka mk kc] 25)) (.int .i64 k) (.bool b) (.int .i64 n) (.string s) (.slice la2 m lc2) (.slice ka2 mk kc2)
  have hsz : (w.alloc (.cells #[.int .i64 k, .bool b, .int .i64 n, .string s, .slice la m lc, .slice ka mk kc] 25)).heap.size = w.heap.size + 1 := by simp
  rw [hsz] at ob
  have hbe := ((Below.refl _ w).alloc (Nat.le_refl _) (.cells #[.int .i64 k, .bool b, .int .i64 n, .string s, .slice la m lc, .slice ka mk kc] 25)).alloc (by simp) (.cells #[.int .i64 k, .bool b, .int .i64 n, .string s, .slice la2 m lc2, .slice ka2 mk kc2] 25)
  have HA := Lib.hid oa
  have HB := Lib.hid ob
  have HBe := Lib.hid hbe
  have a0 := oa.c0; have a1 := oa.c1; have a2 := oa.c2; have a3 := oa.c3; have a4 := oa.c4; have a5 := oa.c5
  have b0 := ob.c0; have b1 := ob.c1; have b2 := ob.c2; have b3 := ob.c3; have b4 := ob.c4; have b5 := ob.c5
  clear hrow hkrow hrow2 hkrow2 hcs hjs hcs2 hjs2 hsub oa ob hsz hbe
  have HM := Lib.hid hm
  have HMK := Lib.hid hmk
  have hm2 : m ≤ 9000000000000 := by omega
  have hmk2 : mk ≤ 9000000000000 := by omega
  clear hm hmk hl hkl
  have hkk : (k != k) = false := by simp
  have hbb : (b != b) = false := by simp
  have hnn : (n != n) = false := by simp
  have hss : (s.toList == s.toList) = true := by simp
  go_enter Tryd.func12, Tryd.ntmps12
  go_wp2
  have hW : Hid (∀ u, Below ((w.alloc (.cells #[.int .i64 k, .bool b, .int .i64 n, .string s, .slice la m lc, .slice ka mk kc] 25)).alloc (.cells #[.int .i64 k, .bool b, .int .i64 n, .string s, .slice la2 m lc2, .slice ka2 mk kc2] 25)).heap.size ((w.alloc (.cells #[.int .i64 k, .bool b, .int .i64 n, .string s, .slice la m lc, .slice ka mk kc] 25)).alloc (.cells #[.int .i64 k, .bool b, .int .i64 n, .string s, .slice la2 m lc2, .slice ka2 mk kc2] 25)) u → Below w.heap.size w u) :=
    fun u hu => HBe.out.trans (hu.mono HBe.out.size)
  generalize (w.alloc (.cells #[.int .i64 k, .bool b, .int .i64 n, .string s, .slice la m lc, .slice ka mk kc] 25)).alloc (.cells #[.int .i64 k, .bool b, .int .i64 n, .string s, .slice la2 m lc2, .slice ka2 mk kc2] 25) = wa at *
  clear a0 a1 a2 a3 a4 a5 b0 b1 b2 b3 b4 b5 HBe hkk hbb hnn hss
  go_loopw [5] (fun iv wr => ∃ i : Nat, iv = .int .i64 i ∧ i ≤ mk ∧ J6 wr w.heap.size (.int .i64 k) (.bool b) (.int .i64 n) (.string s) (.slice la m lc) (.slice ka mk kc) ∧ J6 wr (w.heap.size + 1) (.int .i64 k) (.bool b) (.int .i64 n) (.string s) (.slice la2 m lc2) (.slice ka2 mk kc2) ∧ Below wa.heap.size wa wr) (fun iv _ => mk - (intOf iv).toNat)
  case atStart => exact ⟨0, rfl, by omega, HA.out, HB.out, Below.refl _ _⟩
  case round =>
    obtain ⟨i, rfl, hi, ha, hb, hbe⟩ := hrel
    have a5 := ha.c5
    have b5 := hb.c5
    have HA1 := Lib.hid ha
    have HB1 := Lib.hid hb
    have HE := Lib.hid hbe
    clear ha hb hbe
    by_cases him : i = mk
    · have g0 : decide ((i : Int) < (mk : Int)) = false := by simp; omega
      clear a5 b5 HA HB
      subst him
      have a5 := HA1.out.c5
      go_wp2
      go_loopw [6] (fun iv wr => ∃ j : Nat, iv = .int .i64 j ∧ j ≤ m ∧ J6 wr w.heap.size (.int .i64 k) (.bool b) (.int .i64 n) (.string s) (.slice la m lc) (.slice ka i kc) ∧ J6 wr (w.heap.size + 1) (.int .i64 k) (.bool b) (.int .i64 n) (.string s) (.slice la2 m lc2) (.slice ka2 i kc2) ∧ Below wa.heap.size wa wr) (fun iv _ => m - (intOf iv).toNat)
      case atStart => exact ⟨0, rfl, by omega, HA1.out, HB1.out, HE.out⟩
      case round =>
        clear HA1 HB1 HE a5 g0
        obtain ⟨j, rfl, hj, ha, hb, hbe⟩ := hrel
        have a4 := ha.c4
        have b4 := hb.c4
        have HA1 := Lib.hid ha
        have HB1 := Lib.hid hb
        have HE := Lib.hid hbe
        clear ha hb hbe
        by_cases hjm : j = m
        · have g0 : decide ((j : Int) < (m : Int)) = false := by simp; omega
          go_wp2
          go_ret
          exact ⟨rfl, hW.out _ HE.out⟩
        · have hjl : j < l.length := by have := HM.out; omega
          have hjn : (j : Int) < (m : Int) := by omega
          have hj0 : (0 : Int) ≤ (j : Int) := by omega
          have g0 : decide ((j : Int) < (m : Int)) = true := by simp; omega
          have hEW := Lib.hid (hW.out _ HE.out)
          obtain ⟨q, o, c, xk, xb, xn, xs, xla, xll, xlc, xka, xkl, xkc, hv, hFq, hql, hx, q0, q1, q2, q3, q4, q5⟩ := HRow.out.elem HJs.out hjl
          obtain ⟨p, r, d, yk, yb, yn, ys, yla, yll, ylc, yka, ykl, ykc, hv2, hFp, hpl, hy, p0, p1, p2, p3, p4, p5⟩ := HRow2.out.elem HJs2.out hjl
          simp only [Value.slice.injEq] at hv hv2
          obtain ⟨rfl, _, rfl⟩ := hv
          obtain ⟨rfl, _, rfl⟩ := hv2
          have hag := hEW.out.block q hql
          have hag2 := hEW.out.block p hpl
          rw [← World.cell?_of_block hag] at q0 q1 q2 q3 q4 q5
          rw [← World.cell?_of_block hag2] at p0 p1 p2 p3 p4 p5
          have HC := Lib.hid (fun u (hu : Below wr.heap.size wr u) => HSub.out l[j] (List.getElem_mem hjl) F F2 _ _ u (jin_below (jin_below hx hEW.out) hu) (jin_below (jin_below hy hEW.out) hu))
          clear hag hag2 hx hy
          go_wp2
          go_still_tail 10, (by kernel_rfl)
          go_wp2_with (go_at_call 12; refine (HC.out _ (below_drewN (Below.refl _ _) 1)).mono ?_; rintro e w1 ⟨rfl, hb1⟩; have HB2 := Lib.hid hb1; clear hb1)
          go_roundw
          case rel =>
            have hb3 : Below wr.heap.size wr w1 := (below_drewN (Below.refl _ _) 1).trans HB2.out
            exact ⟨j + 1, by go_num, by omega, j6_below HA1.out hb3, j6_below HB1.out hb3, HE.out.trans (hb3.mono HE.out.size)⟩
          case measure => simp [intOf]; omega
    · have hkl : i < ks.length := by have := HMK.out; omega
      have hin : (i : Int) < (mk : Int) := by omega
      have hi0 : (0 : Int) ≤ (i : Int) := by omega
      have g0 : decide ((i : Int) < (mk : Int)) = true := by simp; omega
      obtain ⟨q1, o1, rfl, k1⟩ := key_cell HKRow.out hkl (hW.out _ HE.out)
      obtain ⟨q2, o2, rfl, k2⟩ := key_cell HKRow2.out hkl (hW.out _ HE.out)
      generalize ks[i] = key at *
      go_wp2
      go_quiet (fail)
      go_wp2
      go_roundw
      case rel => exact ⟨i + 1, by go_num, by omega, HA1.out.drewN _, HB1.out.drewN _, (below_drewN HE.out _)⟩
      case measure => simp [intOf]; omega
/-- SameJson of two that are the same. -/
theorem same_json {x : J} (h : JSm x) : SameOk x := by
  induction h with
  | mk k b n s l ks hn hs hl hk hks hj ih => exact same_step k b n s l ks hl hk ih
end Go.Proofs.YtcobadgpelhcoaaDoor

namespace Go.Proofs.YtcobadgpelhcoaaDoor
open Go.Conc Go.RowKit
set_option linter.unusedVariables false

def awS : List UInt8 := [32, 123, 34, 97, 34, 58, 91, 49, 44, 45, 50, 44, 110, 117, 108, 108, 44, 34, 120, 92, 110, 34, 93, 125, 32]
def awP : List UInt8 := [123, 34, 97, 34, 58, 91, 49, 44, 45, 50, 44, 110, 117, 108, 108, 44, 34, 120, 92, 110, 34, 93, 125]
def awL : List J := [jInt 1, jInt (-2), jNull, jText ⟨#[120, 10]⟩]
def awJ : J := jObj [⟨#[97]⟩] [jList awL]
set_option maxRecDepth 100000 in
theorem aw_parse : parseN numD awS = .ok awJ := by kernel_rfl
theorem aw_bad : parseN numD [91, 49, 46, 48, 93] = .error 300 := by kernel_rfl
theorem aw_i1 : Lib.itoa 1 = [49] := by kernel_rfl
theorem aw_i2 : Lib.itoa (-2) = [45, 50] := by kernel_rfl
set_option maxRecDepth 100000 in
theorem aw_print : printN awJ = .ok awP := by kernel_rfl
end Go.Proofs.YtcobadgpelhcoaaDoor

namespace Go.Proofs.YtcobadgpelhcoaaDoor
open Go.Conc Go.RowKit Go.Maps Go.WideMaps
set_option linter.unusedVariables false
set_option linter.unusedSimpArgs false

theorem fits_scal (k : Int) (b : Bool) (n : Int) (s : ByteArray) : FitsOk (.mk k b n s [] []) 88 1 := fits_step k b n s [] 0 (by decide) (fun y hy => by simp at hy)
theorem copy_scal (k : Int) (b : Bool) (n : Int) (s : ByteArray) : CopyOk (.mk k b n s [] []) := copy_step k b n s [] [] (by decide) (by decide) (fun y hy => by simp at hy)
theorem jsm_scal (k : Int) (b : Bool) (n : Int) (s : ByteArray) (hn : -9223372036854775808 ≤ n ∧ n ≤ 9223372036854775807) (hs : s.size ≤ 140737488351232) : JSm (.mk k b n s [] []) := .mk k b n s [] [] hn hs (by decide) (by decide) (fun k hk => by simp at hk) (fun y hy => by simp at hy)
theorem aw_fits : FitsOk (jList awL) 440 2 := fits_step 4 false 0 ByteArray.empty awL 1 (by decide) (fun y hy => by
  simp only [awL, List.mem_cons, List.not_mem_nil, or_false] at hy
  rcases hy with rfl | rfl | rfl | rfl <;> exact fits_scal _ _ _ _)
theorem aw_copy : CopyOk (jList awL) := copy_step 4 false 0 ByteArray.empty awL [] (by decide) (by decide) (fun y hy => by
  simp only [awL, List.mem_cons, List.not_mem_nil, or_false] at hy
  rcases hy with rfl | rfl | rfl | rfl <;> exact copy_scal _ _ _ _)
theorem aw_sm : JSm awJ := .mk 5 false 0 ByteArray.empty [jList awL] [⟨#[97]⟩] (by decide) (by decide) (by decide) (by decide) (fun k hk => by simp only [List.mem_singleton] at hk; subst hk; decide) (fun y hy => by
  simp only [List.mem_singleton] at hy
  subst hy
  exact .mk 4 false 0 ByteArray.empty awL [] (by decide) (by decide) (by decide) (by decide) (fun k hk => by simp at hk) (fun y hy => by
    simp only [awL, List.mem_cons, List.not_mem_nil, or_false] at hy
    rcases hy with rfl | rfl | rfl | rfl
    · exact jsm_scal _ _ _ _ (by decide) (by decide)
    · exact jsm_scal _ _ _ _ (by decide) (by decide)
    · exact jsm_scal _ _ _ _ (by decide) (by decide)
    · exact jsm_scal _ _ _ _ (by decide) (by decide)))
theorem aw_p1 (u : World) : Calls Tryd.prog 10 #[.string ⟨#[32, 123, 34, 97, 34, 58, 91, 49, 44, 45, 50, 44, 110, 117, 108, 108, 44, 34, 120, 92, 110, 34, 93, 125, 32]⟩] u (JPd (.ok awJ) u) := by
  have := jparse_any ⟨#[32, 123, 34, 97, 34, 58, 91, 49, 44, 45, 50, 44, 110, 117, 108, 108, 44, 34, 120, 92, 110, 34, 93, 125, 32]⟩ u (by decide)
  rw [show parseN numD (ByteArray.mk #[32, 123, 34, 97, 34, 58, 91, 49, 44, 45, 50, 44, 110, 117, 108, 108, 44, 34, 120, 92, 110, 34, 93, 125, 32]).data.toList = .ok awJ from aw_parse] at this
  exact this
theorem aw_p2 (u : World) : Calls Tryd.prog 10 #[.string ⟨#[91, 49, 46, 48, 93]⟩] u (JPd (.error 300) u) := by
  have := jparse_any ⟨#[91, 49, 46, 48, 93]⟩ u (by decide)
  rw [show parseN numD (ByteArray.mk #[91, 49, 46, 48, 93]).data.toList = .error 300 from aw_bad] at this
  exact this

theorem aw_g1 (F : Nat → Prop) (c : List Value) (u : World) (hj : JIn F u awJ c) : Calls Tryd.prog 17 #[.agg c.toArray, .string ⟨#[97]⟩] u fun e w' => (∃ la lc ka kc, e = .returned (.tuple #[.agg #[.int .i64 4, .bool false, .int .i64 0, .string ⟨#[]⟩, .slice la 4 lc, .slice ka 0 kc], .bool true])) ∧ Below u.heap.size u w' :=
  jget_found false 0 ByteArray.empty [jList awL] [⟨#[97]⟩] ⟨#[97]⟩ 0 440 2 rfl (by decide) (by decide) (by decide) rfl (fun j hj h0 => by omega) aw_fits aw_copy (by decide) (by decide) F c u hj
theorem aw_g2 (F : Nat → Prop) (c : List Value) (u : World) (hj : JIn F u awJ c) : Calls Tryd.prog 17 #[.agg c.toArray, .string ⟨#[98]⟩] u fun e w' => e = .returned (.tuple #[zJ, .bool false]) ∧ Below u.heap.size u w' :=
  jget_none false 0 ByteArray.empty [jList awL] [⟨#[97]⟩] ⟨#[98]⟩ rfl (by decide) (fun j hj h0 => by
    have : j = 0 := by simp at hj; omega
    subst this
    have := congrArg (fun x : ByteArray => x.data.toList) h0
    simp at this) F c u hj

set_option maxHeartbeats 8000000 in
set_option maxRecDepth 100000 in
theorem jawake_any (B : Nat) (w : World) (ht : TabLow B w) (hB : B ≤ w.heap.size) : Calls Tryd.prog 14 #[] w fun e w' => e = .returned (.bool true) ∧ Below w.heap.size w w' := by
  have hseq : ((ByteArray.mk awP.toArray).toList == [123, 34, 97, 34, 58, 91, 49, 44, 45, 50, 44, 110, 117, 108, 108, 44, 34, 120, 92, 110, 34, 93, 125]) = true := by kernel_rfl
  have HSQ := Lib.hid hseq
  have HT := Lib.hid ht
  clear ht hseq
  go_enter Tryd.func14, Tryd.ntmps14
  go_wp2_with (first
    | (go_at_call 10; first
       | ((with_reducible refine (aw_p1 _).mono ?_); rintro e w1 ⟨cs, rfl, hb1, hj⟩; obtain ⟨xk, xb, xn, xs, xla, xll, xlc, xka, xkl, xkc, rfl⟩ := hj.form
          have hA1 := hb1.alloc hb1.size (.cells #[.int .i64 xk, .bool xb, .int .i64 xn, .string xs, .slice xla xll xlc, .slice xka xkl xkc] 25)
          have HA1 := Lib.hid hA1
          have O1 := j6_new w1 (.int .i64 xk) (.bool xb) (.int .i64 xn) (.string xs) (.slice xla xll xlc) (.slice xka xkl xkc)
          have HO1 := Lib.hid O1
          have HJ1 := Lib.hid ((hj.same (fun g _ hl => Below.heap_alloc w1 (.cells #[.int .i64 xk, .bool xb, .int .i64 xn, .string xs, .slice xla xll xlc, .slice xka xkl xkc] 25) g hl) (by simp)).mono (F' := fun g => g < (w1.alloc (.cells #[.int .i64 xk, .bool xb, .int .i64 xn, .string xs, .slice xla xll xlc, .slice xka xkl xkc] 25)).heap.size) fun g hl _ => hl)
          have hTT := HT.out.keep fun g hg => hA1.block g (by omega)
          have HT1 := Lib.hid hTT
          clear hb1 hj hA1 O1 hTT)
       | ((with_reducible refine (aw_p2 _).mono ?_); rintro e w3 ⟨rfl, hb3⟩; unfold zJ; have hz3 := hb3.size; have HB3 := Lib.hid (hb3.alloc hb3.size (.cells #[.int .i64 0, .bool false, .int .i64 0, .string ⟨#[]⟩, .slice none 0 0, .slice none 0 0] 25)); have O3 := HO2.out.frm (Frm.of_new HB3.out (fun _ => False)) id; have HO3 := Lib.hid O3; have HJ3 := Lib.hid (((HJ1.out.same (fun g _ hl => HB2.out.block g hl) HB2.out.size).mono (F' := fun g => g < w2.heap.size) fun g hl _ => hl).same (fun g _ hl => HB3.out.block g hl) HB3.out.size); have d0 := O3.c0; have d1 := O3.c1; have d2 := O3.c2; have d3 := O3.c3; have d4 := O3.c4; have d5 := O3.c5; clear hb3 O3))
    | (go_at_call 15; refine (jprint_any B awJ [.int .i64 xk, .bool xb, .int .i64 xn, .string xs, .slice xla xll xlc, .slice xka xkl xkc] _ HJ1.out aw_sm HT1.out (by have := HA1.out.size; omega)).mono ?_; rw [aw_print]; rintro e w2 ⟨rfl, hb2⟩; have HB2 := Lib.hid hb2; have O2 := HO1.out.frm (Frm.of_new hb2 (fun _ => False)) id; have HO2 := Lib.hid O2; clear hb2 O2)
    | (go_at_call 17; first
       | ((with_reducible refine (aw_g1 (fun g => g < w2.heap.size) [.int .i64 xk, .bool xb, .int .i64 xn, .string xs, .slice xla xll xlc, .slice xka xkl xkc] _ HJ3.out).mono ?_); rintro e w4 ⟨⟨la4, lc4, ka4, kc4, rfl⟩, hb4⟩; have HB4 := Lib.hid (hb4.alloc hb4.size (.cells #[.int .i64 4, .bool false, .int .i64 0, .string ⟨#[]⟩, .slice la4 4 lc4, .slice ka4 0 kc4] 25)); have O4 := HO3.out.frm (Frm.of_new HB4.out (fun _ => False)) id; have HO4 := Lib.hid O4; have e0 := O4.c0; have e1 := O4.c1; have e2 := O4.c2; have e3 := O4.c3; have e4 := O4.c4; have e5 := O4.c5; have HJ4 := Lib.hid (HJ3.out.same (fun g _ hl => HB4.out.block g hl) HB4.out.size); have V4 := j6_new w4 (.int .i64 4) (.bool false) (.int .i64 0) (.string ⟨#[]⟩) (.slice la4 4 lc4) (.slice ka4 0 kc4); have HV4 := Lib.hid V4; clear hb4 O4 V4)
       | ((with_reducible refine (aw_g2 (fun g => g < w2.heap.size) [.int .i64 xk, .bool xb, .int .i64 xn, .string xs, .slice xla xll xlc, .slice xka xkl xkc] _ HJ4.out).mono ?_); rintro e w5 ⟨rfl, hb5⟩; unfold zJ; have HB5 := Lib.hid (hb5.alloc hb5.size (.cells #[.int .i64 0, .bool false, .int .i64 0, .string ⟨#[]⟩, .slice none 0 0, .slice none 0 0] 25)); have V5 := HV4.out.frm (Frm.of_new HB5.out (fun _ => False)) id; have v4 := V5.c4; have hsq := HSQ.out; clear hb5 V5))
    | (go_at_call 13; refine (num_any _ _).mono ?_; rintro e w' ⟨rfl, rfl⟩))
  go_ret
  exact ⟨rfl, (((((Frm.of_below HA1.out).trans (Frm.of_new HB2.out _)).trans (Frm.of_new HB3.out _)).trans (Frm.of_new HB4.out _)).trans (Frm.of_new HB5.out _)).below (Nat.le_refl _)⟩
end Go.Proofs.YtcobadgpelhcoaaDoor
