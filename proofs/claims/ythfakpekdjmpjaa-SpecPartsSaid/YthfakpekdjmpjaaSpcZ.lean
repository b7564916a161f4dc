/- The document's specs: which fields may be, a text's first runes. The document's specs: the bytes of a value that are summed. The document's Apply. The document's Apply: its sums and its multiples. The document's Apply. -/
import Derived.Test.YthfakpekdjmpjaaSpcB
import Derived.Test.YthfakpekdjmpjaaRFirst
import Derived.Laws.MakeOwn
import Derived.Deep.Cut
import Derived.Test.YthfakpekdjmpjaaOpen
import Derived.Test.YthfakpekdjmpjaaSpcM
import Derived.Test.YthfakpekdjmpjaaVClean
namespace Go.Proofs.Ythfakpekdjmpjaa
open Go.Conc Go.RowKit
set_option linter.unusedVariables false
set_option linter.unusedSimpArgs false

set_option maxRecDepth 100000 in
theorem reffieldmay_any (f : Fd) (w : World) : Calls Try.prog 71 #[.agg #[.int .i64 f.src, .int .i64 f.tr, .int .i64 f.par]] w fun e w' => e = .returned (.bool (fieldB f)) ∧ Below w.heap.size w w' := by
  unfold fieldB
  obtain ⟨u, hu⟩ : ∃ u, u = w.alloc (.cells #[.int .i64 f.src, .int .i64 f.tr, .int .i64 f.par] 55) := ⟨_, rfl⟩
  have hc : FdAt u w.heap.size 0 f := by rw [hu]; exact FdAt.new w f
  have HB : Hid (Below w.heap.size w u) := by rw [hu]; exact (Below.refl _ _).alloc (Nat.le_refl _) _
  obtain ⟨c0, c1, c2⟩ := hc
  obtain ⟨src, tr, par⟩ := f
  simp only at *
  by_cases h0 : tr = 0
  · subst h0
    rw [if_pos rfl]
    have e : decide (par = 0) = (par == 0) := by rw [Bool.eq_iff_iff, decide_eq_true_eq, beq_iff_eq]
    rw [e]
    go_enter Try.func71, Try.ntmps71
    go_upto_region 1 with fail
    rw [← hu]
    clear hu
    go_wp2
    go_ret
    exact ⟨rfl, HB.out⟩
  rw [if_neg h0]
  have d0 : (tr == 0) = false := by simpa using h0
  by_cases h12 : tr = 1 ∨ tr = 2
  · rw [if_pos h12]
    have key : ∀ b1 b2 : Bool, decide ((1 : Int) ≤ par) = b1 → decide (par ≤ 1024) = b2 → Calls Try.prog 71 #[.agg #[.int .i64 src, .int .i64 tr, .int .i64 par]] w fun e w' => e = .returned (.bool (b1 && b2)) ∧ Below w.heap.size w w' := by
      intro b1 b2 g1 g2
      rcases h12 with rfl | rfl <;> cases b1 <;> cases b2 <;> (
        go_enter Try.func71, Try.ntmps71
        go_upto_region 1 with fail
        rw [← hu]
        clear hu
        go_wp2
        go_ret
        exact ⟨rfl, HB.out⟩)
    have h := key _ _ rfl rfl
    rwa [show (decide ((1 : Int) ≤ par) && decide (par ≤ 1024)) = paramB par by unfold paramB; rw [Bool.decide_and]] at h
  · rw [if_neg h12]
    have d1 : (tr == 1) = false := by simp; omega
    have d2 : (tr == 2) = false := by simp; omega
    clear h0 h12
    go_enter Try.func71, Try.ntmps71
    go_upto_region 1 with fail
    rw [← hu]
    clear hu
    go_wp2
    go_ret
    exact ⟨rfl, HB.out⟩
set_option maxRecDepth 100000 in
set_option maxHeartbeats 1000000 in
theorem refrunes_any (s : ByteArray) (m : Nat) (hs : s.size ≤ 140737488355328) (hm : m ≤ 1024) (w : World) : Calls Try.prog 74 #[.string s, .int .i64 (m : Int)] w fun e w' => e = .returned (.string (cutT s m)) ∧ w = w' := by
  obtain ⟨E, hE⟩ : ∃ E, E = runesAt s.data.toList m 0 := ⟨_, rfl⟩
  have HR : Hid (s.extract 0 E = cutT s m) := by
    unfold Hid cutT
    rw [cut_text, hE]
  have HL := Lib.hid (size_list s)
  have HE := Lib.hid hE
  rw [← HR.out]
  clear hE HR
  have hrange : ∀ k : Nat, k ≤ 1024 → IntKind.i64.wrap ((k : Int) + 1) = ((k + 1 : Nat) : Int) := fun k hk => by rw [IntKind.wrap_i64]; omega
  have HW := Lib.hid hrange
  clear hrange
  go_enter Try.func74, Try.ntmps74
  go_wp2
  go_loop [6, 5] (fun kv ev => ∃ (k a : Nat), k ≤ m ∧ a ≤ s.size ∧ kv = .int .i64 k ∧ ev = .int .i64 a ∧ Hid (runesAt s.data.toList (m - k) a = E)) (fun kv _ => (m - (intOf kv).toNat : Nat))
  case atStart => exact ⟨0, 0, Nat.zero_le _, Nat.zero_le _, rfl, rfl, HE.out.symm⟩
  case round =>
    obtain ⟨k, a, hk, ha, rfl, rfl, hr⟩ := hrel
    by_cases c : k < m
    · have d : decide ((k : Int) < (m : Int)) = true := decide_eq_true (by omega)
      by_cases c2 : a = s.size
      · have hf : E = a := by rw [← hr.out]; exact runesAt_end _ _ _ (by rw [← HL.out]; omega)
        subst hf
        have hnl : ¬ E < s.size := by omega
        have hin : E ≤ s.size := ha
        clear hr HE HW HL c2 hk
        go_wp2
        go_ret
        exact ⟨rfl, rfl⟩
      · have hl : a < s.size := by omega
        have hll : a < s.data.toList.length := by rw [← HL.out]; exact hl
        have hn := hr.out
        rw [show m - k = (m - (k + 1)) + 1 by omega, runesAt_in _ _ _ hll] at hn
        have hst := rr_step s.data.toList a hll
        have T1 := Lib.hid (fun v => rrune_in s a hl (by omega) v)
        have hz0 : 0 ≤ (rr s.data.toList a).2 := (rr_le _ _).1
        obtain ⟨z, hz⟩ : ∃ z : Nat, (rr s.data.toList a).2 = (z : Int) := ⟨(rr s.data.toList a).2.toNat, by omega⟩
        rw [hz, Int.toNat_natCast] at hn hst
        rw [hz] at T1
        obtain ⟨q, hq⟩ : ∃ q, q = (rr s.data.toList a).1 := ⟨_, rfl⟩
        rw [← hq] at T1
        have HN := Lib.hid hn
        rw [← HL.out] at hst
        have hmx : max (z : Int) 1 = ((max z 1 : Nat) : Int) := by omega
        have hsum : IntKind.i64.wrap ((a : Int) + max (z : Int) 1) = ((a + max z 1 : Nat) : Int) := by rw [hmx, IntKind.wrap_i64]; omega
        have hkk := HW.out k (by omega)
        have HS := Lib.hid hst
        clear hn hr HE HW hq hz hz0 hst hmx hll c2 hk
        go_wp2_with (go_at_call 100; refine (T1.out _).mono ?_; rintro e w' ⟨rfl, rfl⟩)
        refine ⟨⟨k + 1, a + max z 1, c, HS.out, congrArg (Value.int .i64) (by omega), congrArg (Value.int .i64) (by omega), HN⟩, ?_⟩
        show m - ((k : Int) + 1).toNat < m - ((k : Int)).toNat
        omega
    · have d : decide ((k : Int) < (m : Int)) = false := decide_eq_false (by omega)
      have hf : E = a := by rw [← hr.out, show m - k = 0 by omega]; rfl
      subst hf
      have hin : E ≤ s.size := ha
      clear hr HE HW HL hk
      go_wp2
      go_ret
      exact ⟨rfl, rfl⟩
end Go.Proofs.Ythfakpekdjmpjaa

namespace Go.Proofs.Ythfakpekdjmpjaa
open Go.Conc Go.RowKit
set_option linter.unusedVariables false
set_option linter.unusedSimpArgs false

theorem byte_mod (y : Int) : IntKind.u8.wrap (y % 256) = y % 256 := by rw [IntKind.wrap_u8]; omega
set_option maxRecDepth 100000 in
set_option maxHeartbeats 1000000 in
theorem refbytesnum_any (x : Int) (h : -9223372036854775808 ≤ x ∧ x < 9223372036854775808) (w : World) : Calls Try.prog 73 #[.agg #[.int .i64 1, .int .i64 x, .bool false, .string ByteArray.empty]] w fun e w' => e = .returned (.string (textB (beB x))) ∧ Below w.heap.size w w' := by
  have hmk : ∀ u : World, (Instr.makeSlice 51 (.int .i64 8) (.int .i64 8)).run Try.prog u = .ok (.slice (some ⟨u.heap.size, 0, none⟩) 8 8) (u.alloc (.cells (arrQ []) 5)) := fun _ => by kernel_rfl
  have hs0 := Slot.new w ⟨1, x, false, ByteArray.empty⟩
  have hb0 : Below w.heap.size w (w.alloc (.cells #[.int .i64 1, .int .i64 x, .bool false, .string ByteArray.empty] 57)) := (Below.refl _ _).alloc (Nat.le_refl _) _
  have hu : IntKind.u64.wrap x = (unsN x : Int) := by rw [IntKind.wrap_u64]; unfold unsN; omega
  have HX : Hid ((bytesN 8 (unsN x)).reverse = beB x) := rfl
  have hX := unsN_lt x
  go_enter Try.func73, Try.ntmps73
  go_upto_region 1 with fail
  simp only at hs0
  have hsz : (w.alloc (.cells #[.int .i64 1, .int .i64 x, .bool false, .string ByteArray.empty] 57)).heap.size = w.heap.size + 1 := by simp
  generalize (w.alloc (.cells #[.int .i64 1, .int .i64 x, .bool false, .string ByteArray.empty] 57)) = u at *
  obtain ⟨⟨c0, c1, c2, c3⟩, _⟩ := hs0.at
  have hs1 := hs0.alloc (.cells (arrQ []) 5)
  obtain ⟨⟨k0, k1, k2, k3⟩, _⟩ := hs1.at
  have HU := Lib.hid (heap_alloc_new u (.cells (arrQ []) 5))
  have HB := Lib.hid (hb0.alloc hb0.size (.cells (arrQ []) 5))
  clear hs0 hb0 hs1
  go_upto_region 6 with fail
  rw [hsz] at HU
  clear k0 k1 k2 k3 c0 c1 c2 c3 hmk
  generalize u.alloc (.cells (arrQ []) 5) = u0 at *
  go_loopw [4, 5] (fun xv iv wr => ∃ (j X : Nat) (z : Int) (suf : List UInt8), j + suf.length = 8 ∧ X < 18446744073709551616 ∧ z + 1 = (j : Int) ∧ xv = .int .u64 X ∧ iv = .int .i64 z ∧ Hid ((bytesN j X).reverse ++ suf = beB x) ∧ wr.heap[w.heap.size + 1]? = some (.cells (arrQ suf) 5 (0, 0)) ∧ Below w.heap.size w wr) (fun _ iv _ => (intOf iv + 1).toNat)
  case atStart => exact ⟨8, unsN x, 7, [], rfl, hX, rfl, rfl, rfl, by unfold Hid; rw [HX.out, List.append_nil], HU.out, HB.out⟩
  case round =>
    obtain ⟨j, X, z, suf, hl, hy, hz, rfl, rfl, he, hb, hbl⟩ := hrel
    have HU2 := Lib.hid hb
    have HL := Lib.hid hbl
    clear hbl hX HX hu
    have hlt : (w.heap.size + 1 : Nat) < wr.heap.size := (Array.getElem?_eq_some_iff.1 hb).1
    cases j with
    | zero =>
      obtain rfl : z = -1 := by omega
      have e5 := arrQ_back _ _ suf _ _ hb (arrQ_full (by omega)) 8 8 (by omega)
      have hs : suf = beB x := by have := he.out; simpa [bytesN] using this
      clear hb he
      rw [hs] at e5
      go_wp2
      go_ret
      exact ⟨rfl, HL.out⟩
    | succ j =>
      obtain rfl : z = (j : Int) := by omega
      have hc := (cell_of_row wr (w.heap.size + 1) j _ _ _ hb).trans (arrQ_zero (by omega))
      have hzz := frozen_of_row wr (w.heap.size + 1) j _ _ hb
      have e1 := byte_mod X
      clear hb
      go_wp2
      refine ⟨⟨j, X / 256, (j : Int) - 1, Go.Proofs.Ythfakpekdjmpjaa.u8 (X % 256) :: suf, ?_, ?_, ?_, rfl, rfl, ?_, ?_, HL.out.setCell (by simp) _⟩, ?_⟩
      · rw [List.length_cons]; omega
      · omega
      · omega
      · have := he.out
        unfold Hid
        rw [← this, bytesN, List.reverse_cons, List.append_assoc]
        rfl
      · have e4 : ((Go.Proofs.Ythfakpekdjmpjaa.u8 (X % 256)).toNat : Int) = (X : Int) % 256 := by rw [u8_toNat _ (by omega)]; omega
        rw [← arrQ_set (by omega), e4]
        exact heap_setCell_same _ _ _ _ _ _ HU2.out
      · show ((j : Int) - 1 + 1).toNat < ((j : Int) + 1).toNat
        omega
set_option maxRecDepth 100000 in
theorem refbytesof_any (p : V) (hp : Pln p) (hi : -9223372036854775808 ≤ p.i ∧ p.i < 9223372036854775808) (w : World) : Calls Try.prog 73 #[.agg #[.int .i64 p.k, .int .i64 p.i, .bool p.b, .string p.s]] w fun e w' => e = .returned (.string (bytesV p)) ∧ Below w.heap.size w w' := by
  obtain ⟨k, i, b, s⟩ := p
  simp only at hi ⊢
  have hs0 := Slot.new w ⟨k, i, b, s⟩
  have hb0 : Below w.heap.size w (w.alloc (.cells #[.int .i64 k, .int .i64 i, .bool b, .string s] 57)) := (Below.refl _ _).alloc (Nat.le_refl _) _
  rcases hp with ⟨h1, h2, h3⟩ | ⟨h1, h2, h3⟩ | ⟨h1, h2, h3⟩ <;> simp only at h1 h2 h3 <;> subst h1 <;> subst h2 <;> subst h3
  · exact refbytesnum_any i hi w
  · rw [show bytesV ⟨2, 0, b, ByteArray.empty⟩ = textB [if b then 1 else 0] from rfl]
    cases b with
    | true =>
      go_enter Try.func73, Try.ntmps73
      go_wp2
      go_ret
      exact ⟨rfl, (Below.refl _ _).alloc (Nat.le_refl _) _⟩
    | false =>
      go_enter Try.func73, Try.ntmps73
      go_wp2
      go_ret
      exact ⟨rfl, (Below.refl _ _).alloc (Nat.le_refl _) _⟩
  · rw [show bytesV ⟨3, 0, false, s⟩ = s from rfl]
    go_enter Try.func73, Try.ntmps73
    go_upto_region 1 with fail
    simp only at hs0
    generalize (w.alloc (.cells #[.int .i64 3, .int .i64 0, .bool false, .string s] 57)) = u at *
    obtain ⟨⟨c0, c1, c2, c3⟩, _⟩ := hs0.at
    have HB := Lib.hid hb0
    clear hs0 hb0
    go_wp2
    go_ret
    exact ⟨rfl, HB.out⟩
end Go.Proofs.Ythfakpekdjmpjaa

namespace Go.Proofs.Ythfakpekdjmpjaa
open Go.Conc Go.RowKit
set_option linter.unusedVariables false
set_option linter.unusedSimpArgs false

set_option maxRecDepth 100000 in
set_option maxHeartbeats 1000000 in
theorem refap_no (f : Fd) (v p : V)  (w : World) (T0 : Hid (∀ u, Calls Try.prog 71 #[.agg #[.int .i64 f.src, .int .i64 f.tr, .int .i64 f.par]] u fun e w' => e = .returned (.bool false) ∧ Below u.heap.size u w')) (T1 : Hid (∀ u, Calls Try.prog 46 #[.agg #[.int .i64 v.k, .int .i64 v.i, .bool v.b, .string v.s]] u fun e w' => e = .returned (.agg #[.int .i64 p.k, .int .i64 p.i, .bool p.b, .string p.s]) ∧ Below u.heap.size u w')) :
    Calls Try.prog 31 #[.agg #[.int .i64 f.src, .int .i64 f.tr, .int .i64 f.par], .agg #[.int .i64 v.k, .int .i64 v.i, .bool v.b, .string v.s]] w fun e w' => e = .returned (.tuple #[.agg #[.int .i64 (zeroVal : V).k, .int .i64 (zeroVal : V).i, .bool (zeroVal : V).b, .string (zeroVal : V).s], .int .i64 1300]) ∧ Below w.heap.size w w' := by
  obtain ⟨u, hu⟩ : ∃ u, u = (((w.alloc (.cells #[.int .i64 f.src, .int .i64 f.tr, .int .i64 f.par] 55)).alloc (.cells #[.int .i64 v.k, .int .i64 v.i, .bool v.b, .string v.s] 57)).alloc (.cells #[.int .i64 0, .int .i64 0, .bool false, .string ⟨#[]⟩] 57)) := ⟨_, rfl⟩
  have hf : FdAt u w.heap.size 0 f := by
    have h1 := FdAt.new w f
    have h2 := h1.below (((Below.refl _ _).alloc (Nat.le_refl _) (.cells #[.int .i64 v.k, .int .i64 v.i, .bool v.b, .string v.s] 57)).alloc (by simp) (.cells #[.int .i64 0, .int .i64 0, .bool false, .string ⟨#[]⟩] 57))
    rw [hu]; exact h2
  have hs1 : Slot u (w.heap.size + 1) v := by
    have := (Slot.new (w.alloc (.cells #[.int .i64 f.src, .int .i64 f.tr, .int .i64 f.par] 55)) v).alloc (.cells #[.int .i64 0, .int .i64 0, .bool false, .string ⟨#[]⟩] 57)
    rw [show (w.alloc (.cells #[.int .i64 f.src, .int .i64 f.tr, .int .i64 f.par] 55)).heap.size = w.heap.size + 1 by simp] at this
    rw [hu]; exact this
  have hs2 : Slot u (w.heap.size + 1 + 1) ⟨0, 0, false, ⟨#[]⟩⟩ := by
    have := Slot.new ((w.alloc (.cells #[.int .i64 f.src, .int .i64 f.tr, .int .i64 f.par] 55)).alloc (.cells #[.int .i64 v.k, .int .i64 v.i, .bool v.b, .string v.s] 57)) ⟨0, 0, false, ⟨#[]⟩⟩
    rw [show ((w.alloc (.cells #[.int .i64 f.src, .int .i64 f.tr, .int .i64 f.par] 55)).alloc (.cells #[.int .i64 v.k, .int .i64 v.i, .bool v.b, .string v.s] 57)).heap.size = w.heap.size + 1 + 1 by simp] at this
    rw [hu]; exact this
  have hb0 : Below w.heap.size w u := by rw [hu]; exact ((((Below.refl _ _).alloc (Nat.le_refl _) _).alloc (by simp) _).alloc (by simp; omega) _)
  have HF := Lib.hid hf
  have HS1 := Lib.hid hs1
  have HS2 := Lib.hid hs2
  have HB := Lib.hid hb0
  clear hf hs1 hs2 hb0
  go_enter Try.func31, Try.ntmps31
  go_upto_region 1 with fail
  rw [← hu]
  clear hu
  obtain ⟨d0, d1, d2⟩ := HF.out
  go_wp2_with (go_at_call 71; refine (T0.out _).mono ?_; rintro e w0 ⟨rfl, hb0⟩; replace HS2 := Lib.hid (HS2.out.below hb0); replace HB := Lib.hid (HB.out.trans (hb0.mono HB.out.size)); clear hb0 d0 d1 d2 T0 HF HS1; obtain ⟨⟨z0, z1, z2, z3⟩, y0, y1, y2, y3⟩ := HS2.out.at)
  change bodyPost _ _ _ _ _ (putV w0 (w.heap.size + 1 + 1) zeroVal)
  obtain ⟨w9, hw9, hS9, hB9⟩ := slot_ret HS2.out HB.out (by omega) zeroVal
  change w9 = putV w0 (w.heap.size + 1 + 1) zeroVal at hw9
  rw [← hw9]
  clear z0 z1 z2 z3
  obtain ⟨⟨z0, z1, z2, z3⟩, _⟩ := hS9.at
  refine bodyPost_ret (v := .tuple #[.agg #[.int .i64 (zeroVal : V).k, .int .i64 (zeroVal : V).i, .bool (zeroVal : V).b, .string (zeroVal : V).s], .int .i64 1300]) (by simp [results, Try.results31, go_sem, z0, z1, z2, z3]) rfl ?_
  exact ⟨rfl, hB9⟩
set_option maxRecDepth 100000 in
set_option maxHeartbeats 1000000 in
theorem refap_null (f : Fd) (v p : V) (hk : Hid (p.k = 0)) (w : World) (T0 : Hid (∀ u, Calls Try.prog 71 #[.agg #[.int .i64 f.src, .int .i64 f.tr, .int .i64 f.par]] u fun e w' => e = .returned (.bool true) ∧ Below u.heap.size u w')) (T1 : Hid (∀ u, Calls Try.prog 46 #[.agg #[.int .i64 v.k, .int .i64 v.i, .bool v.b, .string v.s]] u fun e w' => e = .returned (.agg #[.int .i64 p.k, .int .i64 p.i, .bool p.b, .string p.s]) ∧ Below u.heap.size u w')) :
    Calls Try.prog 31 #[.agg #[.int .i64 f.src, .int .i64 f.tr, .int .i64 f.par], .agg #[.int .i64 v.k, .int .i64 v.i, .bool v.b, .string v.s]] w fun e w' => e = .returned (.tuple #[.agg #[.int .i64 (zeroVal : V).k, .int .i64 (zeroVal : V).i, .bool (zeroVal : V).b, .string (zeroVal : V).s], .int .i64 0]) ∧ Below w.heap.size w w' := by
  obtain ⟨u, hu⟩ : ∃ u, u = (((w.alloc (.cells #[.int .i64 f.src, .int .i64 f.tr, .int .i64 f.par] 55)).alloc (.cells #[.int .i64 v.k, .int .i64 v.i, .bool v.b, .string v.s] 57)).alloc (.cells #[.int .i64 0, .int .i64 0, .bool false, .string ⟨#[]⟩] 57)) := ⟨_, rfl⟩
  have hf : FdAt u w.heap.size 0 f := by
    have h1 := FdAt.new w f
    have h2 := h1.below (((Below.refl _ _).alloc (Nat.le_refl _) (.cells #[.int .i64 v.k, .int .i64 v.i, .bool v.b, .string v.s] 57)).alloc (by simp) (.cells #[.int .i64 0, .int .i64 0, .bool false, .string ⟨#[]⟩] 57))
    rw [hu]; exact h2
  have hs1 : Slot u (w.heap.size + 1) v := by
    have := (Slot.new (w.alloc (.cells #[.int .i64 f.src, .int .i64 f.tr, .int .i64 f.par] 55)) v).alloc (.cells #[.int .i64 0, .int .i64 0, .bool false, .string ⟨#[]⟩] 57)
    rw [show (w.alloc (.cells #[.int .i64 f.src, .int .i64 f.tr, .int .i64 f.par] 55)).heap.size = w.heap.size + 1 by simp] at this
    rw [hu]; exact this
  have hs2 : Slot u (w.heap.size + 1 + 1) ⟨0, 0, false, ⟨#[]⟩⟩ := by
    have := Slot.new ((w.alloc (.cells #[.int .i64 f.src, .int .i64 f.tr, .int .i64 f.par] 55)).alloc (.cells #[.int .i64 v.k, .int .i64 v.i, .bool v.b, .string v.s] 57)) ⟨0, 0, false, ⟨#[]⟩⟩
    rw [show ((w.alloc (.cells #[.int .i64 f.src, .int .i64 f.tr, .int .i64 f.par] 55)).alloc (.cells #[.int .i64 v.k, .int .i64 v.i, .bool v.b, .string v.s] 57)).heap.size = w.heap.size + 1 + 1 by simp] at this
    rw [hu]; exact this
  have hb0 : Below w.heap.size w u := by rw [hu]; exact ((((Below.refl _ _).alloc (Nat.le_refl _) _).alloc (by simp) _).alloc (by simp; omega) _)
  have HF := Lib.hid hf
  have HS1 := Lib.hid hs1
  have HS2 := Lib.hid hs2
  have HB := Lib.hid hb0
  clear hf hs1 hs2 hb0
  go_enter Try.func31, Try.ntmps31
  go_upto_region 1 with fail
  rw [← hu]
  clear hu
  obtain ⟨d0, d1, d2⟩ := HF.out
  go_upto_region 3 with (go_at_call 71; refine (T0.out _).mono ?_; rintro e w0 ⟨rfl, hb0⟩; replace HF := Lib.hid (HF.out.below hb0); replace HS1 := Lib.hid (HS1.out.below hb0); replace HS2 := Lib.hid (HS2.out.below hb0); replace HB := Lib.hid (HB.out.trans (hb0.mono HB.out.size)); clear hb0 d0 d1 d2 T0)
  obtain ⟨⟨a0, a1, a2, a3⟩, _⟩ := HS1.out.at
  go_upto_region 4 with (go_at_call 46; refine (T1.out _).mono ?_; rintro e w1 ⟨rfl, hb1⟩; replace HF := Lib.hid (HF.out.below hb1); have hs1 := HS1.out.below hb1; obtain ⟨⟨b0, b1, b2, b3⟩, f0, f1, f2, f3⟩ := hs1.at; replace HS1 := Lib.hid hs1; replace HS2 := Lib.hid (HS2.out.below hb1); replace HB := Lib.hid (HB.out.trans (hb1.mono HB.out.size)); clear hb1 hs1 a0 a1 a2 a3)
  clear b0 b1 b2 b3 f0 f1 f2 f3 T1
  obtain ⟨w4, hw4, hS4, hB4⟩ := slot_ret HS1.out HB.out (Nat.le_succ w.heap.size) p
  have hF4 : FdAt w4 w.heap.size 0 f := by
    refine HF.out.block ?_
    rw [hw4]
    rw [Below.heap_setCell _ _ _ _ (by simp), Below.heap_setCell _ _ _ _ (by simp), Below.heap_setCell _ _ _ _ (by simp), Below.heap_setCell _ _ _ _ (by simp)]
  have hS24 : Slot w4 (w.heap.size + 1 + 1) ⟨0, 0, false, ⟨#[]⟩⟩ := by
    rw [hw4]
    exact (((HS2.out.other (by simp)).other (by simp)).other (by simp)).other (by simp)
  rw [← hw4]
  clear hw4 HF HS1 HS2 HB
  have HF := Lib.hid hF4
  have HS1 := Lib.hid hS4
  have HS2 := Lib.hid hS24
  have HB := Lib.hid hB4
  clear hF4 hS4 hS24 hB4
  obtain ⟨⟨a0, a1, a2, a3⟩, _⟩ := HS1.out.at
  have hf := HF.out
  obtain ⟨d0, d1, d2⟩ := hf
  obtain ⟨⟨z0, z1, z2, z3⟩, y0, y1, y2, y3⟩ := HS2.out.at
  rw [hk.out] at a0
  go_wp2
  change bodyPost _ _ _ _ _ (putV w4 (w.heap.size + 1 + 1) zeroVal)
  obtain ⟨w9, hw9, hS9, hB9⟩ := slot_ret HS2.out HB.out (by omega) zeroVal
  change w9 = putV w4 (w.heap.size + 1 + 1) zeroVal at hw9
  rw [← hw9]
  clear z0 z1 z2 z3
  obtain ⟨⟨z0, z1, z2, z3⟩, _⟩ := hS9.at
  refine bodyPost_ret (v := .tuple #[.agg #[.int .i64 (zeroVal : V).k, .int .i64 (zeroVal : V).i, .bool (zeroVal : V).b, .string (zeroVal : V).s], .int .i64 0]) (by simp [results, Try.results31, go_sem, z0, z1, z2, z3]) rfl ?_
  exact ⟨rfl, hB9⟩
set_option maxRecDepth 100000 in
set_option maxHeartbeats 1000000 in
theorem refap_id (f : Fd) (v p : V) (hk : ¬ p.k = 0) (h0 : Hid (f.tr = 0)) (w : World) (T0 : Hid (∀ u, Calls Try.prog 71 #[.agg #[.int .i64 f.src, .int .i64 f.tr, .int .i64 f.par]] u fun e w' => e = .returned (.bool true) ∧ Below u.heap.size u w')) (T1 : Hid (∀ u, Calls Try.prog 46 #[.agg #[.int .i64 v.k, .int .i64 v.i, .bool v.b, .string v.s]] u fun e w' => e = .returned (.agg #[.int .i64 p.k, .int .i64 p.i, .bool p.b, .string p.s]) ∧ Below u.heap.size u w')) :
    Calls Try.prog 31 #[.agg #[.int .i64 f.src, .int .i64 f.tr, .int .i64 f.par], .agg #[.int .i64 v.k, .int .i64 v.i, .bool v.b, .string v.s]] w fun e w' => e = .returned (.tuple #[.agg #[.int .i64 (p : V).k, .int .i64 (p : V).i, .bool (p : V).b, .string (p : V).s], .int .i64 0]) ∧ Below w.heap.size w w' := by
  obtain ⟨u, hu⟩ : ∃ u, u = (((w.alloc (.cells #[.int .i64 f.src, .int .i64 f.tr, .int .i64 f.par] 55)).alloc (.cells #[.int .i64 v.k, .int .i64 v.i, .bool v.b, .string v.s] 57)).alloc (.cells #[.int .i64 0, .int .i64 0, .bool false, .string ⟨#[]⟩] 57)) := ⟨_, rfl⟩
  have hf : FdAt u w.heap.size 0 f := by
    have h1 := FdAt.new w f
    have h2 := h1.below (((Below.refl _ _).alloc (Nat.le_refl _) (.cells #[.int .i64 v.k, .int .i64 v.i, .bool v.b, .string v.s] 57)).alloc (by simp) (.cells #[.int .i64 0, .int .i64 0, .bool false, .string ⟨#[]⟩] 57))
    rw [hu]; exact h2
  have hs1 : Slot u (w.heap.size + 1) v := by
    have := (Slot.new (w.alloc (.cells #[.int .i64 f.src, .int .i64 f.tr, .int .i64 f.par] 55)) v).alloc (.cells #[.int .i64 0, .int .i64 0, .bool false, .string ⟨#[]⟩] 57)
    rw [show (w.alloc (.cells #[.int .i64 f.src, .int .i64 f.tr, .int .i64 f.par] 55)).heap.size = w.heap.size + 1 by simp] at this
    rw [hu]; exact this
  have hs2 : Slot u (w.heap.size + 1 + 1) ⟨0, 0, false, ⟨#[]⟩⟩ := by
    have := Slot.new ((w.alloc (.cells #[.int .i64 f.src, .int .i64 f.tr, .int .i64 f.par] 55)).alloc (.cells #[.int .i64 v.k, .int .i64 v.i, .bool v.b, .string v.s] 57)) ⟨0, 0, false, ⟨#[]⟩⟩
    rw [show ((w.alloc (.cells #[.int .i64 f.src, .int .i64 f.tr, .int .i64 f.par] 55)).alloc (.cells #[.int .i64 v.k, .int .i64 v.i, .bool v.b, .string v.s] 57)).heap.size = w.heap.size + 1 + 1 by simp] at this
    rw [hu]; exact this
  have hb0 : Below w.heap.size w u := by rw [hu]; exact ((((Below.refl _ _).alloc (Nat.le_refl _) _).alloc (by simp) _).alloc (by simp; omega) _)
  have HF := Lib.hid hf
  have HS1 := Lib.hid hs1
  have HS2 := Lib.hid hs2
  have HB := Lib.hid hb0
  clear hf hs1 hs2 hb0
  go_enter Try.func31, Try.ntmps31
  go_upto_region 1 with fail
  rw [← hu]
  clear hu
  obtain ⟨d0, d1, d2⟩ := HF.out
  go_upto_region 3 with (go_at_call 71; refine (T0.out _).mono ?_; rintro e w0 ⟨rfl, hb0⟩; replace HF := Lib.hid (HF.out.below hb0); replace HS1 := Lib.hid (HS1.out.below hb0); replace HS2 := Lib.hid (HS2.out.below hb0); replace HB := Lib.hid (HB.out.trans (hb0.mono HB.out.size)); clear hb0 d0 d1 d2 T0)
  obtain ⟨⟨a0, a1, a2, a3⟩, _⟩ := HS1.out.at
  go_upto_region 4 with (go_at_call 46; refine (T1.out _).mono ?_; rintro e w1 ⟨rfl, hb1⟩; replace HF := Lib.hid (HF.out.below hb1); have hs1 := HS1.out.below hb1; obtain ⟨⟨b0, b1, b2, b3⟩, f0, f1, f2, f3⟩ := hs1.at; replace HS1 := Lib.hid hs1; replace HS2 := Lib.hid (HS2.out.below hb1); replace HB := Lib.hid (HB.out.trans (hb1.mono HB.out.size)); clear hb1 hs1 a0 a1 a2 a3)
  clear b0 b1 b2 b3 f0 f1 f2 f3 T1
  obtain ⟨w4, hw4, hS4, hB4⟩ := slot_ret HS1.out HB.out (Nat.le_succ w.heap.size) p
  have hF4 : FdAt w4 w.heap.size 0 f := by
    refine HF.out.block ?_
    rw [hw4]
    rw [Below.heap_setCell _ _ _ _ (by simp), Below.heap_setCell _ _ _ _ (by simp), Below.heap_setCell _ _ _ _ (by simp), Below.heap_setCell _ _ _ _ (by simp)]
  have hS24 : Slot w4 (w.heap.size + 1 + 1) ⟨0, 0, false, ⟨#[]⟩⟩ := by
    rw [hw4]
    exact (((HS2.out.other (by simp)).other (by simp)).other (by simp)).other (by simp)
  rw [← hw4]
  clear hw4 HF HS1 HS2 HB
  have HF := Lib.hid hF4
  have HS1 := Lib.hid hS4
  have HS2 := Lib.hid hS24
  have HB := Lib.hid hB4
  clear hF4 hS4 hS24 hB4
  obtain ⟨⟨a0, a1, a2, a3⟩, _⟩ := HS1.out.at
  have hf := HF.out
  obtain ⟨d0, d1, d2⟩ := hf
  obtain ⟨⟨z0, z1, z2, z3⟩, y0, y1, y2, y3⟩ := HS2.out.at
  rw [h0.out] at d1
  have hk0 : (p.k == 0) = false := by simpa using hk
  go_wp2
  change bodyPost _ _ _ _ _ (putV w4 (w.heap.size + 1 + 1) p)
  obtain ⟨w9, hw9, hS9, hB9⟩ := slot_ret HS2.out HB.out (by omega) p
  change w9 = putV w4 (w.heap.size + 1 + 1) p at hw9
  rw [← hw9]
  clear z0 z1 z2 z3
  obtain ⟨⟨z0, z1, z2, z3⟩, _⟩ := hS9.at
  refine bodyPost_ret (v := .tuple #[.agg #[.int .i64 (p : V).k, .int .i64 (p : V).i, .bool (p : V).b, .string (p : V).s], .int .i64 0]) (by simp [results, Try.results31, go_sem, z0, z1, z2, z3]) rfl ?_
  exact ⟨rfl, hB9⟩
set_option maxRecDepth 100000 in
set_option maxHeartbeats 1000000 in
theorem refap_bool (f : Fd) (v p : V) (hk : Hid (p.k = 2)) (h0 : Hid (f.tr = 2)) (w : World) (T0 : Hid (∀ u, Calls Try.prog 71 #[.agg #[.int .i64 f.src, .int .i64 f.tr, .int .i64 f.par]] u fun e w' => e = .returned (.bool true) ∧ Below u.heap.size u w')) (T1 : Hid (∀ u, Calls Try.prog 46 #[.agg #[.int .i64 v.k, .int .i64 v.i, .bool v.b, .string v.s]] u fun e w' => e = .returned (.agg #[.int .i64 p.k, .int .i64 p.i, .bool p.b, .string p.s]) ∧ Below u.heap.size u w')) :
    Calls Try.prog 31 #[.agg #[.int .i64 f.src, .int .i64 f.tr, .int .i64 f.par], .agg #[.int .i64 v.k, .int .i64 v.i, .bool v.b, .string v.s]] w fun e w' => e = .returned (.tuple #[.agg #[.int .i64 (zeroVal : V).k, .int .i64 (zeroVal : V).i, .bool (zeroVal : V).b, .string (zeroVal : V).s], .int .i64 1300]) ∧ Below w.heap.size w w' := by
  obtain ⟨u, hu⟩ : ∃ u, u = (((w.alloc (.cells #[.int .i64 f.src, .int .i64 f.tr, .int .i64 f.par] 55)).alloc (.cells #[.int .i64 v.k, .int .i64 v.i, .bool v.b, .string v.s] 57)).alloc (.cells #[.int .i64 0, .int .i64 0, .bool false, .string ⟨#[]⟩] 57)) := ⟨_, rfl⟩
  have hf : FdAt u w.heap.size 0 f := by
    have h1 := FdAt.new w f
    have h2 := h1.below (((Below.refl _ _).alloc (Nat.le_refl _) (.cells #[.int .i64 v.k, .int .i64 v.i, .bool v.b, .string v.s] 57)).alloc (by simp) (.cells #[.int .i64 0, .int .i64 0, .bool false, .string ⟨#[]⟩] 57))
    rw [hu]; exact h2
  have hs1 : Slot u (w.heap.size + 1) v := by
    have := (Slot.new (w.alloc (.cells #[.int .i64 f.src, .int .i64 f.tr, .int .i64 f.par] 55)) v).alloc (.cells #[.int .i64 0, .int .i64 0, .bool false, .string ⟨#[]⟩] 57)
    rw [show (w.alloc (.cells #[.int .i64 f.src, .int .i64 f.tr, .int .i64 f.par] 55)).heap.size = w.heap.size + 1 by simp] at this
    rw [hu]; exact this
  have hs2 : Slot u (w.heap.size + 1 + 1) ⟨0, 0, false, ⟨#[]⟩⟩ := by
    have := Slot.new ((w.alloc (.cells #[.int .i64 f.src, .int .i64 f.tr, .int .i64 f.par] 55)).alloc (.cells #[.int .i64 v.k, .int .i64 v.i, .bool v.b, .string v.s] 57)) ⟨0, 0, false, ⟨#[]⟩⟩
    rw [show ((w.alloc (.cells #[.int .i64 f.src, .int .i64 f.tr, .int .i64 f.par] 55)).alloc (.cells #[.int .i64 v.k, .int .i64 v.i, .bool v.b, .string v.s] 57)).heap.size = w.heap.size + 1 + 1 by simp] at this
    rw [hu]; exact this
  have hb0 : Below w.heap.size w u := by rw [hu]; exact ((((Below.refl _ _).alloc (Nat.le_refl _) _).alloc (by simp) _).alloc (by simp; omega) _)
  have HF := Lib.hid hf
  have HS1 := Lib.hid hs1
  have HS2 := Lib.hid hs2
  have HB := Lib.hid hb0
  clear hf hs1 hs2 hb0
  go_enter Try.func31, Try.ntmps31
  go_upto_region 1 with fail
  rw [← hu]
  clear hu
  obtain ⟨d0, d1, d2⟩ := HF.out
  go_upto_region 3 with (go_at_call 71; refine (T0.out _).mono ?_; rintro e w0 ⟨rfl, hb0⟩; replace HF := Lib.hid (HF.out.below hb0); replace HS1 := Lib.hid (HS1.out.below hb0); replace HS2 := Lib.hid (HS2.out.below hb0); replace HB := Lib.hid (HB.out.trans (hb0.mono HB.out.size)); clear hb0 d0 d1 d2 T0)
  obtain ⟨⟨a0, a1, a2, a3⟩, _⟩ := HS1.out.at
  go_upto_region 4 with (go_at_call 46; refine (T1.out _).mono ?_; rintro e w1 ⟨rfl, hb1⟩; replace HF := Lib.hid (HF.out.below hb1); have hs1 := HS1.out.below hb1; obtain ⟨⟨b0, b1, b2, b3⟩, f0, f1, f2, f3⟩ := hs1.at; replace HS1 := Lib.hid hs1; replace HS2 := Lib.hid (HS2.out.below hb1); replace HB := Lib.hid (HB.out.trans (hb1.mono HB.out.size)); clear hb1 hs1 a0 a1 a2 a3)
  clear b0 b1 b2 b3 f0 f1 f2 f3 T1
  obtain ⟨w4, hw4, hS4, hB4⟩ := slot_ret HS1.out HB.out (Nat.le_succ w.heap.size) p
  have hF4 : FdAt w4 w.heap.size 0 f := by
    refine HF.out.block ?_
    rw [hw4]
    rw [Below.heap_setCell _ _ _ _ (by simp), Below.heap_setCell _ _ _ _ (by simp), Below.heap_setCell _ _ _ _ (by simp), Below.heap_setCell _ _ _ _ (by simp)]
  have hS24 : Slot w4 (w.heap.size + 1 + 1) ⟨0, 0, false, ⟨#[]⟩⟩ := by
    rw [hw4]
    exact (((HS2.out.other (by simp)).other (by simp)).other (by simp)).other (by simp)
  rw [← hw4]
  clear hw4 HF HS1 HS2 HB
  have HF := Lib.hid hF4
  have HS1 := Lib.hid hS4
  have HS2 := Lib.hid hS24
  have HB := Lib.hid hB4
  clear hF4 hS4 hS24 hB4
  obtain ⟨⟨a0, a1, a2, a3⟩, _⟩ := HS1.out.at
  have hf := HF.out
  obtain ⟨d0, d1, d2⟩ := hf
  obtain ⟨⟨z0, z1, z2, z3⟩, y0, y1, y2, y3⟩ := HS2.out.at
  rw [h0.out] at d1
  rw [hk.out] at a0
  go_wp2
  change bodyPost _ _ _ _ _ (putV w4 (w.heap.size + 1 + 1) zeroVal)
  obtain ⟨w9, hw9, hS9, hB9⟩ := slot_ret HS2.out HB.out (by omega) zeroVal
  change w9 = putV w4 (w.heap.size + 1 + 1) zeroVal at hw9
  rw [← hw9]
  clear z0 z1 z2 z3
  obtain ⟨⟨z0, z1, z2, z3⟩, _⟩ := hS9.at
  refine bodyPost_ret (v := .tuple #[.agg #[.int .i64 (zeroVal : V).k, .int .i64 (zeroVal : V).i, .bool (zeroVal : V).b, .string (zeroVal : V).s], .int .i64 1300]) (by simp [results, Try.results31, go_sem, z0, z1, z2, z3]) rfl ?_
  exact ⟨rfl, hB9⟩
end Go.Proofs.Ythfakpekdjmpjaa

namespace Go.Proofs.Ythfakpekdjmpjaa
open Go.Conc Go.RowKit
set_option linter.unusedVariables false
set_option linter.unusedSimpArgs false

set_option maxRecDepth 100000 in
set_option maxHeartbeats 1000000 in
theorem refap_bucket (f : Fd) (v p : V) (B : ByteArray) (c q : Int) (hk : ¬ p.k = 0) (h0 : Hid (f.tr = 1)) (hq : ¬ f.par = 0) (hc : c.tmod f.par = q) (T3 : Hid (∀ u, Calls Try.prog 73 #[.agg #[.int .i64 p.k, .int .i64 p.i, .bool p.b, .string p.s]] u fun e w' => e = .returned (.string B) ∧ Below u.heap.size u w')) (T4 : Hid (∀ u, Calls Try.prog 72 #[.string B] u fun e w' => e = .returned (.int .i64 c) ∧ u = w'))  (w : World) (T0 : Hid (∀ u, Calls Try.prog 71 #[.agg #[.int .i64 f.src, .int .i64 f.tr, .int .i64 f.par]] u fun e w' => e = .returned (.bool true) ∧ Below u.heap.size u w')) (T1 : Hid (∀ u, Calls Try.prog 46 #[.agg #[.int .i64 v.k, .int .i64 v.i, .bool v.b, .string v.s]] u fun e w' => e = .returned (.agg #[.int .i64 p.k, .int .i64 p.i, .bool p.b, .string p.s]) ∧ Below u.heap.size u w')) :
    Calls Try.prog 31 #[.agg #[.int .i64 f.src, .int .i64 f.tr, .int .i64 f.par], .agg #[.int .i64 v.k, .int .i64 v.i, .bool v.b, .string v.s]] w fun e w' => e = .returned (.tuple #[.agg #[.int .i64 (⟨1, q, false, ByteArray.empty⟩ : V).k, .int .i64 (⟨1, q, false, ByteArray.empty⟩ : V).i, .bool (⟨1, q, false, ByteArray.empty⟩ : V).b, .string (⟨1, q, false, ByteArray.empty⟩ : V).s], .int .i64 0]) ∧ Below w.heap.size w w' := by
  obtain ⟨u, hu⟩ : ∃ u, u = (((w.alloc (.cells #[.int .i64 f.src, .int .i64 f.tr, .int .i64 f.par] 55)).alloc (.cells #[.int .i64 v.k, .int .i64 v.i, .bool v.b, .string v.s] 57)).alloc (.cells #[.int .i64 0, .int .i64 0, .bool false, .string ⟨#[]⟩] 57)) := ⟨_, rfl⟩
  have hf : FdAt u w.heap.size 0 f := by
    have h1 := FdAt.new w f
    have h2 := h1.below (((Below.refl _ _).alloc (Nat.le_refl _) (.cells #[.int .i64 v.k, .int .i64 v.i, .bool v.b, .string v.s] 57)).alloc (by simp) (.cells #[.int .i64 0, .int .i64 0, .bool false, .string ⟨#[]⟩] 57))
    rw [hu]; exact h2
  have hs1 : Slot u (w.heap.size + 1) v := by
    have := (Slot.new (w.alloc (.cells #[.int .i64 f.src, .int .i64 f.tr, .int .i64 f.par] 55)) v).alloc (.cells #[.int .i64 0, .int .i64 0, .bool false, .string ⟨#[]⟩] 57)
    rw [show (w.alloc (.cells #[.int .i64 f.src, .int .i64 f.tr, .int .i64 f.par] 55)).heap.size = w.heap.size + 1 by simp] at this
    rw [hu]; exact this
  have hs2 : Slot u (w.heap.size + 1 + 1) ⟨0, 0, false, ⟨#[]⟩⟩ := by
    have := Slot.new ((w.alloc (.cells #[.int .i64 f.src, .int .i64 f.tr, .int .i64 f.par] 55)).alloc (.cells #[.int .i64 v.k, .int .i64 v.i, .bool v.b, .string v.s] 57)) ⟨0, 0, false, ⟨#[]⟩⟩
    rw [show ((w.alloc (.cells #[.int .i64 f.src, .int .i64 f.tr, .int .i64 f.par] 55)).alloc (.cells #[.int .i64 v.k, .int .i64 v.i, .bool v.b, .string v.s] 57)).heap.size = w.heap.size + 1 + 1 by simp] at this
    rw [hu]; exact this
  have hb0 : Below w.heap.size w u := by rw [hu]; exact ((((Below.refl _ _).alloc (Nat.le_refl _) _).alloc (by simp) _).alloc (by simp; omega) _)
  have HF := Lib.hid hf
  have HS1 := Lib.hid hs1
  have HS2 := Lib.hid hs2
  have HB := Lib.hid hb0
  clear hf hs1 hs2 hb0
  go_enter Try.func31, Try.ntmps31
  go_upto_region 1 with fail
  rw [← hu]
  clear hu
  obtain ⟨d0, d1, d2⟩ := HF.out
  go_upto_region 3 with (go_at_call 71; refine (T0.out _).mono ?_; rintro e w0 ⟨rfl, hb0⟩; replace HF := Lib.hid (HF.out.below hb0); replace HS1 := Lib.hid (HS1.out.below hb0); replace HS2 := Lib.hid (HS2.out.below hb0); replace HB := Lib.hid (HB.out.trans (hb0.mono HB.out.size)); clear hb0 d0 d1 d2 T0)
  obtain ⟨⟨a0, a1, a2, a3⟩, _⟩ := HS1.out.at
  go_upto_region 4 with (go_at_call 46; refine (T1.out _).mono ?_; rintro e w1 ⟨rfl, hb1⟩; replace HF := Lib.hid (HF.out.below hb1); have hs1 := HS1.out.below hb1; obtain ⟨⟨b0, b1, b2, b3⟩, f0, f1, f2, f3⟩ := hs1.at; replace HS1 := Lib.hid hs1; replace HS2 := Lib.hid (HS2.out.below hb1); replace HB := Lib.hid (HB.out.trans (hb1.mono HB.out.size)); clear hb1 hs1 a0 a1 a2 a3)
  clear b0 b1 b2 b3 f0 f1 f2 f3 T1
  obtain ⟨w4, hw4, hS4, hB4⟩ := slot_ret HS1.out HB.out (Nat.le_succ w.heap.size) p
  have hF4 : FdAt w4 w.heap.size 0 f := by
    refine HF.out.block ?_
    rw [hw4]
    rw [Below.heap_setCell _ _ _ _ (by simp), Below.heap_setCell _ _ _ _ (by simp), Below.heap_setCell _ _ _ _ (by simp), Below.heap_setCell _ _ _ _ (by simp)]
  have hS24 : Slot w4 (w.heap.size + 1 + 1) ⟨0, 0, false, ⟨#[]⟩⟩ := by
    rw [hw4]
    exact (((HS2.out.other (by simp)).other (by simp)).other (by simp)).other (by simp)
  rw [← hw4]
  clear hw4 HF HS1 HS2 HB
  have HF := Lib.hid hF4
  have HS1 := Lib.hid hS4
  have HS2 := Lib.hid hS24
  have HB := Lib.hid hB4
  clear hF4 hS4 hS24 hB4
  obtain ⟨⟨a0, a1, a2, a3⟩, _⟩ := HS1.out.at
  have hf := HF.out
  obtain ⟨d0, d1, d2⟩ := hf
  obtain ⟨⟨z0, z1, z2, z3⟩, y0, y1, y2, y3⟩ := HS2.out.at
  rw [h0.out] at d1
  have hk0 : (p.k == 0) = false := by simpa using hk
  go_upto_region 9 with fail
  clear z0 z1 z2 z3 y0 y1 y2 y3
  refine region_class_tail (fun w' => Below w4.heap.size w4 w') 7 (by kernel_rfl) (by kernel_rfl) (Below.refl _ _).drew ?_
  simp only [List.take_succ_cons, List.take_zero, List.drop_succ_cons, List.drop_zero]
  repeat (
    refine wpQuiet_step (fun K hK => ?_)
    go_simp
    first
    | (refine hK _ ?_; clear hK K)
    | (apply Exists.intro
       refine ⟨fun w1 hw1 => ?_, hK _ ?_⟩
       (first
         | (exact rfl)
         | (go_at_call 73; exact (T3.out _).mono fun e w2 ⟨he, hb⟩ => ⟨he, hw1.trans (hb.mono hw1.size)⟩)
         | (go_at_call 72; exact (T4.out _).mono fun e w2 ⟨he, hb⟩ => ⟨he, hb ▸ hw1⟩)
         | (obtain ⟨⟨z0, z1, z2, z3⟩, _⟩ := (HS1.out.below hw1).at; simp only [z0, z1, z2, z3, Result.andThen]; exact ⟨trivial, rfl⟩)
         | (obtain ⟨z0, z1, z2⟩ := (HF.out.below hw1); simp only [z0, z1, z2, Nat.zero_add, Result.andThen]; exact ⟨trivial, rfl⟩)
         | (exact ⟨trivial, rfl⟩))
       clear hK K))
  refine wpQuiet_nil ?_
  intro w3 hw3
  clear HF HS1 T3 T4
  replace HS2 := Lib.hid (HS2.out.below hw3)
  replace HB := Lib.hid (HB.out.trans (hw3.mono HB.out.size))
  obtain ⟨⟨z0, z1, z2, z3⟩, y0, y1, y2, y3⟩ := HS2.out.at
  clear hw3
  go_wp2
  change bodyPost _ _ _ _ _ (putV w3 (w.heap.size + 1 + 1) ⟨1, q, false, ByteArray.empty⟩)
  obtain ⟨w9, hw9, hS9, hB9⟩ := slot_ret HS2.out HB.out (by omega) ⟨1, q, false, ByteArray.empty⟩
  change w9 = putV w3 (w.heap.size + 1 + 1) ⟨1, q, false, ByteArray.empty⟩ at hw9
  rw [← hw9]
  clear z0 z1 z2 z3
  obtain ⟨⟨z0, z1, z2, z3⟩, _⟩ := hS9.at
  refine bodyPost_ret (v := .tuple #[.agg #[.int .i64 (⟨1, q, false, ByteArray.empty⟩ : V).k, .int .i64 (⟨1, q, false, ByteArray.empty⟩ : V).i, .bool (⟨1, q, false, ByteArray.empty⟩ : V).b, .string (⟨1, q, false, ByteArray.empty⟩ : V).s], .int .i64 0]) (by simp [results, Try.results31, go_sem, z0, z1, z2, z3]) rfl ?_
  exact ⟨rfl, hB9⟩
set_option maxRecDepth 100000 in
set_option maxHeartbeats 1000000 in
theorem refap_text (f : Fd) (v p : V) (B : ByteArray) (hk : Hid (p.k = 3)) (h0 : Hid (f.tr = 2)) (T3 : Hid (∀ u, Calls Try.prog 74 #[.string p.s, .int .i64 f.par] u fun e w' => e = .returned (.string B) ∧ u = w'))  (w : World) (T0 : Hid (∀ u, Calls Try.prog 71 #[.agg #[.int .i64 f.src, .int .i64 f.tr, .int .i64 f.par]] u fun e w' => e = .returned (.bool true) ∧ Below u.heap.size u w')) (T1 : Hid (∀ u, Calls Try.prog 46 #[.agg #[.int .i64 v.k, .int .i64 v.i, .bool v.b, .string v.s]] u fun e w' => e = .returned (.agg #[.int .i64 p.k, .int .i64 p.i, .bool p.b, .string p.s]) ∧ Below u.heap.size u w')) :
    Calls Try.prog 31 #[.agg #[.int .i64 f.src, .int .i64 f.tr, .int .i64 f.par], .agg #[.int .i64 v.k, .int .i64 v.i, .bool v.b, .string v.s]] w fun e w' => e = .returned (.tuple #[.agg #[.int .i64 (⟨3, 0, false, B⟩ : V).k, .int .i64 (⟨3, 0, false, B⟩ : V).i, .bool (⟨3, 0, false, B⟩ : V).b, .string (⟨3, 0, false, B⟩ : V).s], .int .i64 0]) ∧ Below w.heap.size w w' := by
  obtain ⟨u, hu⟩ : ∃ u, u = (((w.alloc (.cells #[.int .i64 f.src, .int .i64 f.tr, .int .i64 f.par] 55)).alloc (.cells #[.int .i64 v.k, .int .i64 v.i, .bool v.b, .string v.s] 57)).alloc (.cells #[.int .i64 0, .int .i64 0, .bool false, .string ⟨#[]⟩] 57)) := ⟨_, rfl⟩
  have hf : FdAt u w.heap.size 0 f := by
    have h1 := FdAt.new w f
    have h2 := h1.below (((Below.refl _ _).alloc (Nat.le_refl _) (.cells #[.int .i64 v.k, .int .i64 v.i, .bool v.b, .string v.s] 57)).alloc (by simp) (.cells #[.int .i64 0, .int .i64 0, .bool false, .string ⟨#[]⟩] 57))
    rw [hu]; exact h2
  have hs1 : Slot u (w.heap.size + 1) v := by
    have := (Slot.new (w.alloc (.cells #[.int .i64 f.src, .int .i64 f.tr, .int .i64 f.par] 55)) v).alloc (.cells #[.int .i64 0, .int .i64 0, .bool false, .string ⟨#[]⟩] 57)
    rw [show (w.alloc (.cells #[.int .i64 f.src, .int .i64 f.tr, .int .i64 f.par] 55)).heap.size = w.heap.size + 1 by simp] at this
    rw [hu]; exact this
  have hs2 : Slot u (w.heap.size + 1 + 1) ⟨0, 0, false, ⟨#[]⟩⟩ := by
    have := Slot.new ((w.alloc (.cells #[.int .i64 f.src, .int .i64 f.tr, .int .i64 f.par] 55)).alloc (.cells #[.int .i64 v.k, .int .i64 v.i, .bool v.b, .string v.s] 57)) ⟨0, 0, false, ⟨#[]⟩⟩
    rw [show ((w.alloc (.cells #[.int .i64 f.src, .int .i64 f.tr, .int .i64 f.par] 55)).alloc (.cells #[.int .i64 v.k, .int .i64 v.i, .bool v.b, .string v.s] 57)).heap.size = w.heap.size + 1 + 1 by simp] at this
    rw [hu]; exact this
  have hb0 : Below w.heap.size w u := by rw [hu]; exact ((((Below.refl _ _).alloc (Nat.le_refl _) _).alloc (by simp) _).alloc (by simp; omega) _)
  have HF := Lib.hid hf
  have HS1 := Lib.hid hs1
  have HS2 := Lib.hid hs2
  have HB := Lib.hid hb0
  clear hf hs1 hs2 hb0
  go_enter Try.func31, Try.ntmps31
  go_upto_region 1 with fail
  rw [← hu]
  clear hu
  obtain ⟨d0, d1, d2⟩ := HF.out
  go_upto_region 3 with (go_at_call 71; refine (T0.out _).mono ?_; rintro e w0 ⟨rfl, hb0⟩; replace HF := Lib.hid (HF.out.below hb0); replace HS1 := Lib.hid (HS1.out.below hb0); replace HS2 := Lib.hid (HS2.out.below hb0); replace HB := Lib.hid (HB.out.trans (hb0.mono HB.out.size)); clear hb0 d0 d1 d2 T0)
  obtain ⟨⟨a0, a1, a2, a3⟩, _⟩ := HS1.out.at
  go_upto_region 4 with (go_at_call 46; refine (T1.out _).mono ?_; rintro e w1 ⟨rfl, hb1⟩; replace HF := Lib.hid (HF.out.below hb1); have hs1 := HS1.out.below hb1; obtain ⟨⟨b0, b1, b2, b3⟩, f0, f1, f2, f3⟩ := hs1.at; replace HS1 := Lib.hid hs1; replace HS2 := Lib.hid (HS2.out.below hb1); replace HB := Lib.hid (HB.out.trans (hb1.mono HB.out.size)); clear hb1 hs1 a0 a1 a2 a3)
  clear b0 b1 b2 b3 f0 f1 f2 f3 T1
  obtain ⟨w4, hw4, hS4, hB4⟩ := slot_ret HS1.out HB.out (Nat.le_succ w.heap.size) p
  have hF4 : FdAt w4 w.heap.size 0 f := by
    refine HF.out.block ?_
    rw [hw4]
    rw [Below.heap_setCell _ _ _ _ (by simp), Below.heap_setCell _ _ _ _ (by simp), Below.heap_setCell _ _ _ _ (by simp), Below.heap_setCell _ _ _ _ (by simp)]
  have hS24 : Slot w4 (w.heap.size + 1 + 1) ⟨0, 0, false, ⟨#[]⟩⟩ := by
    rw [hw4]
    exact (((HS2.out.other (by simp)).other (by simp)).other (by simp)).other (by simp)
  rw [← hw4]
  clear hw4 HF HS1 HS2 HB
  have HF := Lib.hid hF4
  have HS1 := Lib.hid hS4
  have HS2 := Lib.hid hS24
  have HB := Lib.hid hB4
  clear hF4 hS4 hS24 hB4
  obtain ⟨⟨a0, a1, a2, a3⟩, _⟩ := HS1.out.at
  have hf := HF.out
  obtain ⟨d0, d1, d2⟩ := hf
  obtain ⟨⟨z0, z1, z2, z3⟩, y0, y1, y2, y3⟩ := HS2.out.at
  rw [h0.out] at d1
  rw [hk.out] at a0
  go_wp2_with (go_at_call 74; refine (T3.out _).mono ?_; rintro e w3 ⟨rfl, rfl⟩)
  change bodyPost _ _ _ _ _ (putV w4 (w.heap.size + 1 + 1) ⟨3, 0, false, B⟩)
  obtain ⟨w9, hw9, hS9, hB9⟩ := slot_ret HS2.out HB.out (by omega) ⟨3, 0, false, B⟩
  change w9 = putV w4 (w.heap.size + 1 + 1) ⟨3, 0, false, B⟩ at hw9
  rw [← hw9]
  clear z0 z1 z2 z3
  obtain ⟨⟨z0, z1, z2, z3⟩, _⟩ := hS9.at
  refine bodyPost_ret (v := .tuple #[.agg #[.int .i64 (⟨3, 0, false, B⟩ : V).k, .int .i64 (⟨3, 0, false, B⟩ : V).i, .bool (⟨3, 0, false, B⟩ : V).b, .string (⟨3, 0, false, B⟩ : V).s], .int .i64 0]) (by simp [results, Try.results31, go_sem, z0, z1, z2, z3]) rfl ?_
  exact ⟨rfl, hB9⟩
set_option maxRecDepth 100000 in
set_option maxHeartbeats 1000000 in
theorem refap_neg_low (f : Fd) (v p : V) (r q m y : Int) (hk : Hid (p.k = 1)) (h0 : Hid (f.tr = 2)) (hz : ¬ f.par = 0) (hr : p.i.tmod f.par = r) (hn : decide (r < 0) = true) (hq : IntKind.i64.wrap (r + f.par) = q) (hm : IntKind.i64.wrap (-9223372036854775808 + q) = m) (hb : decide (p.i < m) = true)  (w : World) (T0 : Hid (∀ u, Calls Try.prog 71 #[.agg #[.int .i64 f.src, .int .i64 f.tr, .int .i64 f.par]] u fun e w' => e = .returned (.bool true) ∧ Below u.heap.size u w')) (T1 : Hid (∀ u, Calls Try.prog 46 #[.agg #[.int .i64 v.k, .int .i64 v.i, .bool v.b, .string v.s]] u fun e w' => e = .returned (.agg #[.int .i64 p.k, .int .i64 p.i, .bool p.b, .string p.s]) ∧ Below u.heap.size u w')) :
    Calls Try.prog 31 #[.agg #[.int .i64 f.src, .int .i64 f.tr, .int .i64 f.par], .agg #[.int .i64 v.k, .int .i64 v.i, .bool v.b, .string v.s]] w fun e w' => e = .returned (.tuple #[.agg #[.int .i64 (⟨1, -9223372036854775808, false, ByteArray.empty⟩ : V).k, .int .i64 (⟨1, -9223372036854775808, false, ByteArray.empty⟩ : V).i, .bool (⟨1, -9223372036854775808, false, ByteArray.empty⟩ : V).b, .string (⟨1, -9223372036854775808, false, ByteArray.empty⟩ : V).s], .int .i64 0]) ∧ Below w.heap.size w w' := by
  obtain ⟨u, hu⟩ : ∃ u, u = (((w.alloc (.cells #[.int .i64 f.src, .int .i64 f.tr, .int .i64 f.par] 55)).alloc (.cells #[.int .i64 v.k, .int .i64 v.i, .bool v.b, .string v.s] 57)).alloc (.cells #[.int .i64 0, .int .i64 0, .bool false, .string ⟨#[]⟩] 57)) := ⟨_, rfl⟩
  have hf : FdAt u w.heap.size 0 f := by
    have h1 := FdAt.new w f
    have h2 := h1.below (((Below.refl _ _).alloc (Nat.le_refl _) (.cells #[.int .i64 v.k, .int .i64 v.i, .bool v.b, .string v.s] 57)).alloc (by simp) (.cells #[.int .i64 0, .int .i64 0, .bool false, .string ⟨#[]⟩] 57))
    rw [hu]; exact h2
  have hs1 : Slot u (w.heap.size + 1) v := by
    have := (Slot.new (w.alloc (.cells #[.int .i64 f.src, .int .i64 f.tr, .int .i64 f.par] 55)) v).alloc (.cells #[.int .i64 0, .int .i64 0, .bool false, .string ⟨#[]⟩] 57)
    rw [show (w.alloc (.cells #[.int .i64 f.src, .int .i64 f.tr, .int .i64 f.par] 55)).heap.size = w.heap.size + 1 by simp] at this
    rw [hu]; exact this
  have hs2 : Slot u (w.heap.size + 1 + 1) ⟨0, 0, false, ⟨#[]⟩⟩ := by
    have := Slot.new ((w.alloc (.cells #[.int .i64 f.src, .int .i64 f.tr, .int .i64 f.par] 55)).alloc (.cells #[.int .i64 v.k, .int .i64 v.i, .bool v.b, .string v.s] 57)) ⟨0, 0, false, ⟨#[]⟩⟩
    rw [show ((w.alloc (.cells #[.int .i64 f.src, .int .i64 f.tr, .int .i64 f.par] 55)).alloc (.cells #[.int .i64 v.k, .int .i64 v.i, .bool v.b, .string v.s] 57)).heap.size = w.heap.size + 1 + 1 by simp] at this
    rw [hu]; exact this
  have hb0 : Below w.heap.size w u := by rw [hu]; exact ((((Below.refl _ _).alloc (Nat.le_refl _) _).alloc (by simp) _).alloc (by simp; omega) _)
  have HF := Lib.hid hf
  have HS1 := Lib.hid hs1
  have HS2 := Lib.hid hs2
  have HB := Lib.hid hb0
  clear hf hs1 hs2 hb0
  go_enter Try.func31, Try.ntmps31
  go_upto_region 1 with fail
  rw [← hu]
  clear hu
  obtain ⟨d0, d1, d2⟩ := HF.out
  go_upto_region 3 with (go_at_call 71; refine (T0.out _).mono ?_; rintro e w0 ⟨rfl, hb0⟩; replace HF := Lib.hid (HF.out.below hb0); replace HS1 := Lib.hid (HS1.out.below hb0); replace HS2 := Lib.hid (HS2.out.below hb0); replace HB := Lib.hid (HB.out.trans (hb0.mono HB.out.size)); clear hb0 d0 d1 d2 T0)
  obtain ⟨⟨a0, a1, a2, a3⟩, _⟩ := HS1.out.at
  go_upto_region 4 with (go_at_call 46; refine (T1.out _).mono ?_; rintro e w1 ⟨rfl, hb1⟩; replace HF := Lib.hid (HF.out.below hb1); have hs1 := HS1.out.below hb1; obtain ⟨⟨b0, b1, b2, b3⟩, f0, f1, f2, f3⟩ := hs1.at; replace HS1 := Lib.hid hs1; replace HS2 := Lib.hid (HS2.out.below hb1); replace HB := Lib.hid (HB.out.trans (hb1.mono HB.out.size)); clear hb1 hs1 a0 a1 a2 a3)
  clear b0 b1 b2 b3 f0 f1 f2 f3 T1
  obtain ⟨w4, hw4, hS4, hB4⟩ := slot_ret HS1.out HB.out (Nat.le_succ w.heap.size) p
  have hF4 : FdAt w4 w.heap.size 0 f := by
    refine HF.out.block ?_
    rw [hw4]
    rw [Below.heap_setCell _ _ _ _ (by simp), Below.heap_setCell _ _ _ _ (by simp), Below.heap_setCell _ _ _ _ (by simp), Below.heap_setCell _ _ _ _ (by simp)]
  have hS24 : Slot w4 (w.heap.size + 1 + 1) ⟨0, 0, false, ⟨#[]⟩⟩ := by
    rw [hw4]
    exact (((HS2.out.other (by simp)).other (by simp)).other (by simp)).other (by simp)
  rw [← hw4]
  clear hw4 HF HS1 HS2 HB
  have HF := Lib.hid hF4
  have HS1 := Lib.hid hS4
  have HS2 := Lib.hid hS24
  have HB := Lib.hid hB4
  clear hF4 hS4 hS24 hB4
  obtain ⟨⟨a0, a1, a2, a3⟩, _⟩ := HS1.out.at
  have hf := HF.out
  obtain ⟨d0, d1, d2⟩ := hf
  obtain ⟨⟨z0, z1, z2, z3⟩, y0, y1, y2, y3⟩ := HS2.out.at
  rw [h0.out] at d1
  rw [hk.out] at a0
  go_wp2
  change bodyPost _ _ _ _ _ (putV w4 (w.heap.size + 1 + 1) ⟨1, -9223372036854775808, false, ByteArray.empty⟩)
  obtain ⟨w9, hw9, hS9, hB9⟩ := slot_ret HS2.out HB.out (by omega) ⟨1, -9223372036854775808, false, ByteArray.empty⟩
  change w9 = putV w4 (w.heap.size + 1 + 1) ⟨1, -9223372036854775808, false, ByteArray.empty⟩ at hw9
  rw [← hw9]
  clear z0 z1 z2 z3
  obtain ⟨⟨z0, z1, z2, z3⟩, _⟩ := hS9.at
  refine bodyPost_ret (v := .tuple #[.agg #[.int .i64 (⟨1, -9223372036854775808, false, ByteArray.empty⟩ : V).k, .int .i64 (⟨1, -9223372036854775808, false, ByteArray.empty⟩ : V).i, .bool (⟨1, -9223372036854775808, false, ByteArray.empty⟩ : V).b, .string (⟨1, -9223372036854775808, false, ByteArray.empty⟩ : V).s], .int .i64 0]) (by simp [results, Try.results31, go_sem, z0, z1, z2, z3]) rfl ?_
  exact ⟨rfl, hB9⟩
set_option maxRecDepth 100000 in
set_option maxHeartbeats 1000000 in
theorem refap_neg_up (f : Fd) (v p : V) (r q m y : Int) (hk : Hid (p.k = 1)) (h0 : Hid (f.tr = 2)) (hz : ¬ f.par = 0) (hr : p.i.tmod f.par = r) (hn : decide (r < 0) = true) (hq : IntKind.i64.wrap (r + f.par) = q) (hm : IntKind.i64.wrap (-9223372036854775808 + q) = m) (hb : decide (p.i < m) = false) (hy : IntKind.i64.wrap (p.i - q) = y)  (w : World) (T0 : Hid (∀ u, Calls Try.prog 71 #[.agg #[.int .i64 f.src, .int .i64 f.tr, .int .i64 f.par]] u fun e w' => e = .returned (.bool true) ∧ Below u.heap.size u w')) (T1 : Hid (∀ u, Calls Try.prog 46 #[.agg #[.int .i64 v.k, .int .i64 v.i, .bool v.b, .string v.s]] u fun e w' => e = .returned (.agg #[.int .i64 p.k, .int .i64 p.i, .bool p.b, .string p.s]) ∧ Below u.heap.size u w')) :
    Calls Try.prog 31 #[.agg #[.int .i64 f.src, .int .i64 f.tr, .int .i64 f.par], .agg #[.int .i64 v.k, .int .i64 v.i, .bool v.b, .string v.s]] w fun e w' => e = .returned (.tuple #[.agg #[.int .i64 (⟨1, y, false, ByteArray.empty⟩ : V).k, .int .i64 (⟨1, y, false, ByteArray.empty⟩ : V).i, .bool (⟨1, y, false, ByteArray.empty⟩ : V).b, .string (⟨1, y, false, ByteArray.empty⟩ : V).s], .int .i64 0]) ∧ Below w.heap.size w w' := by
  obtain ⟨u, hu⟩ : ∃ u, u = (((w.alloc (.cells #[.int .i64 f.src, .int .i64 f.tr, .int .i64 f.par] 55)).alloc (.cells #[.int .i64 v.k, .int .i64 v.i, .bool v.b, .string v.s] 57)).alloc (.cells #[.int .i64 0, .int .i64 0, .bool false, .string ⟨#[]⟩] 57)) := ⟨_, rfl⟩
  have hf : FdAt u w.heap.size 0 f := by
    have h1 := FdAt.new w f
    have h2 := h1.below (((Below.refl _ _).alloc (Nat.le_refl _) (.cells #[.int .i64 v.k, .int .i64 v.i, .bool v.b, .string v.s] 57)).alloc (by simp) (.cells #[.int .i64 0, .int .i64 0, .bool false, .string ⟨#[]⟩] 57))
    rw [hu]; exact h2
  have hs1 : Slot u (w.heap.size + 1) v := by
    have := (Slot.new (w.alloc (.cells #[.int .i64 f.src, .int .i64 f.tr, .int .i64 f.par] 55)) v).alloc (.cells #[.int .i64 0, .int .i64 0, .bool false, .string ⟨#[]⟩] 57)
    rw [show (w.alloc (.cells #[.int .i64 f.src, .int .i64 f.tr, .int .i64 f.par] 55)).heap.size = w.heap.size + 1 by simp] at this
    rw [hu]; exact this
  have hs2 : Slot u (w.heap.size + 1 + 1) ⟨0, 0, false, ⟨#[]⟩⟩ := by
    have := Slot.new ((w.alloc (.cells #[.int .i64 f.src, .int .i64 f.tr, .int .i64 f.par] 55)).alloc (.cells #[.int .i64 v.k, .int .i64 v.i, .bool v.b, .string v.s] 57)) ⟨0, 0, false, ⟨#[]⟩⟩
    rw [show ((w.alloc (.cells #[.int .i64 f.src, .int .i64 f.tr, .int .i64 f.par] 55)).alloc (.cells #[.int .i64 v.k, .int .i64 v.i, .bool v.b, .string v.s] 57)).heap.size = w.heap.size + 1 + 1 by simp] at this
    rw [hu]; exact this
  have hb0 : Below w.heap.size w u := by rw [hu]; exact ((((Below.refl _ _).alloc (Nat.le_refl _) _).alloc (by simp) _).alloc (by simp; omega) _)
  have HF := Lib.hid hf
  have HS1 := Lib.hid hs1
  have HS2 := Lib.hid hs2
  have HB := Lib.hid hb0
  clear hf hs1 hs2 hb0
  go_enter Try.func31, Try.ntmps31
  go_upto_region 1 with fail
  rw [← hu]
  clear hu
  obtain ⟨d0, d1, d2⟩ := HF.out
  go_upto_region 3 with (go_at_call 71; refine (T0.out _).mono ?_; rintro e w0 ⟨rfl, hb0⟩; replace HF := Lib.hid (HF.out.below hb0); replace HS1 := Lib.hid (HS1.out.below hb0); replace HS2 := Lib.hid (HS2.out.below hb0); replace HB := Lib.hid (HB.out.trans (hb0.mono HB.out.size)); clear hb0 d0 d1 d2 T0)
  obtain ⟨⟨a0, a1, a2, a3⟩, _⟩ := HS1.out.at
  go_upto_region 4 with (go_at_call 46; refine (T1.out _).mono ?_; rintro e w1 ⟨rfl, hb1⟩; replace HF := Lib.hid (HF.out.below hb1); have hs1 := HS1.out.below hb1; obtain ⟨⟨b0, b1, b2, b3⟩, f0, f1, f2, f3⟩ := hs1.at; replace HS1 := Lib.hid hs1; replace HS2 := Lib.hid (HS2.out.below hb1); replace HB := Lib.hid (HB.out.trans (hb1.mono HB.out.size)); clear hb1 hs1 a0 a1 a2 a3)
  clear b0 b1 b2 b3 f0 f1 f2 f3 T1
  obtain ⟨w4, hw4, hS4, hB4⟩ := slot_ret HS1.out HB.out (Nat.le_succ w.heap.size) p
  have hF4 : FdAt w4 w.heap.size 0 f := by
    refine HF.out.block ?_
    rw [hw4]
    rw [Below.heap_setCell _ _ _ _ (by simp), Below.heap_setCell _ _ _ _ (by simp), Below.heap_setCell _ _ _ _ (by simp), Below.heap_setCell _ _ _ _ (by simp)]
  have hS24 : Slot w4 (w.heap.size + 1 + 1) ⟨0, 0, false, ⟨#[]⟩⟩ := by
    rw [hw4]
    exact (((HS2.out.other (by simp)).other (by simp)).other (by simp)).other (by simp)
  rw [← hw4]
  clear hw4 HF HS1 HS2 HB
  have HF := Lib.hid hF4
  have HS1 := Lib.hid hS4
  have HS2 := Lib.hid hS24
  have HB := Lib.hid hB4
  clear hF4 hS4 hS24 hB4
  obtain ⟨⟨a0, a1, a2, a3⟩, _⟩ := HS1.out.at
  have hf := HF.out
  obtain ⟨d0, d1, d2⟩ := hf
  obtain ⟨⟨z0, z1, z2, z3⟩, y0, y1, y2, y3⟩ := HS2.out.at
  rw [h0.out] at d1
  rw [hk.out] at a0
  go_wp2
  change bodyPost _ _ _ _ _ (putV w4 (w.heap.size + 1 + 1) ⟨1, y, false, ByteArray.empty⟩)
  obtain ⟨w9, hw9, hS9, hB9⟩ := slot_ret HS2.out HB.out (by omega) ⟨1, y, false, ByteArray.empty⟩
  change w9 = putV w4 (w.heap.size + 1 + 1) ⟨1, y, false, ByteArray.empty⟩ at hw9
  rw [← hw9]
  clear z0 z1 z2 z3
  obtain ⟨⟨z0, z1, z2, z3⟩, _⟩ := hS9.at
  refine bodyPost_ret (v := .tuple #[.agg #[.int .i64 (⟨1, y, false, ByteArray.empty⟩ : V).k, .int .i64 (⟨1, y, false, ByteArray.empty⟩ : V).i, .bool (⟨1, y, false, ByteArray.empty⟩ : V).b, .string (⟨1, y, false, ByteArray.empty⟩ : V).s], .int .i64 0]) (by simp [results, Try.results31, go_sem, z0, z1, z2, z3]) rfl ?_
  exact ⟨rfl, hB9⟩
set_option maxRecDepth 100000 in
set_option maxHeartbeats 1000000 in
theorem refap_pos_low (f : Fd) (v p : V) (r q m y : Int) (hk : Hid (p.k = 1)) (h0 : Hid (f.tr = 2)) (hz : ¬ f.par = 0) (hr : p.i.tmod f.par = r) (hn : decide (r < 0) = false) (hq : r = q) (hm : IntKind.i64.wrap (-9223372036854775808 + q) = m) (hb : decide (p.i < m) = true)  (w : World) (T0 : Hid (∀ u, Calls Try.prog 71 #[.agg #[.int .i64 f.src, .int .i64 f.tr, .int .i64 f.par]] u fun e w' => e = .returned (.bool true) ∧ Below u.heap.size u w')) (T1 : Hid (∀ u, Calls Try.prog 46 #[.agg #[.int .i64 v.k, .int .i64 v.i, .bool v.b, .string v.s]] u fun e w' => e = .returned (.agg #[.int .i64 p.k, .int .i64 p.i, .bool p.b, .string p.s]) ∧ Below u.heap.size u w')) :
    Calls Try.prog 31 #[.agg #[.int .i64 f.src, .int .i64 f.tr, .int .i64 f.par], .agg #[.int .i64 v.k, .int .i64 v.i, .bool v.b, .string v.s]] w fun e w' => e = .returned (.tuple #[.agg #[.int .i64 (⟨1, -9223372036854775808, false, ByteArray.empty⟩ : V).k, .int .i64 (⟨1, -9223372036854775808, false, ByteArray.empty⟩ : V).i, .bool (⟨1, -9223372036854775808, false, ByteArray.empty⟩ : V).b, .string (⟨1, -9223372036854775808, false, ByteArray.empty⟩ : V).s], .int .i64 0]) ∧ Below w.heap.size w w' := by
  obtain ⟨u, hu⟩ : ∃ u, u = (((w.alloc (.cells #[.int .i64 f.src, .int .i64 f.tr, .int .i64 f.par] 55)).alloc (.cells #[.int .i64 v.k, .int .i64 v.i, .bool v.b, .string v.s] 57)).alloc (.cells #[.int .i64 0, .int .i64 0, .bool false, .string ⟨#[]⟩] 57)) := ⟨_, rfl⟩
  have hf : FdAt u w.heap.size 0 f := by
    have h1 := FdAt.new w f
    have h2 := h1.below (((Below.refl _ _).alloc (Nat.le_refl _) (.cells #[.int .i64 v.k, .int .i64 v.i, .bool v.b, .string v.s] 57)).alloc (by simp) (.cells #[.int .i64 0, .int .i64 0, .bool false, .string ⟨#[]⟩] 57))
    rw [hu]; exact h2
  have hs1 : Slot u (w.heap.size + 1) v := by
    have := (Slot.new (w.alloc (.cells #[.int .i64 f.src, .int .i64 f.tr, .int .i64 f.par] 55)) v).alloc (.cells #[.int .i64 0, .int .i64 0, .bool false, .string ⟨#[]⟩] 57)
    rw [show (w.alloc (.cells #[.int .i64 f.src, .int .i64 f.tr, .int .i64 f.par] 55)).heap.size = w.heap.size + 1 by simp] at this
    rw [hu]; exact this
  have hs2 : Slot u (w.heap.size + 1 + 1) ⟨0, 0, false, ⟨#[]⟩⟩ := by
    have := Slot.new ((w.alloc (.cells #[.int .i64 f.src, .int .i64 f.tr, .int .i64 f.par] 55)).alloc (.cells #[.int .i64 v.k, .int .i64 v.i, .bool v.b, .string v.s] 57)) ⟨0, 0, false, ⟨#[]⟩⟩
    rw [show ((w.alloc (.cells #[.int .i64 f.src, .int .i64 f.tr, .int .i64 f.par] 55)).alloc (.cells #[.int .i64 v.k, .int .i64 v.i, .bool v.b, .string v.s] 57)).heap.size = w.heap.size + 1 + 1 by simp] at this
    rw [hu]; exact this
  have hb0 : Below w.heap.size w u := by rw [hu]; exact ((((Below.refl _ _).alloc (Nat.le_refl _) _).alloc (by simp) _).alloc (by simp; omega) _)
  have HF := Lib.hid hf
  have HS1 := Lib.hid hs1
  have HS2 := Lib.hid hs2
  have HB := Lib.hid hb0
  clear hf hs1 hs2 hb0
  go_enter Try.func31, Try.ntmps31
  go_upto_region 1 with fail
  rw [← hu]
  clear hu
  obtain ⟨d0, d1, d2⟩ := HF.out
  go_upto_region 3 with (go_at_call 71; refine (T0.out _).mono ?_; rintro e w0 ⟨rfl, hb0⟩; replace HF := Lib.hid (HF.out.below hb0); replace HS1 := Lib.hid (HS1.out.below hb0); replace HS2 := Lib.hid (HS2.out.below hb0); replace HB := Lib.hid (HB.out.trans (hb0.mono HB.out.size)); clear hb0 d0 d1 d2 T0)
  obtain ⟨⟨a0, a1, a2, a3⟩, _⟩ := HS1.out.at
  go_upto_region 4 with (go_at_call 46; refine (T1.out _).mono ?_; rintro e w1 ⟨rfl, hb1⟩; replace HF := Lib.hid (HF.out.below hb1); have hs1 := HS1.out.below hb1; obtain ⟨⟨b0, b1, b2, b3⟩, f0, f1, f2, f3⟩ := hs1.at; replace HS1 := Lib.hid hs1; replace HS2 := Lib.hid (HS2.out.below hb1); replace HB := Lib.hid (HB.out.trans (hb1.mono HB.out.size)); clear hb1 hs1 a0 a1 a2 a3)
  clear b0 b1 b2 b3 f0 f1 f2 f3 T1
  obtain ⟨w4, hw4, hS4, hB4⟩ := slot_ret HS1.out HB.out (Nat.le_succ w.heap.size) p
  have hF4 : FdAt w4 w.heap.size 0 f := by
    refine HF.out.block ?_
    rw [hw4]
    rw [Below.heap_setCell _ _ _ _ (by simp), Below.heap_setCell _ _ _ _ (by simp), Below.heap_setCell _ _ _ _ (by simp), Below.heap_setCell _ _ _ _ (by simp)]
  have hS24 : Slot w4 (w.heap.size + 1 + 1) ⟨0, 0, false, ⟨#[]⟩⟩ := by
    rw [hw4]
    exact (((HS2.out.other (by simp)).other (by simp)).other (by simp)).other (by simp)
  rw [← hw4]
  clear hw4 HF HS1 HS2 HB
  have HF := Lib.hid hF4
  have HS1 := Lib.hid hS4
  have HS2 := Lib.hid hS24
  have HB := Lib.hid hB4
  clear hF4 hS4 hS24 hB4
  obtain ⟨⟨a0, a1, a2, a3⟩, _⟩ := HS1.out.at
  have hf := HF.out
  obtain ⟨d0, d1, d2⟩ := hf
  obtain ⟨⟨z0, z1, z2, z3⟩, y0, y1, y2, y3⟩ := HS2.out.at
  rw [h0.out] at d1
  rw [hk.out] at a0
  subst hq
  go_wp2
  change bodyPost _ _ _ _ _ (putV w4 (w.heap.size + 1 + 1) ⟨1, -9223372036854775808, false, ByteArray.empty⟩)
  obtain ⟨w9, hw9, hS9, hB9⟩ := slot_ret HS2.out HB.out (by omega) ⟨1, -9223372036854775808, false, ByteArray.empty⟩
  change w9 = putV w4 (w.heap.size + 1 + 1) ⟨1, -9223372036854775808, false, ByteArray.empty⟩ at hw9
  rw [← hw9]
  clear z0 z1 z2 z3
  obtain ⟨⟨z0, z1, z2, z3⟩, _⟩ := hS9.at
  refine bodyPost_ret (v := .tuple #[.agg #[.int .i64 (⟨1, -9223372036854775808, false, ByteArray.empty⟩ : V).k, .int .i64 (⟨1, -9223372036854775808, false, ByteArray.empty⟩ : V).i, .bool (⟨1, -9223372036854775808, false, ByteArray.empty⟩ : V).b, .string (⟨1, -9223372036854775808, false, ByteArray.empty⟩ : V).s], .int .i64 0]) (by simp [results, Try.results31, go_sem, z0, z1, z2, z3]) rfl ?_
  exact ⟨rfl, hB9⟩
set_option maxRecDepth 100000 in
set_option maxHeartbeats 1000000 in
theorem refap_pos_up (f : Fd) (v p : V) (r q m y : Int) (hk : Hid (p.k = 1)) (h0 : Hid (f.tr = 2)) (hz : ¬ f.par = 0) (hr : p.i.tmod f.par = r) (hn : decide (r < 0) = false) (hq : r = q) (hm : IntKind.i64.wrap (-9223372036854775808 + q) = m) (hb : decide (p.i < m) = false) (hy : IntKind.i64.wrap (p.i - q) = y)  (w : World) (T0 : Hid (∀ u, Calls Try.prog 71 #[.agg #[.int .i64 f.src, .int .i64 f.tr, .int .i64 f.par]] u fun e w' => e = .returned (.bool true) ∧ Below u.heap.size u w')) (T1 : Hid (∀ u, Calls Try.prog 46 #[.agg #[.int .i64 v.k, .int .i64 v.i, .bool v.b, .string v.s]] u fun e w' => e = .returned (.agg #[.int .i64 p.k, .int .i64 p.i, .bool p.b, .string p.s]) ∧ Below u.heap.size u w')) :
    Calls Try.prog 31 #[.agg #[.int .i64 f.src, .int .i64 f.tr, .int .i64 f.par], .agg #[.int .i64 v.k, .int .i64 v.i, .bool v.b, .string v.s]] w fun e w' => e = .returned (.tuple #[.agg #[.int .i64 (⟨1, y, false, ByteArray.empty⟩ : V).k, .int .i64 (⟨1, y, false, ByteArray.empty⟩ : V).i, .bool (⟨1, y, false, ByteArray.empty⟩ : V).b, .string (⟨1, y, false, ByteArray.empty⟩ : V).s], .int .i64 0]) ∧ Below w.heap.size w w' := by
  obtain ⟨u, hu⟩ : ∃ u, u = (((w.alloc (.cells #[.int .i64 f.src, .int .i64 f.tr, .int .i64 f.par] 55)).alloc (.cells #[.int .i64 v.k, .int .i64 v.i, .bool v.b, .string v.s] 57)).alloc (.cells #[.int .i64 0, .int .i64 0, .bool false, .string ⟨#[]⟩] 57)) := ⟨_, rfl⟩
  have hf : FdAt u w.heap.size 0 f := by
    have h1 := FdAt.new w f
    have h2 := h1.below (((Below.refl _ _).alloc (Nat.le_refl _) (.cells #[.int .i64 v.k, .int .i64 v.i, .bool v.b, .string v.s] 57)).alloc (by simp) (.cells #[.int .i64 0, .int .i64 0, .bool false, .string ⟨#[]⟩] 57))
    rw [hu]; exact h2
  have hs1 : Slot u (w.heap.size + 1) v := by
    have := (Slot.new (w.alloc (.cells #[.int .i64 f.src, .int .i64 f.tr, .int .i64 f.par] 55)) v).alloc (.cells #[.int .i64 0, .int .i64 0, .bool false, .string ⟨#[]⟩] 57)
    rw [show (w.alloc (.cells #[.int .i64 f.src, .int .i64 f.tr, .int .i64 f.par] 55)).heap.size = w.heap.size + 1 by simp] at this
    rw [hu]; exact this
  have hs2 : Slot u (w.heap.size + 1 + 1) ⟨0, 0, false, ⟨#[]⟩⟩ := by
    have := Slot.new ((w.alloc (.cells #[.int .i64 f.src, .int .i64 f.tr, .int .i64 f.par] 55)).alloc (.cells #[.int .i64 v.k, .int .i64 v.i, .bool v.b, .string v.s] 57)) ⟨0, 0, false, ⟨#[]⟩⟩
    rw [show ((w.alloc (.cells #[.int .i64 f.src, .int .i64 f.tr, .int .i64 f.par] 55)).alloc (.cells #[.int .i64 v.k, .int .i64 v.i, .bool v.b, .string v.s] 57)).heap.size = w.heap.size + 1 + 1 by simp] at this
    rw [hu]; exact this
  have hb0 : Below w.heap.size w u := by rw [hu]; exact ((((Below.refl _ _).alloc (Nat.le_refl _) _).alloc (by simp) _).alloc (by simp; omega) _)
  have HF := Lib.hid hf
  have HS1 := Lib.hid hs1
  have HS2 := Lib.hid hs2
  have HB := Lib.hid hb0
  clear hf hs1 hs2 hb0
  go_enter Try.func31, Try.ntmps31
  go_upto_region 1 with fail
  rw [← hu]
  clear hu
  obtain ⟨d0, d1, d2⟩ := HF.out
  go_upto_region 3 with (go_at_call 71; refine (T0.out _).mono ?_; rintro e w0 ⟨rfl, hb0⟩; replace HF := Lib.hid (HF.out.below hb0); replace HS1 := Lib.hid (HS1.out.below hb0); replace HS2 := Lib.hid (HS2.out.below hb0); replace HB := Lib.hid (HB.out.trans (hb0.mono HB.out.size)); clear hb0 d0 d1 d2 T0)
  obtain ⟨⟨a0, a1, a2, a3⟩, _⟩ := HS1.out.at
  go_upto_region 4 with (go_at_call 46; refine (T1.out _).mono ?_; rintro e w1 ⟨rfl, hb1⟩; replace HF := Lib.hid (HF.out.below hb1); have hs1 := HS1.out.below hb1; obtain ⟨⟨b0, b1, b2, b3⟩, f0, f1, f2, f3⟩ := hs1.at; replace HS1 := Lib.hid hs1; replace HS2 := Lib.hid (HS2.out.below hb1); replace HB := Lib.hid (HB.out.trans (hb1.mono HB.out.size)); clear hb1 hs1 a0 a1 a2 a3)
  clear b0 b1 b2 b3 f0 f1 f2 f3 T1
  obtain ⟨w4, hw4, hS4, hB4⟩ := slot_ret HS1.out HB.out (Nat.le_succ w.heap.size) p
  have hF4 : FdAt w4 w.heap.size 0 f := by
    refine HF.out.block ?_
    rw [hw4]
    rw [Below.heap_setCell _ _ _ _ (by simp), Below.heap_setCell _ _ _ _ (by simp), Below.heap_setCell _ _ _ _ (by simp), Below.heap_setCell _ _ _ _ (by simp)]
  have hS24 : Slot w4 (w.heap.size + 1 + 1) ⟨0, 0, false, ⟨#[]⟩⟩ := by
    rw [hw4]
    exact (((HS2.out.other (by simp)).other (by simp)).other (by simp)).other (by simp)
  rw [← hw4]
  clear hw4 HF HS1 HS2 HB
  have HF := Lib.hid hF4
  have HS1 := Lib.hid hS4
  have HS2 := Lib.hid hS24
  have HB := Lib.hid hB4
  clear hF4 hS4 hS24 hB4
  obtain ⟨⟨a0, a1, a2, a3⟩, _⟩ := HS1.out.at
  have hf := HF.out
  obtain ⟨d0, d1, d2⟩ := hf
  obtain ⟨⟨z0, z1, z2, z3⟩, y0, y1, y2, y3⟩ := HS2.out.at
  rw [h0.out] at d1
  rw [hk.out] at a0
  subst hq
  go_wp2
  change bodyPost _ _ _ _ _ (putV w4 (w.heap.size + 1 + 1) ⟨1, y, false, ByteArray.empty⟩)
  obtain ⟨w9, hw9, hS9, hB9⟩ := slot_ret HS2.out HB.out (by omega) ⟨1, y, false, ByteArray.empty⟩
  change w9 = putV w4 (w.heap.size + 1 + 1) ⟨1, y, false, ByteArray.empty⟩ at hw9
  rw [← hw9]
  clear z0 z1 z2 z3
  obtain ⟨⟨z0, z1, z2, z3⟩, _⟩ := hS9.at
  refine bodyPost_ret (v := .tuple #[.agg #[.int .i64 (⟨1, y, false, ByteArray.empty⟩ : V).k, .int .i64 (⟨1, y, false, ByteArray.empty⟩ : V).i, .bool (⟨1, y, false, ByteArray.empty⟩ : V).b, .string (⟨1, y, false, ByteArray.empty⟩ : V).s], .int .i64 0]) (by simp [results, Try.results31, go_sem, z0, z1, z2, z3]) rfl ?_
  exact ⟨rfl, hB9⟩
end Go.Proofs.Ythfakpekdjmpjaa

namespace Go.Proofs.Ythfakpekdjmpjaa
open Go.Conc Go.RowKit
set_option linter.unusedVariables false
set_option linter.unusedSimpArgs false

theorem refapply_any (f : Fd) (v : V) (hi : -9223372036854775808 ≤ v.i ∧ v.i < 9223372036854775808) (hs : v.s.size ≤ 140737488355328) (w : World) :
    Calls Try.prog 31 #[.agg #[.int .i64 f.src, .int .i64 f.tr, .int .i64 f.par], .agg #[.int .i64 v.k, .int .i64 v.i, .bool v.b, .string v.s]] w fun e w' => e = .returned (.tuple #[.agg #[.int .i64 (applyA f v).1.k, .int .i64 (applyA f v).1.i, .bool (applyA f v).1.b, .string (applyA f v).1.s], .int .i64 (applyA f v).2]) ∧ Below w.heap.size w w' := by
  have T0 := Lib.hid (fun u => reffieldmay_any f u)
  have T1 := Lib.hid (fun u => rclean_any v u)
  have htf := takes_field f v.k
  by_cases hb : fieldB f = false
  · rw [hb] at T0 htf
    rw [Bool.false_and] at htf
    rw [show applyA f v = (zeroVal, 1300) by unfold applyA; rw [if_pos htf]]
    exact refap_no f v (plainV v) w T0 T1
  have hb : fieldB f = true := by simpa using hb
  rw [hb] at T0 htf
  rw [Bool.true_and] at htf
  have hsz : (plainV v).s.size ≤ 140737488355328 := Nat.le_trans (plainV_size v) hs
  have hr := plain_range v hi
  by_cases g : f.tr = 2 ∧ v.k = 2
  · rw [decide_eq_true g, Bool.not_true] at htf
    rw [show applyA f v = (zeroVal, 1300) by unfold applyA; rw [if_pos htf]]
    exact refap_bool f v (plainV v) (Lib.hid (by rw [plainV_bool g.2])) g.1 w T0 T1
  rw [decide_eq_false g, Bool.not_false] at htf
  rw [show applyA f v = (madeV f v, 0) by unfold applyA; rw [if_neg (by rw [htf]; simp)]]
  by_cases hk : (plainV v).k = 0
  · have hz : plainV v = zeroVal := by
      rcases plain_cases v with e | e | e | e
      · rw [e] at hk; exact absurd (show (1 : Int) = 0 from hk) (by decide)
      · rw [e] at hk; exact absurd (show (2 : Int) = 0 from hk) (by decide)
      · rw [e] at hk; exact absurd (show (3 : Int) = 0 from hk) (by decide)
      · exact e
    rw [show madeV f v = zeroVal by unfold madeV madeP; rw [if_pos (.inl hk), hz]]
    exact refap_null f v (plainV v) hk w T0 T1
  by_cases t0 : f.tr = 0
  · rw [show madeV f v = plainV v by unfold madeV madeP; rw [if_pos (.inr t0)]]
    exact refap_id f v (plainV v) hk t0 w T0 T1
  have hn : ¬ ((plainV v).k = 0 ∨ f.tr = 0) := by rintro (h | h); exact hk h; exact t0 h
  have hp : Pln (plainV v) := plain_pln v (fun e => hk (by rw [e]; rfl))
  unfold fieldB at hb
  rw [if_neg t0] at hb
  have ht : f.tr = 1 ∨ f.tr = 2 := by
    by_cases h : f.tr = 1 ∨ f.tr = 2
    · exact h
    · rw [if_neg h] at hb; cases hb
  rw [if_pos ht] at hb
  have hpar := of_decide_eq_true hb
  by_cases t1 : f.tr = 1
  · have hbs := bytesV_size (plainV v)
    rw [show madeV f v = ⟨1, (crcN (bytesV (plainV v)).data.toList : Int).tmod f.par, false, ByteArray.empty⟩ by
      unfold madeV madeP; rw [if_neg hn, if_pos t1, Int.tmod_eq_emod_of_nonneg (by omega)]]
    exact refap_bucket f v (plainV v) (bytesV (plainV v)) (crcN (bytesV (plainV v)).data.toList : Nat) _ hk t1 (by omega) rfl (Lib.hid (fun u => refbytesof_any (plainV v) hp hr u)) (Lib.hid (fun u => rcrc_any _ (by omega) u)) w T0 T1
  have t2 : f.tr = 2 := by omega
  by_cases k3 : (plainV v).k = 3
  · have hnn : f.par = (f.par.toNat : Int) := by omega
    rw [show madeV f v = ⟨3, 0, false, cutT (plainV v).s f.par.toNat⟩ by unfold madeV madeP; rw [if_neg hn, if_neg t1, if_pos k3]]
    refine refap_text f v (plainV v) _ k3 t2 (Lib.hid (fun u => ?_)) w T0 T1
    have := refrunes_any (plainV v).s f.par.toNat hsz (by omega) u
    rwa [← hnn] at this
  have k1 : (plainV v).k = 1 := by
    rcases hp with ⟨h, _⟩ | ⟨h, _⟩ | ⟨h, _⟩
    · exact h
    · exact absurd ⟨t2, kind_two.1 ((plainV_kind v).symm.trans h)⟩ g
    · exact absurd h k3
  rw [show madeV f v = ⟨1, floorA (plainV v).i f.par, false, ByteArray.empty⟩ by unfold madeV madeP; rw [if_neg hn, if_neg t1, if_neg k3]]
  obtain ⟨x, hx⟩ : ∃ x, x = (plainV v).i := ⟨_, rfl⟩
  have hbt := tmod_between x f.par (by omega)
  have wr : ∀ y : Int, -9223372036854775808 ≤ y → y < 9223372036854775808 → IntKind.i64.wrap y = y := fun y h1 h2 => by rw [IntKind.wrap_i64]; omega
  have hq : x % f.par = if x.tmod f.par < 0 then x.tmod f.par + f.par else x.tmod f.par := emod_of_tmod x f.par (by omega)
  have hq1 : 0 ≤ x % f.par ∧ x % f.par < f.par := ⟨Int.emod_nonneg x (by omega), Int.emod_lt_of_pos x (by omega)⟩
  rw [← hx] at hr ⊢
  have hz : ¬ f.par = 0 := by omega
  unfold floorA
  generalize hqq : x % f.par = q at *
  generalize hrr : x.tmod f.par = r at *
  rw [hx] at hrr
  by_cases c : r < 0
  · rw [if_pos c] at hq
    by_cases c2 : x < -9223372036854775808 + q
    · rw [if_pos c2]
      exact refap_neg_low f v (plainV v) r q (-9223372036854775808 + q) 0 k1 t2 hz hrr (decide_eq_true c) (by rw [hq]; exact wr _ (by omega) (by omega)) (wr _ (by omega) (by omega)) (by rw [← hx]; exact decide_eq_true c2) w T0 T1
    · rw [if_neg c2]
      exact refap_neg_up f v (plainV v) r q (-9223372036854775808 + q) (x - q) k1 t2 hz hrr (decide_eq_true c) (by rw [hq]; exact wr _ (by omega) (by omega)) (wr _ (by omega) (by omega)) (by rw [← hx]; exact decide_eq_false c2) (by rw [← hx]; exact wr _ (by omega) (by omega)) w T0 T1
  · rw [if_neg c] at hq
    by_cases c2 : x < -9223372036854775808 + q
    · rw [if_pos c2]
      exact refap_pos_low f v (plainV v) r q (-9223372036854775808 + q) 0 k1 t2 hz hrr (decide_eq_false c) hq.symm (wr _ (by omega) (by omega)) (by rw [← hx]; exact decide_eq_true c2) w T0 T1
    · rw [if_neg c2]
      exact refap_pos_up f v (plainV v) r q (-9223372036854775808 + q) (x - q) k1 t2 hz hrr (decide_eq_false c) hq.symm (wr _ (by omega) (by omega)) (by rw [← hx]; exact decide_eq_false c2) (by rw [← hx]; exact wr _ (by omega) (by omega)) w T0 T1
end Go.Proofs.Ythfakpekdjmpjaa
