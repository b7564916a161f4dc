/- The program's specs: which fields take which values; a number's greatest multiple below; a text's first runes; the bytes that are summed. The program's specs: a number's greatest multiple below. The program's specs: a text's first runes. The program's specs: a number's eight bytes, the highest first. The program's specs: the bytes of a value that are summed. -/
import Derived.Test.YthfakpekdjmpjaaSpm
import Derived.Laws.MakeOwn
import Derived.Deep.Cut
import Derived.Test.YthfakpekdjmpjaaFirst
import Derived.Below
import Derived.Laws.Tables
import Derived.Deep.QuietTactic
import Derived.OwnWalk
namespace Go.Proofs.Ythfakpekdjmpjaa
open Go.Conc Go.RowKit
set_option linter.unusedVariables false
set_option linter.unusedSimpArgs false

set_option maxRecDepth 100000 in
theorem isparam_any (x : Int) (w : World) : Calls Try.prog 93 #[.int .i64 x] w fun e w' => e = .returned (.bool (paramB x)) ∧ w = w' := by
  have key : ∀ b1 b2 : Bool, decide ((1 : Int) ≤ x) = b1 → decide (x ≤ 1024) = b2 → Calls Try.prog 93 #[.int .i64 x] w fun e w' => e = .returned (.bool (b1 && b2)) ∧ w = w' := by
    intro b1 b2 h1 h2
    cases b1 <;> cases b2 <;> (go_enter Try.func93, Try.ntmps93; go_wp2; go_ret; exact ⟨rfl, rfl⟩)
  have h := key _ _ rfl rfl
  rwa [show (decide ((1 : Int) ≤ x) && decide (x ≤ 1024)) = paramB x by unfold paramB; rw [Bool.decide_and]] at h
theorem FdAt.new (w : World) (c : Fd) : FdAt (w.alloc (.cells #[.int .i64 c.src, .int .i64 c.tr, .int .i64 c.par] 55)) w.heap.size 0 c := by
  have h := heap_alloc_new w (.cells #[.int .i64 c.src, .int .i64 c.tr, .int .i64 c.par] 55)
  exact ⟨cell_of_row _ _ _ _ _ _ h, cell_of_row _ _ _ _ _ _ h, cell_of_row _ _ _ _ _ _ h⟩
set_option maxRecDepth 100000 in
theorem takes_any (f : Fd) (k : Int) (w : World) : Calls Try.prog 68 #[.agg #[.int .i64 f.src, .int .i64 f.tr, .int .i64 f.par], .int .i64 k] w fun e w' => e = .returned (.bool (takesB f k)) ∧ Below w.heap.size w w' := by
  unfold takesB
  have T1 := Lib.hid (fun v => isparam_any f.par v)
  obtain ⟨u, hu⟩ : ∃ u, u = w.alloc (.cells #[.int .i64 f.src, .int .i64 f.tr, .int .i64 f.par] 55) := ⟨_, rfl⟩
  have hc : FdAt u w.heap.size 0 f := by rw [hu]; exact FdAt.new w f
  have HB : Hid (Below w.heap.size w u) := by rw [hu]; exact (Below.refl _ _).alloc (Nat.le_refl _) _
  obtain ⟨c0, c1, c2⟩ := hc
  generalize paramB f.par = b3 at *
  obtain ⟨src, tr, par⟩ := f
  simp only at *
  by_cases h0 : tr = 0
  · subst h0
    rw [if_pos rfl]
    have e : decide (par = 0) = (par == 0) := by rw [Bool.eq_iff_iff, decide_eq_true_eq, beq_iff_eq]
    rw [e]
    go_enter Try.func68, Try.ntmps68
    go_upto_region 1 with fail
    rw [← hu]
    clear hu
    go_wp2
    go_ret
    exact ⟨rfl, HB.out⟩
  rw [if_neg h0]
  have d0 : (tr == 0) = false := by simpa using h0
  by_cases h1 : tr = 1
  · subst h1
    rw [if_pos rfl]
    clear h0
    go_enter Try.func68, Try.ntmps68
    go_upto_region 1 with fail
    rw [← hu]
    clear hu
    go_wp2_with (go_at_call 93; refine (T1.out _).mono ?_; rintro e w' ⟨rfl, rfl⟩)
    go_ret
    exact ⟨rfl, HB.out⟩
  rw [if_neg h1]
  have d1 : (tr == 1) = false := by simpa using h1
  by_cases h2 : tr = 2
  · subst h2
    rw [if_pos rfl]
    have e : decide (k ≠ 2) = (k != 2) := by rw [Bool.eq_iff_iff, decide_eq_true_eq, bne_iff_ne]
    rw [e]
    clear h0 h1
    cases b3 <;> cases hk : (k != 2) <;> (
      go_enter Try.func68, Try.ntmps68
      go_upto_region 1 with fail
      rw [← hu]
      clear hu
      go_wp2_with (go_at_call 93; refine (T1.out _).mono ?_; rintro e w' ⟨rfl, rfl⟩)
      go_ret
      exact ⟨rfl, HB.out⟩)
  · rw [if_neg h2]
    have d2 : (tr == 2) = false := by simpa using h2
    clear h0 h1 h2
    go_enter Try.func68, Try.ntmps68
    go_upto_region 1 with fail
    rw [← hu]
    clear hu
    go_wp2
    go_ret
    exact ⟨rfl, HB.out⟩
end Go.Proofs.Ythfakpekdjmpjaa

namespace Go.Proofs.Ythfakpekdjmpjaa
open Go.Conc Go.RowKit
set_option linter.unusedVariables false
set_option linter.unusedSimpArgs false

theorem tmod_between (x p : Int) (hp : 0 < p) : -p < x.tmod p ∧ x.tmod p < p := ⟨Int.lt_tmod_of_pos x hp, Int.tmod_lt_of_pos x hp⟩
theorem emod_of_tmod (x p : Int) (hp : 0 < p) : x % p = if x.tmod p < 0 then x.tmod p + p else x.tmod p := by
  have h1 := Int.mul_tdiv_add_tmod x p
  have h2 := tmod_between x p hp
  have e : x % p = (x.tmod p) % p := by
    conv => lhs; rw [← h1]
    rw [Int.add_comm, Int.add_mul_emod_self_left]
  rw [e]
  split
  · rename_i c
    have h3 : (x.tmod p + p * 1) % p = x.tmod p % p := Int.add_mul_emod_self_left _ _ _
    rw [Int.mul_one] at h3
    rw [← h3, Int.emod_eq_of_lt (by omega) (by omega)]
  · exact Int.emod_eq_of_lt (by omega) (by omega)
set_option maxRecDepth 100000 in
theorem floor_go (x p r q m y : Int) (b : Bool) (hz : ¬ p = 0) (hr : x.tmod p = r) (hq : r < 0 → IntKind.i64.wrap (r + p) = q) (hq2 : ¬ r < 0 → r = q) (hm : IntKind.i64.wrap (-9223372036854775808 + q) = m) (hb : decide (x < m) = b) (hy : b = false → IntKind.i64.wrap (x - q) = y) (w : World) :
    Calls Try.prog 99 #[.int .i64 x, .int .i64 p] w fun e w' => e = .returned (.int .i64 (if b then -9223372036854775808 else y)) ∧ w = w' := by
  by_cases c : r < 0
  · have hq := hq c
    clear hq2
    have cc : decide (r < 0) = true := decide_eq_true c
    clear c
    cases b
    · have hy := hy rfl
      rw [if_neg (by simp)]
      go_enter Try.func99, Try.ntmps99
      go_wp2
      go_ret
      exact ⟨rfl, rfl⟩
    · rw [if_pos rfl]
      clear hy
      go_enter Try.func99, Try.ntmps99
      go_wp2
      go_ret
      exact ⟨rfl, rfl⟩
  · have hq := hq2 c
    subst hq
    have cc : decide (r < 0) = false := decide_eq_false c
    clear c
    cases b
    · have hy := hy rfl
      rw [if_neg (by simp)]
      go_enter Try.func99, Try.ntmps99
      go_wp2
      go_ret
      exact ⟨rfl, rfl⟩
    · rw [if_pos rfl]
      clear hy
      go_enter Try.func99, Try.ntmps99
      go_wp2
      go_ret
      exact ⟨rfl, rfl⟩
theorem floor_any (x p : Int) (hx : -9223372036854775808 ≤ x ∧ x < 9223372036854775808) (hp : 1 ≤ p ∧ p ≤ 1024) (w : World) : Calls Try.prog 99 #[.int .i64 x, .int .i64 p] w fun e w' => e = .returned (.int .i64 (floorA x p)) ∧ w = w' := by
  have hb := tmod_between x p (by omega)
  have wr : ∀ y : Int, -9223372036854775808 ≤ y → y < 9223372036854775808 → IntKind.i64.wrap y = y := fun y h1 h2 => by rw [IntKind.wrap_i64]; omega
  have hq : x % p = if x.tmod p < 0 then x.tmod p + p else x.tmod p := emod_of_tmod x p (by omega)
  have hq1 : 0 ≤ x % p ∧ x % p < p := ⟨Int.emod_nonneg x (by omega), Int.emod_lt_of_pos x (by omega)⟩
  unfold floorA
  generalize x % p = q at *
  generalize hr : x.tmod p = r at *
  have h := floor_go x p r q (-9223372036854775808 + q) (x - q) (decide (x < -9223372036854775808 + q)) (by omega) hr
    (fun c => by rw [if_pos c] at hq; rw [hq]; exact wr _ (by omega) (by omega)) (fun c => by rw [if_neg c] at hq; exact hq.symm) (wr _ (by omega) (by omega)) rfl
    (fun c => wr _ (by have := of_decide_eq_false c; omega) (by have := of_decide_eq_false c; omega)) w
  simpa only [decide_eq_true_eq] using h
end Go.Proofs.Ythfakpekdjmpjaa

namespace Go.Proofs.Ythfakpekdjmpjaa
open Go.Conc Go.RowKit
set_option linter.unusedVariables false
set_option linter.unusedSimpArgs false

theorem cut_text (s : ByteArray) (n : Nat) : s.extract 0 n = textB (s.data.toList.take n) := by
  apply bytes_eq
  simp [textB, ByteArray.data_extract, Array.toList_extract, List.extract_eq_take_drop]
theorem runesAt_in (l : List UInt8) (k a : Nat) (h : a < l.length) : runesAt l (k + 1) a = runesAt l k (a + max (rr l a).2.toNat 1) := by
  rw [runesAt, if_pos h]
set_option maxRecDepth 100000 in
theorem cut_any (s : ByteArray) (m : Nat) (hs : s.size ≤ 140737488355328) (hm : m ≤ 1024) (w : World) : Calls Try.prog 98 #[.string s, .int .i64 (m : Int)] w fun e w' => e = .returned (.string (cutT s m)) ∧ w = w' := by
  obtain ⟨E, hE⟩ : ∃ E, E = runesAt s.data.toList m 0 := ⟨_, rfl⟩
  have HR : Hid (s.extract 0 E = cutT s m) := by
    unfold Hid cutT
    rw [cut_text, hE]
  have HL := Lib.hid (size_list s)
  have HE := Lib.hid hE
  rw [← HR.out]
  clear hE HR
  have hrange : ∀ k : Nat, k ≤ 1024 → IntKind.i64.wrap ((k : Int) + 1) = ((k + 1 : Nat) : Int) := fun k hk => by rw [IntKind.wrap_i64]; omega
  have HW := Lib.hid hrange
  clear hrange
  go_enter Try.func98, Try.ntmps98
  go_wp2
  go_loop [9, 5] (fun kv ev => ∃ (k a : Nat), k ≤ m ∧ a ≤ s.size ∧ kv = .int .i64 k ∧ ev = .int .i64 a ∧ Hid (runesAt s.data.toList (m - k) a = E)) (fun kv _ => (m - (intOf kv).toNat : Nat))
  case atStart => exact ⟨0, 0, Nat.zero_le _, Nat.zero_le _, rfl, rfl, HE.out.symm⟩
  case round =>
    obtain ⟨k, a, hk, ha, rfl, rfl, hr⟩ := hrel
    by_cases c : k < m
    · have d : decide ((k : Int) < (m : Int)) = true := decide_eq_true (by omega)
      by_cases c2 : a = s.size
      · have hf : E = a := by rw [← hr.out]; exact runesAt_end _ _ _ (by rw [← HL.out]; omega)
        subst hf
        have d2 : ((E : Int) == (s.size : Int)) = true := by rw [c2]; exact beq_self_eq_true _
        have hin : E ≤ s.size := ha
        clear hr HE HW HL c2 hk
        go_wp2
        go_ret
        exact ⟨rfl, rfl⟩
      · have hl : a < s.size := by omega
        have hll : a < s.data.toList.length := by rw [← HL.out]; exact hl
        have d2 : ((a : Int) == (s.size : Int)) = false := by rw [beq_eq_false_iff_ne]; omega
        have hn := hr.out
        rw [show m - k = (m - (k + 1)) + 1 by omega, runesAt_in _ _ _ hll] at hn
        have hst := rr_step s.data.toList a hll
        have T1 := Lib.hid (fun v => urune_in s a hl (by omega) v)
        have hz0 : 0 ≤ (rr s.data.toList a).2 := (rr_le _ _).1
        obtain ⟨z, hz⟩ : ∃ z : Nat, (rr s.data.toList a).2 = (z : Int) := ⟨(rr s.data.toList a).2.toNat, by omega⟩
        rw [hz, Int.toNat_natCast] at hn hst
        rw [hz] at T1
        obtain ⟨q, hq⟩ : ∃ q, q = (rr s.data.toList a).1 := ⟨_, rfl⟩
        rw [← hq] at T1
        have HN := Lib.hid hn
        rw [← HL.out] at hst
        have hmx : max (z : Int) 1 = ((max z 1 : Nat) : Int) := by omega
        have hsum : IntKind.i64.wrap ((a : Int) + max (z : Int) 1) = ((a + max z 1 : Nat) : Int) := by rw [hmx, IntKind.wrap_i64]; omega
        have hkk := HW.out k (by omega)
        have HS := Lib.hid hst
        clear hn hr HE HW hq hz hz0 hst hmx hll c2 hk
        go_wp2_with (go_at_call 111; refine (T1.out _).mono ?_; rintro e w' ⟨rfl, rfl⟩)
        refine ⟨⟨k + 1, a + max z 1, c, HS.out, congrArg (Value.int .i64) (by omega), congrArg (Value.int .i64) (by omega), HN⟩, ?_⟩
        show m - ((k : Int) + 1).toNat < m - ((k : Int)).toNat
        omega
    · have d : decide ((k : Int) < (m : Int)) = false := decide_eq_false (by omega)
      have hf : E = a := by rw [← hr.out, show m - k = 0 by omega]; rfl
      subst hf
      have hin : E ≤ s.size := ha
      clear hr HE HW HL hk
      go_wp2
      go_ret
      exact ⟨rfl, rfl⟩
end Go.Proofs.Ythfakpekdjmpjaa

namespace Go.Proofs.Ythfakpekdjmpjaa
open Go.Conc Go.RowKit
set_option linter.unusedVariables false
set_option linter.unusedSimpArgs false

/-- A number's lowest bytes, the lowest first. -/
def lowB : Nat → Int → List UInt8
  | 0, _ => []
  | k + 1, x => u8 (x % 256).toNat :: lowB k (x / 256)
theorem lowB_length : ∀ k x, (lowB k x).length = k
  | 0, _ => rfl
  | k + 1, x => by rw [lowB, List.length_cons, lowB_length k]
theorem lowB_beB (x : Int) : (lowB 8 x).reverse = beB x := by
  unfold beB unsN
  congr 1
  simp only [bytesN, lowB, List.cons.injEq, and_true]
  refine ⟨?_, ?_, ?_, ?_, ?_, ?_, ?_, ?_⟩ <;> (apply congrArg u8; omega)
/-- The array, its last bytes there. -/
def arrQ (suf : List UInt8) : Array Value := (List.replicate (8 - suf.length) (Value.int .u8 0) ++ byteCells suf).toArray
theorem arrQ_size {suf : List UInt8} (h : suf.length ≤ 8) : (arrQ suf).size = 8 := by
  simp [arrQ, byteCells]; omega
theorem arrQ_set {suf : List UInt8} {j : Nat} (h : j + 1 + suf.length = 8) (b : UInt8) : (arrQ suf).setIfInBounds j (.int .u8 (b.toNat : Int)) = arrQ (b :: suf) := by
  unfold arrQ
  rw [show 8 - suf.length = j + 1 by omega, show 8 - (b :: suf).length = j by rw [List.length_cons]; omega, List.replicate_succ', List.append_assoc]
  rw [List.setIfInBounds_toArray, List.set_append_right _ _ (by simp)]
  simp [byteCells]
theorem arrQ_zero {suf : List UInt8} {j : Nat} (h : j + 1 + suf.length = 8) : (arrQ suf)[j]? = some (.int .u8 0) := by
  unfold arrQ
  rw [List.getElem?_toArray, List.getElem?_append_left (by simp; omega), List.getElem?_replicate, if_pos (by omega)]
theorem arrQ_full {suf : List UInt8} (h : suf.length = 8) (j : Nat) (hj : j < suf.length) : (arrQ suf)[j]? = some (.int .u8 (suf[j].toNat : Int)) := by
  unfold arrQ
  rw [show 8 - suf.length = 0 by omega, List.replicate_zero, List.nil_append, List.getElem?_toArray]
  simp [byteCells, hj]
theorem arrQ_back (w : World) (g : Nat) (l : List UInt8) (C : Array Value) (ty : TypeId) (hb : w.heap[g]? = some (.cells C ty (0, 0))) (hC : ∀ j (h : j < l.length), C[j]? = some (.int .u8 (l[j].toNat : Int))) (n c : Nat) (hn : l.length = n) :
    (convert 51 9 (.slice (some ⟨g, 0, none⟩) n c)).run Try.prog w = .ok (.string (textB l)) w := by
  subst hn
  refine run_convert_bytes_back _ 51 9 5 ⟨g, 0, none⟩ _ l Try.underlying51 Try.underlying5 Try.underlying9 (fun j hj => ?_)
  have e : (⟨g, 0, none⟩ : Addr).add j = ⟨g, j, none⟩ := by
    unfold Addr.add
    by_cases h0 : j = 0
    · simp [h0]
    · simp [h0]
  rw [e, cell_of_row _ _ _ _ _ _ hb]
  exact hC j hj
theorem arrhLen : Try.prog.arrayLen 139 = 8 := by kernel_rfl
set_option maxRecDepth 100000 in
theorem arrh_slice (w : World) (g : Nat) : (Instr.sliceAt 139 (.pointer (some ⟨g, 0, none⟩)) none none none).run Try.prog w = .ok (.slice (some ⟨g, 0, none⟩) 8 8) w := by
  have e := run_sliceAt_array_all (P := Try.prog) w 139 ⟨g, 0, none⟩ Try.underlying139
  rw [e]
  simp [go_sem, arrhLen]
theorem byte_wrap (y : Int) : IntKind.u8.wrap y = y % 256 := by rw [IntKind.wrap_u8]
set_option maxRecDepth 100000 in
set_option maxHeartbeats 1000000 in
theorem fixed_any (x : Int) (h : -9223372036854775808 ≤ x ∧ x < 9223372036854775808) (w : World) : Calls Try.prog 109 #[.int .i64 x] w fun e w' => e = .returned (.string (textB (beB x))) ∧ Below w.heap.size w w' := by
  have HX := Lib.hid (lowB_beB x)
  go_enter Try.func109, Try.ntmps109
  go_wp2
  go_loopw [0, 4] (fun xv iv wr => ∃ (j : Nat) (y z : Int) (suf : List UInt8), j + suf.length = 8 ∧ (-9223372036854775808 ≤ y ∧ y < 9223372036854775808) ∧ z + 1 = (j : Int) ∧ xv = .int .i64 y ∧ iv = .int .i64 z ∧ Hid ((lowB j y).reverse ++ suf = beB x) ∧ wr.heap[w.heap.size]? = some (.cells (arrQ suf) 139 (0, 0)) ∧ Below w.heap.size w wr) (fun _ iv _ => (intOf iv + 1).toNat)
  case atStart => exact ⟨8, x, 7, [], rfl, h, rfl, rfl, rfl, by unfold Hid; rw [HX.out, List.append_nil], heap_alloc_new _ _, (Below.refl _ _).alloc (Nat.le_refl _) _⟩
  case round =>
    obtain ⟨j, y, z, suf, hl, hy, hz, rfl, rfl, he, hb, hbl⟩ := hrel
    have HB := Lib.hid hb
    have HL := Lib.hid hbl
    clear hbl
    have hsz := arrQ_size (suf := suf) (by omega)
    have hzz := frozen_of_row wr w.heap.size 0 _ _ hb
    have hlt : (w.heap.size : Nat) < wr.heap.size := (Array.getElem?_eq_some_iff.1 hb).1
    cases j with
    | zero =>
      obtain rfl : z = -1 := by omega
      have e3 := arrh_slice wr w.heap.size
      have e5 := arrQ_back _ _ suf _ _ hb (arrQ_full (by omega)) 8 8 (by omega)
      have hs : suf = beB x := by have := he.out; simpa [lowB] using this
      clear hb he
      rw [hs] at e5
      go_wp2
      go_ret
      exact ⟨rfl, HL.out⟩
    | succ j =>
      obtain rfl : z = (j : Int) := by omega
      have hc := (cell_of_row wr w.heap.size j _ _ _ hb).trans (arrQ_zero (by omega))
      have hzz := frozen_of_row wr w.heap.size j _ _ hb
      have e1 := byte_wrap y
      clear hb
      go_wp2
      have hsz8 : suf.length + 1 + j = 8 := by omega
      refine ⟨⟨j, y / 256, (j : Int) - 1, Go.Proofs.Ythfakpekdjmpjaa.u8 (y % 256).toNat :: suf, ?_, ?_, ?_, rfl, rfl, ?_, ?_, HL.out.setCell (Nat.le_refl _) _⟩, ?_⟩
      · rw [List.length_cons]; omega
      · omega
      · omega
      · have := he.out
        unfold Hid
        rw [← this, lowB, List.reverse_cons, List.append_assoc]
        rfl
      · have e4 : (((Go.Proofs.Ythfakpekdjmpjaa.u8 (y % 256).toNat)).toNat : Int) = y % 256 := by rw [u8_toNat _ (by omega)]; omega
        rw [← arrQ_set (by omega), e4]
        exact heap_setCell_same _ _ _ _ _ _ HB.out
      · show ((j : Int) - 1 + 1).toNat < ((j : Int) + 1).toNat
        omega
end Go.Proofs.Ythfakpekdjmpjaa

namespace Go.Proofs.Ythfakpekdjmpjaa
open Go.Conc Go.RowKit
set_option linter.unusedVariables false
set_option linter.unusedSimpArgs false

set_option maxRecDepth 100000 in
theorem celltruth_any (b : Bool) (w : World) : Calls Try.prog 110 #[.agg #[.int .i64 2, .int .i64 0, .bool b, .string ByteArray.empty]] w fun e w' => e = .returned (.string (textB [if b then 1 else 0])) ∧ Below w.heap.size w w' := by
  cases b with
  | true =>
    go_enter Try.func110, Try.ntmps110
    go_wp2
    go_ret
    exact ⟨rfl, (Below.refl _ _).alloc (Nat.le_refl _) _⟩
  | false =>
    go_enter Try.func110, Try.ntmps110
    go_wp2
    go_ret
    exact ⟨rfl, (Below.refl _ _).alloc (Nat.le_refl _) _⟩
/-- A plain value that is not null has its bytes. -/
def Pln (p : V) : Prop := (p.k = 1 ∧ p.b = false ∧ p.s = ByteArray.empty) ∨ (p.k = 2 ∧ p.i = 0 ∧ p.s = ByteArray.empty) ∨ (p.k = 3 ∧ p.i = 0 ∧ p.b = false)
set_option maxRecDepth 100000 in
theorem bytesof_any (p : V) (hp : Pln p) (hi : -9223372036854775808 ≤ p.i ∧ p.i < 9223372036854775808) (w : World) : Calls Try.prog 97 #[.agg #[.int .i64 p.k, .int .i64 p.i, .bool p.b, .string p.s]] w fun e w' => e = .returned (.string (bytesV p)) ∧ Below w.heap.size w w' := by
  obtain ⟨k, i, b, s⟩ := p
  simp only at hi ⊢
  have hs0 := Slot.new w ⟨k, i, b, s⟩
  have hb0 : Below w.heap.size w (w.alloc (.cells #[.int .i64 k, .int .i64 i, .bool b, .string s] 57)) := (Below.refl _ _).alloc (Nat.le_refl _) _
  rcases hp with ⟨h1, h2, h3⟩ | ⟨h1, h2, h3⟩ | ⟨h1, h2, h3⟩ <;> simp only at h1 h2 h3 <;> subst h1 <;> subst h2 <;> subst h3
  · rw [show bytesV ⟨1, i, false, ByteArray.empty⟩ = textB (beB i) from rfl]
    have T := Lib.hid (fun v => fixed_any i hi v)
    generalize textB (beB i) = R at *
    go_enter Try.func97, Try.ntmps97
    go_upto_region 1 with fail
    simp only at hs0
    generalize (w.alloc (.cells #[.int .i64 1, .int .i64 i, .bool false, .string ByteArray.empty] 57)) = u at *
    obtain ⟨⟨c0, c1, c2, c3⟩, _⟩ := hs0.at
    have HB := Lib.hid hb0
    clear hs0 hb0
    go_wp2_with (go_at_call 109; refine (T.out _).mono ?_; rintro e w' ⟨rfl, hb⟩; have HB2 := Lib.hid (HB.out.trans (hb.mono HB.out.size)); clear hb)
    go_ret
    exact ⟨rfl, HB2.out⟩
  · rw [show bytesV ⟨2, 0, b, ByteArray.empty⟩ = textB [if b then 1 else 0] from rfl]
    have T := Lib.hid (fun v => celltruth_any b v)
    generalize textB [if b then 1 else 0] = R at *
    go_enter Try.func97, Try.ntmps97
    go_upto_region 1 with fail
    simp only at hs0
    generalize (w.alloc (.cells #[.int .i64 2, .int .i64 0, .bool b, .string ByteArray.empty] 57)) = u at *
    obtain ⟨⟨c0, c1, c2, c3⟩, _⟩ := hs0.at
    have HB := Lib.hid hb0
    clear hs0 hb0
    go_wp2_with (go_at_call 110; refine (T.out _).mono ?_; rintro e w' ⟨rfl, hb⟩; have HB2 := Lib.hid (HB.out.trans (hb.mono HB.out.size)); clear hb)
    go_ret
    exact ⟨rfl, HB2.out⟩
  · rw [show bytesV ⟨3, 0, false, s⟩ = s from rfl]
    go_enter Try.func97, Try.ntmps97
    go_upto_region 1 with fail
    simp only at hs0
    generalize (w.alloc (.cells #[.int .i64 3, .int .i64 0, .bool false, .string s] 57)) = u at *
    obtain ⟨⟨c0, c1, c2, c3⟩, _⟩ := hs0.at
    have HB := Lib.hid hb0
    clear hs0 hb0
    go_wp2
    go_ret
    exact ⟨rfl, HB.out⟩
end Go.Proofs.Ythfakpekdjmpjaa
