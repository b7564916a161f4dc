/- The law on numbers, walked. -/
import Derived.Test.YtekbhnljdpjojaaDoorDecZ
namespace Go.Proofs.YtekbhnljdpjojaaDoor
open Go.Conc Go.RowKit
set_option linter.unusedVariables false
set_option linter.unusedSimpArgs false

theorem print_int (x : Int) (h0 : -9223372036854775808 ≤ x) (h1 : x ≤ 9223372036854775807) : printN (jInt x) = .ok (Lib.itoa x) := by
  have hil := Lib.itoa_length_le x h0 h1
  show prF (some (prN 15)) (.mk 2 false x ByteArray.empty [] []) [] = _
  rw [prF_mk, if_neg (by decide), if_neg (by decide), if_pos rfl, putB_yes (by simp; omega)]
  rfl
theorem sz_of {t : ByteArray} {l : List UInt8} (e : t.data.toList = l) (h : l.length ≤ 1000) : t.size ≤ 1000 := by
  have := congrArg List.length e
  have e2 : t.size = t.data.toList.length := by simp
  omega
/-- Texts that are no number. -/
def bads (s : ByteArray) : List ByteArray := [s ++ ⟨#[46, 48]⟩, s ++ ⟨#[101, 49]⟩, ⟨#[48]⟩ ++ s, ⟨#[43]⟩ ++ s, s ++ ⟨#[120]⟩, ⟨#[45, 48]⟩, ⟨#[48, 48]⟩, ⟨#[45]⟩,
  ⟨#[57, 50, 50, 51, 51, 55, 50, 48, 51, 54, 56, 53, 52, 55, 55, 53, 56, 48, 56]⟩, ⟨#[45, 57, 50, 50, 51, 51, 55, 50, 48, 51, 54, 56, 53, 52, 55, 55, 53, 56, 48, 57]⟩, ⟨#[49, 95, 48]⟩, ⟨#[46, 53]⟩]
theorem bads_bad (x : Int) (h0 : -9223372036854775808 ≤ x) (h1 : x ≤ 9223372036854775807) : ∀ t ∈ bads ⟨(Lib.itoa x).toArray⟩, parseN numD t.data.toList = .error 300 ∧ t.size ≤ 1000 := by
  have hil := Lib.itoa_length_le x h0 h1
  intro t ht
  simp only [bads, List.mem_cons, List.not_mem_nil, or_false] at ht
  rcases ht with rfl | rfl | rfl | rfl | rfl | rfl | rfl | rfl | rfl | rfl | rfl | rfl
  · have e : (ByteArray.mk (Lib.itoa x).toArray ++ ⟨#[46, 48]⟩).data.toList = Lib.itoa x ++ [46, 48] := by simp
    refine ⟨by rw [e, parse_num x h0 h1 _ (by decide) (fun c r h => by simp only [List.cons.injEq] at h; rw [← h.1]; decide)]; rfl, sz_of e (by simp; omega)⟩
  · have e : (ByteArray.mk (Lib.itoa x).toArray ++ ⟨#[101, 49]⟩).data.toList = Lib.itoa x ++ [101, 49] := by simp
    refine ⟨by rw [e, parse_num x h0 h1 _ (by decide) (fun c r h => by simp only [List.cons.injEq] at h; rw [← h.1]; decide)]; rfl, sz_of e (by simp; omega)⟩
  · have e : (⟨#[48]⟩ ++ ByteArray.mk (Lib.itoa x).toArray).data.toList = 48 :: Lib.itoa x := by simp
    exact ⟨by rw [e]; exact parse_zero x h0 h1, sz_of e (by simp; omega)⟩
  · have e : (⟨#[43]⟩ ++ ByteArray.mk (Lib.itoa x).toArray).data.toList = 43 :: Lib.itoa x := by simp
    exact ⟨by rw [e]; exact parse_plus x h0 h1, sz_of e (by simp; omega)⟩
  · have e : (ByteArray.mk (Lib.itoa x).toArray ++ ⟨#[120]⟩).data.toList = Lib.itoa x ++ [120] := by simp
    refine ⟨by rw [e, parse_num x h0 h1 _ (by decide) (fun c r h => by simp only [List.cons.injEq] at h; rw [← h.1]; decide)]; rfl, sz_of e (by simp; omega)⟩
  · exact ⟨by kernel_rfl, by decide⟩
  · exact ⟨by kernel_rfl, by decide⟩
  · exact ⟨by kernel_rfl, by decide⟩
  · exact ⟨by kernel_rfl, by decide⟩
  · exact ⟨by kernel_rfl, by decide⟩
  · exact ⟨by kernel_rfl, by decide⟩
  · exact ⟨by kernel_rfl, by decide⟩

theorem bads_at (S : ByteArray) (j : Nat) (hj : j < 12) : ∃ t ∈ bads S, ([Value.string (S ++ ⟨#[46, 48]⟩), Value.string (S ++ ⟨#[101, 49]⟩), Value.string (⟨#[48]⟩ ++ S), Value.string (⟨#[43]⟩ ++ S), Value.string (S ++ ⟨#[120]⟩), Value.string ⟨#[45, 48]⟩, Value.string ⟨#[48, 48]⟩, Value.string ⟨#[45]⟩, Value.string ⟨#[57, 50, 50, 51, 51, 55, 50, 48, 51, 54, 56, 53, 52, 55, 55, 53, 56, 48, 56]⟩, Value.string ⟨#[45, 57, 50, 50, 51, 51, 55, 50, 48, 51, 54, 56, 53, 52, 55, 55, 53, 56, 48, 57]⟩, Value.string ⟨#[49, 95, 48]⟩, Value.string ⟨#[46, 53]⟩] : List Value)[j] = .string t := by
  rcases (by omega : j = 0 ∨ j = 1 ∨ j = 2 ∨ j = 3 ∨ j = 4 ∨ j = 5 ∨ j = 6 ∨ j = 7 ∨ j = 8 ∨ j = 9 ∨ j = 10 ∨ j = 11) with rfl | rfl | rfl | rfl | rfl | rfl | rfl | rfl | rfl | rfl | rfl | rfl
  all_goals exact ⟨_, by simp [bads], rfl⟩
theorem wrap_u64_nonneg (z : Int) : 0 ≤ IntKind.u64.wrap z := by
  rw [IntKind.wrap_u64]; omega
set_option maxHeartbeats 8000000 in
set_option maxRecDepth 100000 in
theorem jsonNumbers_walk (B : Nat) (x which : Int) (h0 : -9223372036854775808 ≤ x) (h1 : x ≤ 9223372036854775807) (w : World) (ht : TabLow B w) (hB : B ≤ w.heap.size) :
    Calls Tryd.prog 6 #[.int .i64 x, .int .i64 which] w fun e w' => e = .returned (.bool true) ∧ Below w.heap.size w w' := by
  have HA := Lib.hid (jawake_any B w ht hB)
  have HT := Lib.hid ht
  have hil := Lib.itoa_length_le x h0 h1
  obtain ⟨S, hS⟩ : ∃ S : ByteArray, S = ⟨(Lib.itoa x).toArray⟩ := ⟨_, rfl⟩
  have HS := Lib.hid hS
  have hss : S.size ≤ 21 := by rw [hS]; simp [ByteArray.size]; omega
  have HPr : Hid (∀ (u : World), Below w.heap.size w u → Calls Tryd.prog 15 #[.agg #[.int .i64 2, .bool false, .int .i64 x, .string ⟨#[]⟩, .slice none 0 0, .slice none 0 0]] u fun e w' => e = .returned (.tuple #[.string S, .int .i64 0]) ∧ Below u.heap.size u w') := by
    intro u hu
    have := jprint_any B (jInt x) [.int .i64 2, .bool false, .int .i64 x, .string ⟨#[]⟩, .slice none 0 0, .slice none 0 0] u (JIn.plain 2 false x ByteArray.empty) (jsm_scal 2 false x ByteArray.empty ⟨h0, h1⟩ (by decide)) (HT.out.keep fun g hg => hu.block g (by omega)) (by have := hu.size; omega)
    rw [print_int x h0 h1] at this
    rw [hS]
    exact this
  have HPa : Hid (∀ (u : World), Calls Tryd.prog 10 #[.string S] u fun e w' => ∃ a b c d, e = .returned (.tuple #[.agg #[.int .i64 2, .bool false, .int .i64 x, .string ⟨#[]⟩, .slice a 0 b, .slice c 0 d], .int .i64 0]) ∧ Below u.heap.size u w') := by
    intro u
    have hp := jparse_any S u (by omega)
    have e : parseN numD S.data.toList = .ok (jInt x) := by
      rw [hS]
      have := parse_num x h0 h1 [] (by decide) (fun c r h => by cases h)
      rw [List.append_nil] at this
      exact this
    rw [e] at hp
    refine hp.mono ?_
    rintro e w' ⟨cs, rfl, hb, hj⟩
    obtain ⟨_, _, _, _, _, _, lv, kv, cs, hl, hk, hc, hs⟩ := hj
    obtain ⟨_, a, b, rfl, _⟩ := hl
    obtain ⟨_, c, d, rfl, _⟩ := hk
    exact ⟨a, b, c, d, rfl, hb⟩
  have HBd := Lib.hid (fun t ht => bads_bad x h0 h1 t (hS ▸ ht))
  have hD := fun u => decimal_z x h0 h1 u
  rw [← hS] at hD
  have HD := Lib.hid hD
  clear ht hil hS hD
  obtain ⟨j, hj, ej⟩ : ∃ j : Nat, j < 12 ∧ (IntKind.u64.wrap which).tmod 12 = (j : Int) := by
    have h0 := wrap_u64_nonneg which
    rw [Int.tmod_eq_emod_of_nonneg h0]
    exact ⟨((IntKind.u64.wrap which) % 12).toNat, by omega, by omega⟩
  obtain ⟨t, ht, et⟩ := bads_at S j hj
  obtain ⟨hbd1, hbd2⟩ := HBd.out t ht
  have hP2 := fun u => jparse_any t u (by omega)
  rw [hbd1] at hP2
  have HP2 := Lib.hid hP2
  clear hP2 hbd1 ht HBd
  go_enter Tryd.func6, Tryd.ntmps6
  go_wp2_with (first
    | (go_at_call 14; refine HA.out.mono ?_; rintro e w1 ⟨rfl, hb1⟩; have HB1 := Lib.hid hb1; clear hb1)
    | (go_at_call 15; refine (HPr.out w1 HB1.out).mono ?_; rintro e w2 ⟨rfl, hb2⟩; have HB2 := Lib.hid hb2; clear hb2)
    | (go_at_call 10; first
       | ((with_reducible refine (HPa.out _).mono ?_); rintro e w3 ⟨pa, pb, pc, pd, rfl, hb3⟩
          have hA3 := hb3.alloc hb3.size (.cells #[.int .i64 2, .bool false, .int .i64 x, .string ⟨#[]⟩, .slice pa 0 pb, .slice pc 0 pd] 25)
          have V3 := j6_new w3 (.int .i64 2) (.bool false) (.int .i64 x) (.string ⟨#[]⟩) (.slice pa 0 pb) (.slice pc 0 pd)
          have HB3 := Lib.hid hA3; have HV3 := Lib.hid V3; have hw3 : w2.heap.size ≤ w3.heap.size := hb3.size; clear hb3 hA3 V3)
       | ((with_reducible refine (HP2.out _).mono ?_); rintro e w4 ⟨rfl, hb4⟩; unfold zJ; have HB4 := Lib.hid hb4; have V4 := (j6_alloc HV3.out _).frm (Frm.of_new hb4 (fun _ => False)) id; have HA4 := Lib.hid (hb4.alloc hb4.size (.cells #[.int .i64 0, .bool false, .int .i64 0, .string ⟨#[]⟩, .slice none 0 0, .slice none 0 0] 25)); have V5 := j6_alloc V4 (.cells #[.int .i64 0, .bool false, .int .i64 0, .string ⟨#[]⟩, .slice none 0 0, .slice none 0 0] 25); have HV5 := Lib.hid V5; clear hb4 V4 V5))
    | (go_at_call 13; refine (num_any _ _).mono ?_; rintro e w' ⟨rfl, rfl⟩)
    | (go_at_call 18; refine (HD.out _).mono ?_; rintro e w6 ⟨rfl, hb6⟩; have HB6 := Lib.hid hb6; have V6 := HV5.out.frm (Frm.of_new hb6 (fun _ => False)) id; have v0 := V6.c0; have v2 := V6.c2; clear hb6 V6))
  go_ret
  exact ⟨rfl, ((((((Frm.of_below HB1.out).trans (Frm.of_new HB2.out _)).trans (Frm.of_new HB3.out _)).alloc _).trans (Frm.of_new HA4.out _)).trans (Frm.of_new HB6.out _)).below (Nat.le_refl _)⟩
end Go.Proofs.YtekbhnljdpjojaaDoor
