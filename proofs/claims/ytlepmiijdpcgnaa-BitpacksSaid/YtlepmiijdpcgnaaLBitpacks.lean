/- Any numbers in few bits, any bytes as such: the walk of the law. -/
import Derived.Test.YtlepmiijdpcgnaaKAwake
namespace Go.Proofs.Ytlepmiijdpcgnaa
open Go.Conc Go.RowKit
set_option linter.unusedVariables false

theorem frm_of_block {B : Nat} {a w w' : World} {ad : Option Addr} {c : Nat} {xs : List Int} (h : Below B a w) (hB : B ≤ a.heap.size) (ho : OwnI B w ad c xs) (hf : Frm (fun k => some k = ad.map (·.block)) w w') : Below B a w' := by
  refine ⟨hf.os.trans h.os, hf.tape.trans h.tape, hf.output.trans h.output, Nat.le_trans h.size hf.size, fun k hk => (hf.block k (by have := h.size; omega) (fun e => ?_)).trans (h.block k hk)⟩
  rcases ho.block with ⟨rfl, _⟩ | ⟨g, rfl, hg, _⟩
  · simp at e
  · simp at e; omega

theorem isl_spoiled {B0 c cd : Nat} {u w w' : World} {ac ad : Option Addr} {xs ys : List Int} (h : OwnI u.heap.size w ad cd ys) (hc : OwnI B0 u ac c xs) (hf : Frm (fun k => some k = ac.map (·.block)) w w') : IsL w' ad ys := by
  refine h.isL.keep fun b hb => ?_
  rcases h.block with ⟨rfl, _⟩ | ⟨g, rfl, hg, hl, _⟩
  · simp at hb
  · simp at hb
    subst hb
    refine hf.block b hl fun e => ?_
    rcases hc.block with ⟨rfl, _⟩ | ⟨g', rfl, _, hl', _⟩
    · simp at e
    · simp at e; omega

set_option maxRecDepth 100000 in
set_option maxHeartbeats 4000000 in
theorem bitpacks_walk (a : Option Addr) (cap : Nat) (xs : List Int) (z : Int) (s : ByteArray) (many : Int) (hm : many < 9223372036854775808) {w : World} (ha : IsL w a xs) (hn : a = none → xs.length = 0 ∧ cap = 0) (hx1 : xs.length * 8 ≤ 140737488351232) (hb1 : ∀ x ∈ xs, -9223372036854775808 ≤ x ∧ x < 9223372036854775808) (hs : s.size ≤ 140737488351232) :
    Calls Try.prog 3 #[.slice a xs.length cap, .int .i64 z, .string s, .int .i64 many] w fun e w' => e = .returned (.bool true) ∧ Below w.heap.size w w' := by
  have hx : (xs.length + 2) * 8 ≤ 140737488355328 := by omega
  have hb : ∀ x ∈ xs, x < 9223372036854775808 := fun x h => (hb1 x h).2
  clear hx1 hb1
  have T1 := Lib.hid (lendints_any w a cap xs ha hn hx)
  have T2 : Hid (∀ u g c (h : IsL u (some ⟨g, 0, none⟩) xs), Calls Try.prog 7 #[.slice (some ⟨g, 0, none⟩) xs.length c, .int .i64 z] u fun e w' => e = .returned (.tuple #[.string (packA xs z).1, .int .i64 (packA xs z).2]) ∧ Below u.heap.size u w') := fun u g c h => kpack_any u _ c z xs h (by omega) hb
  have T3 : Hid (∀ u (h : IsL u a xs), Calls Try.prog 8 #[.slice a xs.length cap, .int .i64 z] u fun e w' => e = .returned (.tuple #[.string (packA xs z).1, .int .i64 (packA xs z).2]) ∧ Below u.heap.size u w') := fun u h => rpack_any u _ cap z xs h (by omega) hb
  have T4 := Lib.hid (fun u => kunpack_any u s (by omega) many z)
  have T6 := Lib.hid (fun u => runpack_any u s (by omega) many z)
  have hys : (unpackA s many z).1.length ≤ maxLen := by
    unfold unpackA
    split
    · split
      · split
        · simp only [List.length_map, List.length_range, maxLen]; omega
        · simp
      · simp
    · simp
  have T7 : Hid (∀ u a2 b2 c2 d2 (h : IsL u a2 (unpackA s many z).1) (h2 : IsL u b2 (unpackA s many z).1), Calls Try.prog 12 #[.slice a2 (unpackA s many z).1.length c2, .slice b2 (unpackA s many z).1.length d2] u fun e w' => e = .returned (.bool true) ∧ Below u.heap.size u w') := fun u a2 b2 c2 d2 h h2 => by
    have h3 := sameints_any u a2 b2 c2 d2 _ _ h h2 hys
    rw [decide_eq_true rfl] at h3
    exact h3
  have T8 : Hid (∀ u g c base (h : OwnI base u (some ⟨g, 0, none⟩) c (xs ++ [-7777, -8888])) (h2 : IsL u a xs), Calls Try.prog 13 #[.slice (some ⟨g, 0, none⟩) xs.length c, .slice a xs.length cap] u fun e w' => e = .returned (.bool true) ∧ Below u.heap.size u w') := fun u g c base h h2 => keptints_any u g c a cap base xs h h2 hx
  have T9 := Lib.hid (fun u => kwidth_any many hm u)
  have T10 := Lib.hid (fun u => rwidth_any many hm u)
  have T11 : Hid (∀ u a2 c2 base (h : OwnI base u a2 c2 (unpackA s many z).1), Calls Try.prog 16 #[.slice a2 (unpackA s many z).1.length c2] u fun e w' => e = .returned (.tuple #[]) ∧ Frm (fun k => some k = a2.map (·.block)) u w') := fun u a2 c2 base h => spoilints_any u a2 c2 base _ h hys
  have HA := Lib.hid ha
  generalize (packA xs z).1 = tx at *
  generalize (packA xs z).2 = ex at *
  generalize (unpackA s many z).1 = ys at *
  generalize (unpackA s many z).2 = ey at *
  generalize wid many.toNat = wm at *
  clear ha hn hx hb hs hm hys
  go_enter Try.func3, Try.ntmps3
  go_upto_region 2 with (go_at_call 6; refine T1.out.mono ?_; rintro e w1 ⟨g, c, rfl, ho, hb⟩; have HL := Lib.hid (OwnI.isL ho); have HO := Lib.hid ho; have HB := Lib.hid hb; clear ho hb)
  replace HL : Hid (IsL w1 (some ⟨g, 0, none⟩) xs) := by have := HL.out.take xs.length; rwa [List.take_left] at this
  go_upto_region 3 with (go_at_call 7; refine (T2.out _ _ _ HL.out).mono ?_; rintro e w2 ⟨rfl, hb⟩; replace HO := Lib.hid (OwnI.below HO.out hb); replace HB := Lib.hid (HB.out.trans (hb.mono HB.out.size)); clear hb)
  clear T1 T2 HL
  go_upto_region 4 with (go_at_call 8; refine (T3.out _ (HA.out.below HB.out)).mono ?_; rintro e w3 ⟨rfl, hb⟩; replace HO := Lib.hid (OwnI.below HO.out hb); replace HB := Lib.hid (HB.out.trans (hb.mono HB.out.size)); clear hb)
  go_upto_region 5 with (go_at_call 9; refine (T4.out _).mono ?_; rintro e w4 ⟨ac, cc, rfl, hoc, hb⟩; replace HO := Lib.hid (OwnI.below HO.out hb); have HC0 := Lib.hid (hoc.lower HB.out.size); have HC := HC0; replace HB := Lib.hid (HB.out.trans (hb.mono HB.out.size)); clear hb hoc)
  go_upto_region 6 with (go_at_call 9; refine (T4.out _).mono ?_; rintro e w5 ⟨ad, cd, rfl, hod, hb⟩; replace HO := Lib.hid (OwnI.below HO.out hb); replace HC := Lib.hid (OwnI.below HC.out hb); have HD := Lib.hid hod; replace HB := Lib.hid (HB.out.trans (hb.mono HB.out.size)); have HS5 := Lib.hid hb.size; clear hb hod)
  go_upto_region 7 with (go_at_call 10; refine (T6.out _).mono ?_; rintro e w6 ⟨aw, cw, rfl, how, hb⟩; replace HO := Lib.hid (OwnI.below HO.out hb); replace HC := Lib.hid (OwnI.below HC.out hb); replace HD := Lib.hid (OwnI.below HD.out hb); have HW := Lib.hid (how.lower HS5.out); replace HB := Lib.hid (HB.out.trans (hb.mono HB.out.size)); clear hb how)
  clear T3 T4 T6
  go_upto_region 9 with (first
    | (go_at_call 11; refine (num_any _ _).mono ?_; rintro e w' ⟨rfl, rfl⟩)
    | (go_at_call 12; refine (T7.out _ _ _ _ _ HC.out.isL HW.out.isL).mono ?_; rintro e w7 ⟨rfl, hb⟩; replace HO := Lib.hid (OwnI.below HO.out hb); replace HC := Lib.hid (OwnI.below HC.out hb); replace HD := Lib.hid (OwnI.below HD.out hb); replace HW := Lib.hid (OwnI.below HW.out hb); replace HB := Lib.hid (HB.out.trans (hb.mono HB.out.size)); clear hb)
    | (go_at_call 13; refine (T8.out _ _ _ _ HO.out (HA.out.below HB.out)).mono ?_; rintro e w8 ⟨rfl, hb⟩; replace HC := Lib.hid (OwnI.below HC.out hb); replace HD := Lib.hid (OwnI.below HD.out hb); replace HW := Lib.hid (OwnI.below HW.out hb); replace HB := Lib.hid (HB.out.trans (hb.mono HB.out.size)); clear hb)
    | (go_at_call 14; refine (T9.out _).mono ?_; rintro e w' ⟨rfl, rfl⟩)
    | (go_at_call 15; refine (T10.out _).mono ?_; rintro e w' ⟨rfl, rfl⟩))
  clear T8 T9 T10
  go_upto_region 10 with (go_at_call 16; refine (T11.out _ _ _ _ HC.out).mono ?_; rintro e w9 ⟨rfl, hf⟩; replace HD := Lib.hid (isl_spoiled HD.out HC0.out hf); replace HW := Lib.hid (isl_spoiled HW.out HC0.out hf); replace HB := Lib.hid (frm_of_block HB.out (Nat.le_refl _) HC.out hf); clear hf)
  go_wp2_with (first
    | (go_at_call 12; refine (T7.out _ _ _ _ _ HD.out HW.out).mono ?_; rintro e w10 ⟨rfl, hb⟩; replace HB := Lib.hid (HB.out.trans (hb.mono HB.out.size)); clear hb)
    | (go_at_call 17; refine (kawake_any _).mono ?_; rintro e w11 ⟨rfl, hb⟩; replace HB := Lib.hid (HB.out.trans (hb.mono HB.out.size)); clear hb))
  go_ret
  exact ⟨rfl, HB.out⟩
end Go.Proofs.Ytlepmiijdpcgnaa
