/- The reference's Below: one text ahead of another. -/
import Derived.Test.YtgpnfmkonhaccaaOrd
import Derived.Test.YtgpnfmkonhaccaaFrm
import Derived.Deep.QuietTactic
namespace Go.Proofs.Ytgpnfmkonhaccaa
open Go.Conc Go.RowKit

theorem bel_drewN {B : Nat} {a w : World} {n : Nat} (h : Below B a w) : Below B a (w.drewN n) := ⟨h.os, h.tape, h.output, h.size, h.block⟩
theorem cmpL_drop : ∀ (i : Nat) (a b : List UInt8), a.take i = b.take i → i ≤ a.length → i ≤ b.length → cmpL a b = cmpL (a.drop i) (b.drop i)
  | 0, _, _, _, _, _ => rfl
  | i + 1, [], _, _, h, _ => absurd h (by simp)
  | i + 1, _ :: _, [], _, _, h => absurd h (by simp)
  | i + 1, x :: a, y :: b, h, ha, hb => by
    simp only [List.take_succ_cons, List.cons.injEq] at h
    obtain ⟨rfl, h⟩ := h
    rw [cmpL_cons, if_neg (by simp), if_neg (by simp)]
    simpa using cmpL_drop i a b h (by simpa using ha) (by simpa using hb)
theorem cmpK_take {a b : ByteArray} {i : Nat} (h : a.data.toList.take i = b.data.toList.take i) (ha : i ≤ a.size) (hb : i ≤ b.size) : cmpK a b = cmpL (a.data.toList.drop i) (b.data.toList.drop i) :=
  cmpL_drop i _ _ h (by simpa using ha) (by simpa using hb)
theorem cmpK_other {a b : ByteArray} {i : Nat} (h : a.data.toList.take i = b.data.toList.take i) (ha : i < a.size) (hb : i < b.size) (hne : a[i].toNat ≠ b[i].toNat) : decide (cmpK a b < 0) = decide (a[i].toNat < b[i].toNat) := by
  rw [cmpK_take h (by omega) (by omega)]
  have e1 : a.data.toList.drop i = a[i] :: a.data.toList.drop (i + 1) := by
    rw [List.drop_eq_getElem_cons (by simpa using ha)]
    simp
    rfl
  have e2 : b.data.toList.drop i = b[i] :: b.data.toList.drop (i + 1) := by
    rw [List.drop_eq_getElem_cons (by simpa using hb)]
    simp
    rfl
  rw [e1, e2, cmpL_cons]
  simp only [UInt8.lt_iff_toNat_lt]
  by_cases h1 : a[i].toNat < b[i].toNat
  · rw [if_pos h1]
    have : a[i].toNat < b[i].toNat := by omega
    simp [this]
  · rw [if_neg h1, if_pos (by omega)]
    have : ¬ a[i].toNat < b[i].toNat := by omega
    simp [this]
theorem cmpK_short {a b : ByteArray} {i : Nat} (h : a.data.toList.take i = b.data.toList.take i) (ha : i ≤ a.size) (hb : i ≤ b.size) (hs : i = a.size ∨ i = b.size) : decide (cmpK a b < 0) = decide (a.size < b.size) := by
  rw [cmpK_take h ha hb]
  have la : a.data.toList.length = a.size := by simp
  have lb : b.data.toList.length = b.size := by simp
  by_cases h1 : i = a.size
  · have e1 : a.data.toList.drop i = [] := List.drop_eq_nil_of_le (by omega)
    rw [e1]
    by_cases h2 : i = b.size
    · have e2 : b.data.toList.drop i = [] := List.drop_eq_nil_of_le (by omega)
      rw [e2]
      have : ¬ a.size < b.size := by omega
      simp [this, cmpL, Lib.compareBytes]
    · obtain ⟨x, r, e2⟩ : ∃ x r, b.data.toList.drop i = x :: r := ⟨_, _, List.drop_eq_getElem_cons (by omega)⟩
      rw [e2]
      have : a.size < b.size := by omega
      simp [this, cmpL, Lib.compareBytes]
  · have h2 : i = b.size := by omega
    have e2 : b.data.toList.drop i = [] := List.drop_eq_nil_of_le (by omega)
    obtain ⟨x, r, e1⟩ : ∃ x r, a.data.toList.drop i = x :: r := ⟨_, _, List.drop_eq_getElem_cons (by omega)⟩
    rw [e1, e2]
    have : ¬ a.size < b.size := by omega
    simp [this, cmpL, Lib.compareBytes]
theorem take_next {a b : ByteArray} {i : Nat} (h : a.data.toList.take i = b.data.toList.take i) (ha : i < a.size) (hb : i < b.size) (he : a[i].toNat = b[i].toNat) : a.data.toList.take (i + 1) = b.data.toList.take (i + 1) := by
  rw [List.take_add_one, List.take_add_one, h]
  have e1 : a.data.toList[i]? = some a[i] := by
    rw [List.getElem?_eq_getElem (by simpa using ha)]
    simp
    rfl
  have e2 : b.data.toList[i]? = some b[i] := by
    rw [List.getElem?_eq_getElem (by simpa using hb)]
    simp
    rfl
  rw [e1, e2, UInt8.toNat_inj.1 he]

set_option maxHeartbeats 800000 in
theorem rbelow_any (a b : ByteArray) (w : World) (hs : b.size ≤ 9223372036854775807) :
    Calls Try.prog 27 #[.string a, .string b] w fun e w' => e = .returned (.bool (decide (cmpK a b < 0))) ∧ Below w.heap.size w w' := by
  go_enter Try.func27, Try.ntmps27
  go_wp2
  go_loopw [5] (fun i wr => ∃ n : Nat, n ≤ a.size ∧ n ≤ b.size ∧ i = .int .i64 n ∧ Hid (a.data.toList.take n = b.data.toList.take n) ∧ Below w.heap.size w wr) (fun i _ => b.size - (intOf i).toNat)
  case atStart => exact ⟨0, Nat.zero_le _, Nat.zero_le _, rfl, rfl, Below.refl _ _⟩
  case round =>
    obtain ⟨n, hna, hnb, rfl, HT, hbel⟩ := hrel
    have HBel := Lib.hid hbel
    clear hbel
    by_cases h1 : n < a.size
    · by_cases h2 : n < b.size
      · by_cases he : a[n].toNat = b[n].toNat
        · go_wp2
          go_quiet (fail)
          go_wp2
          go_roundw
          case rel => exact ⟨n + 1, by omega, by omega, by go_num, take_next HT.out h1 h2 he, bel_drewN HBel.out⟩
          case measure => simp [intOf]; omega
        · have HO := Lib.hid (cmpK_other HT.out h1 h2 he)
          go_wp2
          go_quiet (fail)
          go_wp2
          go_quiet (fail)
          go_wp2
          go_ret
          exact ⟨by rw [HO.out]; rfl, bel_drewN (bel_drewN HBel.out)⟩
      · have HO := Lib.hid (cmpK_short HT.out hna hnb (.inr (by omega)))
        go_wp2
        go_ret
        exact ⟨by rw [HO.out]; rfl, HBel.out⟩
    · have HO := Lib.hid (cmpK_short HT.out hna hnb (.inl (by omega)))
      go_wp2
      go_ret
      exact ⟨by rw [HO.out]; rfl, HBel.out⟩

end Go.Proofs.Ytgpnfmkonhaccaa
