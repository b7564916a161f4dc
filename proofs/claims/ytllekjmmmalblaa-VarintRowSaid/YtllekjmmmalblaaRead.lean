/- The number at a place: the program's way. -/
import Derived.Test.YtllekjmmmalblaaJoin
import Derived.OwnWalk
namespace Go.Proofs.Ytllekjmmmalblaa
open Go.RowKit
set_option linter.unusedVariables false

theorem drop_get (s : ByteArray) (k i : Nat) (h : k + i < s.size) : (s.data.toList.drop k)[i]'(by rw [List.length_drop, ← size_list]; omega) = s[k + i] := by
  rw [List.getElem_drop, get_list s (k + i) h]
theorem drop_len (s : ByteArray) (k : Nat) : (s.data.toList.drop k).length = s.size - k := by rw [List.length_drop, ← size_list]
theorem run_span (s : ByteArray) (k p : Nat) (hk : k ≤ p) (hp : p < s.size) (lo : s[p].toNat < 128) (hi : ∀ i (h : i < p), k ≤ i → 128 ≤ (s[i]'(by omega)).toNat) : run (s.data.toList.drop k) = p - k := by
  refine run_is _ _ (by rw [drop_len]; omega) ?_ ?_
  · rw [drop_get s k (p - k) (by omega)]
    have e : k + (p - k) = p := by omega
    simp only [e]
    exact lo
  · intro i h
    rw [drop_get s k i (by omega)]
    exact hi (k + i) (by omega) (by omega)
theorem run_none (s : ByteArray) (k : Nat) (hk : k ≤ s.size) (hi : ∀ i (h : i < s.size), k ≤ i → 128 ≤ s[i].toNat) : run (s.data.toList.drop k) = (s.data.toList.drop k).length := by
  apply run_all
  intro i h
  rw [drop_len] at h
  rw [drop_get s k i (by omega)]
  exact hi (k + i) (by omega) (by omega)
theorem jbad_seg {d : List UInt8} (h : run d < d.length) : jbad (seg d) ↔ bad d := by
  have e : ((seg d).getD (run d) 0).toNat = top d := by
    unfold seg top
    rw [List.getD_eq_getElem?_getD, List.getD_eq_getElem?_getD, List.getElem?_take_of_lt (by omega)]
  unfold jbad bad
  rw [seg_length h, Nat.add_sub_cancel, e]
  constructor
  · rintro (⟨h1, h2⟩ | h2)
    · exact .inl ⟨by omega, h2⟩
    · exact .inr h2
  · rintro (⟨h1, h2⟩ | h2)
    · exact .inl ⟨by omega, h2⟩
    · exact .inr h2
theorem extract_list (s : ByteArray) (k q : Nat) : (s.extract k q).data.toList = (s.data.toList.drop k).take (q - k) := by
  rw [ByteArray.data_extract, Array.toList_extract]
/-- What joined answers, of the bytes at a place, and what is read there. -/
theorem jn_read (s : ByteArray) (k p : Nat) (hk : k ≤ p) (hp : p < s.size) (hr : run (s.data.toList.drop k) = p - k) :
    (jn (s.extract k (p + 1)).data.toList = (0, false) ∧ readN s.data.toList k = (0, 0, 501)) ∨
    (∃ v, v < 18446744073709551616 ∧ jn (s.extract k (p + 1)).data.toList = (v, true) ∧ readN s.data.toList k = (v, (p : Int) + 1, 0)) := by
  have hl : run (s.data.toList.drop k) < (s.data.toList.drop k).length := by rw [hr, drop_len]; omega
  have hs : (s.extract k (p + 1)).data.toList = seg (s.data.toList.drop k) := by
    rw [extract_list]
    unfold seg
    rw [hr, show p - k + 1 = p + 1 - k by omega]
  rw [hs]
  have hj := jbad_seg hl
  have hk2 : k ≤ s.data.toList.length := by rw [← size_list]; omega
  by_cases c : bad (s.data.toList.drop k)
  · exact .inl ⟨if_pos (hj.2 c), readN_bad hk2 hl c⟩
  · refine .inr ⟨vval (seg (s.data.toList.drop k)), ?_, if_neg (fun x => c (hj.1 x)), ?_⟩
    · unfold bad at c; omega
    · rw [readN_yes hk2 hl c, hr]
      refine Prod.ext rfl (Prod.ext ?_ rfl)
      show (k : Int) + ((p - k : Nat) : Int) + 1 = (p : Int) + 1
      omega

set_option maxRecDepth 100000 in
set_option maxHeartbeats 1000000 in
theorem vread_any (s : ByteArray) (hs : s.size ≤ 281474976710648) (a : Int) (w : World) : Calls Try.prog 19 #[.string s, .int .i64 a] w fun e w' =>
    e = .returned (.tuple #[.int .u64 ((readN s.data.toList a).1 : Int), .int .i64 (readN s.data.toList a).2.1, .int .i64 (readN s.data.toList a).2.2]) ∧ w = w' := by
  by_cases c0 : a < 0
  · have hr : readN s.data.toList a = (0, 0, 500) := readN_out (.inl c0)
    rw [hr]
    clear hr
    go_enter Try.func19, Try.ntmps19
    go_wp2
    go_ret3
    exact ⟨rfl, rfl⟩
  by_cases c1 : (s.size : Int) < a
  · have hr : readN s.data.toList a = (0, 0, 500) := readN_out (.inr (by rw [← size_list]; exact c1))
    rw [hr]
    clear hr
    go_enter Try.func19, Try.ntmps19
    go_wp2
    go_ret3
    exact ⟨rfl, rfl⟩
  obtain ⟨k, rfl⟩ : ∃ k : Nat, a = k := ⟨a.toNat, by omega⟩
  have hk : k ≤ s.size := by omega
  clear c0 c1
  go_enter Try.func19, Try.ntmps19
  go_wp2
  go_loop [7] (fun pv => ∃ p : Nat, k ≤ p ∧ p ≤ s.size ∧ pv = .int .i64 p ∧ Hid (∀ i (h : i < p) (h2 : i < s.size), k ≤ i → 128 ≤ s[i].toNat)) (fun pv => s.size - (intOf pv).toNat)
  case atStart => exact ⟨k, Nat.le_refl _, hk, rfl, fun i h _ h2 => by omega⟩
  case round =>
    obtain ⟨p, hkp, hp, rfl, hall⟩ := hrel
    by_cases c : p < s.size
    · by_cases cb : s[p].toNat < 128
      · have hr := run_span s k p hkp c cb (fun i h h2 => hall.out i h (by omega) h2)
        have hb2 : (k : Int) ≤ (p : Int) + 1 := by omega
        have hb3 : (p : Int) + 1 ≤ s.size := by omega
        have hb4 : ((p : Int) + 1).toNat = p + 1 := by omega
        have hz : (s.extract k (p + 1)).size = p + 1 - k := by rw [ByteArray.size_extract]; omega
        have T := Lib.hid (vjoin_any (s.extract k (p + 1)) (by omega) (by omega))
        rcases jn_read s k p hkp c hr with ⟨h1, h2⟩ | ⟨v, hv, h1, h2⟩
        · rw [h1] at T
          clear h1 hr hall
          go_wp2_with (go_at_call 21; refine (T.out _).mono ?_; rintro e w' ⟨rfl, rfl⟩)
          go_ret3
          exact ⟨by rw [h2]; rfl, rfl⟩
        · rw [h1] at T
          clear h1 hr hall
          go_wp2_with (go_at_call 21; refine (T.out _).mono ?_; rintro e w' ⟨rfl, rfl⟩)
          go_ret3
          exact ⟨by rw [h2]; rfl, rfl⟩
      · have hall2 : Hid (∀ i (h : i < p + 1) (h2 : i < s.size), k ≤ i → 128 ≤ s[i].toNat) := fun i h h2 h3 => by
          by_cases ci : i = p
          · subst ci; omega
          · exact hall.out i (by omega) h2 h3
        clear hall
        go_wp2
        go_round
        case rel => exact ⟨p + 1, by omega, by omega, by go_num, hall2⟩
        case measure => simp [intOf]; omega
    · obtain rfl : p = s.size := by omega
      have hr := readN_cut (l := s.data.toList) (k := k) (run_none s k hk (fun i h h2 => hall.out i h h h2))
      clear hall
      go_wp2
      go_ret3
      exact ⟨rfl, rfl⟩
end Go.Proofs.Ytllekjmmmalblaa
