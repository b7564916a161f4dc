/- The walk of StoreRoom. -/
import Derived.Test.YtepenaoffdaacaaAwake
import Derived.Test.YtepenaoffdaacaaKeys
namespace Go.Proofs.Ytepenaoffdaacaa
open Go.Conc Go.RowKit

theorem rem_small (x : Int) (k : Nat) (hk : k ≤ 1000) : ∃ r : Nat, r < k + 1 ∧ wrap64 ((IntKind.u64.wrap x).tmod (1 + (k : Int))) = (r : Int) := by
  have h0 : 0 ≤ IntKind.u64.wrap x := by rw [IntKind.wrap_u64]; omega
  rw [Int.tmod_eq_emod_of_nonneg h0]
  have h1 := Int.emod_nonneg (IntKind.u64.wrap x) (b := 1 + (k : Int)) (by omega)
  have h2 := Int.emod_lt_of_pos (IntKind.u64.wrap x) (b := 1 + (k : Int)) (by omega)
  refine ⟨((IntKind.u64.wrap x) % (1 + (k : Int))).toNat, by omega, ?_⟩
  rw [IntWalk.wrap64_in _ ⟨by omega, by omega⟩]
  omega

def kAgain : ByteArray := ⟨#[97, 103, 97, 105, 110]⟩
def kMore : ByteArray := ⟨#[109, 111, 114, 101]⟩
theorem may_again : KeyMay kAgain := may_list [97, 103, 97, 105, 110] (by decide) (by decide) (by decide)
theorem may_more : KeyMay kMore := may_list [109, 111, 114, 101] (by decide) (by decide) (by decide)

set_option maxHeartbeats 1000000 in
theorem room_walk (a0 a1 : Int) (w : World) : Calls Try.prog 7 #[.int .i64 a0, .int .i64 a1] w fun e w' => e = .returned (.bool true) ∧ Below w.heap.size w w' := by
  obtain ⟨k, hk, ek⟩ := and_small a0 31 (by omega)
  have ek' : bits .and .i64 a0 31 = (k : Int) := ek
  clear ek
  go_enter Try.func7, Try.ntmps7
  go_wp2_with fail
  refine (awake_any _).mono ?_
  rintro e w1 ⟨rfl, b1⟩
  have B1 := Lib.hid b1
  clear b1
  obtain ⟨F, hFd⟩ : ∃ F : Nat → Prop, F = fun k => w1.heap.size ≤ k := ⟨_, rfl⟩
  have HF : Hid (∀ v : World, Frm F w1 v → ∀ k, v.heap.size ≤ k → F k) := fun v hv k hk => by rw [hFd]; exact Nat.le_trans hv.size hk
  have HD := Lib.hid hFd
  clear hFd
  go_wp2_with fail
  refine (new_any (1 + (k : Int)) (by omega) (by omega) _ (HF.out _ (Frm.refl _ _))).mono ?_
  rintro e w2 ⟨rfl, s2, f2⟩
  have S2 := Lib.hid s2
  have F2 := Lib.hid f2
  clear s2 f2 ek'
  go_wp2_with fail
  go_loopw [8] (fun i wr => ∃ a : Nat, a ≤ k + 4 ∧ i = .int .i64 a ∧ (∃ os, Sto wr F w1.heap.size ⟨1 + (k : Int), os, a, 0⟩ ∧ os.length = min a (k + 1) ∧ KeysIn 111 os (fun j => j < min a (k + 1)) ∧ ∀ j, j < min a (k + 1) → keyOf 111 j ∈ os.map Ob.key) ∧ Frm F w1 wr) (fun i _ => k + 4 - (intOf i).toNat)
  case atStart => exact ⟨0, Nat.zero_le _, rfl, ⟨[], S2.out, by simp, KeysIn.nil _ _, fun j hj => by omega⟩, F2.out⟩
  case round =>
    obtain ⟨a, ha, rfl, ⟨os, s4, hl, hin, hall⟩, f4⟩ := hrel
    have S4 := Lib.hid s4
    have F4 := Lib.hid f4
    have HIn := Lib.hid hin
    have HL := Lib.hid hl
    have HA := Lib.hid hall
    clear s4 f4 hin hl hall
    have hdl := dec_length a
    by_cases hlt : a < k + 4
    · by_cases hka : a < k + 1
      · go_wp2_with (first
          | (go_at_call 21; refine (decimal_any a (by omega) _).mono ?_; rintro e w5 ⟨rfl, b5⟩; have B5 := Lib.hid b5; clear b5))
        rw [keyOf_eq]
        refine (put_ok w1.heap.size (keyOf 111 a) ⟨#[]⟩ 0 w5 _ (S4.out.new B5.out) (HF.out _ (F4.out.trans (Frm.of_new B5.out F))) rfl (by simp; omega) HIn.out.1 (keyOf_may 111 (by decide) a) (by decide) (by omega) (HIn.out.not_mem (by omega) (by omega)) (by have := HL.out; simp; omega)).mono ?_
        rintro e w6 ⟨rfl, s6, f6⟩
        have S6 := Lib.hid s6
        have F6 := Lib.hid ((F4.out.trans (Frm.of_new B5.out F)).trans f6)
        clear s6 f6
        go_wp2_with (go_at_call 12; refine (num_any _ _).mono ?_; rintro e w' ⟨rfl, rfl⟩)
        go_roundw
        case rel =>
          refine ⟨a + 1, by omega, by go_num, ⟨_, S6.out, ?_, HIn.out.insert (i := a) (T := fun j => j < min (a + 1) (k + 1)) (by omega) (by omega) ⟨#[]⟩ 0 (fun j hj => by omega) (by omega), fun j hj => ?_⟩, F6.out⟩
          · rw [insAt_length', HL.out]; omega
          · rw [mem_keys_insAt]
            rcases Nat.lt_or_ge j a with h | h
            · exact .inr (HA.out j (by omega))
            · exact .inl (by rw [show j = a from by omega])
        case measure => simp [intOf]; omega
      · go_wp2_with (first
          | (go_at_call 21; refine (decimal_any a (by omega) _).mono ?_; rintro e w5 ⟨rfl, b5⟩; have B5 := Lib.hid b5; clear b5))
        rw [keyOf_eq]
        refine (put_full w1.heap.size (keyOf 111 a) ⟨#[]⟩ 0 w5 _ (S4.out.new B5.out) rfl (by simp; omega) HIn.out.1 (keyOf_may 111 (by decide) a) (by decide) (by omega) (HIn.out.not_mem (by omega) (by omega)) (by have := HL.out; simp; omega)).mono ?_
        rintro e w6 ⟨rfl, s6, f6⟩
        have S6 := Lib.hid s6
        have F6 := Lib.hid ((F4.out.trans (Frm.of_new B5.out F)).trans f6)
        clear s6 f6
        go_wp2_with (go_at_call 12; refine (num_any _ _).mono ?_; rintro e w' ⟨rfl, rfl⟩)
        go_roundw
        case rel =>
          refine ⟨a + 1, by omega, by go_num, ⟨os, S6.out, by rw [HL.out]; omega, ⟨HIn.out.1, fun o ho => ?_⟩, fun j hj => HA.out j (by omega)⟩, F6.out⟩
          obtain ⟨j, h1, h2, h3⟩ := HIn.out.2 o ho
          exact ⟨j, by omega, h2, h3⟩
        case measure => simp [intOf]; omega
    · obtain ⟨r, hr, er⟩ := rem_small a1 k (by omega)
      have ER := Lib.hid er
      clear er
      have hdr := dec_length r
      go_wp2_with fail
      rw [ER.out]
      refine (decimal_any r (by omega) _).mono ?_
      rintro e w5 ⟨rfl, b5⟩
      have B5 := Lib.hid b5
      clear b5
      go_wp2_with fail
      rw [keyOf_eq]
      have hmem := HA.out r (by omega)
      refine (del_ok w1.heap.size (keyOf 111 r) w5 _ (S4.out.new B5.out) (HF.out _ (F4.out.trans (Frm.of_new B5.out F))) rfl (by simp; omega) HIn.out.1 hmem).mono ?_
      rintro e w6 ⟨rfl, s6, f6⟩
      obtain ⟨os2, hos2⟩ : ∃ os2, os2 = delAt os (keyPlace (os.map Ob.key) (keyOf 111 r)) := ⟨_, rfl⟩
      rw [← hos2] at s6
      have hpl : keyPlace (os.map Ob.key) (keyOf 111 r) < os.length := by
        have := (List.getElem?_eq_some_iff.1 ((keyPlace_mem HIn.out.1 _).1 hmem)).1
        simpa using this
      have HIn2 : Hid (KeysIn 111 os2 (fun _ => True)) := by
        rw [hos2]
        refine ⟨rises_delAt HIn.out.1 _, fun o ho => ?_⟩
        obtain ⟨j, _, h2, h3⟩ := HIn.out.2 o (mem_of_mem_delAt ho)
        exact ⟨j, trivial, h2, h3⟩
      have HL2 : Hid (os2.length = k) := by
        unfold Hid
        rw [hos2, delAt_length _ _ hpl, HL.out]
        omega
      have S6 := Lib.hid s6
      have F6 := Lib.hid ((F4.out.trans (Frm.of_new B5.out F)).trans f6)
      clear s6 f6 hmem hpl hos2
      go_wp2_with fail
      refine (put_ok w1.heap.size kAgain ⟨#[]⟩ 0 w6 _ S6.out (HF.out _ F6.out) rfl (by simp; omega) HIn2.out.1 may_again (by decide) (by omega) (HIn2.out.other (by decide)) (by have := HL2.out; simp; omega)).mono ?_
      rintro e w7 ⟨rfl, s7, f7⟩
      obtain ⟨os3, hos3⟩ : ∃ os3, os3 = insAt os2 (keyPlace (os2.map Ob.key) kAgain) ⟨kAgain, ⟨#[]⟩, 0⟩ := ⟨_, rfl⟩
      have s7' : Sto w7 F w1.heap.size ⟨1 + (k : Int), os3, (a : Int) + 1 + 1, 0⟩ := by rw [hos3]; exact s7
      have HR3 : Hid (Rises (os3.map Ob.key)) := by
        unfold Hid
        rw [hos3]
        exact rises_insAt HIn2.out.1 ⟨kAgain, ⟨#[]⟩, 0⟩ (HIn2.out.other (by decide))
      have HN3 : Hid (kMore ∉ os3.map Ob.key) := by
        unfold Hid
        rw [hos3, mem_keys_insAt]
        rintro (h | h)
        · exact absurd (congrArg ByteArray.data h) (by decide)
        · exact HIn2.out.other (by decide) h
      have hl3 : os3.length = k + 1 := by
        rw [hos3, insAt_length', HL2.out]
      have S7 := Lib.hid s7'
      have F7 := Lib.hid (F6.out.trans f7)
      clear s7 s7' f7 hos3
      go_wp2_with fail
      refine (put_full w1.heap.size kMore ⟨#[]⟩ 0 w7 _ S7.out rfl (by simp; omega) HR3.out may_more (by decide) (by omega) HN3.out (by simp; omega)).mono ?_
      rintro e w8 ⟨rfl, s8, f8⟩
      have S8 := Lib.hid s8
      have F8 := Lib.hid (F7.out.trans f8)
      clear s8 f8
      have hmx : (os3.length : Int) = 1 + (k : Int) := by omega
      clear hl3
      go_wp2_with (first
        | (go_at_call 12; refine (num_any _ _).mono ?_; rintro e w' ⟨rfl, rfl⟩)
        | (go_at_call 18; refine (all_any w1.heap.size _ _ S8.out).mono ?_; rintro e w9 ⟨sv, rfl, hr, hb⟩; obtain ⟨a6, c6, rfl⟩ := row_shape hr; have HB := Lib.hid hb; clear hb hr))
      go_ret
      have hfr : Frm F w1 w9 := F8.out.trans (Frm.of_new HB.out F)
      rw [HD.out] at hfr
      exact ⟨rfl, B1.out.trans ((hfr.below (Nat.le_refl _)).mono B1.out.size)⟩
end Go.Proofs.Ytepenaoffdaacaa
