/- The walk of StoreCopies. -/
import Derived.Test.YtepenaoffdaacaaAwake
import Derived.Test.YtepenaoffdaacaaKeys
import Derived.Test.YtepenaoffdaacaaCopy
namespace Go.Proofs.Ytepenaoffdaacaa
open Go.Conc Go.RowKit

def kB : ByteArray := ⟨#[98]⟩
def ob1 : Ob := ⟨kA, kX, 1⟩
def ob2 : Ob := ⟨kB, kY, 2⟩
theorem may_kB : KeyMay kB := may_list [98] (by decide) (by decide) (by decide)
theorem rise_1 : Rises ([ob1].map Ob.key) := List.pairwise_singleton _ _
theorem not_B : kB ∉ [ob1].map Ob.key := by
  simp only [List.map_cons, List.map_nil, List.mem_cons, List.not_mem_nil, or_false]
  exact fun h => absurd (congrArg ByteArray.data h) (by decide)
theorem ins_B : insAt [ob1] (keyPlace ([ob1].map Ob.key) kB) ob2 = [ob1, ob2] := by
  have : keyPlace ([ob1].map Ob.key) kB = 1 := by decide
  rw [this]; rfl
theorem rise_2 : Rises ([ob1, ob2].map Ob.key) := by
  refine List.pairwise_cons.2 ⟨fun a ha => ?_, List.pairwise_singleton _ _⟩
  simp at ha
  subst ha
  decide
theorem mem_1 : kA ∈ [ob1, ob2].map Ob.key := by simp [ob1]
theorem del_A : delAt [ob1, ob2] (keyPlace ([ob1, ob2].map Ob.key) kA) = [ob2] := by
  have : keyPlace ([ob1, ob2].map Ob.key) kA = 0 := by decide
  rw [this]; rfl

set_option maxHeartbeats 2000000 in
theorem copies_walk (a0 : Int) (w : World) : Calls Try.prog 9 #[.int .i64 a0] w fun e w' => e = .returned (.bool true) ∧ Below w.heap.size w w' := by
  obtain ⟨k, hk, ek⟩ := and_small a0 3 (by omega)
  have ek' : bits .and .i64 a0 3 = (k : Int) := ek
  clear ek
  go_enter Try.func9, Try.ntmps9
  go_wp2_with fail
  refine (awake_any _).mono ?_
  rintro e w1 ⟨rfl, b1⟩
  have B1 := Lib.hid b1
  clear b1
  obtain ⟨F, hFd⟩ : ∃ F : Nat → Prop, F = fun k => w1.heap.size ≤ k := ⟨_, rfl⟩
  have HF : Hid (∀ v : World, Frm F w1 v → ∀ k, v.heap.size ≤ k → F k) := fun v hv k hk => by rw [hFd]; exact Nat.le_trans hv.size hk
  have HD := Lib.hid hFd
  clear hFd
  go_wp2_with fail
  refine (new_any 20 (by omega) (by omega) _ (HF.out _ (Frm.refl _ _))).mono ?_
  rintro e w2 ⟨rfl, s2, f2⟩
  have S2 := Lib.hid s2
  have F2 := Lib.hid f2
  clear s2 f2
  go_wp2_with fail
  refine (put_ok w1.heap.size kA kX 1 w2 ⟨20, [], 0, 0⟩ S2.out (HF.out _ F2.out) rfl (by simp) List.Pairwise.nil may_kA (by decide) (by omega) (by simp) (by simp)).mono ?_
  rintro e w3 ⟨rfl, s3, f3⟩
  have S3 : Hid (Sto w3 F w1.heap.size ⟨20, [ob1], 1, 0⟩) := s3
  have F3 := Lib.hid (F2.out.trans f3)
  clear s3 f3
  go_wp2_with fail
  refine (fail_yes w1.heap.size (k : Int) (by omega) (by omega) w3 _ S3.out (HF.out _ F3.out)).mono ?_
  rintro e w4 ⟨rfl, s4, f4⟩
  have S4 : Hid (Sto w4 F w1.heap.size ⟨20, [ob1], 1, (k : Int)⟩) := s4
  have F4 := Lib.hid (F3.out.trans f4)
  clear s4 f4 ek'
  go_wp2_with fail
  refine (copy_any w1.heap.size w4 _ S4.out (by show (k : Int) ≤ _; omega)).mono ?_
  rintro e w5 ⟨c, F5, G5, rfl, T5, hF5, hG5, f5⟩
  have T5 := Lib.hid T5
  have HF5 := Lib.hid hF5
  have HG5 := Lib.hid hG5
  have FR5 : Hid (Frm F w1 w5) := F4.out.trans (f5.mono fun k _ hk => by
    rcases hk with h | h
    · exact h
    · exact HF.out _ F4.out k h)
  have HC : Hid (∀ k, F5 k ∨ G5 k ∨ w5.heap.size ≤ k → F k) := fun k hk => by
    have z5 := f5.size
    rcases hk with h | h | h
    · rcases HF5.out k h with h | h
      · exact h
      · exact HF.out _ F4.out k h
    · exact HF.out _ F4.out k (HG5.out k h)
    · exact HF.out _ F4.out k (by omega)
  clear hF5 hG5 f5
  obtain ⟨G, hGd⟩ : ∃ G : Nat → Prop, G = fun k => G5 k ∨ w5.heap.size ≤ k := ⟨_, rfl⟩
  have HGd := Lib.hid hGd
  have HG : Hid (∀ v : World, Frm G w5 v → ∀ k, v.heap.size ≤ k → G k) := fun v hv k hk => by rw [hGd]; exact .inr (Nat.le_trans hv.size hk)
  have o5 : Sto w5 G c ⟨20, [ob1], 1, (k : Int)⟩ := T5.out.two.mono fun k _ hk => by rw [hGd]; exact .inl hk
  have O5 := Lib.hid o5
  clear o5 hGd
  go_wp2_with fail
  go_loopw [8] (fun i wr => ∃ a : Nat, a ≤ k ∧ i = .int .i64 a ∧ Sto wr G c ⟨20, [ob1], 1 + (a : Int), ((k - a : Nat) : Int)⟩ ∧ Frm G w5 wr) (fun i _ => k - (intOf i).toNat)
  case atStart => exact ⟨0, Nat.zero_le _, rfl, O5.out, Frm.refl _ _⟩
  case round =>
    obtain ⟨a, ha, rfl, o6, f6⟩ := hrel
    have O6 := Lib.hid o6
    have F6 := Lib.hid f6
    clear o6 f6
    by_cases hlt : a < k
    · go_wp2_with fail
      refine (get_fails c kA wr _ O6.out (HG.out _ F6.out) (by simp; omega) (by simp; omega) (by simp; omega)).mono ?_
      rintro e w7 ⟨rfl, o7, f7⟩
      have O7 := Lib.hid o7
      have F7 := Lib.hid (F6.out.trans f7)
      clear o7 f7
      go_wp2_with (go_at_call 12; refine (num_any _ _).mono ?_; rintro e w' ⟨rfl, rfl⟩)
      go_roundw
      case rel =>
        refine ⟨a + 1, by omega, by go_num, ?_, F7.out⟩
        have e0 : ((k - (a + 1) : Nat) : Int) = ((k - a : Nat) : Int) - 1 := by omega
        have e1 : (1 : Int) + ((a + 1 : Nat) : Int) = 1 + (a : Int) + 1 := by omega
        rw [e0, e1]
        exact O7.out
      case measure => simp [intOf]; omega
    · obtain rfl : a = k := by omega
      have o6' : Sto wr G c ⟨20, [ob1], 1 + (a : Int), 0⟩ := by
        have := O6.out
        rw [Nat.sub_self] at this
        exact this
      have O6' := Lib.hid o6'
      clear o6'
      go_wp2_with fail
      refine (put_ok c kB kY 2 wr _ O6'.out (HG.out _ F6.out) rfl (by simp; omega) rise_1 may_kB (by decide) (by omega) not_B (by simp)).mono ?_
      rintro e w7 ⟨rfl, o7, f7⟩
      have O7 : Hid (Sto w7 G c ⟨20, [ob1, ob2], 1 + (a : Int) + 1, 0⟩) := o7
      have F7 := Lib.hid (F6.out.trans f7)
      clear o7 f7
      go_wp2_with fail
      refine (del_ok c kA w7 _ O7.out (HG.out _ F7.out) rfl (by simp; omega) rise_2 mem_1).mono ?_
      rintro e w8 ⟨rfl, o8, f8⟩
      have O8 : Hid (Sto w8 G c ⟨20, [ob2], 1 + (a : Int) + 1 + 1, 0⟩) := o8
      have F8 := Lib.hid (F7.out.trans f8)
      clear o8 f8
      have s8 : Sto w8 F5 w1.heap.size ⟨20, [ob1], 1, (a : Int)⟩ := T5.out.one.frm F8.out fun k _ hk hg => by
        rw [HGd.out] at hg
        have := T5.out.lessF k hk
        rcases hg with h | h
        · exact T5.out.apart k hk h
        · omega
      have S8 := Lib.hid s8
      clear s8
      go_wp2_with fail
      refine (all_any w1.heap.size w8 _ S8.out).mono ?_
      rintro e w9 ⟨sv9, rfl, r9, b9⟩
      have R9 := Lib.hid r9
      have B9 := Lib.hid b9
      clear r9 b9
      go_wp2_with fail
      refine (all_any c w9 _ (O8.out.new B9.out)).mono ?_
      rintro e w10 ⟨sv10, rfl, r10, b10⟩
      have R10 := Lib.hid r10
      have B10 := Lib.hid b10
      clear r10 b10
      have s10 : Sto w10 (fun k => F5 k ∨ w10.heap.size ≤ k) w1.heap.size ⟨20, [ob1], 1, (a : Int)⟩ := ((S8.out.new B9.out).new B10.out).mono fun k _ hk => .inl hk
      have S10 := Lib.hid s10
      clear s10
      go_wp2_with fail
      rcases Nat.eq_zero_or_pos a with h0 | h0
      · subst h0
        refine (get_ok w1.heap.size kA w10 _ S10.out rfl (by simp) rise_1 ob1 (by simp) rfl).mono ?_
        rintro e w11 ⟨rfl, s11, f11⟩
        clear s11
        have FR : Hid (Frm F w1 w11) := (((FR5.out.trans (F8.out.mono fun k _ hk => HC.out k (by rw [HGd.out] at hk; exact .inr hk))).trans (Frm.of_new B9.out F)).trans (Frm.of_new B10.out F)).trans (f11.mono fun k _ hk => by
          have z8 := F8.out.size
          have z9 := B9.out.size
          have z10 := B10.out.size
          rcases hk with h | h
          · exact HC.out k (.inl h)
          · exact HC.out k (.inr (.inr (by omega))))
        have F11 := Lib.hid f11
        have HRow1 : Hid (w11.ownsRow 0 59 3 sv9 [ob1].length (rowOf [ob1])) := ownsRow_base (row_same (row_same R9.out fun g hg => B10.out.block g (R9.out.lt g hg).2) fun g hg => F11.out.block g (Nat.lt_of_lt_of_le (R9.out.lt g hg).2 B10.out.size) (fun h => by
          have z8 := F8.out.size
          have z10 := B10.out.size
          have l9 := R9.out.lt g hg
          rcases h with h | h
          · have := T5.out.lessF g h; omega
          · omega)) (Nat.zero_le _)
        have HRow2 : Hid (w11.ownsRow 0 59 3 sv10 [ob2].length (rowOf [ob2])) := ownsRow_base (row_same R10.out fun g hg => F11.out.block g (R10.out.lt g hg).2 (fun h => by
          have z8 := F8.out.size
          have z9 := B9.out.size
          have l10 := R10.out.lt g hg
          rcases h with h | h
          · have := T5.out.lessF g h; omega
          · omega)) (Nat.zero_le _)
        have HLit1 : Hid ((w11.alloc (.cells #[.string ⟨#[97]⟩, .string ⟨#[120]⟩, .int .i64 1] 59)).ownsRow 0 59 3 (.slice (some ⟨w11.heap.size, 0, none⟩) 1 1) [ob1].length (rowOf [ob1])) :=
          ⟨rfl, .inr ⟨w11.heap.size, 1, _, rfl, Nat.zero_le _, heap_alloc_new w11 _, by simp, by simp [maxLen], rfl, rfl⟩⟩
        have HLit2 : Hid (∀ v : World, (v.alloc (.cells #[.string ⟨#[98]⟩, .string ⟨#[121]⟩, .int .i64 2] 59)).ownsRow 0 59 3 (.slice (some ⟨v.heap.size, 0, none⟩) 1 1) [ob2].length (rowOf [ob2])) :=
          fun v => ⟨rfl, .inr ⟨v.heap.size, 1, _, rfl, Nat.zero_le _, heap_alloc_new v _, by simp, by simp [maxLen], rfl, rfl⟩⟩
        clear f11
        go_wp2_with (go_at_call 12; refine (num_any _ _).mono ?_; rintro e w' ⟨rfl, rfl⟩)
        refine (same_any _ sv9 _ [ob1] [ob1] (HRow1.out.alloc _) HLit1.out (by simp)).mono ?_
        rintro e w12 ⟨b12, ⟨rfl, _⟩ | ⟨_, h⟩⟩
        rotate_left
        · exact absurd rfl h
        have HRow2' : Hid (w12.ownsRow 0 59 3 sv10 [ob2].length (rowOf [ob2])) := row_same (HRow2.out.alloc _) fun g hg => b12.block g ((HRow2.out.alloc _).lt g hg).2
        have B12 := Lib.hid b12
        clear b12
        go_wp2_with fail
        refine (same_any _ sv10 _ [ob2] [ob2] (HRow2'.out.alloc _) (HLit2.out _) (by simp)).mono ?_
        rintro e w13 ⟨b13, ⟨rfl, _⟩ | ⟨_, h⟩⟩
        rotate_left
        · exact absurd rfl h
        have B13 := Lib.hid b13
        clear b13
        go_wp2_with (go_at_call 12; refine (num_any _ _).mono ?_; rintro e w' ⟨rfl, rfl⟩)
        go_ret
        have hfr : Frm F w1 w13 := (((FR.out.alloc _).trans (Frm.of_new B12.out F)).alloc _).trans (Frm.of_new B13.out F)
        rw [HD.out] at hfr
        exact ⟨rfl, B1.out.trans ((hfr.below (Nat.le_refl _)).mono B1.out.size)⟩
      · refine (get_fails w1.heap.size kA w10 _ S10.out (fun k hk => .inr hk) (by simp; omega) (by simp; omega) (by simp)).mono ?_
        rintro e w11 ⟨rfl, s11, f11⟩
        clear s11
        have FR : Hid (Frm F w1 w11) := (((FR5.out.trans (F8.out.mono fun k _ hk => HC.out k (by rw [HGd.out] at hk; exact .inr hk))).trans (Frm.of_new B9.out F)).trans (Frm.of_new B10.out F)).trans (f11.mono fun k _ hk => by
          have z8 := F8.out.size
          have z9 := B9.out.size
          have z10 := B10.out.size
          rcases hk with h | h
          · exact HC.out k (.inl h)
          · exact HC.out k (.inr (.inr (by omega))))
        have F11 := Lib.hid f11
        have HRow1 : Hid (w11.ownsRow 0 59 3 sv9 [ob1].length (rowOf [ob1])) := ownsRow_base (row_same (row_same R9.out fun g hg => B10.out.block g (R9.out.lt g hg).2) fun g hg => F11.out.block g (Nat.lt_of_lt_of_le (R9.out.lt g hg).2 B10.out.size) (fun h => by
          have z8 := F8.out.size
          have z10 := B10.out.size
          have l9 := R9.out.lt g hg
          rcases h with h | h
          · have := T5.out.lessF g h; omega
          · omega)) (Nat.zero_le _)
        have HRow2 : Hid (w11.ownsRow 0 59 3 sv10 [ob2].length (rowOf [ob2])) := ownsRow_base (row_same R10.out fun g hg => F11.out.block g (R10.out.lt g hg).2 (fun h => by
          have z8 := F8.out.size
          have z9 := B9.out.size
          have l10 := R10.out.lt g hg
          rcases h with h | h
          · have := T5.out.lessF g h; omega
          · omega)) (Nat.zero_le _)
        have HLit1 : Hid ((w11.alloc (.cells #[.string ⟨#[97]⟩, .string ⟨#[120]⟩, .int .i64 1] 59)).ownsRow 0 59 3 (.slice (some ⟨w11.heap.size, 0, none⟩) 1 1) [ob1].length (rowOf [ob1])) :=
          ⟨rfl, .inr ⟨w11.heap.size, 1, _, rfl, Nat.zero_le _, heap_alloc_new w11 _, by simp, by simp [maxLen], rfl, rfl⟩⟩
        have HLit2 : Hid (∀ v : World, (v.alloc (.cells #[.string ⟨#[98]⟩, .string ⟨#[121]⟩, .int .i64 2] 59)).ownsRow 0 59 3 (.slice (some ⟨v.heap.size, 0, none⟩) 1 1) [ob2].length (rowOf [ob2])) :=
          fun v => ⟨rfl, .inr ⟨v.heap.size, 1, _, rfl, Nat.zero_le _, heap_alloc_new v _, by simp, by simp [maxLen], rfl, rfl⟩⟩
        clear f11
        go_wp2_with (go_at_call 12; refine (num_any _ _).mono ?_; rintro e w' ⟨rfl, rfl⟩)
        refine (same_any _ sv9 _ [ob1] [ob1] (HRow1.out.alloc _) HLit1.out (by simp)).mono ?_
        rintro e w12 ⟨b12, ⟨rfl, _⟩ | ⟨_, h⟩⟩
        rotate_left
        · exact absurd rfl h
        have HRow2' : Hid (w12.ownsRow 0 59 3 sv10 [ob2].length (rowOf [ob2])) := row_same (HRow2.out.alloc _) fun g hg => b12.block g ((HRow2.out.alloc _).lt g hg).2
        have B12 := Lib.hid b12
        clear b12
        go_wp2_with fail
        refine (same_any _ sv10 _ [ob2] [ob2] (HRow2'.out.alloc _) (HLit2.out _) (by simp)).mono ?_
        rintro e w13 ⟨b13, ⟨rfl, _⟩ | ⟨_, h⟩⟩
        rotate_left
        · exact absurd rfl h
        have B13 := Lib.hid b13
        clear b13
        go_wp2_with (go_at_call 12; refine (num_any _ _).mono ?_; rintro e w' ⟨rfl, rfl⟩)
        go_ret
        have hfr : Frm F w1 w13 := (((FR.out.alloc _).trans (Frm.of_new B12.out F)).alloc _).trans (Frm.of_new B13.out F)
        rw [HD.out] at hfr
        exact ⟨rfl, B1.out.trans ((hfr.below (Nat.le_refl _)).mono B1.out.size)⟩
end Go.Proofs.Ytepenaoffdaacaa
