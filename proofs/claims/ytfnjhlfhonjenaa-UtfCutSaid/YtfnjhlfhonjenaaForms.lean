/- What is no rune: nine forms. -/
import Derived.Test.YtfnjhlfhonjenaaAny
import Derived.Outline
namespace Go.Proofs.Ytfnjhlfhonjenaa
open Go.RowKit
set_option linter.unusedVariables false

theorem i64_and63 (z : Int) : ∃ m : Nat, m < 64 ∧ bits .and .i64 z 63 = (m : Int) := by
  refine ⟨(BitVec.ofInt 64 z).toNat % 64, by omega, ?_⟩
  show IntKind.i64.wrap ((BitVec.ofInt 64 z &&& BitVec.ofInt 64 ((63 : Nat) : Int)).toNat : Int) = _
  rw [BitVec.toNat_and, ofInt_u64 63 (by omega), nat_mask6]
  exact wrap_i64_nat _ (by omega)
theorem u8_and31 (m : Nat) (h : m < 64) : bits .and .u8 (128 + (m : Int)) 31 = (m : Int) % 32 := by
  have := u8_and_nat (128 + m) 31 (by omega) (by omega)
  rw [nat_mask5] at this
  rw [show (128 + (m : Int)) = ((128 + m : Nat) : Int) from rfl, show (31 : Int) = ((31 : Nat) : Int) from rfl, this]
  omega
theorem u8_and15 (m : Nat) (h : m < 64) : bits .and .u8 (128 + (m : Int)) 15 = (m : Int) % 16 := by
  have := u8_and_nat (128 + m) 15 (by omega) (by omega)
  rw [nat_mask4] at this
  rw [show (128 + (m : Int)) = ((128 + m : Nat) : Int) from rfl, show (15 : Int) = ((15 : Nat) : Int) from rfl, this]
  omega

/-- What no rune begins. -/
structure NoRune (t : ByteArray) : Prop where
  pos : 0 < t.data.toList.length
  le : t.data.toList.length ≤ 4
  rr0 : (rr t.data.toList 0).2 = 0
theorem noRune_mk (l : List UInt8) (h0 : 0 < l.length) (h1 : l.length ≤ 4) (h2 : (rr l 0).2 = 0) : NoRune ⟨l.toArray⟩ := ⟨h0, h1, h2⟩
theorem NoRune.one {t : ByteArray} (h : NoRune t) (w : World) : Calls Try.prog 7 #[.string t, .int .i64 0] w fun e w' => e = .returned (.tuple #[.int .i64 0, .int .i64 0]) ∧ w = w' := by
  have hs : t.size = t.data.toList.length := by rw [Array.length_toList]; rfl
  have hl := h.le
  have := urune_z t 0 (by rw [hs]; omega) w
  rw [show rz t.data.toList 0 = rr t.data.toList 0 from rz_in _ 0, rr_zero h.rr0] at this
  exact this
theorem NoRune.val {t : ByteArray} (h : NoRune t) (w : World) : Calls Try.prog 13 #[.string t] w fun e w' => e = .returned (.bool false) ∧ w = w' := by
  have hs : t.size = t.data.toList.length := by rw [Array.length_toList]; rfl
  have hl := h.le
  have := uvalid_any t (by rw [hs]; omega) w
  rw [show first t.data.toList = 0 from firstAt_stop h.pos h.rr0] at this
  exact this
theorem NoRune.fst {t : ByteArray} (h : NoRune t) (w : World) : Calls Try.prog 11 #[.string (⟨#[97]⟩ ++ t)] w fun e w' => e = .returned (.int .i64 1) ∧ w = w' := by
  have hs : t.size = t.data.toList.length := by rw [Array.length_toList]; rfl
  have hl := h.le
  have e4 : (ByteArray.mk #[97] ++ t).size = 1 + t.size := by rw [ByteArray.size_append]; rfl
  have e3 : (ByteArray.mk #[97] ++ t).data.toList = [97] ++ t.data.toList := by rw [ByteArray.data_append, Array.toList_append]
  have := ufirst_any (⟨#[97]⟩ ++ t) (by rw [e4, hs]; omega) w
  rw [e3, first_less (a := [97]) (first_one (by decide) (by decide)) h.pos h.rr0] at this
  exact this
theorem uvalid_none (w : World) : Calls Try.prog 13 #[.string ⟨#[]⟩] w fun e w' => e = .returned (.bool true) ∧ w = w' := by
  have := uvalid_any ⟨#[]⟩ (by decide) w
  rw [show first (ByteArray.mk #[]).data.toList = -1 from first_nil] at this
  exact this
theorem noRune0 (m : Nat) (h : m < 64) : NoRune ⟨#[u8 192, u8 (128 + m)]⟩ := by
  refine noRune_mk [u8 192, u8 (128 + m)] (by simp) (by simp) ?_
  have e0 : ∀ (x y : Nat) (l : List UInt8), x = 128 + y → y < 64 → nxt (u8 x :: l) 0 = (y : Int) := fun x y l hx hy => by rw [hx]; exact nxt_u8 y hy l
  rw [rr_cons, u8_toNat _ (by omega), e0 _ (m) _ (by omega) (by omega)]
  unfold run4
  rw [if_neg (by omega), if_neg (by omega), if_pos (by omega)]
theorem noRune1 (m : Nat) (h : m < 64) : NoRune ⟨#[u8 193, u8 (128 + m)]⟩ := by
  refine noRune_mk [u8 193, u8 (128 + m)] (by simp) (by simp) ?_
  have e0 : ∀ (x y : Nat) (l : List UInt8), x = 128 + y → y < 64 → nxt (u8 x :: l) 0 = (y : Int) := fun x y l hx hy => by rw [hx]; exact nxt_u8 y hy l
  rw [rr_cons, u8_toNat _ (by omega), e0 _ (m) _ (by omega) (by omega)]
  unfold run4
  rw [if_neg (by omega), if_neg (by omega), if_pos (by omega)]
theorem noRune2 (m : Nat) (h : m < 64) : NoRune ⟨#[u8 224, u8 (128 + m % 32), u8 (128 + m)]⟩ := by
  refine noRune_mk [u8 224, u8 (128 + m % 32), u8 (128 + m)] (by simp) (by simp) ?_
  have e0 : ∀ (x y : Nat) (l : List UInt8), x = 128 + y → y < 64 → nxt (u8 x :: l) 0 = (y : Int) := fun x y l hx hy => by rw [hx]; exact nxt_u8 y hy l
  rw [rr_cons, u8_toNat _ (by omega), e0 _ (m % 32) _ (by omega) (by omega), nxt_succ, e0 _ (m) _ (by omega) (by omega)]
  unfold run4
  rw [if_neg (by omega), if_neg (by omega), if_neg (by omega), if_neg (by omega), if_pos (by omega), if_neg (by omega)]
theorem noRune3 (m : Nat) (h : m < 64) : NoRune ⟨#[u8 237, u8 (160 + m % 32), u8 (128 + m)]⟩ := by
  refine noRune_mk [u8 237, u8 (160 + m % 32), u8 (128 + m)] (by simp) (by simp) ?_
  have e0 : ∀ (x y : Nat) (l : List UInt8), x = 128 + y → y < 64 → nxt (u8 x :: l) 0 = (y : Int) := fun x y l hx hy => by rw [hx]; exact nxt_u8 y hy l
  rw [rr_cons, u8_toNat _ (by omega), e0 _ (32 + m % 32) _ (by omega) (by omega), nxt_succ, e0 _ (m) _ (by omega) (by omega)]
  unfold run4
  rw [if_neg (by omega), if_neg (by omega), if_neg (by omega), if_neg (by omega), if_pos (by omega), if_neg (by omega)]
theorem noRune4 (m : Nat) (h : m < 64) : NoRune ⟨#[u8 240, u8 (128 + m % 16), u8 (128 + m), u8 (128 + m)]⟩ := by
  refine noRune_mk [u8 240, u8 (128 + m % 16), u8 (128 + m), u8 (128 + m)] (by simp) (by simp) ?_
  have e0 : ∀ (x y : Nat) (l : List UInt8), x = 128 + y → y < 64 → nxt (u8 x :: l) 0 = (y : Int) := fun x y l hx hy => by rw [hx]; exact nxt_u8 y hy l
  rw [rr_cons, u8_toNat _ (by omega), e0 _ (m % 16) _ (by omega) (by omega), nxt_succ, e0 _ (m) _ (by omega) (by omega), nxt_succ, nxt_succ, e0 _ (m) _ (by omega) (by omega)]
  unfold run4
  rw [if_neg (by omega), if_neg (by omega), if_neg (by omega), if_neg (by omega), if_neg (by omega), if_neg (by omega)]
theorem noRune5 (m : Nat) (h : m < 64) : NoRune ⟨#[u8 244, u8 (144 + m % 16), u8 (128 + m), u8 (128 + m)]⟩ := by
  refine noRune_mk [u8 244, u8 (144 + m % 16), u8 (128 + m), u8 (128 + m)] (by simp) (by simp) ?_
  have e0 : ∀ (x y : Nat) (l : List UInt8), x = 128 + y → y < 64 → nxt (u8 x :: l) 0 = (y : Int) := fun x y l hx hy => by rw [hx]; exact nxt_u8 y hy l
  rw [rr_cons, u8_toNat _ (by omega), e0 _ (16 + m % 16) _ (by omega) (by omega), nxt_succ, e0 _ (m) _ (by omega) (by omega), nxt_succ, nxt_succ, e0 _ (m) _ (by omega) (by omega)]
  unfold run4
  rw [if_neg (by omega), if_neg (by omega), if_neg (by omega), if_neg (by omega), if_neg (by omega), if_neg (by omega)]
theorem noRune6 (m : Nat) (h : m < 64) : NoRune ⟨#[u8 245, u8 (128 + m), u8 (128 + m), u8 (128 + m)]⟩ := by
  refine noRune_mk [u8 245, u8 (128 + m), u8 (128 + m), u8 (128 + m)] (by simp) (by simp) ?_
  have e0 : ∀ (x y : Nat) (l : List UInt8), x = 128 + y → y < 64 → nxt (u8 x :: l) 0 = (y : Int) := fun x y l hx hy => by rw [hx]; exact nxt_u8 y hy l
  rw [rr_cons, u8_toNat _ (by omega), e0 _ (m) _ (by omega) (by omega), nxt_succ, e0 _ (m) _ (by omega) (by omega), nxt_succ, nxt_succ, e0 _ (m) _ (by omega) (by omega)]
  unfold run4
  rw [if_neg (by omega), if_neg (by omega), if_pos (by omega)]
theorem noRune7 (m : Nat) (h : m < 64) : NoRune ⟨#[u8 (128 + m)]⟩ := by
  refine noRune_mk [u8 (128 + m)] (by simp) (by simp) ?_
  rw [rr_cons, u8_toNat _ (by omega)]; unfold run4; rw [if_neg (by omega), if_neg (by omega), if_pos (by omega)]
theorem noRune8 (m : Nat) (h : m < 64) : NoRune ⟨#[u8 255]⟩ := by
  refine noRune_mk [u8 255] (by simp) (by simp) ?_
  rw [rr_cons, u8_toNat _ (by omega)]; rfl
theorem noRune_at (m : Nat) (h : m < 64) (j : Nat) (hj : j < 9) : ∃ t, NoRune t ∧ ([Value.string ⟨#[u8 192, u8 (128 + m)]⟩, Value.string ⟨#[u8 193, u8 (128 + m)]⟩, Value.string ⟨#[u8 224, u8 (128 + m % 32), u8 (128 + m)]⟩, Value.string ⟨#[u8 237, u8 (160 + m % 32), u8 (128 + m)]⟩, Value.string ⟨#[u8 240, u8 (128 + m % 16), u8 (128 + m), u8 (128 + m)]⟩, Value.string ⟨#[u8 244, u8 (144 + m % 16), u8 (128 + m), u8 (128 + m)]⟩, Value.string ⟨#[u8 245, u8 (128 + m), u8 (128 + m), u8 (128 + m)]⟩, Value.string ⟨#[u8 (128 + m)]⟩, Value.string ⟨#[u8 255]⟩] : List Value)[j]'(by simpa using hj) = .string t := by
  rcases (by omega : j = 0 ∨ j = 1 ∨ j = 2 ∨ j = 3 ∨ j = 4 ∨ j = 5 ∨ j = 6 ∨ j = 7 ∨ j = 8) with rfl | rfl | rfl | rfl | rfl | rfl | rfl | rfl | rfl
  · exact ⟨_, noRune0 m h, rfl⟩
  · exact ⟨_, noRune1 m h, rfl⟩
  · exact ⟨_, noRune2 m h, rfl⟩
  · exact ⟨_, noRune3 m h, rfl⟩
  · exact ⟨_, noRune4 m h, rfl⟩
  · exact ⟨_, noRune5 m h, rfl⟩
  · exact ⟨_, noRune6 m h, rfl⟩
  · exact ⟨_, noRune7 m h, rfl⟩
  · exact ⟨_, noRune8 m h, rfl⟩
end Go.Proofs.Ytfnjhlfhonjenaa
