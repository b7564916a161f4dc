/- awake of the statements of layer 1: what every program answers that is one. -/
import Derived.Test.YtembcflgjfligaaSame
namespace Go.Proofs.Ytembcflgjfligaa
open Go.Conc Go.RowKit

/-- The blocks of a store, no more. -/
theorem Sto.exact {w : World} {F : Nat → Prop} {b : Nat} {st : St} (h : Sto w F b st) : ∃ G : Nat → Prop, (∀ k, G k → F k ∧ k < w.heap.size) ∧ Sto w G b st := by
  obtain ⟨sv, cv, h⟩ := h
  refine ⟨fun k => k = b ∨ sv.ownBlock = some k ∨ cv = .chan (some k), fun k hk => ?_, sv, cv, ⟨h.blk, .inl rfl, h.row, fun k hk => .inr (.inl hk), h.owes, fun c hc => .inr (.inr hc), h.most_le, h.len_le, h.calls_ge⟩⟩
  rcases hk with rfl | hk | hk
  · exact ⟨h.mine, h.lt⟩
  · exact ⟨h.rowF k hk, (h.row.lt k hk).2⟩
  · exact ⟨h.chanF k hk, h.owes.chan_lt hk⟩

def kA : ByteArray := ⟨#[97]⟩
def kX : ByteArray := ⟨#[120]⟩
def kY : ByteArray := ⟨#[121]⟩
def kZ : ByteArray := ⟨#[122]⟩
def obA : Ob := ⟨kA, kX, 3⟩
def obA' : Ob := ⟨kA, ByteArray.empty, 3⟩
theorem rise_A : Rises ([obA].map Ob.key) := List.pairwise_singleton _ _
theorem list_A : listOf [obA] kA = [obA'] := by
  have : pre kA obA = true := by decide
  unfold listOf
  rw [List.filter_cons_of_pos this, List.filter_nil]
  rfl
theorem mem_A : kA ∈ [obA].map Ob.key := by simp [obA]
theorem not_Z : kZ ∉ [obA].map Ob.key := by
  simp only [List.map_cons, List.map_nil, List.mem_cons, List.not_mem_nil, or_false]
  exact fun h => absurd (congrArg ByteArray.data h) (by decide)
theorem may_kA : KeyMay kA := ⟨by decide, by decide, fun i h => by
  have h1 : i = 0 := by have e : kA.size = 1 := rfl; omega
  subst h1
  exact ⟨show 33 ≤ (97 : UInt8).toNat by decide, show (97 : UInt8).toNat ≤ 126 by decide⟩⟩

set_option maxHeartbeats 2000000 in
set_option maxRecDepth 100000 in
theorem awake_any (w : World) : Calls Try.prog 7 #[] w fun e w' => e = .returned (.bool true) ∧ Below w.heap.size w w' := by
  obtain ⟨F, hFd⟩ : ∃ F : Nat → Prop, F = fun k => w.heap.size ≤ k := ⟨_, rfl⟩
  have hF : ∀ k, w.heap.size ≤ k → F k := fun k hk => by rw [hFd]; exact hk
  have HF := Lib.hid hF
  have HD := Lib.hid hFd
  clear hF hFd
  go_enter Try.func7, Try.ntmps7
  go_wp2_with fail
  refine (new_any 2 (by omega) (by omega) _ HF.out).mono ?_
  rintro e w1 ⟨rfl, s1, f1⟩
  have S1 := Lib.hid s1
  have F1 := Lib.hid f1
  clear s1 f1
  go_wp2_with fail
  refine (put_ok w.heap.size kA kX 3 w1 ⟨2, [], 0, 0⟩ S1.out (fun k hk => HF.out k (Nat.le_trans F1.out.size hk)) rfl (by simp) List.Pairwise.nil may_kA (by decide) (by omega) (by simp) (by simp)).mono ?_
  rintro e w2 ⟨rfl, s2, f2⟩
  have S2 : Hid (Sto w2 F w.heap.size ⟨2, [obA], 1, 0⟩) := s2
  have F2 := Lib.hid (F1.out.trans f2)
  clear s2 f2
  have K1 : ∀ v : World, Frm F w v → ∀ k, v.heap.size ≤ k → F k := fun v hv k hk => HF.out k (Nat.le_trans hv.size hk)
  have K := Lib.hid K1
  clear K1
  go_wp2_with fail
  refine (put_exists w.heap.size kA kY 4 w2 ⟨2, [obA], 1, 0⟩ S2.out rfl (by simp) rise_A may_kA (by decide) (by omega) mem_A).mono ?_
  rintro e w3 ⟨rfl, s3, f3⟩
  have S3 : Hid (Sto w3 F w.heap.size ⟨2, [obA], 2, 0⟩) := s3
  have F3 := Lib.hid (F2.out.trans f3)
  clear s3 f3
  go_wp2_with fail
  refine (get_ok w.heap.size kA w3 ⟨2, [obA], 2, 0⟩ S3.out rfl (by simp) rise_A obA (by simp) rfl).mono ?_
  rintro e w4 ⟨rfl, s4, f4⟩
  have S4 : Hid (Sto w4 F w.heap.size ⟨2, [obA], 3, 0⟩) := s4
  have F4 := Lib.hid (F3.out.trans f4)
  clear s4 f4
  obtain ⟨G, hG, g4⟩ := S4.out.exact
  have HG := Lib.hid hG
  have G4 := Lib.hid g4
  clear hG g4
  go_wp2_with fail
  refine (list_ok w.heap.size kA w4 ⟨2, [obA], 3, 0⟩ G4.out rfl (by simp) rise_A).mono ?_
  rintro e w5 ⟨sv, rfl, r5, s5, f5⟩
  rw [list_A] at r5
  obtain ⟨F', hF'⟩ : ∃ F' : Nat → Prop, F' = fun k => G k ∨ w5.heap.size ≤ k := ⟨_, rfl⟩
  have HF' : Hid (∀ k, F' k → F k) := by
    intro k hk
    rw [hF'] at hk
    rcases hk with hk | hk
    · exact (HG.out k hk).1
    · exact HF.out k (Nat.le_trans (F4.out.trans (f5.mono fun k _ hk => (HG.out k hk).1)).size hk)
  have K1 : Hid (∀ v : World, Frm F' w5 v → ∀ k, v.heap.size ≤ k → F' k) := fun v hv k hk => by rw [hF']; exact .inr (Nat.le_trans hv.size hk)
  have S5 : Hid (Sto w5 F' w.heap.size ⟨2, [obA], 4, 0⟩) := s5.mono fun k _ hk => by rw [hF']; exact .inl hk
  have F5 := Lib.hid (F4.out.trans (f5.mono fun k _ hk => (HG.out k hk).1))
  have HR5 := Lib.hid r5
  have HN5 : Hid (∀ k, sv.ownBlock = some k → k < w5.heap.size ∧ ¬ F' k) := fun k hk => by
    have h1 := r5.lt k hk
    refine ⟨h1.2, ?_⟩
    rw [hF']
    rintro (h2 | h2)
    · have := (HG.out k h2).2; omega
    · omega
  clear s5 f5 r5 hF'
  go_wp2_with fail
  refine (fail_yes w.heap.size 1 (by omega) (by omega) w5 ⟨2, [obA], 4, 0⟩ S5.out (K1.out _ (Frm.refl _ _))).mono ?_
  rintro e w6 ⟨rfl, s6, f6⟩
  have S6 : Hid (Sto w6 F' w.heap.size ⟨2, [obA], 4, 1⟩) := s6
  have F6 := Lib.hid f6
  clear s6 f6
  go_wp2_with fail
  refine (get_fails w.heap.size kA w6 ⟨2, [obA], 4, 1⟩ S6.out (K1.out _ F6.out) (by simp) (by simp) (by simp)).mono ?_
  rintro e w7 ⟨rfl, s7, f7⟩
  have S7 : Hid (Sto w7 F' w.heap.size ⟨2, [obA], 5, 0⟩) := s7
  have F7 := Lib.hid (F6.out.trans f7)
  clear s7 f7
  go_wp2_with fail
  refine (del_none w.heap.size kZ w7 ⟨2, [obA], 5, 0⟩ S7.out rfl (by simp) rise_A not_Z).mono ?_
  rintro e w8 ⟨rfl, s8, f8⟩
  have S8 : Hid (Sto w8 F' w.heap.size ⟨2, [obA], 6, 0⟩) := s8
  have F8 := Lib.hid (F7.out.trans f8)
  clear s8 f8
  go_wp2_with fail
  refine (new_no 0 (by omega) w8).mono ?_
  rintro e w9 ⟨rfl, rfl⟩
  have hx : obA.data.toList = [120] := by rw [ByteArray.toList_eq]; rfl
  have hrow : w8.ownsRow 0 56 3 sv [obA'].length (rowOf [obA']) := ownsRow_base (row_same HR5.out fun g hg => F8.out.block g (HN5.out g hg).1 (HN5.out g hg).2) (Nat.zero_le _)
  have HRow : Hid ((w8.alloc (.cells #[.string ⟨#[97]⟩, .string ⟨#[]⟩, .int .i64 3] 56)).ownsRow 0 56 3 sv [obA'].length (rowOf [obA'])) := hrow.alloc _
  have HLit : Hid ((w8.alloc (.cells #[.string ⟨#[97]⟩, .string ⟨#[]⟩, .int .i64 3] 56)).ownsRow 0 56 3 (.slice (some ⟨w8.heap.size, 0, none⟩) 1 1) [obA'].length (rowOf [obA'])) :=
    ⟨rfl, .inr ⟨w8.heap.size, 1, _, rfl, Nat.zero_le _, heap_alloc_new w8 _, by simp, by simp [maxLen], rfl, rfl⟩⟩
  clear hrow
  go_wp2_with (first
    | (go_at_call 6; refine (num_any _ _).mono ?_; rintro e w' ⟨rfl, rfl⟩)
    | (go_at_call 13; refine (same_any _ _ _ [obA'] [obA'] HRow.out HLit.out (by simp)).mono ?_; rintro e w10 ⟨hb, ⟨rfl, _⟩ | ⟨_, h⟩⟩; rotate_left; exact absurd rfl h; have HB := Lib.hid hb; clear hb)
    | (go_at_call 11; refine (calls_any w.heap.size _ ⟨2, [obA], 6, 0⟩ ((S8.out.alloc _).new HB.out)).mono ?_; rintro e w11 ⟨rfl, rfl⟩))
  go_ret
  have hfr : Frm F w w10 := (((F5.out.trans (F8.out.mono fun k _ hk => HF'.out k hk)).alloc _).trans (Frm.of_new HB.out F))
  rw [HD.out] at hfr
  exact ⟨rfl, hfr.below (Nat.le_refl _)⟩
end Go.Proofs.Ytembcflgjfligaa
