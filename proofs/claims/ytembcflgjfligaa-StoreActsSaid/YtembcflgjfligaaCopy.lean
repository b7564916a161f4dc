/- Copy of objstore. -/
import Derived.Test.YtembcflgjfligaaGet
import Derived.Deep.RegionHeld3
namespace Go.Proofs.Ytembcflgjfligaa
open Go.Conc Go.RowKit

theorem IsSto.bounded {w : World} {F : Nat → Prop} {b : Nat} {st : St} {sv cv : Value} (h : IsSto w F b st sv cv) : IsSto w (fun k => F k ∧ k < w.heap.size) b st sv cv :=
  h.mono fun _ hk hf => ⟨hf, hk⟩
theorem Sto.bounded {w : World} {F : Nat → Prop} {b : Nat} {st : St} (h : Sto w F b st) : Sto w (fun k => F k ∧ k < w.heap.size) b st := h.mono fun _ hk hf => ⟨hf, hk⟩

/-- Two stores that share no block. -/
structure TwoSto (w : World) (F G : Nat → Prop) (b c : Nat) (s t : St) : Prop where
  one : Sto w F b s
  two : Sto w G c t
  lessF : ∀ k, F k → k < w.heap.size
  lessG : ∀ k, G k → k < w.heap.size
  apart : ∀ k, F k → ¬ G k

/-- What a copy leaves. -/
def Copied (w : World) (F0 : Nat → Prop) (b : Nat) (st : St) (e : Ending) (w' : World) : Prop :=
  ∃ c F G, e = .returned (.pointer (some ⟨c, 0, none⟩)) ∧ TwoSto w' F G b c st st ∧ (∀ k, F k → F0 k ∨ w.heap.size ≤ k) ∧ (∀ k, G k → w.heap.size ≤ k) ∧ Frm (fun k => F0 k ∨ w.heap.size ≤ k) w w'

set_option maxHeartbeats 1000000 in
theorem copy_any {F : Nat → Prop} (b : Nat) (w : World) (st : St) (h : Sto w F b st) (hm : st.owed ≤ 9223372036854775807) : Calls Try.prog 8 #[.pointer (some ⟨b, 0, none⟩)] w (Copied w F b st) := by
  obtain ⟨sv, cv, h⟩ := h
  have hb := h.bounded
  have HB := Lib.hid hb
  have H := Lib.hid h
  have T := Lib.hid (clone_any w.drew sv st.os h.row (by have := h.most_le; have := h.len_le; omega))
  obtain ⟨a, cap, rfl⟩ := h.shape
  have g0 := h.c0
  have g1 := h.c1
  have g2 := h.c2
  have hlt := h.lt
  clear h hb
  go_enter Try.func8, Try.ntmps8
  go_wp2_with fail
  go_region_held3 (fun w' => w'.cell? ⟨b, 0, none⟩ = some (.int .i64 st.most) ∧ w'.cell? ⟨b, 1, none⟩ = some (.slice a st.os.length cap) ∧ w'.cell? ⟨b, 2, none⟩ = some (.int .i64 st.calls)) (go_keep)
    (first | (go_at_call 20; refine (T.out).mono ?_; rintro e w1 ⟨sv', rfl, hr, hb⟩; have q0 := (hb.cell (p := ⟨b, 0, none⟩) hlt).trans g0; have q1 := (hb.cell (p := ⟨b, 1, none⟩) hlt).trans g1; have q2 := (hb.cell (p := ⟨b, 2, none⟩) hlt).trans g2; obtain ⟨a', c', rfl⟩ := row_shape hr; have HR := Lib.hid hr; have HBe := Lib.hid hb; clear hr hb))
  obtain ⟨W2, hW2⟩ : ∃ W2, W2 = w1.alloc (.cells #[.int .i64 st.most, .slice a' st.os.length c', .int .i64 st.calls, .chan none] 47) := ⟨_, rfl⟩
  have hz1 : w.heap.size ≤ w1.heap.size := HBe.out.size
  have hz2 : W2.heap.size = w1.heap.size + 1 := by rw [hW2]; simp
  have b2 : Below w.heap.size w W2 := by
    rw [hW2]
    have hd : Below w.heap.size w w.drew := (Below.refl _ w).drew
    exact (hd.trans HBe.out).alloc hz1 _
  have s2 : Sto W2 (fun k => F k ∧ k < w.heap.size) b st := ⟨_, _, HB.out.same fun k hk _ => b2.block k hk⟩
  have o2 : Sto W2 (fun k => w.heap.size ≤ k ∧ k < W2.heap.size) w1.heap.size ⟨st.most, st.os, st.calls, 0⟩ := by
    refine ⟨.slice a' st.os.length c', .chan none, ⟨by rw [hW2]; exact heap_alloc_new w1 _, ⟨hz1, by omega⟩, ownsRow_base (by rw [hW2]; exact HR.out.alloc _) (Nat.zero_le _), fun k hk => ?_, .inl ⟨rfl, rfl⟩, fun c hc => by simp at hc, H.out.most_le, H.out.len_le, H.out.calls_ge⟩⟩
    have := HR.out.lt k hk
    exact ⟨this.1, by omega⟩
  rw [← hW2]
  have S2 := Lib.hid s2
  have O2 := Lib.hid o2
  have B2 := Lib.hid b2
  have HZ := Lib.hid (show w.heap.size ≤ W2.heap.size from by omega)
  clear s2 o2 b2 hW2 hz2 hz1 q0 q1 q2
  go_wp2_with fail
  refine (take_any b W2 st S2.out).mono ?_
  rintro e w3 ⟨rfl, s3, f3⟩
  have S3 := Lib.hid s3
  have F3 := Lib.hid f3
  have O3 := Lib.hid (O2.out.frm f3 fun k _ hg hf => by omega)
  clear s3 f3
  go_wp2_with fail
  have hn0 : 0 ≤ st.owed := by
    rcases H.out.owes with ⟨_, h0⟩ | ⟨c, s, r, _, ⟨h0, _⟩ | ⟨h0, _⟩⟩ <;> omega
  refine (give_any (F := fun k => (F k ∧ k < w.heap.size) ∨ w3.heap.size ≤ k) b st.owed w3 _ (S3.out.mono fun k _ hk => .inl hk) (fun k hk => .inr hk) hn0 hm).mono ?_
  rintro e w4 ⟨rfl, s4, f4⟩
  have s4' : Sto w4 (fun k => ((F k ∧ k < w.heap.size) ∨ w3.heap.size ≤ k) ∧ k < w4.heap.size) b st := s4.bounded
  have S4 := Lib.hid s4'
  have F4 := Lib.hid f4
  have O4 := Lib.hid (O3.out.frm f4 fun k _ hg hf => by
    have h1 := F3.out.size
    rcases hf with hf | hf <;> omega)
  clear s4 s4' f4
  go_wp2_with fail
  refine (give_any (F := fun k => (w.heap.size ≤ k ∧ k < W2.heap.size) ∨ w4.heap.size ≤ k) w1.heap.size st.owed w4 _ (O4.out.mono fun k _ hk => .inl hk) (fun k hk => .inr hk) hn0 hm).mono ?_
  rintro e w5 ⟨rfl, o5, f5⟩
  have o5' : Sto w5 (fun k => ((w.heap.size ≤ k ∧ k < W2.heap.size) ∨ w4.heap.size ≤ k) ∧ k < w5.heap.size) w1.heap.size st := o5.bounded
  have O5 := Lib.hid o5'
  have F5 := Lib.hid f5
  have S5 := Lib.hid (S4.out.frm f5 fun k _ hg hf => by
    have h1 := F3.out.size
    rcases hf with hf | hf
    · rcases hg.1 with hg' | hg' <;> omega
    · omega)
  clear o5 o5' f5
  go_wp2
  go_ret
  have z3 := F3.out.size
  have z4 := F4.out.size
  have z5 := F5.out.size
  have z2 := HZ.out
  refine ⟨w1.heap.size, _, _, rfl, ⟨S5.out, O5.out, fun k hk => by omega, fun k hk => hk.2, fun k hf hg => ?_⟩, fun k hk => ?_, fun k hk => ?_, ?_⟩
  · rcases hf.1 with h1 | h1
    · rcases hg.1 with h2 | h2 <;> omega
    · rcases hg.1 with h2 | h2 <;> omega
  · rcases hk.1 with h1 | h1
    · exact .inl h1.1
    · exact .inr (by omega)
  · rcases hk.1 with h1 | h1 <;> omega
  · have e0 := (Frm.of_below B2.out).mono (F' := fun k => F k ∨ w.heap.size ≤ k) (fun k _ hk => .inr hk)
    have e1 := F3.out.mono (F' := fun k => F k ∨ w.heap.size ≤ k) (fun k _ hk => .inl hk.1)
    have e2 := F4.out.mono (F' := fun k => F k ∨ w.heap.size ≤ k) (fun k _ hk => by
      rcases hk with h1 | h1
      · exact .inl h1.1
      · exact .inr (by omega))
    have e3 := F5.out.mono (F' := fun k => F k ∨ w.heap.size ≤ k) (fun k _ hk => .inr (by rcases hk with h1 | h1 <;> omega))
    exact ((e0.trans e1).trans e2).trans e3
end Go.Proofs.Ytembcflgjfligaa
