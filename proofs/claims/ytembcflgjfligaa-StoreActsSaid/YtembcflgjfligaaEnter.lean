/- takeOrder, giveOrder, enter of objstore, said of a store. -/
import Derived.Test.YtembcflgjfligaaChan
import Derived.Test.YtembcflgjfligaaSto
namespace Go.Proofs.Ytembcflgjfligaa
open Go.Conc Go.RowKit

theorem take_any {F : Nat → Prop} (b : Nat) (w : World) (st : St) (h : Sto w F b st) :
    Calls Try.prog 21 #[.pointer (some ⟨b, 0, none⟩)] w fun e w' => e = .returned (.int .i64 st.owed) ∧ Sto w' F b { st with owed := 0 } ∧ Frm F w w' := by
  obtain ⟨sv, cv, h⟩ := h
  rcases h.owes with ⟨rfl, h0⟩ | ⟨c, s, r, rfl, ⟨h0, hq⟩ | ⟨hn, hm, hq⟩⟩
  · refine (take_nil b w h.c3).mono ?_
    rintro e w' ⟨rfl, rfl⟩
    have e0 : { st with owed := 0 } = st := by rw [← h0]
    exact ⟨by rw [h0], by rw [e0]; exact ⟨_, _, h⟩, Frm.refl _ _⟩
  · refine (take_empty b c s r w h.c3 hq).mono ?_
    rintro e w' ⟨rfl, rfl⟩
    have e0 : { st with owed := 0 } = st := by rw [← h0]
    exact ⟨by rw [h0], by rw [e0]; exact ⟨_, _, h⟩, Frm.refl _ _⟩
  · refine (take_some b c s r st.owed w h.c3 hq).mono ?_
    rintro e w' ⟨rfl, rfl⟩
    exact ⟨rfl, ⟨_, _, h.taken rfl⟩, (Frm.refl F w).setChan (h.chanF c rfl) _ _ _ _ _ _⟩

theorem give_any {F : Nat → Prop} (b : Nat) (n : Int) (w : World) (st : St) (h : Sto w F b st) (hF : ∀ k, w.heap.size ≤ k → F k) (h0 : 0 ≤ n) (hm : n ≤ 9223372036854775807) :
    Calls Try.prog 22 #[.pointer (some ⟨b, 0, none⟩), .int .i64 n] w fun e w' => e = .returned (.tuple #[]) ∧ Sto w' F b { st with owed := n } ∧ Frm F w w' := by
  obtain ⟨sv, cv, h⟩ := h
  have hg := h.given hF
  have hfr : Frm F w ((w.setCell ⟨b, 3, none⟩ (.chan (some w.heap.size))).alloc (.chan 1 #[] false 0 0 false)) := ((Frm.refl F w).setCell h.mine _).alloc _
  by_cases hn : 0 < n
  · refine (give_some b n hn w cv h.c3 (h.fz 3)).mono ?_
    rintro e w' ⟨rfl, rfl⟩
    exact ⟨rfl, ⟨_, _, hg.sent rfl n hn hm⟩, hfr.setChan (hF _ (Nat.le_refl _)) _ _ _ _ _ _⟩
  · refine (give_zero b n (by omega) w cv h.c3 (h.fz 3)).mono ?_
    rintro e w' ⟨rfl, rfl⟩
    obtain rfl : n = 0 := by omega
    exact ⟨rfl, ⟨_, _, hg⟩, hfr⟩

set_option maxHeartbeats 400000 in
theorem enter_ok {F : Nat → Prop} (b : Nat) (w : World) (st : St) (h : Sto w F b st) (ho : st.owed = 0) (hc : st.calls + 1 ≤ 9223372036854775807) :
    Calls Try.prog 28 #[.pointer (some ⟨b, 0, none⟩)] w fun e w' => e = .returned (.int .i64 0) ∧ Sto w' F b { st with calls := st.calls + 1 } ∧ Frm F w w' := by
  obtain ⟨sv, cv, h⟩ := h
  have h1 := h.setCalls (st.calls + 1) (by have := h.calls_ge; omega)
  have g2 := h.c2
  have z2 := h.fz 2
  have hge := h.calls_ge
  have T := Lib.hid (take_any b _ _ ⟨sv, cv, h1⟩)
  have H := Lib.hid h
  have HO := Lib.hid ho
  clear h h1 ho
  go_enter Try.func28, Try.ntmps28
  go_wp2_with (go_at_call 21; refine (T.out).mono ?_; rintro e w1 ⟨rfl, hs, hf⟩; dsimp only; rw [HO.out]; have HS := Lib.hid hs; clear hs)
  go_ret
  refine ⟨rfl, ?_, ((Frm.refl F w).setCell H.out.mine _).trans hf⟩
  have := HS.out
  have e0 : ({ st with calls := st.calls + 1, owed := 0 } : St) = { st with calls := st.calls + 1 } := by rw [← HO.out]
  rw [← e0]
  exact this

set_option maxHeartbeats 400000 in
theorem enter_fails {F : Nat → Prop} (b : Nat) (w : World) (st : St) (h : Sto w F b st) (hF : ∀ k, w.heap.size ≤ k → F k) (ho : 0 < st.owed) (hm : st.owed ≤ 9223372036854775807) (hc : st.calls + 1 ≤ 9223372036854775807) :
    Calls Try.prog 28 #[.pointer (some ⟨b, 0, none⟩)] w fun e w' => e = .returned (.int .i64 104) ∧ Sto w' F b { st with calls := st.calls + 1, owed := st.owed - 1 } ∧ Frm F w w' := by
  obtain ⟨sv, cv, h⟩ := h
  have h1 := h.setCalls (st.calls + 1) (by have := h.calls_ge; omega)
  have g2 := h.c2
  have z2 := h.fz 2
  have hge := h.calls_ge
  have T := Lib.hid (take_any b _ _ ⟨sv, cv, h1⟩)
  have H := Lib.hid h
  have hne : (st.owed == 0) = false := by simp; omega
  clear h h1
  go_enter Try.func28, Try.ntmps28
  go_wp2_with (first
    | (go_at_call 21; refine (T.out).mono ?_; rintro e w1 ⟨rfl, hs, hf⟩; have HS := Lib.hid hs; clear hs; have HF1 := Lib.hid hf; clear hf)
    | (go_at_call 22; refine (give_any b (st.owed - 1) _ _ HS.out (fun k hk => hF k (Nat.le_trans (by have := HF1.out.size; simpa [World.setCell] using this) hk)) (by omega) (by omega)).mono ?_; rintro e w2 ⟨rfl, hs2, hf2⟩; have HS2 := Lib.hid hs2; clear hs2; have HF2 := Lib.hid hf2; clear hf2))
  go_ret
  exact ⟨rfl, HS2.out, (((Frm.refl F w).setCell H.out.mine _).trans HF1.out).trans HF2.out⟩
end Go.Proofs.Ytembcflgjfligaa
