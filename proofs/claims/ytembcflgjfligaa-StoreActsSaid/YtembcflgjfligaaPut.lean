/- Put of objstore. -/
import Derived.Test.YtembcflgjfligaaSdel
import Derived.Test.YtembcflgjfligaaKey
import Derived.Deep.QuietTactic
import Derived.BigQuiet
namespace Go.Proofs.Ytembcflgjfligaa
open Go.Conc Go.RowKit

theorem iskey_yes (k : ByteArray) (hk : KeyMay k) (w : World) : Calls Try.prog 29 #[.string k] w fun e w' => e = .returned (.bool true) ∧ w = w' := by
  refine (iskey_any k w (by have := hk.2.1; omega)).mono ?_
  rintro e w' ⟨rfl, ⟨rfl, _⟩ | ⟨_, h⟩⟩
  · exact ⟨rfl, rfl⟩
  · exact absurd hk h
theorem iskey_no (k : ByteArray) (hs : k.size ≤ 9223372036854775807) (hk : ¬ KeyMay k) (w : World) : Calls Try.prog 29 #[.string k] w fun e w' => e = .returned (.bool false) ∧ w = w' := by
  refine (iskey_any k w hs).mono ?_
  rintro e w' ⟨rfl, ⟨_, h⟩ | ⟨rfl, _⟩⟩
  · exact absurd h hk
  · exact ⟨rfl, rfl⟩

/-- The call answered the number c, and the store stands at st'. -/
def Did (F : Nat → Prop) (b : Nat) (w : World) (c : Int) (st' : St) (e : Ending) (w' : World) : Prop := e = .returned (.int .i64 c) ∧ Sto w' F b st' ∧ Frm F w w'

theorem IsSto.shape {w : World} {F : Nat → Prop} {b : Nat} {st : St} {sv cv : Value} (h : IsSto w F b st sv cv) : ∃ a cap, sv = .slice a st.os.length cap := by
  rcases h.row.2 with ⟨rfl, h0⟩ | ⟨g, cap, cur, rfl, _⟩
  · exact ⟨none, 0, by rw [h0]⟩
  · exact ⟨_, _, rfl⟩

theorem row_shape {w : World} {B n : Nat} {v : Value} {xs : List Value} (h : w.ownsRow B 56 3 v n xs) : ∃ a cap, v = .slice a n cap := by
  rcases h.2 with ⟨rfl, rfl⟩ | ⟨g, cap, cur, rfl, _⟩
  · exact ⟨none, 0, rfl⟩
  · exact ⟨_, _, rfl⟩

/-- The row was written, or a new one was made; it is laid into the store. -/
theorem IsSto.replaced {w w' : World} {F : Nat → Prop} {b : Nat} {st : St} {sv cv sv' : Value} (h : IsSto w F b st sv cv) (os : List Ob) (hg : w.grownBy w' sv.ownBlock) (hr : w'.ownsRow 0 56 3 sv' os.length (rowOf os)) (hn : NewRow w sv sv')
    (hF : ∀ k, w.heap.size ≤ k → F k) (hl : (os.length : Int) ≤ st.most) :
    (w'.cell? ⟨b, 1, none⟩ = some sv ∧ w'.frozen? ⟨b, 1, none⟩ = false) ∧ IsSto (w'.setCell ⟨b, 1, none⟩ sv') F b { st with os := os } sv' cv ∧ Frm F w (w'.setCell ⟨b, 1, none⟩ sv') := by
  have hb : w'.heap[b]? = w.heap[b]? := hg.block b h.lt (fun e => h.ne_row e.symm rfl)
  have hblk := hb.trans h.blk
  have hch : ∀ c, cv = .chan (some c) → w'.heap[c]? = w.heap[c]? := fun c hc => hg.block c (h.owes.chan_lt hc) (fun e => h.chan_ne_row hc e.symm rfl)
  refine ⟨⟨by rw [cell_of_row w' b 1 _ _ _ hblk]; rfl, frozen_of_row w' b 1 _ _ hblk⟩, ⟨?_, h.mine, ?_, ?_, ?_, h.chanF, h.most_le, hl, h.calls_ge⟩, ?_⟩
  · simpa using Go.Joins.block_setCell (i := 1) hblk sv'
  · exact row_same hr (fun g hg' => Below.heap_setCell _ _ _ _ (row_ne hr hg' hblk))
  · intro k hk
    rcases hn k hk with hk' | hk'
    · exact h.rowF k hk'
    · exact hF k hk'
  · exact h.owes.same (fun c hc => (Below.heap_setCell _ _ _ _ (h.ne_chan hc)).trans (hch c hc))
  · exact (Frm.grown (Frm.refl F w) hg (fun k hk => h.rowF k hk)).setCell h.mine _

section
variable {F : Nat → Prop} (b : Nat) (k d : ByteArray) (t : Int) (w : World) (st : St)
theorem put_fails (h : Sto w F b st) (hF : ∀ k, w.heap.size ≤ k → F k) (ho : 0 < st.owed) (hm : st.owed ≤ 9223372036854775807) (hc : st.calls + 1 ≤ 9223372036854775807) :
    Calls Try.prog 15 #[.pointer (some ⟨b, 0, none⟩), .string k, .string d, .int .i64 t] w (Did F b w 104 { st with calls := st.calls + 1, owed := st.owed - 1 }) := by
  have T := Lib.hid (enter_fails b w st h hF ho hm hc)
  clear h ho hm hc hF
  go_enter Try.func15, Try.ntmps15
  go_wp2_with (go_at_call 28; refine (T.out).mono ?_; rintro e w1 ⟨rfl, hs, hf⟩; have HS := Lib.hid hs; clear hs; have HF := Lib.hid hf; clear hf)
  go_ret
  exact ⟨rfl, HS.out, HF.out⟩

set_option maxHeartbeats 400000 in
theorem put_form (h : Sto w F b st) (ho : st.owed = 0) (hc : st.calls + 1 ≤ 9223372036854775807) (hk : k.size ≤ 9223372036854775807) (hd : d.size ≤ 9223372036854775807)
    (hbad : ¬ (KeyMay k ∧ d.size ≤ 65536 ∧ 0 ≤ t)) :
    Calls Try.prog 15 #[.pointer (some ⟨b, 0, none⟩), .string k, .string d, .int .i64 t] w (Did F b w 100 { st with calls := st.calls + 1 }) := by
  have T := Lib.hid (enter_ok b w st h ho hc)
  by_cases hm : KeyMay k
  · have HM := Lib.hid (iskey_yes k hm)
    by_cases h1 : 65536 < d.size
    · clear h ho hc hbad hm
      go_enter Try.func15, Try.ntmps15
      go_wp2_with (first
        | (go_at_call 28; refine (T.out).mono ?_; rintro e w1 ⟨rfl, hs, hf⟩; have HS := Lib.hid hs; clear hs; have HF := Lib.hid hf; clear hf)
        | (go_at_call 29; refine (HM.out _).mono ?_; rintro e w2 ⟨rfl, rfl⟩))
      go_ret
      exact ⟨rfl, HS.out, HF.out⟩
    · have h2 : t < 0 := by
        rcases Int.lt_or_le t 0 with h | h
        · exact h
        · exact absurd ⟨hm, by omega, h⟩ hbad
      clear h ho hc hbad hm
      go_enter Try.func15, Try.ntmps15
      go_wp2_with (first
        | (go_at_call 28; refine (T.out).mono ?_; rintro e w1 ⟨rfl, hs, hf⟩; have HS := Lib.hid hs; clear hs; have HF := Lib.hid hf; clear hf)
        | (go_at_call 29; refine (HM.out _).mono ?_; rintro e w2 ⟨rfl, rfl⟩))
      go_ret
      exact ⟨rfl, HS.out, HF.out⟩
  · have HM := Lib.hid (iskey_no k hk hm)
    clear h ho hc hbad hm
    go_enter Try.func15, Try.ntmps15
    go_wp2_with (first
      | (go_at_call 28; refine (T.out).mono ?_; rintro e w1 ⟨rfl, hs, hf⟩; have HS := Lib.hid hs; clear hs; have HF := Lib.hid hf; clear hf)
      | (go_at_call 29; refine (HM.out _).mono ?_; rintro e w2 ⟨rfl, rfl⟩))
    go_ret
    exact ⟨rfl, HS.out, HF.out⟩

set_option maxHeartbeats 400000 in
theorem put_exists (h : Sto w F b st) (ho : st.owed = 0) (hc : st.calls + 1 ≤ 9223372036854775807) (hs : Rises (st.os.map Ob.key))
    (hm : KeyMay k) (hd : d.size ≤ 65536) (ht : 0 ≤ t) (hin : k ∈ st.os.map Ob.key) :
    Calls Try.prog 15 #[.pointer (some ⟨b, 0, none⟩), .string k, .string d, .int .i64 t] w (Did F b w 101 { st with calls := st.calls + 1 }) := by
  have T := Lib.hid (enter_ok b w st h ho hc)
  have HM := Lib.hid (iskey_yes k hm)
  have HT := Lib.hid ((keyThere_iff (st.os.map Ob.key) k).2 hin)
  have HR := Lib.hid hs
  have hdn : ¬ 65536 < d.size := by omega
  have htn : ¬ t < 0 := by omega
  clear h ho hc hm hin hs
  go_enter Try.func15, Try.ntmps15
  go_wp2_with (first
    | (go_at_call 28; refine (T.out).mono ?_; rintro e w1 ⟨rfl, hs, hf⟩; have HS := Lib.hid hs; clear hs; have HF := Lib.hid hf; clear hf)
    | (go_at_call 29; refine (HM.out _).mono ?_; rintro e w2 ⟨rfl, rfl⟩)
    | (go_at_call 30; refine (find_any b k _ _ HS.out HR.out).mono ?_; rintro e w3 ⟨rfl, hb⟩; dsimp only; rw [HT.out]; have HB := Lib.hid hb; clear hb))
  go_ret
  exact ⟨rfl, HS.out.new HB.out, HF.out.trans (Frm.of_new HB.out F)⟩

set_option maxHeartbeats 400000 in
theorem put_full (h : Sto w F b st) (ho : st.owed = 0) (hc : st.calls + 1 ≤ 9223372036854775807) (hs : Rises (st.os.map Ob.key))
    (hm : KeyMay k) (hd : d.size ≤ 65536) (ht : 0 ≤ t) (hin : k ∉ st.os.map Ob.key) (hfull : st.most ≤ st.os.length) :
    Calls Try.prog 15 #[.pointer (some ⟨b, 0, none⟩), .string k, .string d, .int .i64 t] w (Did F b w 103 { st with calls := st.calls + 1 }) := by
  have T := Lib.hid (enter_ok b w st h ho hc)
  have HM := Lib.hid (iskey_yes k hm)
  have HT : Hid (keyThere (st.os.map Ob.key) k = false) := by
    unfold Hid
    rw [Bool.eq_false_iff, ne_eq, keyThere_iff]
    exact hin
  have HR := Lib.hid hs
  have hdn : ¬ 65536 < d.size := by omega
  have htn : ¬ t < 0 := by omega
  clear h ho hc hm hin hs
  go_enter Try.func15, Try.ntmps15
  go_wp2_with (first
    | (go_at_call 28; refine (T.out).mono ?_; rintro e w1 ⟨rfl, hs, hf⟩; have HS := Lib.hid hs; clear hs; have HF := Lib.hid hf; clear hf)
    | (go_at_call 29; refine (HM.out _).mono ?_; rintro e w2 ⟨rfl, rfl⟩)
    | (go_at_call 30; refine (find_any b k _ _ HS.out HR.out).mono ?_; rintro e w3 ⟨rfl, hb⟩; dsimp only; rw [HT.out]; have HB := Lib.hid hb; clear hb))
  obtain ⟨sv, cv, h3⟩ := HS.out.new HB.out
  obtain ⟨a, cap, rfl⟩ := h3.shape
  have g0 := h3.c0
  have g1 := h3.c1
  have H3 := Lib.hid h3
  clear h3
  go_quiet (fail)
  go_wp2
  go_ret
  exact ⟨rfl, Sto.same ⟨_, _, H3.out⟩ (fun _ _ _ => rfl), (HF.out.trans (Frm.of_new HB.out F)).same rfl rfl rfl rfl⟩

set_option maxHeartbeats 1000000 in
theorem put_ok (h : Sto w F b st) (hF : ∀ k, w.heap.size ≤ k → F k) (ho : st.owed = 0) (hc : st.calls + 1 ≤ 9223372036854775807) (hs : Rises (st.os.map Ob.key))
    (hm : KeyMay k) (hd : d.size ≤ 65536) (ht : 0 ≤ t) (hin : k ∉ st.os.map Ob.key) (hroom : st.os.length < st.most) :
    Calls Try.prog 15 #[.pointer (some ⟨b, 0, none⟩), .string k, .string d, .int .i64 t] w (Did F b w 0 { st with calls := st.calls + 1, os := insAt st.os (keyPlace (st.os.map Ob.key) k) ⟨k, d, t⟩ }) := by
  have T := Lib.hid (enter_ok b w st h ho hc)
  have HM := Lib.hid (iskey_yes k hm)
  have HT : Hid (keyThere (st.os.map Ob.key) k = false) := by
    unfold Hid
    rw [Bool.eq_false_iff, ne_eq, keyThere_iff]
    exact hin
  have HR := Lib.hid hs
  have hdn : ¬ 65536 < d.size := by omega
  have htn : ¬ t < 0 := by omega
  have hpl : keyPlace (st.os.map Ob.key) k ≤ st.os.length := by have := keyPlace_le (st.os.map Ob.key) k; simpa using this
  have HO := Lib.hid ho
  clear h ho hc hm hin hs
  go_enter Try.func15, Try.ntmps15
  go_wp2_with (first
    | (go_at_call 28; refine (T.out).mono ?_; rintro e w1 ⟨rfl, hs, hf⟩; have HS := Lib.hid hs; clear hs; have HF := Lib.hid hf; clear hf)
    | (go_at_call 29; refine (HM.out _).mono ?_; rintro e w2 ⟨rfl, rfl⟩)
    | (go_at_call 30; refine (find_any b k _ _ HS.out HR.out).mono ?_; rintro e w3 ⟨rfl, hb⟩; dsimp only; rw [HT.out]; have HB := Lib.hid hb; clear hb))
  obtain ⟨sv, cv, h3⟩ := HS.out.new HB.out
  obtain ⟨a, cap, rfl⟩ := h3.shape
  have g0 := h3.c0
  have g1 := h3.c1
  have z1 := h3.fz 1
  have H3 := Lib.hid h3
  have hlt3 := h3.lt
  clear h3
  obtain ⟨i, hi⟩ : ∃ i, i = keyPlace (st.os.map Ob.key) k := ⟨_, rfl⟩
  rw [← hi] at hpl ⊢
  have HI := Lib.hid hi
  clear hi
  go_quiet (fail)
  go_wp2_with fail
  have h4 : IsSto ((w3.drewN nq).alloc (.cells #[.string k, .string d, .int .i64 t] 56)) F b { st with calls := st.calls + 1 } (.slice a st.os.length cap) cv :=
    H3.out.same (fun k hk _ => Below.heap_alloc (w3.drewN nq) _ _ hk)
  have hF4 : ∀ k' : Nat, ((w3.drewN nq).alloc (.cells #[.string k, .string d, .int .i64 t] 56)).heap.size ≤ k' → F k' := fun k' hk' => by
    refine hF k' (Nat.le_trans (Nat.le_trans HF.out.size HB.out.size) ?_)
    simp at hk'
    show w3.heap.size ≤ k'
    have e : (w3.drewN nq).heap.size = w3.heap.size := rfl
    omega
  have HF4 := Lib.hid hF4
  have HFR : Hid (Frm F w ((w3.drewN nq).alloc (.cells #[.string k, .string d, .int .i64 t] 56))) := ((HF.out.trans (Frm.of_new HB.out F)).same (v := w3.drewN nq) rfl rfl rfl rfl).alloc _
  have H4 := Lib.hid h4
  have HV : Hid (∀ k', (Value.slice a st.os.length cap).ownBlock = some k' → w3.heap.size ≠ k') := fun k' hk' => by have := (H3.out.row.lt k' hk').2; omega
  clear h4 hF4
  refine (insert_any _ (.slice a st.os.length cap) st.os i ⟨k, d, t⟩ w3.heap.size H4.out.row hpl (by have q1 : st.most ≤ 4096 := H4.out.most_le; omega) (heap_alloc_new (w3.drewN nq) _) HV.out).mono ?_
  rintro e w5 ⟨sv', rfl, ho5, hg5, hn5⟩
  obtain ⟨a', cap', rfl⟩ := row_shape ho5
  have e1 := insAt_length st.os i ⟨k, d, t⟩ hpl
  obtain ⟨⟨q1, q2⟩, h6, hf6⟩ := H4.out.replaced (insAt st.os i ⟨k, d, t⟩) hg5 ho5 hn5 HF4.out (by rw [e1]; simp; omega)
  have H6 := Lib.hid h6
  have HF6 := Lib.hid hf6
  clear h6 hf6 ho5 hg5 hn5 e1
  go_wp2
  go_ret
  rw [← HI.out]
  exact ⟨rfl, ⟨_, _, H6.out⟩, HFR.out.trans HF6.out⟩
end
end Go.Proofs.Ytembcflgjfligaa
