/- Get, Delete, All of objstore. -/
import Derived.Test.YtembcflgjfligaaPut
namespace Go.Proofs.Ytembcflgjfligaa
open Go.Conc Go.RowKit

/-- The call answered v, and the store stands at st'. -/
def Gave (F : Nat → Prop) (b : Nat) (w : World) (v : Value) (st' : St) (e : Ending) (w' : World) : Prop := e = .returned v ∧ Sto w' F b st' ∧ Frm F w w'

section
variable {F : Nat → Prop} (b : Nat) (k : ByteArray) (w : World) (st : St)
theorem get_fails (h : Sto w F b st) (hF : ∀ k, w.heap.size ≤ k → F k) (ho : 0 < st.owed) (hm : st.owed ≤ 9223372036854775807) (hc : st.calls + 1 ≤ 9223372036854775807) :
    Calls Try.prog 16 #[.pointer (some ⟨b, 0, none⟩), .string k] w (Gave F b w (.tuple #[.string ByteArray.empty, .int .i64 104]) { st with calls := st.calls + 1, owed := st.owed - 1 }) := by
  have T := Lib.hid (enter_fails b w st h hF ho hm hc)
  clear h ho hm hc hF
  go_enter Try.func16, Try.ntmps16
  go_wp2_with (go_at_call 28; refine (T.out).mono ?_; rintro e w1 ⟨rfl, hs, hf⟩; have HS := Lib.hid hs; clear hs; have HF := Lib.hid hf; clear hf)
  go_ret2
  exact ⟨rfl, HS.out, HF.out⟩

set_option maxHeartbeats 400000 in
theorem get_none (h : Sto w F b st) (ho : st.owed = 0) (hc : st.calls + 1 ≤ 9223372036854775807) (hs : Rises (st.os.map Ob.key)) (hin : k ∉ st.os.map Ob.key) :
    Calls Try.prog 16 #[.pointer (some ⟨b, 0, none⟩), .string k] w (Gave F b w (.tuple #[.string ByteArray.empty, .int .i64 102]) { st with calls := st.calls + 1 }) := by
  have T := Lib.hid (enter_ok b w st h ho hc)
  have HT : Hid (keyThere (st.os.map Ob.key) k = false) := by
    unfold Hid
    rw [Bool.eq_false_iff, ne_eq, keyThere_iff]
    exact hin
  have HR := Lib.hid hs
  clear h ho hc hin hs
  go_enter Try.func16, Try.ntmps16
  go_wp2_with (first
    | (go_at_call 28; refine (T.out).mono ?_; rintro e w1 ⟨rfl, hs, hf⟩; have HS := Lib.hid hs; clear hs; have HF := Lib.hid hf; clear hf)
    | (go_at_call 30; refine (find_any b k _ _ HS.out HR.out).mono ?_; rintro e w3 ⟨rfl, hb⟩; dsimp only; rw [HT.out]; have HB := Lib.hid hb; clear hb))
  go_ret2
  exact ⟨rfl, HS.out.new HB.out, HF.out.trans (Frm.of_new HB.out F)⟩

set_option maxHeartbeats 400000 in
theorem get_ok (h : Sto w F b st) (ho : st.owed = 0) (hc : st.calls + 1 ≤ 9223372036854775807) (hs : Rises (st.os.map Ob.key)) (o : Ob) (hin : o ∈ st.os) (hk : o.key = k) :
    Calls Try.prog 16 #[.pointer (some ⟨b, 0, none⟩), .string k] w (Gave F b w (.tuple #[.string o.data, .int .i64 0]) { st with calls := st.calls + 1 }) := by
  have hmem : k ∈ st.os.map Ob.key := List.mem_map.2 ⟨o, hin, hk⟩
  have T := Lib.hid (enter_ok b w st h ho hc)
  have HT := Lib.hid ((keyThere_iff (st.os.map Ob.key) k).2 hmem)
  have HR := Lib.hid hs
  have hat : st.os[keyPlace (st.os.map Ob.key) k]? = some o := by
    have h1 := (keyPlace_mem hs k).1 hmem
    rw [List.getElem?_map, Option.map_eq_some_iff] at h1
    obtain ⟨p, hp, hpk⟩ := h1
    obtain ⟨j, hj⟩ := List.getElem?_of_mem hin
    have hj' : (st.os.map Ob.key)[j]? = some k := by simp [hj, hk]
    have hp' : (st.os.map Ob.key)[keyPlace (st.os.map Ob.key) k]? = some k := by simp [hp, hpk]
    rcases Nat.lt_trichotomy j (keyPlace (st.os.map Ob.key) k) with hlt | heq | hgt
    · have := hs.at hj' hp' hlt; rw [cmpK_refl] at this; omega
    · rw [← heq]; exact hj
    · have := hs.at hp' hj' hgt; rw [cmpK_refl] at this; omega
  obtain ⟨i, hi⟩ : ∃ i, i = keyPlace (st.os.map Ob.key) k := ⟨_, rfl⟩
  rw [← hi] at hat
  have HI := Lib.hid hi
  have hlt : i < st.os.length := (List.getElem?_eq_some_iff.1 hat).1
  have HA := Lib.hid hat
  clear h ho hc hin hs hmem hk hi hat
  go_enter Try.func16, Try.ntmps16
  go_wp2_with (first
    | (go_at_call 28; refine (T.out).mono ?_; rintro e w1 ⟨rfl, hs, hf⟩; have HS := Lib.hid hs; clear hs; have HF := Lib.hid hf; clear hf)
    | (go_at_call 30; refine (find_any b k _ _ HS.out HR.out).mono ?_; rintro e w3 ⟨rfl, hb⟩; dsimp only; rw [HT.out, ← HI.out]; have HB := Lib.hid hb; clear hb; obtain ⟨sv, cv, h3⟩ := HS.out.new HB.out; have g1 := h3.c1; have H3 := Lib.hid h3; clear h3; rcases H3.out.row.2 with ⟨rfl, h0⟩ | ⟨g, cap, cur, rfl, hb', hgg, hnc, hcm, hcs, htake⟩; (have h0' : st.os.length = 0 := h0; omega); clear hgg hnc hcm hcs htake hb'; obtain ⟨q0, q1, q2⟩ := row_cells H3.out.row i o HA.out))
  go_ret2
  exact ⟨rfl, ⟨_, _, H3.out⟩, HF.out.trans (Frm.of_new HB.out F)⟩

theorem del_fails (h : Sto w F b st) (hF : ∀ k, w.heap.size ≤ k → F k) (ho : 0 < st.owed) (hm : st.owed ≤ 9223372036854775807) (hc : st.calls + 1 ≤ 9223372036854775807) :
    Calls Try.prog 19 #[.pointer (some ⟨b, 0, none⟩), .string k] w (Did F b w 104 { st with calls := st.calls + 1, owed := st.owed - 1 }) := by
  have T := Lib.hid (enter_fails b w st h hF ho hm hc)
  clear h ho hm hc hF
  go_enter Try.func19, Try.ntmps19
  go_wp2_with (go_at_call 28; refine (T.out).mono ?_; rintro e w1 ⟨rfl, hs, hf⟩; have HS := Lib.hid hs; clear hs; have HF := Lib.hid hf; clear hf)
  go_ret
  exact ⟨rfl, HS.out, HF.out⟩

set_option maxHeartbeats 400000 in
theorem del_none (h : Sto w F b st) (ho : st.owed = 0) (hc : st.calls + 1 ≤ 9223372036854775807) (hs : Rises (st.os.map Ob.key)) (hin : k ∉ st.os.map Ob.key) :
    Calls Try.prog 19 #[.pointer (some ⟨b, 0, none⟩), .string k] w (Did F b w 102 { st with calls := st.calls + 1 }) := by
  have T := Lib.hid (enter_ok b w st h ho hc)
  have HT : Hid (keyThere (st.os.map Ob.key) k = false) := by
    unfold Hid
    rw [Bool.eq_false_iff, ne_eq, keyThere_iff]
    exact hin
  have HR := Lib.hid hs
  clear h ho hc hin hs
  go_enter Try.func19, Try.ntmps19
  go_wp2_with (first
    | (go_at_call 28; refine (T.out).mono ?_; rintro e w1 ⟨rfl, hs, hf⟩; have HS := Lib.hid hs; clear hs; have HF := Lib.hid hf; clear hf)
    | (go_at_call 30; refine (find_any b k _ _ HS.out HR.out).mono ?_; rintro e w3 ⟨rfl, hb⟩; dsimp only; rw [HT.out]; have HB := Lib.hid hb; clear hb))
  go_ret
  exact ⟨rfl, HS.out.new HB.out, HF.out.trans (Frm.of_new HB.out F)⟩

set_option maxHeartbeats 400000 in
theorem del_ok (h : Sto w F b st) (hF : ∀ k, w.heap.size ≤ k → F k) (ho : st.owed = 0) (hc : st.calls + 1 ≤ 9223372036854775807) (hs : Rises (st.os.map Ob.key)) (hin : k ∈ st.os.map Ob.key) :
    Calls Try.prog 19 #[.pointer (some ⟨b, 0, none⟩), .string k] w (Did F b w 0 { st with calls := st.calls + 1, os := delAt st.os (keyPlace (st.os.map Ob.key) k) }) := by
  have T := Lib.hid (enter_ok b w st h ho hc)
  have HT := Lib.hid ((keyThere_iff (st.os.map Ob.key) k).2 hin)
  have HR := Lib.hid hs
  have hlt : keyPlace (st.os.map Ob.key) k < st.os.length := by
    have := (List.getElem?_eq_some_iff.1 ((keyPlace_mem hs k).1 hin)).1
    simpa using this
  obtain ⟨hm, hl⟩ : st.most ≤ 4096 ∧ (st.os.length : Int) ≤ st.most := by
    obtain ⟨_, _, h'⟩ := h
    exact ⟨h'.most_le, h'.len_le⟩
  obtain ⟨i, hi⟩ : ∃ i, i = keyPlace (st.os.map Ob.key) k := ⟨_, rfl⟩
  rw [← hi] at hlt ⊢
  have HI := Lib.hid hi
  have HF0 := Lib.hid hF
  clear h ho hc hin hs hi hF
  go_enter Try.func19, Try.ntmps19
  go_wp2_with (first
    | (go_at_call 28; refine (T.out).mono ?_; rintro e w1 ⟨rfl, hs, hf⟩; have HS := Lib.hid hs; clear hs; have HF := Lib.hid hf; clear hf)
    | (go_at_call 30; refine (find_any b k _ _ HS.out HR.out).mono ?_; rintro e w3 ⟨rfl, hb⟩; dsimp only; rw [HT.out, ← HI.out]; have HB := Lib.hid hb; clear hb; obtain ⟨sv, cv, h3⟩ := HS.out.new HB.out; obtain ⟨a, cap, rfl⟩ := h3.shape; have g1 := h3.c1; have H3 := Lib.hid h3; clear h3)
    | (go_at_call 33; refine (sdelete_any _ _ st.os i H3.out.row hlt (by omega)).mono ?_; rintro e w5 ⟨sv', rfl, ho5, hg5, hn5⟩; obtain ⟨a', cap', rfl⟩ := row_shape ho5; have HO5 := Lib.hid ho5; clear ho5; have HG5 := Lib.hid hg5; clear hg5; have HN5 := Lib.hid hn5; clear hn5; obtain ⟨⟨q1, q2⟩, h6, hf6⟩ := H3.out.replaced (delAt st.os i) HG5.out HO5.out HN5.out (fun k' hk' => HF0.out k' (Nat.le_trans (Nat.le_trans HF.out.size HB.out.size) hk')) (by have e1 := delAt_length st.os i hlt; rw [e1]; show ((st.os.length - 1 : Nat) : Int) ≤ st.most; omega); have H6 := Lib.hid h6; clear h6; have HF6 := Lib.hid hf6; clear hf6))
  go_ret
  exact ⟨rfl, ⟨_, _, H6.out⟩, (HF.out.trans (Frm.of_new HB.out F)).trans HF6.out⟩

/-- All: a new list of all objects. -/
theorem all_any (h : Sto w F b st) : Calls Try.prog 12 #[.pointer (some ⟨b, 0, none⟩)] w fun e w' => ∃ sv', e = .returned sv' ∧ w'.ownsRow w.heap.size 56 3 sv' st.os.length (rowOf st.os) ∧ Below w.heap.size w w' := by
  obtain ⟨sv, cv, h⟩ := h
  have T := Lib.hid (clone_any w sv st.os h.row (by have := h.most_le; have := h.len_le; omega))
  obtain ⟨a, cap, rfl⟩ := h.shape
  have g1 := h.c1
  clear h
  go_enter Try.func12, Try.ntmps12
  go_wp2_with (go_at_call 20; refine (T.out).mono ?_; rintro e w1 ⟨sv', rfl, hr, hb⟩; have HR := Lib.hid hr; clear hr; have HB := Lib.hid hb; clear hb)
  go_ret
  exact ⟨sv', rfl, HR.out, HB.out⟩
end
end Go.Proofs.Ytembcflgjfligaa
