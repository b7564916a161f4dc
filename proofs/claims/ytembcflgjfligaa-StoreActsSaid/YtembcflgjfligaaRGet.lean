/- Get, Delete of the reference. -/
import Derived.Test.YtembcflgjfligaaRPut
namespace Go.Proofs.Ytembcflgjfligaa
open Go.Conc Go.RowKit

/-- The call answered v, and the reference's store stands at st'. -/
def RGave (F : Nat → Prop) (b : Nat) (w : World) (v : Value) (st' : St) (e : Ending) (w' : World) : Prop := e = .returned v ∧ Ref w' F b st' ∧ Frm F w w'

section
variable {F : Nat → Prop} (b : Nat) (k : ByteArray) (w : World) (st : St)
theorem rget_fails (h : Ref w F b st) (ho : 0 < st.owed) (hc : st.calls + 1 ≤ 9223372036854775807) :
    Calls Try.prog 24 #[.pointer (some ⟨b, 0, none⟩), .string k] w (RGave F b w (.tuple #[.string ByteArray.empty, .int .i64 104]) { st with calls := st.calls + 1, owed := st.owed - 1 }) := by
  have T := Lib.hid (rcall_fails b w st h ho hc)
  clear h ho hc
  go_enter Try.func24, Try.ntmps24
  go_wp2_with (go_at_call 34; refine (T.out).mono ?_; rintro e w1 ⟨rfl, hs, hf⟩; have HS := Lib.hid hs; clear hs; have HF := Lib.hid hf; clear hf)
  go_ret2
  exact ⟨rfl, HS.out, HF.out⟩

set_option maxHeartbeats 400000 in
theorem rget_none (h : Ref w F b st) (ho : st.owed = 0) (hc : st.calls + 1 ≤ 9223372036854775807) (hs : Rises (st.os.map Ob.key)) (HK : k.size ≤ 9223372036854775807) (hin : k ∉ st.os.map Ob.key) :
    Calls Try.prog 24 #[.pointer (some ⟨b, 0, none⟩), .string k] w (RGave F b w (.tuple #[.string ByteArray.empty, .int .i64 102]) { st with calls := st.calls + 1 }) := by
  have T := Lib.hid (rcall_ok b w st h ho hc)
  have HT : Hid (keyThere (st.os.map Ob.key) k = false) := by
    unfold Hid
    rw [Bool.eq_false_iff, ne_eq, keyThere_iff]
    exact hin
  have HR := Lib.hid hs
  clear h ho hc hin hs
  go_enter Try.func24, Try.ntmps24
  go_wp2_with (first
    | (go_at_call 34; refine (T.out).mono ?_; rintro e w1 ⟨rfl, hs, hf⟩; have HS := Lib.hid hs; clear hs; have HF := Lib.hid hf; clear hf)
    | (go_at_call 36; refine (rplace_any b k _ _ HS.out HR.out HK).mono ?_; rintro e w3 ⟨rfl, hb⟩; dsimp only; rw [HT.out]; have HB := Lib.hid hb; clear hb))
  go_ret2
  exact ⟨rfl, HS.out.new HB.out, HF.out.trans (Frm.of_new HB.out F)⟩

set_option maxHeartbeats 400000 in
theorem rget_ok (h : Ref w F b st) (ho : st.owed = 0) (hc : st.calls + 1 ≤ 9223372036854775807) (hs : Rises (st.os.map Ob.key)) (HK : k.size ≤ 9223372036854775807) (o : Ob) (hin : o ∈ st.os) (hk : o.key = k) :
    Calls Try.prog 24 #[.pointer (some ⟨b, 0, none⟩), .string k] w (RGave F b w (.tuple #[.string o.data, .int .i64 0]) { st with calls := st.calls + 1 }) := by
  have hmem : k ∈ st.os.map Ob.key := List.mem_map.2 ⟨o, hin, hk⟩
  have T := Lib.hid (rcall_ok b w st h ho hc)
  have HT := Lib.hid ((keyThere_iff (st.os.map Ob.key) k).2 hmem)
  have HR := Lib.hid hs
  have hat : st.os[keyPlace (st.os.map Ob.key) k]? = some o := by
    have h1 := (keyPlace_mem hs k).1 hmem
    rw [List.getElem?_map, Option.map_eq_some_iff] at h1
    obtain ⟨p, hp, hpk⟩ := h1
    obtain ⟨j, hj⟩ := List.getElem?_of_mem hin
    have hj' : (st.os.map Ob.key)[j]? = some k := by simp [hj, hk]
    have hp' : (st.os.map Ob.key)[keyPlace (st.os.map Ob.key) k]? = some k := by simp [hp, hpk]
    rcases Nat.lt_trichotomy j (keyPlace (st.os.map Ob.key) k) with hlt | heq | hgt
    · have := hs.at hj' hp' hlt; rw [cmpK_refl] at this; omega
    · rw [← heq]; exact hj
    · have := hs.at hp' hj' hgt; rw [cmpK_refl] at this; omega
  obtain ⟨i, hi⟩ : ∃ i, i = keyPlace (st.os.map Ob.key) k := ⟨_, rfl⟩
  rw [← hi] at hat
  have HI := Lib.hid hi
  have hlt : i < st.os.length := (List.getElem?_eq_some_iff.1 hat).1
  have HA := Lib.hid hat
  clear h ho hc hin hs hmem hk hi hat
  go_enter Try.func24, Try.ntmps24
  go_wp2_with (first
    | (go_at_call 34; refine (T.out).mono ?_; rintro e w1 ⟨rfl, hs, hf⟩; have HS := Lib.hid hs; clear hs; have HF := Lib.hid hf; clear hf)
    | (go_at_call 36; refine (rplace_any b k _ _ HS.out HR.out HK).mono ?_; rintro e w3 ⟨rfl, hb⟩; dsimp only; rw [HT.out, ← HI.out]; have HB := Lib.hid hb; clear hb; obtain ⟨sv, h3⟩ := HS.out.new HB.out; have g1 := h3.c1; have H3 := Lib.hid h3; clear h3; rcases H3.out.row.2 with ⟨rfl, h0⟩ | ⟨g, cap, cur, rfl, hb', hgg, hnc, hcm, hcs, htake⟩; (have h0' : st.os.length = 0 := h0; omega); clear hgg hnc hcm hcs htake hb'; obtain ⟨q0, q1, q2⟩ := row_cells H3.out.row i o HA.out))
  go_ret2
  exact ⟨rfl, ⟨_, H3.out⟩, HF.out.trans (Frm.of_new HB.out F)⟩

theorem rdel_fails (h : Ref w F b st) (ho : 0 < st.owed) (hc : st.calls + 1 ≤ 9223372036854775807) :
    Calls Try.prog 26 #[.pointer (some ⟨b, 0, none⟩), .string k] w (RDid F b w 104 { st with calls := st.calls + 1, owed := st.owed - 1 }) := by
  have T := Lib.hid (rcall_fails b w st h ho hc)
  clear h ho hc
  go_enter Try.func26, Try.ntmps26
  go_wp2_with (go_at_call 34; refine (T.out).mono ?_; rintro e w1 ⟨rfl, hs, hf⟩; have HS := Lib.hid hs; clear hs; have HF := Lib.hid hf; clear hf)
  go_ret
  exact ⟨rfl, HS.out, HF.out⟩

set_option maxHeartbeats 400000 in
theorem rdel_none (h : Ref w F b st) (ho : st.owed = 0) (hc : st.calls + 1 ≤ 9223372036854775807) (hs : Rises (st.os.map Ob.key)) (HK : k.size ≤ 9223372036854775807) (hin : k ∉ st.os.map Ob.key) :
    Calls Try.prog 26 #[.pointer (some ⟨b, 0, none⟩), .string k] w (RDid F b w 102 { st with calls := st.calls + 1 }) := by
  have T := Lib.hid (rcall_ok b w st h ho hc)
  have HT : Hid (keyThere (st.os.map Ob.key) k = false) := by
    unfold Hid
    rw [Bool.eq_false_iff, ne_eq, keyThere_iff]
    exact hin
  have HR := Lib.hid hs
  clear h ho hc hin hs
  go_enter Try.func26, Try.ntmps26
  go_wp2_with (first
    | (go_at_call 34; refine (T.out).mono ?_; rintro e w1 ⟨rfl, hs, hf⟩; have HS := Lib.hid hs; clear hs; have HF := Lib.hid hf; clear hf)
    | (go_at_call 36; refine (rplace_any b k _ _ HS.out HR.out HK).mono ?_; rintro e w3 ⟨rfl, hb⟩; dsimp only; rw [HT.out]; have HB := Lib.hid hb; clear hb))
  go_ret
  exact ⟨rfl, HS.out.new HB.out, HF.out.trans (Frm.of_new HB.out F)⟩
end
end Go.Proofs.Ytembcflgjfligaa
