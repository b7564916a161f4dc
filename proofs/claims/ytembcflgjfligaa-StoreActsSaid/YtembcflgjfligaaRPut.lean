/- Put of the reference. -/
import Derived.Test.YtembcflgjfligaaRRow
namespace Go.Proofs.Ytembcflgjfligaa
open Go.Conc Go.RowKit

theorem rkeymay_yes (k : ByteArray) (hk : KeyMay k) (w : World) : Calls Try.prog 35 #[.string k] w fun e w' => e = .returned (.bool true) ∧ w = w' := by
  refine (rkeymay_any k w (by have := hk.2.1; omega)).mono ?_
  rintro e w' ⟨rfl, ⟨rfl, _⟩ | ⟨_, h⟩⟩
  · exact ⟨rfl, rfl⟩
  · exact absurd hk h
theorem rkeymay_no (k : ByteArray) (hs : k.size ≤ 9223372036854775807) (hk : ¬ KeyMay k) (w : World) : Calls Try.prog 35 #[.string k] w fun e w' => e = .returned (.bool false) ∧ w = w' := by
  refine (rkeymay_any k w hs).mono ?_
  rintro e w' ⟨rfl, ⟨_, h⟩ | ⟨rfl, _⟩⟩
  · exact absurd h hk
  · exact ⟨rfl, rfl⟩
/-- The call answered c, and the reference's store stands at st'. -/
def RDid (F : Nat → Prop) (b : Nat) (w : World) (c : Int) (st' : St) (e : Ending) (w' : World) : Prop := e = .returned (.int .i64 c) ∧ Ref w' F b st' ∧ Frm F w w'

section
variable {F : Nat → Prop} (b : Nat) (k d : ByteArray) (t : Int) (w : World) (st : St)
theorem rput_fails (h : Ref w F b st) (ho : 0 < st.owed) (hc : st.calls + 1 ≤ 9223372036854775807) :
    Calls Try.prog 23 #[.pointer (some ⟨b, 0, none⟩), .string k, .string d, .int .i64 t] w (RDid F b w 104 { st with calls := st.calls + 1, owed := st.owed - 1 }) := by
  have T := Lib.hid (rcall_fails b w st h ho hc)
  clear h ho hc
  go_enter Try.func23, Try.ntmps23
  go_wp2_with (go_at_call 34; refine (T.out).mono ?_; rintro e w1 ⟨rfl, hs, hf⟩; have HS := Lib.hid hs; clear hs; have HF := Lib.hid hf; clear hf)
  go_ret
  exact ⟨rfl, HS.out, HF.out⟩

set_option maxHeartbeats 400000 in
theorem rput_form (h : Ref w F b st) (ho : st.owed = 0) (hc : st.calls + 1 ≤ 9223372036854775807) (hk : k.size ≤ 9223372036854775807) (hd : d.size ≤ 9223372036854775807)
    (hbad : ¬ (KeyMay k ∧ d.size ≤ 65536 ∧ 0 ≤ t)) :
    Calls Try.prog 23 #[.pointer (some ⟨b, 0, none⟩), .string k, .string d, .int .i64 t] w (RDid F b w 100 { st with calls := st.calls + 1 }) := by
  have T := Lib.hid (rcall_ok b w st h ho hc)
  by_cases hm : KeyMay k
  · have HM := Lib.hid (rkeymay_yes k hm)
    by_cases h1 : 65536 < d.size
    · clear h ho hc hbad hm
      go_enter Try.func23, Try.ntmps23
      go_wp2_with (first
        | (go_at_call 34; refine (T.out).mono ?_; rintro e w1 ⟨rfl, hs, hf⟩; have HS := Lib.hid hs; clear hs; have HF := Lib.hid hf; clear hf)
        | (go_at_call 35; refine (HM.out _).mono ?_; rintro e w2 ⟨rfl, rfl⟩))
      go_ret
      exact ⟨rfl, HS.out, HF.out⟩
    · have h2 : t < 0 := by
        rcases Int.lt_or_le t 0 with h | h
        · exact h
        · exact absurd ⟨hm, by omega, h⟩ hbad
      clear h ho hc hbad hm
      go_enter Try.func23, Try.ntmps23
      go_wp2_with (first
        | (go_at_call 34; refine (T.out).mono ?_; rintro e w1 ⟨rfl, hs, hf⟩; have HS := Lib.hid hs; clear hs; have HF := Lib.hid hf; clear hf)
        | (go_at_call 35; refine (HM.out _).mono ?_; rintro e w2 ⟨rfl, rfl⟩))
      go_ret
      exact ⟨rfl, HS.out, HF.out⟩
  · have HM := Lib.hid (rkeymay_no k hk hm)
    clear h ho hc hbad hm
    go_enter Try.func23, Try.ntmps23
    go_wp2_with (first
      | (go_at_call 34; refine (T.out).mono ?_; rintro e w1 ⟨rfl, hs, hf⟩; have HS := Lib.hid hs; clear hs; have HF := Lib.hid hf; clear hf)
      | (go_at_call 35; refine (HM.out _).mono ?_; rintro e w2 ⟨rfl, rfl⟩))
    go_ret
    exact ⟨rfl, HS.out, HF.out⟩

set_option maxHeartbeats 400000 in
theorem rput_exists (h : Ref w F b st) (ho : st.owed = 0) (hc : st.calls + 1 ≤ 9223372036854775807) (hs : Rises (st.os.map Ob.key))
    (hm : KeyMay k) (hd : d.size ≤ 65536) (ht : 0 ≤ t) (hin : k ∈ st.os.map Ob.key) :
    Calls Try.prog 23 #[.pointer (some ⟨b, 0, none⟩), .string k, .string d, .int .i64 t] w (RDid F b w 101 { st with calls := st.calls + 1 }) := by
  have T := Lib.hid (rcall_ok b w st h ho hc)
  have HM := Lib.hid (rkeymay_yes k hm)
  have HT := Lib.hid ((keyThere_iff (st.os.map Ob.key) k).2 hin)
  have HR := Lib.hid hs
  have HK : k.size ≤ 9223372036854775807 := by have := hm.2.1; omega
  have hdn : ¬ 65536 < d.size := by omega
  have htn : ¬ t < 0 := by omega
  clear h ho hc hm hin hs
  go_enter Try.func23, Try.ntmps23
  go_wp2_with (first
    | (go_at_call 34; refine (T.out).mono ?_; rintro e w1 ⟨rfl, hs, hf⟩; have HS := Lib.hid hs; clear hs; have HF := Lib.hid hf; clear hf)
    | (go_at_call 35; refine (HM.out _).mono ?_; rintro e w2 ⟨rfl, rfl⟩)
    | (go_at_call 36; refine (rplace_any b k _ _ HS.out HR.out HK).mono ?_; rintro e w3 ⟨rfl, hb⟩; dsimp only; rw [HT.out]; have HB := Lib.hid hb; clear hb))
  go_ret
  exact ⟨rfl, HS.out.new HB.out, HF.out.trans (Frm.of_new HB.out F)⟩

set_option maxHeartbeats 400000 in
theorem rput_full (h : Ref w F b st) (ho : st.owed = 0) (hc : st.calls + 1 ≤ 9223372036854775807) (hs : Rises (st.os.map Ob.key))
    (hm : KeyMay k) (hd : d.size ≤ 65536) (ht : 0 ≤ t) (hin : k ∉ st.os.map Ob.key) (hfull : st.most ≤ st.os.length) :
    Calls Try.prog 23 #[.pointer (some ⟨b, 0, none⟩), .string k, .string d, .int .i64 t] w (RDid F b w 103 { st with calls := st.calls + 1 }) := by
  have T := Lib.hid (rcall_ok b w st h ho hc)
  have HM := Lib.hid (rkeymay_yes k hm)
  have HT : Hid (keyThere (st.os.map Ob.key) k = false) := by
    unfold Hid
    rw [Bool.eq_false_iff, ne_eq, keyThere_iff]
    exact hin
  have HR := Lib.hid hs
  have HK : k.size ≤ 9223372036854775807 := by have := hm.2.1; omega
  have hdn : ¬ 65536 < d.size := by omega
  have htn : ¬ t < 0 := by omega
  clear h ho hc hm hin hs
  go_enter Try.func23, Try.ntmps23
  go_wp2_with (first
    | (go_at_call 34; refine (T.out).mono ?_; rintro e w1 ⟨rfl, hs, hf⟩; have HS := Lib.hid hs; clear hs; have HF := Lib.hid hf; clear hf)
    | (go_at_call 35; refine (HM.out _).mono ?_; rintro e w2 ⟨rfl, rfl⟩)
    | (go_at_call 36; refine (rplace_any b k _ _ HS.out HR.out HK).mono ?_; rintro e w3 ⟨rfl, hb⟩; dsimp only; rw [HT.out]; have HB := Lib.hid hb; clear hb))
  obtain ⟨sv, h3⟩ := HS.out.new HB.out
  obtain ⟨a, cap, rfl⟩ := h3.shape
  have g0 := h3.c0
  have g1 := h3.c1
  have H3 := Lib.hid h3
  clear h3
  go_quiet (fail)
  go_wp2
  go_ret
  exact ⟨rfl, Ref.same ⟨_, H3.out⟩ (fun _ _ _ => rfl), (HF.out.trans (Frm.of_new HB.out F)).same rfl rfl rfl rfl⟩


set_option maxHeartbeats 1000000 in
theorem rput_ok (h : Ref w F b st) (hF : ∀ k, w.heap.size ≤ k → F k) (ho : st.owed = 0) (hc : st.calls + 1 ≤ 9223372036854775807) (hs : Rises (st.os.map Ob.key))
    (hm : KeyMay k) (hd : d.size ≤ 65536) (ht : 0 ≤ t) (hin : k ∉ st.os.map Ob.key) (hroom : st.os.length < st.most) :
    Calls Try.prog 23 #[.pointer (some ⟨b, 0, none⟩), .string k, .string d, .int .i64 t] w (RDid F b w 0 { st with calls := st.calls + 1, os := insAt st.os (keyPlace (st.os.map Ob.key) k) ⟨k, d, t⟩ }) := by
  have T := Lib.hid (rcall_ok b w st h ho hc)
  have HM := Lib.hid (rkeymay_yes k hm)
  have HT : Hid (keyThere (st.os.map Ob.key) k = false) := by
    unfold Hid
    rw [Bool.eq_false_iff, ne_eq, keyThere_iff]
    exact hin
  have HR := Lib.hid hs
  have HK : k.size ≤ 9223372036854775807 := by have := hm.2.1; omega
  have hdn : ¬ 65536 < d.size := by omega
  have htn : ¬ t < 0 := by omega
  have hpl : keyPlace (st.os.map Ob.key) k ≤ st.os.length := by have := keyPlace_le (st.os.map Ob.key) k; simpa using this
  have hl4 : st.os.length < 4096 := by
    obtain ⟨_, h'⟩ := h
    have := h'.most_le
    omega
  clear h ho hc hm hin hs
  obtain ⟨i, hi⟩ : ∃ i, i = keyPlace (st.os.map Ob.key) k := ⟨_, rfl⟩
  rw [← hi] at hpl ⊢
  have HI := Lib.hid hi
  clear hi
  go_enter Try.func23, Try.ntmps23
  go_wp2_with (first
    | (go_at_call 34; refine (T.out).mono ?_; rintro e w1 ⟨rfl, hs, hf⟩; have HS := Lib.hid hs; clear hs; have HF := Lib.hid hf; clear hf)
    | (go_at_call 35; refine (HM.out _).mono ?_; rintro e w2 ⟨rfl, rfl⟩)
    | (go_at_call 36; refine (rplace_any b k _ _ HS.out HR.out HK).mono ?_; rintro e w3 ⟨rfl, hb⟩; dsimp only; rw [HT.out, ← HI.out]; have HB := Lib.hid hb; clear hb))
  obtain ⟨sv, h3⟩ := HS.out.new HB.out
  obtain ⟨a, cap, rfl⟩ := h3.shape
  have g0 := h3.c0
  have g1 := h3.c1
  have hlt3 := h3.lt
  have H3 := Lib.hid h3
  clear h3
  go_quiet (fail)
  obtain ⟨v0, hv0⟩ : ∃ v, v = w3.drewN nq := ⟨_, rfl⟩
  rw [← hv0]
  have hb0 : Below w3.heap.size w3 v0 := by rw [hv0]; exact bel_drewN (Below.refl _ _)
  have h0 : IsRef v0 F b { st with calls := st.calls + 1 } (.slice a st.os.length cap) := H3.out.same fun k' hk' _ => hb0.block k' hk'
  have F0 := Lib.hid (HF.out.trans ((Frm.of_new HB.out F).trans (Frm.of_new hb0 F)))
  have hF0 : ∀ k', v0.heap.size ≤ k' → F k' := fun k' hk' => hF k' (Nat.le_trans F0.out.size hk')
  have HF0 := Lib.hid hF0
  have q1 := h0.c1
  have hlt0 := h0.lt
  have H0 := Lib.hid h0
  have hnil : v0.ownsRow v0.heap.size 56 3 (.slice none 0 0) ([] : List Ob).length (rowOf []) := by simpa [rowOf] using World.ownsRow_nil _ _ _ _
  have HNil := Lib.hid hnil
  clear hv0 hb0 h0 g0 g1 hF0 hnil
  have h6 : ∀ v, Below v0.heap.size v0 v → IsRef v F b { st with calls := st.calls + 1 } (.slice a st.os.length cap) := fun v hv => H0.out.same fun k' hk' _ => hv.block k' hk'
  have H6 := Lib.hid h6
  clear h6
  rcases H0.out.row.2 with ⟨hv, hz⟩ | ⟨g, cap', cur, hv, _, hgg, hnc, _⟩
  · have hz' : st.os.length = 0 := hz
    obtain rfl : i = 0 := by omega
    have ho : st.os = [] := List.eq_nil_of_length_eq_zero hz'
    injection hv with e1 e2 e3
    subst e1 e3
    rw [hz'] at q1
    have HO := Lib.hid ho
    have hz1 := H0.out.fz 1
    clear ho hz hz' e2
    have S1 : IsSrc v0 (.slice none 0 0) (st.os.take 0) := by simpa using src_none v0
    have S3 : ∀ v, IsSrc v (.slice none 0 0) (st.os.drop 0) := fun v => by rw [HO.out]; exact src_none v
    have HS1 := Lib.hid S1
    have HS3 := Lib.hid S3
    clear S1 S3
    go_wp2_with (first
      | (at_builtin; refine wpList_append_src (base := v0.heap.size) [] (st.os.take 0) (st.os.take 0) 0 rfl (by simp <;> omega) rfl (.tmp 44) (.tmp 50) rfl rfl rfl rfl HNil.out HS1.out (by simp <;> omega) (Nat.le_refl _) ?_; rintro a4 c4 w4 r4 b4; have R4 := Lib.hid r4; have B4 := Lib.hid b4; clear r4 b4; have A4 : Hid (Below v0.heap.size v0 (w4.alloc (.cells #[.string k, .string d, .int .i64 t] 56))) := B4.out.alloc B4.out.size _)
      | (at_builtin; refine wpList_append_src (base := v0.heap.size) (st.os.take 0) [(Ob.mk k d t)] (st.os.take 0 ++ [(Ob.mk k d t)]) (0 + 1) rfl (by simp <;> omega) rfl (.tmp 52) (.tmp 57) rfl rfl rfl rfl (R4.out.alloc _) (src_one w4 k d t) (by simp <;> omega) A4.out.size ?_; rintro a5 c5 w5 r5 b5; have R5 := Lib.hid r5; have B5 := Lib.hid (A4.out.trans b5); clear r5 b5; have q5 := (B5.out.cell (p := ⟨b, 1, none⟩) hlt0).trans q1)
      | (at_builtin; refine wpList_append_src (base := v0.heap.size) (st.os.take 0 ++ [(Ob.mk k d t)]) (st.os.drop 0) (insAt st.os 0 (Ob.mk k d t)) (st.os.length + 1) (by simp [insAt]) (insAt_length st.os 0 (Ob.mk k d t) (by omega)).symm rfl (.tmp 59) (.tmp 65) rfl rfl rfl rfl R5.out (HS3.out _) (by simp <;> omega) B5.out.size ?_; rintro a6 c6 w6 r6 b6; have R6 := Lib.hid r6; have B6 := Lib.hid (B5.out.trans b6); clear r6 b6; have q6 := (B6.out.cell (p := ⟨b, 1, none⟩) hlt0).trans q1; have z6 := (B6.out.frozen (p := ⟨b, 1, none⟩) hlt0).trans hz1))
    go_ret
    have h7 := (H6.out _ B6.out).setRow (insAt st.os 0 (Ob.mk k d t)) _ (ownsRow_base (by rw [insAt_length st.os 0 (Ob.mk k d t) (by omega)] at R6 ⊢; exact R6.out) (Nat.zero_le _)) (fun k' hk' => HF0.out _ (R6.out.lt k' hk').1) (by rw [insAt_length st.os 0 (Ob.mk k d t) (by omega)]; simp; omega)
    first
      | exact ⟨rfl, ⟨_, h7⟩, (F0.out.trans (Frm.of_new B6.out F)).setCell H0.out.mine _⟩
      | (rw [hce] at h7; exact ⟨rfl, ⟨_, h7⟩, (F0.out.trans (Frm.of_new B6.out F)).setCell H0.out.mine _⟩)
  · injection hv with e1 e2 e3
    subst e1 e3
    have hnc' : st.os.length ≤ cap := hnc
    have hgv : g < v0.heap.size := (Array.getElem?_eq_some_iff.1 hgg).1
    have hz1 := H0.out.fz 1
    clear hgg hnc e2
    have S1 : ∀ c, IsSrc v0 (.slice (some ⟨g, 0, none⟩) i c) (st.os.take i) := fun c => src_take H0.out.row rfl i c hpl
    have HS1 := Lib.hid S1
    have S3 : ∀ v, Below v0.heap.size v0 v → ∀ a m c, m = st.os.length - i → (0 < m → a = ⟨g, i * 3, none⟩) → IsSrc v (.slice (some a) m c) (st.os.drop i) := fun v hv a m c hm ha =>
      src_drop (row_same H0.out.row (fun g' hg' => by simp [Value.ownBlock] at hg'; subst hg'; exact hv.block g hgv)) rfl i m c a hm ha
    have HS3 := Lib.hid S3
    clear S1 S3
    rcases Nat.lt_or_ge i cap with hic | hic
    · go_wp2_with (first
        | (at_builtin; refine wpList_append_src (base := v0.heap.size) [] (st.os.take i) (st.os.take i) i rfl (by simp <;> omega) rfl (.tmp 44) (.tmp 50) rfl rfl rfl rfl HNil.out (HS1.out _) (by simp <;> omega) (Nat.le_refl _) ?_; rintro a4 c4 w4 r4 b4; have R4 := Lib.hid r4; have B4 := Lib.hid b4; clear r4 b4; have A4 : Hid (Below v0.heap.size v0 (w4.alloc (.cells #[.string k, .string d, .int .i64 t] 56))) := B4.out.alloc B4.out.size _)
        | (at_builtin; refine wpList_append_src (base := v0.heap.size) (st.os.take i) [(Ob.mk k d t)] (st.os.take i ++ [(Ob.mk k d t)]) (i + 1) rfl (by simp <;> omega) rfl (.tmp 52) (.tmp 57) rfl rfl rfl rfl (R4.out.alloc _) (src_one w4 k d t) (by simp <;> omega) A4.out.size ?_; rintro a5 c5 w5 r5 b5; have R5 := Lib.hid r5; have B5 := Lib.hid (A4.out.trans b5); clear r5 b5; have q5 := (B5.out.cell (p := ⟨b, 1, none⟩) hlt0).trans q1)
        | (at_builtin; refine wpList_append_src (base := v0.heap.size) (st.os.take i ++ [(Ob.mk k d t)]) (st.os.drop i) (insAt st.os i (Ob.mk k d t)) (st.os.length + 1) (by simp [insAt]) (insAt_length st.os i (Ob.mk k d t) (by omega)).symm rfl (.tmp 59) (.tmp 65) rfl rfl rfl rfl R5.out (HS3.out _ B5.out ⟨g, i * 3, none⟩ (st.os.length - i) (cap - i) rfl (fun _ => rfl)) (by simp <;> omega) B5.out.size ?_; rintro a6 c6 w6 r6 b6; have R6 := Lib.hid r6; have B6 := Lib.hid (B5.out.trans b6); clear r6 b6; have q6 := (B6.out.cell (p := ⟨b, 1, none⟩) hlt0).trans q1; have z6 := (B6.out.frozen (p := ⟨b, 1, none⟩) hlt0).trans hz1))
      go_ret
      have h7 := (H6.out _ B6.out).setRow (insAt st.os i (Ob.mk k d t)) _ (ownsRow_base (by rw [insAt_length st.os i (Ob.mk k d t) (by omega)] at R6 ⊢; exact R6.out) (Nat.zero_le _)) (fun k' hk' => HF0.out _ (R6.out.lt k' hk').1) (by rw [insAt_length st.os i (Ob.mk k d t) (by omega)]; simp; omega)
      first
        | exact ⟨rfl, ⟨_, h7⟩, (F0.out.trans (Frm.of_new B6.out F)).setCell H0.out.mine _⟩
        | (rw [hce] at h7; exact ⟨rfl, ⟨_, h7⟩, (F0.out.trans (Frm.of_new B6.out F)).setCell H0.out.mine _⟩)
    · have hce : st.os.length = i := by omega
      obtain rfl : cap = i := by omega
      go_wp2_with (first
        | (at_builtin; refine wpList_append_src (base := v0.heap.size) [] (st.os.take cap) (st.os.take cap) cap rfl (by simp <;> omega) rfl (.tmp 44) (.tmp 50) rfl rfl rfl rfl HNil.out (HS1.out _) (by simp <;> omega) (Nat.le_refl _) ?_; rintro a4 c4 w4 r4 b4; have R4 := Lib.hid r4; have B4 := Lib.hid b4; clear r4 b4; have A4 : Hid (Below v0.heap.size v0 (w4.alloc (.cells #[.string k, .string d, .int .i64 t] 56))) := B4.out.alloc B4.out.size _)
        | (at_builtin; refine wpList_append_src (base := v0.heap.size) (st.os.take cap) [(Ob.mk k d t)] (st.os.take cap ++ [(Ob.mk k d t)]) (cap + 1) rfl (by simp <;> omega) rfl (.tmp 52) (.tmp 57) rfl rfl rfl rfl (R4.out.alloc _) (src_one w4 k d t) (by simp <;> omega) A4.out.size ?_; rintro a5 c5 w5 r5 b5; have R5 := Lib.hid r5; have B5 := Lib.hid (A4.out.trans b5); clear r5 b5; have q5 := (B5.out.cell (p := ⟨b, 1, none⟩) hlt0).trans q1)
        | (at_builtin; refine wpList_append_src (base := v0.heap.size) (st.os.take cap ++ [(Ob.mk k d t)]) (st.os.drop cap) (insAt st.os cap (Ob.mk k d t)) (st.os.length + 1) (by simp [insAt]) (insAt_length st.os cap (Ob.mk k d t) (by omega)).symm rfl (.tmp 59) (.tmp 65) rfl rfl rfl rfl R5.out (HS3.out _ B5.out ⟨g, 0, none⟩ 0 0 (by omega) (fun h => absurd h (by omega))) (by simp <;> omega) B5.out.size ?_; rintro a6 c6 w6 r6 b6; have R6 := Lib.hid r6; have B6 := Lib.hid (B5.out.trans b6); clear r6 b6; have q6 := (B6.out.cell (p := ⟨b, 1, none⟩) hlt0).trans q1; have z6 := (B6.out.frozen (p := ⟨b, 1, none⟩) hlt0).trans hz1))
      go_ret
      have h7 := (H6.out _ B6.out).setRow (insAt st.os cap (Ob.mk k d t)) _ (ownsRow_base (by rw [insAt_length st.os cap (Ob.mk k d t) (by omega)] at R6 ⊢; exact R6.out) (Nat.zero_le _)) (fun k' hk' => HF0.out _ (R6.out.lt k' hk').1) (by rw [insAt_length st.os cap (Ob.mk k d t) (by omega)]; simp; omega)
      first
        | exact ⟨rfl, ⟨_, h7⟩, (F0.out.trans (Frm.of_new B6.out F)).setCell H0.out.mine _⟩
        | (rw [hce] at h7; exact ⟨rfl, ⟨_, h7⟩, (F0.out.trans (Frm.of_new B6.out F)).setCell H0.out.mine _⟩)
end
end Go.Proofs.Ytembcflgjfligaa
