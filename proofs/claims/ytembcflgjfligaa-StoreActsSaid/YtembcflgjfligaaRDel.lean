/- Delete of the reference takes an object out. -/
import Derived.Test.YtembcflgjfligaaRGet
namespace Go.Proofs.Ytembcflgjfligaa
open Go.Conc Go.RowKit

section
variable {F : Nat → Prop} (b : Nat) (k : ByteArray) (w : World) (st : St)
theorem rcall_keep {sv : Value} (h : IsRef w F b st sv) (ho : st.owed = 0) (hc : st.calls + 1 ≤ 9223372036854775807) :
    Calls Try.prog 34 #[.pointer (some ⟨b, 0, none⟩)] w fun e w' => e = .returned (.bool true) ∧ IsRef w' F b { st with calls := st.calls + 1 } sv ∧ Frm F w w' := by
  have h1 := h.setCalls (st.calls + 1) (by have := h.calls_ge; omega)
  have g3 := h.c3
  have z3 := h.fz 3
  have q2 := h1.c2
  have hge := h.calls_ge
  rw [ho] at q2
  have H1 := Lib.hid h1
  have H := Lib.hid h
  clear h h1 ho
  go_enter Try.func34, Try.ntmps34
  go_wp2
  go_ret
  exact ⟨rfl, H1.out, (Frm.refl F w).setCell H.out.mine _⟩

set_option maxHeartbeats 2000000 in
theorem rdel_ok (h : Ref w F b st) (hF : ∀ k, w.heap.size ≤ k → F k) (ho : st.owed = 0) (hc : st.calls + 1 ≤ 9223372036854775807) (hs : Rises (st.os.map Ob.key)) (HK : k.size ≤ 9223372036854775807) (hin : k ∈ st.os.map Ob.key) :
    Calls Try.prog 26 #[.pointer (some ⟨b, 0, none⟩), .string k] w (RDid F b w 0 { st with calls := st.calls + 1, os := delAt st.os (keyPlace (st.os.map Ob.key) k) }) := by
  have HT := Lib.hid ((keyThere_iff (st.os.map Ob.key) k).2 hin)
  have HR := Lib.hid hs
  have hlt : keyPlace (st.os.map Ob.key) k < st.os.length := by
    have := (List.getElem?_eq_some_iff.1 ((keyPlace_mem hs k).1 hin)).1
    simpa using this
  obtain ⟨sv, h⟩ := h
  have hl4 : st.os.length ≤ 4096 := by
    have := h.most_le
    have := h.len_le
    omega
  have hlm := h.len_le
  obtain ⟨i, hi⟩ : ∃ i, i = keyPlace (st.os.map Ob.key) k := ⟨_, rfl⟩
  rw [← hi] at hlt ⊢
  have HI := Lib.hid hi
  have HF0 := Lib.hid hF
  rcases h.row.2 with ⟨hv, hz⟩ | ⟨g, cap, cur, hv, _, hgg, hnc, _⟩
  · have hz' : st.os.length = 0 := hz
    omega
  subst hv
  have T := Lib.hid (rcall_keep b w st h ho hc)
  have hnc' : st.os.length ≤ cap := hnc
  have hgv : g < w.heap.size := (Array.getElem?_eq_some_iff.1 hgg).1
  clear h ho hc hin hs hi hF hgg hnc
  have hb3 : (i : Int) + 1 ≤ (st.os.length : Int) := by omega
  have hb8 : ((i : Int) + 1).toNat = i + 1 := by omega
  have hb9 : i ≤ cap := by omega
  have hb10 : (0 : Int) ≤ (i : Int) + 1 := by omega
  have hdl := delAt_length st.os i hlt
  have HDl := Lib.hid hdl
  clear hdl
  rcases Nat.lt_or_ge (i + 1) cap with hic | hic
  · go_enter Try.func26, Try.ntmps26
    go_wp2_with (first
      | (go_at_call 34; refine (T.out).mono ?_; rintro e w1 ⟨rfl, h1, hf⟩; have HS := Lib.hid h1; clear h1; have HF := Lib.hid hf; clear hf)
      | (go_at_call 36; refine (rplace_any b k _ _ ⟨_, HS.out⟩ HR.out HK).mono ?_; rintro e w3 ⟨rfl, hb⟩; dsimp only; rw [HT.out, ← HI.out]; have h0 : IsRef w3 F b { st with calls := st.calls + 1 } _ := HS.out.same (fun k' hk' _ => hb.block k' hk'); have q1 := h0.c1; have hz1 := h0.fz 1; have hlt0 := h0.lt; have H0 := Lib.hid h0; have hg3 : g < w3.heap.size := Nat.lt_of_lt_of_le hgv (Nat.le_trans HF.out.size hb.size); have F0 := Lib.hid (HF.out.trans (Frm.of_new hb F)); clear hb h0; have hnil : w3.ownsRow w3.heap.size 56 3 (.slice none 0 0) ([] : List Ob).length (rowOf []) := (by simpa [rowOf] using World.ownsRow_nil _ _ _ _); have HNil := Lib.hid hnil; clear hnil)
      | (at_builtin; refine wpList_append_src (base := w3.heap.size) [] (st.os.take i) (st.os.take i) i rfl (by simp <;> omega) rfl (.tmp 19) (.tmp 25) rfl rfl rfl rfl HNil.out (src_take H0.out.row rfl i cap (Nat.le_of_lt hlt)) (by simp <;> omega) (Nat.le_refl _) ?_; rintro a4 c4 w4 r4 b4; have R4 := Lib.hid r4; have B4 := Lib.hid b4; clear r4 b4; have q4 := (B4.out.cell (p := ⟨b, 1, none⟩) hlt0).trans q1)
      | (at_builtin; refine wpList_append_src (base := w3.heap.size) (st.os.take i) (st.os.drop (i + 1)) (delAt st.os i) (st.os.length - 1) rfl HDl.out.symm rfl (.tmp 27) (.tmp 34) rfl rfl rfl rfl R4.out (src_drop (row_same H0.out.row (fun g' hg' => by simp [Value.ownBlock] at hg'; subst hg'; exact B4.out.block g hg3)) rfl (i + 1) (st.os.length - (i + 1)) (cap - (i + 1)) ⟨g, (i + 1) * 3, none⟩ rfl (fun _ => rfl)) (by simp <;> omega) B4.out.size ?_; rintro a6 c6 w6 r6 b6; have R6 := Lib.hid r6; have B6 := Lib.hid (B4.out.trans b6); clear r6 b6; have q6 := (B6.out.cell (p := ⟨b, 1, none⟩) hlt0).trans q1; have z6 := (B6.out.frozen (p := ⟨b, 1, none⟩) hlt0).trans hz1))
    go_ret
    have h6 := H0.out.same (w' := w6) fun k' hk' _ => B6.out.block k' hk'
    have h7 := h6.setRow (delAt st.os i) _ (ownsRow_base R6.out (Nat.zero_le _)) (fun k' hk' => HF0.out _ (Nat.le_trans F0.out.size (R6.out.lt k' hk').1)) (by rw [HDl.out]; show ((st.os.length - 1 : Nat) : Int) ≤ st.most; omega)
    first
      | exact ⟨rfl, ⟨_, h7⟩, (F0.out.trans (Frm.of_new B6.out F)).setCell H0.out.mine _⟩
      | (rw [hce] at h7; exact ⟨rfl, ⟨_, h7⟩, (F0.out.trans (Frm.of_new B6.out F)).setCell H0.out.mine _⟩)
  · have hce : st.os.length = i + 1 := by omega
    obtain rfl : cap = i + 1 := by omega
    go_enter Try.func26, Try.ntmps26
    go_wp2_with (first
      | (go_at_call 34; refine (T.out).mono ?_; rintro e w1 ⟨rfl, h1, hf⟩; have HS := Lib.hid h1; clear h1; have HF := Lib.hid hf; clear hf)
      | (go_at_call 36; refine (rplace_any b k _ _ ⟨_, HS.out⟩ HR.out HK).mono ?_; rintro e w3 ⟨rfl, hb⟩; dsimp only; rw [HT.out, ← HI.out]; have h0 : IsRef w3 F b { st with calls := st.calls + 1 } _ := HS.out.same (fun k' hk' _ => hb.block k' hk'); have q1 := h0.c1; have hz1 := h0.fz 1; have hlt0 := h0.lt; have H0 := Lib.hid h0; have hg3 : g < w3.heap.size := Nat.lt_of_lt_of_le hgv (Nat.le_trans HF.out.size hb.size); have F0 := Lib.hid (HF.out.trans (Frm.of_new hb F)); clear hb h0; have hnil : w3.ownsRow w3.heap.size 56 3 (.slice none 0 0) ([] : List Ob).length (rowOf []) := (by simpa [rowOf] using World.ownsRow_nil _ _ _ _); have HNil := Lib.hid hnil; clear hnil)
      | (at_builtin; refine wpList_append_src (base := w3.heap.size) [] (st.os.take i) (st.os.take i) i rfl (by simp <;> omega) rfl (.tmp 19) (.tmp 25) rfl rfl rfl rfl HNil.out (src_take H0.out.row rfl i (i + 1) (Nat.le_of_lt hlt)) (by simp <;> omega) (Nat.le_refl _) ?_; rintro a4 c4 w4 r4 b4; have R4 := Lib.hid r4; have B4 := Lib.hid b4; clear r4 b4; have q4 := (B4.out.cell (p := ⟨b, 1, none⟩) hlt0).trans q1)
      | (at_builtin; refine wpList_append_src (base := w3.heap.size) (st.os.take i) (st.os.drop (i + 1)) (delAt st.os i) (st.os.length - 1) rfl HDl.out.symm rfl (.tmp 27) (.tmp 34) rfl rfl rfl rfl R4.out (src_drop (row_same H0.out.row (fun g' hg' => by simp [Value.ownBlock] at hg'; subst hg'; exact B4.out.block g hg3)) rfl (i + 1) 0 0 ⟨g, 0, none⟩ (by omega) (fun h => absurd h (by omega))) (by simp <;> omega) B4.out.size ?_; rintro a6 c6 w6 r6 b6; have R6 := Lib.hid r6; have B6 := Lib.hid (B4.out.trans b6); clear r6 b6; have q6 := (B6.out.cell (p := ⟨b, 1, none⟩) hlt0).trans q1; have z6 := (B6.out.frozen (p := ⟨b, 1, none⟩) hlt0).trans hz1))
    go_ret
    have h6 := H0.out.same (w' := w6) fun k' hk' _ => B6.out.block k' hk'
    have h7 := h6.setRow (delAt st.os i) _ (ownsRow_base R6.out (Nat.zero_le _)) (fun k' hk' => HF0.out _ (Nat.le_trans F0.out.size (R6.out.lt k' hk').1)) (by rw [HDl.out]; show ((st.os.length - 1 : Nat) : Int) ≤ st.most; omega)
    first
      | exact ⟨rfl, ⟨_, h7⟩, (F0.out.trans (Frm.of_new B6.out F)).setCell H0.out.mine _⟩
      | (rw [hce] at h7; exact ⟨rfl, ⟨_, h7⟩, (F0.out.trans (Frm.of_new B6.out F)).setCell H0.out.mine _⟩)
end
end Go.Proofs.Ytembcflgjfligaa
