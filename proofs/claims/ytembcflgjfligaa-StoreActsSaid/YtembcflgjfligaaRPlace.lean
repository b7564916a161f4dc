/- place of the reference: where a key stands or would stand. -/
import Derived.Test.YtembcflgjfligaaRef
namespace Go.Proofs.Ytembcflgjfligaa
open Go.Conc Go.RowKit

set_option maxHeartbeats 1000000 in
theorem rplace_any {F : Nat → Prop} (b : Nat) (k : ByteArray) (w : World) (st : St) (h : Ref w F b st) (hs : Rises (st.os.map Ob.key)) (hk : k.size ≤ 9223372036854775807) :
    Calls Try.prog 36 #[.pointer (some ⟨b, 0, none⟩), .string k] w fun e w' => e = .returned (.tuple #[.int .i64 (keyPlace (st.os.map Ob.key) k), .bool (keyThere (st.os.map Ob.key) k)]) ∧ Below w.heap.size w w' := by
  obtain ⟨sv, h⟩ := h
  have hlen : st.os.length ≤ 4096 := by have := h.len_le; have := h.most_le; omega
  obtain ⟨a0, cap, rfl⟩ := h.shape
  have g1 := h.c1
  have hb := h.lt
  have HRow := Lib.hid h.row
  have HS := Lib.hid hs
  obtain ⟨n, hn⟩ : ∃ n, n = st.os.length := ⟨_, rfl⟩
  rw [← hn] at g1 hlen
  have HN := Lib.hid hn
  clear h hs hn
  go_enter Try.func36, Try.ntmps36
  go_wp2
  go_loopw [6] (fun i wr => ∃ m : Nat, m ≤ n ∧ i = .int .i64 m ∧ Hid (∀ j o, j < m → st.os[j]? = some o → cmpK o.key k < 0) ∧ Below w.heap.size w wr) (fun i _ => n - (intOf i).toNat)
  case atStart => exact ⟨0, Nat.zero_le _, rfl, fun j o hj => absurd hj (Nat.not_lt_zero _), Below.refl _ _⟩
  case round =>
    obtain ⟨m, hm, rfl, HLo, hbel⟩ := hrel
    have q1 := (hbel.cell (p := ⟨b, 1, none⟩) hb).trans g1
    have HBel := Lib.hid hbel
    by_cases hlt : m < n
    · obtain ⟨o, ho⟩ : ∃ o, st.os[m]? = some o := ⟨st.os[m]'(by have := HN.out; omega), List.getElem?_eq_getElem _⟩
      obtain ⟨g, rfl⟩ : ∃ g, a0 = some ⟨g, 0, none⟩ := by
        rcases HRow.out.2 with ⟨h1, h2⟩ | ⟨g, cap', cur, hv, _⟩
        · have := HN.out; omega
        · injection hv with e1 e2 e3
          exact ⟨g, e1⟩
      obtain ⟨r0, _, _⟩ := row_cells HRow.out m o ho
      have hg : g < w.heap.size := World.block_lt_of_cell? w ⟨g, m * 3, none⟩ r0
      have f0 := (hbel.cell (p := ⟨g, m * 3, none⟩) hg).trans r0
      clear r0
      have HO := Lib.hid ho
      have hz := hbel.size
      clear hbel ho
      by_cases hc : cmpK o.key k < 0
      · have hne : ¬ o.key.toList = k.toList := fun e => by rw [toList_inj e, cmpK_refl] at hc; omega
        have hneb : (o.key.toList == k.toList) = false := by simpa using hne
        have HC := Lib.hid (show decide (cmpK o.key k < 0) = true by simpa using hc)
        clear hc
        go_wp2_with (go_at_call 43; refine (rbelow_any _ _ _ hk).mono ?_; rintro e w1 ⟨rfl, hb1⟩; dsimp only; rw [HC.out]; have HB1 := Lib.hid hb1; clear hb1)
        go_roundw
        case rel =>
          refine ⟨m + 1, by omega, by go_num, fun j p hj hp => ?_, HBel.out.trans (HB1.out.mono hz)⟩
          exact search_lo HS.out HO.out (by simpa using HC.out) j p hj hp
        case measure => simp [intOf]; omega
      · have HP := Lib.hid (search_end (a := m) (os := st.os) (k := k) (by have := HN.out; omega) ⟨HLo.out, search_hi HS.out HO.out hc⟩)
        have HT := Lib.hid (there_at HS.out HP.out HO.out)
        by_cases he : o.key = k
        · have HE : Hid ((cmpK o.key k == 0) = true) := by unfold Hid; rw [he, cmpK_refl]; rfl
          clear hc
          subst he
          go_wp2
          go_ret2
          exact ⟨ret_pair (by rw [HP.out]) (by rw [HT.out, HE.out]), HBel.out⟩
        · have hne : ¬ o.key.toList = k.toList := fun e => he (toList_inj e)
          have hneb : (o.key.toList == k.toList) = false := by simpa using hne
          have HE : Hid ((cmpK o.key k == 0) = false) := by
            unfold Hid
            rw [beq_eq_false_iff_ne]
            exact fun e => he (cmpK_eq _ _ e)
          have HC := Lib.hid (show decide (cmpK o.key k < 0) = false by simpa using hc)
          clear hc he
          go_wp2_with (go_at_call 43; refine (rbelow_any _ _ _ hk).mono ?_; rintro e w1 ⟨rfl, hb1⟩; dsimp only; rw [HC.out]; have HB1 := Lib.hid hb1; clear hb1)
          go_ret2
          exact ⟨ret_pair (by rw [HP.out]) (by rw [HT.out, HE.out]), HBel.out.trans (HB1.out.mono hz)⟩
    · obtain rfl : m = n := by omega
      have HP := Lib.hid (search_end (a := m) (os := st.os) (k := k) (by have := HN.out; omega) ⟨HLo.out, fun j o hj ho => by have := (List.getElem?_eq_some_iff.1 ho).1; have := HN.out; omega⟩)
      have HT := Lib.hid (there_none HS.out HP.out (by have := HN.out; omega))
      clear hbel
      go_wp2
      go_ret2
      exact ⟨ret_pair (by rw [HP.out]) (by rw [HT.out]), HBel.out⟩
end Go.Proofs.Ytembcflgjfligaa
