/- List of the reference. -/
import Derived.Test.YtembcflgjfligaaRDel
import Derived.Test.YtembcflgjfligaaList
namespace Go.Proofs.Ytembcflgjfligaa
open Go.Conc Go.RowKit

theorem pre_cases (o : Ob) (k : ByteArray) : (o.key.size < k.size ∧ pre k o = false) ∨ (k.size ≤ o.key.size ∧ (o.key.extract 0 k.size).toList = k.toList ∧ pre k o = true) ∨ (k.size ≤ o.key.size ∧ ¬ (o.key.extract 0 k.size).toList = k.toList ∧ pre k o = false) := by
  have h := Lib.hasPrefix_raw o.key k
  by_cases h1 : k.size ≤ o.key.size
  · by_cases h2 : (o.key.extract 0 k.size).toList = k.toList
    · refine .inr (.inl ⟨h1, h2, ?_⟩)
      unfold pre
      rw [← h]
      simp [h1, h2]
    · refine .inr (.inr ⟨h1, h2, ?_⟩)
      unfold pre
      rw [← h]
      simp [h1, h2]
  · refine .inl ⟨by omega, ?_⟩
    unfold pre
    rw [← h]
    simp [h1]
theorem listOf_next {os : List Ob} {m : Nat} {o : Ob} (h : os[m]? = some o) (k : ByteArray) : listOf (os.take (m + 1)) k = listOf (os.take m) k ++ if pre k o = true then [shown o] else [] := by
  unfold listOf
  rw [List.take_add_one, h, List.filter_append, List.map_append]
  congr 1
  by_cases hp : pre k o = true <;> simp [hp]
theorem listOf_le (os : List Ob) (m : Nat) (k : ByteArray) : (listOf (os.take m) k).length ≤ os.length := by
  unfold listOf
  rw [List.length_map]
  exact Nat.le_trans (List.length_filter_le _ _) (by simp; omega)

section
variable {F : Nat → Prop} (b : Nat) (k : ByteArray) (w : World) (st : St)
theorem rlist_fails (h : Ref w F b st) (ho : 0 < st.owed) (hc : st.calls + 1 ≤ 9223372036854775807) :
    Calls Try.prog 25 #[.pointer (some ⟨b, 0, none⟩), .string k] w (RGave F b w (.tuple #[.slice none 0 0, .int .i64 104]) { st with calls := st.calls + 1, owed := st.owed - 1 }) := by
  have T := Lib.hid (rcall_fails b w st h ho hc)
  clear h ho hc
  go_enter Try.func25, Try.ntmps25
  go_wp2_with (go_at_call 34; refine (T.out).mono ?_; rintro e w1 ⟨rfl, hs, hf⟩; have HS := Lib.hid hs; clear hs; have HF := Lib.hid hf; clear hf)
  go_ret2
  exact ⟨rfl, HS.out, HF.out⟩

set_option maxHeartbeats 2000000 in
theorem rlist_ok (h : Ref w F b st) (ho : st.owed = 0) (hc : st.calls + 1 ≤ 9223372036854775807) :
    Calls Try.prog 25 #[.pointer (some ⟨b, 0, none⟩), .string k] w fun e w' => ∃ sv', e = .returned (.tuple #[sv', .int .i64 0]) ∧ w'.ownsRow w.heap.size 56 3 sv' (listOf st.os k).length (rowOf (listOf st.os k)) ∧ Ref w' F b { st with calls := st.calls + 1 } ∧ Frm F w w' := by
  obtain ⟨sv, h⟩ := h
  have hlen : st.os.length ≤ 4096 := by have := h.len_le; have := h.most_le; omega
  have T := Lib.hid (rcall_keep b w st h ho hc)
  obtain ⟨a0, cap, rfl⟩ := h.shape
  obtain ⟨n, hn⟩ : ∃ n, n = st.os.length := ⟨_, rfl⟩
  have HN := Lib.hid hn
  rw [← hn] at hlen
  clear h ho hc hn
  go_enter Try.func25, Try.ntmps25
  go_wp2_with (go_at_call 34; refine (T.out).mono ?_; rintro e w1 ⟨rfl, h1, hf⟩; have g1 := h1.c1; (rw [show ({ st with calls := st.calls + 1 } : St).os.length = n from HN.out.symm] at g1); have hb := h1.lt; have HRow := Lib.hid h1.row; have HS := Lib.hid h1; clear h1; have HF := Lib.hid hf; clear hf)
  go_loopw [6, 7] (fun f i wr => ∃ m : Nat, m ≤ n ∧ i = .int .i64 m ∧ (∃ a' c', f = .slice a' (listOf (st.os.take m) k).length c') ∧ wr.ownsRow w1.heap.size 56 3 f (listOf (st.os.take m) k).length (rowOf (listOf (st.os.take m) k)) ∧ Below w1.heap.size w1 wr) (fun _ i _ => n - (intOf i).toNat)
  case atStart => exact ⟨0, Nat.zero_le _, rfl, ⟨none, 0, by simp [listOf]⟩, by simpa [listOf, rowOf] using World.ownsRow_nil _ _ _ _, Below.refl _ _⟩
  case round =>
    obtain ⟨m, hm, rfl, ⟨a', c', rfl⟩, hown, hbel⟩ := hrel
    have q1 := (hbel.cell (p := ⟨b, 1, none⟩) hb).trans g1
    have HOwn := Lib.hid hown
    clear hown
    by_cases hlt : m < n
    · obtain ⟨o, ho⟩ : ∃ o, st.os[m]? = some o := ⟨st.os[m]'(by have := HN.out; omega), List.getElem?_eq_getElem _⟩
      obtain ⟨g, rfl⟩ : ∃ g, a0 = some ⟨g, 0, none⟩ := by
        rcases HRow.out.2 with ⟨h1, h2⟩ | ⟨g, cap', cur, hv, _⟩
        · have h2' : st.os.length = 0 := h2
          have := HN.out
          omega
        · injection hv with e1 e2 e3
          exact ⟨g, e1⟩
      obtain ⟨r0, _, r2⟩ := row_cells HRow.out m o ho
      have hg : g < w1.heap.size := World.block_lt_of_cell? w1 ⟨g, m * 3, none⟩ r0
      have f0 := (hbel.cell (p := ⟨g, m * 3, none⟩) hg).trans r0
      have f2 := (hbel.cell (p := ⟨g, m * 3 + 2, none⟩) hg).trans r2
      have HNx := Lib.hid (listOf_next ho k)
      have HLe := Lib.hid (listOf_le st.os m k)
      have hz := hbel.size
      have HBel := Lib.hid hbel
      clear r0 r2 hbel ho
      rcases pre_cases o k with ⟨hs, hp⟩ | ⟨hs, he, hp⟩ | ⟨hs, he, hp⟩
      · have HP : Hid (listOf (st.os.take (m + 1)) k = listOf (st.os.take m) k) := by unfold Hid; rw [HNx.out, hp]; simp
        clear hp
        go_wp2
        go_roundw
        case rel => exact ⟨m + 1, by omega, by go_num, by rw [HP.out]; exact ⟨_, _, rfl⟩, by rw [HP.out]; exact HOwn.out, HBel.out⟩
        case measure => simp [intOf]; omega
      · have HP : Hid (listOf (st.os.take (m + 1)) k = listOf (st.os.take m) k ++ [shown o]) := by unfold Hid; rw [HNx.out, hp]; simp
        clear hp
        go_wp2_with (at_builtin; refine wpList_append_src (base := w1.heap.size) (listOf (st.os.take m) k) [shown o] (listOf (st.os.take (m + 1)) k) (listOf (st.os.take (m + 1)) k).length HP.out rfl rfl (.tmp 42) (.tmp 53) rfl rfl rfl rfl (HOwn.out.alloc _) (src_one wr o.key ByteArray.empty o.time) (by have h1 := HLe.out; have h2 := HN.out; simp; omega) (by simp; omega) ?_; rintro a4 c4 w4 r4 b4; have R4 := Lib.hid r4; have B4 := Lib.hid b4; clear r4 b4)
        go_roundw
        case rel => exact ⟨m + 1, by omega, by go_num, ⟨_, _, rfl⟩, R4.out, (HBel.out.alloc hz _).trans B4.out⟩
        case measure => simp [intOf]; omega
      · have heb : ((o.key.extract 0 k.size).toList == k.toList) = false := by simpa using he
        have HP : Hid (listOf (st.os.take (m + 1)) k = listOf (st.os.take m) k) := by unfold Hid; rw [HNx.out, hp]; simp
        clear hp
        go_wp2
        go_roundw
        case rel => exact ⟨m + 1, by omega, by go_num, by rw [HP.out]; exact ⟨_, _, rfl⟩, by rw [HP.out]; exact HOwn.out, HBel.out⟩
        case measure => simp [intOf]; omega
    · obtain rfl : m = n := by omega
      have HBel := Lib.hid hbel
      clear hbel
      go_wp2
      go_ret2
      have e : st.os.take m = st.os := List.take_of_length_le (by have := HN.out; omega)
      have ho := HOwn.out
      rw [e] at ho ⊢
      exact ⟨_, rfl, ownsRow_base ho HF.out.size, ⟨_, HS.out.same fun k' hk' _ => HBel.out.block k' hk'⟩, HF.out.trans (Frm.of_new HBel.out F)⟩
end
end Go.Proofs.Ytembcflgjfligaa
