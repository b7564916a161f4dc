/- What both stores, the program's and the reference's, answer to one call: the same. -/
import Derived.Test.YtembcflgjfligaaRCopy
import Derived.Test.YtembcflgjfligaaRise
namespace Go.Proofs.Ytembcflgjfligaa
open Go.Conc Go.RowKit

/-- All new blocks are of F. -/
def News (F : Nat → Prop) (w : World) : Prop := ∀ k, w.heap.size ≤ k → F k
/-- A list was told, and the store stands at st'. -/
def Told (F : Nat → Prop) (b : Nat) (w : World) (os : List Ob) (c : Int) (st' : St) (e : Ending) (w' : World) : Prop :=
  ∃ sv', e = .returned (.tuple #[sv', .int .i64 c]) ∧ w'.ownsRow w.heap.size 56 3 sv' os.length (rowOf os) ∧ Sto w' F b st' ∧ Frm F w w'
def RTold (F : Nat → Prop) (b : Nat) (w : World) (os : List Ob) (c : Int) (st' : St) (e : Ending) (w' : World) : Prop :=
  ∃ sv', e = .returned (.tuple #[sv', .int .i64 c]) ∧ w'.ownsRow w.heap.size 56 3 sv' os.length (rowOf os) ∧ Ref w' F b st' ∧ Frm F w w'
/-- What a step of a store keeps. -/
structure Step (st st' : St) : Prop where
  rises : Rises (st'.os.map Ob.key)
  calls : st'.calls ≤ st.calls + 1
  most : st'.most = st.most

section
variable (k d : ByteArray) (t : Int) (st : St)
theorem put_both (hs : Rises (st.os.map Ob.key)) (hk : k.size ≤ 9223372036854775807) (hd : d.size ≤ 9223372036854775807) (ho : 0 ≤ st.owed) (hm : st.owed ≤ 9223372036854775807) (hc : st.calls + 1 ≤ 9223372036854775807) :
    ∃ (c : Int) (st' : St), Step st st' ∧
      (∀ F b w, Sto w F b st → News F w → Calls Try.prog 15 #[.pointer (some ⟨b, 0, none⟩), .string k, .string d, .int .i64 t] w (Did F b w c st')) ∧
      (∀ F b w, Ref w F b st → News F w → Calls Try.prog 23 #[.pointer (some ⟨b, 0, none⟩), .string k, .string d, .int .i64 t] w (RDid F b w c st')) := by
  by_cases h0 : 0 < st.owed
  · exact ⟨104, { st with calls := st.calls + 1, owed := st.owed - 1 }, ⟨hs, Int.le_refl _, rfl⟩, fun F b w h hF => put_fails b k d t w st h hF h0 hm hc, fun F b w h _ => rput_fails b k d t w st h h0 hc⟩
  have h0' : st.owed = 0 := by omega
  by_cases hg : KeyMay k ∧ d.size ≤ 65536 ∧ 0 ≤ t
  · obtain ⟨g1, g2, g3⟩ := hg
    by_cases hin : k ∈ st.os.map Ob.key
    · exact ⟨101, { st with calls := st.calls + 1 }, ⟨hs, Int.le_refl _, rfl⟩, fun F b w h _ => put_exists b k d t w st h h0' hc hs g1 g2 g3 hin, fun F b w h _ => rput_exists b k d t w st h h0' hc hs g1 g2 g3 hin⟩
    · by_cases hr : (st.os.length : Int) < st.most
      · exact ⟨0, { st with calls := st.calls + 1, os := insAt st.os (keyPlace (st.os.map Ob.key) k) ⟨k, d, t⟩ }, ⟨rises_insAt hs ⟨k, d, t⟩ hin, Int.le_refl _, rfl⟩, fun F b w h hF => put_ok b k d t w st h hF h0' hc hs g1 g2 g3 hin hr, fun F b w h hF => rput_ok b k d t w st h hF h0' hc hs g1 g2 g3 hin hr⟩
      · exact ⟨103, { st with calls := st.calls + 1 }, ⟨hs, Int.le_refl _, rfl⟩, fun F b w h _ => put_full b k d t w st h h0' hc hs g1 g2 g3 hin (by omega), fun F b w h _ => rput_full b k d t w st h h0' hc hs g1 g2 g3 hin (by omega)⟩
  · exact ⟨100, { st with calls := st.calls + 1 }, ⟨hs, Int.le_refl _, rfl⟩, fun F b w h _ => put_form b k d t w st h h0' hc hk hd hg, fun F b w h _ => rput_form b k d t w st h h0' hc hk hd hg⟩
theorem get_both (hs : Rises (st.os.map Ob.key)) (hk : k.size ≤ 9223372036854775807) (ho : 0 ≤ st.owed) (hm : st.owed ≤ 9223372036854775807) (hc : st.calls + 1 ≤ 9223372036854775807) :
    ∃ (dat : ByteArray) (c : Int) (st' : St), Step st st' ∧
      (∀ F b w, Sto w F b st → News F w → Calls Try.prog 16 #[.pointer (some ⟨b, 0, none⟩), .string k] w (Gave F b w (.tuple #[.string dat, .int .i64 c]) st')) ∧
      (∀ F b w, Ref w F b st → News F w → Calls Try.prog 24 #[.pointer (some ⟨b, 0, none⟩), .string k] w (RGave F b w (.tuple #[.string dat, .int .i64 c]) st')) := by
  by_cases h0 : 0 < st.owed
  · exact ⟨_, 104, { st with calls := st.calls + 1, owed := st.owed - 1 }, ⟨hs, Int.le_refl _, rfl⟩, fun F b w h hF => get_fails b k w st h hF h0 hm hc, fun F b w h _ => rget_fails b k w st h h0 hc⟩
  have h0' : st.owed = 0 := by omega
  by_cases hin : k ∈ st.os.map Ob.key
  · obtain ⟨o, hom, hok⟩ := List.mem_map.1 hin
    exact ⟨_, 0, { st with calls := st.calls + 1 }, ⟨hs, Int.le_refl _, rfl⟩, fun F b w h _ => get_ok b k w st h h0' hc hs o hom hok, fun F b w h _ => rget_ok b k w st h h0' hc hs hk o hom hok⟩
  · exact ⟨_, 102, { st with calls := st.calls + 1 }, ⟨hs, Int.le_refl _, rfl⟩, fun F b w h _ => get_none b k w st h h0' hc hs hin, fun F b w h _ => rget_none b k w st h h0' hc hs hk hin⟩
theorem del_both (hs : Rises (st.os.map Ob.key)) (hk : k.size ≤ 9223372036854775807) (ho : 0 ≤ st.owed) (hm : st.owed ≤ 9223372036854775807) (hc : st.calls + 1 ≤ 9223372036854775807) :
    ∃ (c : Int) (st' : St), Step st st' ∧
      (∀ F b w, Sto w F b st → News F w → Calls Try.prog 19 #[.pointer (some ⟨b, 0, none⟩), .string k] w (Did F b w c st')) ∧
      (∀ F b w, Ref w F b st → News F w → Calls Try.prog 26 #[.pointer (some ⟨b, 0, none⟩), .string k] w (RDid F b w c st')) := by
  by_cases h0 : 0 < st.owed
  · exact ⟨104, { st with calls := st.calls + 1, owed := st.owed - 1 }, ⟨hs, Int.le_refl _, rfl⟩, fun F b w h hF => del_fails b k w st h hF h0 hm hc, fun F b w h _ => rdel_fails b k w st h h0 hc⟩
  have h0' : st.owed = 0 := by omega
  by_cases hin : k ∈ st.os.map Ob.key
  · exact ⟨0, { st with calls := st.calls + 1, os := delAt st.os (keyPlace (st.os.map Ob.key) k) }, ⟨rises_delAt hs _, Int.le_refl _, rfl⟩, fun F b w h hF => del_ok b k w st h hF h0' hc hs hin, fun F b w h hF => rdel_ok b k w st h hF h0' hc hs hk hin⟩
  · exact ⟨102, { st with calls := st.calls + 1 }, ⟨hs, Int.le_refl _, rfl⟩, fun F b w h _ => del_none b k w st h h0' hc hs hin, fun F b w h _ => rdel_none b k w st h h0' hc hs hk hin⟩
theorem list_both (hs : Rises (st.os.map Ob.key)) (ho : 0 ≤ st.owed) (hm : st.owed ≤ 9223372036854775807) (hc : st.calls + 1 ≤ 9223372036854775807) :
    ∃ (os : List Ob) (c : Int) (st' : St), Step st st' ∧ os.length ≤ st.os.length ∧
      (∀ F b w, Sto w F b st → News F w → Calls Try.prog 17 #[.pointer (some ⟨b, 0, none⟩), .string k] w (Told F b w os c st')) ∧
      (∀ F b w, Ref w F b st → News F w → Calls Try.prog 25 #[.pointer (some ⟨b, 0, none⟩), .string k] w (RTold F b w os c st')) := by
  by_cases h0 : 0 < st.owed
  · refine ⟨[], 104, { st with calls := st.calls + 1, owed := st.owed - 1 }, ⟨hs, Int.le_refl _, rfl⟩, Nat.zero_le _, fun F b w h hF => (list_fails b k w st h hF h0 hm hc).mono ?_, fun F b w h _ => (rlist_fails b k w st h h0 hc).mono ?_⟩
    · rintro e w' ⟨rfl, h1, h2⟩
      exact ⟨_, rfl, by simpa [rowOf] using World.ownsRow_nil _ _ _ _, h1, h2⟩
    · rintro e w' ⟨rfl, h1, h2⟩
      exact ⟨_, rfl, by simpa [rowOf] using World.ownsRow_nil _ _ _ _, h1, h2⟩
  have h0' : st.owed = 0 := by omega
  refine ⟨listOf st.os k, 0, { st with calls := st.calls + 1 }, ⟨hs, Int.le_refl _, rfl⟩, ?_, fun F b w h _ => list_ok b k w st h h0' hc hs, fun F b w h _ => rlist_ok b k w st h h0' hc⟩
  unfold listOf
  rw [List.length_map]
  exact List.length_filter_le _ _
end
end Go.Proofs.Ytembcflgjfligaa
