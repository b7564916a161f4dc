/- List of objstore: all whose key begins so. -/
import Derived.Test.YtembcflgjfligaaGet
import Derived.Test.YtembcflgjfligaaPre
import Derived.LoopTactic
import Derived.Lib.Strings
import Derived.Laws.Strings3
import Derived.Lib.Walk
namespace Go.Proofs.Ytembcflgjfligaa
open Go.Conc Go.RowKit

set_option maxHeartbeats 1000000 in
theorem hasprefixi_any (s p : ByteArray) (w : World) :
    Calls Try.prog 42 #[.string s, .string p] w fun e w' => e = .returned (.bool (Lib.hasPrefix s.data.toList p.data.toList)) ∧ w = w' := by
  rw [← Lib.hasPrefix_of_take, ← Lib.size_eq, ← Lib.size_eq]
  go_enter Try.func42, Try.ntmps42
  go_wp2
  · rename_i h
    go_ret
    refine ⟨?_, rfl⟩
    show Ending.returned (Value.bool ((s.extract 0 p.size).toList == p.toList)) = _
    rw [Lib.extract_toList, Lib.toList_data]
    simp [h]
  · rename_i h
    go_ret
    refine ⟨?_, rfl⟩
    show Ending.returned (Value.bool false) = _
    simp [h]
theorem hasprefix_any (s p : ByteArray) (w : World) :
    Calls Try.prog 32 #[.string s, .string p] w fun e w' => e = .returned (.bool (Lib.hasPrefix s.data.toList p.data.toList)) ∧ w = w' := by
  go_enter Try.func32, Try.ntmps32
  go_wp2_with (go_at_call 42; refine (hasprefixi_any _ _ _).mono ?_; rintro e w' ⟨rfl, rfl⟩)
  go_ret
  exact ⟨rfl, rfl⟩

theorem ownsRow_up {w : World} {B n : Nat} {v : Value} {xs : List Value} (h : w.ownsRow 0 56 3 v n xs) (hB : ∀ k, v.ownBlock = some k → B ≤ k) : w.ownsRow B 56 3 v n xs := by
  refine ⟨h.1, ?_⟩
  rcases h.2 with hn | ⟨g, cap, cur, rfl, hb, rest⟩
  · exact .inl hn
  · exact .inr ⟨g, cap, cur, rfl, hB g rfl, rest⟩

/-- What the loop of List has gathered: the first a objects from place i on, in a row of its own, from block B on. -/
def Gathered (w : World) (B : Nat) (os : List Ob) (i a : Nat) (f : Value) : Prop := w.ownsRow 0 56 3 f a (rowOf (((os.drop i).take a).map shown)) ∧ ∀ k, f.ownBlock = some k → B ≤ k

theorem shown_snoc {os : List Ob} {i a : Nat} {o : Ob} (h : os[i + a]? = some o) : ((os.drop i).take (a + 1)).map shown = ((os.drop i).take a).map shown ++ [shown o] := by
  rw [List.take_add_one, List.getElem?_drop, h]
  simp

/-- One object more is appended. -/
theorem gather_more {wr : World} {B : Nat} {os : List Ob} {i a : Nat} {f : Value} (h : Gathered wr B os i a f) (ha : i + a < os.length) (hl : os.length ≤ 4096) (hB : B ≤ wr.heap.size) (o : Ob) (ho : os[i + a]? = some o) :
    ∃ v' w', (∀ ty, (Builtin.append_ #[38, 38] ty #[f, .slice (some ⟨wr.heap.size + 1, 0, none⟩) 1 1]).run Try.prog ((wr.alloc (.cells #[.string o.key, .string o.data, .int .i64 o.time] 56)).alloc (.cells #[.string o.key, .string { data := #[] }, .int .i64 o.time] 56)) = .ok v' w') ∧
      Gathered w' B os i (a + 1) v' ∧ Below B wr w' := by
  obtain ⟨h1, h2⟩ := h
  have el : (((os.drop i).take a).map shown).length = a := by simp; omega
  have h3 : ((wr.alloc (.cells #[.string o.key, .string o.data, .int .i64 o.time] 56)).alloc (.cells #[.string o.key, .string { data := #[] }, .int .i64 o.time] 56)).ownsRow 0 56 3 f (((os.drop i).take a).map shown).length (rowOf (((os.drop i).take a).map shown)) := by
    rw [el]
    exact (h1.alloc _).alloc _
  obtain ⟨v', w', hr, ho', hg, hn⟩ := run_append_one _ f _ (shown o) h3 (by omega) ⟨wr.heap.size + 1, 0, none⟩ 1 (fun j u hu => by
    have hadd : (⟨wr.heap.size + 1, 0, none⟩ : Addr).add j = ⟨wr.heap.size + 1, j, none⟩ := by unfold Addr.add; split <;> simp_all
    have hb := heap_alloc_new (wr.alloc (.cells #[.string o.key, .string o.data, .int .i64 o.time] 56)) (.cells #[.string o.key, .string { data := #[] }, .int .i64 o.time] 56)
    rw [World.size_alloc] at hb
    rw [hadd, cell_of_row _ _ j _ _ _ hb, ← Array.getElem?_toList]
    exact hu)
  refine ⟨v', w', hr, ⟨?_, fun k hk => ?_⟩, ?_⟩
  · rw [shown_snoc ho]
    have : (((os.drop i).take a).map shown ++ [shown o]).length = a + 1 := by rw [List.length_append, el]; rfl
    rwa [this] at ho'
  · rcases hn k hk with hk' | hk'
    · exact h2 k hk'
    · simp at hk'; omega
  · exact (((Below.refl _ _).alloc hB _).alloc (by simp; omega) _).grown hg (by simp; omega) h2

/-- The first a objects from place i on begin so. -/
def Taken (os : List Ob) (p : ByteArray) (i a : Nat) : Prop := ∀ (j : Nat) (o : Ob), j < a → os[i + j]? = some o → pre p o = true

/-- At the loop's end. -/
theorem list_end {wr : World} {B B0 : Nat} {os : List Ob} {p : ByteArray} {i a : Nat} {f : Value} (h : Gathered wr B os i a f) (hs : Rises (os.map Ob.key)) (hi : i = keyPlace (os.map Ob.key) p) (ha : i + a ≤ os.length)
    (htk : Taken os p i a) (hb : ∀ o, os[i + a]? = some o → pre p o = false) (hB : B0 ≤ B) : wr.ownsRow B0 56 3 f (listOf os p).length (rowOf (listOf os p)) := by
  have e := listOf_run hs hi htk hb
  have el : (listOf os p).length = a := by rw [e]; simp; omega
  rw [el, e]
  exact ownsRow_up h.1 (fun k hk => Nat.le_trans hB (h.2 k hk))

section
variable {F : Nat → Prop} (b : Nat) (k : ByteArray) (w : World) (st : St)
theorem list_fails (h : Sto w F b st) (hF : ∀ k, w.heap.size ≤ k → F k) (ho : 0 < st.owed) (hm : st.owed ≤ 9223372036854775807) (hc : st.calls + 1 ≤ 9223372036854775807) :
    Calls Try.prog 17 #[.pointer (some ⟨b, 0, none⟩), .string k] w (Gave F b w (.tuple #[.slice none 0 0, .int .i64 104]) { st with calls := st.calls + 1, owed := st.owed - 1 }) := by
  have T := Lib.hid (enter_fails b w st h hF ho hm hc)
  clear h ho hm hc hF
  go_enter Try.func17, Try.ntmps17
  go_wp2_with (go_at_call 28; refine (T.out).mono ?_; rintro e w1 ⟨rfl, hs, hf⟩; have HS := Lib.hid hs; clear hs; have HF := Lib.hid hf; clear hf)
  go_ret2
  exact ⟨rfl, HS.out, HF.out⟩

set_option maxHeartbeats 1000000 in
theorem list_ok (h : Sto w F b st) (ho : st.owed = 0) (hc : st.calls + 1 ≤ 9223372036854775807) (hs : Rises (st.os.map Ob.key)) :
    Calls Try.prog 17 #[.pointer (some ⟨b, 0, none⟩), .string k] w fun e w' => ∃ sv', e = .returned (.tuple #[sv', .int .i64 0]) ∧ w'.ownsRow w.heap.size 56 3 sv' (listOf st.os k).length (rowOf (listOf st.os k)) ∧ Sto w' F b { st with calls := st.calls + 1 } ∧ Frm F w w' := by
  have T := Lib.hid (enter_ok b w st h ho hc)
  have HR := Lib.hid hs
  have hpl : keyPlace (st.os.map Ob.key) k ≤ st.os.length := by have := keyPlace_le (st.os.map Ob.key) k; simpa using this
  obtain ⟨hm, hl⟩ : st.most ≤ 4096 ∧ (st.os.length : Int) ≤ st.most := by
    obtain ⟨_, _, h'⟩ := h
    exact ⟨h'.most_le, h'.len_le⟩
  obtain ⟨i, hi⟩ : ∃ i, i = keyPlace (st.os.map Ob.key) k := ⟨_, rfl⟩
  rw [← hi] at hpl
  have HI := Lib.hid hi
  clear h ho hc hs hi
  by_cases hn : i < st.os.length
  · go_enter Try.func17, Try.ntmps17
    go_wp2_with (first
      | (go_at_call 28; refine (T.out).mono ?_; rintro e w1 ⟨rfl, hs, hf⟩; have HS := Lib.hid hs; clear hs; have HF := Lib.hid hf; clear hf)
      | (go_at_call 30; refine (find_any b k _ _ HS.out HR.out).mono ?_; rintro e w3 ⟨rfl, hb⟩; dsimp only; rw [← HI.out]; have HB := Lib.hid hb; clear hb; obtain ⟨sv, cv, h3⟩ := HS.out.new HB.out; have g1 := h3.c1; have H3 := Lib.hid h3; clear h3; rcases H3.out.row.2 with ⟨rfl, h0⟩ | ⟨g, cap, cur, rfl, hb', hgg, hnc, hcm, hcs, htake⟩; (have h0' : st.os.length = 0 := h0; omega); have hg3 : g < w3.heap.size := (Array.getElem?_eq_some_iff.1 hgg).1; clear hgg hcm hcs htake hb'; have hnc' : st.os.length ≤ cap := hnc; clear hnc))
    have hcells : ∀ a o, st.os[i + a]? = some o → w3.cell? ⟨g, i * 3 + a * 3, none⟩ = some (.string o.key) ∧ w3.cell? ⟨g, i * 3 + a * 3 + 1, none⟩ = some (.string o.data) ∧ w3.cell? ⟨g, i * 3 + a * 3 + 2, none⟩ = some (.int .i64 o.time) := fun a o h => by
      have := row_cells H3.out.row (i + a) o h
      rwa [show (i + a) * 3 = i * 3 + a * 3 from by omega] at this
    have HC := Lib.hid hcells
    clear hcells
    go_loopw [9, 30] (fun f c wr => ∃ a : Nat, a ≤ st.os.length - i ∧ c = .int .i64 a ∧ Gathered wr w3.heap.size st.os i a f ∧ Below w3.heap.size w3 wr ∧ Taken st.os k i a) (fun _ c _ => (st.os.length - i) - (intOf c).toNat)
    case atStart => exact ⟨0, Nat.zero_le _, rfl, ⟨by simpa [rowOf] using World.ownsRow_nil _ _ _ _, by simp [Value.ownBlock]⟩, Below.refl _ _, fun j o hj => absurd hj (Nat.not_lt_zero _)⟩
    case round =>
      obtain ⟨a, ha, rfl, hown, hbel, htk⟩ := hrel
      by_cases hlt : a < st.os.length - i
      · obtain ⟨o, ho⟩ : ∃ o, st.os[i + a]? = some o := ⟨st.os[i + a]'(by omega), List.getElem?_eq_getElem (by omega)⟩
        obtain ⟨q0, q1, q2⟩ := HC.out _ _ ho
        have f0 := (hbel.cell (p := ⟨g, i * 3 + a * 3, none⟩) hg3).trans q0
        have f1 := (hbel.cell (p := ⟨g, i * 3 + a * 3 + 1, none⟩) hg3).trans q1
        have f2 := (hbel.cell (p := ⟨g, i * 3 + a * 3 + 2, none⟩) hg3).trans q2
        have hz := hbel.size
        have HO := Lib.hid ho
        have HBel := Lib.hid hbel
        obtain ⟨v', w', hr, hg, hb⟩ := gather_more hown (by omega) (by omega) hz o ho
        have HRn := Lib.hid hr
        have HG := Lib.hid hg
        have HB2 := Lib.hid hb
        have HG0 := Lib.hid hown
        clear q0 q1 q2 ho hown hbel hr hg hb
        by_cases hp : pre k o = true
        · have HP : Hid (Lib.hasPrefix o.key.data.toList k.data.toList = true) := hp
          clear hp
          go_wp2_with (first
            | (go_at_call 32; refine (hasprefix_any _ _ _).mono ?_; rintro e w4 ⟨rfl, rfl⟩; dsimp only; rw [HP.out])
            | (at_builtin; refine wpList_append_eq _ rfl (.tmp 39) (.tmp 45) 38 38 rfl _ _ rfl rfl (HRn.out _) ?_))
          go_roundw
          case rel =>
            refine ⟨a + 1, by omega, by go_num, HG.out, HBel.out.trans HB2.out, fun j o' hj hj' => ?_⟩
            rcases Nat.lt_succ_iff_lt_or_eq.1 hj with h' | rfl
            · exact htk j o' h' hj'
            · rw [HO.out] at hj'
              simp at hj'
              rw [← hj']
              exact HP.out
          case measure => simp [intOf]; omega
        · have HP : Hid (Lib.hasPrefix o.key.data.toList k.data.toList = false) := by
            rw [Bool.not_eq_true] at hp
            exact hp
          clear hp
          go_wp2_with (go_at_call 32; refine (hasprefix_any _ _ _).mono ?_; rintro e w4 ⟨rfl, rfl⟩; dsimp only; rw [HP.out])
          go_ret2
          refine ⟨_, rfl, ?_, ((HS.out.new HB.out).new HBel.out).alloc _, ((HF.out.trans (Frm.of_new HB.out F)).trans (Frm.of_new HBel.out F)).alloc _⟩
          refine list_end ⟨HG0.out.1.alloc _, HG0.out.2⟩ HR.out HI.out (by omega) htk (fun o' ho' => ?_) (Nat.le_trans HF.out.size HB.out.size)
          rw [HO.out] at ho'
          simp at ho'
          rw [← ho']
          exact HP.out
      · have HBel := Lib.hid hbel
        have HG0 := Lib.hid hown
        clear hbel hown
        go_wp2
        go_ret2
        refine ⟨_, rfl, ?_, (HS.out.new HB.out).new HBel.out, (HF.out.trans (Frm.of_new HB.out F)).trans (Frm.of_new HBel.out F)⟩
        refine list_end HG0.out HR.out HI.out (by omega) htk (fun o' ho' => ?_) (Nat.le_trans HF.out.size HB.out.size)
        have := (List.getElem?_eq_some_iff.1 ho').1
        omega
  · have he : i = st.os.length := by omega
    have HE : Hid (listOf st.os k = []) := by
      have := listOf_run HR.out HI.out (a := 0) (fun j o hj => absurd hj (Nat.not_lt_zero _)) (fun o ho => by have := (List.getElem?_eq_some_iff.1 ho).1; omega)
      unfold Hid
      rw [this]; rfl
    have HEi := Lib.hid he
    clear he
    go_enter Try.func17, Try.ntmps17
    go_wp2_with (first
      | (go_at_call 28; refine (T.out).mono ?_; rintro e w1 ⟨rfl, hs, hf⟩; have HS := Lib.hid hs; clear hs; have HF := Lib.hid hf; clear hf)
      | (go_at_call 30; refine (find_any b k _ _ HS.out HR.out).mono ?_; rintro e w3 ⟨rfl, hb⟩; dsimp only; rw [← HI.out, HEi.out]; have HB := Lib.hid hb; clear hb; obtain ⟨sv, cv, h3⟩ := HS.out.new HB.out; obtain ⟨a3, c3, rfl⟩ := h3.shape; have g1 := h3.c1; have H3 := Lib.hid h3; clear h3))
    all_goals
      go_loopw [9, 30] (fun f c wr => f = .slice none 0 0 ∧ c = .int .i64 0 ∧ w3 = wr) (fun _ _ _ => 0)
      case atStart => exact ⟨rfl, rfl, rfl⟩
      case round =>
        obtain ⟨rfl, rfl, rfl⟩ := hrel
        go_wp2
        go_ret2
        refine ⟨_, rfl, ?_, ⟨_, _, H3.out⟩, HF.out.trans (Frm.of_new HB.out F)⟩
        rw [HE.out]
        exact World.ownsRow_nil _ _ _ _
end
end Go.Proofs.Ytembcflgjfligaa
