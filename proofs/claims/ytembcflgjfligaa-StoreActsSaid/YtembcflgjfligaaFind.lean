/- Where a key stands among the store's objects: strings.Compare, slices.BinarySearchFunc, find of objstore. -/
import Derived.Test.YtembcflgjfligaaSmall
import Derived.Test.YtembcflgjfligaaOrd
import Derived.Laws.Externs
namespace Go.Proofs.Ytembcflgjfligaa
open Go.Conc Go.RowKit

set_option maxHeartbeats 1000000 in
set_option maxRecDepth 100000 in
theorem cmpstring_any (a b : ByteArray) (w : World) :
    Calls Try.prog 44 #[.string a, .string b] w fun e w' => e = .returned (.int .i64 (cmpK a b)) ∧ w = w' := by
  go_enter Try.func44, Try.ntmps44
  go_wp2
  rw [run_callFunc_extern Try.func46 (by kernel_rfl) (by kernel_rfl) (by kernel_rfl) (e := Extern.BytealgCompare.compare) (by kernel_rfl), Lib.run_compareString]
  simp only [Result.andThen]
  rw [Oper.upon_value]
  go_wp2
  go_ret
  exact ⟨rfl, rfl⟩

theorem compare_any (a b : ByteArray) (w : World) :
    Calls Try.prog 39 #[.string a, .string b] w fun e w' => e = .returned (.int .i64 (cmpK a b)) ∧ w = w' := by
  go_enter Try.func39, Try.ntmps39
  go_wp2_with (go_at_call 44; refine (cmpstring_any _ _ _).mono ?_; rintro e w' ⟨rfl, rfl⟩)
  go_ret
  exact ⟨rfl, rfl⟩

theorem findc_any (o : Ob) (k : ByteArray) (w : World) :
    Calls Try.prog 38 #[.agg #[.string o.key, .string o.data, .int .i64 o.time], .string k] w fun e w' => e = .returned (.int .i64 (cmpK o.key k)) ∧ Below w.heap.size w w' := by
  go_enter Try.func38, Try.ntmps38
  go_wp2_with (go_at_call 39; refine (compare_any _ _ _).mono ?_; rintro e w' ⟨rfl, rfl⟩)
  go_ret
  exact ⟨rfl, (Below.refl _ _).alloc (Nat.le_refl _) _⟩

/-- The row's cells, object by object. -/
theorem row_cells {w : World} {B g n cap : Nat} {os : List Ob} (h : w.ownsRow B 56 3 (.slice (some ⟨g, 0, none⟩) n cap) n (rowOf os)) (m : Nat) (o : Ob) (hm : os[m]? = some o) :
    w.cell? ⟨g, m * 3, none⟩ = some (.string o.key) ∧ w.cell? ⟨g, m * 3 + 1, none⟩ = some (.string o.data) ∧ w.cell? ⟨g, m * 3 + 2, none⟩ = some (.int .i64 o.time) := by
  have hc := h.cells (g := g) rfl
  have hadd : ∀ j, (⟨g, 0, none⟩ : Addr).add j = ⟨g, j, none⟩ := fun j => by unfold Addr.add; split <;> simp_all
  obtain ⟨h0, h1, h2⟩ := rowOf_get os m o hm
  exact ⟨hadd _ ▸ hc _ _ h0, hadd _ ▸ hc _ _ h1, hadd _ ▸ hc _ _ h2⟩

theorem ob_at {os : List Ob} {m : Nat} {o : Ob} (h : os[m]? = some o) : (os.map Ob.key)[m]? = some o.key := by simp [h]
theorem search_lo {os : List Ob} {k : ByteArray} (hs : Rises (os.map Ob.key)) {i : Nat} {o : Ob} (ho : os[i]? = some o) (hc : cmpK o.key k < 0) : ∀ m p, m < i + 1 → os[m]? = some p → cmpK p.key k < 0 := by
  intro m p hm hp
  rcases Nat.lt_succ_iff_lt_or_eq.1 hm with h | rfl
  · exact cmpK_trans (hs.at (ob_at hp) (ob_at ho) h) hc
  · rw [ho] at hp; simp at hp; rw [← hp]; exact hc
theorem search_hi {os : List Ob} {k : ByteArray} (hs : Rises (os.map Ob.key)) {i : Nat} {o : Ob} (ho : os[i]? = some o) (hc : ¬ cmpK o.key k < 0) : ∀ m p, i ≤ m → os[m]? = some p → ¬ cmpK p.key k < 0 := by
  intro m p hm hp hpk
  rcases Nat.eq_or_lt_of_le hm with rfl | h
  · rw [ho] at hp; simp at hp; rw [← hp] at hpk; exact hc hpk
  · exact hc (cmpK_trans (hs.at (ob_at ho) (ob_at hp) h) hpk)
/-- What a search knows: what lies ahead of a is less, what lies from b on is not. -/
def Mid (os : List Ob) (k : ByteArray) (a b : Nat) : Prop := (∀ m o, m < a → os[m]? = some o → cmpK o.key k < 0) ∧ (∀ m o, b ≤ m → os[m]? = some o → ¬ cmpK o.key k < 0)
theorem search_end {os : List Ob} {k : ByteArray} {a : Nat} (ha : a ≤ os.length) (h : Mid os k a a) : keyPlace (os.map Ob.key) k = a := by
  refine keyPlace_split k _ a (by simpa using ha) (fun j b hj hb => ?_) (fun j b hj hb => ?_)
  · rw [List.getElem?_map, Option.map_eq_some_iff] at hb
    obtain ⟨o, ho, rfl⟩ := hb
    exact h.1 j o hj ho
  · rw [List.getElem?_map, Option.map_eq_some_iff] at hb
    obtain ⟨o, ho, rfl⟩ := hb
    exact h.2 j o hj ho
theorem there_at {os : List Ob} {k : ByteArray} (hs : Rises (os.map Ob.key)) {a : Nat} (ha : keyPlace (os.map Ob.key) k = a) {o : Ob} (ho : os[a]? = some o) : keyThere (os.map Ob.key) k = (cmpK o.key k == 0) := by
  rw [Bool.eq_iff_iff, keyThere_iff, keyPlace_mem hs, ha, ob_at ho, beq_iff_eq]
  constructor
  · intro h; simp at h; rw [h, cmpK_refl]
  · intro h; rw [cmpK_eq _ _ h]
theorem there_none {os : List Ob} {k : ByteArray} (hs : Rises (os.map Ob.key)) {a : Nat} (ha : keyPlace (os.map Ob.key) k = a) (hn : os.length ≤ a) : keyThere (os.map Ob.key) k = false := by
  rw [Bool.eq_false_iff, ne_eq, keyThere_iff, keyPlace_mem hs, ha, List.getElem?_eq_none (by simpa using hn)]
  simp
theorem ret_pair {a b : Int} {c d : Bool} (h : a = b) (k : c = d) : Ending.returned (.tuple #[.int .i64 a, .bool c]) = .returned (.tuple #[.int .i64 b, .bool d]) := by rw [h, k]

set_option maxHeartbeats 400000 in
theorem bsearch_some (w : World) (g cap : Nat) (os : List Ob) (k : ByteArray) (h : w.ownsRow 0 56 3 (.slice (some ⟨g, 0, none⟩) os.length cap) os.length (rowOf os)) (hl : os.length ≤ 4096) (hg : g < w.heap.size) (hs : Rises (os.map Ob.key)) :
    Calls Try.prog 37 #[.slice (some ⟨g, 0, none⟩) os.length cap, .string k, .func (.func 38) #[] #[]] w fun e w' =>
      e = .returned (.tuple #[.int .i64 (keyPlace (os.map Ob.key) k), .bool (keyThere (os.map Ob.key) k)]) ∧ Below w.heap.size w w' := by
  have HC := Lib.hid (row_cells h)
  have HS := Lib.hid hs
  clear h hs
  go_enter Try.func37, Try.ntmps37
  go_wp2
  go_loopw [9, 10] (fun i j wr => ∃ a b : Nat, a ≤ b ∧ b ≤ os.length ∧ i = .int .i64 a ∧ j = .int .i64 b ∧ Below w.heap.size w wr ∧ Mid os k a b)
    (fun i j _ => (intOf j).toNat - (intOf i).toNat)
  case atStart => exact ⟨0, os.length, Nat.zero_le _, Nat.le_refl _, rfl, rfl, Below.refl _ _, fun m o hm => absurd hm (Nat.not_lt_zero _), fun m o hm ho => by have := (List.getElem?_eq_some_iff.1 ho).1; omega⟩
  case round =>
    obtain ⟨a, b, hab, hb, rfl, rfl, hbel, hH⟩ := hrel
    by_cases hlt : a < b
    · obtain ⟨o, ho⟩ : ∃ o, os[(a + b) / 2]? = some o := ⟨os[(a + b) / 2]'(by omega), List.getElem?_eq_getElem (by omega)⟩
      obtain ⟨q0, q1, q2⟩ := HC.out _ _ ho
      have f0 := (hbel.cell (p := ⟨g, (a + b) / 2 * 3, none⟩) hg).trans q0
      have f1 := (hbel.cell (p := ⟨g, (a + b) / 2 * 3 + 1, none⟩) hg).trans q1
      have f2 := (hbel.cell (p := ⟨g, (a + b) / 2 * 3 + 2, none⟩) hg).trans q2
      have hz := hbel.size
      have HO := Lib.hid ho
      have hm1 : a ≤ (a + b) / 2 := by omega
      have hm2 : (a + b) / 2 < b := by omega
      have HB := Lib.hid hbel
      clear q0 q1 q2 ho hbel
      by_cases hc : cmpK o.key k < 0
      · go_wp2_with (go_at_call 38; refine (findc_any o k _).mono ?_; rintro e w1 ⟨rfl, hb1⟩; have HB1 := Lib.hid hb1; clear hb1)
        go_roundw
        case rel => exact ⟨(a + b) / 2 + 1, b, by omega, hb, by go_num, rfl, HB.out.trans (HB1.out.mono hz), ⟨search_lo HS.out HO.out hc, hH.2⟩⟩
        case measure => simp [intOf]; omega
      · go_wp2_with (go_at_call 38; refine (findc_any o k _).mono ?_; rintro e w1 ⟨rfl, hb1⟩; have HB1 := Lib.hid hb1; clear hb1)
        go_roundw
        case rel => exact ⟨a, (a + b) / 2, hm1, by omega, rfl, by go_num, HB.out.trans (HB1.out.mono hz), ⟨hH.1, search_hi HS.out HO.out (by omega)⟩⟩
        case measure => simp [intOf]; omega
    · obtain rfl : a = b := by omega
      have hz := hbel.size
      have HP := Lib.hid (search_end hb hH)
      have HT := Lib.hid (there_none HS.out HP.out)
      by_cases hn : a < os.length
      · obtain ⟨o, ho⟩ : ∃ o, os[a]? = some o := ⟨os[a]'hn, List.getElem?_eq_getElem hn⟩
        obtain ⟨q0, q1, q2⟩ := HC.out _ _ ho
        have f0 := (hbel.cell (p := ⟨g, a * 3, none⟩) hg).trans q0
        have f1 := (hbel.cell (p := ⟨g, a * 3 + 1, none⟩) hg).trans q1
        have f2 := (hbel.cell (p := ⟨g, a * 3 + 2, none⟩) hg).trans q2
        have HE := Lib.hid (there_at HS.out HP.out ho)
        have HB := Lib.hid hbel
        clear q0 q1 q2 ho hbel
        go_wp2_with (go_at_call 38; refine (findc_any o k _).mono ?_; rintro e w1 ⟨rfl, hb1⟩; have HB1 := Lib.hid hb1; clear hb1)
        go_ret2
        exact ⟨ret_pair (by rw [HP.out]) HE.out.symm, HB.out.trans (HB1.out.mono hz)⟩
      · have HB := Lib.hid hbel
        clear hbel
        go_wp2
        go_ret2
        exact ⟨ret_pair (by rw [HP.out]) (HT.out (by omega)).symm, HB.out⟩

theorem bsearch_none (w : World) (k : ByteArray) :
    Calls Try.prog 37 #[.slice none 0 0, .string k, .func (.func 38) #[] #[]] w fun e w' =>
      e = .returned (.tuple #[.int .i64 0, .bool false]) ∧ w = w' := by
  go_enter Try.func37, Try.ntmps37
  go_wp2
  go_loopw [9, 10] (fun i j wr => i = .int .i64 0 ∧ j = .int .i64 0 ∧ w = wr) (fun _ _ _ => 0)
  case atStart => exact ⟨rfl, rfl, rfl⟩
  case round =>
    obtain ⟨rfl, rfl, rfl⟩ := hrel
    go_wp2
    go_ret2
    exact ⟨rfl, rfl⟩

/-- find: the key's place, and whether it is there. -/
theorem find_any {F : Nat → Prop} (b : Nat) (k : ByteArray) (w : World) (st : St) (h : Sto w F b st) (hs : Rises (st.os.map Ob.key)) :
    Calls Try.prog 30 #[.pointer (some ⟨b, 0, none⟩), .string k] w fun e w' =>
      e = .returned (.tuple #[.int .i64 (keyPlace (st.os.map Ob.key) k), .bool (keyThere (st.os.map Ob.key) k)]) ∧ Below w.heap.size w w' := by
  obtain ⟨sv, cv, h⟩ := h
  have g1 := h.c1
  rcases h.row.2 with ⟨rfl, h0⟩ | ⟨g, cap, cur, rfl, hb, hgg, hnc, hcm, hcs, htake⟩
  · have e0 : st.os = [] := List.eq_nil_of_length_eq_zero h0
    have H0 := Lib.hid e0
    clear h h0 e0
    go_enter Try.func30, Try.ntmps30
    go_wp2_with (go_at_call 37; refine (bsearch_none _ k).mono ?_; rintro e w1 ⟨rfl, rfl⟩)
    go_ret2
    exact ⟨by rw [H0.out]; rfl, Below.refl _ _⟩
  · have T := Lib.hid (bsearch_some w g cap st.os k h.row (by have := h.most_le; have := h.len_le; omega) (Array.getElem?_eq_some_iff.1 hgg).1 hs)
    clear h hgg hnc hcm hcs htake hs
    go_enter Try.func30, Try.ntmps30
    go_wp2_with (go_at_call 37; refine (T.out).mono ?_; rintro e w1 ⟨rfl, hb1⟩; have HB1 := Lib.hid hb1; clear hb1)
    go_ret2
    exact ⟨rfl, HB1.out⟩
end Go.Proofs.Ytembcflgjfligaa
