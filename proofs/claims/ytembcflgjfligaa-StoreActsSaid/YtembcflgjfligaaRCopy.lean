/- Copy of the reference; SpoilObjects. -/
import Derived.Test.YtembcflgjfligaaRList
namespace Go.Proofs.Ytembcflgjfligaa
open Go.Conc Go.RowKit

theorem src_row {w : World} {v : Value} {os : List Ob} (h : w.ownsRow 0 56 3 v os.length (rowOf os)) : IsSrc w v os := by
  rcases h.2 with ⟨rfl, hz⟩ | ⟨g, cap, cur, rfl, _⟩
  · exact .inl ⟨rfl, List.eq_nil_of_length_eq_zero hz⟩
  · have := src_take h rfl os.length cap (Nat.le_refl _)
    rwa [List.take_length] at this

set_option maxHeartbeats 1000000 in
theorem rcopy_any {F : Nat → Prop} (b : Nat) (w : World) (st : St) (h : Ref w F b st) : Calls Try.prog 9 #[.pointer (some ⟨b, 0, none⟩)] w fun e w' => e = .returned (.pointer (some ⟨w.heap.size, 0, none⟩)) ∧ Ref w' (fun k => w.heap.size ≤ k ∧ k < w'.heap.size) w.heap.size st ∧ Below w.heap.size w w' := by
  obtain ⟨sv, h⟩ := h
  have hlen : st.os.length ≤ 4096 := by have := h.len_le; have := h.most_le; omega
  obtain ⟨a0, cap, rfl⟩ := h.shape
  have g0 := h.c0
  have g1 := h.c1
  have g2 := h.c2
  have g3 := h.c3
  have hlt := h.lt
  have H := Lib.hid h
  clear h
  go_enter Try.func9, Try.ntmps9
  obtain ⟨v1, hv1⟩ : ∃ v1, v1 = (w.alloc (.cells #[.int .i64 st.most, .slice a0 st.os.length cap, .int .i64 st.owed, .int .i64 st.calls] 40)).alloc (.cells #[] 56) := ⟨_, rfl⟩
  have hz1 : v1.heap.size = w.heap.size + 2 := by rw [hv1]; simp
  have b1 : Below w.heap.size w v1 := by
    rw [hv1]
    exact ((Below.refl _ w).alloc (Nat.le_refl _) _).alloc (by simp) _
  have h1 : IsRef v1 F b st (.slice a0 st.os.length cap) := H.out.same fun k hk _ => b1.block k hk
  have he : v1.heap[w.heap.size + 1]? = some (.cells #[] 56 (0, 0)) := by
    have := heap_alloc_new (w.alloc (.cells #[.int .i64 st.most, .slice a0 st.os.length cap, .int .i64 st.owed, .int .i64 st.calls] 40)) (.cells #[] 56)
    rw [World.size_alloc] at this
    rw [hv1]; exact this
  have hs : v1.heap[w.heap.size]? = some (.cells #[.int .i64 st.most, .slice a0 st.os.length cap, .int .i64 st.owed, .int .i64 st.calls] 40 (0, 0)) := by
    rw [hv1]
    rw [Below.heap_alloc _ _ _ (by simp)]
    exact heap_alloc_new w _
  have hown : v1.ownsRow (w.heap.size + 1) 56 3 (.slice (some ⟨w.heap.size + 1, 0, none⟩) 0 0) ([] : List Ob).length (rowOf []) :=
    ⟨rfl, .inr ⟨w.heap.size + 1, 0, #[], rfl, Nat.le_refl _, he, Nat.le_refl _, Nat.zero_le _, rfl, rfl⟩⟩
  have HOwn := Lib.hid hown
  have HSrc := Lib.hid (src_row h1.row)
  have HS := Lib.hid hs
  have B1 := Lib.hid b1
  clear hown h1 he hs b1
  have HV := Lib.hid hv1
  clear hv1
  go_wp2_with (at_builtin; rw [← HV.out]; refine wpList_append_src (base := w.heap.size + 1) [] st.os st.os st.os.length rfl rfl rfl (.tmp 7) (.tmp 11) rfl rfl rfl rfl HOwn.out HSrc.out (by simp; omega) (by omega) ?_; rintro a6 c6 w6 r6 b6; have hb6 := b6.block w.heap.size (by omega); have hz6 := b6.size; have hk6 := hb6.trans HS.out; have z6 := frozen_of_row w6 w.heap.size 1 _ _ hk6; have k6 := cell_of_row w6 w.heap.size 1 _ _ _ hk6; have R6 := Lib.hid r6; have B6 := Lib.hid b6; clear r6 b6)
  go_ret
  have hset := Go.Joins.block_setCell (i := 1) hk6 (.slice a6 st.os.length c6)
  have hz7 : (w6.setCell ⟨w.heap.size, 1, none⟩ (.slice a6 st.os.length c6)).heap.size = w6.heap.size := by simp [World.setCell]
  refine ⟨rfl, ⟨_, by simpa using hset, ⟨Nat.le_refl _, by omega⟩, row_same (ownsRow_base R6.out (Nat.zero_le _)) (fun g hg => Below.heap_setCell _ _ _ _ (fun e => by have := (R6.out.lt g hg).1; simp at e; omega)), fun g hg => ?_, H.out.most_le, H.out.len_le, H.out.calls_ge, H.out.owed_ge, H.out.owed_le⟩, (B1.out.trans (B6.out.mono (by omega))).setCell (Nat.le_refl _) _⟩
  have := R6.out.lt g hg
  omega

set_option maxHeartbeats 1000000 in
theorem spoil_any {w : World} {B : Nat} {v : Value} {os : List Ob} (h : w.ownsRow B 56 3 v os.length (rowOf os)) (hl : os.length ≤ 8192) : Calls Try.prog 14 #[v] w fun e w' => e = .returned (.tuple #[]) ∧ Below B w w' := by
  obtain ⟨n, hn⟩ : ∃ n, n = os.length := ⟨_, rfl⟩
  rcases h.2 with ⟨rfl, hz⟩ | ⟨g, cap, cur, rfl, hb, hgg, hnc, hcm, hcs, htake⟩
  · go_enter Try.func14, Try.ntmps14
    go_wp2
    go_loopw [2] (fun i wr => i = .int .i64 0 ∧ w = wr) (fun _ _ => 0)
    case atStart => exact ⟨rfl, rfl⟩
    case round =>
      obtain ⟨rfl, rfl⟩ := hrel
      go_wp2
      go_end0
      exact ⟨rfl, Below.refl _ _⟩
  · rw [← hn] at hnc hl ⊢
    have hc0 : ∀ j, j < n → ∃ t : Int, cur[j * 3 + 2]? = some (.int .i64 t) := fun j hj => by
      obtain ⟨o, ho⟩ : ∃ o, os[j]? = some o := ⟨os[j]'(by omega), List.getElem?_eq_getElem _⟩
      have h2 := (rowOf_get os j o ho).2.2
      refine ⟨o.time, ?_⟩
      rw [← htake, List.getElem?_take] at h2
      split at h2
      · rwa [Array.getElem?_toList] at h2
      · simp at h2
    have HC0 := Lib.hid hc0
    clear htake h hc0
    go_enter Try.func14, Try.ntmps14
    go_wp2
    go_loopw [2] (fun i wr => ∃ m : Nat, m ≤ n ∧ i = .int .i64 m ∧ Below B w wr ∧ ∃ cur' : Array Value, wr.heap[g]? = some (.cells cur' 56 (0, 0)) ∧ ∀ j, m ≤ j → j < n → ∃ t : Int, cur'[j * 3 + 2]? = some (.int .i64 t)) (fun i _ => n - (intOf i).toNat)
    case atStart => exact ⟨0, Nat.zero_le _, rfl, Below.refl _ _, cur, hgg, fun j _ hj => HC0.out j hj⟩
    case round =>
      obtain ⟨m, hm, rfl, hbel, cur', hg', hc'⟩ := hrel
      have HBel := Lib.hid hbel
      clear hbel
      by_cases hlt : m < n
      · obtain ⟨t, ht⟩ := hc' m (Nat.le_refl _) hlt
        have f2 := (cell_of_row wr g (m * 3 + 2) _ _ _ hg').trans ht
        have z2 := frozen_of_row wr g (m * 3 + 2) _ _ hg'
        have HC := Lib.hid hc'
        have HG := Lib.hid hg'
        clear ht hc' hg'
        go_wp2
        go_roundw
        case rel =>
          refine ⟨m + 1, by omega, by go_num, HBel.out.setCell hb _, _, Go.Joins.block_setCell HG.out _, fun j hj hjn => ?_⟩
          obtain ⟨t', ht'⟩ := HC.out j (by omega) hjn
          exact ⟨t', by rw [Array.getElem?_setIfInBounds_ne (by omega)]; exact ht'⟩
        case measure => simp [intOf]; omega
      · clear hc' hg'
        go_wp2
        go_end0
        exact ⟨rfl, HBel.out⟩
end Go.Proofs.Ytembcflgjfligaa
