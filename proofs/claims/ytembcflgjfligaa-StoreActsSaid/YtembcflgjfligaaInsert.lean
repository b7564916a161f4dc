/- slices.Insert of one object into the store's row. -/
import Derived.Test.YtembcflgjfligaaRow
import Derived.Lib.Overlaps
import Derived.Lib.AppendZerosOnto
namespace Go.Proofs.Ytembcflgjfligaa
open Go.Conc Go.RowKit

def insAt (os : List Ob) (i : Nat) (p : Ob) : List Ob := os.take i ++ p :: os.drop i
theorem insAt_length (os : List Ob) (i : Nat) (p : Ob) (hi : i ≤ os.length) : (insAt os i p).length = os.length + 1 := by simp [insAt]; omega
theorem insAt_end (os : List Ob) (p : Ob) : insAt os os.length p = os ++ [p] := by simp [insAt]

/-- What an insertion leaves. -/
def Inserted (w : World) (sv : Value) (os : List Ob) (e : Ending) (w' : World) : Prop :=
  ∃ sv', e = .returned sv' ∧ w'.ownsRow 0 56 3 sv' os.length (rowOf os) ∧ w.grownBy w' sv.ownBlock ∧ NewRow w sv sv'

set_option maxHeartbeats 400000 in
theorem insert_end (w : World) (sv : Value) (os : List Ob) (p : Ob) (gv : Nat) (h : w.ownsRow 0 56 3 sv os.length (rowOf os)) (hl : os.length ≤ 4096) (hv : w.heap[gv]? = some (.cells p.cells.toArray 56 (0, 0))) :
    Calls Try.prog 31 #[sv, .int .i64 os.length, .slice (some ⟨gv, 0, none⟩) 1 1] w (Inserted w sv (os ++ [p])) := by
  have hn : ∀ j u, p.cells[j]? = some u → w.cell? ((⟨gv, 0, none⟩ : Addr).add j) = some u := fun j u hu => by
    have hadd : (⟨gv, 0, none⟩ : Addr).add j = ⟨gv, j, none⟩ := by unfold Addr.add; split <;> simp_all
    rw [hadd, cell_of_row w gv j _ _ _ hv]
    simpa using hu
  obtain ⟨v', w', hr, ho, hg, hnew⟩ := run_append_one w sv os p h hl ⟨gv, 0, none⟩ 1 hn
  have HO := Lib.hid ho
  have HG := Lib.hid hg
  have HR := Lib.hid hr
  have HH := Lib.hid h
  clear ho hg hr hn hv
  rcases h.2 with ⟨rfl, h0⟩ | ⟨g, cap, cur, rfl, hb, hgg, hnc, hcm, hcs, htake⟩
  · have e0 : os = [] := List.eq_nil_of_length_eq_zero h0
    subst e0
    clear h
    go_enter Try.func31, Try.ntmps31
    go_wp2_with (at_builtin; refine wpList_append_eq _ rfl _ _ 38 38 rfl _ _ rfl rfl (HR.out _) ?_)
    go_ret
    exact ⟨_, rfl, HO.out, HG.out, hnew⟩
  · clear h hgg hcs htake
    by_cases hc : cap = os.length
    · subst hc
      go_enter Try.func31, Try.ntmps31
      go_wp2_with (at_builtin; refine wpList_append_eq _ rfl _ _ 38 38 rfl _ _ rfl rfl (HR.out _) ?_)
      go_ret
      exact ⟨_, rfl, HO.out, HG.out, hnew⟩
    · go_enter Try.func31, Try.ntmps31
      go_wp2_with (at_builtin; refine wpList_append_eq _ rfl _ _ 38 38 rfl _ _ rfl rfl (HR.out _) ?_)
      go_ret
      exact ⟨_, rfl, HO.out, HG.out, hnew⟩

theorem shift_list {α : Type} (L R D p : List α) (k : Nat) (hR : L.take R.length = R) (hk : k ≤ R.length) (hD : D = R.drop k) (hp : p.length = 3) (hL : R.length + 3 ≤ L.length) :
    ((L.take (k + 3) ++ D ++ L.drop (k + 3 + D.length)).take k ++ p ++ (L.take (k + 3) ++ D ++ L.drop (k + 3 + D.length)).drop (k + 3)).take (R.length + 3) = R.take k ++ (p ++ R.drop k) ∧
    ((L.take (k + 3) ++ D ++ L.drop (k + 3 + D.length)).take k ++ p ++ (L.take (k + 3) ++ D ++ L.drop (k + 3 + D.length)).drop (k + 3)).length = L.length := by
  have hDl : D.length = R.length - k := by rw [hD]; simp
  have h1 : (L.take (k + 3) ++ D ++ L.drop (k + 3 + D.length)).take k = R.take k := by
    rw [List.append_assoc, List.take_append_of_le_length (by simp; omega), List.take_take, Nat.min_eq_left (by omega), ← hR, List.take_take, Nat.min_eq_left hk]
  have h2 : (L.take (k + 3) ++ D ++ L.drop (k + 3 + D.length)).drop (k + 3) = D ++ L.drop (k + 3 + D.length) := by
    rw [List.append_assoc, List.drop_append, List.drop_of_length_le (by simp; omega)]
    simp only [List.length_take, List.nil_append]
    rw [Nat.min_eq_left (by omega), Nat.sub_self, List.drop_zero]
  rw [h1, h2]
  constructor
  · have e : R.take k ++ p ++ (D ++ L.drop (k + 3 + D.length)) = (R.take k ++ (p ++ R.drop k)) ++ L.drop (k + 3 + D.length) := by rw [hD]; simp
    rw [e]
    have hl : (R.take k ++ (p ++ R.drop k)).length = R.length + 3 := by simp; omega
    rw [← hl]
    exact List.take_left
  · simp; omega

theorem rowOf_insAt (os : List Ob) (i : Nat) (p : Ob) : rowOf (insAt os i p) = (rowOf os).take (i * 3) ++ (p.cells ++ (rowOf os).drop (i * 3)) := by
  rw [insAt, rowOf_append, rowOf_take, ← rowOf_drop]; simp [rowOf]

set_option maxHeartbeats 1000000 in
set_option maxRecDepth 100000 in
theorem insert_room (w : World) (g cap : Nat) (cur : Array Value) (os : List Ob) (i : Nat) (p : Ob) (gv : Nat) (hi : i < os.length) (hl : os.length ≤ 4096) (hroom : os.length + 1 ≤ cap) (hcm : cap ≤ maxLen)
    (hgg : w.heap[g]? = some (.cells cur 56 (0, 0))) (hcs : cur.size = cap * 3) (htake : cur.toList.take (os.length * 3) = rowOf os) (hv : w.heap[gv]? = some (.cells p.cells.toArray 56 (0, 0))) (hne : gv ≠ g) :
    Calls Try.prog 31 #[.slice (some ⟨g, 0, none⟩) os.length cap, .int .i64 i, .slice (some ⟨gv, 0, none⟩) 1 1] w (Inserted w (.slice (some ⟨g, 0, none⟩) os.length cap) (insAt os i p)) := by
  have hcm' := hcm
  unfold maxLen at hcm
  have hlr := rowOf_length os
  have hdl : (rowOf (os.drop i)).length = (os.length - i) * 3 := by rw [rowOf_length]; simp
  have hp3 : p.cells.length = 3 := rfl
  have hadd : ∀ b o j, (⟨b, o, none⟩ : Addr).add j = ⟨b, o + j, none⟩ := fun b o j => by unfold Addr.add; split <;> simp_all
  obtain ⟨i0, hi0, hz0, hz1, hz2⟩ := info_parts infoObj
  have hov : ∀ lb cb, (callFunc 40 #[.slice (some ⟨gv, 0, none⟩) 1 1, .slice (some ⟨g, (i + 1) * 3, none⟩) lb cb]).run Try.prog w = .ok (.value (.bool false)) w := fun lb cb => by
    rw [run_callFunc_extern Try.func40 (by kernel_rfl) (by kernel_rfl) (by kernel_rfl) (e := Extern.SlicesOverlaps.overlaps #[38, 38] #[4]) (by kernel_rfl),
      Lib.run_overlaps_apart w 38 4 56 Try.underlying38 3 (fun w => by simp [sizeOf, typeInfo, hi0, hz1]) ⟨gv, 0, none⟩ ⟨g, (i + 1) * 3, none⟩ 1 1 lb cb hne 56 56 3 (cap * 3) (by simp [World.shape?, hv]; rfl) (by simp [World.shape?, hgg, hcs]) (by omega) (by simp [World.frozen?, hv]) (by simp [World.frozen?, hv])]
    rfl
  obtain ⟨X1, hX1⟩ : ∃ X1, X1 = (cur.toList.take ((i + 1) * 3) ++ rowOf (os.drop i) ++ cur.toList.drop ((i + 1) * 3 + (rowOf (os.drop i)).length)).toArray := ⟨_, rfl⟩
  have hrd : ∀ j u, (rowOf (os.drop i))[j]? = some u → w.drew.cell? ((⟨g, i * 3, none⟩ : Addr).add j) = some u := fun j u hu => by
    rw [hadd]
    show w.cell? _ = _
    rw [cell_of_row w g _ _ _ _ hgg, ← Array.getElem?_toList]
    rw [rowOf_drop, ← htake, List.getElem?_drop, List.getElem?_take] at hu
    split at hu
    · exact hu
    · simp at hu
  have hcp1 : ∀ ty, (Builtin.copy_ #[38, 38] ty #[.slice (some ⟨g, (i + 1) * 3, none⟩) (os.length - i) (cap - (i + 1)), .slice (some ⟨g, i * 3, none⟩) (os.length + 1 - i) (cap - i)]).run Try.prog w.drew = .ok (goInt ((os.length - i : Nat) : Int)) (w.drew.setRow g X1) := fun ty => by
    have hm : Nat.min (os.length + 1 - i) (os.length - i) = os.length - i := by simp only [Nat.min_def]; split <;> omega
    have := run_copy_sized (P := Try.prog) w.drew 38 38 ty 56 3 g ((i + 1) * 3) (os.length - i) (cap - (i + 1)) ⟨g, i * 3, none⟩ (os.length + 1 - i) (cap - i) cur 56 (rowOf (os.drop i)) Try.underlying38 sizeObj hgg (by rw [hm]; exact hdl) hrd (by omega) (rowOf_one' _)
    rw [hm, ← hX1] at this
    exact this
  have hg1 : (w.drew.setRow g X1).heap[g]? = some (.cells X1 56 (0, 0)) := setRow_heap w.drew g cur X1 56 _ hgg
  have hs1 : X1.size = cap * 3 := by rw [hX1]; simp; omega
  obtain ⟨X2, hX2⟩ : ∃ X2, X2 = (X1.toList.take (i * 3) ++ p.cells ++ X1.toList.drop (i * 3 + p.cells.length)).toArray := ⟨_, rfl⟩
  have hcp2 : ∀ ty, (Builtin.copy_ #[38, 38] ty #[.slice (some ⟨g, i * 3, none⟩) (os.length + 1 - i) (cap - i), .slice (some ⟨gv, 0, none⟩) 1 1]).run Try.prog (w.drew.setRow g X1) = .ok (goInt 1) ((w.drew.setRow g X1).setRow g X2) := fun ty => by
    have hm : Nat.min 1 (os.length + 1 - i) = 1 := by simp only [Nat.min_def]; split <;> omega
    have := run_copy_sized (P := Try.prog) (w.drew.setRow g X1) 38 38 ty 56 3 g (i * 3) (os.length + 1 - i) (cap - i) ⟨gv, 0, none⟩ 1 1 X1 56 p.cells Try.underlying38 sizeObj hg1 (by rw [hm]; rfl)
      (fun j u hu => by
        rw [hadd, World.cell?_of_block (w := w) (setRow_other w.drew g gv X1 hne), cell_of_row w gv _ _ _ _ hv]
        simpa using hu)
      (by rw [hs1]; omega) (fun u hu => rowOf_one' [p] u (by rwa [rowOf_one]))
    rw [hm, ← hX2] at this
    exact this
  have hfin : X2.toList.take ((os.length + 1) * 3) = rowOf (insAt os i p) ∧ X2.size = cap * 3 := by
    have := shift_list cur.toList (rowOf os) (rowOf (os.drop i)) p.cells (i * 3) (by rw [hlr]; exact htake) (by omega) (rowOf_drop os i) hp3 (by simp; omega)
    rw [hlr] at this
    rw [rowOf_insAt, hX2, hX1, ← Array.length_toList]
    simp only [show (i + 1) * 3 = i * 3 + 3 from by omega, show (os.length + 1) * 3 = os.length * 3 + 3 from by omega, hp3]
    refine ⟨this.1, this.2.trans (by simp; omega)⟩
  have e1 : (insAt os i p).length = os.length + 1 := insAt_length os i p (by omega)
  have hres : Inserted w (.slice (some ⟨g, 0, none⟩) os.length cap) (insAt os i p) (.returned (.slice (some ⟨g, 0, none⟩) (os.length + 1) cap)) ((w.drew.setRow g X1).setRow g X2) := by
    refine ⟨_, rfl, ⟨rowOf_length _, .inr ⟨g, cap, X2, by rw [e1], Nat.zero_le _, setRow_heap _ g X1 X2 56 _ hg1, by rw [e1]; exact hroom, hcm', hfin.2, by rw [e1]; exact hfin.1⟩⟩, ⟨rfl, rfl, rfl, by simp [World.setRow], fun k _ hk => ?_⟩, fun k hk => .inl (by simpa [Value.ownBlock] using hk)⟩
    have hkg : k ≠ g := fun e => hk (by simp [Value.ownBlock, e])
    rw [setRow_other _ g k X2 hkg, setRow_other _ g k X1 hkg]
    rfl
  have HRES := Lib.hid hres
  clear hres hfin hX1 hX2 hg1 hs1 hrd hgg hv htake hcs e1
  go_enter Try.func31, Try.ntmps31
  go_wp2_with (simp only [hov])
  clear hov
  have HC2 := Lib.hid hcp2
  clear hcp2
  have hb1 : (0 : Int) ≤ (i : Int) + 1 := by omega
  have htn : ((i : Int) + 1).toNat = i + 1 := by omega
  have hb2 : ¬ (cap = i + 1) := by omega
  have hb3 : (i : Int) ≤ (os.length : Int) + 1 := by omega
  have hb3' : (i : Int) + 1 ≤ (os.length : Int) + 1 := by omega
  have hb4 : ¬ (cap = i) := by omega
  have hb5 : os.length + 1 - (i + 1) = os.length - i := by omega
  have hw1 : IntKind.i64.wrap ((i : Int) + 1) = (i : Int) + 1 := by rw [IntKind.wrap_i64]; omega
  go_region_law (refine step_copy_eq rfl _ _ 38 38 rfl _ _ (by simp [Act.eval, Act.put]) (by simp [Act.eval, Act.put]) (hcp1 _) ?_)
  clear hw1 hcp1
  go_wp2_with (refine wpList_copy_eq _ rfl (.tmp 80) (.tmp 81) 38 38 rfl _ _ rfl rfl (HC2.out _) ?_)
  go_ret
  exact HRES.out

theorem grown_list {α : Type} (L A C D p : List α) (k : Nat) (hk : A.length = k) (hL : L = A ++ C) (hp : p.length = 3) (hLl : k + 3 + D.length ≤ L.length) :
    ((L.take k ++ p ++ L.drop (k + 3)).take (k + 3) ++ D ++ (L.take k ++ p ++ L.drop (k + 3)).drop (k + 3 + D.length)).take (k + 3 + D.length) = A ++ (p ++ D) ∧
    ((L.take k ++ p ++ L.drop (k + 3)).take (k + 3) ++ D ++ (L.take k ++ p ++ L.drop (k + 3)).drop (k + 3 + D.length)).length = L.length := by
  have h0 : L.take k = A := by rw [hL, ← hk]; exact List.take_left
  have hl : (A ++ p).length = k + 3 := by simp; omega
  have h1 : (L.take k ++ p ++ L.drop (k + 3)).take (k + 3) = A ++ p := by rw [h0, ← hl]; exact List.take_left
  rw [h1]
  constructor
  · have e : (A ++ p ++ D).length = k + 3 + D.length := by simp; omega
    rw [← e, List.take_left, List.append_assoc]
  · simp; omega

set_option maxHeartbeats 1000000 in
set_option maxRecDepth 100000 in
theorem insert_grow (w : World) (g : Nat) (cur : Array Value) (os : List Ob) (i : Nat) (p : Ob) (gv : Nat) (hi : i < os.length) (hl : os.length ≤ 4096)
    (hgg : w.heap[g]? = some (.cells cur 56 (0, 0))) (htake : cur.toList.take (os.length * 3) = rowOf os) (hv : w.heap[gv]? = some (.cells p.cells.toArray 56 (0, 0))) :
    Calls Try.prog 31 #[.slice (some ⟨g, 0, none⟩) os.length os.length, .int .i64 i, .slice (some ⟨gv, 0, none⟩) 1 1] w (Inserted w (.slice (some ⟨g, 0, none⟩) os.length os.length) (insAt os i p)) := by
  have hlr := rowOf_length os
  have hdl : (rowOf (os.drop i)).length = (os.length - i) * 3 := by rw [rowOf_length]; simp
  have htl : (rowOf (os.take i)).length = i * 3 := by rw [rowOf_length]; simp; omega
  have hp3 : p.cells.length = 3 := rfl
  have hz3 : zObj.cells.size = 3 := rfl
  have hadd : ∀ b o j, (⟨b, o, none⟩ : Addr).add j = ⟨b, o + j, none⟩ := fun b o j => by unfold Addr.add; split <;> simp_all
  have hglt : g < w.heap.size := (Array.getElem?_eq_some_iff.1 hgg).1
  have hvlt : gv < w.heap.size := (Array.getElem?_eq_some_iff.1 hv).1
  obtain ⟨i0, hi0, hz0, hz1, hz2⟩ := info_parts infoObj
  obtain ⟨G, hG⟩ : ∃ G, G = grownCap w (os.length + 1) os.length 56 := ⟨_, rfl⟩
  have hG1 : os.length + 1 ≤ G := by rw [hG]; exact grownCap_ge w _ _ _
  have hG2 : G ≤ 9223372036854775807 := by
    have := grownCap_le_maxLen w (os.length + 1) os.length 56 (by unfold maxLen; omega)
    rw [hG]; unfold maxLen at this; exact this
  obtain ⟨cur2, hcur2⟩ : ∃ cur2, cur2 = (rowOf (os.take i)).toArray ++ Builtin.zeroCells zObj.cells (os.length + 1 - i) ++ Builtin.zeroCells zObj.cells (G - (os.length + 1)) := ⟨_, rfl⟩
  obtain ⟨W1, hW1⟩ : ∃ W1, W1 = w.drew.alloc (.cells cur2 56) := ⟨_, rfl⟩
  have hap : ∀ ty, (Builtin.append_ #[38, 3] ty #[.slice (some ⟨g, 0, none⟩) i os.length, .int .i64 ((os.length : Int) + 1 - (i : Int))]).run Try.prog w = .ok (.slice (some ⟨w.heap.size, 0, none⟩) (os.length + 1) G) W1 := fun ty => by
    have hold : (Builtin.firstCells i0.size i (.slice (some ⟨g, 0, none⟩) i os.length)).run Try.prog w.drew = .ok (rowOf (os.take i)).toArray w.drew :=
      run_firstCells_some w.drew i0.size i ⟨g, 0, none⟩ i os.length (rowOf (os.take i)) (by rw [hz1]; exact htl) (fun j u hu => by
        rw [hadd]
        show w.cell? _ = _
        rw [cell_of_row w g _ _ _ _ hgg, ← Array.getElem?_toList, Nat.zero_add]
        rw [rowOf_take, ← htake, List.take_take, List.getElem?_take] at hu
        split at hu
        · exact hu
        · simp at hu)
    have h := Lib.run_append_grow_zeros w 38 3 ty 56 i0 zObj .i64 .i64 Try.underlying38 Try.underlying3 hi0 hz0 (some ⟨g, 0, none⟩) i os.length (rowOf (os.take i)) hold (os.length + 1 - i) (by omega) (by omega) (by omega) (by omega) (by rw [hz2]; omega) (growslice_fits (by omega) (by rw [hz2]; omega))
    rw [show i + (os.length + 1 - i) = os.length + 1 from by omega, ← hG, ← hcur2, ← hW1] at h
    rw [show (os.length : Int) + 1 - (i : Int) = ((os.length + 1 - i : Nat) : Int) from by omega]
    exact h
  have hs2 : cur2.size = G * 3 := by
    rw [hcur2]; simp only [Array.size_append, List.size_toArray, size_zeroCells, hz3, htl]; omega
  have hg1 : W1.heap[w.heap.size]? = some (.cells cur2 56 (0, 0)) := by rw [hW1]; exact heap_alloc_new w.drew _
  have hold1 : ∀ k, k < w.heap.size → W1.heap[k]? = w.heap[k]? := fun k hk => by rw [hW1]; exact Below.heap_alloc w.drew _ k hk
  have hW1s : W1.heap.size = w.heap.size + 1 := by rw [hW1]; simp
  have hW1o : W1.os = w.os ∧ W1.tape = w.tape ∧ W1.output = w.output := by rw [hW1]; exact ⟨rfl, rfl, rfl⟩
  obtain ⟨X1, hX1⟩ : ∃ X1, X1 = (cur2.toList.take (i * 3) ++ p.cells ++ cur2.toList.drop (i * 3 + p.cells.length)).toArray := ⟨_, rfl⟩
  have hs1 : X1.size = G * 3 := by rw [hX1]; simp [hp3]; omega
  obtain ⟨W2, hW2⟩ : ∃ W2, W2 = W1.setRow w.heap.size X1 := ⟨_, rfl⟩
  have hcp1 : ∀ ty, (Builtin.copy_ #[38, 38] ty #[.slice (some ⟨w.heap.size, i * 3, none⟩) (os.length + 1 - i) (G - i), .slice (some ⟨gv, 0, none⟩) 1 1]).run Try.prog W1 = .ok (goInt 1) W2 := fun ty => by
    have hm : Nat.min 1 (os.length + 1 - i) = 1 := by simp only [Nat.min_def]; split <;> omega
    have := run_copy_sized (P := Try.prog) W1 38 38 ty 56 3 w.heap.size (i * 3) (os.length + 1 - i) (G - i) ⟨gv, 0, none⟩ 1 1 cur2 56 p.cells Try.underlying38 sizeObj hg1 (by rw [hm]; rfl)
      (fun j u hu => by
        rw [hadd, World.cell?_of_block (w := w) (hold1 gv hvlt), cell_of_row w gv _ _ _ _ hv]
        simpa using hu)
      (by rw [hs2]; omega) (fun u hu => rowOf_one' [p] u (by rwa [rowOf_one]))
    rw [hm, ← hX1, ← hW2] at this
    exact this
  have hg2 : W2.heap[w.heap.size]? = some (.cells X1 56 (0, 0)) := by rw [hW2]; exact setRow_heap W1 _ cur2 X1 56 _ hg1
  have hold2 : ∀ k, k < w.heap.size → W2.heap[k]? = w.heap[k]? := fun k hk => by rw [hW2, setRow_other _ _ k X1 (by omega)]; exact hold1 k hk
  have hW2s : W2.heap.size = w.heap.size + 1 := by rw [hW2, ← hW1s]; simp [World.setRow]
  have hW2o : W2.os = w.os ∧ W2.tape = w.tape ∧ W2.output = w.output := by rw [hW2]; exact hW1o
  obtain ⟨X2, hX2⟩ : ∃ X2, X2 = (X1.toList.take ((i + 1) * 3) ++ rowOf (os.drop i) ++ X1.toList.drop ((i + 1) * 3 + (rowOf (os.drop i)).length)).toArray := ⟨_, rfl⟩
  obtain ⟨W3, hW3⟩ : ∃ W3, W3 = W2.drew.setRow w.heap.size X2 := ⟨_, rfl⟩
  have hcp2 : ∀ ty, (Builtin.copy_ #[38, 38] ty #[.slice (some ⟨w.heap.size, (i + 1) * 3, none⟩) (os.length - i) (G - (i + 1)), .slice (some ⟨g, i * 3, none⟩) (os.length - i) (os.length - i)]).run Try.prog W2.drew = .ok (goInt ((os.length - i : Nat) : Int)) W3 := fun ty => by
    have hm : Nat.min (os.length - i) (os.length - i) = os.length - i := Nat.min_self _
    have := run_copy_sized (P := Try.prog) W2.drew 38 38 ty 56 3 w.heap.size ((i + 1) * 3) (os.length - i) (G - (i + 1)) ⟨g, i * 3, none⟩ (os.length - i) (os.length - i) X1 56 (rowOf (os.drop i)) Try.underlying38 sizeObj hg2 (by rw [hm]; exact hdl)
      (fun j u hu => by
        rw [hadd, World.cell?_of_block (w := w) (hold2 g hglt), cell_of_row w g _ _ _ _ hgg, ← Array.getElem?_toList]
        rw [rowOf_drop, ← htake, List.getElem?_drop, List.getElem?_take] at hu
        split at hu
        · exact hu
        · simp at hu) (by omega) (rowOf_one' _)
    rw [hm, ← hX2, ← hW3] at this
    exact this
  have hg3 : W3.heap[w.heap.size]? = some (.cells X2 56 (0, 0)) := by rw [hW3]; exact setRow_heap W2.drew _ X1 X2 56 _ hg2
  have hfin : X2.toList.take ((os.length + 1) * 3) = rowOf (insAt os i p) ∧ X2.size = G * 3 := by
    have hc2 : cur2.toList = rowOf (os.take i) ++ ((Builtin.zeroCells zObj.cells (os.length + 1 - i)).toList ++ (Builtin.zeroCells zObj.cells (G - (os.length + 1))).toList) := by rw [hcur2]; simp
    have := grown_list cur2.toList (rowOf (os.take i)) _ (rowOf (os.drop i)) p.cells (i * 3) htl hc2 hp3 (by have e := Array.length_toList (xs := cur2); omega)
    rw [rowOf_insAt, hX2, hX1, ← Array.length_toList]
    simp only [show (i + 1) * 3 = i * 3 + 3 from by omega, hp3]
    rw [show (os.length + 1) * 3 = i * 3 + 3 + (rowOf (os.drop i)).length from by rw [hdl]; omega, ← rowOf_take, ← rowOf_drop]
    refine ⟨this.1, this.2.trans (by rw [Array.length_toList]; exact hs2)⟩
  have e1 : (insAt os i p).length = os.length + 1 := insAt_length os i p (by omega)
  have hres : Inserted w (.slice (some ⟨g, 0, none⟩) os.length os.length) (insAt os i p) (.returned (.slice (some ⟨w.heap.size, 0, none⟩) (os.length + 1) G)) W3 := by
    refine ⟨_, rfl, ⟨rowOf_length _, .inr ⟨w.heap.size, G, X2, by rw [e1], Nat.zero_le _, hg3, by rw [e1]; exact hG1, hG2, hfin.2, by rw [e1]; exact hfin.1⟩⟩, ⟨?_, ?_, ?_, ?_, fun k hk _ => ?_⟩, fun k hk => ?_⟩
    · rw [hW3]; exact hW2o.1
    · rw [hW3]; exact hW2o.2.1
    · rw [hW3]; exact hW2o.2.2
    · rw [hW3]; simp [World.setRow]; omega
    · rw [hW3, setRow_other _ _ k X2 (by omega)]
      exact hold2 k hk
    · simp [Value.ownBlock] at hk
      exact .inr (by omega)
  have HRES := Lib.hid hres
  have HC1 := Lib.hid hcp1
  have HAP := Lib.hid hap
  have HC2 := Lib.hid hcp2
  clear hres hfin hX1 hX2 hg1 hs1 hgg hv htake e1 hg2 hg3 hold1 hold2 hW1s hW1o hW2s hW2o hW1 hW2 hW3 hcp1 hcp2 hap hcur2 hs2 hdl htl hlr hG
  go_enter Try.func31, Try.ntmps31
  go_wp2_with (first
    | (at_builtin; refine wpList_append_eq _ rfl (.tmp 34) (.tmp 39) 38 3 rfl _ _ rfl rfl (HAP.out _) ?_)
    | (refine wpList_copy_eq _ rfl (.tmp 43) (.tmp 44) 38 38 rfl _ _ rfl rfl (HC1.out _) ?_))
  have hb1 : (0 : Int) ≤ (i : Int) + 1 := by omega
  have htn : ((i : Int) + 1).toNat = i + 1 := by omega
  have hb2 : ¬ (G = i + 1) := by omega
  have hb3 : (i : Int) + 1 ≤ (os.length : Int) + 1 := by omega
  have hb4 : ¬ (os.length = i) := by omega
  have hb5 : os.length + 1 - (i + 1) = os.length - i := by omega
  have hb6 : (i : Int) ≤ (os.length : Int) := by omega
  have hw1 : IntKind.i64.wrap ((i : Int) + 1) = (i : Int) + 1 := by rw [IntKind.wrap_i64]; omega
  go_region_law (refine step_copy_eq rfl _ _ 38 38 rfl _ _ (by simp [Act.eval, Act.put]) (by simp [Act.eval, Act.put]) (HC2.out _) ?_)
  clear hw1
  go_wp2
  go_ret
  exact HRES.out

theorem insert_any (w : World) (sv : Value) (os : List Ob) (i : Nat) (p : Ob) (gv : Nat) (h : w.ownsRow 0 56 3 sv os.length (rowOf os)) (hi : i ≤ os.length) (hl : os.length ≤ 4096)
    (hv : w.heap[gv]? = some (.cells p.cells.toArray 56 (0, 0))) (hne : ∀ k, sv.ownBlock = some k → gv ≠ k) :
    Calls Try.prog 31 #[sv, .int .i64 i, .slice (some ⟨gv, 0, none⟩) 1 1] w (Inserted w sv (insAt os i p)) := by
  rcases Nat.eq_or_lt_of_le hi with rfl | hlt
  · rw [insAt_end]
    exact insert_end w sv os p gv h hl hv
  · rcases h.2 with ⟨rfl, h0⟩ | ⟨g, cap, cur, rfl, hb, hgg, hnc, hcm, hcs, htake⟩
    · omega
    · by_cases hroom : os.length + 1 ≤ cap
      · exact insert_room w g cap cur os i p gv hlt hl hroom hcm hgg hcs htake hv (hne g rfl)
      · obtain rfl : cap = os.length := by omega
        exact insert_grow w g cur os i p gv hlt hl hgg htake hv
end Go.Proofs.Ytembcflgjfligaa
