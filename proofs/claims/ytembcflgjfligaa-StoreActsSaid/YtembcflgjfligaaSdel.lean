/- slices.Delete of one object out of the store's row. -/
import Derived.Test.YtembcflgjfligaaInsert
namespace Go.Proofs.Ytembcflgjfligaa
open Go.Conc Go.RowKit

def delAt (os : List Ob) (i : Nat) : List Ob := os.take i ++ os.drop (i + 1)
theorem delAt_length (os : List Ob) (i : Nat) (hi : i < os.length) : (delAt os i).length = os.length - 1 := by simp [delAt]; omega
theorem rowOf_delAt (os : List Ob) (i : Nat) : rowOf (delAt os i) = (rowOf os).take (i * 3) ++ (rowOf os).drop ((i + 1) * 3) := by
  rw [delAt, rowOf_append, rowOf_take, ← rowOf_drop]

theorem gone_list {α : Type} (L R D z : List α) (k n : Nat) (hR : L.take (n * 3) = R) (hRl : R.length = n * 3) (hk : k < n) (hD : D = R.drop ((k + 1) * 3)) (hz : z.length = 3) (hL : n * 3 ≤ L.length) :
    let X := L.take (k * 3) ++ D ++ L.drop (k * 3 + D.length)
    (X.take ((n - 1) * 3) ++ z ++ X.drop ((n - 1) * 3 + 3)).take ((n - 1) * 3) = R.take (k * 3) ++ R.drop ((k + 1) * 3) ∧ (X.take ((n - 1) * 3) ++ z ++ X.drop ((n - 1) * 3 + 3)).length = L.length := by
  intro X
  have hDl : D.length = (n - 1) * 3 - k * 3 := by rw [hD]; simp; omega
  have hXl : X.length = L.length := by simp [X]; omega
  have h0 : L.take (k * 3) = R.take (k * 3) := by rw [← hR, List.take_take, Nat.min_eq_left (by omega)]
  have h1 : X.take ((n - 1) * 3) = R.take (k * 3) ++ D := by
    have e : (R.take (k * 3) ++ D).length = (n - 1) * 3 := by simp; omega
    simp only [X]
    rw [h0, ← e]; exact List.take_left
  have e : (X.take ((n - 1) * 3)).length = (n - 1) * 3 := by simp; omega
  constructor
  · rw [List.append_assoc, List.take_append_of_le_length (by omega), List.take_of_length_le (by omega), h1, hD]
  · simp; omega

set_option maxHeartbeats 1000000 in
set_option maxRecDepth 100000 in
theorem sdelete_any (w : World) (sv : Value) (os : List Ob) (i : Nat) (h : w.ownsRow 0 56 3 sv os.length (rowOf os)) (hi : i < os.length) (hl : os.length ≤ 4096) :
    Calls Try.prog 33 #[sv, .int .i64 i, .int .i64 ((i : Int) + 1)] w (Inserted w sv (delAt os i)) := by
  rcases h.2 with ⟨rfl, h0⟩ | ⟨g, cap, cur, rfl, hb, hgg, hnc, hcm, hcs, htake⟩
  · omega
  have hcm' := hcm
  unfold maxLen at hcm
  have hlr := rowOf_length os
  have hdl : (rowOf (os.drop (i + 1))).length = (os.length - (i + 1)) * 3 := by rw [rowOf_length]; simp
  have hz3 : zObj.cells.size = 3 := rfl
  have hadd : ∀ b o j, (⟨b, o, none⟩ : Addr).add j = ⟨b, o + j, none⟩ := fun b o j => by unfold Addr.add; split <;> simp_all
  have hglt : g < w.heap.size := (Array.getElem?_eq_some_iff.1 hgg).1
  obtain ⟨i0, hi0, hz0, hz1, hz2⟩ := info_parts infoObj
  have hrd : ∀ j u, (rowOf (os.drop (i + 1)))[j]? = some u → w.drew.cell? ((⟨g, (i + 1) * 3, none⟩ : Addr).add j) = some u := fun j u hu => by
    rw [hadd]
    show w.cell? _ = _
    rw [cell_of_row w g _ _ _ _ hgg, ← Array.getElem?_toList]
    rw [rowOf_drop, ← htake, List.getElem?_drop, List.getElem?_take] at hu
    split at hu
    · exact hu
    · simp at hu
  obtain ⟨X1, hX1⟩ : ∃ X1, X1 = (cur.toList.take (i * 3) ++ rowOf (os.drop (i + 1)) ++ cur.toList.drop (i * 3 + (rowOf (os.drop (i + 1))).length)).toArray := ⟨_, rfl⟩
  obtain ⟨W1, hW1⟩ : ∃ W1, W1 = w.drew.setRow g X1 := ⟨_, rfl⟩
  have hap : ∀ (a : Addr) (m c : Nat), m = os.length - (i + 1) → (0 < m → a = ⟨g, (i + 1) * 3, none⟩) → ∀ ty, (Builtin.append_ #[38, 38] ty #[.slice (some ⟨g, 0, none⟩) i cap, .slice (some a) m c]).run Try.prog w.drew = .ok (.slice (some ⟨g, 0, none⟩) (os.length - 1) cap) W1 := fun a m c hm ha ty => by
    subst hm
    have := run_append_room (P := Try.prog) w.drew 38 ty 56 i0 Try.underlying38 hi0 g i cap cur hgg a (os.length - (i + 1)) c (rowOf (os.drop (i + 1))) (by rw [hz1]; exact hdl)
      (fun j u hu => by
        have hj : j < (rowOf (os.drop (i + 1))).length := (List.getElem?_eq_some_iff.1 hu).1
        rw [ha (by omega)]
        exact hrd j u hu)
      (rowOf_one' _) (by omega) (by rw [hz1]; omega)
    rw [hz1, ← hX1, ← hW1, show i + (os.length - (i + 1)) = os.length - 1 from by omega] at this
    exact this
  have hg1 : W1.heap[g]? = some (.cells X1 56 (0, 0)) := by rw [hW1]; exact setRow_heap w.drew g cur X1 56 _ hgg
  have hs1 : X1.size = cap * 3 := by rw [hX1]; simp; omega
  obtain ⟨Z, hZ⟩ : ∃ Z, Z = (Builtin.zeroCells zObj.cells 1).toList := ⟨_, rfl⟩
  have hZ3 : Z.length = 3 := by rw [hZ, Array.length_toList, size_zeroCells]; rfl
  have hZ1 : ∀ v ∈ Z, v.oneCell' = true := by
    have : (Builtin.zeroCells zObj.cells 1).toList = rowOf [⟨ByteArray.empty, ByteArray.empty, 0⟩] := by simp [Builtin.zeroCells, zObj, Value.cells, rowOf, Ob.cells]; rfl
    rw [hZ, this]
    exact rowOf_one' _
  obtain ⟨X2, hX2⟩ : ∃ X2, X2 = (X1.toList.take ((os.length - 1) * 3) ++ Z ++ X1.toList.drop ((os.length - 1) * 3 + 3)).toArray := ⟨_, rfl⟩
  obtain ⟨W2, hW2⟩ : ∃ W2, W2 = W1.setRow g X2 := ⟨_, rfl⟩
  have hcl : ∀ ty c, (Builtin.clear_ #[38] ty #[.slice (some ⟨g, (os.length - 1) * 3, none⟩) 1 c]).run Try.prog W1 = .ok (.tuple #[]) W2 := fun ty c => by
    have := run_clear_sized (P := Try.prog) W1 38 ty 56 i0 zObj g ((os.length - 1) * 3) 1 c X1 56 Try.underlying38 hi0 hz0 (by omega) hg1 (by rw [hz3]; omega) (by rw [← hZ]; exact hZ1)
    rw [← hZ, hz3, Nat.one_mul, ← hX2, ← hW2] at this
    exact this
  have hfin : X2.toList.take ((os.length - 1) * 3) = rowOf (delAt os i) ∧ X2.size = cap * 3 := by
    have := gone_list cur.toList (rowOf os) (rowOf (os.drop (i + 1))) Z i os.length htake hlr hi (rowOf_drop os (i + 1)) hZ3 (by have e := Array.length_toList (xs := cur); omega)
    rw [rowOf_delAt, hX2, hX1, ← Array.length_toList]
    exact ⟨this.1, this.2.trans (by rw [Array.length_toList]; exact hcs)⟩
  have e1 : (delAt os i).length = os.length - 1 := delAt_length os i hi
  have hres : Inserted w (.slice (some ⟨g, 0, none⟩) os.length cap) (delAt os i) (.returned (.slice (some ⟨g, 0, none⟩) (os.length - 1) cap)) W2 := by
    refine ⟨_, rfl, ⟨rowOf_length _, .inr ⟨g, cap, X2, by rw [e1], Nat.zero_le _, by rw [hW2]; exact setRow_heap W1 g X1 X2 56 _ hg1, by rw [e1]; omega, hcm', hfin.2, by rw [e1]; exact hfin.1⟩⟩, ⟨?_, ?_, ?_, ?_, fun k _ hk => ?_⟩, fun k hk => .inl (by simpa [Value.ownBlock] using hk)⟩
    · rw [hW2, hW1]; rfl
    · rw [hW2, hW1]; rfl
    · rw [hW2, hW1]; rfl
    · rw [hW2, hW1]; simp [World.setRow]
    · have hkg : k ≠ g := fun e => hk (by simp [Value.ownBlock, e])
      rw [hW2, hW1, setRow_other _ g k X2 hkg, setRow_other _ g k X1 hkg]
      rfl
  have HRES := Lib.hid hres
  have HCL := Lib.hid hcl
  have HAP := Lib.hid hap
  clear hres hfin hX1 hX2 hg1 hs1 hgg htake hcs e1 hW1 hW2 hcl hap hrd h hdl hlr hZ hZ3 hZ1
  have hw1 : (i : Int) ≤ (os.length : Int) := by omega
  have hb2 : ¬ (cap = i) := by omega
  have hb3 : (i : Int) + 1 ≤ (os.length : Int) := by omega
  have hb4 : ¬ (cap = os.length - 1) := by omega
  have hb5 : os.length - (os.length - 1) = 1 := by omega
  have hb7 : ((i : Int) == (i : Int) + 1) = false := by simp; omega
  have hb8 : ((i : Int) + 1).toNat = i + 1 := by omega
  have hb9 : i ≤ cap := by omega
  have hb10 : (0 : Int) ≤ (i : Int) + 1 := by omega
  by_cases hc : cap = i + 1
  · subst hc
    have hb11 : (i : Int) ≤ (i : Int) + 1 := by omega
    go_enter Try.func33, Try.ntmps33
    go_wp2
    go_region_law (refine step_append_eq rfl _ _ 38 38 rfl _ _ (by simp [Act.eval, Act.put]) (by simp [Act.eval, Act.put]) (HAP.out ⟨g, 0, none⟩ 0 0 (by omega) (fun h => absurd h (by omega)) _) ?_)
    go_wp2_with (refine wpList_clear_eq _ rfl (.tmp 31) 38 rfl _ rfl (HCL.out _ _) ?_)
    go_ret
    exact HRES.out
  · go_enter Try.func33, Try.ntmps33
    go_wp2
    go_region_law (refine step_append_eq rfl _ _ 38 38 rfl _ _ (by simp [Act.eval, Act.put]) (by simp [Act.eval, Act.put]) (HAP.out ⟨g, (i + 1) * 3, none⟩ (os.length - (i + 1)) (cap - (i + 1)) rfl (fun _ => rfl) _) ?_)
    go_wp2_with (refine wpList_clear_eq _ rfl (.tmp 31) 38 rfl _ rfl (HCL.out _ _) ?_)
    go_ret
    exact HRES.out
end Go.Proofs.Ytembcflgjfligaa
