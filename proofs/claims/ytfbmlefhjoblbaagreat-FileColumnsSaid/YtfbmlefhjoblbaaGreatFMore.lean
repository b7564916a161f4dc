/- A file of one column of nulls more: plainly. -/
import Derived.Test.YtfbmlefhjoblbaaGreatFm
namespace Go.Proofs.YtfbmlefhjoblbaaGreat
open Go.Conc Go.RowKit
set_option linter.unusedVariables false
set_option linter.unusedSimpArgs false

theorem of_null1 (c : Int) (vs : List V) {v : V} (h : kindV v = 0) : ofA c (vs ++ [v]) = ⟨c, ((nullsA vs : Nat) : Int) + 1, plainV (leastA vs), plainV (mostA vs)⟩ := by
  unfold ofA
  rw [nullsA_snoc, leastA_snoc, mostA_snoc, less_none _ h, more_none _ h, if_pos h]
  rfl
theorem of_zeros1 (c : Int) (k : Nat) : ofA c (List.replicate k zeroV) = ⟨c, k, zeroV, zeroV⟩ := by
  induction k with
  | zero => rfl
  | succ k ih =>
    rw [List.replicate_succ', of_null1 c _ kind_zeroV]
    unfold ofA at ih
    injection ih with _ h2 h3 h4
    rw [h2, h3, h4]
    rfl
def nS (c n : Int) : S := ⟨c, n, ⟨0, 0, false, ⟨#[]⟩⟩, ⟨0, 0, false, ⟨#[]⟩⟩⟩
/-- A column of nulls more. -/
def moreD (d : Da) (c : Co) : Da := ⟨d.n, d.cs ++ [c], d.rs ++ [List.replicate d.n.toNat zeroV]⟩
theorem zeros_null (n : Nat) : ∀ v ∈ List.replicate n zeroV, isNull v = true := fun v hv => by rw [(List.mem_replicate.1 hv).2]; rfl
theorem gd_left {α : Type} {xs ys : List α} {i : Nat} {z : α} (h : i < xs.length) : (xs ++ ys).getD i z = xs.getD i z := by
  rw [List.getD_eq_getElem?_getD, List.getD_eq_getElem?_getD, List.getElem?_append_left h]
theorem gd_last {α : Type} {xs : List α} {y z : α} {i : Nat} (h : i = xs.length) : (xs ++ [y]).getD i z = y := by
  subst h
  rw [List.getD_eq_getElem?_getD, List.getElem?_append_right (Nat.le_refl _), Nat.sub_self]; rfl
theorem more_may {d : Da} {c : Co} (h : mayA d = true) (hl : d.cs.length < 12) (hid : c.id = (d.cs.getD (d.cs.length - 1) zeroCo).id + 1) (hn : c.nm = ByteArray.empty) (hk : 1 ≤ c.kd ∧ c.kd ≤ 3) : mayA (moreD d c) = true := by
  obtain ⟨⟨n0, n1, c0, c1, hrl⟩, hok⟩ := may_ok h
  have hp := nulls_put hk (List.replicate d.n.toNat zeroV) (by rw [List.length_replicate]; omega) (zeros_null _)
  refine may_P ⟨⟨by simp [moreD], by simp [moreD]; omega⟩, by simp [moreD]; exact hrl⟩ fun i hi => ?_
  have hi2 : i < d.cs.length + 1 := by simpa [moreD] using hi
  by_cases e : i < d.cs.length
  · have h3 := hok i e
    have e1 : (moreD d c).cs.getD i zeroCo = d.cs.getD i zeroCo := gd_left e
    have e2 : (moreD d c).rs.getD i [] = d.rs.getD i [] := gd_left (by omega)
    have e3 : (moreD d c).cs.getD (i - 1) zeroCo = d.cs.getD (i - 1) zeroCo := gd_left (by omega)
    have e4 : badHead (moreD d c).n (moreD d c).cs (d.rs.getD i []) i ↔ badHead d.n d.cs (d.rs.getD i []) i := by
      unfold badHead; rw [e1, e3]; exact Iff.rfl
    unfold okAt at h3 ⊢
    rw [e1, e2, decide_eq_decide.2 e4]
    exact h3
  · have e5 : i = d.cs.length := by omega
    have e1 : (moreD d c).cs.getD i zeroCo = c := gd_last e5
    have e2 : (moreD d c).rs.getD i [] = List.replicate d.n.toNat zeroV := gd_last (by omega)
    have e3 : (moreD d c).cs.getD (i - 1) zeroCo = d.cs.getD (d.cs.length - 1) zeroCo := by rw [e5]; exact gd_left (by omega)
    have h1 := okAt_id (hok (d.cs.length - 1) (by omega))
    unfold okAt
    rw [e2]
    have hb : ¬ badHead (moreD d c).n (moreD d c).cs (List.replicate d.n.toNat zeroV) i := by
      unfold badHead
      rw [e1, e3]
      rintro (x | ⟨_, x⟩ | x | x)
      · omega
      · omega
      · exact x hn
      · apply x
        rw [List.length_replicate]
        exact Int.toNat_of_nonneg n0
    rw [decide_eq_false hb, e1, hp.1]
    rfl
theorem more_len {d : Da} {c : Co} (h : mayA d = true) (hl : d.cs.length < 12) (hk : 1 ≤ c.kd ∧ c.kd ≤ 3) : (fileB (moreD d c)).length ≤ (fileB d).length + 600 := by
  obtain ⟨⟨n0, n1, c0, c1, hrl⟩, hok⟩ := may_ok h
  have hp := (nulls_put hk (List.replicate d.n.toNat zeroV) (by rw [List.length_replicate]; omega) (zeros_null _)).2
  rw [List.length_replicate] at hp
  have e1 : (moreD d c).cs.length = d.cs.length + 1 := by simp [moreD]
  have e2 : colsB (moreD d c).cs (moreD d c).rs = colsB d.cs d.rs ++ colB c (List.replicate d.n.toNat zeroV) := colsB_snoc _ _ _ _ hrl.symm
  have e3 : statsA (moreD d c).cs (moreD d c).rs = statsA d.cs d.rs ++ [ofA c.id (List.replicate d.n.toNat zeroV)] := by
    unfold statsA moreD
    rw [List.zipWith_append (by rw [hrl])]
    rfl
  have h1 := vp_small (d.cs.length + 1) (by omega)
  have h2 := vp_small d.cs.length (by omega)
  have h3 := vp_le c.id.toNat
  have h4 := vp_le (colPut c.kd (List.replicate d.n.toNat zeroV)).1.size
  have h5 : (statB (ofA c.id (List.replicate d.n.toNat zeroV))).length ≤ 12 := by
    rw [of_zeros1]
    unfold statB
    have := vp_le (d.n.toNat : Int).toNat
    have hz : boundB zeroV = [u8 0] := if_pos rfl
    simp only [List.length_append, hz, List.length_singleton]
    omega
  have h6 : (colB c (List.replicate d.n.toNat zeroV)).length ≤ 550 := by
    unfold colB
    simp only [List.length_append, List.length_singleton, ← size_list]
    omega
  unfold fileB
  rw [e1, e2, e3, List.flatMap_append, List.flatMap_singleton]
  have e4 : (moreD d c).n = d.n := rfl
  rw [e4]
  simp only [List.length_append]
  omega
theorem more_stats {d : Da} {c : Co} (h : d.rs.length = d.cs.length) : statsA (moreD d c).cs (moreD d c).rs = statsA d.cs d.rs ++ [⟨c.id, (d.n.toNat : Int), zeroV, zeroV⟩] := by
  unfold statsA moreD
  rw [List.zipWith_append (by rw [h])]
  show _ ++ [ofA c.id (List.replicate d.n.toNat zeroV)] = _
  rw [of_zeros1]
theorem more_big {d : Da} {c : Co} (h : (fileA d).2 = 0) (hl : d.cs.length < 12) (hid : c.id = (d.cs.getD (d.cs.length - 1) zeroCo).id + 1) (hn : c.nm = ByteArray.empty) (hk : 1 ≤ c.kd ∧ c.kd ≤ 3) (hb : (fileA (moreD d c)).2 ≠ 0) : 60000 < (fileA d).1.size := by
  obtain ⟨h1, h2, h3⟩ := file_ok h
  have h4 := more_may h1 hl hid hn hk
  have h5 := more_len h1 hl hk
  rw [h3]
  simp only
  rw [sealB_size, textB_size]
  by_cases c1 : (fileB (moreD d c)).length + 4 ≤ 65536
  · exact absurd (by unfold fileA; rw [if_pos ⟨h4, c1⟩]) hb
  · omega
theorem more_fin {d : Da} {c : Co} (h : FinD d) (hc : c.id ≤ 9223372036854775807) (hn : d.n ≤ 4096) : FinD (moreD d c) := by
  refine ⟨fun x hx => ?_, fun r hr => ?_⟩
  · rcases List.mem_append.1 hx with hx | hx
    · exact h.ids x hx
    · rw [List.mem_singleton.1 hx]; exact hc
  · rcases List.mem_append.1 hr with hr | hr
    · exact h.row r hr
    · rw [List.mem_singleton.1 hr]
      refine ⟨by rw [List.length_replicate]; omega, fun v hv => ?_⟩
      rw [(List.mem_replicate.1 hv).2]
      exact ⟨zero_in, by decide⟩
end Go.Proofs.YtfbmlefhjoblbaaGreat
