/- Schemas, plainly: which may be, and what a change makes of one. No program is spoken of. -/
import Derived.Test.YthfakpekdjmpjaaColL
namespace Go.Proofs.Ythfakpekdjmpjaa
open Go.Conc Go.RowKit
set_option linter.unusedVariables false
set_option linter.unusedSimpArgs false

structure Sc where
  id : Int
  next : Int
  cs : List Co
def zeroSc : Sc := ⟨0, 0, []⟩
def signB (b : UInt8) : Bool := (decide (97 ≤ b.toNat) && decide (b.toNat ≤ 122)) || ((decide (48 ≤ b.toNat) && decide (b.toNat ≤ 57)) || decide (b.toNat = 95))
def nameB (s : ByteArray) : Bool := decide (1 ≤ s.size) && (decide (s.size ≤ 16) && s.data.toList.all signB)
def kindB (k : Int) : Bool := decide (1 ≤ k ∧ k ≤ 3)
/-- Unlike columns. -/
def Unl (a b : Co) : Prop := a.id ≠ b.id ∧ a.nm ≠ b.nm
instance instDecUnl (a b : Co) : Decidable (Unl a b) := by unfold Unl; exact inferInstance
def okCol (next : Int) (c : Co) : Bool := decide (1 ≤ c.id) && (decide (c.id < next) && (nameB c.nm && kindB c.kd))
def okAtS (next : Int) (cs : List Co) (i : Nat) : Bool := okCol next (cs.getD i zeroCo) && (cs.take i).all fun o => decide (Unl o (cs.getD i zeroCo))
def bndSc (s : Sc) : Bool := decide (0 ≤ s.id ∧ s.id ≤ 2147483647 ∧ s.next ≤ 2147483647 ∧ 1 ≤ s.cs.length ∧ s.cs.length ≤ 12)
def maySc (s : Sc) : Bool := bndSc s && (List.range s.cs.length).all (okAtS s.next s.cs)
def findN (cs : List Co) (nm : ByteArray) : Nat := cs.findIdx (fun c => decide (c.nm = nm))
def findA (cs : List Co) (nm : ByteArray) : Int := if findN cs nm < cs.length then (findN cs nm : Int) else -1
def addA (s : Sc) (nm : ByteArray) (k : Int) : Sc × Int :=
  if maySc s = false then (zeroSc, 1200) else if nameB nm = false ∨ 0 ≤ findA s.cs nm then (zeroSc, 1201) else if kindB k = false then (zeroSc, 1200) else if 12 ≤ s.cs.length then (zeroSc, 1203) else if 2147483647 ≤ s.id ∨ 2147483647 ≤ s.next then (zeroSc, 1200) else (⟨s.id + 1, s.next + 1, s.cs ++ [⟨s.next, nm, k⟩]⟩, 0)
def dropA (s : Sc) (nm : ByteArray) : Sc × Int :=
  if maySc s = false then (zeroSc, 1200) else if findA s.cs nm < 0 then (zeroSc, 1202) else if s.cs.length = 1 then (zeroSc, 1203) else if 2147483647 ≤ s.id then (zeroSc, 1200) else (⟨s.id + 1, s.next, s.cs.eraseIdx (findN s.cs nm)⟩, 0)
def named (c : Co) (to : ByteArray) : Co := ⟨c.id, to, c.kd⟩
def renA (s : Sc) (nm to : ByteArray) : Sc × Int :=
  if maySc s = false then (zeroSc, 1200) else if findA s.cs nm < 0 then (zeroSc, 1202) else if nameB to = false ∨ (0 ≤ findA s.cs to ∧ findA s.cs to ≠ findA s.cs nm) then (zeroSc, 1201) else if 2147483647 ≤ s.id then (zeroSc, 1200) else (⟨s.id + 1, s.next, s.cs.set (findN s.cs nm) (named (s.cs.getD (findN s.cs nm) zeroCo) to)⟩, 0)
def newCols (i : Nat) : List ByteArray → List Int → List Co
  | nm :: ns, k :: ks => ⟨(i : Int), nm, k⟩ :: newCols (i + 1) ns ks
  | _, _ => []
def newA (ns : List ByteArray) (ks : List Int) : Sc × Int :=
  if ns.length ≠ ks.length then (zeroSc, 1200) else if maySc ⟨0, (ns.length : Int) + 1, newCols 1 ns ks⟩ = false then (zeroSc, 1200) else (⟨0, (ns.length : Int) + 1, newCols 1 ns ks⟩, 0)

theorem may_iff (s : Sc) : maySc s = true ↔ (0 ≤ s.id ∧ s.id ≤ 2147483647 ∧ s.next ≤ 2147483647 ∧ 1 ≤ s.cs.length ∧ s.cs.length ≤ 12) ∧ (∀ c ∈ s.cs, okCol s.next c = true) ∧ s.cs.Pairwise Unl := by
  unfold maySc bndSc
  rw [Bool.and_eq_true, decide_eq_true_eq, List.all_eq_true]
  refine and_congr_right fun _ => ⟨fun h => ⟨fun c hc => ?_, List.pairwise_iff_getElem.2 fun i j hi hj hij => ?_⟩, fun ⟨h1, h2⟩ i hi => ?_⟩
  · obtain ⟨i, hi, rfl⟩ := List.getElem_of_mem hc
    have := h i (List.mem_range.2 hi)
    unfold okAtS at this
    rw [Bool.and_eq_true, getD_in hi] at this
    exact this.1
  · have := h j (List.mem_range.2 hj)
    unfold okAtS at this
    rw [Bool.and_eq_true, getD_in hj, List.all_eq_true] at this
    have h3 := this.2 s.cs[i] (List.mem_take_iff_getElem.2 ⟨i, by omega, rfl⟩)
    simpa using h3
  · have hi' := List.mem_range.1 hi
    unfold okAtS
    rw [Bool.and_eq_true, getD_in hi', List.all_eq_true]
    refine ⟨h1 _ (List.getElem_mem hi'), fun o ho => ?_⟩
    obtain ⟨k, hk, rfl⟩ := List.mem_take_iff_getElem.1 ho
    exact decide_eq_true (List.pairwise_iff_getElem.1 h2 k i (by omega) hi' (by omega))
theorem okCol_iff (next : Int) (c : Co) : okCol next c = true ↔ 1 ≤ c.id ∧ c.id < next ∧ nameB c.nm = true ∧ kindB c.kd = true := by
  unfold okCol; simp only [Bool.and_eq_true, decide_eq_true_eq]
theorem findN_le (cs : List Co) (nm : ByteArray) : findN cs nm ≤ cs.length := List.findIdx_le_length
theorem findA_neg {cs : List Co} {nm : ByteArray} : findA cs nm < 0 ↔ ∀ c ∈ cs, c.nm ≠ nm := by
  unfold findA
  have h : findN cs nm < cs.length ↔ ∃ c ∈ cs, decide (c.nm = nm) = true := List.findIdx_lt_length
  by_cases e : findN cs nm < cs.length
  · rw [if_pos e]
    obtain ⟨c, hc, hn⟩ := h.1 e
    exact ⟨fun hh => absurd hh (by omega), fun hh => absurd (of_decide_eq_true hn) (hh c hc)⟩
  · rw [if_neg e]
    refine ⟨fun _ c hc hn => e (h.2 ⟨c, hc, decide_eq_true hn⟩), fun _ => by decide⟩
theorem findA_pos {cs : List Co} {nm : ByteArray} (h : 0 ≤ findA cs nm) : ∃ hl : findN cs nm < cs.length, findA cs nm = (findN cs nm : Int) ∧ (cs[findN cs nm]).nm = nm := by
  unfold findA at h ⊢
  by_cases e : findN cs nm < cs.length
  · rw [if_pos e]
    refine ⟨e, rfl, ?_⟩
    have := List.findIdx_getElem (w := e)
    exact of_decide_eq_true this
  · rw [if_neg e] at h; exact absurd h (by decide)
theorem findA_at {cs : List Co} (hp : cs.Pairwise Unl) {i : Nat} (hi : i < cs.length) : findA cs cs[i].nm = (i : Int) := by
  have h0 : 0 ≤ findA cs cs[i].nm := Int.not_lt.1 fun h => findA_neg.1 h _ (List.getElem_mem hi) rfl
  obtain ⟨hl, h1, h2⟩ := findA_pos h0
  rw [h1]
  rcases Nat.lt_trichotomy (findN cs cs[i].nm) i with h | h | h
  · exact absurd h2 (List.pairwise_iff_getElem.1 hp _ _ hl hi h).2
  · rw [h]
  · exact absurd h2.symm (List.pairwise_iff_getElem.1 hp _ _ hi hl h).2
theorem next_pos {s : Sc} (h : maySc s = true) : 2 ≤ s.next := by
  obtain ⟨⟨_, _, _, h1, _⟩, h2, _⟩ := (may_iff s).1 h
  have := (okCol_iff _ _).1 (h2 _ (List.getElem_mem (show 0 < s.cs.length by omega)))
  omega
theorem unl_symm {a b : Co} (h : Unl a b) : Unl b a := ⟨fun e => h.1 e.symm, fun e => h.2 e.symm⟩
theorem may_add {s : Sc} {nm : ByteArray} {k : Int} (h : maySc s = true) (hn : nameB nm = true) (hf : findA s.cs nm < 0) (hk : kindB k = true) (hl : s.cs.length < 12) :
    maySc ⟨s.id + 1, s.next + 1, s.cs ++ [⟨s.next, nm, k⟩]⟩ = decide (s.id < 2147483647 ∧ s.next < 2147483647) := by
  have hp := next_pos h
  obtain ⟨⟨h1, h2, h3, h4, h5⟩, h6, h7⟩ := (may_iff s).1 h
  rw [Bool.eq_iff_iff, may_iff, decide_eq_true_eq]
  simp only [List.length_append, List.length_cons, List.length_nil]
  constructor
  · rintro ⟨⟨_, a, b, _, _⟩, _⟩; omega
  · rintro ⟨a, b⟩
    refine ⟨by omega, fun c hc => ?_, ?_⟩
    · rcases List.mem_append.1 hc with hc | hc
      · have := (okCol_iff _ _).1 (h6 c hc)
        exact (okCol_iff _ _).2 ⟨this.1, by omega, this.2.2⟩
      · rw [List.mem_singleton.1 hc]
        exact (okCol_iff _ _).2 ⟨by simp only; omega, by simp only; omega, hn, hk⟩
    · refine List.pairwise_append.2 ⟨h7, List.pairwise_singleton _ _, fun x hx y hy => ?_⟩
      rw [List.mem_singleton.1 hy]
      have := (okCol_iff _ _).1 (h6 x hx)
      exact ⟨by simp only; omega, findA_neg.1 hf x hx⟩
theorem may_drop {s : Sc} {i : Nat} (h : maySc s = true) (hi : i < s.cs.length) (hl : s.cs.length ≠ 1) : maySc ⟨s.id + 1, s.next, s.cs.eraseIdx i⟩ = decide (s.id < 2147483647) := by
  obtain ⟨⟨h1, h2, h3, h4, h5⟩, h6, h7⟩ := (may_iff s).1 h
  rw [Bool.eq_iff_iff, may_iff, decide_eq_true_eq]
  simp only [List.length_eraseIdx, if_pos hi]
  constructor
  · rintro ⟨⟨_, a, _⟩, _⟩; omega
  · intro a
    exact ⟨by omega, fun c hc => h6 c (List.mem_of_mem_eraseIdx hc), h7.sublist (List.eraseIdx_sublist _ _)⟩
theorem may_ren {s : Sc} {i : Nat} {to : ByteArray} (h : maySc s = true) (hi : i < s.cs.length) (hn : nameB to = true) (hf : findA s.cs to < 0 ∨ findA s.cs to = (i : Int)) : maySc ⟨s.id + 1, s.next, s.cs.set i (named s.cs[i] to)⟩ = decide (s.id < 2147483647) := by
  obtain ⟨⟨h1, h2, h3, h4, h5⟩, h6, h7⟩ := (may_iff s).1 h
  have hu : ∀ j (hj : j < s.cs.length), j ≠ i → s.cs[j].nm ≠ to := fun j hj hne e => by
    rcases hf with hf | hf
    · exact findA_neg.1 hf _ (List.getElem_mem hj) e
    · rw [← e, findA_at h7 hj] at hf; omega
  rw [Bool.eq_iff_iff, may_iff, decide_eq_true_eq]
  simp only [List.length_set]
  constructor
  · rintro ⟨⟨_, a, _⟩, _⟩; omega
  · intro a
    refine ⟨by omega, fun c hc => ?_, List.pairwise_iff_getElem.2 fun j k hj hk hjk => ?_⟩
    · rcases List.mem_or_eq_of_mem_set hc with hc | rfl
      · exact h6 c hc
      · have := (okCol_iff _ _).1 (h6 _ (List.getElem_mem hi))
        exact (okCol_iff _ _).2 ⟨this.1, this.2.1, hn, this.2.2.2⟩
    · simp only [List.length_set] at hj hk
      have hjk2 := List.pairwise_iff_getElem.1 h7 j k hj hk hjk
      simp only [List.getElem_set]
      by_cases e1 : i = j
      · subst e1
        rw [if_pos rfl, if_neg (by omega)]
        exact ⟨hjk2.1, fun e => hu k hk (by omega) e.symm⟩
      · rw [if_neg e1]
        by_cases e2 : i = k
        · subst e2
          rw [if_pos rfl]
          exact ⟨hjk2.1, hu j hj (by omega)⟩
        · rw [if_neg e2]; exact hjk2
theorem newCols_length (ns : List ByteArray) : ∀ (i : Nat) (ks : List Int), ns.length = ks.length → (newCols i ns ks).length = ns.length := by
  induction ns with
  | nil => intro i ks h; cases ks <;> rfl
  | cons n ns ih =>
    intro i ks h
    cases ks with
    | nil => simp at h
    | cons k ks => simp [newCols, ih (i + 1) ks (by simpa using h)]
theorem newCols_get (ns : List ByteArray) : ∀ (i : Nat) (ks : List Int) (j : Nat) (h1 : j < ns.length) (h2 : j < ks.length) (h3 : j < (newCols i ns ks).length), (newCols i ns ks)[j] = ⟨((i + j : Nat) : Int), ns[j], ks[j]⟩ := by
  induction ns with
  | nil => intro i ks j h1; simp at h1
  | cons n ns ih =>
    intro i ks j h1 h2 h3
    cases ks with
    | nil => simp at h2
    | cons k ks =>
      cases j with
      | zero => rfl
      | succ j =>
        simp only [newCols, List.getElem_cons_succ]
        rw [ih (i + 1) ks j (by simpa using h1) (by simpa using h2)]
        rw [show i + 1 + j = i + (j + 1) by omega]
end Go.Proofs.Ythfakpekdjmpjaa
