/- Schemas, plainly: what the statements ask of changes. No program is spoken of. -/
import Derived.Test.YthfakpekdjmpjaaScm
import Derived.Test.YthfakpekdjmpjaaPmath
import Derived.Lib.ItoaNum
namespace Go.Proofs.Ythfakpekdjmpjaa
open Go.Conc Go.RowKit
set_option linter.unusedVariables false
set_option linter.unusedSimpArgs false

/-! ### One change -/
theorem addA_good {s : Sc} {nm : ByteArray} {k : Int} (h : (addA s nm k).2 = 0) : maySc s = true ∧ maySc (addA s nm k).1 = true ∧ (addA s nm k).1 = ⟨s.id + 1, s.next + 1, s.cs ++ [⟨s.next, nm, k⟩]⟩ := by
  unfold addA at h ⊢
  by_cases hm0 : maySc s = false
  · rw [if_pos hm0] at h; exact absurd h (by decide)
  · rw [if_neg hm0] at h ⊢
    have hm : maySc s = true := by simpa using hm0
    by_cases c1 : nameB nm = false ∨ 0 ≤ findA s.cs nm
    · rw [if_pos c1] at h; exact absurd h (by decide)
    rw [if_neg c1] at h ⊢
    by_cases c2 : kindB k = false
    · rw [if_pos c2] at h; exact absurd h (by decide)
    rw [if_neg c2] at h ⊢
    by_cases c3 : 12 ≤ s.cs.length
    · rw [if_pos c3] at h; exact absurd h (by decide)
    rw [if_neg c3] at h ⊢
    by_cases c4 : 2147483647 ≤ s.id ∨ 2147483647 ≤ s.next
    · rw [if_pos c4] at h; exact absurd h (by decide)
    rw [if_neg c4] at h ⊢
    refine ⟨hm, ?_, rfl⟩
    have := may_add hm (by simpa using fun e => c1 (.inl e)) (by have := fun e => c1 (.inr e); omega) (by simpa using c2) (by omega : s.cs.length < 12)
    rw [this]
    exact decide_eq_true (by omega)
theorem dropA_good {s : Sc} {nm : ByteArray} (h : (dropA s nm).2 = 0) : maySc s = true ∧ maySc (dropA s nm).1 = true ∧ (dropA s nm).1.id = s.id + 1 ∧ (dropA s nm).1.next = s.next := by
  unfold dropA at h ⊢
  by_cases hm0 : maySc s = false
  · rw [if_pos hm0] at h; exact absurd h (by decide)
  · rw [if_neg hm0] at h ⊢
    have hm : maySc s = true := by simpa using hm0
    by_cases c1 : findA s.cs nm < 0
    · rw [if_pos c1] at h; exact absurd h (by decide)
    rw [if_neg c1] at h ⊢
    by_cases c2 : s.cs.length = 1
    · rw [if_pos c2] at h; exact absurd h (by decide)
    rw [if_neg c2] at h ⊢
    by_cases c4 : 2147483647 ≤ s.id
    · rw [if_pos c4] at h; exact absurd h (by decide)
    rw [if_neg c4] at h ⊢
    obtain ⟨hl, _, _⟩ := findA_pos (Int.not_lt.1 c1)
    refine ⟨hm, ?_, rfl, rfl⟩
    rw [may_drop hm hl c2]
    exact decide_eq_true (by omega)
theorem renA_good {s : Sc} {nm to : ByteArray} (h : (renA s nm to).2 = 0) : maySc s = true ∧ maySc (renA s nm to).1 = true ∧ (renA s nm to).1.id = s.id + 1 ∧ (renA s nm to).1.next = s.next ∧
    findN s.cs nm < s.cs.length ∧ findA s.cs nm = (findN s.cs nm : Int) ∧ (renA s nm to).1.cs = s.cs.set (findN s.cs nm) (named (s.cs.getD (findN s.cs nm) zeroCo) to) ∧ findA (renA s nm to).1.cs to = (findN s.cs nm : Int) := by
  unfold renA at h ⊢
  by_cases hm0 : maySc s = false
  · rw [if_pos hm0] at h; exact absurd h (by decide)
  · rw [if_neg hm0] at h ⊢
    have hm : maySc s = true := by simpa using hm0
    by_cases c1 : findA s.cs nm < 0
    · rw [if_pos c1] at h; exact absurd h (by decide)
    rw [if_neg c1] at h ⊢
    by_cases c2 : nameB to = false ∨ (0 ≤ findA s.cs to ∧ findA s.cs to ≠ findA s.cs nm)
    · rw [if_pos c2] at h; exact absurd h (by decide)
    rw [if_neg c2] at h ⊢
    by_cases c4 : 2147483647 ≤ s.id
    · rw [if_pos c4] at h; exact absurd h (by decide)
    rw [if_neg c4] at h ⊢
    obtain ⟨hl, he, hn⟩ := findA_pos (Int.not_lt.1 c1)
    have hmay := may_ren (to := to) hm hl (by simpa using fun e => c2 (.inl e)) (by
      by_cases c5 : findA s.cs to < 0
      · exact .inl c5
      · right
        have : ¬ (0 ≤ findA s.cs to ∧ findA s.cs to ≠ findA s.cs nm) := fun e => c2 (.inr e)
        rw [← he]
        by_cases c6 : findA s.cs to = findA s.cs nm
        · exact c6
        · exact absurd ⟨Int.not_lt.1 c5, c6⟩ this)
    rw [decide_eq_true (by omega : s.id < 2147483647)] at hmay
    rw [getD_in hl]
    refine ⟨hm, hmay, rfl, rfl, hl, he, rfl, ?_⟩
    have hp := ((may_iff _).1 hmay).2.2
    have hi : findN s.cs nm < (s.cs.set (findN s.cs nm) (named s.cs[findN s.cs nm] to)).length := by rw [List.length_set]; exact hl
    have := findA_at hp hi
    simpa [named] using this

/-! ### Names -/
def sc1 (nm : ByteArray) : Sc := ⟨0, 2, [⟨1, nm, 1⟩]⟩
theorem may_sc1 (nm : ByteArray) : maySc (sc1 nm) = nameB nm := by
  rw [Bool.eq_iff_iff, may_iff]
  constructor
  · rintro ⟨_, h, _⟩
    exact ((okCol_iff _ _).1 (h ⟨1, nm, 1⟩ (List.mem_singleton.2 rfl))).2.2.1
  · intro h
    refine ⟨by simp only [sc1, List.length_cons, List.length_nil]; omega, fun c hc => ?_, List.pairwise_singleton _ _⟩
    obtain rfl := List.mem_singleton.1 hc
    exact (okCol_iff _ _).2 ⟨by show (1 : Int) ≤ 1; omega, by show (1 : Int) < 2; omega, h, rfl⟩
theorem new_sc1 (nm : ByteArray) : newA [nm] [1] = if nameB nm = true then (sc1 nm, 0) else (zeroSc, 1200) := by
  unfold newA
  rw [if_neg (by simp)]
  show (if maySc (sc1 nm) = false then _ else (sc1 nm, 0)) = _
  rw [may_sc1]
  cases nameB nm <;> rfl
theorem findN_one (a nm : ByteArray) : findA (sc1 a).cs nm = if a = nm then 0 else -1 := by
  by_cases h : a = nm
  · subst h
    rw [if_pos rfl]
    unfold findA findN sc1
    simp [List.findIdx_cons]
  · rw [if_neg h]
    unfold findA findN sc1
    simp [List.findIdx_cons, h]
theorem add_sc1 (a nm : ByteArray) (ha : nameB a = true) : ((addA (sc1 a) nm 3).2 == 0) = (nameB nm && !decide (nm = a)) := by
  unfold addA
  rw [if_neg (by rw [may_sc1, ha]; decide), findN_one]
  cases hn : nameB nm with
  | false => rw [if_pos (.inl rfl)]; rfl
  | true =>
    by_cases h : a = nm
    · rw [if_pos h, if_pos (.inr (by decide)), decide_eq_true h.symm]; rfl
    · rw [if_neg h, if_neg (by simp), if_neg (by decide), if_neg (by simp [sc1]), if_neg (by simp [sc1]), decide_eq_false (fun e => h e.symm)]; rfl
theorem ren_sc1 (a nm : ByteArray) (ha : nameB a = true) : ((renA (sc1 a) a nm).2 == 0) = nameB nm := by
  unfold renA
  rw [if_neg (by rw [may_sc1, ha]; decide), findN_one, findN_one, if_pos rfl, if_neg (by decide)]
  cases hn : nameB nm with
  | false => rw [if_pos (.inl rfl)]; rfl
  | true =>
    by_cases h : a = nm
    · rw [if_pos h, if_neg (by simp), if_neg (by simp [sc1])]; rfl
    · rw [if_neg h, if_neg (by simp), if_neg (by simp [sc1])]; rfl
/-- So many bytes: one, and as many q behind it. -/
def qList (x : UInt8) : Nat → List UInt8
  | 0 => []
  | k + 1 => x :: List.replicate k 113
theorem qList_length (x : UInt8) (k : Nat) : (qList x k).length = k := by cases k <;> simp [qList]
theorem name_q (x : UInt8) (k : Nat) : nameB (textB (qList x k)) = (decide (1 ≤ k) && (decide (k ≤ 16) && signB x)) := by
  unfold nameB
  rw [textB_size, qList_length, textB_list]
  cases k with
  | zero => rfl
  | succ k =>
    have : (List.replicate k (113 : UInt8)).all signB = true := by
      rw [List.all_eq_true]; intro y hy; rw [(List.mem_replicate.1 hy).2]; decide
    show (_ && (_ && ((x :: List.replicate k 113).all signB))) = _
    rw [List.all_cons, this, Bool.and_true]

theorem pair_eta {α β : Type} (p : α × β) : p = (p.1, p.2) := rfl
theorem names_all (T a : ByteArray) (ha : nameB a = true) : ∃ S1 z1 S2 S3 z3 S4 z4, newA [T] [1] = (S1, z1) ∧ newA [a] [1] = (S2, 0) ∧ addA S2 T 3 = (S3, z3) ∧ renA S2 a T = (S4, z4) ∧ (z1 == 0) = nameB T ∧ maySc S1 = nameB T ∧ (z3 == 0) = (nameB T && !decide (T = a)) ∧ (z4 == 0) = nameB T := by
  refine ⟨(newA [T] [1]).1, (newA [T] [1]).2, sc1 a, (addA (sc1 a) T 3).1, (addA (sc1 a) T 3).2, (renA (sc1 a) a T).1, (renA (sc1 a) a T).2, pair_eta _, ?_, pair_eta _, pair_eta _, ?_, ?_, add_sc1 a T ha, ren_sc1 a T ha⟩
  · rw [new_sc1, if_pos ha]
  · rw [new_sc1]
    cases h : nameB T
    · rw [if_neg (by decide)]; kernel_rfl
    · rw [if_pos rfl]; kernel_rfl
  · rw [new_sc1]
    cases h : nameB T
    · rw [if_neg (by decide)]; kernel_rfl
    · rw [if_pos rfl]; rw [may_sc1, h]

/-! ### As many columns as there may be -/
def cText (i : Nat) : ByteArray := if i < 10 then ⟨#[99, UInt8.ofNat (48 + i)]⟩ else ⟨#[99, 49, UInt8.ofNat (38 + i)]⟩
def fullN (k : Int) (n : Nat) : Sc := ⟨(n : Int) - 1, (n : Int) + 1, (List.range n).map fun (i : Nat) => ⟨(i : Int) + 1, cText i, if i = 0 then 1 else k⟩⟩
theorem c_text : (List.range 12).all (fun i => decide ((⟨#[99]⟩ : ByteArray) ++ ⟨(Lib.itoa (i : Int)).toArray⟩ = cText i)) = true := by kernel_rfl
theorem c_text_at {i : Nat} (h : i < 12) : (⟨#[99]⟩ : ByteArray) ++ ⟨(Lib.itoa (i : Int)).toArray⟩ = cText i := of_decide_eq_true (List.all_eq_true.1 c_text i (List.mem_range.2 h))
instance instDecSc : DecidableEq Sc := fun a b => if h : a.id = b.id ∧ a.next = b.next ∧ a.cs = b.cs then isTrue (by cases a; cases b; simp only at h; obtain ⟨rfl, rfl, rfl⟩ := h; rfl) else isFalse fun e => h (by rw [e]; exact ⟨rfl, rfl, rfl⟩)
def chkAdd (k : Int) (n : Nat) : Bool := decide (n = 0) || (decide ((addA (fullN k n) (cText n) k).1 = fullN k (n + 1)) && decide ((addA (fullN k n) (cText n) k).2 = 0))
def chkEnd (k : Int) : Bool := (decide ((newA [cText 0] [1]).1 = fullN k 1) && decide ((newA [cText 0] [1]).2 = 0)) && (decide ((dropA (fullN k 1) (cText 0)).2 = 1203) && (decide ((addA (fullN k 12) ⟨#[109, 111, 114, 101]⟩ 1).2 = 1203) && decide ((addA (fullN k 12) ⟨#[120]⟩ 0).2 = 1200)))
def dropF (k : Int) (j : Nat) : Sc := (dropA (fullN k 12) (cText j)).1
def backF (k : Int) (j : Nat) : Sc := (addA (dropF k j) (cText j) 2).1
def chkBack (k : Int) (j : Nat) : Bool := decide ((dropA (fullN k 12) (cText j)).2 = 0) && (decide ((addA (dropF k j) (cText j) 2).2 = 0) && (decide (findA (backF k j).cs (cText j) = 11) && (decide ((backF k j).cs.length = 12) && decide (((backF k j).cs.getD 11 zeroCo).id = 13))))
theorem chk_add : [1, 2, 3].all (fun k => (List.range 12).all (chkAdd k)) = true := by kernel_rfl
theorem chk_end : [1, 2, 3].all chkEnd = true := by kernel_rfl
theorem chk_back : [1, 2, 3].all (fun k => (List.range 12).all (chkBack k)) = true := by kernel_rfl
theorem mem123 {k : Int} (h : 1 ≤ k ∧ k ≤ 3) : k ∈ ([1, 2, 3] : List Int) := by
  rcases (show k = 1 ∨ k = 2 ∨ k = 3 by omega) with rfl | rfl | rfl <;> simp
theorem full_add {k : Int} (hk : 1 ≤ k ∧ k ≤ 3) {n : Nat} (h0 : 0 < n) (hn : n < 12) : addA (fullN k n) (cText n) k = (fullN k (n + 1), 0) := by
  have h := List.all_eq_true.1 (List.all_eq_true.1 chk_add k (mem123 hk)) n (List.mem_range.2 hn)
  unfold chkAdd at h
  rw [decide_eq_false (by omega : ¬ n = 0), Bool.false_or, Bool.and_eq_true, decide_eq_true_eq, decide_eq_true_eq] at h
  exact Prod.ext h.1 h.2
theorem full_end {k : Int} (hk : 1 ≤ k ∧ k ≤ 3) : newA [cText 0] [1] = (fullN k 1, 0) ∧ (dropA (fullN k 1) (cText 0)).2 = 1203 ∧ (addA (fullN k 12) ⟨#[109, 111, 114, 101]⟩ 1).2 = 1203 ∧ (addA (fullN k 12) ⟨#[120]⟩ 0).2 = 1200 := by
  have h := List.all_eq_true.1 chk_end k (mem123 hk)
  unfold chkEnd at h
  simp only [Bool.and_eq_true, decide_eq_true_eq] at h
  exact ⟨Prod.ext h.1.1 h.1.2, h.2.1, h.2.2.1, h.2.2.2⟩
theorem full_back {k : Int} (hk : 1 ≤ k ∧ k ≤ 3) {j : Nat} (hj : j < 12) : (dropA (fullN k 12) (cText j)).2 = 0 ∧ (addA (dropF k j) (cText j) 2).2 = 0 ∧ findA (backF k j).cs (cText j) = 11 ∧ (backF k j).cs.length = 12 ∧ ((backF k j).cs.getD 11 zeroCo).id = 13 := by
  have h := List.all_eq_true.1 (List.all_eq_true.1 chk_back k (mem123 hk)) j (List.mem_range.2 hj)
  unfold chkBack at h
  simp only [Bool.and_eq_true, decide_eq_true_eq] at h
  exact h
end Go.Proofs.Ythfakpekdjmpjaa
