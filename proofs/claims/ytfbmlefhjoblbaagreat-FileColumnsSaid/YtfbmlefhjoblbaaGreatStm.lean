/- Statistics of a column: the least and the greatest of values, put together. No memory is spoken of. -/
import Derived.Test.YtfbmlefhjoblbaaGreatLess
import Derived.Test.YtfbmlefhjoblbaaGreatValL
namespace Go.Proofs.YtfbmlefhjoblbaaGreat
open Go.Conc Go.RowKit
set_option linter.unusedVariables false
set_option linter.unusedSimpArgs false

theorem kind_plain (v : V) : kindV (plainV v) = kindV v := by
  have h := plainV_kind v
  have h2 := kindV_range v
  rw [kindV_in (by omega), h]
theorem kind_zero_plain {v : V} (h : kindV v = 0) : plainV v = zeroV :=
  plainV_null (fun e => by rw [kind_one.2 e] at h; omega) (fun e => by rw [kind_two.2 e] at h; omega) (fun e => by rw [kind_three.2 e] at h; omega)
theorem kind_zeroV : kindV zeroV = 0 := rfl
theorem plain_zeroV : plainV zeroV = zeroV := rfl
theorem plain_null_iff (v : V) : plainV v = zeroV ↔ kindV v = 0 := by
  constructor
  · intro h
    have := plainV_kind v
    rw [h] at this
    exact this.symm
  · exact kind_zero_plain
theorem ord_pl (a b : V) : (ordV (plainV a) b < 0) = (ordV a b < 0) := by
  rw [ord_plain, ord_plain, plainV_twice]
theorem ord_pr (a b : V) : (ordV a (plainV b) < 0) = (ordV a b < 0) := by
  rw [ord_plain, ord_plain, plainV_twice]
theorem ord_pos (a b : V) : 0 < ordV a b ↔ ordV b a < 0 := by
  have h0 : ordV a b = 0 ↔ ¬ ordV a b < 0 ∧ ¬ ordV b a < 0 := (ordV_zero a b).trans (ord_same a b)
  have h1 := ord_asym b a
  omega
theorem ord_null_r {a b : V} (h : kindV b = 0) : ¬ ordV a b < 0 := by
  rw [ord_lt_iff]
  have := kindV_range a
  rintro (h2 | ⟨h2, h3⟩) <;> omega
theorem ord_null_l {a b : V} (h : kindV a = 0) : ordV a b < 0 ↔ kindV b ≠ 0 := by
  rw [ord_lt_iff]
  have := kindV_range b
  constructor
  · rintro (h2 | ⟨h2, h3⟩) <;> omega
  · intro h2; left; omega

/-- The lesser, the greater of two bounds. -/
def lessA (a b : V) : V := if kindV a = 0 ∨ (kindV b ≠ 0 ∧ ordV b a < 0) then b else a
def moreA (a b : V) : V := if ordV a b < 0 then b else a
/-- A value as a bound. -/
def bnd (v : V) : V := if kindV v = 0 then zeroV else v
theorem bnd_null {v : V} (h : kindV v = 0) : bnd v = zeroV := by unfold bnd; rw [if_pos h]
theorem bnd_some {v : V} (h : kindV v ≠ 0) : bnd v = v := by unfold bnd; rw [if_neg h]
theorem kind_bnd (v : V) : kindV (bnd v) = kindV v := by
  by_cases h : kindV v = 0
  · rw [bnd_null h, h]; rfl
  · rw [bnd_some h]
theorem bnd_size (v : V) : (bnd v).s.size ≤ v.s.size := by
  unfold bnd; split
  · exact Nat.zero_le _
  · exact Nat.le_refl _
def leastA (vs : List V) : V := vs.foldl (fun m v => lessA m (bnd v)) zeroV
def mostA (vs : List V) : V := vs.foldl (fun m v => moreA m (bnd v)) zeroV
def nullsA (vs : List V) : Nat := vs.foldl (fun n v => if kindV v = 0 then n + 1 else n) 0
theorem leastA_snoc (vs : List V) (v : V) : leastA (vs ++ [v]) = lessA (leastA vs) (bnd v) := by simp [leastA]
theorem mostA_snoc (vs : List V) (v : V) : mostA (vs ++ [v]) = moreA (mostA vs) (bnd v) := by simp [mostA]
theorem nullsA_snoc (vs : List V) (v : V) : nullsA (vs ++ [v]) = if kindV v = 0 then nullsA vs + 1 else nullsA vs := by simp [nullsA]
theorem nullsA_le (vs : List V) : nullsA vs ≤ vs.length := by
  induction vs using snoc_ind with
  | h0 => exact Nat.le_refl _
  | h1 vs v ih => rw [nullsA_snoc, List.length_append]; simp only [List.length_singleton]; split <;> omega
theorem nullsA_append (a b : List V) : nullsA (a ++ b) = nullsA a + nullsA b := by
  induction b using snoc_ind with
  | h0 => simp [nullsA]
  | h1 b v ih => rw [← List.append_assoc, nullsA_snoc, nullsA_snoc, ih]; split <;> omega

/-- What the document does, a value after the other. -/
def lessR (m v : V) : V := if kindV m = 0 ∨ ordV (plainV v) m < 0 then plainV v else m
def moreR (m v : V) : V := if kindV m = 0 ∨ 0 < ordV (plainV v) m then plainV v else m
theorem less_ref {v : V} (m : V) (h : kindV v ≠ 0) : plainV (lessA m (bnd v)) = lessR (plainV m) v := by
  unfold lessA lessR
  rw [bnd_some h, kind_plain]
  simp only [ord_pl, ord_pr]
  by_cases c : kindV m = 0 ∨ ordV v m < 0
  · rw [if_pos c, if_pos (c.elim .inl fun c => .inr ⟨h, c⟩)]
  · rw [if_neg c, if_neg fun c2 => c (c2.elim .inl fun c3 => .inr c3.2)]
theorem more_ref {v : V} (m : V) (h : kindV v ≠ 0) : plainV (moreA m (bnd v)) = moreR (plainV m) v := by
  unfold moreA moreR
  rw [bnd_some h, kind_plain]
  simp only [ord_pos, ord_pl, ord_pr]
  by_cases c : kindV m = 0
  · rw [if_pos ((ord_null_l c).2 h), if_pos (.inl c)]
  · by_cases c2 : ordV m v < 0
    · rw [if_pos c2, if_pos (.inr c2)]
    · rw [if_neg c2, if_neg (by rintro (x | x); exact c x; exact c2 x)]
theorem less_none {v : V} (m : V) (h : kindV v = 0) : plainV (lessA m (bnd v)) = plainV m := by
  unfold lessA
  rw [bnd_null h]
  by_cases c : kindV m = 0
  · rw [if_pos (.inl c), kind_zero_plain c]; rfl
  · rw [if_neg]
    rintro (x | ⟨x, _⟩)
    · exact c x
    · exact x kind_zeroV
theorem more_none {v : V} (m : V) (h : kindV v = 0) : moreA m (bnd v) = m := by
  unfold moreA
  rw [bnd_null h, if_neg (ord_null_r kind_zeroV)]

/-- Of plain values the lesser is the lesser's plain one. -/
theorem less_plain (a b : V) : plainV (lessA a b) = lessA (plainV a) (plainV b) := by
  unfold lessA
  rw [kind_plain, kind_plain]
  simp only [ord_pl, ord_pr]
  split <;> rfl
theorem more_plain (a b : V) : plainV (moreA a b) = moreA (plainV a) (plainV b) := by
  unfold moreA
  simp only [ord_pl, ord_pr]
  split <;> rfl
theorem pick_assoc {lt : V → V → Prop} [∀ a b, Decidable (lt a b)] (a b c : V) (h1 : lt c b → lt b a → lt c a) (h2 : lt c a → lt a b → lt c b) (h3 : ¬ lt b a → ¬ lt a b → a = b) :
    (if lt c (if lt b a then b else a) then c else (if lt b a then b else a)) = (if lt (if lt c b then c else b) a then (if lt c b then c else b) else a) := by
  by_cases x : lt b a
  · rw [if_pos x]
    by_cases y : lt c b
    · rw [if_pos y, if_pos (h1 y x)]
    · rw [if_neg y, if_pos x]
  · rw [if_neg x]
    by_cases y : lt c b
    · rw [if_pos y]
    · rw [if_neg y, if_neg x, if_neg]
      intro z
      by_cases t : lt a b
      · exact y (h2 z t)
      · rw [h3 x t] at z; exact y z
/-- Is a bound less than another, null behind all? -/
def LtA (b a : V) : Prop := kindV b ≠ 0 ∧ (kindV a = 0 ∨ ordV b a < 0)
instance instLtA (a b : V) : Decidable (LtA a b) := by unfold LtA; exact inferInstance
theorem lessA_pick {a b : V} (ha : plainV a = a) (hb : plainV b = b) : lessA a b = if LtA b a then b else a := by
  by_cases c : LtA b a
  · rw [if_pos c]
    unfold lessA
    rw [if_pos (c.2.elim .inl fun h => .inr ⟨c.1, h⟩)]
  · rw [if_neg c]
    unfold lessA
    split
    · rename_i h
      rcases h with h | h
      · have d : kindV b = 0 := by
          by_cases d : kindV b = 0
          · exact d
          · exact absurd ⟨d, .inl h⟩ c
        rw [← ha, ← hb, kind_zero_plain h, kind_zero_plain d]
      · exact absurd ⟨h.1, .inr h.2⟩ c
    · rfl
theorem less_assoc {a b c : V} (ha : plainV a = a) (hb : plainV b = b) (hc : plainV c = c) : lessA (lessA a b) c = lessA a (lessA b c) := by
  have p1 : plainV (lessA a b) = lessA a b := by rw [less_plain, ha, hb]
  have p2 : plainV (lessA b c) = lessA b c := by rw [less_plain, hb, hc]
  rw [lessA_pick p1 hc, lessA_pick ha p2, lessA_pick ha hb, lessA_pick hb hc]
  refine pick_assoc (lt := LtA) a b c ?_ ?_ ?_
  · rintro ⟨h1, h2⟩ ⟨h3, h4⟩
    refine ⟨h1, ?_⟩
    rcases h4 with h4 | h4
    · exact .inl h4
    · rcases h2 with h2 | h2
      · exact absurd h2 h3
      · exact .inr (ord_trans _ _ _ h2 h4)
  · rintro ⟨h1, h2⟩ ⟨h3, h4⟩
    refine ⟨h1, ?_⟩
    rcases h4 with h4 | h4
    · exact .inl h4
    · rcases h2 with h2 | h2
      · exact absurd h2 h3
      · exact .inr (ord_trans _ _ _ h2 h4)
  · intro h1 h2
    unfold LtA at h1 h2
    by_cases ka : kindV a = 0
    · by_cases kb : kindV b = 0
      · rw [← ha, ← hb, kind_zero_plain ka, kind_zero_plain kb]
      · exact absurd ⟨kb, .inl ka⟩ h1
    · by_cases kb : kindV b = 0
      · exact absurd ⟨ka, .inl kb⟩ h2
      · rw [← ha, ← hb]
        exact (ord_same a b).2 ⟨fun h => h2 ⟨ka, .inr h⟩, fun h => h1 ⟨kb, .inr h⟩⟩
theorem more_assoc {a b c : V} (ha : plainV a = a) (hb : plainV b = b) (hc : plainV c = c) : moreA (moreA a b) c = moreA a (moreA b c) := by
  unfold moreA
  refine pick_assoc (lt := fun x y => ordV y x < 0) a b c ?_ ?_ ?_
  · intro h1 h2; exact ord_trans _ _ _ h2 h1
  · intro h1 h2; exact ord_trans _ _ _ h2 h1
  · intro h1 h2
    rw [← ha, ← hb]
    exact (ord_same a b).2 ⟨h1, h2⟩
theorem least_append (a b : List V) : plainV (leastA (a ++ b)) = lessA (plainV (leastA a)) (plainV (leastA b)) := by
  induction b using snoc_ind with
  | h0 =>
    rw [List.append_nil]
    show _ = lessA _ zeroV
    unfold lessA
    split
    · rename_i h
      rcases h with h | ⟨h, _⟩
      · rw [kind_plain] at h; exact kind_zero_plain h
      · exact absurd kind_zeroV h
    · rfl
  | h1 b v ih =>
    rw [← List.append_assoc, leastA_snoc, leastA_snoc, less_plain, less_plain, ih]
    exact less_assoc (plainV_twice _) (plainV_twice _) (plainV_twice _)
theorem most_append (a b : List V) : plainV (mostA (a ++ b)) = moreA (plainV (mostA a)) (plainV (mostA b)) := by
  induction b using snoc_ind with
  | h0 =>
    rw [List.append_nil]
    show _ = moreA _ zeroV
    unfold moreA
    rw [if_neg (ord_null_r kind_zeroV)]
  | h1 b v ih =>
    rw [← List.append_assoc, mostA_snoc, mostA_snoc, more_plain, more_plain, ih]
    exact more_assoc (plainV_twice _) (plainV_twice _) (plainV_twice _)
/-- Each value lies between the bounds. -/
theorem least_low (vs : List V) : ∀ x ∈ vs, kindV x ≠ 0 → kindV (leastA vs) ≠ 0 ∧ ¬ ordV x (leastA vs) < 0 := by
  induction vs using snoc_ind with
  | h0 => intro x hx; simp at hx
  | h1 vs v ih =>
    intro x hx hk
    rw [leastA_snoc]
    generalize leastA vs = m at *
    unfold lessA
    rw [kind_bnd]
    rcases List.mem_append.1 hx with hx | hx
    · obtain ⟨h1, h2⟩ := ih x hx hk
      split
      · rename_i h
        rcases h with h | ⟨h3, h4⟩
        · exact absurd h h1
        · rw [bnd_some h3] at h4 ⊢
          exact ⟨h3, fun h5 => h2 (ord_trans _ _ _ h5 h4)⟩
      · exact ⟨h1, h2⟩
    · have hxv : x = v := by simpa using hx
      subst hxv
      rw [bnd_some hk]
      split
      · exact ⟨hk, ord_refl x⟩
      · rename_i h
        exact ⟨fun e => h (.inl e), fun e => h (.inr ⟨hk, e⟩)⟩
theorem most_high (vs : List V) : ∀ x ∈ vs, kindV x ≠ 0 → ¬ ordV (mostA vs) x < 0 := by
  induction vs using snoc_ind with
  | h0 => intro x hx; simp at hx
  | h1 vs v ih =>
    intro x hx hk
    rw [mostA_snoc]
    generalize mostA vs = m at *
    unfold moreA
    rcases List.mem_append.1 hx with hx | hx
    · have h2 := ih x hx hk
      split
      · rename_i h
        exact fun h5 => h2 (ord_trans _ _ _ h h5)
      · exact h2
    · have hxv : x = v := by simpa using hx
      subst hxv
      rw [bnd_some hk]
      split
      · exact ord_refl x
      · assumption
theorem lessA_size {N : Nat} {a b : V} (ha : a.s.size ≤ N) (hb : b.s.size ≤ N) : (lessA a b).s.size ≤ N := by unfold lessA; split <;> assumption
theorem moreA_size {N : Nat} {a b : V} (ha : a.s.size ≤ N) (hb : b.s.size ≤ N) : (moreA a b).s.size ≤ N := by unfold moreA; split <;> assumption
theorem least_size {N : Nat} (vs : List V) : (∀ v ∈ vs, v.s.size ≤ N) → (leastA vs).s.size ≤ N := by
  induction vs using snoc_ind with
  | h0 => intro _; exact Nat.zero_le _
  | h1 vs v ih =>
    intro h
    rw [leastA_snoc]
    exact lessA_size (ih fun x hx => h x (by simp [hx])) (Nat.le_trans (bnd_size v) (h v (by simp)))
theorem most_size {N : Nat} (vs : List V) : (∀ v ∈ vs, v.s.size ≤ N) → (mostA vs).s.size ≤ N := by
  induction vs using snoc_ind with
  | h0 => intro _; exact Nat.zero_le _
  | h1 vs v ih =>
    intro h
    rw [mostA_snoc]
    exact moreA_size (ih fun x hx => h x (by simp [hx])) (Nat.le_trans (bnd_size v) (h v (by simp)))

/-- Statistics. -/
structure S where
  c : Int
  n : Int
  lo : V
  hi : V
/-- What Of answers; what Join does. -/
def ofA (c : Int) (vs : List V) : S := ⟨c, nullsA vs, plainV (leastA vs), plainV (mostA vs)⟩
def joinS (a b : S) : S := ⟨a.c, wrap64 (a.n + b.n), plainV (lessA a.lo b.lo), plainV (moreA a.hi b.hi)⟩
theorem join_of (c c2 : Int) (a b : List V) (h : a.length + b.length < 9223372036854775808) : joinS (ofA c a) (ofA c2 b) = ofA c (a ++ b) := by
  have h1 := nullsA_le a
  have h2 := nullsA_le b
  unfold joinS ofA
  simp only
  rw [less_plain, more_plain, plainV_twice, plainV_twice, plainV_twice, plainV_twice, least_append, most_append, nullsA_append, show wrap64 ((nullsA a : Int) + (nullsA b : Int)) = ((nullsA a + nullsA b : Nat) : Int) by unfold wrap64; omega]
/-- The document's Both. -/
def bothR (a b : S) : S := ⟨a.c, wrap64 (a.n + b.n), (if kindV (plainV a.lo) = 0 ∨ (kindV b.lo ≠ 0 ∧ ordV b.lo (plainV a.lo) < 0) then plainV b.lo else plainV a.lo), (if kindV (plainV a.hi) = 0 ∨ (kindV b.hi ≠ 0 ∧ 0 < ordV b.hi (plainV a.hi)) then plainV b.hi else plainV a.hi)⟩
theorem both_join (a b : S) : bothR a b = joinS a b := by
  unfold bothR joinS lessA moreA
  simp only [kind_plain, ord_pr, ord_pos, ord_pl, S.mk.injEq, true_and]
  refine ⟨by split <;> rfl, ?_⟩
  by_cases c : ordV a.hi b.hi < 0
  · rw [if_pos c]
    by_cases d : kindV a.hi = 0
    · rw [if_pos (.inl d)]
    · by_cases e : kindV b.hi = 0
      · exact absurd c (ord_null_r e)
      · rw [if_pos (.inr ⟨e, c⟩)]
  · rw [if_neg c]
    by_cases d : kindV a.hi = 0
    · rw [if_pos (.inl d)]
      have e : kindV b.hi = 0 := by
        by_cases e : kindV b.hi = 0
        · exact e
        · exact absurd ((ord_null_l d).2 e) c
      rw [kind_zero_plain d, kind_zero_plain e]
    · rw [if_neg (by rintro (x | ⟨_, x⟩); exact d x; exact c x)]
end Go.Proofs.YtfbmlefhjoblbaaGreat
