/- Lists of numbers: what the statements' helpers do with them. -/
import Derived.Test.YthfakpekdjmpjaaIntL
namespace Go.Proofs.Ythfakpekdjmpjaa
open Go.Conc Go.RowKit
set_option linter.unusedVariables false

set_option maxRecDepth 100000 in
theorem sameints_any (w : World) (a b : Option Addr) (ca cb : Nat) (xs ys : List Int) (ha : IsL w a xs) (hb : IsL w b ys) (hx : xs.length ≤ maxLen) :
    Calls Try.prog 43 #[.slice a xs.length ca, .slice b ys.length cb] w fun e w' => e = .returned (.bool (decide (xs = ys))) ∧ Below w.heap.size w w' := by
  unfold maxLen at hx
  by_cases hn : xs.length = ys.length
  · have hd : ∀ n, n ≤ xs.length → xs.take n = ys.take n → (xs = ys ↔ xs.drop n = ys.drop n) := fun n _ h => by
      constructor
      · intro e; rw [e]
      · intro e; rw [← List.take_append_drop n xs, ← List.take_append_drop n ys, h, e]
    obtain ⟨R, hR⟩ : ∃ R, R = decide (xs = ys) := ⟨_, rfl⟩
    rw [← hR]
    rw [← hn]
    have HN := Lib.hid hn
    have HR := Lib.hid hR
    have HD := Lib.hid hd
    clear hn hR hd
    go_enter Try.func43, Try.ntmps43
    go_wp2
    go_loopw [5] (fun iv wr => ∃ n : Nat, n ≤ xs.length ∧ iv = .int .i64 n ∧ Hid (xs.take n = ys.take n) ∧ Hid (Below w.heap.size w wr)) (fun iv _ => xs.length - (intOf iv).toNat)
    case atStart => exact ⟨0, Nat.zero_le _, rfl, rfl, Below.refl _ _⟩
    case round =>
      obtain ⟨n, hle, rfl, HT, HB⟩ := hrel
      by_cases c : n < xs.length
      · have hne : xs ≠ [] := fun e => by rw [e] at c; simp at c
        have hney : ys ≠ [] := fun e => by have := HN.out; rw [e] at this; simp at this; rw [this] at c; simp at c
        rcases ha with ha | ⟨ba, oa, rfl, ha⟩
        · exact absurd ha hne
        rcases hb with hb | ⟨bb, ob, rfl, hb⟩
        · exact absurd hb hney
        have cy : n < ys.length := by have := HN.out; omega
        have h1 := (HB.out.cell (p := ⟨ba, oa + n, none⟩) (World.block_lt_of_cell? w _ (ha n c))).trans (ha n c)
        have h2 := (HB.out.cell (p := ⟨bb, ob + n, none⟩) (World.block_lt_of_cell? w _ (hb n cy))).trans (hb n cy)
        have hx1 : xs.drop n = xs[n] :: xs.drop (n + 1) := List.drop_eq_getElem_cons c
        have hy1 : ys.drop n = ys[n] :: ys.drop (n + 1) := List.drop_eq_getElem_cons cy
        have hx2 : xs.take (n + 1) = xs.take n ++ [xs[n]] := (List.take_append_getElem c).symm
        have hy2 : ys.take (n + 1) = ys.take n ++ [ys[n]] := (List.take_append_getElem cy).symm
        have HE := Lib.hid (HD.out n (by omega) HT.out)
        have HX1 := Lib.hid hx1
        have HY1 := Lib.hid hy1
        have HX2 := Lib.hid hx2
        have HY2 := Lib.hid hy2
        have hcy : (n : Int) < (ys.length : Int) := by omega
        clear hx1 hy1 hx2 hy2 ha hb hne hney
        generalize xs[n] = x at *
        generalize ys[n] = y at *
        by_cases e : x = y
        · subst e
          go_wp2
          go_quiet (fail)
          go_wp2
          go_roundw
          case rel => exact ⟨n + 1, by omega, by go_num, Lib.hid (by rw [HX2.out, HY2.out, HT.out]), bel_drew HB.out _⟩
          case measure => simp [intOf]; omega
        · have en : (x != y) = true := by simpa using e
          have hf : R = false := by
            rw [HR.out, decide_eq_false_iff_not, HE.out, HX1.out, HY1.out]
            intro k
            injection k with k1 k2
            exact e k1
          subst hf
          go_wp2
          go_quiet (fail)
          go_wp2
          go_ret
          exact ⟨rfl, bel_drew HB.out _⟩
      · obtain rfl : n = xs.length := by omega
        have ht : R = true := by
          have h1 := HT.out
          rw [List.take_length, HN.out, List.take_length] at h1
          rw [HR.out, h1]; simp
        subst ht
        clear c
        go_wp2
        go_ret
        exact ⟨rfl, HB.out⟩
  · have hne : ((xs.length : Int) != (ys.length : Int)) = true := by simp; omega
    have hf : decide (xs = ys) = false := decide_eq_false fun e => hn (by rw [e])
    rw [hf]
    go_enter Try.func43, Try.ntmps43
    go_wp2
    go_ret
    exact ⟨rfl, Below.refl _ _⟩
end Go.Proofs.Ythfakpekdjmpjaa
