/- A file of one column more has the others as they were; its statistics are one more: the walk of the law. -/
import Derived.Test.YtfbmlefhjoblbaaGreatFAw
import Derived.Test.YtfbmlefhjoblbaaGreatFLent
import Derived.Test.YtfbmlefhjoblbaaGreatFMore
import Derived.Test.YtfbmlefhjoblbaaGreatBits
import Derived.Test.YtfbmlefhjoblbaaGreatWmath
import Derived.Test.YtfbmlefhjoblbaaGreatLFin
namespace Go.Proofs.YtfbmlefhjoblbaaGreat
open Go.Conc Go.RowKit
set_option linter.unusedVariables false
set_option linter.unusedSimpArgs false

theorem one_more (k : Nat) (h : k < 3) : wrap64 (1 + (k : Int)) = 1 + (k : Int) := by unfold wrap64; omega
theorem len_more (n : Nat) (h : n < 12) : wrap64 ((n : Int) + 1) = (n : Int) + 1 := by unfold wrap64; omega
theorem la_more (x : Int) (h : 1 ≤ x) (h2 : x ≤ 1000000) : wrap64 (x + 1) = x + 1 := by unfold wrap64; omega
theorem len_more2 (n : Nat) (h : n < 12) : IntKind.i64.wrap ((n : Int) + 1) = (n : Int) + 1 := by rw [IntKind.wrap_i64]; omega
theorem la_more2 (x : Int) (h : 1 ≤ x) (h2 : x ≤ 1000000) : IntKind.i64.wrap (x + 1) = x + 1 := by rw [IntKind.wrap_i64]; omega
theorem big_dec (n : Nat) (h : 60000 < n) : decide ((60000 : Int) < (n : Int)) = true := decide_eq_true (by omega)
theorem zero_parts : zeroV.k = 0 ∧ zeroV.i = 0 ∧ zeroV.b = false ∧ zeroV.s.toList = [] := ⟨rfl, rfl, rfl, by rw [ByteArray.toList_eq]; rfl⟩
theorem step_one {e sl : TypeId} {zv : Value} {B : Nat} (O : OneT e sl zv B) {base : Nat} {w : World} {ad : Option Addr} {n cap : Nat} {xs : List Value} (h : w.ownsRow base e 1 (.slice ad n cap) n xs) (hxl : xs.length = n) (hb : base ≤ w.heap.size) (hO : n ≤ 4000000000000)
    {ops : Array Oper} {op : Oper} {A : Act} {K : Act → World → Prop} {Q : Exit → Act → World → Prop} {E : Prop} (hgd : op.guard = none) (s x : Operand)
    (ho : op.op = .call { callee := .builtin .append, args := #[s, x], argTypes := #[sl, sl] }) (u : Value) (hu1 : u.oneCell' = true) (hs : A.eval s = .slice ad n cap) (hx : A.eval x = .slice (some ⟨w.heap.size, 0, none⟩) 1 1)
    (hK : ∀ ad' cap' w', w'.ownsRow base e 1 (.slice ad' (n + 1) cap') (n + 1) (xs ++ [u]) → Frm (At ad) w w' → K (A.put op.dst (.slice ad' (n + 1) cap')) w') :
    if Region.wanted op (yielded ops A.tmps) = true then Oper.wp Tryz.prog op A (w.alloc (.cells #[u] e)) K Q else E := by
  have hwt : Region.wanted op (yielded ops A.tmps) = true := by simp [Region.wanted, hgd]
  rw [if_pos hwt]
  have ha : (w.alloc (.cells #[u] e)).ownsRow base e 1 (.slice ad n cap) n xs := own_same h fun k _ hk => Below.heap_alloc w _ k hk
  obtain ⟨v', w', hr, hown, hgrow, hnew⟩ := run_append_one O _ base (Nat.le_trans hb (by simp)) (.slice ad n cap) n xs [u] ha (by omega) hO rfl (fun z hz => by rw [List.mem_singleton.1 hz]; exact hu1) ⟨w.heap.size, 0, none⟩ 1 (one_cells w u e)
  obtain ⟨ad', cap', rfl⟩ := own_form hown
  have hh := hK ad' cap' w' hown (grown_frm _ hgrow (own_head h))
  unfold Oper.wp execOp
  simp only [ho, resolve, invoke, builtin, Sem.run_bind, Sem.run_pure, Result.andThen_ok, List.map_toArray, List.map_cons, List.map_nil, hs, hx, hr _]
  exact hh
theorem own_ty_data {B c g : Nat} {w : World} {a : Option Addr} {cs : List Co} {p : DaAt} {d : Da} (h : OwnCo B w a c cs) (hs : DSlot w g p d) (hk : At a g) : False := by
  obtain ⟨cur, hc⟩ := own_ty h hk
  rw [hs.b] at hc
  injection hc with hc
  injection hc with _ hc _
  exact absurd hc (by decide)
theorem own_not_data {base e size n cap g : Nat} {w : World} {a : Option Addr} {xs : List Value} {p : DaAt} {d : Da} (h : w.ownsRow base e size (.slice a n cap) n xs) (hne : e ≠ 55) (hs : DSlot w g p d) (hk : At a g) : False := by
  obtain ⟨cur, hc⟩ := own_ty h hk
  rw [hs.b] at hc
  injection hc with hc
  injection hc with _ hc _
  exact hne hc.symm
theorem isr_more {B cr : Nat} {w : World} {ar : Option Addr} {vs : List Value} {rs : List (List V)} {r : List V} {a : Option Addr} {c : Nat} (ho : w.ownsRow B 82 1 (.slice ar (rs.length + 1) cr) (rs.length + 1) (vs ++ [.slice a r.length c])) (hl : LentR B w vs rs) (hv : IsV w a r) (hn : a = none → r.length = 0 ∧ c = 0) : IsR w ar (rs ++ [r]) := by
  rcases ho.2 with ⟨_, h0⟩ | ⟨g, cp, cur, hg, _⟩
  · omega
  injection hg with h1 h2 h3
  subst h1
  refine .inr ⟨g, 0, rfl, fun i hi => ?_⟩
  rw [Nat.zero_add]
  by_cases e : i < rs.length
  · obtain ⟨gi, ci, k1, k2⟩ := hl.2 i e
    rw [List.getElem_append_left e]
    refine ⟨_, OwnR.read (n := rs.length + 1) ho i _ (by rw [List.getElem?_append_left (by rw [hl.1]; exact e)]; exact k1), some ⟨gi, 0, none⟩, ci, rfl, ?_, fun e => by cases e⟩
    have := k2.isV.take rs[i].length
    rwa [List.take_left] at this
  · have e2 : i = rs.length := by simp at hi; omega
    subst e2
    simp only [List.getElem_append_right (Nat.le_refl _), Nat.sub_self, List.getElem_singleton]
    exact ⟨_, OwnR.read (n := rs.length + 1) ho rs.length _ (by rw [List.getElem?_append_right (by rw [hl.1]; exact Nat.le_refl _), hl.1, Nat.sub_self]; rfl), a, c, rfl, hv, hn⟩
theorem LentR.frm {F : Nat → Prop} {B : Nat} {w w' : World} {vs : List Value} {rs : List (List V)} (h : LentR B w vs rs) (hf : Frm F w w') (hF : ∀ g c xs, OwnV B w (some ⟨g, 0, none⟩) c xs → ¬ F g) : LentR B w' vs rs :=
  h.same fun g c xs ho => ho.frm hf fun k hk _ => by
    have e : k = g := by simpa [At] using hk
    rw [e]; exact hF g c xs ho
end Go.Proofs.YtfbmlefhjoblbaaGreat
