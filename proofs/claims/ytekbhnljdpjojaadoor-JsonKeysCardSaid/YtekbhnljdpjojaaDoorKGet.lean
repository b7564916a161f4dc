/- The law on keys: its calls of Get, the first value, the text with a doubled key. -/
import Derived.Test.YtekbhnljdpjojaaDoorKAt
namespace Go.Proofs.YtekbhnljdpjojaaDoor
open Go.Conc Go.RowKit Go.Maps Go.WideMaps
set_option linter.unusedVariables false
set_option linter.unusedSimpArgs false

/-- The loop that makes the object goes on. -/
def JKl (k : Nat) (w0 : World) (g : Nat) (iv : Value) (wr : World) : Prop :=
  ∃ (i : Nat) (cs : List (List Value)) (lv kv : Value), iv = .int .i64 i ∧ i ≤ k ∧ k + 1 ≤ i + g ∧ KAt w0.heap.size w0 wr (kKeys i) (kVals i) cs lv kv
theorem kVals_get (k j : Nat) (h : j < (kVals k).length) : (kVals k)[j] = kVal j := by simp [kVals]
theorem kKeys_get (k j : Nat) (h : j < (kKeys k).length) : (kKeys k)[j] = kKey j := by simp [kKeys]
theorem kGet (k j : Nat) (hj : j < k) (hk : k ≤ 8) (F : Nat → Prop) (c : List Value) (u : World) (hjn : JIn F u (jObj (kKeys k) (kVals k)) c) :
    Calls Tryd.prog 17 #[.agg c.toArray, .string (kKey j)] u fun e w' => (∃ la lc ka kc, e = .returned (.tuple #[.agg #[.int .i64 2, .bool false, .int .i64 (10 * (j : Int)), .string ⟨#[]⟩, .slice la 0 lc, .slice ka 0 kc], .bool true])) ∧ Below u.heap.size u w' := by
  have hv : j < (kVals k).length := by rw [kVals_len]; exact hj
  have hkk : j < (kKeys k).length := by rw [kKeys_len]; exact hj
  have := jget_found false 0 ByteArray.empty (kVals k) (kKeys k) (kKey j) j 88 1 (by rw [kKeys_len, kVals_len]) (by rw [kVals_len]; omega) hv hkk (kKeys_get k j hkk)
    (fun i hi hij => by rw [kKeys_get]; rw [kKeys_len] at hi; exact kKey_ne i j (by omega) (by omega) (by omega)) (by rw [kVals_get]; exact fits_scal _ _ _ _) (by rw [kVals_get]; exact copy_scal _ _ _ _) (by decide) (by decide) F c u hjn
  rw [kVals_get] at this
  exact this
theorem kGet2 (k : Nat) (hk : k ≤ 8) (F : Nat → Prop) (c : List Value) (u : World) (hjn : JIn F u (jObj (kKeys k) (kVals k)) c) :
    Calls Tryd.prog 17 #[.agg c.toArray, .string ⟨#[122, 122]⟩] u fun e w' => e = .returned (.tuple #[zJ, .bool false]) ∧ Below u.heap.size u w' :=
  jget_none false 0 ByteArray.empty (kVals k) (kKeys k) ⟨#[122, 122]⟩ (by rw [kKeys_len, kVals_len]) (by rw [kVals_len]; omega) (fun j hj => by rw [kKeys_get]; rw [kKeys_len] at hj; exact kKey_zz j (by omega)) F c u hjn
/-- The first value. -/
theorem KAt.first {jb k : Nat} {w0 wr : World} {cs : List (List Value)} {lv kv : Value} (h : KAt jb w0 wr (kKeys k) (kVals k) cs lv kv) (h0 : 1 ≤ k) :
    ∃ g cap a b c d, lv = .slice (some ⟨g, 0, none⟩) k cap ∧ g < wr.heap.size ∧ wr.cell? ⟨g, 0, none⟩ = some (.int .i64 2) ∧ wr.cell? ⟨g, 1, none⟩ = some (.bool false) ∧ wr.cell? ⟨g, 2, none⟩ = some (.int .i64 0) ∧ wr.cell? ⟨g, 3, none⟩ = some (.string ⟨#[]⟩) ∧ wr.cell? ⟨g, 4, none⟩ = some (.slice a 0 b) ∧ wr.cell? ⟨g, 5, none⟩ = some (.slice c 0 d) := by
  have hv : 0 < (kVals k).length := by rw [kVals_len]; exact h0
  obtain ⟨b, o, c, xk, xb, xn, xs, xla, xll, xlc, xka, xkl, xkc, e, hF, hbl, hx, q0, q1, q2, q3, q4, q5⟩ := (row_of_own h.ownL (F := fun g => g < wr.heap.size) fun g hg => by obtain ⟨_, c, p, h1⟩ := own_type h.ownL hg; exact (Array.getElem?_eq_some_iff.1 h1).1).elem ((h.js wr).imp fun _ _ hj => hj.mono fun g _ hg => hg.elim) hv
  rw [kVals_get] at hx
  generalize hc : ([.int .i64 xk, .bool xb, .int .i64 xn, .string xs, .slice xla xll xlc, .slice xka xkl xkc] : List Value) = cc at hx
  obtain ⟨_, _, _, _, _, _, lv2, kv2, cs2, hl, hk, _, _⟩ := hx
  obtain ⟨_, a1, c1, rfl, _⟩ := hl
  obtain ⟨_, a2, c2, rfl, _⟩ := hk
  simp only [List.cons.injEq, Value.int.injEq, true_and, Value.bool.injEq, Value.string.injEq, Value.slice.injEq, and_true] at hc
  obtain ⟨rfl, rfl, rfl, rfl, ⟨rfl, rfl, rfl⟩, rfl, rfl, rfl⟩ := hc
  simp only [Nat.zero_mul, Nat.add_zero] at q0 q1 q2 q3 q4 q5
  rcases h.ownL.2 with ⟨rfl, h1⟩ | ⟨g', cap, cur, rfl, _⟩
  · omega
  · simp only [Value.slice.injEq, Option.some.injEq, Addr.mk.injEq] at e
    obtain ⟨⟨rfl, rfl, _⟩, _, rfl⟩ := e
    simp only [Nat.zero_add] at q1 q2 q3 q4 q5
    refine ⟨g', cap, _, _, _, _, by rw [kVals_len], hF, q0, q1, ?_, q3, q4, q5⟩
    rw [q2]; rfl
theorem jdup (u : World) : Calls Tryd.prog 10 #[.string ⟨#[123, 34, 97, 34, 58, 49, 44, 34, 92, 117, 48, 48, 54, 49, 34, 58, 50, 125]⟩] u (JPd (.error 300) u) := by
  have := jparse_any ⟨#[123, 34, 97, 34, 58, 49, 44, 34, 92, 117, 48, 48, 54, 49, 34, 58, 50, 125]⟩ u (by decide)
  rw [show parseN numD (ByteArray.mk #[123, 34, 97, 34, 58, 49, 44, 34, 92, 117, 48, 48, 54, 49, 34, 58, 50, 125]).data.toList = .error 300 by kernel_rfl] at this
  exact this
theorem fcell (u : World) (p b j : Nat) (v0 v1 v2 v3 v4 v5 : Value) (hne : b ≠ p) : ((((((u.setCell ⟨p, 0, none⟩ v0).setCell ⟨p, 1, none⟩ v1).setCell ⟨p, 2, none⟩ v2).setCell ⟨p, 3, none⟩ v3).setCell ⟨p, 4, none⟩ v4).setCell ⟨p, 5, none⟩ v5).cell? ⟨b, j, none⟩ = u.cell? ⟨b, j, none⟩ := by
  refine World.cell?_of_block ?_
  rw [Below.heap_setCell _ _ _ _ hne, Below.heap_setCell _ _ _ _ hne, Below.heap_setCell _ _ _ _ hne, Below.heap_setCell _ _ _ _ hne, Below.heap_setCell _ _ _ _ hne, Below.heap_setCell _ _ _ _ hne]
theorem i64_and7 (z : Int) : ∃ m : Nat, m < 8 ∧ bits .and .i64 z 7 = (m : Int) := by
  refine ⟨(BitVec.ofInt 64 z).toNat % 8, by omega, ?_⟩
  show IntKind.i64.wrap ((BitVec.ofInt 64 z &&& BitVec.ofInt 64 ((7 : Nat) : Int)).toNat : Int) = _
  rw [BitVec.toNat_and, ofInt_u64 7 (by omega), show (BitVec.ofInt 64 z).toNat &&& 7 = (BitVec.ofInt 64 z).toNat % 8 from Nat.and_two_pow_sub_one_eq_mod _ 3]
  exact wrap_i64_nat _ (by omega)

end Go.Proofs.YtekbhnljdpjojaaDoor
