/- New, Calls, Fail, All of objstore; slices.Clone at its objects; Num of the statements. -/
import Derived.Test.YtembcflgjfligaaEnter
import Derived.WalkLawsBesides
import Derived.WalkSpells
namespace Go.Proofs.Ytembcflgjfligaa
open Go.Conc Go.RowKit

theorem num_any (n : Int) (w : World) : Calls Try.prog 6 #[.int .i64 n] w fun e w' => e = .returned (.int .i64 n) ∧ w = w' := by
  go_enter Try.func6, Try.ntmps6
  go_wp2
  go_ret
  exact ⟨rfl, rfl⟩

theorem calls_any {F : Nat → Prop} (b : Nat) (w : World) (st : St) (h : Sto w F b st) : Calls Try.prog 11 #[.pointer (some ⟨b, 0, none⟩)] w fun e w' => e = .returned (.int .i64 st.calls) ∧ w = w' := by
  obtain ⟨sv, cv, h⟩ := h
  have g2 := h.c2
  clear h
  go_enter Try.func11, Try.ntmps11
  go_wp2
  go_ret
  exact ⟨rfl, rfl⟩

theorem fail_no {F : Nat → Prop} (b : Nat) (n : Int) (hn : n < 0) (w : World) (st : St) (h : Sto w F b st) : Calls Try.prog 18 #[.pointer (some ⟨b, 0, none⟩), .int .i64 n] w fun e w' => e = .returned (.int .i64 100) ∧ w = w' := by
  have h' := Lib.hid h
  clear h
  go_enter Try.func18, Try.ntmps18
  go_wp2
  go_ret
  exact ⟨rfl, rfl⟩

theorem fail_yes {F : Nat → Prop} (b : Nat) (n : Int) (hn : 0 ≤ n) (hm : n ≤ 9223372036854775807) (w : World) (st : St) (h : Sto w F b st) (hF : ∀ k, w.heap.size ≤ k → F k) :
    Calls Try.prog 18 #[.pointer (some ⟨b, 0, none⟩), .int .i64 n] w fun e w' => e = .returned (.int .i64 0) ∧ Sto w' F b { st with owed := n } ∧ Frm F w w' := by
  have T := Lib.hid (give_any b n w st h hF hn hm)
  clear h
  go_enter Try.func18, Try.ntmps18
  go_wp2_with (go_at_call 22; refine (T.out).mono ?_; rintro e w1 ⟨rfl, hs, hf⟩; have HS := Lib.hid hs; clear hs; have HF := Lib.hid hf; clear hf)
  go_ret
  exact ⟨rfl, HS.out, HF.out⟩

theorem new_no (n : Int) (hn : n < 1 ∨ 4096 < n) (w : World) : Calls Try.prog 4 #[.int .i64 n] w fun e w' => e = .returned (.tuple #[.pointer none, .int .i64 100]) ∧ w = w' := by
  rcases hn with hn | hn
  · go_enter Try.func4, Try.ntmps4
    go_wp2
    go_ret2
    exact ⟨rfl, rfl⟩
  · have h1 : ¬ n < 1 := by omega
    go_enter Try.func4, Try.ntmps4
    go_wp2
    go_ret2
    exact ⟨rfl, rfl⟩

theorem new_yes (n : Int) (h1 : 1 ≤ n) (h2 : n ≤ 4096) (w : World) : Calls Try.prog 4 #[.int .i64 n] w fun e w' =>
    e = .returned (.tuple #[.pointer (some ⟨w.heap.size, 0, none⟩), .int .i64 0]) ∧ w.alloc (.cells #[.int .i64 n, .slice none 0 0, .int .i64 0, .chan none] 47) = w' := by
  go_enter Try.func4, Try.ntmps4
  go_wp2
  go_ret2
  exact ⟨rfl, rfl⟩

/-- What New makes is an empty store. -/
theorem sto_new (n : Int) (h1 : 1 ≤ n) (h2 : n ≤ 4096) (w : World) {F : Nat → Prop} (hF : ∀ k, w.heap.size ≤ k → F k) :
    Sto (w.alloc (.cells #[.int .i64 n, .slice none 0 0, .int .i64 0, .chan none] 47)) F w.heap.size ⟨n, [], 0, 0⟩ :=
  ⟨.slice none 0 0, .chan none, heap_alloc_new w _, hF _ (Nat.le_refl _), World.ownsRow_nil _ _ _ _, by simp [Value.ownBlock], .inl ⟨rfl, rfl⟩, by simp, h2, by simp; omega, by simp⟩

theorem new_any (n : Int) (h1 : 1 ≤ n) (h2 : n ≤ 4096) (w : World) {F : Nat → Prop} (hF : ∀ k, w.heap.size ≤ k → F k) : Calls Try.prog 4 #[.int .i64 n] w fun e w' =>
    e = .returned (.tuple #[.pointer (some ⟨w.heap.size, 0, none⟩), .int .i64 0]) ∧ Sto w' F w.heap.size ⟨n, [], 0, 0⟩ ∧ Frm F w w' := by
  refine (new_yes n h1 h2 w).mono ?_
  rintro e w' ⟨rfl, rfl⟩
  exact ⟨rfl, sto_new n h1 h2 w hF, (Frm.refl F w).alloc _⟩

/-! ### the element type, and slices.Clone -/
def zObj : Value := .agg #[.string ByteArray.empty, .string ByteArray.empty, .int .i64 0]
theorem infoObj : (Try.prog.info? 56).map (fun i => (i.zero, i.size, i.bytes)) = some (some zObj, 3, 40) := by kernel_rfl
theorem rowOf_one' (os : List Ob) : ∀ u ∈ rowOf os, u.oneCell' = true := by
  intro u hu
  simp only [rowOf, List.mem_flatMap] at hu
  obtain ⟨o, _, hu⟩ := hu
  simp only [Ob.cells, List.mem_cons, List.not_mem_nil, or_false] at hu
  rcases hu with rfl | rfl | rfl <;> rfl
theorem ownsRow_base {w : World} {B B' : Nat} {e : TypeId} {size n : Nat} {v : Value} {xs : List Value} (h : w.ownsRow B e size v n xs) (hB : B' ≤ B) : w.ownsRow B' e size v n xs := by
  refine ⟨h.1, ?_⟩
  rcases h.2 with hn | ⟨g, cap, cur, hv, hb, rest⟩
  · exact .inl hn
  · exact .inr ⟨g, cap, cur, hv, Nat.le_trans hB hb, rest⟩

theorem add_block (g o j : Nat) : ((⟨g, o, none⟩ : Addr).add j).block = g := by unfold Addr.add; split <;> rfl

set_option maxHeartbeats 400000 in
theorem clone_any (w : World) (sv : Value) (os : List Ob) (h : w.ownsRow 0 56 3 sv os.length (rowOf os)) (hl : os.length ≤ 4096) :
    Calls Try.prog 20 #[sv] w fun e w' => ∃ sv', e = .returned sv' ∧ w'.ownsRow w.heap.size 56 3 sv' os.length (rowOf os) ∧ Below w.heap.size w w' := by
  rcases h.2 with ⟨rfl, h0⟩ | ⟨g, cap, cur, rfl, hb, hgg, hnc, hcm, hcs, htake⟩
  · have e0 : os = [] := List.eq_nil_of_length_eq_zero h0
    subst e0
    clear h
    have he := fun w => Lib.run_eql_slice_nil (P := Try.prog) w 38 56 none 0 0 0 0 Try.underlying38
    go_enter Try.func20, Try.ntmps20
    go_wp2
    go_ret
    exact ⟨_, rfl, World.ownsRow_nil _ _ _ _, Below.refl _ _⟩
  · have hc := h.cells (g := g) rfl
    have hg := (Array.getElem?_eq_some_iff.1 hgg).1
    have HC := Lib.hid hc
    have HG := Lib.hid hgg
    obtain ⟨i0, hi, hz0, hz1, hz2⟩ := info_parts infoObj
    have HL := Lib.hid hl
    have HT := Lib.hid htake
    have HR := Lib.hid (rowOf_length os)
    have he := fun w => Lib.run_eql_slice_nil (P := Try.prog) w 38 56 (some ⟨g, 0, none⟩) os.length cap 0 0 Try.underlying38
    have K1 : Hid (∀ j u, (rowOf os)[j]? = some u → (w.alloc (.cells #[] 56)).cell? ((⟨g, 0, none⟩ : Addr).add j) = some u) :=
      fun j u hu => (World.cell?_of_block (w := w) (Below.heap_alloc _ _ _ (by rw [add_block]; exact hg))).trans (hc j u hu)
    have K2 : Hid (0 + os.length ≤ maxLen) := by unfold Hid; simp only [maxLen]; omega
    have K3 : Hid ((0 + os.length) * 40 ≤ 140737488355328) := by unfold Hid; omega
    have K4 : Hid (w.heap.size ≤ (w.alloc (.cells #[] 56)).heap.size) := by unfold Hid; simp
    clear h hc hgg htake hl hnc hcs hb hcm
    go_enter Try.func20, Try.ntmps20
    go_wp2_with (at_builtin; refine wpList_append_own (size := 3) (bytes := 40) (e := 56) (base := w.heap.size) (i := i0) (z := zObj) _ rfl _ _ 38 rfl Try.underlying38 hi hz0 hz1 hz2 rfl (by decide) (.slice (some ⟨w.heap.size, 0, none⟩) 0 0) 0 [] rfl (World.ownsRow_made w #[] 0 (Nat.le_refl _) (by simp [maxLen]) rfl) ⟨g, 0, none⟩ os.length cap (rowOf os) rfl HR.out K1.out (rowOf_one' os) K2.out K3.out K4.out ?_; intro v' w1 hown hgrow _; have HO := Lib.hid hown; clear hown; have HW := Lib.hid hgrow; clear hgrow)
    go_ret
    refine ⟨_, rfl, ?_, ?_⟩
    · have := HO.out
      simpa using this
    · exact ((Below.refl _ _).alloc (Nat.le_refl _) _).grown HW.out (by simp) (fun k hk => by simp [Value.ownBlock] at hk; omega)
end Go.Proofs.Ytembcflgjfligaa
