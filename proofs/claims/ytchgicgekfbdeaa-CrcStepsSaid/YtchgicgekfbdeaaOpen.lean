/- Seal and Open, the program's and the document's. -/
import Derived.Test.YtchgicgekfbdeaaOf
import Derived.Test.YtchgicgekfbdeaaForm
import Derived.Test.YtchgicgekfbdeaaShelf
import Derived.Deep.QuietTactic
import Derived.Deep.Cut
namespace Go.Proofs.Ytchgicgekfbdeaa
open Go.RowKit
set_option linter.unusedVariables false

set_option maxRecDepth 100000 in
theorem cseal_any (s : ByteArray) (hs : s.size ≤ 281474976710648) (w : World) : Calls Try.prog 10 #[.string s] w fun e w' => e = .returned (.string (sealB s)) ∧ Below w.heap.size w w' := by
  have T := Lib.hid (cof_any s (by omega))
  have hn := crcN_lt s.data.toList
  unfold sealB
  generalize crcN s.data.toList = n at *
  have T2 := Lib.hid (cform_any n hn)
  have hz : (textB (fourB n)).size = 4 := rfl
  generalize textB (fourB n) = t at *
  go_enter Try.func10, Try.ntmps10
  go_wp2_with (first
    | (go_at_call 8; refine (T.out _).mono ?_; rintro e w1 ⟨rfl, hb1⟩; have HB1 := Lib.hid hb1; clear hb1)
    | (go_at_call 14; refine (T2.out _).mono ?_; rintro e w2 ⟨rfl, hb2⟩; have HB2 := Lib.hid hb2; clear hb2))
  go_ret
  exact ⟨rfl, HB1.out.trans (HB2.out.mono HB1.out.size)⟩

/-- A region that draws its order, over a class of worlds. -/
theorem region_class {P : Program} {id : Nat} {Q : Exit → Act → World → Prop} {a : Act} {w : World} {l : List Oper} (C : World → Prop) (hm : P.follows .mixedOrders = true) (hB : Region.lexB .any l.toArray = true)
    (hC : C { w with drawn := w.drawn + 1 }) (h : wpQuiet P l.toArray C (fun a' => ∀ w', C w' → Q .normal a' w') l a) : (Code.region id l.toArray true).wp P Q a w :=
  wp_region_quiet hm hB hC (by simpa using h)

theorem toList_ne {a b : ByteArray} (h : ¬ a = b) : (a.toList == b.toList) = false := by
  rw [beq_eq_false_iff_ne]
  intro e
  rw [ByteArray.toList_eq, ByteArray.toList_eq] at e
  exact h (by cases a; cases b; simpa using e)
theorem toList_same {a b : ByteArray} (h : a = b) : (a.toList == b.toList) = true := by rw [h, beq_self_eq_true]
/-- What is ahead of a text's last four bytes, and these. -/
def ahead (s : ByteArray) : ByteArray := s.extract 0 (s.size - 4)
def behind (s : ByteArray) : ByteArray := s.extract (s.size - 4) s.size
/-- Is a text one that was sealed? -/
def isSealed (s : ByteArray) : Bool := decide (4 ≤ s.size) && decide (behind s = textB (fourB (crcN (ahead s).data.toList)))
def openT (s : ByteArray) : ByteArray := if isSealed s then ahead s else ByteArray.empty
def openE (s : ByteArray) : Int := if isSealed s then 0 else 400

set_option maxRecDepth 100000 in
set_option maxHeartbeats 20000000 in
theorem copen_any (s : ByteArray) (hs : s.size ≤ 281474976710648) (w : World) : Calls Try.prog 6 #[.string s] w fun e w' => e = .returned (.tuple #[.string (openT s), .int .i64 (openE s)]) ∧ Below w.heap.size w w' := by
  by_cases h4 : s.size < 4
  · have e1 : isSealed s = false := by unfold isSealed; rw [decide_eq_false (by omega)]; rfl
    have e2 : openT s = ByteArray.empty := by unfold openT; rw [e1]; rfl
    have e3 : openE s = 400 := by unfold openE; rw [e1]; rfl
    rw [e2, e3]
    go_enter Try.func6, Try.ntmps6
    go_wp2
    go_ret2
    exact ⟨rfl, Below.refl _ _⟩
  · have hza : (ahead s).size ≤ 281474976710648 := by unfold ahead; rw [ByteArray.size_extract]; omega
    have hb1 : (0 : Int) ≤ (s.size : Int) - 4 := by omega
    have hb2 : (s.size : Int) - 4 ≤ s.size := by omega
    have hb3 : ((s.size : Int) - 4).toNat = s.size - 4 := by omega
    have hah : s.extract 0 (s.size - 4) = ahead s := rfl
    have hbh : s.extract (s.size - 4) s.size = behind s := rfl
    have T := Lib.hid (cof_any (ahead s) (by omega))
    have T2 := Lib.hid (cform_any _ (crcN_lt (ahead s).data.toList))
    have T3 := Lib.hid (fun w => Try.stringslite_Clone (ahead s) w (by omega))
    by_cases e : behind s = textB (fourB (crcN (ahead s).data.toList))
    · have e1 : isSealed s = true := by unfold isSealed; rw [decide_eq_true e, decide_eq_true (by omega)]; rfl
      have e2 : openT s = ahead s := by unfold openT; rw [e1]; rfl
      have e3 : openE s = 0 := by unfold openE; rw [e1]; rfl
      rw [e2, e3]
      clear e1 e2 e3
      go_enter Try.func6, Try.ntmps6
      go_wp2
      refine region_class (fun w' => Below w.heap.size w w') (by kernel_rfl) (by kernel_rfl) (Below.refl _ _).drew ?_
      repeat (
        refine wpQuiet_step (fun K hK => ?_)
        go_simp
        first
        | (refine hK _ ?_; clear hK K)
        | (apply Exists.intro
           refine ⟨fun w1 hw1 => ?_, hK _ ?_⟩
           (first
             | (exact rfl)
             | (go_at_call 8; exact (T.out _).mono fun e w2 ⟨he, hb⟩ => ⟨he, hw1.trans (hb.mono hw1.size)⟩)
             | (go_at_call 14; exact (T2.out _).mono fun e w2 ⟨he, hb⟩ => ⟨he, hw1.trans (hb.mono hw1.size)⟩))
           clear hK K))
      refine wpQuiet_nil ?_
      intro w3 hw3
      have HW3 := Lib.hid hw3
      clear hw3
      go_wp2_with (first
        | (go_at_call 15; go_enter Try.func15, Try.ntmps15)
        | (go_at_call 17; refine (T3.out _).mono ?_; rintro e w4 ⟨rfl, hb4⟩; have HB4 := Lib.hid hb4; clear hb4))
      go_ret2
      exact ⟨rfl, HW3.out.trans (HB4.out.mono HW3.out.size)⟩
    · have e1 : isSealed s = false := by unfold isSealed; rw [decide_eq_false e, decide_eq_true (by omega)]; rfl
      have e2 : openT s = ByteArray.empty := by unfold openT; rw [e1]; rfl
      have e3 : openE s = 400 := by unfold openE; rw [e1]; rfl
      rw [e2, e3]
      have ne := toList_ne e
      clear e1 e2 e3 e
      go_enter Try.func6, Try.ntmps6
      go_wp2
      refine region_class (fun w' => Below w.heap.size w w') (by kernel_rfl) (by kernel_rfl) (Below.refl _ _).drew ?_
      repeat (
        refine wpQuiet_step (fun K hK => ?_)
        go_simp
        first
        | (refine hK _ ?_; clear hK K)
        | (apply Exists.intro
           refine ⟨fun w1 hw1 => ?_, hK _ ?_⟩
           (first
             | (exact rfl)
             | (go_at_call 8; exact (T.out _).mono fun e w2 ⟨he, hb⟩ => ⟨he, hw1.trans (hb.mono hw1.size)⟩)
             | (go_at_call 14; exact (T2.out _).mono fun e w2 ⟨he, hb⟩ => ⟨he, hw1.trans (hb.mono hw1.size)⟩))
           clear hK K))
      refine wpQuiet_nil ?_
      intro w3 hw3
      have HW3 := Lib.hid hw3
      clear hw3
      go_wp2
      go_ret2
      exact ⟨rfl, HW3.out⟩

theorem app_cancel {a b c : ByteArray} (h : a ++ b = a ++ c) : b = c := by
  have h := congrArg (fun x : ByteArray => x.data.toList) h
  simp only [ByteArray.data_append, Array.toList_append] at h
  have h := List.append_cancel_left h
  cases b; cases c
  simpa using h
theorem sealed_iff (s : ByteArray) (h : 4 ≤ s.size) : isSealed s = true ↔ sealB (ahead s) = s := by
  have hs : ahead s ++ behind s = s := by
    unfold ahead behind
    apply ByteArray.ext
    simp
  have e4 : isSealed s = true ↔ behind s = textB (fourB (crcN (ahead s).data.toList)) := by
    unfold isSealed
    rw [decide_eq_true h]
    simp
  rw [e4]
  unfold sealB
  constructor
  · intro e
    rw [← e]
    exact hs
  · intro e
    exact (app_cancel (e.trans hs.symm)).symm

set_option maxRecDepth 100000 in
theorem ropen_any (s : ByteArray) (hs : s.size ≤ 281474976710648) (w : World) : Calls Try.prog 7 #[.string s] w fun e w' => e = .returned (.tuple #[.string (openT s), .int .i64 (openE s)]) ∧ Below w.heap.size w w' := by
  by_cases h4 : s.size < 4
  · have e1 : isSealed s = false := by unfold isSealed; rw [decide_eq_false (by omega)]; rfl
    have e2 : openT s = ByteArray.empty := by unfold openT; rw [e1]; rfl
    have e3 : openE s = 400 := by unfold openE; rw [e1]; rfl
    rw [e2, e3]
    have h5 : decide ((s.size : Int) < 4) = true := by simp; omega
    go_enter Try.func7, Try.ntmps7
    go_wp2
    go_ret2
    exact ⟨rfl, Below.refl _ _⟩
  · have hza : (ahead s).size ≤ 281474976710648 := by unfold ahead; rw [ByteArray.size_extract]; omega
    have hb1 : (0 : Int) ≤ (s.size : Int) - 4 := by omega
    have hb2 : (s.size : Int) - 4 ≤ s.size := by omega
    have hb3 : ((s.size : Int) - 4).toNat = s.size - 4 := by omega
    have hah : s.extract 0 (s.size - 4) = ahead s := rfl
    have h5 : decide ((s.size : Int) < 4) = false := by simp; omega
    have T := Lib.hid (rseal_any (ahead s) (by omega))
    have hi := sealed_iff s (by omega)
    by_cases e : sealB (ahead s) = s
    · have e1 : isSealed s = true := hi.2 e
      have e2 : openT s = ahead s := by unfold openT; rw [e1]; rfl
      have e3 : openE s = 0 := by unfold openE; rw [e1]; rfl
      rw [e2, e3]
      have ne := toList_same e
      clear e1 e2 e3 e hi
      go_enter Try.func7, Try.ntmps7
      go_wp2_with (first
        | (go_at_call 11; refine (T.out _).mono ?_; rintro e w4 ⟨rfl, hb4⟩; have HB4 := Lib.hid hb4; clear hb4))
      go_ret2
      exact ⟨rfl, HB4.out⟩
    · have e1 : isSealed s = false := by rw [← Bool.not_eq_true, hi]; exact e
      have e2 : openT s = ByteArray.empty := by unfold openT; rw [e1]; rfl
      have e3 : openE s = 400 := by unfold openE; rw [e1]; rfl
      rw [e2, e3]
      have ne := toList_ne e
      clear e1 e2 e3 e hi
      go_enter Try.func7, Try.ntmps7
      go_wp2_with (first
        | (go_at_call 11; refine (T.out _).mono ?_; rintro e w4 ⟨rfl, hb4⟩; have HB4 := Lib.hid hb4; clear hb4))
      go_ret2
      exact ⟨rfl, HB4.out⟩

theorem num_any (n : Int) (w : World) : Calls Try.prog 12 #[.int .i64 n] w fun e w' => e = .returned (.int .i64 n) ∧ w = w' := by
  go_enter Try.func12, Try.ntmps12
  go_wp2
  go_ret
  exact ⟨rfl, rfl⟩
end Go.Proofs.Ytchgicgekfbdeaa
