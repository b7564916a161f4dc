/- The law on depths, walked. -/
import Derived.Test.YtcobadgpelhcoaaDoorJDep
import Derived.Deep.Cut
import Derived.Deep.CutRange
namespace Go.Proofs.YtcobadgpelhcoaaDoor
open Go.Conc Go.RowKit
set_option linter.unusedVariables false
set_option linter.unusedSimpArgs false

theorem below_fill6 {B : Nat} {a w : World} (h : Below B a w) {b : Nat} (hb : B ≤ b) (v0 v1 v2 v3 v4 v5 : Value) : Below B a (Fill6 w b v0 v1 v2 v3 v4 v5) :=
  (((((h.setCell (p := ⟨b, 0, none⟩) hb v0).setCell (p := ⟨b, 1, none⟩) hb v1).setCell (p := ⟨b, 2, none⟩) hb v2).setCell (p := ⟨b, 3, none⟩) hb v3).setCell (p := ⟨b, 4, none⟩) hb v4).setCell (p := ⟨b, 5, none⟩) hb v5
theorem i64_and31 (z : Int) : ∃ m : Nat, m < 32 ∧ bits .and .i64 z 31 = (m : Int) := by
  have e : (BitVec.ofInt 64 z).toNat &&& (BitVec.ofInt 64 31).toNat = (z % 32).toNat := by
    rw [show (BitVec.ofInt 64 31).toNat = 2 ^ 5 - 1 from rfl, Nat.and_two_pow_sub_one_eq_mod, BitVec.toNat_ofInt]
    omega
  refine ⟨(z % 32).toNat, by omega, ?_⟩
  show IntKind.i64.wrap ((BitVec.ofInt 64 z &&& BitVec.ofInt 64 31).toNat : Int) = _
  rw [BitVec.toNat_and, e]
  generalize hn : (z % 32).toNat = n
  have h32 : n < 32 := by omega
  clear hn e
  have e : (n : Int) % 2 ^ 64 = n := Int.emod_eq_of_lt (by omega) (by omega)
  simp only [IntKind.wrap, IntKind.bits, IntKind.signed, e]
  rw [if_neg]
  simp
  omega
theorem opB_false (i : Nat) : opB false (i + 1) = opB false i ++ ⟨#[91]⟩ := rfl
theorem opB_true (i : Nat) : opB true (i + 1) = opB true i ++ ⟨#[123, 34, 107, 34, 58]⟩ := rfl
theorem shB_false (i : Nat) : shB false (i + 1) = shB false i ++ ⟨#[93]⟩ := rfl
theorem shB_true (i : Nat) : shB true (i + 1) = shB true i ++ ⟨#[125]⟩ := rfl
theorem JIn.jin_all {F : Nat → Prop} {w : World} {j : J} {c : List Value} (h : JIn F w j c) : JIn (fun g => g < w.heap.size) w j c := h.mono fun g hg _ => hg
theorem bmk (s : ByteArray) : (⟨s.data.toList.toArray⟩ : ByteArray) = s := by cases s; simp
/-- The loop: the value so far stands in a block. -/
structure DepAt (obj : Bool) (jb i : Nat) (w wr : World) (x0 x1 x2 x3 x4 x5 : Value) : Prop where
  j6 : J6 wr jb x0 x1 x2 x3 x4 x5
  jin : JIn (fun g => g ≠ jb) wr (dJ obj i) [x0, x1, x2, x3, x4, x5]
  bel : Below w.heap.size w wr
  low : w.heap.size ≤ jb
theorem row1 {F : Nat → Prop} {w : World} {g : Nat} {a0 a1 a2 a3 a4 a5 : Value} (h : J6 w g a0 a1 a2 a3 a4 a5) (hF : F g) : RowIn F w 6 1 (.slice (some ⟨g, 0, none⟩) 1 1) [a0, a1, a2, a3, a4, a5] := by
  refine ⟨rfl, _, _, rfl, .inr ⟨g, 0, rfl, hF, (Array.getElem?_eq_some_iff.1 h).1, fun j u hj => ?_⟩⟩
  rw [Nat.zero_add, cell_of_row w g j _ _ _ h]
  simpa using hj
theorem key1 {F : Nat → Prop} {w : World} {g : Nat} {k : ByteArray} (h : w.heap[g]? = some (.cells #[.string k] 9 (0, 0))) (hF : F g) : RowIn F w 1 1 (.slice (some ⟨g, 0, none⟩) 1 1) [.string k] := by
  refine ⟨rfl, _, _, rfl, .inr ⟨g, 0, rfl, hF, (Array.getElem?_eq_some_iff.1 h).1, fun j u hj => ?_⟩⟩
  rw [Nat.zero_add, cell_of_row w g j _ _ _ h]
  simpa using hj
theorem jin_null (F : Nat → Prop) (w : World) : JIn F w (dJ false 0) [.int .i64 0, .bool false, .int .i64 0, .string ⟨#[]⟩, .slice none 0 0, .slice none 0 0] := JIn.plain 0 false 0 ByteArray.empty
theorem dep_list {jb i : Nat} {w wr : World} {x0 x1 x2 x3 x4 x5 : Value} (h : DepAt false jb i w wr x0 x1 x2 x3 x4 x5) :
    DepAt false jb (i + 1) w (((((((wr.setCell ⟨jb, 0, none⟩ (.int .i64 4)).setCell ⟨jb, 1, none⟩ (.bool false)).setCell ⟨jb, 2, none⟩ (.int .i64 0)).setCell ⟨jb, 3, none⟩ (.string ⟨#[]⟩)).setCell ⟨jb, 4, none⟩ (.slice (some ⟨wr.heap.size, 0, none⟩) 1 1)).setCell ⟨jb, 5, none⟩ (.slice none 0 0)).alloc (.cells #[x0, x1, x2, x3, x4, x5] 25))
      (.int .i64 4) (.bool false) (.int .i64 0) (.string ⟨#[]⟩) (.slice (some ⟨wr.heap.size, 0, none⟩) 1 1) (.slice none 0 0) := by
  have hlt : jb < wr.heap.size := (Array.getElem?_eq_some_iff.1 h.j6).1
  have hf := frm_fill6 wr jb (.int .i64 4) (.bool false) (.int .i64 0) (.string ⟨#[]⟩) (.slice (some ⟨wr.heap.size, 0, none⟩) 1 1) (.slice none 0 0)
  have h6 := h.j6.fill (.int .i64 4) (.bool false) (.int .i64 0) (.string ⟨#[]⟩) (.slice (some ⟨wr.heap.size, 0, none⟩) 1 1) (.slice none 0 0)
  have hj := h.jin.frm hf (fun g hg _ hP => hg hP)
  have hbel := below_fill6 h.bel h.low (.int .i64 4) (.bool false) (.int .i64 0) (.string ⟨#[]⟩) (.slice (some ⟨wr.heap.size, 0, none⟩) 1 1) (.slice none 0 0)
  have hs : (Fill6 wr jb (.int .i64 4) (.bool false) (.int .i64 0) (.string ⟨#[]⟩) (.slice (some ⟨wr.heap.size, 0, none⟩) 1 1) (.slice none 0 0)).heap.size = wr.heap.size := by simp [Fill6, World.setCell]
  have e : (((((wr.setCell ⟨jb, 0, none⟩ (.int .i64 4)).setCell ⟨jb, 1, none⟩ (.bool false)).setCell ⟨jb, 2, none⟩ (.int .i64 0)).setCell ⟨jb, 3, none⟩ (.string ⟨#[]⟩)).setCell ⟨jb, 4, none⟩ (.slice (some ⟨wr.heap.size, 0, none⟩) 1 1)).setCell ⟨jb, 5, none⟩ (.slice none 0 0) = Fill6 wr jb (.int .i64 4) (.bool false) (.int .i64 0) (.string ⟨#[]⟩) (.slice (some ⟨wr.heap.size, 0, none⟩) 1 1) (.slice none 0 0) := rfl
  rw [e]
  clear e
  generalize Fill6 wr jb (.int .i64 4) (.bool false) (.int .i64 0) (.string ⟨#[]⟩) (.slice (some ⟨wr.heap.size, 0, none⟩) 1 1) (.slice none 0 0) = wf at *
  have ha := (Below.refl _ wf).alloc (Nat.le_refl _) (.cells #[x0, x1, x2, x3, x4, x5] 25)
  have hn : J6 (wf.alloc (.cells #[x0, x1, x2, x3, x4, x5] 25)) wf.heap.size x0 x1 x2 x3 x4 x5 := j6_new wf _ _ _ _ _ _
  rw [hs] at hn
  have hsz : (wf.alloc (.cells #[x0, x1, x2, x3, x4, x5] 25)).heap.size = wr.heap.size + 1 := by rw [World.size_alloc, hs]
  have hj := jin_below hj ha
  have h6 := j6_below h6 ha
  have hbel := hbel.trans (ha.mono hbel.size)
  generalize wf.alloc (.cells #[x0, x1, x2, x3, x4, x5] 25) = wa at *
  refine ⟨h6, ?_, hbel, h.low⟩
  exact .mk 4 false 0 ByteArray.empty [dJ false i] [] _ _ [[x0, x1, x2, x3, x4, x5]] (row1 hn (by show wr.heap.size ≠ jb; omega)) ⟨rfl, _, _, rfl, .inl rfl⟩ rfl (fun q j c h1 h2 => by
    cases q with
    | zero => simp at h1 h2; subst h1 h2; exact hj
    | succ q => simp at h1)
theorem dep_obj {jb i : Nat} {w wr : World} {x0 x1 x2 x3 x4 x5 : Value} (h : DepAt true jb i w wr x0 x1 x2 x3 x4 x5) :
    DepAt true jb (i + 1) w ((((((((wr.setCell ⟨jb, 0, none⟩ (.int .i64 5)).setCell ⟨jb, 1, none⟩ (.bool false)).setCell ⟨jb, 2, none⟩ (.int .i64 0)).setCell ⟨jb, 3, none⟩ (.string ⟨#[]⟩)).setCell ⟨jb, 4, none⟩ (.slice (some ⟨wr.heap.size, 0, none⟩) 1 1)).setCell ⟨jb, 5, none⟩ (.slice (some ⟨wr.heap.size + 1, 0, none⟩) 1 1)).alloc (.cells #[x0, x1, x2, x3, x4, x5] 25)).alloc (.cells #[.string ⟨#[107]⟩] 9))
      (.int .i64 5) (.bool false) (.int .i64 0) (.string ⟨#[]⟩) (.slice (some ⟨wr.heap.size, 0, none⟩) 1 1) (.slice (some ⟨wr.heap.size + 1, 0, none⟩) 1 1) := by
  have hlt : jb < wr.heap.size := (Array.getElem?_eq_some_iff.1 h.j6).1
  have hf := frm_fill6 wr jb (.int .i64 5) (.bool false) (.int .i64 0) (.string ⟨#[]⟩) (.slice (some ⟨wr.heap.size, 0, none⟩) 1 1) (.slice (some ⟨wr.heap.size + 1, 0, none⟩) 1 1)
  have h6 := h.j6.fill (.int .i64 5) (.bool false) (.int .i64 0) (.string ⟨#[]⟩) (.slice (some ⟨wr.heap.size, 0, none⟩) 1 1) (.slice (some ⟨wr.heap.size + 1, 0, none⟩) 1 1)
  have hj := h.jin.frm hf (fun g hg _ hP => hg hP)
  have hbel := below_fill6 h.bel h.low (.int .i64 5) (.bool false) (.int .i64 0) (.string ⟨#[]⟩) (.slice (some ⟨wr.heap.size, 0, none⟩) 1 1) (.slice (some ⟨wr.heap.size + 1, 0, none⟩) 1 1)
  have hs : (Fill6 wr jb (.int .i64 5) (.bool false) (.int .i64 0) (.string ⟨#[]⟩) (.slice (some ⟨wr.heap.size, 0, none⟩) 1 1) (.slice (some ⟨wr.heap.size + 1, 0, none⟩) 1 1)).heap.size = wr.heap.size := by simp [Fill6, World.setCell]
  have e : (((((wr.setCell ⟨jb, 0, none⟩ (.int .i64 5)).setCell ⟨jb, 1, none⟩ (.bool false)).setCell ⟨jb, 2, none⟩ (.int .i64 0)).setCell ⟨jb, 3, none⟩ (.string ⟨#[]⟩)).setCell ⟨jb, 4, none⟩ (.slice (some ⟨wr.heap.size, 0, none⟩) 1 1)).setCell ⟨jb, 5, none⟩ (.slice (some ⟨wr.heap.size + 1, 0, none⟩) 1 1) = Fill6 wr jb (.int .i64 5) (.bool false) (.int .i64 0) (.string ⟨#[]⟩) (.slice (some ⟨wr.heap.size, 0, none⟩) 1 1) (.slice (some ⟨wr.heap.size + 1, 0, none⟩) 1 1) := rfl
  rw [e]
  clear e
  generalize Fill6 wr jb (.int .i64 5) (.bool false) (.int .i64 0) (.string ⟨#[]⟩) (.slice (some ⟨wr.heap.size, 0, none⟩) 1 1) (.slice (some ⟨wr.heap.size + 1, 0, none⟩) 1 1) = wf at *
  have ha := (Below.refl _ wf).alloc (Nat.le_refl _) (.cells #[x0, x1, x2, x3, x4, x5] 25)
  have hn : J6 (wf.alloc (.cells #[x0, x1, x2, x3, x4, x5] 25)) wf.heap.size x0 x1 x2 x3 x4 x5 := j6_new wf _ _ _ _ _ _
  rw [hs] at hn
  have hsz : (wf.alloc (.cells #[x0, x1, x2, x3, x4, x5] 25)).heap.size = wr.heap.size + 1 := by rw [World.size_alloc, hs]
  have hj := jin_below hj ha
  have h6 := j6_below h6 ha
  have hbel := hbel.trans (ha.mono hbel.size)
  generalize wf.alloc (.cells #[x0, x1, x2, x3, x4, x5] 25) = wa at *
  have hb := (Below.refl _ wa).alloc (Nat.le_refl _) (.cells #[.string ⟨#[107]⟩] 9)
  have hk : (wa.alloc (.cells #[.string ⟨#[107]⟩] 9)).heap[wr.heap.size + 1]? = some (.cells #[.string ⟨#[107]⟩] 9 (0, 0)) := by rw [← hsz]; exact heap_alloc_new wa _
  have hj := jin_below hj hb
  have h6 := j6_below h6 hb
  have hn := j6_below hn hb
  have hbel := hbel.trans (hb.mono hbel.size)
  generalize wa.alloc (.cells #[.string ⟨#[107]⟩] 9) = wb at *
  refine ⟨h6, ?_, hbel, h.low⟩
  exact .mk 5 false 0 ByteArray.empty [dJ true i] [keyK] _ _ [[x0, x1, x2, x3, x4, x5]] (row1 hn (by show wr.heap.size ≠ jb; omega)) (key1 hk (by show wr.heap.size + 1 ≠ jb; omega)) rfl (fun q j c h1 h2 => by
    cases q with
    | zero => simp at h1 h2; subst h1 h2; exact hj
    | succ q => simp at h1)

set_option maxHeartbeats 8000000 in
set_option maxRecDepth 100000 in
theorem jsonDepths_false (B : Nat) (many : Int) (w : World) (ht : TabLow B w) (hB : B ≤ w.heap.size) :
    Calls Tryd.prog 7 #[.int .i64 many, .bool false] w fun e w' => e = .returned (.bool true) ∧ Below w.heap.size w w' := by
  have HA := Lib.hid (jawake_any B w ht hB)
  have HT := Lib.hid ht
  obtain ⟨m, hm, em⟩ := i64_and31 many
  clear ht
  go_enter Tryd.func7, Tryd.ntmps7
  go_wp2_with (go_at_call 14; refine HA.out.mono ?_; rintro e w0 ⟨rfl, hb0⟩; have HB0 := Lib.hid hb0; clear hb0)
  go_loopw [9, 10, 11] (fun sv tv iv wr => ∃ (i : Nat) (x0 x1 x2 x3 x4 x5 : Value), iv = .int .i64 i ∧ i ≤ m ∧ sv = .string (opB false i) ∧ tv = .string (shB false i) ∧ DepAt false w0.heap.size i w0 wr x0 x1 x2 x3 x4 x5) (fun _ _ iv _ => m - (intOf iv).toNat)
  case atStart =>
    refine ⟨0, _, _, _, _, _, _, rfl, by omega, rfl, rfl, j6_new w0 _ _ _ _ _ _, ?_, (Below.refl _ w0).alloc (Nat.le_refl _) _, Nat.le_refl _⟩
    exact jin_null _ _
  case round =>
    obtain ⟨i, x0, x1, x2, x3, x4, x5, rfl, hi, rfl, rfl, hd⟩ := hrel
    have c0 := hd.j6.c0; have c1 := hd.j6.c1; have c2 := hd.j6.c2; have c3 := hd.j6.c3; have c4 := hd.j6.c4; have c5 := hd.j6.c5
    have z0 := hd.j6.fz 0; have z1 := hd.j6.fz 1; have z2 := hd.j6.fz 2; have z3 := hd.j6.fz 3; have z4 := hd.j6.fz 4; have z5 := hd.j6.fz 5
    have hlt : w0.heap.size < wr.heap.size := (Array.getElem?_eq_some_iff.1 hd.j6).1
    have HD := Lib.hid hd
    have so := opB_size false i
    have ss := shB_size false i
    clear hd
    by_cases him : i = m
    · subst him
      have g0 : decide ((i : Int) < (i : Int)) = false := by simp
      have hz : (dB false i).size ≤ 200 := by have := dB_size false i; omega
      have hdB : opB false i ++ ⟨#[110, 117, 108, 108]⟩ ++ shB false i = dB false i := rfl
      have hbw : Below w.heap.size w wr := HB0.out.trans (HD.out.bel.mono HB0.out.size)
      have HBW := Lib.hid hbw
      clear hbw
      have HTU : Hid (∀ u : World, Below wr.heap.size wr u → TabLow B u ∧ B ≤ u.heap.size) := fun u hu =>
        have h2 := HBW.out.trans (hu.mono HBW.out.size)
        ⟨HT.out.keep fun g hg => h2.block g (by omega), by have := h2.size; omega⟩
      by_cases h16 : 16 < i
      · have HP : Hid (∀ u : World, Calls Tryd.prog 10 #[.string (dB false i)] u fun e w' => e = .returned (.tuple #[zJ, .int .i64 301]) ∧ Below u.heap.size u w') := by
          intro u
          have hp := jparse_any (dB false i) u (by omega)
          rw [d_parse false i hm, if_pos h16] at hp
          exact hp
        have HQ : Hid (∀ u : World, Below wr.heap.size wr u → Calls Tryd.prog 15 #[.agg #[x0, x1, x2, x3, x4, x5]] u fun e w' => e = .returned (.tuple #[.string ⟨#[]⟩, .int .i64 301]) ∧ Below u.heap.size u w') := by
          intro u hu
          have hp := jprint_any B (dJ false i) [x0, x1, x2, x3, x4, x5] u ((jin_below HD.out.jin hu).jin_all) (dJ_sm false i) (HTU.out u hu).1 (HTU.out u hu).2
          rw [d_print false i hm, if_pos h16] at hp
          exact hp
        have gd : decide ((i : Int) > 16) = true := by simp; omega
        have gd2 : (16 : Int) < (i : Int) := by omega
        go_wp2_with (first
          | (go_at_call 10; refine (HP.out _).mono ?_; rintro e w2 ⟨he, hb2⟩; unfold zJ at he; subst he; have HB2 := Lib.hid hb2
             have h6 := j6_below HD.out.j6 hb2; have r0 := h6.c0; have r1 := h6.c1; have r2 := h6.c2; have r3 := h6.c3; have r4 := h6.c4; have r5 := h6.c5; have hlt2 := Nat.lt_of_lt_of_le hlt hb2.size; clear h6 hb2)
          | (go_at_call 15; refine (HQ.out _ (HB2.out.alloc HB2.out.size _)).mono ?_; rintro e w3 ⟨rfl, hb3⟩; have HB3 := Lib.hid hb3; clear hb3)
          | (go_at_call 13; refine (num_any _ _).mono ?_; rintro e w' ⟨rfl, rfl⟩))
        go_ret
        have b2 := HBW.out.trans ((HB2.out.alloc HB2.out.size (.cells #[.int .i64 0, .bool false, .int .i64 0, .string ⟨#[]⟩, .slice none 0 0, .slice none 0 0] 25)).mono HBW.out.size)
        exact ⟨rfl, b2.trans (HB3.out.mono b2.size)⟩
      · have HP : Hid (∀ u : World, Calls Tryd.prog 10 #[.string (dB false i)] u fun e w' => ∃ cs : List Value, e = .returned (.tuple #[.agg cs.toArray, .int .i64 0]) ∧ Below u.heap.size u w' ∧ JIn (fun g => u.heap.size ≤ g) w' (dJ false i) cs) := by
          intro u
          have hp := jparse_any (dB false i) u (by omega)
          rw [d_parse false i hm, if_neg h16] at hp
          exact hp
        have HQ : Hid (∀ u : World, Below wr.heap.size wr u → Calls Tryd.prog 15 #[.agg #[x0, x1, x2, x3, x4, x5]] u fun e w' => e = .returned (.tuple #[.string (dB false i), .int .i64 0]) ∧ Below u.heap.size u w') := by
          intro u hu
          have hp := jprint_any B (dJ false i) [x0, x1, x2, x3, x4, x5] u ((jin_below HD.out.jin hu).jin_all) (dJ_sm false i) (HTU.out u hu).1 (HTU.out u hu).2
          rw [d_print false i hm, if_neg h16] at hp
          have hp : Calls Tryd.prog 15 #[.agg #[x0, x1, x2, x3, x4, x5]] u fun e w' => e = .returned (.tuple #[.string ⟨(dB false i).data.toList.toArray⟩, .int .i64 0]) ∧ Below u.heap.size u w' := hp
          rw [bmk] at hp
          exact hp
        have gd : decide ((i : Int) > 16) = false := by simp; omega
        have gd2 : ¬ (16 : Int) < (i : Int) := by omega
        have HS := Lib.hid (same_json (dJ_sm false i))
        go_wp2_with (first
          | (go_at_call 10; refine (HP.out _).mono ?_; rintro e w2 ⟨cs, rfl, hb2, hjc⟩; have HB2 := Lib.hid hb2
             obtain ⟨yk, yb, yn, ys, yla, yll, ylc, yka, ykl, ykc, rfl⟩ := hjc.form
             have h6 := j6_below HD.out.j6 hb2; have r0 := h6.c0; have r1 := h6.c1; have r2 := h6.c2; have r3 := h6.c3; have r4 := h6.c4; have r5 := h6.c5; have hlt2 := Nat.lt_of_lt_of_le hlt hb2.size
             have HY := Lib.hid hjc
             clear h6 hb2 hjc)
          | (go_at_call 15
             have hal := (Below.refl _ w2).alloc (Nat.le_refl _) (.cells #[.int .i64 yk, .bool yb, .int .i64 yn, .string ys, .slice yla yll ylc, .slice yka ykl ykc] 25)
             refine (HQ.out _ (HB2.out.trans (hal.mono HB2.out.size))).mono ?_; rintro e w3 ⟨rfl, hb3⟩
             have hb23 := hal.trans (hb3.mono hal.size)
             have h6 := j6_below HD.out.j6 (HB2.out.trans (hb23.mono HB2.out.size)); have p0 := h6.c0; have p1 := h6.c1; have p2 := h6.c2; have p3 := h6.c3; have p4 := h6.c4; have p5 := h6.c5
             have hy6 := j6_below (j6_new w2 (.int .i64 yk) (.bool yb) (.int .i64 yn) (.string ys) (.slice yla yll ylc) (.slice yka ykl ykc)) hb3; have q0 := hy6.c0; have q1 := hy6.c1; have q2 := hy6.c2; have q3 := hy6.c3; have q4 := hy6.c4; have q5 := hy6.c5
             have HB23 := Lib.hid hb23
             clear hal hb3 hb23 h6 hy6)
          | (go_at_call 13; refine (num_any _ _).mono ?_; rintro e w' ⟨rfl, rfl⟩)
          | (go_at_call 12; refine (HS.out _ _ [.int .i64 yk, .bool yb, .int .i64 yn, .string ys, .slice yla yll ylc, .slice yka ykl ykc] [x0, x1, x2, x3, x4, x5] _ (jin_below HY.out HB23.out) (jin_below (jin_below HD.out.jin HB2.out) HB23.out)).mono ?_; rintro e w4 ⟨rfl, hb4⟩; have HB4 := Lib.hid hb4; clear hb4))
        go_ret
        have b2 := HBW.out.trans (HB2.out.mono HBW.out.size)
        have b3 := b2.trans (HB23.out.mono b2.size)
        exact ⟨rfl, b3.trans (HB4.out.mono b3.size)⟩
    · have g0 : decide ((i : Int) < (m : Int)) = true := by simp; omega
      have hin : (i : Int) < (m : Int) := by omega
      go_wp2
      go_roundw
      case rel =>
        refine ⟨i + 1, _, _, _, _, _, _, by go_num, by omega, congrArg Value.string (opB_false i).symm, congrArg Value.string (shB_false i).symm, dep_list HD.out⟩
      case measure => simp [intOf]; omega

set_option maxHeartbeats 8000000 in
set_option maxRecDepth 100000 in
theorem jsonDepths_true (B : Nat) (many : Int) (w : World) (ht : TabLow B w) (hB : B ≤ w.heap.size) :
    Calls Tryd.prog 7 #[.int .i64 many, .bool true] w fun e w' => e = .returned (.bool true) ∧ Below w.heap.size w w' := by
  have HA := Lib.hid (jawake_any B w ht hB)
  have HT := Lib.hid ht
  obtain ⟨m, hm, em⟩ := i64_and31 many
  clear ht
  go_enter Tryd.func7, Tryd.ntmps7
  go_wp2_with (go_at_call 14; refine HA.out.mono ?_; rintro e w0 ⟨rfl, hb0⟩; have HB0 := Lib.hid hb0; clear hb0)
  go_loopw [9, 10, 11] (fun sv tv iv wr => ∃ (i : Nat) (x0 x1 x2 x3 x4 x5 : Value), iv = .int .i64 i ∧ i ≤ m ∧ sv = .string (opB true i) ∧ tv = .string (shB true i) ∧ DepAt true w0.heap.size i w0 wr x0 x1 x2 x3 x4 x5) (fun _ _ iv _ => m - (intOf iv).toNat)
  case atStart =>
    refine ⟨0, _, _, _, _, _, _, rfl, by omega, rfl, rfl, j6_new w0 _ _ _ _ _ _, ?_, (Below.refl _ w0).alloc (Nat.le_refl _) _, Nat.le_refl _⟩
    exact jin_null _ _
  case round =>
    obtain ⟨i, x0, x1, x2, x3, x4, x5, rfl, hi, rfl, rfl, hd⟩ := hrel
    have c0 := hd.j6.c0; have c1 := hd.j6.c1; have c2 := hd.j6.c2; have c3 := hd.j6.c3; have c4 := hd.j6.c4; have c5 := hd.j6.c5
    have z0 := hd.j6.fz 0; have z1 := hd.j6.fz 1; have z2 := hd.j6.fz 2; have z3 := hd.j6.fz 3; have z4 := hd.j6.fz 4; have z5 := hd.j6.fz 5
    have hlt : w0.heap.size < wr.heap.size := (Array.getElem?_eq_some_iff.1 hd.j6).1
    have HD := Lib.hid hd
    have so := opB_size true i
    have ss := shB_size true i
    clear hd
    by_cases him : i = m
    · subst him
      have g0 : decide ((i : Int) < (i : Int)) = false := by simp
      have hz : (dB true i).size ≤ 200 := by have := dB_size true i; omega
      have hdB : opB true i ++ ⟨#[110, 117, 108, 108]⟩ ++ shB true i = dB true i := rfl
      have hbw : Below w.heap.size w wr := HB0.out.trans (HD.out.bel.mono HB0.out.size)
      have HBW := Lib.hid hbw
      clear hbw
      have HTU : Hid (∀ u : World, Below wr.heap.size wr u → TabLow B u ∧ B ≤ u.heap.size) := fun u hu =>
        have h2 := HBW.out.trans (hu.mono HBW.out.size)
        ⟨HT.out.keep fun g hg => h2.block g (by omega), by have := h2.size; omega⟩
      by_cases h16 : 16 < i
      · have HP : Hid (∀ u : World, Calls Tryd.prog 10 #[.string (dB true i)] u fun e w' => e = .returned (.tuple #[zJ, .int .i64 301]) ∧ Below u.heap.size u w') := by
          intro u
          have hp := jparse_any (dB true i) u (by omega)
          rw [d_parse true i hm, if_pos h16] at hp
          exact hp
        have HQ : Hid (∀ u : World, Below wr.heap.size wr u → Calls Tryd.prog 15 #[.agg #[x0, x1, x2, x3, x4, x5]] u fun e w' => e = .returned (.tuple #[.string ⟨#[]⟩, .int .i64 301]) ∧ Below u.heap.size u w') := by
          intro u hu
          have hp := jprint_any B (dJ true i) [x0, x1, x2, x3, x4, x5] u ((jin_below HD.out.jin hu).jin_all) (dJ_sm true i) (HTU.out u hu).1 (HTU.out u hu).2
          rw [d_print true i hm, if_pos h16] at hp
          exact hp
        have gd : decide ((i : Int) > 16) = true := by simp; omega
        have gd2 : (16 : Int) < (i : Int) := by omega
        go_wp2_with (first
          | (go_at_call 10; refine (HP.out _).mono ?_; rintro e w2 ⟨he, hb2⟩; unfold zJ at he; subst he; have HB2 := Lib.hid hb2
             have h6 := j6_below HD.out.j6 hb2; have r0 := h6.c0; have r1 := h6.c1; have r2 := h6.c2; have r3 := h6.c3; have r4 := h6.c4; have r5 := h6.c5; have hlt2 := Nat.lt_of_lt_of_le hlt hb2.size; clear h6 hb2)
          | (go_at_call 15; refine (HQ.out _ (HB2.out.alloc HB2.out.size _)).mono ?_; rintro e w3 ⟨rfl, hb3⟩; have HB3 := Lib.hid hb3; clear hb3)
          | (go_at_call 13; refine (num_any _ _).mono ?_; rintro e w' ⟨rfl, rfl⟩))
        go_ret
        have b2 := HBW.out.trans ((HB2.out.alloc HB2.out.size (.cells #[.int .i64 0, .bool false, .int .i64 0, .string ⟨#[]⟩, .slice none 0 0, .slice none 0 0] 25)).mono HBW.out.size)
        exact ⟨rfl, b2.trans (HB3.out.mono b2.size)⟩
      · have HP : Hid (∀ u : World, Calls Tryd.prog 10 #[.string (dB true i)] u fun e w' => ∃ cs : List Value, e = .returned (.tuple #[.agg cs.toArray, .int .i64 0]) ∧ Below u.heap.size u w' ∧ JIn (fun g => u.heap.size ≤ g) w' (dJ true i) cs) := by
          intro u
          have hp := jparse_any (dB true i) u (by omega)
          rw [d_parse true i hm, if_neg h16] at hp
          exact hp
        have HQ : Hid (∀ u : World, Below wr.heap.size wr u → Calls Tryd.prog 15 #[.agg #[x0, x1, x2, x3, x4, x5]] u fun e w' => e = .returned (.tuple #[.string (dB true i), .int .i64 0]) ∧ Below u.heap.size u w') := by
          intro u hu
          have hp := jprint_any B (dJ true i) [x0, x1, x2, x3, x4, x5] u ((jin_below HD.out.jin hu).jin_all) (dJ_sm true i) (HTU.out u hu).1 (HTU.out u hu).2
          rw [d_print true i hm, if_neg h16] at hp
          have hp : Calls Tryd.prog 15 #[.agg #[x0, x1, x2, x3, x4, x5]] u fun e w' => e = .returned (.tuple #[.string ⟨(dB true i).data.toList.toArray⟩, .int .i64 0]) ∧ Below u.heap.size u w' := hp
          rw [bmk] at hp
          exact hp
        have gd : decide ((i : Int) > 16) = false := by simp; omega
        have gd2 : ¬ (16 : Int) < (i : Int) := by omega
        have HS := Lib.hid (same_json (dJ_sm true i))
        go_wp2_with (first
          | (go_at_call 10; refine (HP.out _).mono ?_; rintro e w2 ⟨cs, rfl, hb2, hjc⟩; have HB2 := Lib.hid hb2
             obtain ⟨yk, yb, yn, ys, yla, yll, ylc, yka, ykl, ykc, rfl⟩ := hjc.form
             have h6 := j6_below HD.out.j6 hb2; have r0 := h6.c0; have r1 := h6.c1; have r2 := h6.c2; have r3 := h6.c3; have r4 := h6.c4; have r5 := h6.c5; have hlt2 := Nat.lt_of_lt_of_le hlt hb2.size
             have HY := Lib.hid hjc
             clear h6 hb2 hjc)
          | (go_at_call 15
             have hal := (Below.refl _ w2).alloc (Nat.le_refl _) (.cells #[.int .i64 yk, .bool yb, .int .i64 yn, .string ys, .slice yla yll ylc, .slice yka ykl ykc] 25)
             refine (HQ.out _ (HB2.out.trans (hal.mono HB2.out.size))).mono ?_; rintro e w3 ⟨rfl, hb3⟩
             have hb23 := hal.trans (hb3.mono hal.size)
             have h6 := j6_below HD.out.j6 (HB2.out.trans (hb23.mono HB2.out.size)); have p0 := h6.c0; have p1 := h6.c1; have p2 := h6.c2; have p3 := h6.c3; have p4 := h6.c4; have p5 := h6.c5
             have hy6 := j6_below (j6_new w2 (.int .i64 yk) (.bool yb) (.int .i64 yn) (.string ys) (.slice yla yll ylc) (.slice yka ykl ykc)) hb3; have q0 := hy6.c0; have q1 := hy6.c1; have q2 := hy6.c2; have q3 := hy6.c3; have q4 := hy6.c4; have q5 := hy6.c5
             have HB23 := Lib.hid hb23
             clear hal hb3 hb23 h6 hy6)
          | (go_at_call 13; refine (num_any _ _).mono ?_; rintro e w' ⟨rfl, rfl⟩)
          | (go_at_call 12; refine (HS.out _ _ [.int .i64 yk, .bool yb, .int .i64 yn, .string ys, .slice yla yll ylc, .slice yka ykl ykc] [x0, x1, x2, x3, x4, x5] _ (jin_below HY.out HB23.out) (jin_below (jin_below HD.out.jin HB2.out) HB23.out)).mono ?_; rintro e w4 ⟨rfl, hb4⟩; have HB4 := Lib.hid hb4; clear hb4))
        go_ret
        have b2 := HBW.out.trans (HB2.out.mono HBW.out.size)
        have b3 := b2.trans (HB23.out.mono b2.size)
        exact ⟨rfl, b3.trans (HB4.out.mono b3.size)⟩
    · have g0 : decide ((i : Int) < (m : Int)) = true := by simp; omega
      have hin : (i : Int) < (m : Int) := by omega
      go_wp2
      go_roundw
      case rel =>
        refine ⟨i + 1, _, _, _, _, _, _, by go_num, by omega, congrArg Value.string (opB_true i).symm, congrArg Value.string (shB_true i).symm, dep_obj HD.out⟩
      case measure => simp [intOf]; omega

theorem jsonDepths_walk (B : Nat) (many : Int) (obj : Bool) (w : World) (ht : TabLow B w) (hB : B ≤ w.heap.size) :
    Calls Tryd.prog 7 #[.int .i64 many, .bool obj] w fun e w' => e = .returned (.bool true) ∧ Below w.heap.size w w' := by
  cases obj
  · exact jsonDepths_false B many w ht hB
  · exact jsonDepths_true B many w ht hB
end Go.Proofs.YtcobadgpelhcoaaDoor
