/- The document's parser: a value at a place. -/
import Derived.Test.YtcobadgpelhcoaaDoorNum2
import Derived.Test.YtcobadgpelhcoaaDoorText
import Derived.Test.YtcobadgpelhcoaaDoorDParse
import Derived.BigQuiet
namespace Go.Proofs.YtcobadgpelhcoaaDoor
open Go.Conc Go.RowKit
set_option linter.unusedVariables false
set_option linter.unusedSimpArgs false

/-- What is read there, and where it stands then. -/
def PVm (k : Nat) (c : Int) (F : Nat → Prop) (w : World) (r : Rd J) (cs : List Value) : Prop :=
  match r with | .ok (j, k') => k = k' ∧ c = 0 ∧ JIn F w j cs | .error x => c = x ∧ (x = 300 ∨ x = 301)
/-- It answers a value in new memory and stands behind it; or it has failed. -/
def PV (pb : Nat) (s : ByteArray) (r : Rd J) (w : World) (e : Ending) (w' : World) : Prop :=
  ∃ (k0 : Int) (b0 : Bool) (n0 : Int) (t0 : ByteArray) (la : Option Addr) (nl lc : Nat) (ka : Option Addr) (nk kc : Nat) (k : Nat) (c : Int), e = .returned (.agg #[.int .i64 k0, .bool b0, .int .i64 n0, .string t0, .slice la nl lc, .slice ka nk kc]) ∧ k ≤ s.size ∧ PAt w' pb s k c ∧ Frm (One pb) w w' ∧
    PVm k c (fun g => w.heap.size ≤ g) w' r [.int .i64 k0, .bool b0, .int .i64 n0, .string t0, .slice la nl lc, .slice ka nk kc]
/-- The answer stands in a block of its own. -/
theorem pv_fin {pb rb k : Nat} {s : ByteArray} {r : Rd J} {w v : World} {c : Int} {z0 z1 z2 z3 z4 z5 : Value} (k0 : Int) (b0 : Bool) (n0 : Int) (t0 : ByteArray) (la : Option Addr) (nl lc : Nat) (ka : Option Addr) (nk kc : Nat) (hr : J6 v rb z0 z1 z2 z3 z4 z5) (hp : PAt v pb s k c) (hf : Frm (One pb) w v) (hk : k ≤ s.size) (hrb : w.heap.size ≤ rb) (hne : rb ≠ pb)
    (hm : PVm k c (fun g => w.heap.size ≤ g ∧ g ≠ rb) v r [.int .i64 k0, .bool b0, .int .i64 n0, .string t0, .slice la nl lc, .slice ka nk kc]) :
    PV pb s r w (.returned (.agg #[.int .i64 k0, .bool b0, .int .i64 n0, .string t0, .slice la nl lc, .slice ka nk kc])) (Fill6 v rb (.int .i64 k0) (.bool b0) (.int .i64 n0) (.string t0) (.slice la nl lc) (.slice ka nk kc)) := by
  have hff := frm_fill6 v rb (.int .i64 k0) (.bool b0) (.int .i64 n0) (.string t0) (.slice la nl lc) (.slice ka nk kc)
  refine ⟨k0, b0, n0, t0, la, nl, lc, ka, nk, kc, k, c, rfl, hk, (hff.block pb hp.lt (fun e => hne e.symm)).trans hp, frm_new_one hf hrb hff, ?_⟩
  cases r with
  | error x => exact hm
  | ok jk =>
    obtain ⟨j, k'⟩ := jk
    exact ⟨hm.1, hm.2.1, (hm.2.2.frm hff fun g hg _ hP => hg.2 hP).mono fun g _ hg => hg.1⟩
theorem PAt.frm {w w' : World} {pb i : Nat} {s : ByteArray} {code : Int} {F : Nat → Prop} (h : PAt w pb s i code) (hf : Frm F w w') (hF : ¬ F pb) : PAt w' pb s i code := (hf.block pb h.lt hF).trans h
theorem word_first {c : UInt8} {t : List UInt8} {s : ByteArray} {i : Nat} (hi : i < s.size) (h : s[i] ≠ c) : wordAt (c :: t) s.data.toList i = false := by
  unfold wordAt
  rw [List.drop_eq_getElem_cons (by simpa using hi)]
  have : s.data.toList[i]'(by simpa using hi) = s[i] := rfl
  simp only [List.isPrefixOf, this, Bool.and_eq_false_iff, beq_eq_false_iff_ne]
  exact .inl (fun e => h e.symm)

/-- A text as a value; a number. -/
def txR (r : Rd (List UInt8)) : Rd J := match r with | .error e => .error e | .ok (t, k) => .ok (jText ⟨t.toArray⟩, k)
def nmR (r : Rd Int) : Rd J := match r with | .error e => .error e | .ok (n, k) => .ok (jInt n, k)

set_option maxHeartbeats 8000000 in
set_option maxRecDepth 100000 in
theorem pval_end (pb : Nat) (s : ByteArray) (i : Nat) (deep : Int) (w : World) (h : PAt w pb s i 0) (hs : s.size ≤ 65536) (hi : i = s.size) :
    Calls Tryd.prog 23 #[.pointer (some ⟨pb, 0, none⟩), .int .i64 deep] w (PV pb s ((.error 300 : Rd J)) w) := by
  have hlt := h.lt
  have hne : w.heap.size ≠ pb := by omega
  have hA := (Below.refl _ w).alloc (Nat.le_refl _) (.cells #[.int .i64 0, .bool false, .int .i64 0, .string ⟨#[]⟩, .slice none 0 0, .slice none 0 0] 25)
  have hP := h.new hA
  have HP0 := Lib.hid hP
  have HR0 := Lib.hid (j6_new w (.int .i64 0) (.bool false) (.int .i64 0) (.string ⟨#[]⟩) (.slice none 0 0) (.slice none 0 0))
  have HF0 := Lib.hid (Frm.of_new hA (One pb))
  have c0 := hP.c0
  have c1 := hP.c1
  have c2 := hP.c2
  have q0 := hP.fz 2
  clear h hA hP hlt
  have g0 : decide ((i : Int) ≥ (s.size : Int)) = true := by simp; omega
  have g1 : (s.size : Int) ≤ (i : Int) := by omega
  go_enter Tryd.func23, Tryd.ntmps23
  go_wp2
  generalize w.alloc (.cells #[.int .i64 0, .bool false, .int .i64 0, .string ⟨#[]⟩, .slice none 0 0, .slice none 0 0] 25) = wa at *
  go_quiet (fail)
  go_wp2_with (first
    | (go_at_call 24; refine (pfail_any pb s i 0 300 _ (HP0.out.drewN _)).mono ?_; rintro e w1 ⟨rfl, p1, f1⟩; have HP1 := Lib.hid p1; have HF1 := Lib.hid f1; clear p1 f1
       have HR1 := Lib.hid ((HR0.out.drewN nq).frm HF1.out hne)
       have r0 := HR1.out.c0; have r1 := HR1.out.c1; have r2 := HR1.out.c2; have r3 := HR1.out.c3; have r4 := HR1.out.c4; have r5 := HR1.out.c5
       have z0 := HR1.out.fz 0; have z1 := HR1.out.fz 1; have z2 := HR1.out.fz 2; have z3 := HR1.out.fz 3; have z4 := HR1.out.fz 4; have z5 := HR1.out.fz 5))
  have hv := HR1.out.fill (.int .i64 0) (.bool false) (.int .i64 0) (.string ⟨#[]⟩) (.slice none 0 0) (.slice none 0 0)
  change bodyPost _ _ _ _ _ (Fill6 w1 w.heap.size (.int .i64 0) (.bool false) (.int .i64 0) (.string ⟨#[]⟩) (.slice none 0 0) (.slice none 0 0))
  have hfin := pv_fin (r := ((.error 300 : Rd J))) 0 false 0 ⟨#[]⟩ none 0 0 none 0 0 HR1.out HP1.out ((HF0.out.drewN nq).trans HF1.out) (by omega) (Nat.le_refl _) hne ⟨rfl, .inl rfl⟩
  generalize Fill6 w1 w.heap.size (.int .i64 0) (.bool false) (.int .i64 0) (.string ⟨#[]⟩) (.slice none 0 0) (.slice none 0 0) = v at *
  exact bodyPost_ret (v := .agg #[.int .i64 0, .bool false, .int .i64 0, .string ⟨#[]⟩, .slice none 0 0, .slice none 0 0]) (by simp [results, Tryd.results23, go_sem, hv.c0, hv.c1, hv.c2, hv.c3, hv.c4, hv.c5]) rfl hfin

set_option maxHeartbeats 8000000 in
set_option maxRecDepth 100000 in
theorem pval_null (pb : Nat) (s : ByteArray) (i : Nat) (deep : Int) (w : World) (h : PAt w pb s i 0) (hs : s.size ≤ 65536) (hi : i < s.size) (hk : i + 4 ≤ s.size) (hw : wordAt [110, 117, 108, 108] s.data.toList i = true) :
    Calls Tryd.prog 23 #[.pointer (some ⟨pb, 0, none⟩), .int .i64 deep] w (PV pb s (.ok (jNull, i + 4)) w) := by
  have hi' : i < s.size := hi
  have hlt := h.lt
  have hne : w.heap.size ≠ pb := by omega
  have hA := (Below.refl _ w).alloc (Nat.le_refl _) (.cells #[.int .i64 0, .bool false, .int .i64 0, .string ⟨#[]⟩, .slice none 0 0, .slice none 0 0] 25)
  have hP := h.new hA
  have HP0 := Lib.hid hP
  have HR0 := Lib.hid (j6_new w (.int .i64 0) (.bool false) (.int .i64 0) (.string ⟨#[]⟩) (.slice none 0 0) (.slice none 0 0))
  have HF0 := Lib.hid (Frm.of_new hA (One pb))
  have c0 := hP.c0
  have c1 := hP.c1
  have c2 := hP.c2
  have q0 := hP.fz 2
  clear h hA hP hlt
  have TN : Hid (∀ u, PAt u pb s i 0 → Calls Tryd.prog 34 #[.pointer (some ⟨pb, 0, none⟩), .string ⟨#[110, 117, 108, 108]⟩] u (PTold pb s (i + 4) 0 (.bool true) u)) := by
    intro u hu
    have := pword_any pb s ⟨#[110, 117, 108, 108]⟩ i 0 u hu (by omega) hs (by decide)
    rw [show (ByteArray.mk #[110, 117, 108, 108]).data.toList = [110, 117, 108, 108] from rfl, hw] at this
    exact this
  have g0 : decide ((i : Int) ≥ (s.size : Int)) = false := by simp; omega
  have g1 : ¬ (s.size : Int) ≤ (i : Int) := by omega
  have g2 : (i : Int) < (s.size : Int) := by omega
  have g3 : (0 : Int) ≤ (i : Int) := by omega
  have ge : ((i : Int).toNat) = i := by omega
  have gx : s.data[i]? = some s[i] := by simp [hi']; rfl
  go_enter Tryd.func23, Tryd.ntmps23
  go_wp2
  generalize w.alloc (.cells #[.int .i64 0, .bool false, .int .i64 0, .string ⟨#[]⟩, .slice none 0 0, .slice none 0 0] 25) = wa at *
  go_quiet (fail)
  go_wp2_with (first
    | (go_at_call 34; refine (TN.out _ (HP0.out.drewN _)).mono ?_; rintro e w1 ⟨rfl, p1, f1⟩; have HP1 := Lib.hid p1; have HR1 := Lib.hid ((HR0.out.drewN nq).frm f1 hne); have HF1 := Lib.hid ((HF0.out.drewN nq).trans f1); clear p1 f1
       have r0 := HR1.out.c0; have r1 := HR1.out.c1; have r2 := HR1.out.c2; have r3 := HR1.out.c3; have r4 := HR1.out.c4; have r5 := HR1.out.c5; have z0 := HR1.out.fz 0; have z1 := HR1.out.fz 1; have z2 := HR1.out.fz 2; have z3 := HR1.out.fz 3; have z4 := HR1.out.fz 4; have z5 := HR1.out.fz 5))
  have hv := HR1.out.fill (.int .i64 0) (.bool false) (.int .i64 0) (.string ⟨#[]⟩) (.slice none 0 0) (.slice none 0 0)
  change bodyPost _ _ _ _ _ (Fill6 w1 w.heap.size (.int .i64 0) (.bool false) (.int .i64 0) (.string ⟨#[]⟩) (.slice none 0 0) (.slice none 0 0))
  have hfin := pv_fin (r := (.ok (jNull, i + 4))) 0 false 0 ⟨#[]⟩ none 0 0 none 0 0 HR1.out HP1.out HF1.out hk (Nat.le_refl _) hne ⟨rfl, rfl, JIn.plain _ _ _ _⟩
  generalize Fill6 w1 w.heap.size (.int .i64 0) (.bool false) (.int .i64 0) (.string ⟨#[]⟩) (.slice none 0 0) (.slice none 0 0) = v at *
  exact bodyPost_ret (v := .agg #[.int .i64 0, .bool false, .int .i64 0, .string ⟨#[]⟩, .slice none 0 0, .slice none 0 0]) (by simp [results, Tryd.results23, go_sem, hv.c0, hv.c1, hv.c2, hv.c3, hv.c4, hv.c5]) rfl hfin

set_option maxHeartbeats 8000000 in
set_option maxRecDepth 100000 in
theorem pval_true (pb : Nat) (s : ByteArray) (i : Nat) (deep : Int) (w : World) (h : PAt w pb s i 0) (hs : s.size ≤ 65536) (hi : i < s.size) (hk : i + 4 ≤ s.size) (hN : wordAt [110, 117, 108, 108] s.data.toList i = false) (hw : wordAt [116, 114, 117, 101] s.data.toList i = true) :
    Calls Tryd.prog 23 #[.pointer (some ⟨pb, 0, none⟩), .int .i64 deep] w (PV pb s (.ok (jBool true, i + 4)) w) := by
  have hi' : i < s.size := hi
  have hlt := h.lt
  have hne : w.heap.size ≠ pb := by omega
  have hA := (Below.refl _ w).alloc (Nat.le_refl _) (.cells #[.int .i64 0, .bool false, .int .i64 0, .string ⟨#[]⟩, .slice none 0 0, .slice none 0 0] 25)
  have hP := h.new hA
  have HP0 := Lib.hid hP
  have HR0 := Lib.hid (j6_new w (.int .i64 0) (.bool false) (.int .i64 0) (.string ⟨#[]⟩) (.slice none 0 0) (.slice none 0 0))
  have HF0 := Lib.hid (Frm.of_new hA (One pb))
  have c0 := hP.c0
  have c1 := hP.c1
  have c2 := hP.c2
  have q0 := hP.fz 2
  clear h hA hP hlt
  have TN : Hid (∀ u, PAt u pb s i 0 → Calls Tryd.prog 34 #[.pointer (some ⟨pb, 0, none⟩), .string ⟨#[110, 117, 108, 108]⟩] u (PTold pb s i 0 (.bool false) u)) := by
    intro u hu
    have := pword_any pb s ⟨#[110, 117, 108, 108]⟩ i 0 u hu (by omega) hs (by decide)
    rw [show (ByteArray.mk #[110, 117, 108, 108]).data.toList = [110, 117, 108, 108] from rfl, hN] at this
    exact this
  have TT : Hid (∀ u, PAt u pb s i 0 → Calls Tryd.prog 34 #[.pointer (some ⟨pb, 0, none⟩), .string ⟨#[116, 114, 117, 101]⟩] u (PTold pb s (i + 4) 0 (.bool true) u)) := by
    intro u hu
    have := pword_any pb s ⟨#[116, 114, 117, 101]⟩ i 0 u hu (by omega) hs (by decide)
    rw [show (ByteArray.mk #[116, 114, 117, 101]).data.toList = [116, 114, 117, 101] from rfl, hw] at this
    exact this
  have g0 : decide ((i : Int) ≥ (s.size : Int)) = false := by simp; omega
  have g1 : ¬ (s.size : Int) ≤ (i : Int) := by omega
  have g2 : (i : Int) < (s.size : Int) := by omega
  have g3 : (0 : Int) ≤ (i : Int) := by omega
  have ge : ((i : Int).toNat) = i := by omega
  have gx : s.data[i]? = some s[i] := by simp [hi']; rfl
  go_enter Tryd.func23, Tryd.ntmps23
  go_wp2
  generalize w.alloc (.cells #[.int .i64 0, .bool false, .int .i64 0, .string ⟨#[]⟩, .slice none 0 0, .slice none 0 0] 25) = wa at *
  go_quiet (fail)
  go_wp2_with (first
    | (have hx := HP1.out; clear hx; go_at_call 34; refine (TT.out _ HP1.out).mono ?_; rintro e w2 ⟨rfl, p1, f1⟩; have HP2 := Lib.hid p1; have HR2 := Lib.hid (HR1.out.frm f1 hne); have HF2 := Lib.hid (HF1.out.trans f1); clear p1 f1
       have r0 := HR2.out.c0; have r1 := HR2.out.c1; have r2 := HR2.out.c2; have r3 := HR2.out.c3; have r4 := HR2.out.c4; have r5 := HR2.out.c5; have z0 := HR2.out.fz 0; have z1 := HR2.out.fz 1; have z2 := HR2.out.fz 2; have z3 := HR2.out.fz 3; have z4 := HR2.out.fz 4; have z5 := HR2.out.fz 5)
    | (go_at_call 34; refine (TN.out _ (HP0.out.drewN _)).mono ?_; rintro e w1 ⟨rfl, p1, f1⟩; have HP1 := Lib.hid p1; have HR1 := Lib.hid ((HR0.out.drewN nq).frm f1 hne); have HF1 := Lib.hid ((HF0.out.drewN nq).trans f1); clear p1 f1))
  have hv := HR2.out.fill (.int .i64 1) (.bool true) (.int .i64 0) (.string ⟨#[]⟩) (.slice none 0 0) (.slice none 0 0)
  change bodyPost _ _ _ _ _ (Fill6 w2 w.heap.size (.int .i64 1) (.bool true) (.int .i64 0) (.string ⟨#[]⟩) (.slice none 0 0) (.slice none 0 0))
  have hfin := pv_fin (r := (.ok (jBool true, i + 4))) 1 true 0 ⟨#[]⟩ none 0 0 none 0 0 HR2.out HP2.out HF2.out hk (Nat.le_refl _) hne ⟨rfl, rfl, JIn.plain _ _ _ _⟩
  generalize Fill6 w2 w.heap.size (.int .i64 1) (.bool true) (.int .i64 0) (.string ⟨#[]⟩) (.slice none 0 0) (.slice none 0 0) = v at *
  exact bodyPost_ret (v := .agg #[.int .i64 1, .bool true, .int .i64 0, .string ⟨#[]⟩, .slice none 0 0, .slice none 0 0]) (by simp [results, Tryd.results23, go_sem, hv.c0, hv.c1, hv.c2, hv.c3, hv.c4, hv.c5]) rfl hfin

set_option maxHeartbeats 8000000 in
set_option maxRecDepth 100000 in
theorem pval_false (pb : Nat) (s : ByteArray) (i : Nat) (deep : Int) (w : World) (h : PAt w pb s i 0) (hs : s.size ≤ 65536) (hi : i < s.size) (hk : i + 5 ≤ s.size) (hN : wordAt [110, 117, 108, 108] s.data.toList i = false) (hT : wordAt [116, 114, 117, 101] s.data.toList i = false) (hw : wordAt [102, 97, 108, 115, 101] s.data.toList i = true) :
    Calls Tryd.prog 23 #[.pointer (some ⟨pb, 0, none⟩), .int .i64 deep] w (PV pb s (.ok (jBool false, i + 5)) w) := by
  have hi' : i < s.size := hi
  have hlt := h.lt
  have hne : w.heap.size ≠ pb := by omega
  have hA := (Below.refl _ w).alloc (Nat.le_refl _) (.cells #[.int .i64 0, .bool false, .int .i64 0, .string ⟨#[]⟩, .slice none 0 0, .slice none 0 0] 25)
  have hP := h.new hA
  have HP0 := Lib.hid hP
  have HR0 := Lib.hid (j6_new w (.int .i64 0) (.bool false) (.int .i64 0) (.string ⟨#[]⟩) (.slice none 0 0) (.slice none 0 0))
  have HF0 := Lib.hid (Frm.of_new hA (One pb))
  have c0 := hP.c0
  have c1 := hP.c1
  have c2 := hP.c2
  have q0 := hP.fz 2
  clear h hA hP hlt
  have TN : Hid (∀ u, PAt u pb s i 0 → Calls Tryd.prog 34 #[.pointer (some ⟨pb, 0, none⟩), .string ⟨#[110, 117, 108, 108]⟩] u (PTold pb s i 0 (.bool false) u)) := by
    intro u hu
    have := pword_any pb s ⟨#[110, 117, 108, 108]⟩ i 0 u hu (by omega) hs (by decide)
    rw [show (ByteArray.mk #[110, 117, 108, 108]).data.toList = [110, 117, 108, 108] from rfl, hN] at this
    exact this
  have TT : Hid (∀ u, PAt u pb s i 0 → Calls Tryd.prog 34 #[.pointer (some ⟨pb, 0, none⟩), .string ⟨#[116, 114, 117, 101]⟩] u (PTold pb s i 0 (.bool false) u)) := by
    intro u hu
    have := pword_any pb s ⟨#[116, 114, 117, 101]⟩ i 0 u hu (by omega) hs (by decide)
    rw [show (ByteArray.mk #[116, 114, 117, 101]).data.toList = [116, 114, 117, 101] from rfl, hT] at this
    exact this
  have TF : Hid (∀ u, PAt u pb s i 0 → Calls Tryd.prog 34 #[.pointer (some ⟨pb, 0, none⟩), .string ⟨#[102, 97, 108, 115, 101]⟩] u (PTold pb s (i + 5) 0 (.bool true) u)) := by
    intro u hu
    have := pword_any pb s ⟨#[102, 97, 108, 115, 101]⟩ i 0 u hu (by omega) hs (by decide)
    rw [show (ByteArray.mk #[102, 97, 108, 115, 101]).data.toList = [102, 97, 108, 115, 101] from rfl, hw] at this
    exact this
  have g0 : decide ((i : Int) ≥ (s.size : Int)) = false := by simp; omega
  have g1 : ¬ (s.size : Int) ≤ (i : Int) := by omega
  have g2 : (i : Int) < (s.size : Int) := by omega
  have g3 : (0 : Int) ≤ (i : Int) := by omega
  have ge : ((i : Int).toNat) = i := by omega
  have gx : s.data[i]? = some s[i] := by simp [hi']; rfl
  go_enter Tryd.func23, Tryd.ntmps23
  go_wp2
  generalize w.alloc (.cells #[.int .i64 0, .bool false, .int .i64 0, .string ⟨#[]⟩, .slice none 0 0, .slice none 0 0] 25) = wa at *
  go_quiet (fail)
  go_wp2_with (first
    | (have hx := HP2.out; clear hx; go_at_call 34; refine (TF.out _ HP2.out).mono ?_; rintro e w3 ⟨rfl, p1, f1⟩; have HP3 := Lib.hid p1; have HR3 := Lib.hid (HR2.out.frm f1 hne); have HF3 := Lib.hid (HF2.out.trans f1); clear p1 f1
       have r0 := HR3.out.c0; have r1 := HR3.out.c1; have r2 := HR3.out.c2; have r3 := HR3.out.c3; have r4 := HR3.out.c4; have r5 := HR3.out.c5; have z0 := HR3.out.fz 0; have z1 := HR3.out.fz 1; have z2 := HR3.out.fz 2; have z3 := HR3.out.fz 3; have z4 := HR3.out.fz 4; have z5 := HR3.out.fz 5)
    | (have hx := HP1.out; clear hx; go_at_call 34; refine (TT.out _ HP1.out).mono ?_; rintro e w2 ⟨rfl, p1, f1⟩; have HP2 := Lib.hid p1; have HR2 := Lib.hid (HR1.out.frm f1 hne); have HF2 := Lib.hid (HF1.out.trans f1); clear p1 f1)
    | (go_at_call 34; refine (TN.out _ (HP0.out.drewN _)).mono ?_; rintro e w1 ⟨rfl, p1, f1⟩; have HP1 := Lib.hid p1; have HR1 := Lib.hid ((HR0.out.drewN nq).frm f1 hne); have HF1 := Lib.hid ((HF0.out.drewN nq).trans f1); clear p1 f1))
  have hv := HR3.out.fill (.int .i64 1) (.bool false) (.int .i64 0) (.string ⟨#[]⟩) (.slice none 0 0) (.slice none 0 0)
  change bodyPost _ _ _ _ _ (Fill6 w3 w.heap.size (.int .i64 1) (.bool false) (.int .i64 0) (.string ⟨#[]⟩) (.slice none 0 0) (.slice none 0 0))
  have hfin := pv_fin (r := (.ok (jBool false, i + 5))) 1 false 0 ⟨#[]⟩ none 0 0 none 0 0 HR3.out HP3.out HF3.out hk (Nat.le_refl _) hne ⟨rfl, rfl, JIn.plain _ _ _ _⟩
  generalize Fill6 w3 w.heap.size (.int .i64 1) (.bool false) (.int .i64 0) (.string ⟨#[]⟩) (.slice none 0 0) (.slice none 0 0) = v at *
  exact bodyPost_ret (v := .agg #[.int .i64 1, .bool false, .int .i64 0, .string ⟨#[]⟩, .slice none 0 0, .slice none 0 0]) (by simp [results, Tryd.results23, go_sem, hv.c0, hv.c1, hv.c2, hv.c3, hv.c4, hv.c5]) rfl hfin

set_option maxHeartbeats 8000000 in
set_option maxRecDepth 100000 in
theorem pval_text (pb : Nat) (s : ByteArray) (i : Nat) (deep : Int) (w : World) (h : PAt w pb s i 0) (hs : s.size ≤ 65536) (hi : i < s.size) (hc : s[i].toNat = 34) (hN : wordAt [110, 117, 108, 108] s.data.toList i = false) (hT : wordAt [116, 114, 117, 101] s.data.toList i = false) (hF : wordAt [102, 97, 108, 115, 101] s.data.toList i = false) :
    Calls Tryd.prog 23 #[.pointer (some ⟨pb, 0, none⟩), .int .i64 deep] w (PV pb s (txR (textOf s.data.toList i)) w) := by
  have hi' : i < s.size := hi
  have hlt := h.lt
  have hne : w.heap.size ≠ pb := by omega
  have hA := (Below.refl _ w).alloc (Nat.le_refl _) (.cells #[.int .i64 0, .bool false, .int .i64 0, .string ⟨#[]⟩, .slice none 0 0, .slice none 0 0] 25)
  have hP := h.new hA
  have HP0 := Lib.hid hP
  have HR0 := Lib.hid (j6_new w (.int .i64 0) (.bool false) (.int .i64 0) (.string ⟨#[]⟩) (.slice none 0 0) (.slice none 0 0))
  have HF0 := Lib.hid (Frm.of_new hA (One pb))
  have c0 := hP.c0
  have c1 := hP.c1
  have c2 := hP.c2
  have q0 := hP.fz 2
  clear h hA hP hlt
  have TN : Hid (∀ u, PAt u pb s i 0 → Calls Tryd.prog 34 #[.pointer (some ⟨pb, 0, none⟩), .string ⟨#[110, 117, 108, 108]⟩] u (PTold pb s i 0 (.bool false) u)) := by
    intro u hu
    have := pword_any pb s ⟨#[110, 117, 108, 108]⟩ i 0 u hu (by omega) hs (by decide)
    rw [show (ByteArray.mk #[110, 117, 108, 108]).data.toList = [110, 117, 108, 108] from rfl, hN] at this
    exact this
  have TT : Hid (∀ u, PAt u pb s i 0 → Calls Tryd.prog 34 #[.pointer (some ⟨pb, 0, none⟩), .string ⟨#[116, 114, 117, 101]⟩] u (PTold pb s i 0 (.bool false) u)) := by
    intro u hu
    have := pword_any pb s ⟨#[116, 114, 117, 101]⟩ i 0 u hu (by omega) hs (by decide)
    rw [show (ByteArray.mk #[116, 114, 117, 101]).data.toList = [116, 114, 117, 101] from rfl, hT] at this
    exact this
  have TF : Hid (∀ u, PAt u pb s i 0 → Calls Tryd.prog 34 #[.pointer (some ⟨pb, 0, none⟩), .string ⟨#[102, 97, 108, 115, 101]⟩] u (PTold pb s i 0 (.bool false) u)) := by
    intro u hu
    have := pword_any pb s ⟨#[102, 97, 108, 115, 101]⟩ i 0 u hu (by omega) hs (by decide)
    rw [show (ByteArray.mk #[102, 97, 108, 115, 101]).data.toList = [102, 97, 108, 115, 101] from rfl, hF] at this
    exact this
  have g0 : decide ((i : Int) ≥ (s.size : Int)) = false := by simp; omega
  have g1 : ¬ (s.size : Int) ≤ (i : Int) := by omega
  have g2 : (i : Int) < (s.size : Int) := by omega
  have g3 : (0 : Int) ≤ (i : Int) := by omega
  have ge : ((i : Int).toNat) = i := by omega
  have gx : s.data[i]? = some s[i] := by simp [hi']; rfl
  have gc34 : ((s[i].toNat : Int) == 34) = true := by simp; omega
  have TX := Lib.hid (fun u hu => ptext_any pb s i u hu hi' hs)
  generalize hTR : textOf s.data.toList i = tr at *
  clear hTR
  go_enter Tryd.func23, Tryd.ntmps23
  go_wp2
  generalize w.alloc (.cells #[.int .i64 0, .bool false, .int .i64 0, .string ⟨#[]⟩, .slice none 0 0, .slice none 0 0] 25) = wa at *
  go_quiet (fail)
  go_wp2_with (first
    | (have hx := HP2.out; clear hx; go_at_call 34; refine (TF.out _ HP2.out).mono ?_; rintro e w3 ⟨rfl, p1, f1⟩; have HP3 := Lib.hid p1; have HR3 := Lib.hid (HR2.out.frm f1 hne); have HF3 := Lib.hid (HF2.out.trans f1); clear p1 f1
       have r0 := HR3.out.c0; have r1 := HR3.out.c1; have r2 := HR3.out.c2; have r3 := HR3.out.c3; have r4 := HR3.out.c4; have r5 := HR3.out.c5; have z0 := HR3.out.fz 0; have z1 := HR3.out.fz 1; have z2 := HR3.out.fz 2; have z3 := HR3.out.fz 3; have z4 := HR3.out.fz 4; have z5 := HR3.out.fz 5; have c0 := HP3.out.c0; have c1 := HP3.out.c1; have c2 := HP3.out.c2)
    | (have hx := HP1.out; clear hx; go_at_call 34; refine (TT.out _ HP1.out).mono ?_; rintro e w2 ⟨rfl, p1, f1⟩; have HP2 := Lib.hid p1; have HR2 := Lib.hid (HR1.out.frm f1 hne); have HF2 := Lib.hid (HF1.out.trans f1); clear p1 f1)
    | (go_at_call 34; refine (TN.out _ (HP0.out.drewN _)).mono ?_; rintro e w1 ⟨rfl, p1, f1⟩; have HP1 := Lib.hid p1; have HR1 := Lib.hid ((HR0.out.drewN nq).frm f1 hne); have HF1 := Lib.hid ((HF0.out.drewN nq).trans f1); clear p1 f1))
  go_quiet (fail)
  go_wp2_with (go_at_call 35; refine (TX.out _ (HP3.out.drewN _)).mono ?_; rintro e w4 ⟨t, k, cc, rfl, hk, p4, f4, hm⟩; have HP4 := Lib.hid p4; have HR4 := Lib.hid ((HR3.out.drewN nq).frm f4 hne); have HF4 := Lib.hid ((HF3.out.drewN nq).trans f4); have HM := Lib.hid hm; clear p4 f4 hm; have r0 := HR4.out.c0; have r1 := HR4.out.c1; have r2 := HR4.out.c2; have r3 := HR4.out.c3; have r4 := HR4.out.c4; have r5 := HR4.out.c5; have z0 := HR4.out.fz 0; have z1 := HR4.out.fz 1; have z2 := HR4.out.fz 2; have z3 := HR4.out.fz 3; have z4 := HR4.out.fz 4; have z5 := HR4.out.fz 5)
  have hm' : PVm k cc (fun g => w.heap.size ≤ g ∧ g ≠ w.heap.size) w4 (txR tr) [.int .i64 3, .bool false, .int .i64 0, .string t, .slice none 0 0, .slice none 0 0] := by
    have hm := HM.out
    cases tr with
    | error x => exact ⟨hm.1, .inl hm.2⟩
    | ok tk => obtain ⟨h1, h2, h3⟩ := hm; subst h1; exact ⟨h2, h3, JIn.plain _ _ _ _⟩
  have hv := HR4.out.fill (.int .i64 3) (.bool false) (.int .i64 0) (.string t) (.slice none 0 0) (.slice none 0 0)
  change bodyPost _ _ _ _ _ (Fill6 w4 w.heap.size (.int .i64 3) (.bool false) (.int .i64 0) (.string t) (.slice none 0 0) (.slice none 0 0))
  have hfin := pv_fin (r := txR tr) 3 false 0 t none 0 0 none 0 0 HR4.out HP4.out HF4.out hk (Nat.le_refl _) hne hm'
  generalize Fill6 w4 w.heap.size (.int .i64 3) (.bool false) (.int .i64 0) (.string t) (.slice none 0 0) (.slice none 0 0) = v at *
  exact bodyPost_ret (v := .agg #[.int .i64 3, .bool false, .int .i64 0, .string t, .slice none 0 0, .slice none 0 0]) (by simp [results, Tryd.results23, go_sem, hv.c0, hv.c1, hv.c2, hv.c3, hv.c4, hv.c5]) rfl hfin

set_option maxHeartbeats 8000000 in
set_option maxRecDepth 100000 in
theorem pval_list (pb : Nat) (s : ByteArray) (i : Nat) (deep : Int) (w : World) (h : PAt w pb s i 0) (hs : s.size ≤ 65536) (hi : i < s.size) (hc : s[i].toNat = 91) (r : Rd J) (hd : 0 ≤ deep ∧ deep ≤ 16) (hl : ∀ u, PAt u pb s i 0 → Calls Tryd.prog 36 #[.pointer (some ⟨pb, 0, none⟩), .int .i64 (deep + 1)] u (PV pb s r u)) (hN : wordAt [110, 117, 108, 108] s.data.toList i = false) (hT : wordAt [116, 114, 117, 101] s.data.toList i = false) (hF : wordAt [102, 97, 108, 115, 101] s.data.toList i = false) :
    Calls Tryd.prog 23 #[.pointer (some ⟨pb, 0, none⟩), .int .i64 deep] w (PV pb s (r) w) := by
  have hi' : i < s.size := hi
  have hlt := h.lt
  have hne : w.heap.size ≠ pb := by omega
  have hA := (Below.refl _ w).alloc (Nat.le_refl _) (.cells #[.int .i64 0, .bool false, .int .i64 0, .string ⟨#[]⟩, .slice none 0 0, .slice none 0 0] 25)
  have hP := h.new hA
  have HP0 := Lib.hid hP
  have HR0 := Lib.hid (j6_new w (.int .i64 0) (.bool false) (.int .i64 0) (.string ⟨#[]⟩) (.slice none 0 0) (.slice none 0 0))
  have HF0 := Lib.hid (Frm.of_new hA (One pb))
  have c0 := hP.c0
  have c1 := hP.c1
  have c2 := hP.c2
  have q0 := hP.fz 2
  clear h hA hP hlt
  have TN : Hid (∀ u, PAt u pb s i 0 → Calls Tryd.prog 34 #[.pointer (some ⟨pb, 0, none⟩), .string ⟨#[110, 117, 108, 108]⟩] u (PTold pb s i 0 (.bool false) u)) := by
    intro u hu
    have := pword_any pb s ⟨#[110, 117, 108, 108]⟩ i 0 u hu (by omega) hs (by decide)
    rw [show (ByteArray.mk #[110, 117, 108, 108]).data.toList = [110, 117, 108, 108] from rfl, hN] at this
    exact this
  have TT : Hid (∀ u, PAt u pb s i 0 → Calls Tryd.prog 34 #[.pointer (some ⟨pb, 0, none⟩), .string ⟨#[116, 114, 117, 101]⟩] u (PTold pb s i 0 (.bool false) u)) := by
    intro u hu
    have := pword_any pb s ⟨#[116, 114, 117, 101]⟩ i 0 u hu (by omega) hs (by decide)
    rw [show (ByteArray.mk #[116, 114, 117, 101]).data.toList = [116, 114, 117, 101] from rfl, hT] at this
    exact this
  have TF : Hid (∀ u, PAt u pb s i 0 → Calls Tryd.prog 34 #[.pointer (some ⟨pb, 0, none⟩), .string ⟨#[102, 97, 108, 115, 101]⟩] u (PTold pb s i 0 (.bool false) u)) := by
    intro u hu
    have := pword_any pb s ⟨#[102, 97, 108, 115, 101]⟩ i 0 u hu (by omega) hs (by decide)
    rw [show (ByteArray.mk #[102, 97, 108, 115, 101]).data.toList = [102, 97, 108, 115, 101] from rfl, hF] at this
    exact this
  have g0 : decide ((i : Int) ≥ (s.size : Int)) = false := by simp; omega
  have g1 : ¬ (s.size : Int) ≤ (i : Int) := by omega
  have g2 : (i : Int) < (s.size : Int) := by omega
  have g3 : (0 : Int) ≤ (i : Int) := by omega
  have ge : ((i : Int).toNat) = i := by omega
  have gx : s.data[i]? = some s[i] := by simp [hi']; rfl
  have gc91 : ((s[i].toNat : Int) == 91) = true := by simp; omega
  have gc34 : ((s[i].toNat : Int) == 34) = false := by simp; omega
  have LX := Lib.hid hl
  clear hl
  go_enter Tryd.func23, Tryd.ntmps23
  go_wp2
  generalize w.alloc (.cells #[.int .i64 0, .bool false, .int .i64 0, .string ⟨#[]⟩, .slice none 0 0, .slice none 0 0] 25) = wa at *
  go_quiet (fail)
  go_wp2_with (first
    | (have hx := HP2.out; clear hx; go_at_call 34; refine (TF.out _ HP2.out).mono ?_; rintro e w3 ⟨rfl, p1, f1⟩; have HP3 := Lib.hid p1; have HR3 := Lib.hid (HR2.out.frm f1 hne); have HF3 := Lib.hid (HF2.out.trans f1); clear p1 f1
       have r0 := HR3.out.c0; have r1 := HR3.out.c1; have r2 := HR3.out.c2; have r3 := HR3.out.c3; have r4 := HR3.out.c4; have r5 := HR3.out.c5; have z0 := HR3.out.fz 0; have z1 := HR3.out.fz 1; have z2 := HR3.out.fz 2; have z3 := HR3.out.fz 3; have z4 := HR3.out.fz 4; have z5 := HR3.out.fz 5; have c0 := HP3.out.c0; have c1 := HP3.out.c1; have c2 := HP3.out.c2)
    | (have hx := HP1.out; clear hx; go_at_call 34; refine (TT.out _ HP1.out).mono ?_; rintro e w2 ⟨rfl, p1, f1⟩; have HP2 := Lib.hid p1; have HR2 := Lib.hid (HR1.out.frm f1 hne); have HF2 := Lib.hid (HF1.out.trans f1); clear p1 f1)
    | (go_at_call 34; refine (TN.out _ (HP0.out.drewN _)).mono ?_; rintro e w1 ⟨rfl, p1, f1⟩; have HP1 := Lib.hid p1; have HR1 := Lib.hid ((HR0.out.drewN nq).frm f1 hne); have HF1 := Lib.hid ((HF0.out.drewN nq).trans f1); clear p1 f1))
  go_quiet (fail)
  go_wp2
  go_quiet (fail)
  go_wp2_with (go_at_call 36; refine (LX.out _ (HP3.out.drewN _)).mono ?_; rintro e w4 ⟨k0, b0, n0, t0, la, nl, lc, ka, nk, kc, k, cc, rfl, hk, p4, f4, hm⟩; have HP4 := Lib.hid p4; have HR4 := Lib.hid ((HR3.out.drewN _).frm f4 hne); have HF4 := Lib.hid ((HF3.out.drewN _).trans f4); have HM := Lib.hid hm; clear p4 f4 hm; have r0 := HR4.out.c0; have r1 := HR4.out.c1; have r2 := HR4.out.c2; have r3 := HR4.out.c3; have r4 := HR4.out.c4; have r5 := HR4.out.c5; have z0 := HR4.out.fz 0; have z1 := HR4.out.fz 1; have z2 := HR4.out.fz 2; have z3 := HR4.out.fz 3; have z4 := HR4.out.fz 4; have z5 := HR4.out.fz 5)
  have hlt3 := HR3.out.lt
  have hm' : PVm k cc (fun g => w.heap.size ≤ g ∧ g ≠ w.heap.size) w4 r [.int .i64 k0, .bool b0, .int .i64 n0, .string t0, .slice la nl lc, .slice ka nk kc] := by
    have hm := HM.out
    clear LX
    cases r with
    | error x => exact hm
    | ok jk => obtain ⟨h1, h2, h3⟩ := hm; exact ⟨h1, h2, h3.mono fun g _ hg => by have : w3.heap.size ≤ g := hg; exact ⟨by omega, by omega⟩⟩
  have hv := HR4.out.fill (.int .i64 k0) (.bool b0) (.int .i64 n0) (.string t0) (.slice la nl lc) (.slice ka nk kc)
  change bodyPost _ _ _ _ _ (Fill6 w4 w.heap.size (.int .i64 k0) (.bool b0) (.int .i64 n0) (.string t0) (.slice la nl lc) (.slice ka nk kc))
  have hfin := pv_fin (r := (r)) k0 b0 n0 t0 la nl lc ka nk kc HR4.out HP4.out HF4.out hk (Nat.le_refl _) hne hm'
  generalize Fill6 w4 w.heap.size (.int .i64 k0) (.bool b0) (.int .i64 n0) (.string t0) (.slice la nl lc) (.slice ka nk kc) = v at *
  exact bodyPost_ret (v := .agg #[.int .i64 k0, .bool b0, .int .i64 n0, .string t0, .slice la nl lc, .slice ka nk kc]) (by simp [results, Tryd.results23, go_sem, hv.c0, hv.c1, hv.c2, hv.c3, hv.c4, hv.c5]) rfl hfin

set_option maxHeartbeats 8000000 in
set_option maxRecDepth 100000 in
theorem pval_object (pb : Nat) (s : ByteArray) (i : Nat) (deep : Int) (w : World) (h : PAt w pb s i 0) (hs : s.size ≤ 65536) (hi : i < s.size) (hc : s[i].toNat = 123) (r : Rd J) (hd : 0 ≤ deep ∧ deep ≤ 16) (hl : ∀ u, PAt u pb s i 0 → Calls Tryd.prog 37 #[.pointer (some ⟨pb, 0, none⟩), .int .i64 (deep + 1)] u (PV pb s r u)) (hN : wordAt [110, 117, 108, 108] s.data.toList i = false) (hT : wordAt [116, 114, 117, 101] s.data.toList i = false) (hF : wordAt [102, 97, 108, 115, 101] s.data.toList i = false) :
    Calls Tryd.prog 23 #[.pointer (some ⟨pb, 0, none⟩), .int .i64 deep] w (PV pb s (r) w) := by
  have hi' : i < s.size := hi
  have hlt := h.lt
  have hne : w.heap.size ≠ pb := by omega
  have hA := (Below.refl _ w).alloc (Nat.le_refl _) (.cells #[.int .i64 0, .bool false, .int .i64 0, .string ⟨#[]⟩, .slice none 0 0, .slice none 0 0] 25)
  have hP := h.new hA
  have HP0 := Lib.hid hP
  have HR0 := Lib.hid (j6_new w (.int .i64 0) (.bool false) (.int .i64 0) (.string ⟨#[]⟩) (.slice none 0 0) (.slice none 0 0))
  have HF0 := Lib.hid (Frm.of_new hA (One pb))
  have c0 := hP.c0
  have c1 := hP.c1
  have c2 := hP.c2
  have q0 := hP.fz 2
  clear h hA hP hlt
  have TN : Hid (∀ u, PAt u pb s i 0 → Calls Tryd.prog 34 #[.pointer (some ⟨pb, 0, none⟩), .string ⟨#[110, 117, 108, 108]⟩] u (PTold pb s i 0 (.bool false) u)) := by
    intro u hu
    have := pword_any pb s ⟨#[110, 117, 108, 108]⟩ i 0 u hu (by omega) hs (by decide)
    rw [show (ByteArray.mk #[110, 117, 108, 108]).data.toList = [110, 117, 108, 108] from rfl, hN] at this
    exact this
  have TT : Hid (∀ u, PAt u pb s i 0 → Calls Tryd.prog 34 #[.pointer (some ⟨pb, 0, none⟩), .string ⟨#[116, 114, 117, 101]⟩] u (PTold pb s i 0 (.bool false) u)) := by
    intro u hu
    have := pword_any pb s ⟨#[116, 114, 117, 101]⟩ i 0 u hu (by omega) hs (by decide)
    rw [show (ByteArray.mk #[116, 114, 117, 101]).data.toList = [116, 114, 117, 101] from rfl, hT] at this
    exact this
  have TF : Hid (∀ u, PAt u pb s i 0 → Calls Tryd.prog 34 #[.pointer (some ⟨pb, 0, none⟩), .string ⟨#[102, 97, 108, 115, 101]⟩] u (PTold pb s i 0 (.bool false) u)) := by
    intro u hu
    have := pword_any pb s ⟨#[102, 97, 108, 115, 101]⟩ i 0 u hu (by omega) hs (by decide)
    rw [show (ByteArray.mk #[102, 97, 108, 115, 101]).data.toList = [102, 97, 108, 115, 101] from rfl, hF] at this
    exact this
  have g0 : decide ((i : Int) ≥ (s.size : Int)) = false := by simp; omega
  have g1 : ¬ (s.size : Int) ≤ (i : Int) := by omega
  have g2 : (i : Int) < (s.size : Int) := by omega
  have g3 : (0 : Int) ≤ (i : Int) := by omega
  have ge : ((i : Int).toNat) = i := by omega
  have gx : s.data[i]? = some s[i] := by simp [hi']; rfl
  have gc123 : ((s[i].toNat : Int) == 123) = true := by simp; omega
  have gc34 : ((s[i].toNat : Int) == 34) = false := by simp; omega
  have gc91 : ((s[i].toNat : Int) == 91) = false := by simp; omega
  have LX := Lib.hid hl
  clear hl
  go_enter Tryd.func23, Tryd.ntmps23
  go_wp2
  generalize w.alloc (.cells #[.int .i64 0, .bool false, .int .i64 0, .string ⟨#[]⟩, .slice none 0 0, .slice none 0 0] 25) = wa at *
  go_quiet (fail)
  go_wp2_with (first
    | (have hx := HP2.out; clear hx; go_at_call 34; refine (TF.out _ HP2.out).mono ?_; rintro e w3 ⟨rfl, p1, f1⟩; have HP3 := Lib.hid p1; have HR3 := Lib.hid (HR2.out.frm f1 hne); have HF3 := Lib.hid (HF2.out.trans f1); clear p1 f1
       have r0 := HR3.out.c0; have r1 := HR3.out.c1; have r2 := HR3.out.c2; have r3 := HR3.out.c3; have r4 := HR3.out.c4; have r5 := HR3.out.c5; have z0 := HR3.out.fz 0; have z1 := HR3.out.fz 1; have z2 := HR3.out.fz 2; have z3 := HR3.out.fz 3; have z4 := HR3.out.fz 4; have z5 := HR3.out.fz 5; have c0 := HP3.out.c0; have c1 := HP3.out.c1; have c2 := HP3.out.c2)
    | (have hx := HP1.out; clear hx; go_at_call 34; refine (TT.out _ HP1.out).mono ?_; rintro e w2 ⟨rfl, p1, f1⟩; have HP2 := Lib.hid p1; have HR2 := Lib.hid (HR1.out.frm f1 hne); have HF2 := Lib.hid (HF1.out.trans f1); clear p1 f1)
    | (go_at_call 34; refine (TN.out _ (HP0.out.drewN _)).mono ?_; rintro e w1 ⟨rfl, p1, f1⟩; have HP1 := Lib.hid p1; have HR1 := Lib.hid ((HR0.out.drewN nq).frm f1 hne); have HF1 := Lib.hid ((HF0.out.drewN nq).trans f1); clear p1 f1))
  go_quiet (fail)
  go_wp2
  go_quiet (fail)
  go_wp2
  go_quiet (fail)
  go_wp2_with (go_at_call 37; refine (LX.out _ (HP3.out.drewN _)).mono ?_; rintro e w4 ⟨k0, b0, n0, t0, la, nl, lc, ka, nk, kc, k, cc, rfl, hk, p4, f4, hm⟩; have HP4 := Lib.hid p4; have HR4 := Lib.hid ((HR3.out.drewN _).frm f4 hne); have HF4 := Lib.hid ((HF3.out.drewN _).trans f4); have HM := Lib.hid hm; clear p4 f4 hm; have r0 := HR4.out.c0; have r1 := HR4.out.c1; have r2 := HR4.out.c2; have r3 := HR4.out.c3; have r4 := HR4.out.c4; have r5 := HR4.out.c5; have z0 := HR4.out.fz 0; have z1 := HR4.out.fz 1; have z2 := HR4.out.fz 2; have z3 := HR4.out.fz 3; have z4 := HR4.out.fz 4; have z5 := HR4.out.fz 5)
  have hlt3 := HR3.out.lt
  have hm' : PVm k cc (fun g => w.heap.size ≤ g ∧ g ≠ w.heap.size) w4 r [.int .i64 k0, .bool b0, .int .i64 n0, .string t0, .slice la nl lc, .slice ka nk kc] := by
    have hm := HM.out
    clear LX
    cases r with
    | error x => exact hm
    | ok jk => obtain ⟨h1, h2, h3⟩ := hm; exact ⟨h1, h2, h3.mono fun g _ hg => by have : w3.heap.size ≤ g := hg; exact ⟨by omega, by omega⟩⟩
  have hv := HR4.out.fill (.int .i64 k0) (.bool b0) (.int .i64 n0) (.string t0) (.slice la nl lc) (.slice ka nk kc)
  change bodyPost _ _ _ _ _ (Fill6 w4 w.heap.size (.int .i64 k0) (.bool b0) (.int .i64 n0) (.string t0) (.slice la nl lc) (.slice ka nk kc))
  have hfin := pv_fin (r := (r)) k0 b0 n0 t0 la nl lc ka nk kc HR4.out HP4.out HF4.out hk (Nat.le_refl _) hne hm'
  generalize Fill6 w4 w.heap.size (.int .i64 k0) (.bool b0) (.int .i64 n0) (.string t0) (.slice la nl lc) (.slice ka nk kc) = v at *
  exact bodyPost_ret (v := .agg #[.int .i64 k0, .bool b0, .int .i64 n0, .string t0, .slice la nl lc, .slice ka nk kc]) (by simp [results, Tryd.results23, go_sem, hv.c0, hv.c1, hv.c2, hv.c3, hv.c4, hv.c5]) rfl hfin

set_option maxHeartbeats 8000000 in
set_option maxRecDepth 100000 in
theorem pval_minus (pb : Nat) (s : ByteArray) (i : Nat) (deep : Int) (w : World) (h : PAt w pb s i 0) (hs : s.size ≤ 65536) (hi : i < s.size) (hc : s[i].toNat = 45) (hN : wordAt [110, 117, 108, 108] s.data.toList i = false) (hT : wordAt [116, 114, 117, 101] s.data.toList i = false) (hF : wordAt [102, 97, 108, 115, 101] s.data.toList i = false) :
    Calls Tryd.prog 23 #[.pointer (some ⟨pb, 0, none⟩), .int .i64 deep] w (PV pb s (nmR (numAt s.data.toList i)) w) := by
  have hi' : i < s.size := hi
  have hlt := h.lt
  have hne : w.heap.size ≠ pb := by omega
  have hA := (Below.refl _ w).alloc (Nat.le_refl _) (.cells #[.int .i64 0, .bool false, .int .i64 0, .string ⟨#[]⟩, .slice none 0 0, .slice none 0 0] 25)
  have hP := h.new hA
  have HP0 := Lib.hid hP
  have HR0 := Lib.hid (j6_new w (.int .i64 0) (.bool false) (.int .i64 0) (.string ⟨#[]⟩) (.slice none 0 0) (.slice none 0 0))
  have HF0 := Lib.hid (Frm.of_new hA (One pb))
  have c0 := hP.c0
  have c1 := hP.c1
  have c2 := hP.c2
  have q0 := hP.fz 2
  clear h hA hP hlt
  have TN : Hid (∀ u, PAt u pb s i 0 → Calls Tryd.prog 34 #[.pointer (some ⟨pb, 0, none⟩), .string ⟨#[110, 117, 108, 108]⟩] u (PTold pb s i 0 (.bool false) u)) := by
    intro u hu
    have := pword_any pb s ⟨#[110, 117, 108, 108]⟩ i 0 u hu (by omega) hs (by decide)
    rw [show (ByteArray.mk #[110, 117, 108, 108]).data.toList = [110, 117, 108, 108] from rfl, hN] at this
    exact this
  have TT : Hid (∀ u, PAt u pb s i 0 → Calls Tryd.prog 34 #[.pointer (some ⟨pb, 0, none⟩), .string ⟨#[116, 114, 117, 101]⟩] u (PTold pb s i 0 (.bool false) u)) := by
    intro u hu
    have := pword_any pb s ⟨#[116, 114, 117, 101]⟩ i 0 u hu (by omega) hs (by decide)
    rw [show (ByteArray.mk #[116, 114, 117, 101]).data.toList = [116, 114, 117, 101] from rfl, hT] at this
    exact this
  have TF : Hid (∀ u, PAt u pb s i 0 → Calls Tryd.prog 34 #[.pointer (some ⟨pb, 0, none⟩), .string ⟨#[102, 97, 108, 115, 101]⟩] u (PTold pb s i 0 (.bool false) u)) := by
    intro u hu
    have := pword_any pb s ⟨#[102, 97, 108, 115, 101]⟩ i 0 u hu (by omega) hs (by decide)
    rw [show (ByteArray.mk #[102, 97, 108, 115, 101]).data.toList = [102, 97, 108, 115, 101] from rfl, hF] at this
    exact this
  have g0 : decide ((i : Int) ≥ (s.size : Int)) = false := by simp; omega
  have g1 : ¬ (s.size : Int) ≤ (i : Int) := by omega
  have g2 : (i : Int) < (s.size : Int) := by omega
  have g3 : (0 : Int) ≤ (i : Int) := by omega
  have ge : ((i : Int).toNat) = i := by omega
  have gx : s.data[i]? = some s[i] := by simp [hi']; rfl
  have gc34 : ((s[i].toNat : Int) == 34) = false := by simp; omega
  have gc91 : ((s[i].toNat : Int) == 91) = false := by simp; omega
  have gc123 : ((s[i].toNat : Int) == 123) = false := by simp; omega
  have gc45 : ((s[i].toNat : Int) == 45) = true := by simp; omega
  have NX := Lib.hid (fun u hu => pnumber_any pb s i u hu (Nat.le_of_lt hi') hs)
  generalize hTR : numAt s.data.toList i = tr at *
  clear hTR
  go_enter Tryd.func23, Tryd.ntmps23
  go_wp2
  generalize w.alloc (.cells #[.int .i64 0, .bool false, .int .i64 0, .string ⟨#[]⟩, .slice none 0 0, .slice none 0 0] 25) = wa at *
  go_quiet (fail)
  go_wp2_with (first
    | (have hx := HP2.out; clear hx; go_at_call 34; refine (TF.out _ HP2.out).mono ?_; rintro e w3 ⟨rfl, p1, f1⟩; have HP3 := Lib.hid p1; have HR3 := Lib.hid (HR2.out.frm f1 hne); have HF3 := Lib.hid (HF2.out.trans f1); clear p1 f1
       have r0 := HR3.out.c0; have r1 := HR3.out.c1; have r2 := HR3.out.c2; have r3 := HR3.out.c3; have r4 := HR3.out.c4; have r5 := HR3.out.c5; have z0 := HR3.out.fz 0; have z1 := HR3.out.fz 1; have z2 := HR3.out.fz 2; have z3 := HR3.out.fz 3; have z4 := HR3.out.fz 4; have z5 := HR3.out.fz 5; have c0 := HP3.out.c0; have c1 := HP3.out.c1; have c2 := HP3.out.c2)
    | (have hx := HP1.out; clear hx; go_at_call 34; refine (TT.out _ HP1.out).mono ?_; rintro e w2 ⟨rfl, p1, f1⟩; have HP2 := Lib.hid p1; have HR2 := Lib.hid (HR1.out.frm f1 hne); have HF2 := Lib.hid (HF1.out.trans f1); clear p1 f1)
    | (go_at_call 34; refine (TN.out _ (HP0.out.drewN _)).mono ?_; rintro e w1 ⟨rfl, p1, f1⟩; have HP1 := Lib.hid p1; have HR1 := Lib.hid ((HR0.out.drewN nq).frm f1 hne); have HF1 := Lib.hid ((HF0.out.drewN nq).trans f1); clear p1 f1))
  go_quiet (fail)
  go_wp2
  go_quiet (fail)
  go_wp2
  go_quiet (fail)
  go_wp2
  go_quiet (fail)
  go_wp2_with (go_at_call 38; refine (NX.out _ (HP3.out.drewN _)).mono ?_; rintro e w4 ⟨n, k, cc, rfl, hk, p4, f4, hm⟩; have HP4 := Lib.hid p4; have HR4 := Lib.hid ((HR3.out.drewN _).frm f4 hne); have HF4 := Lib.hid ((HF3.out.drewN _).trans f4); have HM := Lib.hid hm; clear p4 f4 hm; have r0 := HR4.out.c0; have r1 := HR4.out.c1; have r2 := HR4.out.c2; have r3 := HR4.out.c3; have r4 := HR4.out.c4; have r5 := HR4.out.c5; have z0 := HR4.out.fz 0; have z1 := HR4.out.fz 1; have z2 := HR4.out.fz 2; have z3 := HR4.out.fz 3; have z4 := HR4.out.fz 4; have z5 := HR4.out.fz 5)
  have hm' : PVm k cc (fun g => w.heap.size ≤ g ∧ g ≠ w.heap.size) w4 (nmR tr) [.int .i64 2, .bool false, .int .i64 n, .string ⟨#[]⟩, .slice none 0 0, .slice none 0 0] := by
    have hm := HM.out
    cases tr with
    | error x => exact ⟨hm.1, .inl hm.2⟩
    | ok tk => obtain ⟨h1, h2, h3⟩ := hm; subst h1; exact ⟨h2, h3, JIn.plain _ _ _ _⟩
  have hv := HR4.out.fill (.int .i64 2) (.bool false) (.int .i64 n) (.string ⟨#[]⟩) (.slice none 0 0) (.slice none 0 0)
  change bodyPost _ _ _ _ _ (Fill6 w4 w.heap.size (.int .i64 2) (.bool false) (.int .i64 n) (.string ⟨#[]⟩) (.slice none 0 0) (.slice none 0 0))
  have hfin := pv_fin (r := nmR tr) 2 false n ⟨#[]⟩ none 0 0 none 0 0 HR4.out HP4.out HF4.out hk (Nat.le_refl _) hne hm'
  generalize Fill6 w4 w.heap.size (.int .i64 2) (.bool false) (.int .i64 n) (.string ⟨#[]⟩) (.slice none 0 0) (.slice none 0 0) = v at *
  exact bodyPost_ret (v := .agg #[.int .i64 2, .bool false, .int .i64 n, .string ⟨#[]⟩, .slice none 0 0, .slice none 0 0]) (by simp [results, Tryd.results23, go_sem, hv.c0, hv.c1, hv.c2, hv.c3, hv.c4, hv.c5]) rfl hfin

set_option maxHeartbeats 8000000 in
set_option maxRecDepth 100000 in
theorem pval_digit (pb : Nat) (s : ByteArray) (i : Nat) (deep : Int) (w : World) (h : PAt w pb s i 0) (hs : s.size ≤ 65536) (hi : i < s.size) (hc : 48 ≤ s[i].toNat ∧ s[i].toNat ≤ 57) (hN : wordAt [110, 117, 108, 108] s.data.toList i = false) (hT : wordAt [116, 114, 117, 101] s.data.toList i = false) (hF : wordAt [102, 97, 108, 115, 101] s.data.toList i = false) :
    Calls Tryd.prog 23 #[.pointer (some ⟨pb, 0, none⟩), .int .i64 deep] w (PV pb s (nmR (numAt s.data.toList i)) w) := by
  have hi' : i < s.size := hi
  have hlt := h.lt
  have hne : w.heap.size ≠ pb := by omega
  have hA := (Below.refl _ w).alloc (Nat.le_refl _) (.cells #[.int .i64 0, .bool false, .int .i64 0, .string ⟨#[]⟩, .slice none 0 0, .slice none 0 0] 25)
  have hP := h.new hA
  have HP0 := Lib.hid hP
  have HR0 := Lib.hid (j6_new w (.int .i64 0) (.bool false) (.int .i64 0) (.string ⟨#[]⟩) (.slice none 0 0) (.slice none 0 0))
  have HF0 := Lib.hid (Frm.of_new hA (One pb))
  have c0 := hP.c0
  have c1 := hP.c1
  have c2 := hP.c2
  have q0 := hP.fz 2
  clear h hA hP hlt
  have TN : Hid (∀ u, PAt u pb s i 0 → Calls Tryd.prog 34 #[.pointer (some ⟨pb, 0, none⟩), .string ⟨#[110, 117, 108, 108]⟩] u (PTold pb s i 0 (.bool false) u)) := by
    intro u hu
    have := pword_any pb s ⟨#[110, 117, 108, 108]⟩ i 0 u hu (by omega) hs (by decide)
    rw [show (ByteArray.mk #[110, 117, 108, 108]).data.toList = [110, 117, 108, 108] from rfl, hN] at this
    exact this
  have TT : Hid (∀ u, PAt u pb s i 0 → Calls Tryd.prog 34 #[.pointer (some ⟨pb, 0, none⟩), .string ⟨#[116, 114, 117, 101]⟩] u (PTold pb s i 0 (.bool false) u)) := by
    intro u hu
    have := pword_any pb s ⟨#[116, 114, 117, 101]⟩ i 0 u hu (by omega) hs (by decide)
    rw [show (ByteArray.mk #[116, 114, 117, 101]).data.toList = [116, 114, 117, 101] from rfl, hT] at this
    exact this
  have TF : Hid (∀ u, PAt u pb s i 0 → Calls Tryd.prog 34 #[.pointer (some ⟨pb, 0, none⟩), .string ⟨#[102, 97, 108, 115, 101]⟩] u (PTold pb s i 0 (.bool false) u)) := by
    intro u hu
    have := pword_any pb s ⟨#[102, 97, 108, 115, 101]⟩ i 0 u hu (by omega) hs (by decide)
    rw [show (ByteArray.mk #[102, 97, 108, 115, 101]).data.toList = [102, 97, 108, 115, 101] from rfl, hF] at this
    exact this
  have g0 : decide ((i : Int) ≥ (s.size : Int)) = false := by simp; omega
  have g1 : ¬ (s.size : Int) ≤ (i : Int) := by omega
  have g2 : (i : Int) < (s.size : Int) := by omega
  have g3 : (0 : Int) ≤ (i : Int) := by omega
  have ge : ((i : Int).toNat) = i := by omega
  have gx : s.data[i]? = some s[i] := by simp [hi']; rfl
  have gc34 : ((s[i].toNat : Int) == 34) = false := by simp; omega
  have gc91 : ((s[i].toNat : Int) == 91) = false := by simp; omega
  have gc123 : ((s[i].toNat : Int) == 123) = false := by simp; omega
  have gc45 : ((s[i].toNat : Int) == 45) = false := by simp; omega
  have gd48 : decide (48 ≤ (s[i].toNat : Int)) = true := by simp; omega
  have ge57 : decide ((s[i].toNat : Int) ≤ 57) = true := by simp; omega
  have NX := Lib.hid (fun u hu => pnumber_any pb s i u hu (Nat.le_of_lt hi') hs)
  generalize hTR : numAt s.data.toList i = tr at *
  clear hTR
  go_enter Tryd.func23, Tryd.ntmps23
  go_wp2
  generalize w.alloc (.cells #[.int .i64 0, .bool false, .int .i64 0, .string ⟨#[]⟩, .slice none 0 0, .slice none 0 0] 25) = wa at *
  go_quiet (fail)
  go_wp2_with (first
    | (have hx := HP2.out; clear hx; go_at_call 34; refine (TF.out _ HP2.out).mono ?_; rintro e w3 ⟨rfl, p1, f1⟩; have HP3 := Lib.hid p1; have HR3 := Lib.hid (HR2.out.frm f1 hne); have HF3 := Lib.hid (HF2.out.trans f1); clear p1 f1
       have r0 := HR3.out.c0; have r1 := HR3.out.c1; have r2 := HR3.out.c2; have r3 := HR3.out.c3; have r4 := HR3.out.c4; have r5 := HR3.out.c5; have z0 := HR3.out.fz 0; have z1 := HR3.out.fz 1; have z2 := HR3.out.fz 2; have z3 := HR3.out.fz 3; have z4 := HR3.out.fz 4; have z5 := HR3.out.fz 5; have c0 := HP3.out.c0; have c1 := HP3.out.c1; have c2 := HP3.out.c2)
    | (have hx := HP1.out; clear hx; go_at_call 34; refine (TT.out _ HP1.out).mono ?_; rintro e w2 ⟨rfl, p1, f1⟩; have HP2 := Lib.hid p1; have HR2 := Lib.hid (HR1.out.frm f1 hne); have HF2 := Lib.hid (HF1.out.trans f1); clear p1 f1)
    | (go_at_call 34; refine (TN.out _ (HP0.out.drewN _)).mono ?_; rintro e w1 ⟨rfl, p1, f1⟩; have HP1 := Lib.hid p1; have HR1 := Lib.hid ((HR0.out.drewN nq).frm f1 hne); have HF1 := Lib.hid ((HF0.out.drewN nq).trans f1); clear p1 f1))
  go_quiet (fail)
  go_wp2
  go_quiet (fail)
  go_wp2
  go_quiet (fail)
  go_wp2
  go_quiet (fail)
  go_wp2_with (go_at_call 38; refine (NX.out _ (HP3.out.drewN _)).mono ?_; rintro e w4 ⟨n, k, cc, rfl, hk, p4, f4, hm⟩; have HP4 := Lib.hid p4; have HR4 := Lib.hid ((HR3.out.drewN _).frm f4 hne); have HF4 := Lib.hid ((HF3.out.drewN _).trans f4); have HM := Lib.hid hm; clear p4 f4 hm; have r0 := HR4.out.c0; have r1 := HR4.out.c1; have r2 := HR4.out.c2; have r3 := HR4.out.c3; have r4 := HR4.out.c4; have r5 := HR4.out.c5; have z0 := HR4.out.fz 0; have z1 := HR4.out.fz 1; have z2 := HR4.out.fz 2; have z3 := HR4.out.fz 3; have z4 := HR4.out.fz 4; have z5 := HR4.out.fz 5)
  have hm' : PVm k cc (fun g => w.heap.size ≤ g ∧ g ≠ w.heap.size) w4 (nmR tr) [.int .i64 2, .bool false, .int .i64 n, .string ⟨#[]⟩, .slice none 0 0, .slice none 0 0] := by
    have hm := HM.out
    cases tr with
    | error x => exact ⟨hm.1, .inl hm.2⟩
    | ok tk => obtain ⟨h1, h2, h3⟩ := hm; subst h1; exact ⟨h2, h3, JIn.plain _ _ _ _⟩
  have hv := HR4.out.fill (.int .i64 2) (.bool false) (.int .i64 n) (.string ⟨#[]⟩) (.slice none 0 0) (.slice none 0 0)
  change bodyPost _ _ _ _ _ (Fill6 w4 w.heap.size (.int .i64 2) (.bool false) (.int .i64 n) (.string ⟨#[]⟩) (.slice none 0 0) (.slice none 0 0))
  have hfin := pv_fin (r := nmR tr) 2 false n ⟨#[]⟩ none 0 0 none 0 0 HR4.out HP4.out HF4.out hk (Nat.le_refl _) hne hm'
  generalize Fill6 w4 w.heap.size (.int .i64 2) (.bool false) (.int .i64 n) (.string ⟨#[]⟩) (.slice none 0 0) (.slice none 0 0) = v at *
  exact bodyPost_ret (v := .agg #[.int .i64 2, .bool false, .int .i64 n, .string ⟨#[]⟩, .slice none 0 0, .slice none 0 0]) (by simp [results, Tryd.results23, go_sem, hv.c0, hv.c1, hv.c2, hv.c3, hv.c4, hv.c5]) rfl hfin

set_option maxHeartbeats 8000000 in
set_option maxRecDepth 100000 in
theorem pval_low (pb : Nat) (s : ByteArray) (i : Nat) (deep : Int) (w : World) (h : PAt w pb s i 0) (hs : s.size ≤ 65536) (hi : i < s.size) (hc : s[i].toNat < 48 ∧ s[i].toNat ≠ 45 ∧ s[i].toNat ≠ 34) (hN : wordAt [110, 117, 108, 108] s.data.toList i = false) (hT : wordAt [116, 114, 117, 101] s.data.toList i = false) (hF : wordAt [102, 97, 108, 115, 101] s.data.toList i = false) :
    Calls Tryd.prog 23 #[.pointer (some ⟨pb, 0, none⟩), .int .i64 deep] w (PV pb s (.error 300) w) := by
  have hi' : i < s.size := hi
  have hlt := h.lt
  have hne : w.heap.size ≠ pb := by omega
  have hA := (Below.refl _ w).alloc (Nat.le_refl _) (.cells #[.int .i64 0, .bool false, .int .i64 0, .string ⟨#[]⟩, .slice none 0 0, .slice none 0 0] 25)
  have hP := h.new hA
  have HP0 := Lib.hid hP
  have HR0 := Lib.hid (j6_new w (.int .i64 0) (.bool false) (.int .i64 0) (.string ⟨#[]⟩) (.slice none 0 0) (.slice none 0 0))
  have HF0 := Lib.hid (Frm.of_new hA (One pb))
  have c0 := hP.c0
  have c1 := hP.c1
  have c2 := hP.c2
  have q0 := hP.fz 2
  clear h hA hP hlt
  have TN : Hid (∀ u, PAt u pb s i 0 → Calls Tryd.prog 34 #[.pointer (some ⟨pb, 0, none⟩), .string ⟨#[110, 117, 108, 108]⟩] u (PTold pb s i 0 (.bool false) u)) := by
    intro u hu
    have := pword_any pb s ⟨#[110, 117, 108, 108]⟩ i 0 u hu (by omega) hs (by decide)
    rw [show (ByteArray.mk #[110, 117, 108, 108]).data.toList = [110, 117, 108, 108] from rfl, hN] at this
    exact this
  have TT : Hid (∀ u, PAt u pb s i 0 → Calls Tryd.prog 34 #[.pointer (some ⟨pb, 0, none⟩), .string ⟨#[116, 114, 117, 101]⟩] u (PTold pb s i 0 (.bool false) u)) := by
    intro u hu
    have := pword_any pb s ⟨#[116, 114, 117, 101]⟩ i 0 u hu (by omega) hs (by decide)
    rw [show (ByteArray.mk #[116, 114, 117, 101]).data.toList = [116, 114, 117, 101] from rfl, hT] at this
    exact this
  have TF : Hid (∀ u, PAt u pb s i 0 → Calls Tryd.prog 34 #[.pointer (some ⟨pb, 0, none⟩), .string ⟨#[102, 97, 108, 115, 101]⟩] u (PTold pb s i 0 (.bool false) u)) := by
    intro u hu
    have := pword_any pb s ⟨#[102, 97, 108, 115, 101]⟩ i 0 u hu (by omega) hs (by decide)
    rw [show (ByteArray.mk #[102, 97, 108, 115, 101]).data.toList = [102, 97, 108, 115, 101] from rfl, hF] at this
    exact this
  have g0 : decide ((i : Int) ≥ (s.size : Int)) = false := by simp; omega
  have g1 : ¬ (s.size : Int) ≤ (i : Int) := by omega
  have g2 : (i : Int) < (s.size : Int) := by omega
  have g3 : (0 : Int) ≤ (i : Int) := by omega
  have ge : ((i : Int).toNat) = i := by omega
  have gx : s.data[i]? = some s[i] := by simp [hi']; rfl
  have gc34 : ((s[i].toNat : Int) == 34) = false := by simp; omega
  have gc91 : ((s[i].toNat : Int) == 91) = false := by simp; omega
  have gc123 : ((s[i].toNat : Int) == 123) = false := by simp; omega
  have gc45 : ((s[i].toNat : Int) == 45) = false := by simp; omega
  have gd48 : decide (48 ≤ (s[i].toNat : Int)) = false := by simp; omega
  go_enter Tryd.func23, Tryd.ntmps23
  go_wp2
  generalize w.alloc (.cells #[.int .i64 0, .bool false, .int .i64 0, .string ⟨#[]⟩, .slice none 0 0, .slice none 0 0] 25) = wa at *
  go_quiet (fail)
  go_wp2_with (first
    | (have hx := HP2.out; clear hx; go_at_call 34; refine (TF.out _ HP2.out).mono ?_; rintro e w3 ⟨rfl, p1, f1⟩; have HP3 := Lib.hid p1; have HR3 := Lib.hid (HR2.out.frm f1 hne); have HF3 := Lib.hid (HF2.out.trans f1); clear p1 f1
       have r0 := HR3.out.c0; have r1 := HR3.out.c1; have r2 := HR3.out.c2; have r3 := HR3.out.c3; have r4 := HR3.out.c4; have r5 := HR3.out.c5; have z0 := HR3.out.fz 0; have z1 := HR3.out.fz 1; have z2 := HR3.out.fz 2; have z3 := HR3.out.fz 3; have z4 := HR3.out.fz 4; have z5 := HR3.out.fz 5; have c0 := HP3.out.c0; have c1 := HP3.out.c1; have c2 := HP3.out.c2)
    | (have hx := HP1.out; clear hx; go_at_call 34; refine (TT.out _ HP1.out).mono ?_; rintro e w2 ⟨rfl, p1, f1⟩; have HP2 := Lib.hid p1; have HR2 := Lib.hid (HR1.out.frm f1 hne); have HF2 := Lib.hid (HF1.out.trans f1); clear p1 f1)
    | (go_at_call 34; refine (TN.out _ (HP0.out.drewN _)).mono ?_; rintro e w1 ⟨rfl, p1, f1⟩; have HP1 := Lib.hid p1; have HR1 := Lib.hid ((HR0.out.drewN nq).frm f1 hne); have HF1 := Lib.hid ((HF0.out.drewN nq).trans f1); clear p1 f1))
  go_quiet (fail)
  go_wp2
  go_quiet (fail)
  go_wp2
  go_quiet (fail)
  go_wp2
  go_quiet (fail)
  go_wp2_with (go_at_call 24; refine (pfail_any pb s i 0 300 _ (HP3.out.drewN _)).mono ?_; rintro e w4 ⟨rfl, p4, f4⟩; have HP4 := Lib.hid p4; have HR4 := Lib.hid ((HR3.out.drewN _).frm f4 hne); have HF4 := Lib.hid ((HF3.out.drewN _).trans f4); clear p4 f4; have r0 := HR4.out.c0; have r1 := HR4.out.c1; have r2 := HR4.out.c2; have r3 := HR4.out.c3; have r4 := HR4.out.c4; have r5 := HR4.out.c5; have z0 := HR4.out.fz 0; have z1 := HR4.out.fz 1; have z2 := HR4.out.fz 2; have z3 := HR4.out.fz 3; have z4 := HR4.out.fz 4; have z5 := HR4.out.fz 5)
  have hv := HR4.out.fill (.int .i64 0) (.bool false) (.int .i64 0) (.string ⟨#[]⟩) (.slice none 0 0) (.slice none 0 0)
  change bodyPost _ _ _ _ _ (Fill6 w4 w.heap.size (.int .i64 0) (.bool false) (.int .i64 0) (.string ⟨#[]⟩) (.slice none 0 0) (.slice none 0 0))
  have hfin := pv_fin (r := (.error 300)) 0 false 0 ⟨#[]⟩ none 0 0 none 0 0 HR4.out HP4.out HF4.out (Nat.le_of_lt hi') (Nat.le_refl _) hne ⟨rfl, .inl rfl⟩
  generalize Fill6 w4 w.heap.size (.int .i64 0) (.bool false) (.int .i64 0) (.string ⟨#[]⟩) (.slice none 0 0) (.slice none 0 0) = v at *
  exact bodyPost_ret (v := .agg #[.int .i64 0, .bool false, .int .i64 0, .string ⟨#[]⟩, .slice none 0 0, .slice none 0 0]) (by simp [results, Tryd.results23, go_sem, hv.c0, hv.c1, hv.c2, hv.c3, hv.c4, hv.c5]) rfl hfin

set_option maxHeartbeats 8000000 in
set_option maxRecDepth 100000 in
theorem pval_high (pb : Nat) (s : ByteArray) (i : Nat) (deep : Int) (w : World) (h : PAt w pb s i 0) (hs : s.size ≤ 65536) (hi : i < s.size) (hc : 57 < s[i].toNat ∧ s[i].toNat ≠ 91 ∧ s[i].toNat ≠ 123) (hN : wordAt [110, 117, 108, 108] s.data.toList i = false) (hT : wordAt [116, 114, 117, 101] s.data.toList i = false) (hF : wordAt [102, 97, 108, 115, 101] s.data.toList i = false) :
    Calls Tryd.prog 23 #[.pointer (some ⟨pb, 0, none⟩), .int .i64 deep] w (PV pb s (.error 300) w) := by
  have hi' : i < s.size := hi
  have hlt := h.lt
  have hne : w.heap.size ≠ pb := by omega
  have hA := (Below.refl _ w).alloc (Nat.le_refl _) (.cells #[.int .i64 0, .bool false, .int .i64 0, .string ⟨#[]⟩, .slice none 0 0, .slice none 0 0] 25)
  have hP := h.new hA
  have HP0 := Lib.hid hP
  have HR0 := Lib.hid (j6_new w (.int .i64 0) (.bool false) (.int .i64 0) (.string ⟨#[]⟩) (.slice none 0 0) (.slice none 0 0))
  have HF0 := Lib.hid (Frm.of_new hA (One pb))
  have c0 := hP.c0
  have c1 := hP.c1
  have c2 := hP.c2
  have q0 := hP.fz 2
  clear h hA hP hlt
  have TN : Hid (∀ u, PAt u pb s i 0 → Calls Tryd.prog 34 #[.pointer (some ⟨pb, 0, none⟩), .string ⟨#[110, 117, 108, 108]⟩] u (PTold pb s i 0 (.bool false) u)) := by
    intro u hu
    have := pword_any pb s ⟨#[110, 117, 108, 108]⟩ i 0 u hu (by omega) hs (by decide)
    rw [show (ByteArray.mk #[110, 117, 108, 108]).data.toList = [110, 117, 108, 108] from rfl, hN] at this
    exact this
  have TT : Hid (∀ u, PAt u pb s i 0 → Calls Tryd.prog 34 #[.pointer (some ⟨pb, 0, none⟩), .string ⟨#[116, 114, 117, 101]⟩] u (PTold pb s i 0 (.bool false) u)) := by
    intro u hu
    have := pword_any pb s ⟨#[116, 114, 117, 101]⟩ i 0 u hu (by omega) hs (by decide)
    rw [show (ByteArray.mk #[116, 114, 117, 101]).data.toList = [116, 114, 117, 101] from rfl, hT] at this
    exact this
  have TF : Hid (∀ u, PAt u pb s i 0 → Calls Tryd.prog 34 #[.pointer (some ⟨pb, 0, none⟩), .string ⟨#[102, 97, 108, 115, 101]⟩] u (PTold pb s i 0 (.bool false) u)) := by
    intro u hu
    have := pword_any pb s ⟨#[102, 97, 108, 115, 101]⟩ i 0 u hu (by omega) hs (by decide)
    rw [show (ByteArray.mk #[102, 97, 108, 115, 101]).data.toList = [102, 97, 108, 115, 101] from rfl, hF] at this
    exact this
  have g0 : decide ((i : Int) ≥ (s.size : Int)) = false := by simp; omega
  have g1 : ¬ (s.size : Int) ≤ (i : Int) := by omega
  have g2 : (i : Int) < (s.size : Int) := by omega
  have g3 : (0 : Int) ≤ (i : Int) := by omega
  have ge : ((i : Int).toNat) = i := by omega
  have gx : s.data[i]? = some s[i] := by simp [hi']; rfl
  have gc34 : ((s[i].toNat : Int) == 34) = false := by simp; omega
  have gc91 : ((s[i].toNat : Int) == 91) = false := by simp; omega
  have gc123 : ((s[i].toNat : Int) == 123) = false := by simp; omega
  have gc45 : ((s[i].toNat : Int) == 45) = false := by simp; omega
  have gd48 : decide (48 ≤ (s[i].toNat : Int)) = true := by simp; omega
  have ge57 : decide ((s[i].toNat : Int) ≤ 57) = false := by simp; omega
  go_enter Tryd.func23, Tryd.ntmps23
  go_wp2
  generalize w.alloc (.cells #[.int .i64 0, .bool false, .int .i64 0, .string ⟨#[]⟩, .slice none 0 0, .slice none 0 0] 25) = wa at *
  go_quiet (fail)
  go_wp2_with (first
    | (have hx := HP2.out; clear hx; go_at_call 34; refine (TF.out _ HP2.out).mono ?_; rintro e w3 ⟨rfl, p1, f1⟩; have HP3 := Lib.hid p1; have HR3 := Lib.hid (HR2.out.frm f1 hne); have HF3 := Lib.hid (HF2.out.trans f1); clear p1 f1
       have r0 := HR3.out.c0; have r1 := HR3.out.c1; have r2 := HR3.out.c2; have r3 := HR3.out.c3; have r4 := HR3.out.c4; have r5 := HR3.out.c5; have z0 := HR3.out.fz 0; have z1 := HR3.out.fz 1; have z2 := HR3.out.fz 2; have z3 := HR3.out.fz 3; have z4 := HR3.out.fz 4; have z5 := HR3.out.fz 5; have c0 := HP3.out.c0; have c1 := HP3.out.c1; have c2 := HP3.out.c2)
    | (have hx := HP1.out; clear hx; go_at_call 34; refine (TT.out _ HP1.out).mono ?_; rintro e w2 ⟨rfl, p1, f1⟩; have HP2 := Lib.hid p1; have HR2 := Lib.hid (HR1.out.frm f1 hne); have HF2 := Lib.hid (HF1.out.trans f1); clear p1 f1)
    | (go_at_call 34; refine (TN.out _ (HP0.out.drewN _)).mono ?_; rintro e w1 ⟨rfl, p1, f1⟩; have HP1 := Lib.hid p1; have HR1 := Lib.hid ((HR0.out.drewN nq).frm f1 hne); have HF1 := Lib.hid ((HF0.out.drewN nq).trans f1); clear p1 f1))
  go_quiet (fail)
  go_wp2
  go_quiet (fail)
  go_wp2
  go_quiet (fail)
  go_wp2
  go_quiet (fail)
  go_wp2_with (go_at_call 24; refine (pfail_any pb s i 0 300 _ (HP3.out.drewN _)).mono ?_; rintro e w4 ⟨rfl, p4, f4⟩; have HP4 := Lib.hid p4; have HR4 := Lib.hid ((HR3.out.drewN _).frm f4 hne); have HF4 := Lib.hid ((HF3.out.drewN _).trans f4); clear p4 f4; have r0 := HR4.out.c0; have r1 := HR4.out.c1; have r2 := HR4.out.c2; have r3 := HR4.out.c3; have r4 := HR4.out.c4; have r5 := HR4.out.c5; have z0 := HR4.out.fz 0; have z1 := HR4.out.fz 1; have z2 := HR4.out.fz 2; have z3 := HR4.out.fz 3; have z4 := HR4.out.fz 4; have z5 := HR4.out.fz 5)
  have hv := HR4.out.fill (.int .i64 0) (.bool false) (.int .i64 0) (.string ⟨#[]⟩) (.slice none 0 0) (.slice none 0 0)
  change bodyPost _ _ _ _ _ (Fill6 w4 w.heap.size (.int .i64 0) (.bool false) (.int .i64 0) (.string ⟨#[]⟩) (.slice none 0 0) (.slice none 0 0))
  have hfin := pv_fin (r := (.error 300)) 0 false 0 ⟨#[]⟩ none 0 0 none 0 0 HR4.out HP4.out HF4.out (Nat.le_of_lt hi') (Nat.le_refl _) hne ⟨rfl, .inl rfl⟩
  generalize Fill6 w4 w.heap.size (.int .i64 0) (.bool false) (.int .i64 0) (.string ⟨#[]⟩) (.slice none 0 0) (.slice none 0 0) = v at *
  exact bodyPost_ret (v := .agg #[.int .i64 0, .bool false, .int .i64 0, .string ⟨#[]⟩, .slice none 0 0, .slice none 0 0]) (by simp [results, Tryd.results23, go_sem, hv.c0, hv.c1, hv.c2, hv.c3, hv.c4, hv.c5]) rfl hfin

/-- A list, an object, whose mark stands at a place. -/
def listR (l : List UInt8) (sub : Option (Nat → Rd J)) (i : Nat) : Rd J :=
  match sub with
  | none => .error 301
  | some f => if wordAt [93] l (skipW l (i + 1)) then .ok (jList [], skipW l (i + 1) + 1) else listAt l f (l.length + 1) (skipW l (i + 1)) []
def objR (l : List UInt8) (sub : Option (Nat → Rd J)) (i : Nat) : Rd J :=
  match sub with
  | none => .error 301
  | some f => if wordAt [125] l (skipW l (i + 1)) then .ok (jObj [] [], skipW l (i + 1) + 1) else objAt l f (l.length + 1) (skipW l (i + 1)) [] []
theorem valF_eq (l : List UInt8) (sub : Option (Nat → Rd J)) (i : Nat) (c : UInt8) (h : l[i]? = some c) : valF l sub i =
    if wordAt [110, 117, 108, 108] l i then .ok (jNull, i + 4)
    else if wordAt [116, 114, 117, 101] l i then .ok (jBool true, i + 4)
    else if wordAt [102, 97, 108, 115, 101] l i then .ok (jBool false, i + 5)
    else if c.toNat = 34 then txR (textOf l i)
    else if c.toNat = 91 then listR l sub i
    else if c.toNat = 123 then objR l sub i
    else if c.toNat = 45 ∨ (48 ≤ c.toNat ∧ c.toNat ≤ 57) then nmR (numAt l i)
    else .error 300 := by
  unfold valF; rw [h]; rfl
theorem pval_of (pb : Nat) (s : ByteArray) (sub : Option (Nat → Rd J)) (i : Nat) (deep : Int) (w : World) (h : PAt w pb s i 0) (hi : i ≤ s.size) (hs : s.size ≤ 65536) (hd : 0 ≤ deep ∧ deep ≤ 16)
    (hL : i < s.size → ∀ u, PAt u pb s i 0 → Calls Tryd.prog 36 #[.pointer (some ⟨pb, 0, none⟩), .int .i64 (deep + 1)] u (PV pb s (listR s.data.toList sub i) u))
    (hO : i < s.size → ∀ u, PAt u pb s i 0 → Calls Tryd.prog 37 #[.pointer (some ⟨pb, 0, none⟩), .int .i64 (deep + 1)] u (PV pb s (objR s.data.toList sub i) u)) :
    Calls Tryd.prog 23 #[.pointer (some ⟨pb, 0, none⟩), .int .i64 deep] w (PV pb s (valF s.data.toList sub i) w) := by
  have HL : s.data.toList.length = s.size := by simp
  by_cases hlt : i < s.size
  · rw [valF_eq _ _ _ s[i] (by rw [List.getElem?_eq_getElem (by rw [HL]; exact hlt)]; rfl)]
    by_cases hN : wordAt [110, 117, 108, 108] s.data.toList i = true
    · rw [if_pos hN]
      exact pval_null pb s i deep w h hs hlt ((wordAt_iff s ⟨#[110, 117, 108, 108]⟩ i hi).1 hN).1 hN
    rw [if_neg hN]
    have hN' : wordAt [110, 117, 108, 108] s.data.toList i = false := by simpa using hN
    by_cases hT : wordAt [116, 114, 117, 101] s.data.toList i = true
    · rw [if_pos hT]
      exact pval_true pb s i deep w h hs hlt ((wordAt_iff s ⟨#[116, 114, 117, 101]⟩ i hi).1 hT).1 hN' hT
    rw [if_neg hT]
    have hT' : wordAt [116, 114, 117, 101] s.data.toList i = false := by simpa using hT
    by_cases hF : wordAt [102, 97, 108, 115, 101] s.data.toList i = true
    · rw [if_pos hF]
      exact pval_false pb s i deep w h hs hlt ((wordAt_iff s ⟨#[102, 97, 108, 115, 101]⟩ i hi).1 hF).1 hN' hT' hF
    rw [if_neg hF]
    have hF' : wordAt [102, 97, 108, 115, 101] s.data.toList i = false := by simpa using hF
    by_cases h34 : s[i].toNat = 34
    · rw [if_pos h34]; exact pval_text pb s i deep w h hs hlt h34 hN' hT' hF'
    rw [if_neg h34]
    by_cases h91 : s[i].toNat = 91
    · rw [if_pos h91]; exact pval_list pb s i deep w h hs hlt h91 _ hd (hL hlt) hN' hT' hF'
    rw [if_neg h91]
    by_cases h123 : s[i].toNat = 123
    · rw [if_pos h123]; exact pval_object pb s i deep w h hs hlt h123 _ hd (hO hlt) hN' hT' hF'
    rw [if_neg h123]
    by_cases h45 : s[i].toNat = 45
    · rw [if_pos (.inl h45)]; exact pval_minus pb s i deep w h hs hlt h45 hN' hT' hF'
    by_cases hdg : 48 ≤ s[i].toNat ∧ s[i].toNat ≤ 57
    · rw [if_pos (.inr hdg)]; exact pval_digit pb s i deep w h hs hlt hdg hN' hT' hF'
    rw [if_neg (by omega)]
    by_cases hlo : s[i].toNat < 48
    · exact pval_low pb s i deep w h hs hlt ⟨hlo, h45, h34⟩ hN' hT' hF'
    · exact pval_high pb s i deep w h hs hlt ⟨by omega, h91, h123⟩ hN' hT' hF'
  · have e : valF s.data.toList sub i = .error 300 := by
      unfold valF; rw [List.getElem?_eq_none (by rw [HL]; omega)]
    rw [e]
    exact pval_end pb s i deep w h hs (by omega)

end Go.Proofs.YtcobadgpelhcoaaDoor
