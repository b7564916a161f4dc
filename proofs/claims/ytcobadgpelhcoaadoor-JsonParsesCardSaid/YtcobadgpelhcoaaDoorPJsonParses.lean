/- The law on Parse, walked. Parse: the program answers every text as the document tells it, twice the same, with memory of its own. Conditions: none beside the form's own. -/
import Derived.Test.YtcobadgpelhcoaaDoorRWhole
import Derived.Test.YtcobadgpelhcoaaDoorSAwake
import Derived.Test.YtcobadgpelhcoaaDoorFMath
import Derived.Test.YtcobadgpelhcoaaDoorFEq
import Derived.Deep.Cut
import Derived.Test.YtcobadgpelhcoaaDoorCards
import Derived.Test.YtcobadgpelhcoaaDoorTie
import Derived.WalkKit
import Derived.ProofKit
import Derived.OpenShut
import Derived.Below
import Derived.LaidMore
import Derived.Stop.Joined
import Derived.SevenTiedAt
import Derived.ShutString
import Derived.SizedLaws
import Derived.Lib.LaidTab
namespace Go.Proofs.YtcobadgpelhcoaaDoor
open Go.Conc Go.RowKit
set_option linter.unusedVariables false
set_option linter.unusedSimpArgs false

/-- New blocks that may be written. -/
def Nu (a w : World) (g : Nat) : Prop := a.heap.size ≤ g ∧ ∀ o, w.frozen? ⟨g, o, none⟩ = false
def JPu (r : Except Int J) (w : World) (e : Ending) (w' : World) : Prop :=
  match r with
  | .ok j => ∃ cs : List Value, e = .returned (.tuple #[.agg cs.toArray, .int .i64 0]) ∧ Below w.heap.size w w' ∧ JIn (Nu w w') w' j cs
  | .error c => e = .returned (.tuple #[zJ, .int .i64 c]) ∧ Below w.heap.size w w'

theorem spo_cell {w : World} {p q : Addr} {x v : Value} (h : w.cell? q = some v) : ∃ v', (w.setCell p x).cell? q = some v' := by
  by_cases e : p = q
  · subst e; exact ⟨x, World.cell?_setCell_same (w := w) (a := p) (v := x) h⟩
  · exact ⟨v, by rw [World.cell?_setCell_other (w := w) (a := p) (b := q) (v := x) e]; exact h⟩
theorem spo_fz (w : World) (p q : Addr) (v : Value) : (w.setCell p v).frozen? q = w.frozen? q := by simp
theorem rows_of {F : Nat → Prop} {w : World} {j : J} {k : Int} {b : Bool} {n : Int} {s : ByteArray} {la : Option Addr} {nl lc : Nat} {ka : Option Addr} {nk kc : Nat} (h : JIn F w j [.int .i64 k, .bool b, .int .i64 n, .string s, .slice la nl lc, .slice ka nk kc]) (hm : JSm j) :
    (nl ≤ 2000000 ∧ nk ≤ 2000000) ∧ (nl = 0 ∨ ∃ g o, la = some ⟨g, o, none⟩ ∧ F g ∧ g < w.heap.size ∧ ∀ q, q < nl → ∃ u, w.cell? ⟨g, o + q * 6, none⟩ = some u) ∧ (nk = 0 ∨ ∃ g o, ka = some ⟨g, o, none⟩ ∧ F g ∧ g < w.heap.size ∧ ∀ q, q < nk → ∃ u, w.cell? ⟨g, o + q, none⟩ = some u) := by
  cases h with
  | mk k b n s l ks lv kv cs hl hk hc hs =>
    cases hm with
    | mk _ _ _ _ _ _ hn hss hll hkl hks hj =>
      obtain ⟨hlen, a, cap, e, hx⟩ := hl
      obtain ⟨hlen2, a2, cap2, e2, hx2⟩ := hk
      simp only [Value.slice.injEq] at e e2
      obtain ⟨rfl, rfl, rfl⟩ := e
      obtain ⟨rfl, rfl, rfl⟩ := e2
      refine ⟨⟨hll, hkl⟩, hx.imp id ?_, hx2.imp id ?_⟩
      · rintro ⟨g, o, rfl, hF, hg, hcell⟩
        exact ⟨g, o, rfl, hF, hg, fun q hq => ⟨_, hcell (q * 6) _ (List.getElem?_eq_getElem (by omega))⟩⟩
      · rintro ⟨g, o, rfl, hF, hg, hcell⟩
        exact ⟨g, o, rfl, hF, hg, fun q hq => ⟨_, hcell q _ (List.getElem?_eq_getElem (by omega))⟩⟩
theorem below_of_sp {a w v : World} {n : Nat} (hb : Below a.heap.size a w) (h : Frm (fun g => a.heap.size ≤ g ∧ g < n) w v) : Below a.heap.size a v :=
  ⟨h.os.trans hb.os, h.tape.trans hb.tape, h.output.trans hb.output, Nat.le_trans hb.size h.size, fun j hj => (h.block j (Nat.lt_of_lt_of_le hj hb.size) (fun e => by have := e.1; omega)).trans (hb.block j hj)⟩
/-- Only what is spoilt has turned. -/
structure Spo (SP : Nat → Prop) (w wr : World) : Prop where
  frm : Frm SP w wr
  cell : ∀ p u, w.cell? p = some u → ∃ u', wr.cell? p = some u'
  fz : ∀ p, wr.frozen? p = w.frozen? p
theorem Spo.refl (SP : Nat → Prop) (w : World) : Spo SP w w := ⟨Frm.refl _ _, fun _ u h => ⟨u, h⟩, fun _ => rfl⟩
theorem Spo.set {SP : Nat → Prop} {w wr : World} (h : Spo SP w wr) {p : Addr} (hp : SP p.block) (v : Value) : Spo SP w (wr.setCell p v) :=
  ⟨h.frm.setCell hp v, fun q u hq => by obtain ⟨u', h'⟩ := h.cell q u hq; exact spo_cell h', fun q => by rw [← h.fz q]; exact spo_fz wr p q v⟩

set_option maxHeartbeats 8000000 in
set_option maxRecDepth 100000 in
theorem ljp_ok (B : Nat) (j : J) (s : ByteArray) (w : World) (hp : ∀ u, Calls Tryd.prog 10 #[.string s] u (JPu (.ok j) u)) (hr : ∀ u, Calls Tryd.prog 11 #[.string s] u (JPd (.ok j) u)) (hm : JSm j) (ht : TabLow B w) (hB : B ≤ w.heap.size) :
    Calls Tryd.prog 3 #[.string s] w fun e w' => e = .returned (.bool true) ∧ Below w.heap.size w w' := by
  have Ha := Lib.hid hp
  have Hb := Ha
  have Hc := Lib.hid hr
  have HM := Lib.hid hm
  have HT := Lib.hid ht
  clear hp hr hm ht
  go_enter Tryd.func3, Tryd.ntmps3
  go_upto_region 2 with (go_at_call 10; refine (Ha.out _).mono ?_; rintro e w1 ⟨cs, rfl, hb, hj⟩; obtain ⟨xk, xb, xn, xs, xla, xnl, xlc, xka, xnk, xkc, rfl⟩ := hj.form; have Bw1 := Lib.hid hb; have Jw1 := Lib.hid hj; clear hb hj)
  have hx := (Below.refl _ w1).alloc (Nat.le_refl _) (.cells #[.int .i64 xk, .bool xb, .int .i64 xn, .string xs, .slice xla xnl xlc, .slice xka xnk xkc] 25)
  have Xw2 := Lib.hid (j6_new w1 (.int .i64 xk) (.bool xb) (.int .i64 xn) (.string xs) (.slice xla xnl xlc) (.slice xka xnk xkc))
  have hlw2 : w1.heap.size < (w1.alloc (.cells #[.int .i64 xk, .bool xb, .int .i64 xn, .string xs, .slice xla xnl xlc, .slice xka xnk xkc] 25)).heap.size := by simp
  have Aw2 := Lib.hid hx
  clear hx
  generalize w1.alloc (.cells #[.int .i64 xk, .bool xb, .int .i64 xn, .string xs, .slice xla xnl xlc, .slice xka xnk xkc] 25) = w2 at *
  go_upto_region 3 with (go_at_call 10; refine (Hb.out _).mono ?_; rintro e w3 ⟨cs, rfl, hb, hj⟩; obtain ⟨yk, yb, yn, ys, yla, ynl, ylc, yka, ynk, ykc, rfl⟩ := hj.form; have Bw3 := Lib.hid hb; have Jw3 := Lib.hid hj; clear hb hj)
  have hx := (Below.refl _ w3).alloc (Nat.le_refl _) (.cells #[.int .i64 yk, .bool yb, .int .i64 yn, .string ys, .slice yla ynl ylc, .slice yka ynk ykc] 25)
  have Xw4 := Lib.hid (j6_new w3 (.int .i64 yk) (.bool yb) (.int .i64 yn) (.string ys) (.slice yla ynl ylc) (.slice yka ynk ykc))
  have hlw4 : w3.heap.size < (w3.alloc (.cells #[.int .i64 yk, .bool yb, .int .i64 yn, .string ys, .slice yla ynl ylc, .slice yka ynk ykc] 25)).heap.size := by simp
  have Aw4 := Lib.hid hx
  clear hx
  generalize w3.alloc (.cells #[.int .i64 yk, .bool yb, .int .i64 yn, .string ys, .slice yla ynl ylc, .slice yka ynk ykc] 25) = w4 at *
  go_upto_region 4 with (go_at_call 11; refine (Hc.out _).mono ?_; rintro e w5 ⟨cs, rfl, hb, hj⟩; obtain ⟨zk, zb, zn, zs, zla, znl, zlc, zka, znk, zkc, rfl⟩ := hj.form; have Bw5 := Lib.hid hb; have Jw5 := Lib.hid hj; clear hb hj)
  have hx := (Below.refl _ w5).alloc (Nat.le_refl _) (.cells #[.int .i64 zk, .bool zb, .int .i64 zn, .string zs, .slice zla znl zlc, .slice zka znk zkc] 25)
  have Xw6 := Lib.hid (j6_new w5 (.int .i64 zk) (.bool zb) (.int .i64 zn) (.string zs) (.slice zla znl zlc) (.slice zka znk zkc))
  have hlw6 : w5.heap.size < (w5.alloc (.cells #[.int .i64 zk, .bool zb, .int .i64 zn, .string zs, .slice zla znl zlc, .slice zka znk zkc] 25)).heap.size := by simp
  have Aw6 := Lib.hid hx
  clear hx
  generalize w5.alloc (.cells #[.int .i64 zk, .bool zb, .int .i64 zn, .string zs, .slice zla znl zlc, .slice zka znk zkc] 25) = w6 at *
  have B24 := Bw3.out.trans (Aw4.out.mono Bw3.out.size)
  have B25 := B24.trans (Bw5.out.mono B24.size)
  have B26 := B25.trans (Aw6.out.mono B25.size)
  have B46 := Bw5.out.trans (Aw6.out.mono Bw5.out.size)
  have B02 := Bw1.out.trans (Aw2.out.mono Bw1.out.size)
  have B16 := Aw2.out.trans (B26.mono Aw2.out.size)
  have B06 := Lib.hid (B02.trans (B26.mono B02.size))
  have XA := Lib.hid (j6_below Xw2.out B26)
  have XB := Lib.hid (j6_below Xw4.out B46)
  have XC := Lib.hid Xw6.out
  have JA := Lib.hid (jin_below Jw1.out B16)
  have JB := Lib.hid (jin_below (jin_below Jw3.out Aw4.out) B46)
  have JC := Lib.hid (jin_below Jw5.out Aw6.out)
  have HS1 := Lib.hid (same_json HM.out _ _ _ _ w6 JA.out JC.out)
  have HRW := Lib.hid (rows_of Jw1.out HM.out)
  have B16h := Lib.hid B16
  have s12 := Aw2.out.size
  have s23 := Bw3.out.size
  have s34 := Aw4.out.size
  have s45 := Bw5.out.size
  have s01 := Bw1.out.size
  clear B24 B25 B26 B46 B02 B16 Jw1 Jw3 Jw5 Xw2 Xw4 Xw6 Aw2 Aw4 Aw6 Bw1 Bw3 Bw5 JA Ha Hb Hc
  have x0 := XA.out.c0; have x1 := XA.out.c1; have x2 := XA.out.c2; have x3 := XA.out.c3; have x4 := XA.out.c4; have x5 := XA.out.c5
  have z0 := XC.out.c0; have z1 := XC.out.c1; have z2 := XC.out.c2; have z3 := XC.out.c3; have z4 := XC.out.c4; have z5 := XC.out.c5
  go_upto_region 6 with (first
    | (go_at_call 12; refine HS1.out.mono ?_; rintro e w7 ⟨rfl, hb⟩; have B67 := Lib.hid hb; clear hb)
    | (go_at_call 13; refine (num_any _ _).mono ?_; rintro e w' ⟨rfl, rfl⟩))
  clear x0 x1 x2 x3 x4 x5 z0 z1 z2 z3 z4 z5
  have XA7 := Lib.hid (j6_below XA.out B67.out)
  have XB7 := Lib.hid (j6_below XB.out B67.out)
  have XC7 := Lib.hid (j6_below XC.out B67.out)
  have JB7 := Lib.hid (jin_below JB.out B67.out)
  have JC7 := Lib.hid (jin_below JC.out B67.out)
  have B17 := Lib.hid (B16h.out.trans (B67.out.mono B16h.out.size))
  have B07 := Lib.hid (B06.out.trans (B67.out.mono B06.out.size))
  have hnl := HRW.out.1.1
  have hnk := HRW.out.1.2
  have s6 := hlw6
  clear B67 XA XB XC JB JC B06 B16h HS1
  go_wp2
  go_loopg [9] (xnl + 1) (fun g iv wr => ∃ q : Nat, iv = .int .i64 q ∧ q ≤ xnl ∧ xnl + 1 ≤ q + g ∧ Spo (fun g => w.heap.size ≤ g ∧ g < w1.heap.size) w7 wr)
  case atStart => exact ⟨0, rfl, by omega, by omega, Spo.refl _ _⟩
  case round =>
    obtain ⟨q, rfl, hq, hqg, hsp⟩ := hrel
    have HSP := Lib.hid hsp
    have x4 := (J6.frm XA7.out hsp.frm (by omega)).c4
    clear hsp
    by_cases hqm : q = xnl
    rotate_left
    · obtain ⟨g, rfl⟩ : ∃ g, gk = g + 1 := ⟨gk - 1, by omega⟩
      have hqi : (q : Int) < (xnl : Int) := by omega
      have hq0 : (0 : Int) ≤ (q : Int) := by omega
      have gq : decide ((q : Int) < (xnl : Int)) = true := by simp; omega
      obtain ⟨bg, ob, rfl, hF, hbg, hcell⟩ := HRW.out.2.1.resolve_left (by omega)
      obtain ⟨u, hu⟩ := hcell q (by omega)
      obtain ⟨u', hc⟩ := HSP.out.cell ⟨bg, ob + q * 6, none⟩ u ((B17.out.cell (p := ⟨bg, ob + q * 6, none⟩) hbg).trans hu)
      have hz : wr.frozen? ⟨bg, ob + q * 6, none⟩ = false := (HSP.out.fz _).trans ((B17.out.frozen (p := ⟨bg, ob + q * 6, none⟩) hbg).trans (hF.2 _))
      have hF1 := hF.1
      clear hcell hu hF
      go_wp2
      go_roundg g
      case rel => exact ⟨q + 1, by go_num, by omega, by omega, HSP.out.set (p := ⟨bg, ob + q * 6, none⟩) ⟨hF1, hbg⟩ _⟩
      case measure => omega
    subst hqm
    have gq : decide ((q : Int) < (q : Int)) = false := by simp
    have x5 := (J6.frm XA7.out HSP.out.frm (by omega)).c5
    go_wp2
    go_loopg [10] (xnk + 1) (fun g iv wr => ∃ q : Nat, iv = .int .i64 q ∧ q ≤ xnk ∧ xnk + 1 ≤ q + g ∧ Spo (fun g => w.heap.size ≤ g ∧ g < w1.heap.size) w7 wr)
    case atStart => exact ⟨0, rfl, by omega, by omega, HSP.out⟩
    case round =>
      clear HSP x4 x5
      obtain ⟨p, rfl, hp, hpg, hsp⟩ := hrel
      have HSP := Lib.hid hsp
      have x5 := (J6.frm XA7.out hsp.frm (by omega)).c5
      clear hsp
      by_cases hpm : p = xnk
      rotate_left
      · obtain ⟨g, rfl⟩ : ∃ g, gk = g + 1 := ⟨gk - 1, by omega⟩
        have hqi : (p : Int) < (xnk : Int) := by omega
        have hq0 : (0 : Int) ≤ (p : Int) := by omega
        have gp : decide ((p : Int) < (xnk : Int)) = true := by simp; omega
        obtain ⟨bg, ob, rfl, hF, hbg, hcell⟩ := HRW.out.2.2.resolve_left (by omega)
        obtain ⟨u, hu⟩ := hcell p (by omega)
        obtain ⟨u', hc⟩ := HSP.out.cell ⟨bg, ob + p, none⟩ u ((B17.out.cell (p := ⟨bg, ob + p, none⟩) hbg).trans hu)
        have hz : wr.frozen? ⟨bg, ob + p, none⟩ = false := (HSP.out.fz _).trans ((B17.out.frozen (p := ⟨bg, ob + p, none⟩) hbg).trans (hF.2 _))
        have hF1 := hF.1
        clear hcell hu hF
        go_wp2
        go_roundg g
        case rel => exact ⟨p + 1, by go_num, by omega, by omega, HSP.out.set (p := ⟨bg, ob + p, none⟩) ⟨hF1, hbg⟩ _⟩
        case measure => omega
      subst hpm
      have gp : decide ((p : Int) < (p : Int)) = false := by simp
      have XB8 := J6.frm XB7.out HSP.out.frm (by omega)
      have XC8 := J6.frm XC7.out HSP.out.frm (by omega)
      have y0 := XB8.c0; have y1 := XB8.c1; have y2 := XB8.c2; have y3 := XB8.c3; have y4 := XB8.c4; have y5 := XB8.c5
      have z0 := XC8.c0; have z1 := XC8.c1; have z2 := XC8.c2; have z3 := XC8.c3; have z4 := XC8.c4; have z5 := XC8.c5
      have HS2 := Lib.hid (same_json HM.out _ _ _ _ wr (JB7.out.frm HSP.out.frm fun g hg _ hP => by have h1 := hg.1; have h2 := hP.2; omega) (JC7.out.frm HSP.out.frm fun g hg _ hP => by have h1 : w4.heap.size ≤ g := hg; have h2 := hP.2; omega))
      have B08 := Lib.hid (below_of_sp B07.out HSP.out.frm)
      have HT8 := Lib.hid (HT.out.keep (w' := wr) fun g hg => B08.out.block g (by omega))
      clear XB8 XC8 HSP XB7 XC7 JB7 JC7
      go_wp2_with (first
        | (go_at_call 12; refine HS2.out.mono ?_; rintro e w9 ⟨rfl, hb⟩; have B9 := Lib.hid (B08.out.trans (hb.mono B08.out.size)); clear hb; have HA := Lib.hid (jawake_any B w9 (HT.out.keep (w' := w9) fun g hg => B9.out.block g (by omega)) (by have := B9.out.size; omega)))
        | (go_at_call 14; refine HA.out.mono ?_; rintro e w10 ⟨rfl, hb⟩; have B10 := Lib.hid (B9.out.trans (hb.mono B9.out.size)); clear hb))
      go_ret
      exact ⟨rfl, B10.out⟩
theorem jsm_z : JSm (.mk 0 false 0 ⟨#[]⟩ [] []) := .mk 0 false 0 ⟨#[]⟩ [] [] (by omega) (by decide) (by simp) (by simp) (by simp) (by simp)
set_option maxHeartbeats 8000000 in
set_option maxRecDepth 100000 in
theorem ljp_no (B : Nat) (c : Int) (s : ByteArray) (w : World) (hp : ∀ u, Calls Tryd.prog 10 #[.string s] u (JPu (.error c) u)) (hr : ∀ u, Calls Tryd.prog 11 #[.string s] u (JPd (.error c) u)) (ht : TabLow B w) (hB : B ≤ w.heap.size) :
    Calls Tryd.prog 3 #[.string s] w fun e w' => e = .returned (.bool true) ∧ Below w.heap.size w w' := by
  have Ha := Lib.hid hp
  have Hc := Lib.hid hr
  have HT := Lib.hid ht
  have gc : (c != c) = false := by simp
  have gd : (c == c) = true := by simp
  clear hp hr ht
  go_enter Tryd.func3, Tryd.ntmps3
  go_upto_region 2 with (go_at_call 10; refine (Ha.out _).mono ?_; rintro e w1 ⟨rfl, hb⟩; unfold zJ; have Bw1 := Lib.hid hb; clear hb)
  have hx := (Below.refl _ w1).alloc (Nat.le_refl _) (.cells #[.int .i64 0, .bool false, .int .i64 0, .string ⟨#[]⟩, .slice none 0 0, .slice none 0 0] 25)
  have Xw2 := Lib.hid (j6_new w1 (.int .i64 0) (.bool false) (.int .i64 0) (.string ⟨#[]⟩) (.slice none 0 0) (.slice none 0 0))
  have Aw2 := Lib.hid hx
  clear hx
  generalize w1.alloc (.cells #[.int .i64 0, .bool false, .int .i64 0, .string ⟨#[]⟩, .slice none 0 0, .slice none 0 0] 25) = w2 at *
  go_upto_region 3 with (go_at_call 10; refine (Ha.out _).mono ?_; rintro e w3 ⟨rfl, hb⟩; unfold zJ; have Bw3 := Lib.hid hb; clear hb)
  have hx := (Below.refl _ w3).alloc (Nat.le_refl _) (.cells #[.int .i64 0, .bool false, .int .i64 0, .string ⟨#[]⟩, .slice none 0 0, .slice none 0 0] 25)
  have Xw4 := Lib.hid (j6_new w3 (.int .i64 0) (.bool false) (.int .i64 0) (.string ⟨#[]⟩) (.slice none 0 0) (.slice none 0 0))
  have Aw4 := Lib.hid hx
  clear hx
  generalize w3.alloc (.cells #[.int .i64 0, .bool false, .int .i64 0, .string ⟨#[]⟩, .slice none 0 0, .slice none 0 0] 25) = w4 at *
  go_upto_region 4 with (go_at_call 11; refine (Hc.out _).mono ?_; rintro e w5 ⟨rfl, hb⟩; unfold zJ; have Bw5 := Lib.hid hb; clear hb)
  have hx := (Below.refl _ w5).alloc (Nat.le_refl _) (.cells #[.int .i64 0, .bool false, .int .i64 0, .string ⟨#[]⟩, .slice none 0 0, .slice none 0 0] 25)
  have Xw6 := Lib.hid (j6_new w5 (.int .i64 0) (.bool false) (.int .i64 0) (.string ⟨#[]⟩) (.slice none 0 0) (.slice none 0 0))
  have Aw6 := Lib.hid hx
  clear hx
  generalize w5.alloc (.cells #[.int .i64 0, .bool false, .int .i64 0, .string ⟨#[]⟩, .slice none 0 0, .slice none 0 0] 25) = w6 at *
  have B24 := Bw3.out.trans (Aw4.out.mono Bw3.out.size)
  have B25 := B24.trans (Bw5.out.mono B24.size)
  have B26 := B25.trans (Aw6.out.mono B25.size)
  have B46 := Bw5.out.trans (Aw6.out.mono Bw5.out.size)
  have B02 := Bw1.out.trans (Aw2.out.mono Bw1.out.size)
  have B06 := Lib.hid (B02.trans (B26.mono B02.size))
  have XA := Lib.hid (j6_below Xw2.out B26)
  have XB := Lib.hid (j6_below Xw4.out B46)
  have XC := Lib.hid Xw6.out
  have HS1 := Lib.hid (same_json jsm_z (fun _ => True) (fun _ => True) _ _ w6 (JIn.plain 0 false 0 ⟨#[]⟩) (JIn.plain 0 false 0 ⟨#[]⟩))
  clear B24 B25 B26 B46 B02 Xw2 Xw4 Xw6 Aw2 Aw4 Aw6 Bw1 Bw3 Bw5 Ha Hc
  have x0 := XA.out.c0; have x1 := XA.out.c1; have x2 := XA.out.c2; have x3 := XA.out.c3; have x4 := XA.out.c4; have x5 := XA.out.c5
  have z0 := XC.out.c0; have z1 := XC.out.c1; have z2 := XC.out.c2; have z3 := XC.out.c3; have z4 := XC.out.c4; have z5 := XC.out.c5
  go_upto_region 6 with (first
    | (go_at_call 12; refine HS1.out.mono ?_; rintro e w7 ⟨rfl, hb⟩; have B67 := Lib.hid hb; clear hb)
    | (go_at_call 13; refine (num_any _ _).mono ?_; rintro e w' ⟨rfl, rfl⟩))
  clear x0 x1 x2 x3 x4 x5 z0 z1 z2 z3 z4 z5
  have XA7 := Lib.hid (j6_below XA.out B67.out)
  have XB7 := Lib.hid (j6_below XB.out B67.out)
  have XC7 := Lib.hid (j6_below XC.out B67.out)
  have B07 := Lib.hid (B06.out.trans (B67.out.mono B06.out.size))
  clear B67 XA XB XC B06 HS1
  have x4 := XA7.out.c4
  have x5 := XA7.out.c5
  go_wp2
  go_loopg [9] 1 (fun g iv wr => iv = .int .i64 0 ∧ w7 = wr)
  case atStart => exact ⟨rfl, rfl⟩
  case round =>
    obtain ⟨rfl, hwr⟩ := hrel
    subst hwr
    go_wp2
    go_loopg [10] 1 (fun g iv wr => iv = .int .i64 0 ∧ w7 = wr)
    case atStart => exact ⟨rfl, rfl⟩
    case round =>
      obtain ⟨rfl, hwr⟩ := hrel
      subst hwr
      have y0 := XB7.out.c0; have y1 := XB7.out.c1; have y2 := XB7.out.c2; have y3 := XB7.out.c3; have y4 := XB7.out.c4; have y5 := XB7.out.c5
      have z0 := XC7.out.c0; have z1 := XC7.out.c1; have z2 := XC7.out.c2; have z3 := XC7.out.c3; have z4 := XC7.out.c4; have z5 := XC7.out.c5
      have HS2 := Lib.hid (same_json jsm_z (fun _ => True) (fun _ => True) _ _ w7 (JIn.plain 0 false 0 ⟨#[]⟩) (JIn.plain 0 false 0 ⟨#[]⟩))
      go_wp2_with (first
        | (go_at_call 12; refine HS2.out.mono ?_; rintro e w9 ⟨rfl, hb⟩; have B9 := Lib.hid (B07.out.trans (hb.mono B07.out.size)); clear hb; have HA := Lib.hid (jawake_any B w9 (HT.out.keep (w' := w9) fun g hg => B9.out.block g (by omega)) (by have := B9.out.size; omega)))
        | (go_at_call 14; refine HA.out.mono ?_; rintro e w10 ⟨rfl, hb⟩; have B10 := Lib.hid (B9.out.trans (hb.mono B9.out.size)); clear hb))
      go_ret
      exact ⟨rfl, B10.out⟩
/-- The law on Parse, where the program's Parse answers what may be written. -/
theorem ljp_walk (B : Nat) (s : ByteArray) (w : World) (hs : s.size ≤ 140737488351232) (hp : ∀ u, Calls Tryd.prog 10 #[.string s] u (JPu (parse s.data.toList) u)) (hm : ∀ j, parse s.data.toList = .ok j → JSm j) (ht : TabLow B w) (hB : B ≤ w.heap.size) :
    Calls Tryd.prog 3 #[.string s] w fun e w' => e = .returned (.bool true) ∧ Below w.heap.size w w' := by
  have hr := fun u => rparse_any s u hs
  generalize parse s.data.toList = r at *
  cases r with
  | error c => exact ljp_no B c s w hp hr ht hB
  | ok j => exact ljp_ok B j s w hp hr (hm j rfl) ht hB
theorem jsonParses_walk (B : Nat) (s : ByteArray) (hs : s.size ≤ 140737488351232) (w : World) (ht : TabLow B w) (hB : B ≤ w.heap.size) :
    Calls Tryd.prog 3 #[.string s] w fun e w' => e = .returned (.bool true) ∧ Below w.heap.size w w' := by
  refine ljp_walk B s w hs (fun u => ?_) (fun j hj => ?_) ht hB
  · rw [parse_same]
    refine (jparse_anyU s u hs).mono fun e w' h => ?_
    generalize parseN numD s.data.toList = r at *
    cases r with
    | error c => exact h
    | ok j => obtain ⟨cs, h1, h2, h3⟩ := h; exact ⟨cs, h1, h2, JIn.mono h3 fun g _ hg => ⟨hg.1, hg.2⟩⟩
  · rw [parse_same] at hj
    exact (parse_back hj).1
end Go.Proofs.YtcobadgpelhcoaaDoor

namespace Go.Proofs.YtcobadgpelhcoaaDoor.jsonParses
open Go.ChangeShapes Go.WideShapes Go.ChangeAt Go.RowKit
open Go.ChangeMaps (open_string shut_string)
set_option linter.unusedVariables false

theorem own : ownKnob Tryd.prog.godebug = none := by kernel_rfl
theorem tabType : (Tryd.prog.globalNamed "internal/strconv.uint64pow10").bind (fun g => (Tryd.prog.globals[g]?).map (·.type)) = some 107 := by kernel_rfl
theorem tabDatum : (Rows.laid_internal_strconv_uint64pow10 : DataW Unit) = Lib.tabData .u64 Lib.pow10Tab := by kernel_rfl
theorem cellsE : Tryd.prog.cellsOf 66 = 1 := by kernel_rfl
theorem cellsT : Tryd.prog.cellsOf 107 = 20 := by kernel_rfl
theorem door_met (os : Os) (args : Array Value) : laidMetH Tryd.prog Rows.jsonParsesRow.laid ((World.doorLaid Tryd.prog 400 os).forCall (fun _ _ => 0) ⟨#[], args, []⟩).memory :=
  laidMetH_of_parts3 (fuel := 8) (laidMet_of_run' 8 (by kernel_rfl) (by kernel_rfl)) (by kernel_rfl) (by kernel_rfl)
theorem tab_of_laid {W : World} (h : laidMetH Tryd.prog Rows.jsonParsesRow.laid W) : TabLow W.heap.size W := by
  rw [MakeChecks.laidMetH_plain _ _ _ (by kernel_rfl)] at h
  obtain ⟨ps, ⟨g0, t0, cs0, f0, p0, q0, hg0, ht0, hv0, hd0, ⟨g1, t1, cs1, f1, p1, q1, hg1, ht1, hv1, hd1, ⟨g2, t2, cs2, f2, p2, q2, hg2, ht2, hv2, hd2, _, _⟩, _⟩, _⟩, _, _⟩ := h
  have hty := tabType
  rw [hg2, Option.bind_some, ht2] at hty
  obtain rfl := Option.some.inj hty
  have ht : Lib.TabIs Tryd.prog W "internal/strconv.uint64pow10" .u64 Lib.pow10Tab := by
    unfold Lib.TabIs
    have hd3 := hd2
    rw [tabDatum] at hd3
    rw [hv2, ← Lib.cells_of_tab Tryd.underlying107 Tryd.underlying66 cellsE cellsT hd3]
  refine ⟨ht, fun g hg => ?_⟩
  unfold Lib.TabIs World.var? at ht
  rw [hg, Option.bind_some] at ht
  rcases Nat.lt_or_ge g W.heap.size with h' | h'
  · exact h'
  · rw [Array.getElem?_eq_none h'] at ht; simp at ht

set_option maxRecDepth 100000 in
theorem lifted (os : Os) (started : os.Started) (H : Type) (enc : TypeId × Value → H) :
    ReturnsInHanded {} Tryd.checked os 3 .any (fun w args => (Rows.jsonParsesSpec.pre enc Tryd.prog Tryd.f3 [] false w args ∧ laidMetH Tryd.prog Rows.jsonParsesRow.laid w) ∧ sizedMet enc Tryd.prog Tryd.f3 (OpenSpec.ofChange Rows.jsonParsesSpec) false w args)
      (Rows.jsonParsesSpec.post enc Tryd.prog Tryd.f3 false true false false) := by
  refine returnsInHanded_of_change_and (C := Tryd.checked) (X := fun w _ => laidMetH Tryd.prog Rows.jsonParsesRow.laid w) (fun _ _ _ hh h => h.of_heap hh) own started (by kernel_rfl) Tryd.func3
    (ChangeSpec.witness_shaped (enc := enc) (C := Tryd.checked) (os := os) (X := fun w _ => laidMetH Tryd.prog Rows.jsonParsesRow.laid w) false (World.doorLaid Tryd.prog 400 os) #[.string ByteArray.empty] 8 rfl (World.shaped_of_RefB (by kernel_rfl) (by kernel_rfl)) (by kernel_rfl) (by kernel_rfl) (by kernel_rfl) (door_met os _)) ?_
  intro W base args ds gs before hval0 hW hz1 hz2 hL hz3
  have hval : ∀ (j : Nat) t v, Tryd.f3.params[j]? = some t → args[j]? = some v → Value.okWide Tryd.prog W .any base t v := hval0
  have hW' := hW
  obtain ⟨p, q, hA0, hV, rfl, hfz, hnd⟩ := hW
  have hA : DataW.TrodAll enc Tryd.prog W 0 (fun _ => true) true Tryd.f3.params.toList args.toList ds p := hA0
  rw [Tryd.params3] at hA hval
  obtain ⟨v0, vs0, d0, ds0, p0, q0, hargs, rfl, rfl, h0, r0⟩ := trodAll_cons hA
  obtain ⟨rfl, rfl, rfl⟩ := trodAll_nil r0
  obtain rfl : args = #[v0] := by cases args; simp_all
  obtain ⟨rfl, rfl⟩ := trodVars_none hV
  obtain ⟨a0, rfl, rfl, rfl, w0⟩ := open_string Tryd.underlying9 (hval 0 9 v0 rfl rfl) h0
  have z0 : a0.size ≤ 140737488351232 := by
    have := sized_string hz2 (j := 0) (t := 9) rfl rfl
    simpa [reachBytes] using this
  have hT := tab_of_laid hL
  clear hA0 hval0
  refine (jsonParses_walk W.heap.size a0 z0 W hT (Nat.le_refl _)).mono fun e W' ⟨he, bel⟩ => ?_
  subst he
  exact ⟨_, rfl, _, _, _, [], _, [], hW', trodAll_mk1 (shut_bool Tryd.underlying4 _), (trodAll_cons_mk (shut_string Tryd.underlying9 w0) trodAll_mk0), rfl, bel.frame _, fun h => by cases h⟩

theorem said : Rows.JsonParsesSaid :=
  OpenClaim.holds_of_wide 3 Tryd.f3 rfl rfl rfl rfl rfl rfl rfl ⟨rfl, rfl, rfl, rfl, rfl⟩ rfl rfl rfl rfl rfl (by kernel_rfl) Tryd.func3 (by kernel_rfl)
    (of_decide_eq_true (by kernel_rfl)) (by unfold Func.isWrapper; first | (rw [if_pos (by decide +kernel)]; kernel_rfl) | (rw [if_neg (by decide +kernel)]; exact ⟨rfl, rfl⟩))
    (fun os started H enc _ => lifted os started H enc)

theorem proved : Rows.JsonParsesCardSaid :=
  Claim7.holds_tied_plain_at .later [] [.data, .data, .data] true Rows.jsonParsesCard.stood.harness true
    said (fun _ h => by cases h) (by kernel_rfl) (fun _ h => by cases h) jsonParses_row_tie rfl ⟨rfl, rfl⟩ (by kernel_rfl) rfl
    (fun f fn hf hfn => by
      obtain rfl : f = 3 := Option.some.inj ((show Tryd.prog.funcNamed "boathouse/boathouselaw3.JsonParses" = some 3 by kernel_rfl).symm.trans hf) |>.symm
      obtain rfl : fn = Tryd.f3 := (Option.some.inj (Tryd.func3.symm.trans hfn)).symm
      exact ⟨by kernel_rfl, fun j t ht => by
        rw [Tryd.params3] at ht
        have hm : t ∈ [9] := by simpa using Array.mem_of_getElem? ht
        have hall : ([9].all fun u => !Tryd.prog.wantsStandIn u) = true := by kernel_rfl
        exact (show Tryd.prog.wantsStandIn t = false by simpa using List.all_eq_true.1 hall t hm)⟩)
    (by kernel_rfl)
end Go.Proofs.YtcobadgpelhcoaaDoor.jsonParses
