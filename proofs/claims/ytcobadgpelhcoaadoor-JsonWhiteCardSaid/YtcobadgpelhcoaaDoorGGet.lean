/- The program's Get: rows that are cloned. The program's Get: is there room for a copy? The program's Get: a copy. The program's Get, of values whose parts are plain. The program's Get. -/
import Derived.Test.YtcobadgpelhcoaaDoorEPrint
import Derived.OwnWalk
import Derived.Shelf.SlicesE.Clone
import Derived.StillTailTactics
import Derived.BigQuiet
import Derived.Deep.RegionHeld3
namespace Go.Proofs.YtcobadgpelhcoaaDoor
open Go.Conc Go.RowKit Go.Maps Go.WideMaps
set_option linter.unusedVariables false
set_option linter.unusedSimpArgs false

def cloneRen : Go.Shelf.Ren := ⟨fun | 41 => 66 | n => n, fun | 22 => 22 | 23 => 25 | 4 => 4 | n => n, fun | n => n⟩
theorem cloneLays : Go.Proofs.SlLaysE0.n41 Tryd.prog cloneRen := {
  mixed := by kernel_rfl
  f41 := ⟨Tryd.f66.name, by decide, Tryd.func66.trans (congrArg some (by kernel_rfl))⟩
  t4 := Tryd.underlying4
  a4 := Tryd.isAgg4
  z4 := Tryd.sizeOf4
  v4 := Tryd.zeroValue4
  t22 := Tryd.underlying22
  a22 := Tryd.isAgg22
  z22 := Tryd.sizeOf22
  v22 := Tryd.zeroValue22 }

set_option maxHeartbeats 2000000 in
set_option maxRecDepth 100000 in
theorem jclone_zero (a : Addr) (c : Nat) (w : World) :
    Calls Tryd.prog 66 #[.slice (some a) 0 c] w fun e w' => ∃ v', e = .returned v' ∧ w'.ownsRow w.heap.size 25 6 v' 0 [] ∧ Below w.heap.size w w' := by
  obtain ⟨i0, hi, hz0, hz1, hz2⟩ := info_parts infoJson
  have q24 : ∀ (w : World) (a : Option Addr) (n c n' c' : Nat), (binOp .eql 22 (.slice a n c) (.slice none n' c')).run Tryd.prog w = .ok (.bool a.isNone) w := fun w a n c n' c' => Lib.run_eql_slice_nil w _ _ a n c n' c' Tryd.underlying22
  go_enter Tryd.func66, Tryd.ntmps66
  go_wp2_with (at_builtin; refine wpList_append_own _ rfl _ _ 22 rfl w.heap.size 25 i0 zJson 6 88 Tryd.underlying22 hi hz0 hz1 hz2 rfl (by decide) _ _ _ rfl (World.ownsRow_made w #[] 0 (Nat.le_refl _) (Nat.zero_le _) rfl) a 0 c [] rfl rfl (by intro j u hj; simp at hj) (by intro u hu; simp at hu) (by decide) (by decide) (by simp) ?_; intro v' w1 hown hgrow hnil)
  go_ret
  refine ⟨v', rfl, by simpa using hown, ?_⟩
  exact ((Below.refl _ w).alloc (Nat.le_refl _) _).grown hgrow (by simp) (by intro k hk; have hk2 : some k = some w.heap.size := (by first | exact hk | exact hk.symm); simp at hk2; omega)

theorem jclone_any {F : Nat → Prop} (n : Nat) (v : Value) (xs : List Value) (w : World) (h : RowIn F w 6 n v xs) (hn : n ≤ 100000) (h1 : ∀ u ∈ xs, u.oneCell' = true) :
    Calls Tryd.prog 66 #[v] w fun e w' => ∃ v', e = .returned v' ∧ w'.ownsRow w.heap.size 25 6 v' n xs ∧ Below w.heap.size w w' := by
  obtain ⟨i0, hi, hz0, hz1, hz2⟩ := info_parts infoJson
  obtain ⟨hl, a, cap, rfl, h0 | ⟨b, o, rfl, hF, hb, hc⟩⟩ := h
  · subst h0
    have : xs = [] := List.eq_nil_of_length_eq_zero (by omega)
    subst this
    cases a with
    | none => exact (AnyE.slices_Clone_nil cloneLays 0 cap w).mono fun e w' ⟨he, hw⟩ => ⟨_, he, by rw [hw]; exact World.ownsRow_nil _ _ _ _, by rw [hw]; exact Below.refl _ _⟩
    | some a => exact jclone_zero a cap w
  · exact (AnyE.slices_Clone cloneLays i0 zJson 6 88 hi hz0 hz1 hz2 rfl (by decide) Tryd.sizeOf25 b o n cap xs w hl (by simp only [maxLen]; omega) (by omega) (fun j u hj => hc j u hj) h1).mono fun e w' ⟨v', he, ho, _, hb⟩ => ⟨v', he, ho, hb⟩
theorem sclone_any {F : Nat → Prop} (ks : List ByteArray) (n : Nat) (v : Value) (w : World) (h : RowIn F w 1 n v (ks.map Value.string)) (hn : n ≤ 100000) :
    Calls Tryd.prog 65 #[v] w fun e w' => ∃ v', e = .returned v' ∧ w'.ownsRow w.heap.size 9 1 v' n (ks.map Value.string) ∧ Below w.heap.size w w' := by
  obtain ⟨i0, hi, hz0, hz1, hz2⟩ := info_parts infoStr
  obtain ⟨hl, a, cap, rfl, h0 | ⟨b, o, rfl, hF, hb, hc⟩⟩ := h
  · subst h0
    have : ks.map Value.string = [] := List.eq_nil_of_length_eq_zero (by omega)
    rw [this]
    cases a with
    | none => exact (Tryd.slices_Clone_string_nil 0 cap w).mono fun e w' ⟨he, hw⟩ => ⟨_, he, by rw [hw]; exact World.ownsRow_nil _ _ _ _, by rw [hw]; exact Below.refl _ _⟩
    | some a => exact (Tryd.slices_Clone_string_zero a cap w).mono fun e w' ⟨v', he, ho, _, hb⟩ => ⟨v', he, ho, hb⟩
  · refine (Tryd.slices_Clone i0 (.string ByteArray.empty) 1 16 hi hz0 hz1 hz2 rfl (by decide) Tryd.sizeOf9 b o n cap (ks.map Value.string) w hl (by simp only [maxLen]; omega) (by omega) (fun j u hj => hc j u hj) ?_).mono fun e w' ⟨v', he, ho, _, hb⟩ => ⟨v', he, ho, hb⟩
    intro u hu
    obtain ⟨k, _, rfl⟩ := List.mem_map.1 hu
    rfl
end Go.Proofs.YtcobadgpelhcoaaDoor

namespace Go.Proofs.YtcobadgpelhcoaaDoor
open Go.Conc Go.RowKit Go.Maps Go.WideMaps
set_option linter.unusedVariables false
set_option linter.unusedSimpArgs false

def Room (w : World) (rb : Nat) (r : Int) : Prop := w.heap[rb]? = some (.cells #[.int .i64 r] 3 (0, 0))
theorem Room.c0 {w : World} {rb : Nat} {r : Int} (h : Room w rb r) : w.cell? ⟨rb, 0, none⟩ = some (.int .i64 r) := by rw [cell_of_row w rb 0 _ _ _ h]; rfl
theorem Room.fz {w : World} {rb : Nat} {r : Int} (h : Room w rb r) : w.frozen? ⟨rb, 0, none⟩ = false := frozen_of_row w rb 0 _ _ h
theorem Room.set {w : World} {rb : Nat} {r : Int} (h : Room w rb r) (q : Int) : Room (w.setCell ⟨rb, 0, none⟩ (.int .i64 q)) rb q := by
  have hb := Go.Joins.block_setCell (i := 0) h (.int .i64 q)
  simpa [Room] using hb
theorem Room.lt {w : World} {rb : Nat} {r : Int} (h : Room w rb r) : rb < w.heap.size := (Array.getElem?_eq_some_iff.1 h).1
/-- Room for a copy is taken. -/
def FitsOk (x : J) (cost dn : Nat) : Prop :=
  ∀ (F : Nat → Prop) (c : List Value) (rb : Nat) (r lv : Nat) (w : World), JIn F w x c → ¬ F rb → Room w rb r → cost ≤ r → r ≤ 2147483647 → dn ≤ lv → lv ≤ 65536 →
    Calls Tryd.prog 53 #[.agg c.toArray, .pointer (some ⟨rb, 0, none⟩), .int .i64 lv] w fun e w' => e = .returned (.bool true) ∧ Frm (One rb) w w' ∧ Room w' rb ((r - cost : Nat) : Int)

def JFt (F : Nat → Prop) (rb r0 : Nat) (b : Nat) (a0 a1 a2 a3 a4 a5 : Value) (l : List J) (w : World) (g : Nat) (iv : Value) (wr : World) : Prop :=
  ∃ k : Nat, iv = .int .i64 k ∧ k ≤ l.length ∧ l.length + 1 ≤ k + g ∧ J6 wr b a0 a1 a2 a3 a4 a5 ∧ Frm (One rb) w wr ∧ Room wr rb ((r0 - 88 * k : Nat) : Int)

set_option maxHeartbeats 4000000 in
set_option maxRecDepth 100000 in
theorem fits_step (k : Int) (b : Bool) (n : Int) (s : ByteArray) (l : List J) (dn : Nat) (hl : l.length ≤ 1000) (hsub : ∀ y ∈ l, FitsOk y 88 dn) : FitsOk (.mk k b n s l []) (88 + 88 * l.length) (dn + 1) := by
  intro F c rb r lv w hj hF hr hc hr2 hlv hlv2
  obtain ⟨_, _, _, _, _, _, lvv, kv, cs, hrow, hkrow, hcs, hjs⟩ := hj
  obtain ⟨_, la, lc, rfl, _⟩ := id hrow
  obtain ⟨_, ka, kc, rfl, _⟩ := id hkrow
  obtain ⟨m, hm⟩ : ∃ m, m = l.length := ⟨_, rfl⟩
  have HM := Lib.hid hm
  have HRow := Lib.hid hrow
  have HJs : Hid (JsIn F w l cs) := ⟨hcs, hjs⟩
  have HSub := Lib.hid hsub
  have HR := Lib.hid hr
  have hlt := hr.lt
  rw [List.length_nil, ← hm]
  have ob0 := j6_new w (.int .i64 k) (.bool b) (.int .i64 n) (.string s) (.slice la m lc) (.slice ka 0 kc)
  have c4 := ob0.c4
  have c5 := ob0.c5
  have HO := Lib.hid ob0
  have HBa := Lib.hid ((Below.refl _ w).alloc (Nat.le_refl _) (.cells #[.int .i64 k, .bool b, .int .i64 n, .string s, .slice la m lc, .slice ka 0 kc] 25))
  have hra : Room (w.alloc (.cells #[.int .i64 k, .bool b, .int .i64 n, .string s, .slice la m lc, .slice ka 0 kc] 25)) rb r := (Below.heap_alloc _ _ _ hlt).trans hr
  have r0 := hra.c0
  have rz := hra.fz
  have HRA := Lib.hid hra
  clear hrow hkrow hcs hjs hsub hr ob0 hra hm
  go_enter Tryd.func53, Tryd.ntmps53
  go_wp2
  generalize w.alloc (.cells #[.int .i64 k, .bool b, .int .i64 n, .string s, .slice la m lc, .slice ka 0 kc] 25) = wa at *
  have g0 : decide ((r : Int) - 88 < 0) = false := by simp; omega
  have g1 : ((lv : Int) == 0) = false := by simp; omega
  have g2 : (lv == 0) = false := by simp; omega
  have hob : w.heap.size ≠ rb := by omega
  have hwz : Hid (w.heap.size ≤ wa.heap.size) := HBa.out.size
  go_still_tail 10, (by kernel_rfl)
  go_wp2
  go_loopg [29] (l.length + 1) (fun g iv wr => JFt F rb (r - 88) w.heap.size (.int .i64 k) (.bool b) (.int .i64 n) (.string s) (.slice la m lc) (.slice ka 0 kc) l wa g iv wr)
  case atStart =>
    refine ⟨0, rfl, by omega, by omega, ?_, ?_, ?_⟩
    · exact (HO.out.drewN _).frm (frm_at _ rb 0 _) (by unfold One; exact hob)
    · exact ((Frm.refl (One rb) wa).drewN _).trans (frm_at _ _ _ _)
    · have e : ((r - 88 - 88 * 0 : Nat) : Int) = (r : Int) - 88 := by omega
      rw [e]
      exact Room.set (w := World.drewN wa _) HRA.out _
  case round =>
    clear HRA HO r0 rz c4 c5 g0
    obtain ⟨i, rfl, hi, hig, h6, hf, hro⟩ := hrel
    obtain ⟨g, rfl⟩ : ∃ g, gk = g + 1 := ⟨gk - 1, by omega⟩
    have c4 := h6.c4
    have H6 := Lib.hid h6
    have HF := Lib.hid hf
    have HRo := Lib.hid hro
    clear h6 hf hro
    by_cases him : i = m
    · have g0 : decide ((i : Int) < (m : Int)) = false := by simp; omega
      go_wp2
      go_ret
      refine ⟨rfl, Frm.trans (Frm.of_new HBa.out _) HF.out, ?_⟩
      have e : r - (88 + 88 * m) = r - 88 - 88 * i := by omega
      rw [e]
      exact HRo.out
    have hkl : i < l.length := by have := HM.out; omega
    have hkn2 : i < m := by have := HM.out; omega
    have hnn : m ≤ 1000 := by have := HM.out; omega
    have g0 : decide ((i : Int) < (m : Int)) = true := by simp; omega
    obtain ⟨b', o, c, xk, xb, xn, xs, xla, xll, xlc, xka, xkl, xkc, hv, hFb, hbl, hx, q0, q1, q2, q3, q4, q5⟩ := HRow.out.elem HJs.out hkl
    simp only [Value.slice.injEq] at hv
    obtain ⟨rfl, hvn, rfl⟩ := hv
    clear hvn
    have hne : b' ≠ rb := fun e => hF (e ▸ hFb)
    have hag : wr.heap[b']? = w.heap[b']? := (HF.out.block b' (by have := HBa.out.size; omega) hne).trans (HBa.out.block b' hbl)
    rw [← World.cell?_of_block hag] at q0 q1 q2 q3 q4 q5
    have hjx : JIn F wr l[i] [.int .i64 xk, .bool xb, .int .i64 xn, .string xs, .slice xla xll xlc, .slice xka xkl xkc] :=
      hx.same (fun g hg hl => (HF.out.block g (by have := HBa.out.size; omega) (fun e => hF (by have : g = rb := e; exact this ▸ hg))).trans (HBa.out.block g hl)) (by have := HBa.out.size; have := HF.out.size; omega)
    have hlv1 : ((lv : Int) - 1) = ((lv - 1 : Nat) : Int) := by omega
    have HC : Hid (Calls Tryd.prog 53 #[.agg #[.int .i64 xk, .bool xb, .int .i64 xn, .string xs, .slice xla xll xlc, .slice xka xkl xkc], .pointer (some ⟨rb, 0, none⟩), .int .i64 ((lv : Int) - 1)] wr fun e w' => e = .returned (.bool true) ∧ Frm (One rb) wr w' ∧ Room w' rb ((r - 88 - 88 * (i + 1) : Nat) : Int)) := by
      have hx := HSub.out l[i] (List.getElem_mem hkl) F _ rb (r - 88 - 88 * i) (lv - 1) wr hjx hF HRo.out (by omega) (by omega) (by omega) (by omega)
      rw [hlv1]
      rw [show r - 88 - 88 * (i + 1) = r - 88 - 88 * i - 88 by omega]
      exact hx
    clear hag hx hjx hlv1 him
    go_wp2_with (go_at_call 53; refine HC.out.mono ?_; rintro e w1 ⟨rfl, hf1, hr1⟩; have HF1 := Lib.hid hf1; have HR1 := Lib.hid hr1; clear hf1 hr1)
    go_roundg g
    case rel => exact ⟨i + 1, by first | rfl | (congr 1), by omega, by omega, H6.out.frm HF1.out (by unfold One; exact hob), HF.out.trans HF1.out, HR1.out⟩
    case measure => omega
end Go.Proofs.YtcobadgpelhcoaaDoor

namespace Go.Proofs.YtcobadgpelhcoaaDoor
open Go.Conc Go.RowKit Go.Maps Go.WideMaps
set_option linter.unusedVariables false
set_option linter.unusedSimpArgs false

/-- Six cells of a row are stored. -/
theorem sto6 (gb i : Nat) (u : World) (cur : Array Value) (h : u.heap[gb]? = some (.cells cur 25 (0, 0))) (v0 v1 v2 v3 v4 v5 : Value) :
    (∃ cur', ((((((u.setCell ⟨gb, i * 6, none⟩ v0).setCell ⟨gb, i * 6 + 1, none⟩ v1).setCell ⟨gb, i * 6 + 2, none⟩ v2).setCell ⟨gb, i * 6 + 3, none⟩ v3).setCell ⟨gb, i * 6 + 4, none⟩ v4).setCell ⟨gb, i * 6 + 5, none⟩ v5).heap[gb]? = some (.cells cur' 25 (0, 0)) ∧ cur'.size = cur.size ∧
      ∀ j, i * 6 + 6 ≤ j → ((((((u.setCell ⟨gb, i * 6, none⟩ v0).setCell ⟨gb, i * 6 + 1, none⟩ v1).setCell ⟨gb, i * 6 + 2, none⟩ v2).setCell ⟨gb, i * 6 + 3, none⟩ v3).setCell ⟨gb, i * 6 + 4, none⟩ v4).setCell ⟨gb, i * 6 + 5, none⟩ v5).cell? ⟨gb, j, none⟩ = u.cell? ⟨gb, j, none⟩) := by
  have h1 := Go.Joins.block_setCell (i := i * 6) h v0
  have h2 := Go.Joins.block_setCell (i := i * 6 + 1) h1 v1
  have h3 := Go.Joins.block_setCell (i := i * 6 + 2) h2 v2
  have h4 := Go.Joins.block_setCell (i := i * 6 + 3) h3 v3
  have h5 := Go.Joins.block_setCell (i := i * 6 + 4) h4 v4
  have h6 := Go.Joins.block_setCell (i := i * 6 + 5) h5 v5
  refine ⟨_, h6, by simp, fun j hj => ?_⟩
  rw [cell_of_row _ gb j _ _ _ h6, cell_of_row _ gb j _ _ _ h]
  simp only [Array.getElem?_setIfInBounds]
  repeat rw [if_neg (by omega)]
/-- A copy is answered, of the same kind and lengths; nothing that was there turns. -/
def CopyOk (x : J) : Prop :=
  ∀ (F : Nat → Prop) (c : List Value) (w : World), JIn F w x c →
    Calls Tryd.prog 54 #[.agg c.toArray] w fun e w' => (∃ la lc ka kc, e = .returned (.agg #[.int .i64 x.kind, .bool x.b, .int .i64 x.n, .string x.s, .slice la x.l.length lc, .slice ka x.keys.length kc])) ∧ Below w.heap.size w w'

def JCp (F : Nat → Prop) (b : Nat) (a4 : Option Addr) (cap : Nat) (k : Int) (bb : Bool) (n : Int) (s : ByteArray) (m : Nat) (kv : Value) (l : List J) (w : World) (g : Nat) (iv : Value) (wr : World) : Prop :=
  ∃ (i : Nat), iv = .int .i64 i ∧ i ≤ l.length ∧ l.length + 1 ≤ i + g ∧ J6 wr b (.int .i64 k) (.bool bb) (.int .i64 n) (.string s) (.slice a4 m cap) kv ∧ Below w.heap.size w wr ∧
    J6 wr (b + 1) (.int .i64 0) (.bool false) (.int .i64 0) (.string ⟨#[]⟩) (.slice none 0 0) (.slice none 0 0) ∧
    (m = 0 ∨ ∃ (gb : Nat) (cur : Array Value), a4 = some ⟨gb, 0, none⟩ ∧ b + 1 < gb ∧ wr.heap[gb]? = some (.cells cur 25 (0, 0)) ∧ m * 6 ≤ cur.size ∧
    (∀ j (hj : j < l.length), i ≤ j → ∃ xk xb xn xs xla xll xlc xka xkl xkc, JIn F w l[j] [.int .i64 xk, .bool xb, .int .i64 xn, .string xs, .slice xla xll xlc, .slice xka xkl xkc] ∧
      wr.cell? ⟨gb, j * 6, none⟩ = some (.int .i64 xk) ∧ wr.cell? ⟨gb, j * 6 + 1, none⟩ = some (.bool xb) ∧ wr.cell? ⟨gb, j * 6 + 2, none⟩ = some (.int .i64 xn) ∧ wr.cell? ⟨gb, j * 6 + 3, none⟩ = some (.string xs) ∧
      wr.cell? ⟨gb, j * 6 + 4, none⟩ = some (.slice xla xll xlc) ∧ wr.cell? ⟨gb, j * 6 + 5, none⟩ = some (.slice xka xkl xkc)))

set_option maxHeartbeats 4000000 in
set_option maxRecDepth 100000 in
theorem copy_step (k : Int) (b : Bool) (n : Int) (s : ByteArray) (l : List J) (ks : List ByteArray) (hl : l.length ≤ 1000) (hkl : ks.length ≤ 1000) (hsub : ∀ y ∈ l, CopyOk y) : CopyOk (.mk k b n s l ks) := by
  intro F c w hj
  obtain ⟨_, _, _, _, _, _, lvv, kv, cs, hrow, hkrow, hcs, hjs⟩ := hj
  obtain ⟨_, la, lc, rfl, _⟩ := id hrow
  obtain ⟨_, ka, kc, rfl, _⟩ := id hkrow
  show Calls Tryd.prog 54 _ w fun e w' => (∃ la lc ka kc, e = .returned (.agg #[.int .i64 k, .bool b, .int .i64 n, .string s, .slice la l.length lc, .slice ka ks.length kc])) ∧ Below w.heap.size w w'
  obtain ⟨m, hm⟩ : ∃ m, m = l.length := ⟨_, rfl⟩
  obtain ⟨mk, hmk⟩ : ∃ mk, mk = ks.length := ⟨_, rfl⟩
  have HM := Lib.hid hm
  have hjs0 : JsIn F w l cs := ⟨hcs, hjs⟩
  have h1c : ∀ u ∈ cs.flatten, u.oneCell' = true := by
    intro u hu
    obtain ⟨c, hc, huc⟩ := List.mem_flatten.1 hu
    obtain ⟨i, hi, rfl⟩ := List.mem_iff_getElem.1 hc
    exact (hjs i (l[i]'(by rw [← hcs]; exact hi)) _ (List.getElem?_eq_getElem (by rw [← hcs]; exact hi)) (List.getElem?_eq_getElem hi)).one u huc
  have HJs := Lib.hid hjs0
  have HSub := Lib.hid hsub
  rw [← hm, ← hmk]
  rw [← hm] at hrow
  rw [← hmk] at hkrow
  have hmk2 : mk ≤ 1000 := by omega
  have hm2 : m ≤ 1000 := by omega
  have HRow := Lib.hid hrow
  have HKRow := Lib.hid hkrow
  have H1C := Lib.hid h1c
  have ob0 := j6_new w (.int .i64 k) (.bool b) (.int .i64 n) (.string s) (.slice la m lc) (.slice ka mk kc)
  have HB0 := (Below.refl _ w).alloc (Nat.le_refl _) (.cells #[.int .i64 k, .bool b, .int .i64 n, .string s, .slice la m lc, .slice ka mk kc] 25)
  have R0 := j6_new1 w (.cells #[.int .i64 k, .bool b, .int .i64 n, .string s, .slice la m lc, .slice ka mk kc] 25) (.int .i64 0) (.bool false) (.int .i64 0) (.string ⟨#[]⟩) (.slice none 0 0) (.slice none 0 0)
  have O1 := j6_alloc ob0 (.cells #[.int .i64 0, .bool false, .int .i64 0, .string ⟨#[]⟩, .slice none 0 0, .slice none 0 0] 25)
  have HB1 := HB0.alloc (by simp) (.cells #[.int .i64 0, .bool false, .int .i64 0, .string ⟨#[]⟩, .slice none 0 0, .slice none 0 0] 25)
  have hes : ((w.alloc (.cells #[.int .i64 k, .bool b, .int .i64 n, .string s, .slice la m lc, .slice ka mk kc] 25)).alloc (.cells #[.int .i64 0, .bool false, .int .i64 0, .string ⟨#[]⟩, .slice none 0 0, .slice none 0 0] 25)).heap.size = w.heap.size + 2 := by simp
  clear hrow hkrow hcs hjs hsub ob0 hm hmk hjs0 h1c HB0
  obtain ⟨u0, hu0⟩ : ∃ u0, u0 = (w.alloc (.cells #[.int .i64 k, .bool b, .int .i64 n, .string s, .slice la m lc, .slice ka mk kc] 25)).alloc (.cells #[.int .i64 0, .bool false, .int .i64 0, .string ⟨#[]⟩, .slice none 0 0, .slice none 0 0] 25) := ⟨_, rfl⟩
  rw [← hu0] at R0 O1 HB1 hes
  have HU0 := Lib.hid hu0
  have HO1 := Lib.hid O1
  have HR0 := Lib.hid R0
  have HBe1 := Lib.hid HB1
  have hfl := HJs.out.flat
  have o5 := O1.c5
  clear R0 HB1 hu0
  have S1 := Lib.hid (sclone_any (F := F) ks mk (.slice ka mk kc) u0 (HKRow.out.same (fun g _ hl => HBe1.out.block g hl) HBe1.out.size) (by omega))
  go_enter Tryd.func54, Tryd.ntmps54
  rw [HU0.out] at o5
  go_wp2_with (first
    | (go_at_call 65; rw [← HU0.out]; refine S1.out.mono ?_; rintro e w1 ⟨v5, rfl, ho5, hb1⟩; obtain ⟨ka2, kc2, rfl⟩ := own_slice ho5; have HB1 := Lib.hid hb1; have O2 := HO1.out.frm (Frm.of_new hb1 (fun _ => False)) id; have HO2 := Lib.hid O2; have z5 := O2.fz 5; have d4 := O2.c4; have d5 := O2.c5; clear o5 O2 ho5 hb1)
    | (go_at_call 66
       have O3 := HO2.out.set5 (.slice ka2 mk kc2)
       have hf3 := frm_at w1 w.heap.size 5 (.slice ka2 mk kc2)
       have hbw : Below w.heap.size w (w1.setCell ⟨w.heap.size, 5, none⟩ (.slice ka2 mk kc2)) := (((Frm.of_below HBe1.out).trans ((Frm.of_below HB1.out).mono fun g _ hg => by omega)).trans (hf3.mono fun g _ hg => by have : g = w.heap.size := hg; omega)).below (Nat.le_refl _)
       have hr3 := (HR0.out.frm (Frm.of_new HB1.out (fun _ => False)) id).frm hf3 (by unfold One; omega)
       generalize w1.setCell ⟨w.heap.size, 5, none⟩ (.slice ka2 mk kc2) = w2 at *
       refine (jclone_any m (.slice la m lc) cs.flatten w2 (HRow.out.same (fun g _ hl => hbw.block g hl) hbw.size) (by omega) H1C.out).mono ?_
       rintro e w3 ⟨v4, rfl, ho4, hb3⟩; obtain ⟨la2, lc2, rfl⟩ := own_slice ho4
       have HOw := Lib.hid ho4; have HB3 := Lib.hid hb3; have O4 := O3.frm (Frm.of_new hb3 (fun _ => False)) id; have HO4 := Lib.hid O4; have z4 := O4.fz 4; have p4 := O4.c4
       have HR4 := Lib.hid (hr3.frm (Frm.of_new hb3 (fun _ => False)) id); have HBw := Lib.hid (((Frm.of_below hbw).trans ((Frm.of_below hb3).mono fun g _ hg => by have := hbw.size; omega)).below (Nat.le_refl _))
       have hwz := hbw.size
       have hwz2 : w.heap.size + 2 ≤ w2.heap.size := by have := HB1.out.size; have := hf3.size; omega
       have HBw2 := Lib.hid hbw
       clear O4 ho4 hb3 O3 hf3 hbw hr3 d4 z5 d5))
  have O5 := HO4.out.set4 (.slice la2 m lc2)
  have hf5 := frm_at w3 w.heap.size 4 (.slice la2 m lc2)
  have hr5 := HR4.out.frm hf5 (by unfold One; omega)
  have hbw5 : Below w.heap.size w (w3.setCell ⟨w.heap.size, 4, none⟩ (.slice la2 m lc2)) := ((Frm.of_below HBw.out).trans (hf5.mono fun g _ hg => by have : g = w.heap.size := hg; omega)).below (Nat.le_refl _)
  have hmm : m = 0 ∨ ∃ (gb : Nat) (cur : Array Value), la2 = some ⟨gb, 0, none⟩ ∧ w.heap.size + 1 < gb ∧ (w3.setCell ⟨w.heap.size, 4, none⟩ (.slice la2 m lc2)).heap[gb]? = some (.cells cur 25 (0, 0)) ∧ m * 6 ≤ cur.size ∧
    (∀ j (hj : j < l.length), 0 ≤ j → ∃ xk xb xn xs xla xll xlc xka xkl xkc, JIn F w l[j] [.int .i64 xk, .bool xb, .int .i64 xn, .string xs, .slice xla xll xlc, .slice xka xkl xkc] ∧
      (w3.setCell ⟨w.heap.size, 4, none⟩ (.slice la2 m lc2)).cell? ⟨gb, j * 6, none⟩ = some (.int .i64 xk) ∧ (w3.setCell ⟨w.heap.size, 4, none⟩ (.slice la2 m lc2)).cell? ⟨gb, j * 6 + 1, none⟩ = some (.bool xb) ∧ (w3.setCell ⟨w.heap.size, 4, none⟩ (.slice la2 m lc2)).cell? ⟨gb, j * 6 + 2, none⟩ = some (.int .i64 xn) ∧ (w3.setCell ⟨w.heap.size, 4, none⟩ (.slice la2 m lc2)).cell? ⟨gb, j * 6 + 3, none⟩ = some (.string xs) ∧
      (w3.setCell ⟨w.heap.size, 4, none⟩ (.slice la2 m lc2)).cell? ⟨gb, j * 6 + 4, none⟩ = some (.slice xla xll xlc) ∧ (w3.setCell ⟨w.heap.size, 4, none⟩ (.slice la2 m lc2)).cell? ⟨gb, j * 6 + 5, none⟩ = some (.slice xka xkl xkc)) := by
    rcases Nat.eq_zero_or_pos m with h0 | h0
    · exact .inl h0
    · right
      have how := HOw.out
      have hcells := fun g (hg : (Value.slice la2 m lc2).ownBlock = some g) => how.cells hg
      rcases how.2 with ⟨e, h1⟩ | ⟨g, cap, cur, e, hb, hgg, hnc, hcm, hcs, htake⟩
      · omega
      · simp only [Value.slice.injEq] at e
        obtain ⟨rfl, _, rfl⟩ := e
        have hgs : g < w3.heap.size := (Array.getElem?_eq_some_iff.1 hgg).1
        have hg2 := HBw2.out.size
        have hset : (w3.setCell ⟨w.heap.size, 4, none⟩ (.slice (some ⟨g, 0, none⟩) m lc2)).heap[g]? = w3.heap[g]? := Below.heap_setCell _ _ _ _ (show g ≠ w.heap.size by omega)
        refine ⟨g, cur, rfl, by omega, hset.trans hgg, by rw [hcs]; exact Nat.mul_le_mul_right 6 hnc, fun j hj _ => ?_⟩
        have hjc : j < cs.length := by rw [HJs.out.1]; exact hj
        have hx := HJs.out.2 j _ _ (List.getElem?_eq_getElem hj) (List.getElem?_eq_getElem hjc)
        obtain ⟨xk, xb, xn, xs, xla, xll, xlc, xka, xkl, xkc, e6⟩ := hx.form
        rw [e6] at hx
        have hcell : ∀ i u, i < 6 → cs[j][i]? = some u → (w3.setCell ⟨w.heap.size, 4, none⟩ (.slice (some ⟨g, 0, none⟩) m lc2)).cell? ⟨g, j * 6 + i, none⟩ = some u := fun i u hi hu => by
          rw [World.cell?_of_block hset]
          have := hcells g rfl (j * 6 + i) u (by rw [flat6 cs j i HJs.out.six hjc hi]; exact hu)
          have ea : (⟨g, 0, none⟩ : Addr).add (j * 6 + i) = ⟨g, j * 6 + i, none⟩ := by unfold Addr.add; cases j * 6 + i <;> simp
          rwa [ea] at this
        rw [e6] at hcell
        exact ⟨xk, xb, xn, xs, xla, xll, xlc, xka, xkl, xkc, hx, hcell 0 _ (by omega) rfl, hcell 1 _ (by omega) rfl, hcell 2 _ (by omega) rfl, hcell 3 _ (by omega) rfl, hcell 4 _ (by omega) rfl, hcell 5 _ (by omega) rfl⟩
  generalize w3.setCell ⟨w.heap.size, 4, none⟩ (.slice la2 m lc2) = w4 at *
  have HO5 := Lib.hid O5
  have HR5 := Lib.hid hr5
  have HB5 := Lib.hid hbw5
  have HMM := Lib.hid hmm
  clear O5 hr5 hbw5 hmm hf5
  go_loopg [15] (l.length + 1) (fun g iv wr => JCp F w.heap.size la2 lc2 k b n s m (.slice ka2 mk kc2) l w g iv wr)
  case atStart => exact ⟨0, rfl, by omega, by omega, HO5.out, HB5.out, HR5.out, HMM.out⟩
  case round =>
    clear HO5 HB5 HR5 HMM
    obtain ⟨i, rfl, hi, hig, h6, hb, hr, hmm⟩ := hrel
    obtain ⟨g, rfl⟩ : ∃ g, gk = g + 1 := ⟨gk - 1, by omega⟩
    have H6 := Lib.hid h6
    have HB := Lib.hid hb
    have HR := Lib.hid hr
    have HMM := Lib.hid hmm
    have c0 := h6.c0; have c1 := h6.c1; have c2 := h6.c2; have c3 := h6.c3; have c4 := h6.c4; have c5 := h6.c5
    have r0 := hr.c0; have r1 := hr.c1; have r2 := hr.c2; have r3 := hr.c3; have r4 := hr.c4; have r5 := hr.c5; have y0 := hr.fz 0; have y1 := hr.fz 1; have y2 := hr.fz 2; have y3 := hr.fz 3; have y4 := hr.fz 4; have y5 := hr.fz 5
    clear h6 hb hr hmm
    by_cases him : i = m
    · have g0 : decide ((i : Int) < (m : Int)) = false := by simp; omega
      go_wp2
      have hv := HR.out.fill (.int .i64 k) (.bool b) (.int .i64 n) (.string s) (.slice la2 m lc2) (.slice ka2 mk kc2)
      have hfv := frm_fill6 wr (w.heap.size + 1) (.int .i64 k) (.bool b) (.int .i64 n) (.string s) (.slice la2 m lc2) (.slice ka2 mk kc2)
      change bodyPost _ _ _ _ _ (Fill6 wr (w.heap.size + 1) (.int .i64 k) (.bool b) (.int .i64 n) (.string s) (.slice la2 m lc2) (.slice ka2 mk kc2))
      generalize Fill6 wr (w.heap.size + 1) (.int .i64 k) (.bool b) (.int .i64 n) (.string s) (.slice la2 m lc2) (.slice ka2 mk kc2) = v at *
      refine bodyPost_ret (v := .agg #[.int .i64 k, .bool b, .int .i64 n, .string s, .slice la2 m lc2, .slice ka2 mk kc2]) (by simp [results, Tryd.results54, go_sem, hv.c0, hv.c1, hv.c2, hv.c3, hv.c4, hv.c5]) rfl ?_
      exact ⟨⟨_, _, _, _, rfl⟩, ((Frm.of_below HB.out).trans (hfv.mono fun g _ hg => by have : g = w.heap.size + 1 := hg; omega)).below (Nat.le_refl _)⟩
    have hkl : i < l.length := by have := HM.out; omega
    have hkn2 : i < m := by have := HM.out; omega
    have g0 : decide ((i : Int) < (m : Int)) = true := by simp; omega
    obtain ⟨gb, cur, rfl, hgb, hgc, hcz, hel⟩ := HMM.out.resolve_left (by omega)
    obtain ⟨xk, xb, xn, xs, xla, xll, xlc, xka, xkl, xkc, hx, q0, q1, q2, q3, q4, q5⟩ := hel i hkl (Nat.le_refl _)
    have HEl := Lib.hid hel
    have HGc := Lib.hid hgc
    have HX := Lib.hid hx
    clear hel hgc hx HMM r0 r1 r2 r3 r4 r5 y0 y1 y2 y3 y4 y5 c0 c1 c2 c3 c5 him
    have HC := Lib.hid (HSub.out l[i] (List.getElem_mem hkl) F _ wr.drew (HX.out.same (fun g _ hl => HB.out.block g hl) HB.out.size))
    have hgl : gb < wr.heap.size := (Array.getElem?_eq_some_iff.1 HGc.out).1
    have hbl0 := H6.out.lt
    have hz := frozen_of_row wr gb 0 _ _ HGc.out
    go_wp2_with fail
    have STO := Lib.hid (sto6 gb i)
    have hwr : w.heap.size ≤ wr.heap.size := HB.out.size
    refine wp_region_any (by kernel_rfl) ?_
    change wpAny _ _ _ _ _ _ _ (World.drew _)
    refine wpAny_take (i := 0) (v := ?_) rfl (by kernel_rfl) (by kernel_rfl) (by kernel_rfl) (fun _ _ _ h => h) (Or.inl ⟨by rfl, fun w => ?_⟩) ?_
    rotate_left
    · go_simp
      try with_reducible rfl
    try simp only [Go.Act.put, List.setIfInBounds_toArray, List.set_cons_zero, List.set_cons_succ]
    refine wpAny_take (i := 2) (v := ?_) rfl (by kernel_rfl) (by kernel_rfl) (by kernel_rfl) (fun _ _ _ h => h) (Or.inl ⟨by rfl, fun w => ?_⟩) ?_
    rotate_left
    · go_simp
      try with_reducible rfl
    try simp only [Go.Act.put, List.setIfInBounds_toArray, List.set_cons_zero, List.set_cons_succ]
    refine wpAny_take (i := 3) (v := ?_) rfl (by kernel_rfl) (by kernel_rfl) (by kernel_rfl) (fun _ _ _ h => h) (Or.inl ⟨by rfl, fun w => ?_⟩) ?_
    rotate_left
    · go_simp
      try with_reducible rfl
    try simp only [Go.Act.put, List.setIfInBounds_toArray, List.set_cons_zero, List.set_cons_succ]
    refine wpAny_take (i := 5) (v := ?_) rfl (by kernel_rfl) (by kernel_rfl) (by kernel_rfl) (fun _ _ _ h => h) (Or.inl ⟨by rfl, fun w => ?_⟩) ?_
    rotate_left
    · go_simp
      try with_reducible rfl
    try simp only [Go.Act.put, List.setIfInBounds_toArray, List.set_cons_zero, List.set_cons_succ]
    refine wpAny_ready (rs := [1, 4]) (by kernel_rfl) (by simp) (AllReady.cons rfl (fun K hK => ?_) (AllReady.cons rfl (fun K hK => ?_) (AllReady.nil)))
    · go_simp
      refine hK _ _ ?_
      clear hK K
      try simp only [Go.Act.put, List.setIfInBounds_toArray, List.set_cons_zero, List.set_cons_succ]
      refine wpAny_ready (rs := [4]) (by kernel_rfl) (by simp) (AllReady.cons rfl (fun K hK => ?_) (AllReady.nil))
      · go_simp
        refine hK _ _ ?_
        clear hK K
        try simp only [Go.Act.put, List.setIfInBounds_toArray, List.set_cons_zero, List.set_cons_succ]
        refine wpAny_take (i := 6) (v := ?_) rfl (by kernel_rfl) (by kernel_rfl) (by kernel_rfl) (fun _ _ _ h => h) (Or.inl ⟨by rfl, fun w => ?_⟩) ?_
        rotate_left
        · go_simp
          try with_reducible rfl
        try simp only [Go.Act.put, List.setIfInBounds_toArray, List.set_cons_zero, List.set_cons_succ]
        refine wpAny_ready (rs := [7]) (by kernel_rfl) (by simp) (AllReady.cons rfl (fun K hK => ?_) (AllReady.nil))
        · go_simp
          refine hK _ _ ?_
          clear hK K
          try simp only [Go.Act.put, List.setIfInBounds_toArray, List.set_cons_zero, List.set_cons_succ]
          refine wpAny_ready (rs := [8]) (by kernel_rfl) (by simp) (AllReady.cons rfl (fun K hK => ?_) (AllReady.nil))
          · go_simp
            refine HC.out.mono ?_
            rintro e w1 ⟨⟨la3, lc3, ka3, kc3, rfl⟩, hb1⟩
            have s4 := (hb1.cell (p := ⟨w.heap.size, 4, none⟩) hbl0).trans c4
            have s0 := (hb1.cell (p := ⟨gb, i * 6, none⟩) hgl).trans q0; have s1 := (hb1.cell (p := ⟨gb, i * 6 + 1, none⟩) hgl).trans q1; have s2 := (hb1.cell (p := ⟨gb, i * 6 + 2, none⟩) hgl).trans q2; have s3 := (hb1.cell (p := ⟨gb, i * 6 + 3, none⟩) hgl).trans q3; have s5 := (hb1.cell (p := ⟨gb, i * 6 + 4, none⟩) hgl).trans q4; have s6 := (hb1.cell (p := ⟨gb, i * 6 + 5, none⟩) hgl).trans q5
            have HB1 := Lib.hid hb1
            have hg1 := (hb1.block gb hgl).trans HGc.out
            have HG1 := Lib.hid hg1
            have f0 := frozen_of_row w1 gb (i * 6) _ _ hg1; have f1 := frozen_of_row w1 gb (i * 6 + 1) _ _ hg1; have f2 := frozen_of_row w1 gb (i * 6 + 2) _ _ hg1; have f3 := frozen_of_row w1 gb (i * 6 + 3) _ _ hg1; have f4 := frozen_of_row w1 gb (i * 6 + 4) _ _ hg1; have f5 := frozen_of_row w1 gb (i * 6 + 5) _ _ hg1
            clear hb1 hg1
            dsimp only
            refine hK _ _ ?_
            clear hK K
            try simp only [Go.Act.put, List.setIfInBounds_toArray, List.set_cons_zero, List.set_cons_succ]
            refine wpAny_take (i := 9) (v := ?_) rfl (by kernel_rfl) (by kernel_rfl) (by kernel_rfl) (fun _ _ _ h => h) (Or.inl ⟨by rfl, fun w => ?_⟩) ?_
            rotate_left
            · go_simp
              try with_reducible rfl
            try simp only [Go.Act.put, List.setIfInBounds_toArray, List.set_cons_zero, List.set_cons_succ]
            refine wpAny_ready (rs := [10]) (by kernel_rfl) (by simp) (AllReady.cons rfl (fun K hK => ?_) (AllReady.nil))
            · go_simp
              refine hK _ _ ?_
              clear hK K
              try simp only [Go.Act.put, List.setIfInBounds_toArray, List.set_cons_zero, List.set_cons_succ]
              refine wpAny_done (by kernel_rfl) ?_ _
              have e6 : Below w.heap.size wr w1 := (((Frm.refl _ wr).drew).trans (Frm.of_new HB1.out (fun g => w.heap.size ≤ g))).below hwr
              have hn6 : Frm (fun _ => False) wr w1 := ((Frm.refl _ wr).drew).trans (Frm.of_new HB1.out _)
              have hs6 : Frm (One gb) w1 ((((((w1.setCell ⟨gb, i * 6, none⟩ (.int .i64 l[i].kind)).setCell ⟨gb, i * 6 + 1, none⟩ (.bool l[i].b)).setCell ⟨gb, i * 6 + 2, none⟩ (.int .i64 l[i].n)).setCell ⟨gb, i * 6 + 3, none⟩ (.string l[i].s)).setCell ⟨gb, i * 6 + 4, none⟩ (.slice la3 l[i].l.length lc3)).setCell ⟨gb, i * 6 + 5, none⟩ (.slice ka3 l[i].keys.length kc3)) := (((((frm_at _ _ _ _).trans (frm_at _ _ _ _)).trans (frm_at _ _ _ _)).trans (frm_at _ _ _ _)).trans (frm_at _ _ _ _)).trans (frm_at _ _ _ _)
              obtain ⟨cur2, hrow6a, hrow6b, hrow6c⟩ := STO.out w1 cur HG1.out (.int .i64 l[i].kind) (.bool l[i].b) (.int .i64 l[i].n) (.string l[i].s) (.slice la3 l[i].l.length lc3) (.slice ka3 l[i].keys.length kc3)
              generalize ((((((w1.setCell ⟨gb, i * 6, none⟩ (.int .i64 l[i].kind)).setCell ⟨gb, i * 6 + 1, none⟩ (.bool l[i].b)).setCell ⟨gb, i * 6 + 2, none⟩ (.int .i64 l[i].n)).setCell ⟨gb, i * 6 + 3, none⟩ (.string l[i].s)).setCell ⟨gb, i * 6 + 4, none⟩ (.slice la3 l[i].l.length lc3)).setCell ⟨gb, i * 6 + 5, none⟩ (.slice ka3 l[i].keys.length kc3)) = w5 at *
              go_wp2
              go_roundg g
              case rel =>
                refine ⟨i + 1, by first | rfl | (congr 1), by omega, by omega, (H6.out.frm hn6 id).frm hs6 (by unfold One; omega), ((Frm.of_below HB.out).trans ((Frm.of_below e6).trans (hs6.mono fun g _ hg => by have : g = gb := hg; omega))).below (Nat.le_refl _), (HR.out.frm hn6 id).frm hs6 (by unfold One; omega), .inr ⟨gb, _, rfl, hgb, hrow6a, by rw [hrow6b]; exact hcz, fun j hj hij => ?_⟩⟩
                obtain ⟨yk, yb, yn, ys, yla, yll, ylc, yka, ykl, ykc, hy, p0, p1, p2, p3, p4, p5⟩ := HEl.out j hj (by omega)
                have ag : ∀ t, t < 6 → w5.cell? ⟨gb, j * 6 + t, none⟩ = wr.cell? ⟨gb, j * 6 + t, none⟩ := fun t ht => (hrow6c (j * 6 + t) (by omega)).trans (HB1.out.cell (p := ⟨gb, j * 6 + t, none⟩) hgl)
                exact ⟨yk, yb, yn, ys, yla, yll, ylc, yka, ykl, ykc, hy, (ag 0 (by omega)).trans p0, (ag 1 (by omega)).trans p1, (ag 2 (by omega)).trans p2, (ag 3 (by omega)).trans p3, (ag 4 (by omega)).trans p4, (ag 5 (by omega)).trans p5⟩
              case measure => omega
    · go_simp
      refine hK _ _ ?_
      clear hK K
      try simp only [Go.Act.put, List.setIfInBounds_toArray, List.set_cons_zero, List.set_cons_succ]
      refine wpAny_take (i := 6) (v := ?_) rfl (by kernel_rfl) (by kernel_rfl) (by kernel_rfl) (fun _ _ _ h => h) (Or.inl ⟨by rfl, fun w => ?_⟩) ?_
      rotate_left
      · go_simp
        try with_reducible rfl
      try simp only [Go.Act.put, List.setIfInBounds_toArray, List.set_cons_zero, List.set_cons_succ]
      refine wpAny_ready (rs := [1, 7]) (by kernel_rfl) (by simp) (AllReady.cons rfl (fun K hK => ?_) (AllReady.cons rfl (fun K hK => ?_) (AllReady.nil)))
      · go_simp
        refine hK _ _ ?_
        clear hK K
        try simp only [Go.Act.put, List.setIfInBounds_toArray, List.set_cons_zero, List.set_cons_succ]
        refine wpAny_ready (rs := [7]) (by kernel_rfl) (by simp) (AllReady.cons rfl (fun K hK => ?_) (AllReady.nil))
        · go_simp
          refine hK _ _ ?_
          clear hK K
          try simp only [Go.Act.put, List.setIfInBounds_toArray, List.set_cons_zero, List.set_cons_succ]
          refine wpAny_ready (rs := [8]) (by kernel_rfl) (by simp) (AllReady.cons rfl (fun K hK => ?_) (AllReady.nil))
          · go_simp
            refine HC.out.mono ?_
            rintro e w1 ⟨⟨la3, lc3, ka3, kc3, rfl⟩, hb1⟩
            have s4 := (hb1.cell (p := ⟨w.heap.size, 4, none⟩) hbl0).trans c4
            have s0 := (hb1.cell (p := ⟨gb, i * 6, none⟩) hgl).trans q0; have s1 := (hb1.cell (p := ⟨gb, i * 6 + 1, none⟩) hgl).trans q1; have s2 := (hb1.cell (p := ⟨gb, i * 6 + 2, none⟩) hgl).trans q2; have s3 := (hb1.cell (p := ⟨gb, i * 6 + 3, none⟩) hgl).trans q3; have s5 := (hb1.cell (p := ⟨gb, i * 6 + 4, none⟩) hgl).trans q4; have s6 := (hb1.cell (p := ⟨gb, i * 6 + 5, none⟩) hgl).trans q5
            have HB1 := Lib.hid hb1
            have hg1 := (hb1.block gb hgl).trans HGc.out
            have HG1 := Lib.hid hg1
            have f0 := frozen_of_row w1 gb (i * 6) _ _ hg1; have f1 := frozen_of_row w1 gb (i * 6 + 1) _ _ hg1; have f2 := frozen_of_row w1 gb (i * 6 + 2) _ _ hg1; have f3 := frozen_of_row w1 gb (i * 6 + 3) _ _ hg1; have f4 := frozen_of_row w1 gb (i * 6 + 4) _ _ hg1; have f5 := frozen_of_row w1 gb (i * 6 + 5) _ _ hg1
            clear hb1 hg1
            dsimp only
            refine hK _ _ ?_
            clear hK K
            try simp only [Go.Act.put, List.setIfInBounds_toArray, List.set_cons_zero, List.set_cons_succ]
            refine wpAny_take (i := 9) (v := ?_) rfl (by kernel_rfl) (by kernel_rfl) (by kernel_rfl) (fun _ _ _ h => h) (Or.inl ⟨by rfl, fun w => ?_⟩) ?_
            rotate_left
            · go_simp
              try with_reducible rfl
            try simp only [Go.Act.put, List.setIfInBounds_toArray, List.set_cons_zero, List.set_cons_succ]
            refine wpAny_ready (rs := [10]) (by kernel_rfl) (by simp) (AllReady.cons rfl (fun K hK => ?_) (AllReady.nil))
            · go_simp
              refine hK _ _ ?_
              clear hK K
              try simp only [Go.Act.put, List.setIfInBounds_toArray, List.set_cons_zero, List.set_cons_succ]
              refine wpAny_done (by kernel_rfl) ?_ _
              have e6 : Below w.heap.size wr w1 := (((Frm.refl _ wr).drew).trans (Frm.of_new HB1.out (fun g => w.heap.size ≤ g))).below hwr
              have hn6 : Frm (fun _ => False) wr w1 := ((Frm.refl _ wr).drew).trans (Frm.of_new HB1.out _)
              have hs6 : Frm (One gb) w1 ((((((w1.setCell ⟨gb, i * 6, none⟩ (.int .i64 l[i].kind)).setCell ⟨gb, i * 6 + 1, none⟩ (.bool l[i].b)).setCell ⟨gb, i * 6 + 2, none⟩ (.int .i64 l[i].n)).setCell ⟨gb, i * 6 + 3, none⟩ (.string l[i].s)).setCell ⟨gb, i * 6 + 4, none⟩ (.slice la3 l[i].l.length lc3)).setCell ⟨gb, i * 6 + 5, none⟩ (.slice ka3 l[i].keys.length kc3)) := (((((frm_at _ _ _ _).trans (frm_at _ _ _ _)).trans (frm_at _ _ _ _)).trans (frm_at _ _ _ _)).trans (frm_at _ _ _ _)).trans (frm_at _ _ _ _)
              obtain ⟨cur2, hrow6a, hrow6b, hrow6c⟩ := STO.out w1 cur HG1.out (.int .i64 l[i].kind) (.bool l[i].b) (.int .i64 l[i].n) (.string l[i].s) (.slice la3 l[i].l.length lc3) (.slice ka3 l[i].keys.length kc3)
              generalize ((((((w1.setCell ⟨gb, i * 6, none⟩ (.int .i64 l[i].kind)).setCell ⟨gb, i * 6 + 1, none⟩ (.bool l[i].b)).setCell ⟨gb, i * 6 + 2, none⟩ (.int .i64 l[i].n)).setCell ⟨gb, i * 6 + 3, none⟩ (.string l[i].s)).setCell ⟨gb, i * 6 + 4, none⟩ (.slice la3 l[i].l.length lc3)).setCell ⟨gb, i * 6 + 5, none⟩ (.slice ka3 l[i].keys.length kc3)) = w5 at *
              go_wp2
              go_roundg g
              case rel =>
                refine ⟨i + 1, by first | rfl | (congr 1), by omega, by omega, (H6.out.frm hn6 id).frm hs6 (by unfold One; omega), ((Frm.of_below HB.out).trans ((Frm.of_below e6).trans (hs6.mono fun g _ hg => by have : g = gb := hg; omega))).below (Nat.le_refl _), (HR.out.frm hn6 id).frm hs6 (by unfold One; omega), .inr ⟨gb, _, rfl, hgb, hrow6a, by rw [hrow6b]; exact hcz, fun j hj hij => ?_⟩⟩
                obtain ⟨yk, yb, yn, ys, yla, yll, ylc, yka, ykl, ykc, hy, p0, p1, p2, p3, p4, p5⟩ := HEl.out j hj (by omega)
                have ag : ∀ t, t < 6 → w5.cell? ⟨gb, j * 6 + t, none⟩ = wr.cell? ⟨gb, j * 6 + t, none⟩ := fun t ht => (hrow6c (j * 6 + t) (by omega)).trans (HB1.out.cell (p := ⟨gb, j * 6 + t, none⟩) hgl)
                exact ⟨yk, yb, yn, ys, yla, yll, ylc, yka, ykl, ykc, hy, (ag 0 (by omega)).trans p0, (ag 1 (by omega)).trans p1, (ag 2 (by omega)).trans p2, (ag 3 (by omega)).trans p3, (ag 4 (by omega)).trans p4, (ag 5 (by omega)).trans p5⟩
              case measure => omega
      · go_simp
        refine hK _ _ ?_
        clear hK K
        try simp only [Go.Act.put, List.setIfInBounds_toArray, List.set_cons_zero, List.set_cons_succ]
        refine wpAny_ready (rs := [1, 8]) (by kernel_rfl) (by simp) (AllReady.cons rfl (fun K hK => ?_) (AllReady.cons rfl (fun K hK => ?_) (AllReady.nil)))
        · go_simp
          refine hK _ _ ?_
          clear hK K
          try simp only [Go.Act.put, List.setIfInBounds_toArray, List.set_cons_zero, List.set_cons_succ]
          refine wpAny_ready (rs := [8]) (by kernel_rfl) (by simp) (AllReady.cons rfl (fun K hK => ?_) (AllReady.nil))
          · go_simp
            refine HC.out.mono ?_
            rintro e w1 ⟨⟨la3, lc3, ka3, kc3, rfl⟩, hb1⟩
            have s4 := (hb1.cell (p := ⟨w.heap.size, 4, none⟩) hbl0).trans c4
            have s0 := (hb1.cell (p := ⟨gb, i * 6, none⟩) hgl).trans q0; have s1 := (hb1.cell (p := ⟨gb, i * 6 + 1, none⟩) hgl).trans q1; have s2 := (hb1.cell (p := ⟨gb, i * 6 + 2, none⟩) hgl).trans q2; have s3 := (hb1.cell (p := ⟨gb, i * 6 + 3, none⟩) hgl).trans q3; have s5 := (hb1.cell (p := ⟨gb, i * 6 + 4, none⟩) hgl).trans q4; have s6 := (hb1.cell (p := ⟨gb, i * 6 + 5, none⟩) hgl).trans q5
            have HB1 := Lib.hid hb1
            have hg1 := (hb1.block gb hgl).trans HGc.out
            have HG1 := Lib.hid hg1
            have f0 := frozen_of_row w1 gb (i * 6) _ _ hg1; have f1 := frozen_of_row w1 gb (i * 6 + 1) _ _ hg1; have f2 := frozen_of_row w1 gb (i * 6 + 2) _ _ hg1; have f3 := frozen_of_row w1 gb (i * 6 + 3) _ _ hg1; have f4 := frozen_of_row w1 gb (i * 6 + 4) _ _ hg1; have f5 := frozen_of_row w1 gb (i * 6 + 5) _ _ hg1
            clear hb1 hg1
            dsimp only
            refine hK _ _ ?_
            clear hK K
            try simp only [Go.Act.put, List.setIfInBounds_toArray, List.set_cons_zero, List.set_cons_succ]
            refine wpAny_take (i := 9) (v := ?_) rfl (by kernel_rfl) (by kernel_rfl) (by kernel_rfl) (fun _ _ _ h => h) (Or.inl ⟨by rfl, fun w => ?_⟩) ?_
            rotate_left
            · go_simp
              try with_reducible rfl
            try simp only [Go.Act.put, List.setIfInBounds_toArray, List.set_cons_zero, List.set_cons_succ]
            refine wpAny_ready (rs := [10]) (by kernel_rfl) (by simp) (AllReady.cons rfl (fun K hK => ?_) (AllReady.nil))
            · go_simp
              refine hK _ _ ?_
              clear hK K
              try simp only [Go.Act.put, List.setIfInBounds_toArray, List.set_cons_zero, List.set_cons_succ]
              refine wpAny_done (by kernel_rfl) ?_ _
              have e6 : Below w.heap.size wr w1 := (((Frm.refl _ wr).drew).trans (Frm.of_new HB1.out (fun g => w.heap.size ≤ g))).below hwr
              have hn6 : Frm (fun _ => False) wr w1 := ((Frm.refl _ wr).drew).trans (Frm.of_new HB1.out _)
              have hs6 : Frm (One gb) w1 ((((((w1.setCell ⟨gb, i * 6, none⟩ (.int .i64 l[i].kind)).setCell ⟨gb, i * 6 + 1, none⟩ (.bool l[i].b)).setCell ⟨gb, i * 6 + 2, none⟩ (.int .i64 l[i].n)).setCell ⟨gb, i * 6 + 3, none⟩ (.string l[i].s)).setCell ⟨gb, i * 6 + 4, none⟩ (.slice la3 l[i].l.length lc3)).setCell ⟨gb, i * 6 + 5, none⟩ (.slice ka3 l[i].keys.length kc3)) := (((((frm_at _ _ _ _).trans (frm_at _ _ _ _)).trans (frm_at _ _ _ _)).trans (frm_at _ _ _ _)).trans (frm_at _ _ _ _)).trans (frm_at _ _ _ _)
              obtain ⟨cur2, hrow6a, hrow6b, hrow6c⟩ := STO.out w1 cur HG1.out (.int .i64 l[i].kind) (.bool l[i].b) (.int .i64 l[i].n) (.string l[i].s) (.slice la3 l[i].l.length lc3) (.slice ka3 l[i].keys.length kc3)
              generalize ((((((w1.setCell ⟨gb, i * 6, none⟩ (.int .i64 l[i].kind)).setCell ⟨gb, i * 6 + 1, none⟩ (.bool l[i].b)).setCell ⟨gb, i * 6 + 2, none⟩ (.int .i64 l[i].n)).setCell ⟨gb, i * 6 + 3, none⟩ (.string l[i].s)).setCell ⟨gb, i * 6 + 4, none⟩ (.slice la3 l[i].l.length lc3)).setCell ⟨gb, i * 6 + 5, none⟩ (.slice ka3 l[i].keys.length kc3)) = w5 at *
              go_wp2
              go_roundg g
              case rel =>
                refine ⟨i + 1, by first | rfl | (congr 1), by omega, by omega, (H6.out.frm hn6 id).frm hs6 (by unfold One; omega), ((Frm.of_below HB.out).trans ((Frm.of_below e6).trans (hs6.mono fun g _ hg => by have : g = gb := hg; omega))).below (Nat.le_refl _), (HR.out.frm hn6 id).frm hs6 (by unfold One; omega), .inr ⟨gb, _, rfl, hgb, hrow6a, by rw [hrow6b]; exact hcz, fun j hj hij => ?_⟩⟩
                obtain ⟨yk, yb, yn, ys, yla, yll, ylc, yka, ykl, ykc, hy, p0, p1, p2, p3, p4, p5⟩ := HEl.out j hj (by omega)
                have ag : ∀ t, t < 6 → w5.cell? ⟨gb, j * 6 + t, none⟩ = wr.cell? ⟨gb, j * 6 + t, none⟩ := fun t ht => (hrow6c (j * 6 + t) (by omega)).trans (HB1.out.cell (p := ⟨gb, j * 6 + t, none⟩) hgl)
                exact ⟨yk, yb, yn, ys, yla, yll, ylc, yka, ykl, ykc, hy, (ag 0 (by omega)).trans p0, (ag 1 (by omega)).trans p1, (ag 2 (by omega)).trans p2, (ag 3 (by omega)).trans p3, (ag 4 (by omega)).trans p4, (ag 5 (by omega)).trans p5⟩
              case measure => omega
        · go_simp
          refine HC.out.mono ?_
          rintro e w1 ⟨⟨la3, lc3, ka3, kc3, rfl⟩, hb1⟩
          have s4 := (hb1.cell (p := ⟨w.heap.size, 4, none⟩) hbl0).trans c4
          have s0 := (hb1.cell (p := ⟨gb, i * 6, none⟩) hgl).trans q0; have s1 := (hb1.cell (p := ⟨gb, i * 6 + 1, none⟩) hgl).trans q1; have s2 := (hb1.cell (p := ⟨gb, i * 6 + 2, none⟩) hgl).trans q2; have s3 := (hb1.cell (p := ⟨gb, i * 6 + 3, none⟩) hgl).trans q3; have s5 := (hb1.cell (p := ⟨gb, i * 6 + 4, none⟩) hgl).trans q4; have s6 := (hb1.cell (p := ⟨gb, i * 6 + 5, none⟩) hgl).trans q5
          have HB1 := Lib.hid hb1
          have hg1 := (hb1.block gb hgl).trans HGc.out
          have HG1 := Lib.hid hg1
          have f0 := frozen_of_row w1 gb (i * 6) _ _ hg1; have f1 := frozen_of_row w1 gb (i * 6 + 1) _ _ hg1; have f2 := frozen_of_row w1 gb (i * 6 + 2) _ _ hg1; have f3 := frozen_of_row w1 gb (i * 6 + 3) _ _ hg1; have f4 := frozen_of_row w1 gb (i * 6 + 4) _ _ hg1; have f5 := frozen_of_row w1 gb (i * 6 + 5) _ _ hg1
          clear hb1 hg1
          dsimp only
          refine hK _ _ ?_
          clear hK K
          try simp only [Go.Act.put, List.setIfInBounds_toArray, List.set_cons_zero, List.set_cons_succ]
          refine wpAny_ready (rs := [1]) (by kernel_rfl) (by simp) (AllReady.cons rfl (fun K hK => ?_) (AllReady.nil))
          · go_simp
            refine hK _ _ ?_
            clear hK K
            try simp only [Go.Act.put, List.setIfInBounds_toArray, List.set_cons_zero, List.set_cons_succ]
            refine wpAny_take (i := 9) (v := ?_) rfl (by kernel_rfl) (by kernel_rfl) (by kernel_rfl) (fun _ _ _ h => h) (Or.inl ⟨by rfl, fun w => ?_⟩) ?_
            rotate_left
            · go_simp
              try with_reducible rfl
            try simp only [Go.Act.put, List.setIfInBounds_toArray, List.set_cons_zero, List.set_cons_succ]
            refine wpAny_ready (rs := [10]) (by kernel_rfl) (by simp) (AllReady.cons rfl (fun K hK => ?_) (AllReady.nil))
            · go_simp
              refine hK _ _ ?_
              clear hK K
              try simp only [Go.Act.put, List.setIfInBounds_toArray, List.set_cons_zero, List.set_cons_succ]
              refine wpAny_done (by kernel_rfl) ?_ _
              have e6 : Below w.heap.size wr w1 := (((Frm.refl _ wr).drew).trans (Frm.of_new HB1.out (fun g => w.heap.size ≤ g))).below hwr
              have hn6 : Frm (fun _ => False) wr w1 := ((Frm.refl _ wr).drew).trans (Frm.of_new HB1.out _)
              have hs6 : Frm (One gb) w1 ((((((w1.setCell ⟨gb, i * 6, none⟩ (.int .i64 l[i].kind)).setCell ⟨gb, i * 6 + 1, none⟩ (.bool l[i].b)).setCell ⟨gb, i * 6 + 2, none⟩ (.int .i64 l[i].n)).setCell ⟨gb, i * 6 + 3, none⟩ (.string l[i].s)).setCell ⟨gb, i * 6 + 4, none⟩ (.slice la3 l[i].l.length lc3)).setCell ⟨gb, i * 6 + 5, none⟩ (.slice ka3 l[i].keys.length kc3)) := (((((frm_at _ _ _ _).trans (frm_at _ _ _ _)).trans (frm_at _ _ _ _)).trans (frm_at _ _ _ _)).trans (frm_at _ _ _ _)).trans (frm_at _ _ _ _)
              obtain ⟨cur2, hrow6a, hrow6b, hrow6c⟩ := STO.out w1 cur HG1.out (.int .i64 l[i].kind) (.bool l[i].b) (.int .i64 l[i].n) (.string l[i].s) (.slice la3 l[i].l.length lc3) (.slice ka3 l[i].keys.length kc3)
              generalize ((((((w1.setCell ⟨gb, i * 6, none⟩ (.int .i64 l[i].kind)).setCell ⟨gb, i * 6 + 1, none⟩ (.bool l[i].b)).setCell ⟨gb, i * 6 + 2, none⟩ (.int .i64 l[i].n)).setCell ⟨gb, i * 6 + 3, none⟩ (.string l[i].s)).setCell ⟨gb, i * 6 + 4, none⟩ (.slice la3 l[i].l.length lc3)).setCell ⟨gb, i * 6 + 5, none⟩ (.slice ka3 l[i].keys.length kc3)) = w5 at *
              go_wp2
              go_roundg g
              case rel =>
                refine ⟨i + 1, by first | rfl | (congr 1), by omega, by omega, (H6.out.frm hn6 id).frm hs6 (by unfold One; omega), ((Frm.of_below HB.out).trans ((Frm.of_below e6).trans (hs6.mono fun g _ hg => by have : g = gb := hg; omega))).below (Nat.le_refl _), (HR.out.frm hn6 id).frm hs6 (by unfold One; omega), .inr ⟨gb, _, rfl, hgb, hrow6a, by rw [hrow6b]; exact hcz, fun j hj hij => ?_⟩⟩
                obtain ⟨yk, yb, yn, ys, yla, yll, ylc, yka, ykl, ykc, hy, p0, p1, p2, p3, p4, p5⟩ := HEl.out j hj (by omega)
                have ag : ∀ t, t < 6 → w5.cell? ⟨gb, j * 6 + t, none⟩ = wr.cell? ⟨gb, j * 6 + t, none⟩ := fun t ht => (hrow6c (j * 6 + t) (by omega)).trans (HB1.out.cell (p := ⟨gb, j * 6 + t, none⟩) hgl)
                exact ⟨yk, yb, yn, ys, yla, yll, ylc, yka, ykl, ykc, hy, (ag 0 (by omega)).trans p0, (ag 1 (by omega)).trans p1, (ag 2 (by omega)).trans p2, (ag 3 (by omega)).trans p3, (ag 4 (by omega)).trans p4, (ag 5 (by omega)).trans p5⟩
              case measure => omega
end Go.Proofs.YtcobadgpelhcoaaDoor

namespace Go.Proofs.YtcobadgpelhcoaaDoor
open Go.Conc Go.RowKit Go.Maps Go.WideMaps
set_option linter.unusedVariables false
set_option linter.unusedSimpArgs false

/-- The cells of a copy. -/
def topOf (x : J) (la : Option Addr) (lc : Nat) (ka : Option Addr) (kc : Nat) : Value := .agg #[.int .i64 x.kind, .bool x.b, .int .i64 x.n, .string x.s, .slice la x.l.length lc, .slice ka x.keys.length kc]

set_option maxHeartbeats 4000000 in
set_option maxRecDepth 100000 in
theorem jcopied_of (x : J) (cost dn : Nat) (hf : FitsOk x cost dn) (hc : CopyOk x) (hcost : cost ≤ 2147483647) (hdn : dn ≤ 65536) (F : Nat → Prop) (c : List Value) (w : World) (hj : JIn F w x c) :
    Calls Tryd.prog 29 #[.agg c.toArray] w fun e w' => (∃ la lc ka kc, e = .returned (.tuple #[topOf x la lc ka kc, .bool true])) ∧ Below w.heap.size w w' := by
  obtain ⟨xk, xb, xn, xs, xla, xll, xlc, xka, xkl, xkc, rfl⟩ := hj.form
  have HJ := Lib.hid (hj.mono (F' := fun g => g < w.heap.size) fun g hl _ => hl)
  have HFt := Lib.hid hf
  have HCp := Lib.hid hc
  clear hj hf hc
  have HB1 := ((Below.refl _ w).alloc (Nat.le_refl _) (.cells #[.int .i64 xk, .bool xb, .int .i64 xn, .string xs, .slice xla xll xlc, .slice xka xkl xkc] 25)).alloc (by simp) (.cells #[.int .i64 0, .bool false, .int .i64 0, .string ⟨#[]⟩, .slice none 0 0, .slice none 0 0] 25)
  have HB2 := HB1.alloc (by simp <;> omega) (.cells #[.int .i64 2147483647] 3)
  have O3 := j6_alloc (j6_alloc (j6_new w (.int .i64 xk) (.bool xb) (.int .i64 xn) (.string xs) (.slice xla xll xlc) (.slice xka xkl xkc)) (.cells #[.int .i64 0, .bool false, .int .i64 0, .string ⟨#[]⟩, .slice none 0 0, .slice none 0 0] 25)) (.cells #[.int .i64 2147483647] 3)
  have R3 := j6_alloc (j6_new1 w (.cells #[.int .i64 xk, .bool xb, .int .i64 xn, .string xs, .slice xla xll xlc, .slice xka xkl xkc] 25) (.int .i64 0) (.bool false) (.int .i64 0) (.string ⟨#[]⟩) (.slice none 0 0) (.slice none 0 0)) (.cells #[.int .i64 2147483647] 3)
  have hes : ((w.alloc (.cells #[.int .i64 xk, .bool xb, .int .i64 xn, .string xs, .slice xla xll xlc, .slice xka xkl xkc] 25)).alloc (.cells #[.int .i64 0, .bool false, .int .i64 0, .string ⟨#[]⟩, .slice none 0 0, .slice none 0 0] 25)).heap.size = w.heap.size + 2 := by simp
  have hro : Room (((w.alloc (.cells #[.int .i64 xk, .bool xb, .int .i64 xn, .string xs, .slice xla xll xlc, .slice xka xkl xkc] 25)).alloc (.cells #[.int .i64 0, .bool false, .int .i64 0, .string ⟨#[]⟩, .slice none 0 0, .slice none 0 0] 25)).alloc (.cells #[.int .i64 2147483647] 3)) (w.heap.size + 2) 2147483647 := by
    have := heap_alloc_new ((w.alloc (.cells #[.int .i64 xk, .bool xb, .int .i64 xn, .string xs, .slice xla xll xlc, .slice xka xkl xkc] 25)).alloc (.cells #[.int .i64 0, .bool false, .int .i64 0, .string ⟨#[]⟩, .slice none 0 0, .slice none 0 0] 25)) (.cells #[.int .i64 2147483647] 3)
    rw [hes] at this; exact this
  obtain ⟨u3, hu3⟩ : ∃ u3, u3 = (((w.alloc (.cells #[.int .i64 xk, .bool xb, .int .i64 xn, .string xs, .slice xla xll xlc, .slice xka xkl xkc] 25)).alloc (.cells #[.int .i64 0, .bool false, .int .i64 0, .string ⟨#[]⟩, .slice none 0 0, .slice none 0 0] 25)).alloc (.cells #[.int .i64 2147483647] 3)) := ⟨_, rfl⟩
  rw [← hu3] at HB2 O3 R3 hro
  have HU := Lib.hid hu3
  obtain ⟨r0, hr0⟩ : ∃ r0 : Nat, r0 = 2147483647 := ⟨_, rfl⟩
  have hr1 : (2147483647 : Int) = (r0 : Int) := by omega
  obtain ⟨l0, hl0⟩ : ∃ l0 : Nat, l0 = 65536 := ⟨_, rfl⟩
  have hl1 : (65536 : Int) = (l0 : Int) := by omega
  have hC := HFt.out (fun g => g < w.heap.size) [.int .i64 xk, .bool xb, .int .i64 xn, .string xs, .slice xla xll xlc, .slice xka xkl xkc] (w.heap.size + 2) r0 l0 u3 (HJ.out.same (fun g hg _ => HB2.block g hg) HB2.size) (by omega) (hr1 ▸ hro) (by omega) (by omega) (by omega) (by omega)
  rw [← hl1] at hC
  have HC := Lib.hid hC
  have HB := Lib.hid HB2
  have HO3 := Lib.hid O3
  have HR3 := Lib.hid R3
  clear hC HB1 HB2 O3 R3 hro hr1 hl1 hr0 hl0 hes hu3
  go_enter Tryd.func29, Tryd.ntmps29
  go_wp2_with (first
    | (go_at_call 53; rw [← HU.out]; refine HC.out.mono ?_; rintro e w4 ⟨rfl, hf4, _⟩; have HF4 := Lib.hid hf4; have O4 := HO3.out.frm hf4 (by unfold One; omega); have HR4 := Lib.hid (HR3.out.frm hf4 (by unfold One; omega)); have HJ4 := Lib.hid ((HJ.out.same (fun g hg _ => HB.out.block g hg) HB.out.size).frm hf4 (fun g hg _ hgp => by have : g = w.heap.size + 2 := hgp; omega)); have c0 := O4.c0; have c1 := O4.c1; have c2 := O4.c2; have c3 := O4.c3; have c4 := O4.c4; have c5 := O4.c5; clear hf4 O4)
    | (go_at_call 54; refine (HCp.out _ _ w4 HJ4.out).mono ?_; rintro e w5 ⟨⟨la, lc, ka, kc, rfl⟩, hb5⟩; have HB5 := Lib.hid hb5; have R5 := HR4.out.frm (Frm.of_new hb5 (fun _ => False)) id; have HR5 := Lib.hid R5; have r0 := R5.c0; have r1 := R5.c1; have r2 := R5.c2; have r3 := R5.c3; have r4 := R5.c4; have r5 := R5.c5; have z0 := R5.fz 0; have z1 := R5.fz 1; have z2 := R5.fz 2; have z3 := R5.fz 3; have z4 := R5.fz 4; have z5 := R5.fz 5; clear hb5 R5))
  have hv := HR5.out.fill (.int .i64 x.kind) (.bool x.b) (.int .i64 x.n) (.string x.s) (.slice la x.l.length lc) (.slice ka x.keys.length kc)
  have hfv := frm_fill6 w5 (w.heap.size + 1) (.int .i64 x.kind) (.bool x.b) (.int .i64 x.n) (.string x.s) (.slice la x.l.length lc) (.slice ka x.keys.length kc)
  change bodyPost _ _ _ _ _ (Fill6 w5 (w.heap.size + 1) (.int .i64 x.kind) (.bool x.b) (.int .i64 x.n) (.string x.s) (.slice la x.l.length lc) (.slice ka x.keys.length kc))
  generalize Fill6 w5 (w.heap.size + 1) (.int .i64 x.kind) (.bool x.b) (.int .i64 x.n) (.string x.s) (.slice la x.l.length lc) (.slice ka x.keys.length kc) = v at *
  refine bodyPost_ret (v := .tuple #[.agg #[.int .i64 x.kind, .bool x.b, .int .i64 x.n, .string x.s, .slice la x.l.length lc, .slice ka x.keys.length kc], .bool true]) (by simp [results, Tryd.results29, go_sem, hv.c0, hv.c1, hv.c2, hv.c3, hv.c4, hv.c5]) rfl ?_
  have hz := HF4.out.size
  have hz3 := HB.out.size
  exact ⟨⟨_, _, _, _, rfl⟩, ((((Frm.of_below HB.out).trans (HF4.out.mono fun g _ hg => by have : g = w.heap.size + 2 := hg; omega)).trans ((Frm.of_below HB5.out).mono fun g _ hg => by omega)).trans (hfv.mono fun g _ hg => by have : g = w.heap.size + 1 := hg; omega)).below (Nat.le_refl _)⟩
end Go.Proofs.YtcobadgpelhcoaaDoor

namespace Go.Proofs.YtcobadgpelhcoaaDoor
open Go.Conc Go.RowKit Go.Maps Go.WideMaps
set_option linter.unusedVariables false
set_option linter.unusedSimpArgs false

def JGt (i0 : Nat) (u2 : World) (g : Nat) (iv : Value) (wr : World) : Prop := ∃ i : Nat, iv = .int .i64 i ∧ i ≤ i0 ∧ i0 + 1 ≤ i + g ∧ wr = u2

set_option maxHeartbeats 4000000 in
set_option maxRecDepth 100000 in
theorem jget_found (b : Bool) (n : Int) (s : ByteArray) (l : List J) (ks : List ByteArray) (key : ByteArray) (i0 cost dn : Nat) (hkl : ks.length = l.length) (hl : l.length ≤ 1000) (h0 : i0 < l.length) (h1 : i0 < ks.length) (heq : ks[i0] = key) (hne : ∀ j (hj : j < ks.length), j < i0 → ks[j] ≠ key)
    (hft : FitsOk l[i0] cost dn) (hcp : CopyOk l[i0]) (hcost : cost ≤ 2147483647) (hdn : dn ≤ 65536) (F : Nat → Prop) (c : List Value) (w : World) (hj : JIn F w (.mk 5 b n s l ks) c) :
    Calls Tryd.prog 17 #[.agg c.toArray, .string key] w fun e w' => (∃ la lc ka kc, e = .returned (.tuple #[topOf l[i0] la lc ka kc, .bool true])) ∧ Below w.heap.size w w' := by
  obtain ⟨_, _, _, _, _, _, lvv, kv, cs, hrow, hkrow, hcs, hjs⟩ := hj
  obtain ⟨_, la, lc, rfl, _⟩ := id hrow
  obtain ⟨_, ka, kc, rfl, _⟩ := id hkrow
  obtain ⟨m, hm⟩ : ∃ m, m = l.length := ⟨_, rfl⟩
  have hkm : m = ks.length := by omega
  have HM := Lib.hid hm
  have HKM := Lib.hid hkm
  have hm2 : m ≤ 1000 := by omega
  rw [← hm] at hrow ⊢
  rw [← hkm] at hkrow ⊢
  have HRow := Lib.hid (HM.out ▸ hrow)
  have HKRow := Lib.hid hkrow
  have hjs0 : JsIn F w l cs := ⟨hcs, hjs⟩
  have HJs := Lib.hid hjs0
  have HB2 := ((Below.refl _ w).alloc (Nat.le_refl _) (.cells #[.int .i64 5, .bool b, .int .i64 n, .string s, .slice la m lc, .slice ka m kc] 25)).alloc (by simp) (.cells #[.int .i64 0, .bool false, .int .i64 0, .string ⟨#[]⟩, .slice none 0 0, .slice none 0 0] 25)
  have O2 := j6_alloc (j6_new w (.int .i64 5) (.bool b) (.int .i64 n) (.string s) (.slice la m lc) (.slice ka m kc)) (.cells #[.int .i64 0, .bool false, .int .i64 0, .string ⟨#[]⟩, .slice none 0 0, .slice none 0 0] 25)
  have R2 := j6_new1 w (.cells #[.int .i64 5, .bool b, .int .i64 n, .string s, .slice la m lc, .slice ka m kc] 25) (.int .i64 0) (.bool false) (.int .i64 0) (.string ⟨#[]⟩) (.slice none 0 0) (.slice none 0 0)
  obtain ⟨u2, hu2⟩ : ∃ u2, u2 = ((w.alloc (.cells #[.int .i64 5, .bool b, .int .i64 n, .string s, .slice la m lc, .slice ka m kc] 25)).alloc (.cells #[.int .i64 0, .bool false, .int .i64 0, .string ⟨#[]⟩, .slice none 0 0, .slice none 0 0] 25)) := ⟨_, rfl⟩
  rw [← hu2] at HB2 O2 R2
  have HU := Lib.hid hu2
  have HB := Lib.hid HB2
  have HO := Lib.hid O2
  have HR := Lib.hid R2
  have hus : u2.heap.size = w.heap.size + 2 := by rw [hu2]; simp
  clear hrow hkrow hcs hjs hjs0 HB2 O2 R2 hm hkm hu2
  have HFt := Lib.hid hft
  have HCp := Lib.hid hcp
  clear hft hcp
  go_enter Tryd.func17, Tryd.ntmps17
  go_wp2
  rw [← HU.out]
  go_loopg [18] (i0 + 1) (fun g iv wr => JGt i0 u2 g iv wr)
  case atStart => exact ⟨0, rfl, by omega, by omega, rfl⟩
  case round =>
    obtain ⟨i, rfl, hi, hig, rfl⟩ := hrel
    obtain ⟨g, rfl⟩ : ∃ g, gk = g + 1 := ⟨gk - 1, by omega⟩
    have g0 : decide ((i : Int) < (m : Int)) = true := by have := HM.out; simp; omega
    have hkn2 : i < m := by have := HM.out; omega
    have hkk : i < ks.length := by omega
    have c5 := HO.out.c5; have c4 := HO.out.c4
    obtain ⟨b2, o2, c2, hv2, hF2, hbl2, hc2⟩ := HKRow.out.key HKM.out.symm hkn2
    simp only [Value.slice.injEq] at hv2
    obtain ⟨rfl, hvn, rfl⟩ := hv2
    clear hvn
    have kc0 : wr.cell? ⟨b2, o2 + i, none⟩ = some (.string ks[i]) := by rw [← hc2 i hkk]; exact World.cell?_of_block (HB.out.block b2 hbl2)
    by_cases hii : i = i0
    · subst hii
      have gq : (ks[i].toList == key.toList) = true := by rw [heq]; simp
      obtain ⟨b3, o3, c3, xk, xb, xn, xs, xla, xll, xlc, xka, xkl, xkc, hv, hF, hbl, hx, q0, q1, q2, q3, q4, q5⟩ := HRow.out.elem HJs.out h0
      simp only [Value.slice.injEq] at hv
      obtain ⟨rfl, hvn, rfl⟩ := hv
      clear hvn
      have hag : wr.heap[b3]? = w.heap[b3]? := HB.out.block b3 hbl
      rw [← World.cell?_of_block hag] at q0 q1 q2 q3 q4 q5
      have HX := Lib.hid (hx.same (fun g _ hl => HB.out.block g hl) HB.out.size)
      clear hx hag hne hc2
      go_wp2_with (go_at_call 29; refine (jcopied_of l[i] cost dn HFt.out HCp.out hcost hdn F _ wr HX.out).mono ?_; rintro e w5 ⟨⟨la2, lc2, ka2, kc2, rfl⟩, hb5⟩; unfold topOf; have HB5 := Lib.hid hb5; have R5 := HR.out.frm (Frm.of_new hb5 (fun _ => False)) id; have HR5 := Lib.hid R5; have r0 := R5.c0; have r1 := R5.c1; have r2 := R5.c2; have r3 := R5.c3; have r4 := R5.c4; have r5 := R5.c5; have z0 := R5.fz 0; have z1 := R5.fz 1; have z2 := R5.fz 2; have z3 := R5.fz 3; have z4 := R5.fz 4; have z5 := R5.fz 5; clear hb5 R5)
      have hv := HR5.out.fill (.int .i64 l[i].kind) (.bool l[i].b) (.int .i64 l[i].n) (.string l[i].s) (.slice la2 l[i].l.length lc2) (.slice ka2 l[i].keys.length kc2)
      have hfv := frm_fill6 w5 (w.heap.size + 1) (.int .i64 l[i].kind) (.bool l[i].b) (.int .i64 l[i].n) (.string l[i].s) (.slice la2 l[i].l.length lc2) (.slice ka2 l[i].keys.length kc2)
      change bodyPost _ _ _ _ _ (Fill6 w5 (w.heap.size + 1) (.int .i64 l[i].kind) (.bool l[i].b) (.int .i64 l[i].n) (.string l[i].s) (.slice la2 l[i].l.length lc2) (.slice ka2 l[i].keys.length kc2))
      generalize Fill6 w5 (w.heap.size + 1) (.int .i64 l[i].kind) (.bool l[i].b) (.int .i64 l[i].n) (.string l[i].s) (.slice la2 l[i].l.length lc2) (.slice ka2 l[i].keys.length kc2) = v at *
      refine bodyPost_ret (v := .tuple #[.agg #[.int .i64 l[i].kind, .bool l[i].b, .int .i64 l[i].n, .string l[i].s, .slice la2 l[i].l.length lc2, .slice ka2 l[i].keys.length kc2], .bool true]) (by simp [results, Tryd.results17, go_sem, hv.c0, hv.c1, hv.c2, hv.c3, hv.c4, hv.c5]) rfl ?_
      exact ⟨⟨_, _, _, _, rfl⟩, (((Frm.of_below HB.out).trans ((Frm.of_below HB5.out).mono fun g _ hg => by omega)).trans (hfv.mono fun g _ hg => by have : g = w.heap.size + 1 := hg; omega)).below (Nat.le_refl _)⟩
    have gq : (ks[i].toList == key.toList) = false := by
      have hn := hne i hkk (by omega)
      rw [beq_eq_false_iff_ne]; intro e; rw [ByteArray.toList_eq, ByteArray.toList_eq] at e; exact hn (ByteArray.ext (Array.toList_inj.1 e))
    go_wp2
    go_roundg g
    case rel => exact ⟨i + 1, by first | rfl | (congr 1), by omega, by omega, rfl⟩
    case measure => omega

def JGn (m : Nat) (u2 : World) (g : Nat) (iv : Value) (wr : World) : Prop := ∃ i : Nat, iv = .int .i64 i ∧ i ≤ m ∧ m + 1 ≤ i + g ∧ wr = u2
set_option maxHeartbeats 4000000 in
set_option maxRecDepth 100000 in
theorem jget_none (b : Bool) (n : Int) (s : ByteArray) (l : List J) (ks : List ByteArray) (key : ByteArray) (hkl : ks.length = l.length) (hl : l.length ≤ 1000) (hne : ∀ j (hj : j < ks.length), ks[j] ≠ key)
    (F : Nat → Prop) (c : List Value) (w : World) (hj : JIn F w (.mk 5 b n s l ks) c) :
    Calls Tryd.prog 17 #[.agg c.toArray, .string key] w fun e w' => e = .returned (.tuple #[zJ, .bool false]) ∧ Below w.heap.size w w' := by
  obtain ⟨_, _, _, _, _, _, lvv, kv, cs, hrow, hkrow, hcs, hjs⟩ := hj
  obtain ⟨_, la, lc, rfl, _⟩ := id hrow
  obtain ⟨_, ka, kc, rfl, _⟩ := id hkrow
  obtain ⟨m, hm⟩ : ∃ m, m = l.length := ⟨_, rfl⟩
  have hkm : m = ks.length := by omega
  have HM := Lib.hid hm
  have HKM := Lib.hid hkm
  have hm2 : m ≤ 1000 := by omega
  rw [← hm] at hrow ⊢
  rw [← hkm] at hkrow ⊢
  have HRow := Lib.hid (HM.out ▸ hrow)
  have HKRow := Lib.hid hkrow
  have hjs0 : JsIn F w l cs := ⟨hcs, hjs⟩
  have HJs := Lib.hid hjs0
  have HB2 := ((Below.refl _ w).alloc (Nat.le_refl _) (.cells #[.int .i64 5, .bool b, .int .i64 n, .string s, .slice la m lc, .slice ka m kc] 25)).alloc (by simp) (.cells #[.int .i64 0, .bool false, .int .i64 0, .string ⟨#[]⟩, .slice none 0 0, .slice none 0 0] 25)
  have O2 := j6_alloc (j6_new w (.int .i64 5) (.bool b) (.int .i64 n) (.string s) (.slice la m lc) (.slice ka m kc)) (.cells #[.int .i64 0, .bool false, .int .i64 0, .string ⟨#[]⟩, .slice none 0 0, .slice none 0 0] 25)
  have R2 := j6_new1 w (.cells #[.int .i64 5, .bool b, .int .i64 n, .string s, .slice la m lc, .slice ka m kc] 25) (.int .i64 0) (.bool false) (.int .i64 0) (.string ⟨#[]⟩) (.slice none 0 0) (.slice none 0 0)
  obtain ⟨u2, hu2⟩ : ∃ u2, u2 = ((w.alloc (.cells #[.int .i64 5, .bool b, .int .i64 n, .string s, .slice la m lc, .slice ka m kc] 25)).alloc (.cells #[.int .i64 0, .bool false, .int .i64 0, .string ⟨#[]⟩, .slice none 0 0, .slice none 0 0] 25)) := ⟨_, rfl⟩
  rw [← hu2] at HB2 O2 R2
  have HU := Lib.hid hu2
  have HB := Lib.hid HB2
  have HO := Lib.hid O2
  have HR := Lib.hid R2
  have hus : u2.heap.size = w.heap.size + 2 := by rw [hu2]; simp
  clear hrow hkrow hcs hjs hjs0 HB2 O2 R2 hm hkm hu2
  go_enter Tryd.func17, Tryd.ntmps17
  go_wp2
  rw [← HU.out]
  go_loopg [18] (m + 1) (fun g iv wr => JGn m u2 g iv wr)
  case atStart => exact ⟨0, rfl, by omega, by omega, rfl⟩
  case round =>
    obtain ⟨i, rfl, hi, hig, rfl⟩ := hrel
    obtain ⟨g, rfl⟩ : ∃ g, gk = g + 1 := ⟨gk - 1, by omega⟩
    by_cases him : i = m
    · have g0 : decide ((i : Int) < (m : Int)) = false := by simp; omega
      have R5 := HR.out
      have r0 := R5.c0; have r1 := R5.c1; have r2 := R5.c2; have r3 := R5.c3; have r4 := R5.c4; have r5 := R5.c5; have z0 := R5.fz 0; have z1 := R5.fz 1; have z2 := R5.fz 2; have z3 := R5.fz 3; have z4 := R5.fz 4; have z5 := R5.fz 5
      clear R5
      go_wp2
      have hv := HR.out.fill (.int .i64 0) (.bool false) (.int .i64 0) (.string ⟨#[]⟩) (.slice none 0 0) (.slice none 0 0)
      have hfv := frm_fill6 wr (w.heap.size + 1) (.int .i64 0) (.bool false) (.int .i64 0) (.string ⟨#[]⟩) (.slice none 0 0) (.slice none 0 0)
      change bodyPost _ _ _ _ _ (Fill6 wr (w.heap.size + 1) (.int .i64 0) (.bool false) (.int .i64 0) (.string ⟨#[]⟩) (.slice none 0 0) (.slice none 0 0))
      generalize Fill6 wr (w.heap.size + 1) (.int .i64 0) (.bool false) (.int .i64 0) (.string ⟨#[]⟩) (.slice none 0 0) (.slice none 0 0) = v at *
      refine bodyPost_ret (v := .tuple #[zJ, .bool false]) (by simp [results, Tryd.results17, go_sem, zJ, hv.c0, hv.c1, hv.c2, hv.c3, hv.c4, hv.c5]) rfl ?_
      exact ⟨rfl, ((Frm.of_below HB.out).trans (hfv.mono fun g _ hg => by have : g = w.heap.size + 1 := hg; omega)).below (Nat.le_refl _)⟩
    have g0 : decide ((i : Int) < (m : Int)) = true := by simp; omega
    have hkn2 : i < m := by omega
    have hkk : i < ks.length := by have := HKM.out; omega
    have c5 := HO.out.c5; have c4 := HO.out.c4
    obtain ⟨b2, o2, c2, hv2, hF2, hbl2, hc2⟩ := HKRow.out.key HKM.out.symm hkn2
    simp only [Value.slice.injEq] at hv2
    obtain ⟨rfl, hvn, rfl⟩ := hv2
    clear hvn
    have kc0 : wr.cell? ⟨b2, o2 + i, none⟩ = some (.string ks[i]) := by rw [← hc2 i hkk]; exact World.cell?_of_block (HB.out.block b2 hbl2)
    have gq : (ks[i].toList == key.toList) = false := by
      have hn := hne i hkk 
      rw [beq_eq_false_iff_ne]; intro e; rw [ByteArray.toList_eq, ByteArray.toList_eq] at e; exact hn (ByteArray.ext (Array.toList_inj.1 e))
    go_wp2
    go_roundg g
    case rel => exact ⟨i + 1, by first | rfl | (congr 1), by omega, by omega, rfl⟩
    case measure => omega
end Go.Proofs.YtcobadgpelhcoaaDoor
