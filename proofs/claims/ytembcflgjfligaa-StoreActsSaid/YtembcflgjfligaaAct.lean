/- act of the law: one call of both stores. -/
import Derived.Test.YtembcflgjfligaaHalf
import Derived.Deep.RegionHeld3
import Derived.BigQuiet
namespace Go.Proofs.Ytembcflgjfligaa
set_option linter.unusedVariables false
open Go.Conc Go.RowKit

/-- Both did one and the same. -/
def Acted (w : World) (F : Nat → Prop) (b rb : Nat) (st : St) (e : Ending) (w' : World) : Prop :=
  e = .returned (.bool true) ∧ ∃ st', Step st st' ∧ Half w' (Up F w) b rb st' st' ∧ Frm (Up F w) w w'

/-- At the beginning: the act lies in a block of its own. -/
theorem boxed {w : World} {F : Nat → Prop} {b rb : Nat} {st : St} (h : Half w F b rb st st) (cs : Array Value) :
    ∃ E : Nat → Prop, Half (w.alloc (.cells cs 36)) E b rb st st ∧ (∀ k, E k → F k) ∧ ¬ E w.heap.size := by
  have h1 := (Half.bounded h).new (w' := w.alloc (.cells cs 36)) ((Below.refl _ w).alloc (Nat.le_refl _) _)
  exact ⟨_, h1, fun k hk => hk.1, fun hk => by omega⟩

theorem acted_end {w w1 w2 v2 w3 : World} {E F : Nat → Prop} {b rb : Nat} {st st' : St} (hEF : ∀ k, E k → F k) (b1 : Below w.heap.size w w1) (f2 : Frm (Up E w1) w1 w2) (bd : Below w2.heap.size w2 v2)
    (h3 : Half w3 (Up (Up E w1) v2) b rb st' st') (f3 : Frm (Up (Up E w1) v2) v2 w3) (hst : Step st st') : Acted w F b rb st (.returned (.bool true)) w3 := by
  have z1 := b1.size
  have z2 := f2.size
  have zd := bd.size
  have hup : ∀ k, Up (Up E w1) v2 k → Up F w k := by
    rintro k ((hu | hu) | hu)
    · exact .inl (hEF k hu)
    · exact .inr (by omega)
    · exact .inr (by omega)
  refine ⟨rfl, st', hst, h3.mono fun k _ hk => hup k hk, ?_⟩
  have e1 : Frm (Up F w) w w1 := Frm.of_new b1 _
  have e2 : Frm (Up F w) w1 w2 := f2.mono fun k _ hk => hup k (.inl hk)
  have e3 : Frm (Up F w) w2 v2 := Frm.of_new bd _
  exact ((e1.trans e2).trans e3).trans (f3.mono fun k _ hk => hup k hk)

section
variable {F : Nat → Prop} (b rb : Nat) (kind n : Int) (key dat : ByteArray) (w : World) (st : St)
set_option maxHeartbeats 4000000 in
set_option maxRecDepth 100000 in
theorem act_put (h : Half w F b rb st st) (hs : Rises (st.os.map Ob.key)) (hk : key.size ≤ 9223372036854775807) (hd : dat.size ≤ 9223372036854775807) (hn : n ≤ 9223372036854775807) (hc : st.calls + 1 ≤ 9223372036854775807) (hkind : kind < 4) :
    Calls Try.prog 10 #[.pointer (some ⟨b, 0, none⟩), .pointer (some ⟨rb, 0, none⟩), .agg #[.int .i64 kind, .string key, .string dat, .int .i64 n]] w (Acted w F b rb st) := by
  obtain ⟨E, hE, hEF, hEn⟩ := boxed h #[.int .i64 kind, .string key, .string dat, .int .i64 n]
  obtain ⟨w1, hw1⟩ : ∃ w1, w1 = w.alloc (.cells #[.int .i64 kind, .string key, .string dat, .int .i64 n] 36) := ⟨_, rfl⟩
  rw [← hw1] at hE
  have hblk : w1.heap[w.heap.size]? = some (.cells #[.int .i64 kind, .string key, .string dat, .int .i64 n] 36 (0, 0)) := by rw [hw1]; exact heap_alloc_new w _
  have hz1 : w1.heap.size = w.heap.size + 1 := by rw [hw1]; simp
  have b1 : Below w.heap.size w w1 := by rw [hw1]; exact (Below.refl _ w).alloc (Nat.le_refl _) _
  obtain ⟨c, st', hst, hp, hr⟩ := put_both key dat n st hs hk hd hE.owed.1 hE.owed.2.1 hc
  obtain ⟨F1, hS, hN, hgo⟩ := hE.one
  have T := Lib.hid (hp F1 b w1 hS hN)
  have HGo := Lib.hid hgo
  have HR := Lib.hid hr
  have HSt := Lib.hid hst
  have hcells : ∀ v : World, v.heap[w.heap.size]? = w1.heap[w.heap.size]? → v.cell? ⟨w.heap.size, 0, none⟩ = some (.int .i64 kind) ∧ v.cell? ⟨w.heap.size, 1, none⟩ = some (.string key) ∧ v.cell? ⟨w.heap.size, 2, none⟩ = some (.string dat) ∧ v.cell? ⟨w.heap.size, 3, none⟩ = some (.int .i64 n) := fun v hv => by
    have hv' := hv.trans hblk
    exact ⟨by rw [cell_of_row v _ 0 _ _ _ hv']; rfl, by rw [cell_of_row v _ 1 _ _ _ hv']; rfl, by rw [cell_of_row v _ 2 _ _ _ hv']; rfl, by rw [cell_of_row v _ 3 _ _ _ hv']; rfl⟩
  have HC := Lib.hid hcells
  obtain ⟨q0, q1, q2, q3⟩ := hcells w1 rfl
  have HEn := Lib.hid hEn
  have HEF := Lib.hid hEF
  have B1 := Lib.hid b1
  clear h hE hp hgo hr hst hcells hS hN hblk hEn hEF b1
  go_enter Try.func10, Try.ntmps10
  rw [hw1] at q0 q1 q2 q3
  have HW1 := Lib.hid hw1
  clear hw1
  go_wp2_with (go_at_call 15; rw [← HW1.out]; refine (T.out).mono ?_; rintro e w2 ⟨rfl, s2, f2⟩; have P2 := Lib.hid (HGo.out w2 st' s2 f2); clear s2 f2)
  obtain ⟨hh2, hf2⟩ := P2.out
  have hk2 : w2.heap[w.heap.size]? = w1.heap[w.heap.size]? := hf2.block _ (by omega) (fun hu => by rcases hu with hu | hu; exact HEn.out hu; omega)
  obtain ⟨p0, p1, p2, p3⟩ := HC.out w2 hk2
  have hd2 : Half w2.drew (Up E w1) b rb st' st := hh2.new (Below.refl _ w2).drew
  obtain ⟨G1, hR1, hN1, hgo1⟩ := hd2.two
  have TR := Lib.hid (HR.out G1 rb w2.drew hR1 hN1)
  have HGo1 := Lib.hid hgo1
  have HF2 := Lib.hid hf2
  have hzd : w.heap.size < w2.drew.heap.size := by have := hf2.size; show w.heap.size < w2.heap.size; omega
  have HNu : Hid (¬ Up (Up E w1) w2.drew w.heap.size) := by
    rintro ((hu | hu) | hu)
    · exact HEn.out hu
    · omega
    · omega
  have HK2 := Lib.hid hk2
  clear hh2 hf2 hd2 hR1 hN1 hgo1 hk2
  go_region_held3 (fun w' => w'.cell? ⟨w.heap.size, 1, none⟩ = some (.string key) ∧ w'.cell? ⟨w.heap.size, 2, none⟩ = some (.string dat) ∧ w'.cell? ⟨w.heap.size, 3, none⟩ = some (.int .i64 n)) (go_keep)
    (first | (go_at_call 6; refine (num_any _ _).mono ?_; rintro e w' ⟨rfl, rfl⟩) | (go_at_call 23; refine (TR.out).mono ?_; rintro e w3 ⟨rfl, r3, f3⟩; have P3 := Lib.hid (HGo1.out w3 st' r3 f3); clear r3 f3; have hk3 := (P3.out.2.block w.heap.size hzd HNu.out).trans HK2.out; obtain ⟨r0, r1, r2, r3⟩ := HC.out w3 hk3; clear hk3))
  go_wp2
  go_ret
  exact acted_end HEF.out B1.out HF2.out (Below.refl _ w2).drew P3.out.1 P3.out.2 HSt.out

set_option maxHeartbeats 4000000 in
set_option maxRecDepth 100000 in
theorem act_del (h : Half w F b rb st st) (hs : Rises (st.os.map Ob.key)) (hk : key.size ≤ 9223372036854775807) (hd : dat.size ≤ 9223372036854775807) (hn : n ≤ 9223372036854775807) (hc : st.calls + 1 ≤ 9223372036854775807) (hk4 : ¬ kind < 4) (hk6 : ¬ kind < 6) (hk7 : ¬ kind = 6) (hk9 : kind < 9) :
    Calls Try.prog 10 #[.pointer (some ⟨b, 0, none⟩), .pointer (some ⟨rb, 0, none⟩), .agg #[.int .i64 kind, .string key, .string dat, .int .i64 n]] w (Acted w F b rb st) := by
  obtain ⟨E, hE, hEF, hEn⟩ := boxed h #[.int .i64 kind, .string key, .string dat, .int .i64 n]
  obtain ⟨w1, hw1⟩ : ∃ w1, w1 = w.alloc (.cells #[.int .i64 kind, .string key, .string dat, .int .i64 n] 36) := ⟨_, rfl⟩
  rw [← hw1] at hE
  have hblk : w1.heap[w.heap.size]? = some (.cells #[.int .i64 kind, .string key, .string dat, .int .i64 n] 36 (0, 0)) := by rw [hw1]; exact heap_alloc_new w _
  have hz1 : w1.heap.size = w.heap.size + 1 := by rw [hw1]; simp
  have b1 : Below w.heap.size w w1 := by rw [hw1]; exact (Below.refl _ w).alloc (Nat.le_refl _) _
  obtain ⟨c, st', hst, hp, hr⟩ := del_both key st hs hk hE.owed.1 hE.owed.2.1 hc
  obtain ⟨F1, hS, hN, hgo⟩ := hE.one
  have T := Lib.hid (hp F1 b w1 hS hN)
  have HGo := Lib.hid hgo
  have HR := Lib.hid hr
  have HSt := Lib.hid hst
  have hcells : ∀ v : World, v.heap[w.heap.size]? = w1.heap[w.heap.size]? → v.cell? ⟨w.heap.size, 0, none⟩ = some (.int .i64 kind) ∧ v.cell? ⟨w.heap.size, 1, none⟩ = some (.string key) ∧ v.cell? ⟨w.heap.size, 2, none⟩ = some (.string dat) ∧ v.cell? ⟨w.heap.size, 3, none⟩ = some (.int .i64 n) := fun v hv => by
    have hv' := hv.trans hblk
    exact ⟨by rw [cell_of_row v _ 0 _ _ _ hv']; rfl, by rw [cell_of_row v _ 1 _ _ _ hv']; rfl, by rw [cell_of_row v _ 2 _ _ _ hv']; rfl, by rw [cell_of_row v _ 3 _ _ _ hv']; rfl⟩
  have HC := Lib.hid hcells
  obtain ⟨q0, q1, q2, q3⟩ := hcells w1 rfl
  have HEn := Lib.hid hEn
  have HEF := Lib.hid hEF
  have B1 := Lib.hid b1
  clear h hE hp hgo hr hst hcells hS hN hblk hEn hEF b1
  go_enter Try.func10, Try.ntmps10
  rw [hw1] at q0 q1 q2 q3
  have HW1 := Lib.hid hw1
  clear hw1
  go_wp2_with (go_at_call 19; rw [← HW1.out]; refine (T.out).mono ?_; rintro e w2 ⟨rfl, s2, f2⟩; have P2 := Lib.hid (HGo.out w2 st' s2 f2); clear s2 f2)
  obtain ⟨hh2, hf2⟩ := P2.out
  have hk2 : w2.heap[w.heap.size]? = w1.heap[w.heap.size]? := hf2.block _ (by omega) (fun hu => by rcases hu with hu | hu; exact HEn.out hu; omega)
  obtain ⟨p0, p1, p2, p3⟩ := HC.out w2 hk2
  have hd2 : Half w2.drew (Up E w1) b rb st' st := hh2.new (Below.refl _ w2).drew
  obtain ⟨G1, hR1, hN1, hgo1⟩ := hd2.two
  have TR := Lib.hid (HR.out G1 rb w2.drew hR1 hN1)
  have HGo1 := Lib.hid hgo1
  have HF2 := Lib.hid hf2
  have hzd : w.heap.size < w2.drew.heap.size := by have := hf2.size; show w.heap.size < w2.heap.size; omega
  have HNu : Hid (¬ Up (Up E w1) w2.drew w.heap.size) := by
    rintro ((hu | hu) | hu)
    · exact HEn.out hu
    · omega
    · omega
  have HK2 := Lib.hid hk2
  clear hh2 hf2 hd2 hR1 hN1 hgo1 hk2
  go_region_held3 (fun w' => w'.cell? ⟨w.heap.size, 1, none⟩ = some (.string key) ∧ w'.cell? ⟨w.heap.size, 2, none⟩ = some (.string dat) ∧ w'.cell? ⟨w.heap.size, 3, none⟩ = some (.int .i64 n)) (go_keep)
    (first | (go_at_call 6; refine (num_any _ _).mono ?_; rintro e w' ⟨rfl, rfl⟩) | (go_at_call 26; refine (TR.out).mono ?_; rintro e w3 ⟨rfl, r3, f3⟩; have P3 := Lib.hid (HGo1.out w3 st' r3 f3); clear r3 f3; have hk3 := (P3.out.2.block w.heap.size hzd HNu.out).trans HK2.out; obtain ⟨r0, r1, r2, r3⟩ := HC.out w3 hk3; clear hk3))
  go_wp2
  go_ret
  exact acted_end HEF.out B1.out HF2.out (Below.refl _ w2).drew P3.out.1 P3.out.2 HSt.out

set_option maxHeartbeats 4000000 in
set_option maxRecDepth 100000 in
theorem act_fail (h : Half w F b rb st st) (hs : Rises (st.os.map Ob.key)) (hk : key.size ≤ 9223372036854775807) (hd : dat.size ≤ 9223372036854775807) (hn : n ≤ 9223372036854775807) (hc : st.calls + 1 ≤ 9223372036854775807) (hk4 : ¬ kind < 4) (hk6 : ¬ kind < 6) (hk7 : ¬ kind = 6) (hk9 : ¬ kind < 9) :
    Calls Try.prog 10 #[.pointer (some ⟨b, 0, none⟩), .pointer (some ⟨rb, 0, none⟩), .agg #[.int .i64 kind, .string key, .string dat, .int .i64 n]] w (Acted w F b rb st) := by
  obtain ⟨E, hE, hEF, hEn⟩ := boxed h #[.int .i64 kind, .string key, .string dat, .int .i64 n]
  obtain ⟨w1, hw1⟩ : ∃ w1, w1 = w.alloc (.cells #[.int .i64 kind, .string key, .string dat, .int .i64 n] 36) := ⟨_, rfl⟩
  rw [← hw1] at hE
  have hblk : w1.heap[w.heap.size]? = some (.cells #[.int .i64 kind, .string key, .string dat, .int .i64 n] 36 (0, 0)) := by rw [hw1]; exact heap_alloc_new w _
  have hz1 : w1.heap.size = w.heap.size + 1 := by rw [hw1]; simp
  have b1 : Below w.heap.size w w1 := by rw [hw1]; exact (Below.refl _ w).alloc (Nat.le_refl _) _
  obtain ⟨c, st', hst, hp, hr⟩ := fail_both n st hs hn
  obtain ⟨F1, hS, hN, hgo⟩ := hE.one
  have T := Lib.hid (hp F1 b w1 hS hN)
  have HGo := Lib.hid hgo
  have HR := Lib.hid hr
  have HSt := Lib.hid hst
  have hcells : ∀ v : World, v.heap[w.heap.size]? = w1.heap[w.heap.size]? → v.cell? ⟨w.heap.size, 0, none⟩ = some (.int .i64 kind) ∧ v.cell? ⟨w.heap.size, 1, none⟩ = some (.string key) ∧ v.cell? ⟨w.heap.size, 2, none⟩ = some (.string dat) ∧ v.cell? ⟨w.heap.size, 3, none⟩ = some (.int .i64 n) := fun v hv => by
    have hv' := hv.trans hblk
    exact ⟨by rw [cell_of_row v _ 0 _ _ _ hv']; rfl, by rw [cell_of_row v _ 1 _ _ _ hv']; rfl, by rw [cell_of_row v _ 2 _ _ _ hv']; rfl, by rw [cell_of_row v _ 3 _ _ _ hv']; rfl⟩
  have HC := Lib.hid hcells
  obtain ⟨q0, q1, q2, q3⟩ := hcells w1 rfl
  have HEn := Lib.hid hEn
  have HEF := Lib.hid hEF
  have B1 := Lib.hid b1
  clear h hE hp hgo hr hst hcells hS hN hblk hEn hEF b1
  go_enter Try.func10, Try.ntmps10
  rw [hw1] at q0 q1 q2 q3
  have HW1 := Lib.hid hw1
  clear hw1
  go_wp2_with (go_at_call 18; rw [← HW1.out]; refine (T.out).mono ?_; rintro e w2 ⟨rfl, s2, f2⟩; have P2 := Lib.hid (HGo.out w2 st' s2 f2); clear s2 f2)
  obtain ⟨hh2, hf2⟩ := P2.out
  have hk2 : w2.heap[w.heap.size]? = w1.heap[w.heap.size]? := hf2.block _ (by omega) (fun hu => by rcases hu with hu | hu; exact HEn.out hu; omega)
  obtain ⟨p0, p1, p2, p3⟩ := HC.out w2 hk2
  have hd2 : Half w2.drew (Up E w1) b rb st' st := hh2.new (Below.refl _ w2).drew
  obtain ⟨G1, hR1, hN1, hgo1⟩ := hd2.two
  have TR := Lib.hid (HR.out G1 rb w2.drew hR1 hN1)
  have HGo1 := Lib.hid hgo1
  have HF2 := Lib.hid hf2
  have hzd : w.heap.size < w2.drew.heap.size := by have := hf2.size; show w.heap.size < w2.heap.size; omega
  have HNu : Hid (¬ Up (Up E w1) w2.drew w.heap.size) := by
    rintro ((hu | hu) | hu)
    · exact HEn.out hu
    · omega
    · omega
  have HK2 := Lib.hid hk2
  clear hh2 hf2 hd2 hR1 hN1 hgo1 hk2
  go_region_held3 (fun w' => w'.cell? ⟨w.heap.size, 1, none⟩ = some (.string key) ∧ w'.cell? ⟨w.heap.size, 2, none⟩ = some (.string dat) ∧ w'.cell? ⟨w.heap.size, 3, none⟩ = some (.int .i64 n)) (go_keep)
    (first | (go_at_call 6; refine (num_any _ _).mono ?_; rintro e w' ⟨rfl, rfl⟩) | (go_at_call 27; refine (TR.out).mono ?_; rintro e w3 ⟨rfl, r3, f3⟩; have P3 := Lib.hid (HGo1.out w3 st' r3 f3); clear r3 f3; have hk3 := (P3.out.2.block w.heap.size hzd HNu.out).trans HK2.out; obtain ⟨r0, r1, r2, r3⟩ := HC.out w3 hk3; clear hk3))
  go_wp2
  go_ret
  exact acted_end HEF.out B1.out HF2.out (Below.refl _ w2).drew P3.out.1 P3.out.2 HSt.out

set_option maxHeartbeats 4000000 in
set_option maxRecDepth 100000 in
theorem act_get (h : Half w F b rb st st) (hs : Rises (st.os.map Ob.key)) (hk : key.size ≤ 9223372036854775807) (hd : dat.size ≤ 9223372036854775807) (hn : n ≤ 9223372036854775807) (hc : st.calls + 1 ≤ 9223372036854775807) (hk4 : ¬ kind < 4) (hk6 : kind < 6) :
    Calls Try.prog 10 #[.pointer (some ⟨b, 0, none⟩), .pointer (some ⟨rb, 0, none⟩), .agg #[.int .i64 kind, .string key, .string dat, .int .i64 n]] w (Acted w F b rb st) := by
  obtain ⟨E, hE, hEF, hEn⟩ := boxed h #[.int .i64 kind, .string key, .string dat, .int .i64 n]
  obtain ⟨w1, hw1⟩ : ∃ w1, w1 = w.alloc (.cells #[.int .i64 kind, .string key, .string dat, .int .i64 n] 36) := ⟨_, rfl⟩
  rw [← hw1] at hE
  have hblk : w1.heap[w.heap.size]? = some (.cells #[.int .i64 kind, .string key, .string dat, .int .i64 n] 36 (0, 0)) := by rw [hw1]; exact heap_alloc_new w _
  have hz1 : w1.heap.size = w.heap.size + 1 := by rw [hw1]; simp
  have b1 : Below w.heap.size w w1 := by rw [hw1]; exact (Below.refl _ w).alloc (Nat.le_refl _) _
  obtain ⟨val, c, st', hst, hp, hr⟩ := get_both key st hs hk hE.owed.1 hE.owed.2.1 hc
  obtain ⟨F1, hS, hN, hgo⟩ := hE.one
  have T := Lib.hid (hp F1 b w1 hS hN)
  have HGo := Lib.hid hgo
  have HR := Lib.hid hr
  have HSt := Lib.hid hst
  have hcells : ∀ v : World, v.heap[w.heap.size]? = w1.heap[w.heap.size]? → v.cell? ⟨w.heap.size, 0, none⟩ = some (.int .i64 kind) ∧ v.cell? ⟨w.heap.size, 1, none⟩ = some (.string key) ∧ v.cell? ⟨w.heap.size, 2, none⟩ = some (.string dat) ∧ v.cell? ⟨w.heap.size, 3, none⟩ = some (.int .i64 n) := fun v hv => by
    have hv' := hv.trans hblk
    exact ⟨by rw [cell_of_row v _ 0 _ _ _ hv']; rfl, by rw [cell_of_row v _ 1 _ _ _ hv']; rfl, by rw [cell_of_row v _ 2 _ _ _ hv']; rfl, by rw [cell_of_row v _ 3 _ _ _ hv']; rfl⟩
  have HC := Lib.hid hcells
  obtain ⟨q0, q1, q2, q3⟩ := hcells w1 rfl
  have HEn := Lib.hid hEn
  have HEF := Lib.hid hEF
  have B1 := Lib.hid b1
  clear h hE hp hgo hr hst hcells hS hN hblk hEn hEF b1
  go_enter Try.func10, Try.ntmps10
  rw [hw1] at q0 q1 q2 q3
  have HW1 := Lib.hid hw1
  clear hw1
  go_wp2_with (first
    | (go_at_call 16; rw [← HW1.out]; refine (T.out).mono ?_; rintro e w2 ⟨rfl, s2, f2⟩; obtain ⟨hh2, hf2⟩ := HGo.out w2 st' s2 f2; have hk2 : w2.heap[w.heap.size]? = w1.heap[w.heap.size]? := hf2.block _ (by omega) (fun hu => by rcases hu with hu | hu; exact HEn.out hu; omega); obtain ⟨p0, p1, p2, p3⟩ := HC.out w2 hk2; obtain ⟨G1, hR1, hN1, hgo1⟩ := hh2.two; have TR := Lib.hid (HR.out G1 rb w2 hR1 hN1); have HGo1 := Lib.hid hgo1; have HF2 := Lib.hid hf2; clear s2 f2 hh2 hf2 hk2 hR1 hN1 hgo1)
    | (go_at_call 24; refine (TR.out).mono ?_; rintro e w3 ⟨rfl, r3, f3⟩; have P3 := Lib.hid (HGo1.out w3 st' r3 f3); clear r3 f3)
    | (go_at_call 6; refine (num_any _ _).mono ?_; rintro e w' ⟨rfl, rfl⟩))
  go_ret
  exact acted_end HEF.out B1.out HF2.out (Below.refl _ w2) P3.out.1 P3.out.2 HSt.out

end
end Go.Proofs.Ytembcflgjfligaa
