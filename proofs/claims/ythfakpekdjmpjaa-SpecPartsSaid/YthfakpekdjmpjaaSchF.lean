/- The program's schemas: what all changes share; Add, Drop, Rename. -/
import Derived.Test.YthfakpekdjmpjaaSchE
namespace Go.Proofs.Ythfakpekdjmpjaa
open Go.Conc Go.RowKit
set_option linter.unusedVariables false
set_option linter.unusedSimpArgs false

/-- What a call that answers a schema and an error's number answers. -/
def ScPost (w : World) (r : Sc × Int) (e : Ending) (w' : World) : Prop := ∃ a' c', e = .returned (.tuple #[.agg #[.int .i64 r.1.id, .slice a' r.1.cs.length c', .int .i64 r.1.next], .int .i64 r.2]) ∧ OwnCo w.heap.size w' a' c' r.1.cs ∧ Below w.heap.size w w'
def CutC (u wx : World) (r : Sc × Int) (p v : Value) : Prop := ∃ g6 a' c', p = .pointer (some ⟨g6, 0, none⟩) ∧ v = .int .i64 r.2 ∧ ScSlot wx g6 a' c' r.1 ∧ u.heap.size ≤ g6 ∧ OwnCo u.heap.size wx a' c' r.1.cs ∧ Below u.heap.size u wx
theorem may_names {s : Sc} (h : maySc s = true) : ∀ o ∈ s.cs, o.nm.size ≤ 281474976710656 := fun o ho => by
  have h1 := ((okCol_iff _ _).1 (((may_iff s).1 h).2.1 o ho)).2.2.1
  unfold nameB at h1
  simp only [Bool.and_eq_true, decide_eq_true_eq] at h1
  have := h1.2.1
  omega
theorem own_max {base c : Nat} {w : World} {a : Option Addr} {cs : List Co} (h : OwnCo base w a c cs) : cs.length ≤ maxLen := by
  rcases h.2 with ⟨_, h0⟩ | ⟨g, cp, cur, hv, _, _, hn, hm, _⟩
  · rw [h0]; exact Nat.zero_le _
  · exact Nat.le_trans hn hm
theorem own_nil {base c : Nat} {w : World} {a : Option Addr} {cs : List Co} (h : OwnCo base w a c cs) : a = none → cs.length = 0 ∧ c = 0 := fun e => by
  rcases h.block with ⟨_, h2, h3⟩ | ⟨g, h1, _⟩
  · rw [h3]; exact ⟨rfl, h2⟩
  · rw [e] at h1; cases h1
theorem ch_below {w u v w' : World} (h1 : Below w.heap.size w u) (h2 : Below u.heap.size u v) (h3 : Frm (fun j => j = w.heap.size + 1) v w') : Below w.heap.size w w' :=
  Frm.to_below (h1.trans (h2.mono h1.size)) h3 (fun k e => by omega) (Nat.le_refl _)
theorem addP_id (s : Sc) (nm : ByteArray) (k : Int) (h : (addP s nm k).2 = 0) : (addP s nm k).1.id = s.id := by
  unfold addP at h ⊢
  split
  · rename_i c; rw [if_pos c] at h; cases h
  · rename_i c
    rw [if_neg c] at h
    split
    · rename_i c2; rw [if_pos c2] at h; cases h
    · rename_i c2
      rw [if_neg c2] at h
      split
      · rename_i c3; rw [if_pos c3] at h; cases h
      · rfl
theorem dropP_id (s : Sc) (nm : ByteArray) (h : (dropP s nm).2 = 0) : (dropP s nm).1.id = s.id := by
  unfold dropP at h ⊢
  split
  · rename_i c; rw [if_pos c] at h; cases h
  · rename_i c
    rw [if_neg c] at h
    split
    · rename_i c2; rw [if_pos c2] at h; cases h
    · rfl
theorem renP_id (s : Sc) (nm to : ByteArray) (h : (renP s nm to).2 = 0) : (renP s nm to).1.id = s.id := by
  unfold renP at h ⊢
  split
  · rename_i c; rw [if_pos c] at h; cases h
  · rename_i c
    rw [if_neg c] at h
    split
    · rename_i c2; rw [if_pos c2] at h; cases h
    · rfl
set_option maxRecDepth 100000 in
set_option maxHeartbeats 4000000 in
theorem schchanged_add (w : World) (a : Option Addr) (c : Nat) (s : Sc) (nb kb : Nat) (nm : ByteArray) (k : Int) (ha : IsCo w a s.cs) (hn : a = none → s.cs.length = 0 ∧ c = 0) (hcap : s.cs.length ≤ c) (hl : s.cs.length ≤ maxLen) (hpn : w.cell? ⟨nb, 0, none⟩ = some (.string nm)) (hpk : w.cell? ⟨kb, 0, none⟩ = some (.int .i64 k)) :
    Calls Try.prog 50 #[.agg #[.int .i64 s.id, .slice a s.cs.length c, .int .i64 s.next], .func (.func 51) #[] #[.pointer (some ⟨nb, 0, none⟩), .pointer (some ⟨kb, 0, none⟩)]] w (ScPost w (changedA s (addP s nm k))) := by
  obtain ⟨R, hR⟩ : ∃ R, R = changedA s (addP s nm k) := ⟨_, rfl⟩
  rw [← hR]
  obtain ⟨u, hu⟩ : ∃ u, u = (w.alloc (.cells #[.int .i64 s.id, .slice a s.cs.length c, .int .i64 s.next] 24)).alloc (.cells #[.int .i64 0, .slice none 0 0, .int .i64 0] 24) := ⟨_, rfl⟩
  have hsz : (w.alloc (.cells #[.int .i64 s.id, .slice a s.cs.length c, .int .i64 s.next] 24)).heap.size = w.heap.size + 1 := by simp
  have hbu : Below w.heap.size w u := by rw [hu]; exact ((Below.refl _ _).alloc (Nat.le_refl _) _).alloc (by simp) _
  have HS := Lib.hid (show ScSlot u w.heap.size a c s by rw [hu]; exact (ScSlot.new w a c s).same (Below.heap_alloc _ _ _ (by simp)))
  have HR := Lib.hid (show ScSlot u (w.heap.size + 1) none 0 zeroSc by rw [hu, ← hsz]; exact ScSlot.new _ none 0 zeroSc)
  have HB := Lib.hid hbu
  have HA := Lib.hid (ha.below hbu)
  have HNL := Lib.hid hn
  have HPN : Hid (∀ v, Below u.heap.size u v → v.cell? ⟨nb, 0, none⟩ = some (.string nm) ∧ v.cell? ⟨kb, 0, none⟩ = some (.int .i64 k)) := fun v hv =>
    ⟨(World.cell?_of_block ((hbu.trans (hv.mono hbu.size)).block nb (World.block_lt_of_cell? w ⟨nb, 0, none⟩ hpn))).trans hpn, (World.cell?_of_block ((hbu.trans (hv.mono hbu.size)).block kb (World.block_lt_of_cell? w ⟨kb, 0, none⟩ hpk))).trans hpk⟩
  have TM := Lib.hid (schmay_any u a c s HA.out hl hcap)
  obtain ⟨b0, b1, b2⟩ := HS.out.at
  have HE : Hid (Below u.heap.size u u) := Below.refl _ _
  have hid := addP_id s nm k
  have HC : Hid (∀ v, maySc s = true → ∀ a1 c1, OwnCo u.heap.size v a1 c1 s.cs → Below u.heap.size u v → Calls Try.prog 51 #[.agg #[.int .i64 s.id, .slice a1 s.cs.length c1, .int .i64 s.next], .pointer (some ⟨nb, 0, none⟩), .pointer (some ⟨kb, 0, none⟩)] v (ChPost v u.heap.size a1 (addP s nm k))) := fun v hm a1 c1 ho hv => by
    have hm2 := ((may_iff s).1 hm).1
    have hnx := next_pos hm
    exact schaddc_any v u.heap.size a1 c1 s nb kb nm k ho hv.size (by omega) (by omega) (HPN.out v hv).1 (HPN.out v hv).2
  generalize addP s nm k = r at *
  clear hbu hsz ha hn hcap hl hpn hpk
  unfold changedA at hR
  have HRR := Lib.hid hR
  clear hR
  cases hm : maySc s with
  | false =>
    obtain rfl : R = (zeroSc, 1200) := by rw [HRR.out, if_pos hm]
    rw [hm] at TM
    clear hm hid HRR
    go_enter Try.func50, Try.ntmps50
    go_upto_region 1 with fail
    change Code.wp _ _ _ _ ((w.alloc (.cells #[.int .i64 s.id, .slice a s.cs.length c, .int .i64 s.next] 24)).alloc (.cells #[.int .i64 0, .slice none 0 0, .int .i64 0] 24))
    rw [← hu]
    clear hu
    go_upto_region 2 with (go_at_call 20; refine TM.out.mono ?_; rintro e w2 ⟨rfl, hb2⟩; have HB2 := Lib.hid hb2; clear hb2)
    clear b0 b1 b2
    obtain ⟨z0, z1, z2⟩ := (HR.out.below HB2.out).at
    obtain ⟨y0, y1, y2⟩ := (HR.out.below HB2.out).froz
    simp only [zeroSc] at z0 z1 z2
    go_wp2
    change bodyPost _ _ _ _ _ (putSc w2 (w.heap.size + 1) none 0 zeroSc)
    have hp := (HR.out.below HB2.out).put none 0 zeroSc
    have hpf := putSc_frm (g := w.heap.size + 1) (F := fun j => j = w.heap.size + 1) rfl w2 none 0 zeroSc
    generalize putSc w2 (w.heap.size + 1) none 0 zeroSc = w99 at *
    obtain ⟨b0, b1, b2⟩ := hp.at
    simp only [zeroSc] at b0 b1 b2
    clear z0 z1 z2 y0 y1 y2
    refine bodyPost_ret (v := .tuple #[.agg #[.int .i64 0, .slice none 0 0, .int .i64 0], .int .i64 1200]) (by simp [results, Try.results50, go_sem, b0, b1, b2]) rfl ?_
    exact ⟨none, 0, rfl, OwnCo.nil _ _, ch_below HB.out HB2.out hpf⟩
  | true =>
    have HM := Lib.hid hm
    rw [hm] at TM
    have hmi := ((may_iff s).1 hm).1
    have TO := Lib.hid (fun (v : World) (hv : Below u.heap.size u v) => schowned_any v a c s (HA.out.below hv) HNL.out (by omega) (may_names hm))
    have TC := Lib.hid (fun (v : World) => HC.out v hm)
    have HMI := Lib.hid hmi
    have HID := Lib.hid hid
    clear hm hmi hid HC
    go_enter Try.func50, Try.ntmps50
    go_upto_region 1 with fail
    change Code.wp _ _ _ _ ((w.alloc (.cells #[.int .i64 s.id, .slice a s.cs.length c, .int .i64 s.next] 24)).alloc (.cells #[.int .i64 0, .slice none 0 0, .int .i64 0] 24))
    rw [← hu]
    clear hu
    go_upto_region 3 with (go_at_call 20; refine TM.out.mono ?_; rintro e w2 ⟨rfl, hb2⟩; have HB2 := Lib.hid hb2; clear hb2)
    clear b0 b1 b2 TM
    obtain ⟨b0, b1, b2⟩ := (HS.out.below HB2.out).at
    go_upto_region 4 with (first
      | (go_at_call 65; refine (TO.out w2 HB2.out).mono ?_; rintro e w3 ⟨a1, c1, rfl, ho, hb⟩; have HO3 := Lib.hid (show OwnCo u.heap.size w3 a1 c1 s.cs from ho.lower HB2.out.size); have HB3 := Lib.hid (HB2.out.trans (hb.mono HB2.out.size)); clear ho hb)
      | (go_at_call 51; refine (TC.out w3 a1 c1 HO3.out HB3.out).mono ?_; rintro e w4 ⟨a2, c2, rfl, ho, hf⟩; have HO4 := Lib.hid ho; have HB4 := Lib.hid (Frm.to_below HB3.out hf (fun k hk => (HO3.out.at_ge hk).1) (Nat.le_refl _)); clear ho hf))
    clear b0 b1 b2 HO3 HB3 TC
    obtain ⟨r1, re⟩ := r
    simp only at HO4 HID HRR
    change Code.wp _ _ _ _ (w4.alloc (.cells #[.int .i64 r1.id, .slice a2 r1.cs.length c2, .int .i64 r1.next] 24))
    obtain ⟨w5, hw5⟩ : ∃ w5, w5 = w4.alloc (.cells #[.int .i64 r1.id, .slice a2 r1.cs.length c2, .int .i64 r1.next] 24) := ⟨_, rfl⟩
    have hb5 : Below w4.heap.size w4 w5 := by rw [hw5]; exact (Below.refl _ _).alloc (Nat.le_refl _) _
    have HS5 := Lib.hid (show ScSlot w5 w4.heap.size a2 c2 r1 by rw [hw5]; exact ScSlot.new w4 a2 c2 r1)
    have HO5 := Lib.hid (HO4.out.below hb5)
    have HB5 := Lib.hid (HB4.out.trans (hb5.mono HB4.out.size))
    have HG6 := Lib.hid HB4.out.size
    rw [← hw5]
    clear hw5 hb5 HO4 HB4
    generalize w4.heap.size = g6 at *
    by_cases hE : re = 0
    · subst hE
      have hidr := HID.out rfl
      obtain ⟨e0, e1, e2⟩ := HS5.out.at
      obtain ⟨f0, f1, f2⟩ := HS5.out.froz
      have hwi : wrap64 (r1.id + 1) = r1.id + 1 := by have := HMI.out; unfold wrap64; omega
      clear hidr
      go_upto_region 7 with fail
      obtain ⟨w6, hw6⟩ : ∃ w6, w6 = w5.setCell ⟨g6, 0, none⟩ (.int .i64 (r1.id + 1)) := ⟨_, rfl⟩
      have hf6 : Frm (fun j => j = g6) w5 w6 := by rw [hw6]; exact (Frm.refl (fun j => j = g6) w5).setCell (p := ⟨g6, 0, none⟩) rfl _
      have HS6 := Lib.hid (show ScSlot w6 g6 a2 c2 ⟨r1.id + 1, r1.next, r1.cs⟩ by rw [hw6]; exact HS5.out.setI _)
      have HO6 := Lib.hid (own_off HO5.out HS5.out hf6)
      have HB6 := Lib.hid (Frm.to_below HB5.out hf6 (fun k e => by rw [e]; exact HG6.out) (Nat.le_refl _))
      change Code.wp _ _ _ _ (w5.setCell ⟨g6, 0, none⟩ (.int .i64 (r1.id + 1)))
      rw [← hw6]
      clear hw6 hf6 e0 e1 e2 f0 f1 f2 HS5 HO5 HB5
      obtain ⟨s9, hs9⟩ : ∃ s9 : Sc, s9 = ⟨r1.id + 1, r1.next, r1.cs⟩ := ⟨_, rfl⟩
      have hrr := HRR.out
      rw [if_neg (by rw [HM.out]; simp), if_neg (by simp), ← hs9] at hrr
      have HRS := Lib.hid hrr
      rw [← hs9] at HS6
      clear hrr HRR
      have HO6 : Hid (OwnCo u.heap.size w6 a2 c2 s9.cs) := by rw [hs9]; exact HO6
      have T7 := Lib.hid (schmay_any w6 a2 c2 s9 HO6.out.isX (own_max HO6.out) HO6.out.cap)
      obtain ⟨e0, e1, e2⟩ := HS6.out.at
      clear hs9
      cases hm9 : maySc s9 with
      | false =>
        obtain rfl : R = (zeroSc, 1200) := by rw [HRS.out, if_pos hm9]
        rw [hm9] at T7
        clear hm9 HRS
        go_upto_region 8 with (go_at_call 20; refine T7.out.mono ?_; rintro e w7 ⟨rfl, hb7⟩; have HB7 := Lib.hid (HB6.out.trans (hb7.mono HB6.out.size)); clear hb7)
        clear e0 e1 e2
        obtain ⟨z0, z1, z2⟩ := (HR.out.below HB7.out).at
        obtain ⟨y0, y1, y2⟩ := (HR.out.below HB7.out).froz
        simp only [zeroSc] at z0 z1 z2
        go_wp2
        change bodyPost _ _ _ _ _ (putSc w7 (w.heap.size + 1) none 0 zeroSc)
        have hp := (HR.out.below HB7.out).put none 0 zeroSc
        have hpf := putSc_frm (g := w.heap.size + 1) (F := fun j => j = w.heap.size + 1) rfl w7 none 0 zeroSc
        generalize putSc w7 (w.heap.size + 1) none 0 zeroSc = w99 at *
        obtain ⟨b0, b1, b2⟩ := hp.at
        simp only [zeroSc] at b0 b1 b2
        clear z0 z1 z2 y0 y1 y2
        refine bodyPost_ret (v := .tuple #[.agg #[.int .i64 0, .slice none 0 0, .int .i64 0], .int .i64 1200]) (by simp [results, Try.results50, go_sem, b0, b1, b2]) rfl ?_
        exact ⟨none, 0, rfl, OwnCo.nil _ _, ch_below HB.out HB7.out hpf⟩
      | true =>
        obtain rfl : R = (s9, 0) := by rw [HRS.out, if_neg (by rw [hm9]; simp)]
        rw [hm9] at T7
        have T9 := Lib.hid (fun (v : World) (hv : Below w6.heap.size w6 v) => schowned_any v a2 c2 s9 (HO6.out.isX.below hv) (own_nil HO6.out) (by have := ((may_iff s9).1 hm9).1; omega) (may_names hm9))
        clear hm9 HRS
        go_upto_region 9 with (go_at_call 20; refine T7.out.mono ?_; rintro e w7 ⟨rfl, hb7⟩; have HB7 := Lib.hid (HB6.out.trans (hb7.mono HB6.out.size)); have HX7 := Lib.hid hb7; have HS7 := Lib.hid (HS6.out.below hb7); clear hb7)
        clear e0 e1 e2
        obtain ⟨e0, e1, e2⟩ := HS7.out.at
        go_wp2_with (go_at_call 65; refine (T9.out w7 HX7.out).mono ?_; rintro e w8 ⟨a3, c3, rfl, ho, hb⟩; have HO8 := Lib.hid ho; have HB8 := Lib.hid (HB7.out.trans (hb.mono HB7.out.size)); have hr8 := HR.out.below (HB7.out.trans (hb.mono HB7.out.size)); obtain ⟨z0, z1, z2⟩ := hr8.at; obtain ⟨y0, y1, y2⟩ := hr8.froz; simp only [zeroSc] at z0 z1 z2; have HR8 := Lib.hid hr8; clear ho hb hr8)
        change bodyPost _ _ _ _ _ (putSc w8 (w.heap.size + 1) a3 c3 s9)
        have hp := HR8.out.put a3 c3 s9
        have hpf := putSc_frm (g := w.heap.size + 1) (F := fun j => j = w.heap.size + 1) rfl w8 a3 c3 s9
        generalize putSc w8 (w.heap.size + 1) a3 c3 s9 = w99 at *
        clear z0 z1 z2 y0 y1 y2 e0 e1 e2
        obtain ⟨b0, b1, b2⟩ := hp.at
        refine bodyPost_ret (v := .tuple #[.agg #[.int .i64 s9.id, .slice a3 s9.cs.length c3, .int .i64 s9.next], .int .i64 0]) (by simp [results, Try.results50, go_sem, b0, b1, b2]) rfl ?_
        exact ⟨a3, c3, rfl, (own_off HO8.out HR8.out hpf).lower (by have h1 := HB7.out.size; have h2 := HB.out.size; omega), ch_below HB.out HB8.out hpf⟩
    · have hne : (re != 0) = true := by simpa using hE
      obtain rfl : R = (zeroSc, re) := by rw [HRR.out, if_neg (by rw [HM.out]; simp), if_pos hE]
      clear hE HRR
      go_upto_region 5 with fail
      obtain ⟨z0, z1, z2⟩ := (HR.out.below HB5.out).at
      obtain ⟨y0, y1, y2⟩ := (HR.out.below HB5.out).froz
      simp only [zeroSc] at z0 z1 z2
      go_wp2
      change bodyPost _ _ _ _ _ (putSc w5 (w.heap.size + 1) none 0 zeroSc)
      have hp := (HR.out.below HB5.out).put none 0 zeroSc
      have hpf := putSc_frm (g := w.heap.size + 1) (F := fun j => j = w.heap.size + 1) rfl w5 none 0 zeroSc
      generalize putSc w5 (w.heap.size + 1) none 0 zeroSc = w99 at *
      obtain ⟨b0, b1, b2⟩ := hp.at
      simp only [zeroSc] at b0 b1 b2
      clear z0 z1 z2 y0 y1 y2
      refine bodyPost_ret (v := .tuple #[.agg #[.int .i64 0, .slice none 0 0, .int .i64 0], .int .i64 re]) (by simp [results, Try.results50, go_sem, b0, b1, b2]) rfl ?_
      exact ⟨none, 0, rfl, OwnCo.nil _ _, ch_below HB.out HB5.out hpf⟩
set_option maxRecDepth 100000 in
set_option maxHeartbeats 4000000 in
theorem schchanged_drop (w : World) (a : Option Addr) (c : Nat) (s : Sc) (nb : Nat) (nm : ByteArray) (ha : IsCo w a s.cs) (hn : a = none → s.cs.length = 0 ∧ c = 0) (hcap : s.cs.length ≤ c) (hl : s.cs.length ≤ maxLen) (hpn : w.cell? ⟨nb, 0, none⟩ = some (.string nm)) :
    Calls Try.prog 50 #[.agg #[.int .i64 s.id, .slice a s.cs.length c, .int .i64 s.next], .func (.func 58) #[] #[.pointer (some ⟨nb, 0, none⟩)]] w (ScPost w (changedA s (dropP s nm))) := by
  obtain ⟨R, hR⟩ : ∃ R, R = changedA s (dropP s nm) := ⟨_, rfl⟩
  rw [← hR]
  obtain ⟨u, hu⟩ : ∃ u, u = (w.alloc (.cells #[.int .i64 s.id, .slice a s.cs.length c, .int .i64 s.next] 24)).alloc (.cells #[.int .i64 0, .slice none 0 0, .int .i64 0] 24) := ⟨_, rfl⟩
  have hsz : (w.alloc (.cells #[.int .i64 s.id, .slice a s.cs.length c, .int .i64 s.next] 24)).heap.size = w.heap.size + 1 := by simp
  have hbu : Below w.heap.size w u := by rw [hu]; exact ((Below.refl _ _).alloc (Nat.le_refl _) _).alloc (by simp) _
  have HS := Lib.hid (show ScSlot u w.heap.size a c s by rw [hu]; exact (ScSlot.new w a c s).same (Below.heap_alloc _ _ _ (by simp)))
  have HR := Lib.hid (show ScSlot u (w.heap.size + 1) none 0 zeroSc by rw [hu, ← hsz]; exact ScSlot.new _ none 0 zeroSc)
  have HB := Lib.hid hbu
  have HA := Lib.hid (ha.below hbu)
  have HNL := Lib.hid hn
  have HPN : Hid (∀ v, Below u.heap.size u v → v.cell? ⟨nb, 0, none⟩ = some (.string nm)) := fun v hv =>
    (World.cell?_of_block ((hbu.trans (hv.mono hbu.size)).block nb (World.block_lt_of_cell? w ⟨nb, 0, none⟩ hpn))).trans hpn
  have TM := Lib.hid (schmay_any u a c s HA.out hl hcap)
  obtain ⟨b0, b1, b2⟩ := HS.out.at
  have HE : Hid (Below u.heap.size u u) := Below.refl _ _
  have hid := dropP_id s nm
  have HC : Hid (∀ v, maySc s = true → ∀ a1 c1, OwnCo u.heap.size v a1 c1 s.cs → Below u.heap.size u v → Calls Try.prog 58 #[.agg #[.int .i64 s.id, .slice a1 s.cs.length c1, .int .i64 s.next], .pointer (some ⟨nb, 0, none⟩)] v (ChPost v u.heap.size a1 (dropP s nm))) := fun v hm a1 c1 ho hv => by
    have hm2 := ((may_iff s).1 hm).1
    have hnx := next_pos hm
    exact schdropc_any v u.heap.size a1 c1 s nb nm ho hv.size (by omega) (HPN.out v hv)
  generalize dropP s nm = r at *
  clear hbu hsz ha hn hcap hl hpn
  unfold changedA at hR
  have HRR := Lib.hid hR
  clear hR
  cases hm : maySc s with
  | false =>
    obtain rfl : R = (zeroSc, 1200) := by rw [HRR.out, if_pos hm]
    rw [hm] at TM
    clear hm hid HRR
    go_enter Try.func50, Try.ntmps50
    go_upto_region 1 with fail
    change Code.wp _ _ _ _ ((w.alloc (.cells #[.int .i64 s.id, .slice a s.cs.length c, .int .i64 s.next] 24)).alloc (.cells #[.int .i64 0, .slice none 0 0, .int .i64 0] 24))
    rw [← hu]
    clear hu
    go_upto_region 2 with (go_at_call 20; refine TM.out.mono ?_; rintro e w2 ⟨rfl, hb2⟩; have HB2 := Lib.hid hb2; clear hb2)
    clear b0 b1 b2
    obtain ⟨z0, z1, z2⟩ := (HR.out.below HB2.out).at
    obtain ⟨y0, y1, y2⟩ := (HR.out.below HB2.out).froz
    simp only [zeroSc] at z0 z1 z2
    go_wp2
    change bodyPost _ _ _ _ _ (putSc w2 (w.heap.size + 1) none 0 zeroSc)
    have hp := (HR.out.below HB2.out).put none 0 zeroSc
    have hpf := putSc_frm (g := w.heap.size + 1) (F := fun j => j = w.heap.size + 1) rfl w2 none 0 zeroSc
    generalize putSc w2 (w.heap.size + 1) none 0 zeroSc = w99 at *
    obtain ⟨b0, b1, b2⟩ := hp.at
    simp only [zeroSc] at b0 b1 b2
    clear z0 z1 z2 y0 y1 y2
    refine bodyPost_ret (v := .tuple #[.agg #[.int .i64 0, .slice none 0 0, .int .i64 0], .int .i64 1200]) (by simp [results, Try.results50, go_sem, b0, b1, b2]) rfl ?_
    exact ⟨none, 0, rfl, OwnCo.nil _ _, ch_below HB.out HB2.out hpf⟩
  | true =>
    have HM := Lib.hid hm
    rw [hm] at TM
    have hmi := ((may_iff s).1 hm).1
    have TO := Lib.hid (fun (v : World) (hv : Below u.heap.size u v) => schowned_any v a c s (HA.out.below hv) HNL.out (by omega) (may_names hm))
    have TC := Lib.hid (fun (v : World) => HC.out v hm)
    have HMI := Lib.hid hmi
    have HID := Lib.hid hid
    clear hm hmi hid HC
    go_enter Try.func50, Try.ntmps50
    go_upto_region 1 with fail
    change Code.wp _ _ _ _ ((w.alloc (.cells #[.int .i64 s.id, .slice a s.cs.length c, .int .i64 s.next] 24)).alloc (.cells #[.int .i64 0, .slice none 0 0, .int .i64 0] 24))
    rw [← hu]
    clear hu
    go_upto_region 3 with (go_at_call 20; refine TM.out.mono ?_; rintro e w2 ⟨rfl, hb2⟩; have HB2 := Lib.hid hb2; clear hb2)
    clear b0 b1 b2 TM
    obtain ⟨b0, b1, b2⟩ := (HS.out.below HB2.out).at
    go_upto_region 4 with (first
      | (go_at_call 65; refine (TO.out w2 HB2.out).mono ?_; rintro e w3 ⟨a1, c1, rfl, ho, hb⟩; have HO3 := Lib.hid (show OwnCo u.heap.size w3 a1 c1 s.cs from ho.lower HB2.out.size); have HB3 := Lib.hid (HB2.out.trans (hb.mono HB2.out.size)); clear ho hb)
      | (go_at_call 58; refine (TC.out w3 a1 c1 HO3.out HB3.out).mono ?_; rintro e w4 ⟨a2, c2, rfl, ho, hf⟩; have HO4 := Lib.hid ho; have HB4 := Lib.hid (Frm.to_below HB3.out hf (fun k hk => (HO3.out.at_ge hk).1) (Nat.le_refl _)); clear ho hf))
    clear b0 b1 b2 HO3 HB3 TC
    obtain ⟨r1, re⟩ := r
    simp only at HO4 HID HRR
    change Code.wp _ _ _ _ (w4.alloc (.cells #[.int .i64 r1.id, .slice a2 r1.cs.length c2, .int .i64 r1.next] 24))
    obtain ⟨w5, hw5⟩ : ∃ w5, w5 = w4.alloc (.cells #[.int .i64 r1.id, .slice a2 r1.cs.length c2, .int .i64 r1.next] 24) := ⟨_, rfl⟩
    have hb5 : Below w4.heap.size w4 w5 := by rw [hw5]; exact (Below.refl _ _).alloc (Nat.le_refl _) _
    have HS5 := Lib.hid (show ScSlot w5 w4.heap.size a2 c2 r1 by rw [hw5]; exact ScSlot.new w4 a2 c2 r1)
    have HO5 := Lib.hid (HO4.out.below hb5)
    have HB5 := Lib.hid (HB4.out.trans (hb5.mono HB4.out.size))
    have HG6 := Lib.hid HB4.out.size
    rw [← hw5]
    clear hw5 hb5 HO4 HB4
    generalize w4.heap.size = g6 at *
    by_cases hE : re = 0
    · subst hE
      have hidr := HID.out rfl
      obtain ⟨e0, e1, e2⟩ := HS5.out.at
      obtain ⟨f0, f1, f2⟩ := HS5.out.froz
      have hwi : wrap64 (r1.id + 1) = r1.id + 1 := by have := HMI.out; unfold wrap64; omega
      clear hidr
      go_upto_region 7 with fail
      obtain ⟨w6, hw6⟩ : ∃ w6, w6 = w5.setCell ⟨g6, 0, none⟩ (.int .i64 (r1.id + 1)) := ⟨_, rfl⟩
      have hf6 : Frm (fun j => j = g6) w5 w6 := by rw [hw6]; exact (Frm.refl (fun j => j = g6) w5).setCell (p := ⟨g6, 0, none⟩) rfl _
      have HS6 := Lib.hid (show ScSlot w6 g6 a2 c2 ⟨r1.id + 1, r1.next, r1.cs⟩ by rw [hw6]; exact HS5.out.setI _)
      have HO6 := Lib.hid (own_off HO5.out HS5.out hf6)
      have HB6 := Lib.hid (Frm.to_below HB5.out hf6 (fun k e => by rw [e]; exact HG6.out) (Nat.le_refl _))
      change Code.wp _ _ _ _ (w5.setCell ⟨g6, 0, none⟩ (.int .i64 (r1.id + 1)))
      rw [← hw6]
      clear hw6 hf6 e0 e1 e2 f0 f1 f2 HS5 HO5 HB5
      obtain ⟨s9, hs9⟩ : ∃ s9 : Sc, s9 = ⟨r1.id + 1, r1.next, r1.cs⟩ := ⟨_, rfl⟩
      have hrr := HRR.out
      rw [if_neg (by rw [HM.out]; simp), if_neg (by simp), ← hs9] at hrr
      have HRS := Lib.hid hrr
      rw [← hs9] at HS6
      clear hrr HRR
      have HO6 : Hid (OwnCo u.heap.size w6 a2 c2 s9.cs) := by rw [hs9]; exact HO6
      have T7 := Lib.hid (schmay_any w6 a2 c2 s9 HO6.out.isX (own_max HO6.out) HO6.out.cap)
      obtain ⟨e0, e1, e2⟩ := HS6.out.at
      clear hs9
      cases hm9 : maySc s9 with
      | false =>
        obtain rfl : R = (zeroSc, 1200) := by rw [HRS.out, if_pos hm9]
        rw [hm9] at T7
        clear hm9 HRS
        go_upto_region 8 with (go_at_call 20; refine T7.out.mono ?_; rintro e w7 ⟨rfl, hb7⟩; have HB7 := Lib.hid (HB6.out.trans (hb7.mono HB6.out.size)); clear hb7)
        clear e0 e1 e2
        obtain ⟨z0, z1, z2⟩ := (HR.out.below HB7.out).at
        obtain ⟨y0, y1, y2⟩ := (HR.out.below HB7.out).froz
        simp only [zeroSc] at z0 z1 z2
        go_wp2
        change bodyPost _ _ _ _ _ (putSc w7 (w.heap.size + 1) none 0 zeroSc)
        have hp := (HR.out.below HB7.out).put none 0 zeroSc
        have hpf := putSc_frm (g := w.heap.size + 1) (F := fun j => j = w.heap.size + 1) rfl w7 none 0 zeroSc
        generalize putSc w7 (w.heap.size + 1) none 0 zeroSc = w99 at *
        obtain ⟨b0, b1, b2⟩ := hp.at
        simp only [zeroSc] at b0 b1 b2
        clear z0 z1 z2 y0 y1 y2
        refine bodyPost_ret (v := .tuple #[.agg #[.int .i64 0, .slice none 0 0, .int .i64 0], .int .i64 1200]) (by simp [results, Try.results50, go_sem, b0, b1, b2]) rfl ?_
        exact ⟨none, 0, rfl, OwnCo.nil _ _, ch_below HB.out HB7.out hpf⟩
      | true =>
        obtain rfl : R = (s9, 0) := by rw [HRS.out, if_neg (by rw [hm9]; simp)]
        rw [hm9] at T7
        have T9 := Lib.hid (fun (v : World) (hv : Below w6.heap.size w6 v) => schowned_any v a2 c2 s9 (HO6.out.isX.below hv) (own_nil HO6.out) (by have := ((may_iff s9).1 hm9).1; omega) (may_names hm9))
        clear hm9 HRS
        go_upto_region 9 with (go_at_call 20; refine T7.out.mono ?_; rintro e w7 ⟨rfl, hb7⟩; have HB7 := Lib.hid (HB6.out.trans (hb7.mono HB6.out.size)); have HX7 := Lib.hid hb7; have HS7 := Lib.hid (HS6.out.below hb7); clear hb7)
        clear e0 e1 e2
        obtain ⟨e0, e1, e2⟩ := HS7.out.at
        go_wp2_with (go_at_call 65; refine (T9.out w7 HX7.out).mono ?_; rintro e w8 ⟨a3, c3, rfl, ho, hb⟩; have HO8 := Lib.hid ho; have HB8 := Lib.hid (HB7.out.trans (hb.mono HB7.out.size)); have hr8 := HR.out.below (HB7.out.trans (hb.mono HB7.out.size)); obtain ⟨z0, z1, z2⟩ := hr8.at; obtain ⟨y0, y1, y2⟩ := hr8.froz; simp only [zeroSc] at z0 z1 z2; have HR8 := Lib.hid hr8; clear ho hb hr8)
        change bodyPost _ _ _ _ _ (putSc w8 (w.heap.size + 1) a3 c3 s9)
        have hp := HR8.out.put a3 c3 s9
        have hpf := putSc_frm (g := w.heap.size + 1) (F := fun j => j = w.heap.size + 1) rfl w8 a3 c3 s9
        generalize putSc w8 (w.heap.size + 1) a3 c3 s9 = w99 at *
        clear z0 z1 z2 y0 y1 y2 e0 e1 e2
        obtain ⟨b0, b1, b2⟩ := hp.at
        refine bodyPost_ret (v := .tuple #[.agg #[.int .i64 s9.id, .slice a3 s9.cs.length c3, .int .i64 s9.next], .int .i64 0]) (by simp [results, Try.results50, go_sem, b0, b1, b2]) rfl ?_
        exact ⟨a3, c3, rfl, (own_off HO8.out HR8.out hpf).lower (by have h1 := HB7.out.size; have h2 := HB.out.size; omega), ch_below HB.out HB8.out hpf⟩
    · have hne : (re != 0) = true := by simpa using hE
      obtain rfl : R = (zeroSc, re) := by rw [HRR.out, if_neg (by rw [HM.out]; simp), if_pos hE]
      clear hE HRR
      go_upto_region 5 with fail
      obtain ⟨z0, z1, z2⟩ := (HR.out.below HB5.out).at
      obtain ⟨y0, y1, y2⟩ := (HR.out.below HB5.out).froz
      simp only [zeroSc] at z0 z1 z2
      go_wp2
      change bodyPost _ _ _ _ _ (putSc w5 (w.heap.size + 1) none 0 zeroSc)
      have hp := (HR.out.below HB5.out).put none 0 zeroSc
      have hpf := putSc_frm (g := w.heap.size + 1) (F := fun j => j = w.heap.size + 1) rfl w5 none 0 zeroSc
      generalize putSc w5 (w.heap.size + 1) none 0 zeroSc = w99 at *
      obtain ⟨b0, b1, b2⟩ := hp.at
      simp only [zeroSc] at b0 b1 b2
      clear z0 z1 z2 y0 y1 y2
      refine bodyPost_ret (v := .tuple #[.agg #[.int .i64 0, .slice none 0 0, .int .i64 0], .int .i64 re]) (by simp [results, Try.results50, go_sem, b0, b1, b2]) rfl ?_
      exact ⟨none, 0, rfl, OwnCo.nil _ _, ch_below HB.out HB5.out hpf⟩
set_option maxRecDepth 100000 in
set_option maxHeartbeats 4000000 in
theorem schchanged_ren (w : World) (a : Option Addr) (c : Nat) (s : Sc) (nb tb : Nat) (nm to : ByteArray) (ha : IsCo w a s.cs) (hn : a = none → s.cs.length = 0 ∧ c = 0) (hcap : s.cs.length ≤ c) (hl : s.cs.length ≤ maxLen) (hpn : w.cell? ⟨nb, 0, none⟩ = some (.string nm)) (hpt : w.cell? ⟨tb, 0, none⟩ = some (.string to)) :
    Calls Try.prog 50 #[.agg #[.int .i64 s.id, .slice a s.cs.length c, .int .i64 s.next], .func (.func 60) #[] #[.pointer (some ⟨nb, 0, none⟩), .pointer (some ⟨tb, 0, none⟩)]] w (ScPost w (changedA s (renP s nm to))) := by
  obtain ⟨R, hR⟩ : ∃ R, R = changedA s (renP s nm to) := ⟨_, rfl⟩
  rw [← hR]
  obtain ⟨u, hu⟩ : ∃ u, u = (w.alloc (.cells #[.int .i64 s.id, .slice a s.cs.length c, .int .i64 s.next] 24)).alloc (.cells #[.int .i64 0, .slice none 0 0, .int .i64 0] 24) := ⟨_, rfl⟩
  have hsz : (w.alloc (.cells #[.int .i64 s.id, .slice a s.cs.length c, .int .i64 s.next] 24)).heap.size = w.heap.size + 1 := by simp
  have hbu : Below w.heap.size w u := by rw [hu]; exact ((Below.refl _ _).alloc (Nat.le_refl _) _).alloc (by simp) _
  have HS := Lib.hid (show ScSlot u w.heap.size a c s by rw [hu]; exact (ScSlot.new w a c s).same (Below.heap_alloc _ _ _ (by simp)))
  have HR := Lib.hid (show ScSlot u (w.heap.size + 1) none 0 zeroSc by rw [hu, ← hsz]; exact ScSlot.new _ none 0 zeroSc)
  have HB := Lib.hid hbu
  have HA := Lib.hid (ha.below hbu)
  have HNL := Lib.hid hn
  have HPN : Hid (∀ v, Below u.heap.size u v → v.cell? ⟨nb, 0, none⟩ = some (.string nm) ∧ v.cell? ⟨tb, 0, none⟩ = some (.string to)) := fun v hv =>
    ⟨(World.cell?_of_block ((hbu.trans (hv.mono hbu.size)).block nb (World.block_lt_of_cell? w ⟨nb, 0, none⟩ hpn))).trans hpn, (World.cell?_of_block ((hbu.trans (hv.mono hbu.size)).block tb (World.block_lt_of_cell? w ⟨tb, 0, none⟩ hpt))).trans hpt⟩
  have TM := Lib.hid (schmay_any u a c s HA.out hl hcap)
  obtain ⟨b0, b1, b2⟩ := HS.out.at
  have HE : Hid (Below u.heap.size u u) := Below.refl _ _
  have hid := renP_id s nm to
  have HC : Hid (∀ v, maySc s = true → ∀ a1 c1, OwnCo u.heap.size v a1 c1 s.cs → Below u.heap.size u v → Calls Try.prog 60 #[.agg #[.int .i64 s.id, .slice a1 s.cs.length c1, .int .i64 s.next], .pointer (some ⟨nb, 0, none⟩), .pointer (some ⟨tb, 0, none⟩)] v (ChPost v u.heap.size a1 (renP s nm to))) := fun v hm a1 c1 ho hv => by
    have hm2 := ((may_iff s).1 hm).1
    have hnx := next_pos hm
    exact schrenc_any v u.heap.size a1 c1 s nb tb nm to ho hv.size (by omega) (HPN.out v hv).1 (HPN.out v hv).2
  generalize renP s nm to = r at *
  clear hbu hsz ha hn hcap hl hpn hpt
  unfold changedA at hR
  have HRR := Lib.hid hR
  clear hR
  cases hm : maySc s with
  | false =>
    obtain rfl : R = (zeroSc, 1200) := by rw [HRR.out, if_pos hm]
    rw [hm] at TM
    clear hm hid HRR
    go_enter Try.func50, Try.ntmps50
    go_upto_region 1 with fail
    change Code.wp _ _ _ _ ((w.alloc (.cells #[.int .i64 s.id, .slice a s.cs.length c, .int .i64 s.next] 24)).alloc (.cells #[.int .i64 0, .slice none 0 0, .int .i64 0] 24))
    rw [← hu]
    clear hu
    go_upto_region 2 with (go_at_call 20; refine TM.out.mono ?_; rintro e w2 ⟨rfl, hb2⟩; have HB2 := Lib.hid hb2; clear hb2)
    clear b0 b1 b2
    obtain ⟨z0, z1, z2⟩ := (HR.out.below HB2.out).at
    obtain ⟨y0, y1, y2⟩ := (HR.out.below HB2.out).froz
    simp only [zeroSc] at z0 z1 z2
    go_wp2
    change bodyPost _ _ _ _ _ (putSc w2 (w.heap.size + 1) none 0 zeroSc)
    have hp := (HR.out.below HB2.out).put none 0 zeroSc
    have hpf := putSc_frm (g := w.heap.size + 1) (F := fun j => j = w.heap.size + 1) rfl w2 none 0 zeroSc
    generalize putSc w2 (w.heap.size + 1) none 0 zeroSc = w99 at *
    obtain ⟨b0, b1, b2⟩ := hp.at
    simp only [zeroSc] at b0 b1 b2
    clear z0 z1 z2 y0 y1 y2
    refine bodyPost_ret (v := .tuple #[.agg #[.int .i64 0, .slice none 0 0, .int .i64 0], .int .i64 1200]) (by simp [results, Try.results50, go_sem, b0, b1, b2]) rfl ?_
    exact ⟨none, 0, rfl, OwnCo.nil _ _, ch_below HB.out HB2.out hpf⟩
  | true =>
    have HM := Lib.hid hm
    rw [hm] at TM
    have hmi := ((may_iff s).1 hm).1
    have TO := Lib.hid (fun (v : World) (hv : Below u.heap.size u v) => schowned_any v a c s (HA.out.below hv) HNL.out (by omega) (may_names hm))
    have TC := Lib.hid (fun (v : World) => HC.out v hm)
    have HMI := Lib.hid hmi
    have HID := Lib.hid hid
    clear hm hmi hid HC
    go_enter Try.func50, Try.ntmps50
    go_upto_region 1 with fail
    change Code.wp _ _ _ _ ((w.alloc (.cells #[.int .i64 s.id, .slice a s.cs.length c, .int .i64 s.next] 24)).alloc (.cells #[.int .i64 0, .slice none 0 0, .int .i64 0] 24))
    rw [← hu]
    clear hu
    go_upto_region 3 with (go_at_call 20; refine TM.out.mono ?_; rintro e w2 ⟨rfl, hb2⟩; have HB2 := Lib.hid hb2; clear hb2)
    clear b0 b1 b2 TM
    obtain ⟨b0, b1, b2⟩ := (HS.out.below HB2.out).at
    go_upto_region 4 with (first
      | (go_at_call 65; refine (TO.out w2 HB2.out).mono ?_; rintro e w3 ⟨a1, c1, rfl, ho, hb⟩; have HO3 := Lib.hid (show OwnCo u.heap.size w3 a1 c1 s.cs from ho.lower HB2.out.size); have HB3 := Lib.hid (HB2.out.trans (hb.mono HB2.out.size)); clear ho hb)
      | (go_at_call 60; refine (TC.out w3 a1 c1 HO3.out HB3.out).mono ?_; rintro e w4 ⟨a2, c2, rfl, ho, hf⟩; have HO4 := Lib.hid ho; have HB4 := Lib.hid (Frm.to_below HB3.out hf (fun k hk => (HO3.out.at_ge hk).1) (Nat.le_refl _)); clear ho hf))
    clear b0 b1 b2 HO3 HB3 TC
    obtain ⟨r1, re⟩ := r
    simp only at HO4 HID HRR
    change Code.wp _ _ _ _ (w4.alloc (.cells #[.int .i64 r1.id, .slice a2 r1.cs.length c2, .int .i64 r1.next] 24))
    obtain ⟨w5, hw5⟩ : ∃ w5, w5 = w4.alloc (.cells #[.int .i64 r1.id, .slice a2 r1.cs.length c2, .int .i64 r1.next] 24) := ⟨_, rfl⟩
    have hb5 : Below w4.heap.size w4 w5 := by rw [hw5]; exact (Below.refl _ _).alloc (Nat.le_refl _) _
    have HS5 := Lib.hid (show ScSlot w5 w4.heap.size a2 c2 r1 by rw [hw5]; exact ScSlot.new w4 a2 c2 r1)
    have HO5 := Lib.hid (HO4.out.below hb5)
    have HB5 := Lib.hid (HB4.out.trans (hb5.mono HB4.out.size))
    have HG6 := Lib.hid HB4.out.size
    rw [← hw5]
    clear hw5 hb5 HO4 HB4
    generalize w4.heap.size = g6 at *
    by_cases hE : re = 0
    · subst hE
      have hidr := HID.out rfl
      obtain ⟨e0, e1, e2⟩ := HS5.out.at
      obtain ⟨f0, f1, f2⟩ := HS5.out.froz
      have hwi : wrap64 (r1.id + 1) = r1.id + 1 := by have := HMI.out; unfold wrap64; omega
      clear hidr
      go_upto_region 7 with fail
      obtain ⟨w6, hw6⟩ : ∃ w6, w6 = w5.setCell ⟨g6, 0, none⟩ (.int .i64 (r1.id + 1)) := ⟨_, rfl⟩
      have hf6 : Frm (fun j => j = g6) w5 w6 := by rw [hw6]; exact (Frm.refl (fun j => j = g6) w5).setCell (p := ⟨g6, 0, none⟩) rfl _
      have HS6 := Lib.hid (show ScSlot w6 g6 a2 c2 ⟨r1.id + 1, r1.next, r1.cs⟩ by rw [hw6]; exact HS5.out.setI _)
      have HO6 := Lib.hid (own_off HO5.out HS5.out hf6)
      have HB6 := Lib.hid (Frm.to_below HB5.out hf6 (fun k e => by rw [e]; exact HG6.out) (Nat.le_refl _))
      change Code.wp _ _ _ _ (w5.setCell ⟨g6, 0, none⟩ (.int .i64 (r1.id + 1)))
      rw [← hw6]
      clear hw6 hf6 e0 e1 e2 f0 f1 f2 HS5 HO5 HB5
      obtain ⟨s9, hs9⟩ : ∃ s9 : Sc, s9 = ⟨r1.id + 1, r1.next, r1.cs⟩ := ⟨_, rfl⟩
      have hrr := HRR.out
      rw [if_neg (by rw [HM.out]; simp), if_neg (by simp), ← hs9] at hrr
      have HRS := Lib.hid hrr
      rw [← hs9] at HS6
      clear hrr HRR
      have HO6 : Hid (OwnCo u.heap.size w6 a2 c2 s9.cs) := by rw [hs9]; exact HO6
      have T7 := Lib.hid (schmay_any w6 a2 c2 s9 HO6.out.isX (own_max HO6.out) HO6.out.cap)
      obtain ⟨e0, e1, e2⟩ := HS6.out.at
      clear hs9
      cases hm9 : maySc s9 with
      | false =>
        obtain rfl : R = (zeroSc, 1200) := by rw [HRS.out, if_pos hm9]
        rw [hm9] at T7
        clear hm9 HRS
        go_upto_region 8 with (go_at_call 20; refine T7.out.mono ?_; rintro e w7 ⟨rfl, hb7⟩; have HB7 := Lib.hid (HB6.out.trans (hb7.mono HB6.out.size)); clear hb7)
        clear e0 e1 e2
        obtain ⟨z0, z1, z2⟩ := (HR.out.below HB7.out).at
        obtain ⟨y0, y1, y2⟩ := (HR.out.below HB7.out).froz
        simp only [zeroSc] at z0 z1 z2
        go_wp2
        change bodyPost _ _ _ _ _ (putSc w7 (w.heap.size + 1) none 0 zeroSc)
        have hp := (HR.out.below HB7.out).put none 0 zeroSc
        have hpf := putSc_frm (g := w.heap.size + 1) (F := fun j => j = w.heap.size + 1) rfl w7 none 0 zeroSc
        generalize putSc w7 (w.heap.size + 1) none 0 zeroSc = w99 at *
        obtain ⟨b0, b1, b2⟩ := hp.at
        simp only [zeroSc] at b0 b1 b2
        clear z0 z1 z2 y0 y1 y2
        refine bodyPost_ret (v := .tuple #[.agg #[.int .i64 0, .slice none 0 0, .int .i64 0], .int .i64 1200]) (by simp [results, Try.results50, go_sem, b0, b1, b2]) rfl ?_
        exact ⟨none, 0, rfl, OwnCo.nil _ _, ch_below HB.out HB7.out hpf⟩
      | true =>
        obtain rfl : R = (s9, 0) := by rw [HRS.out, if_neg (by rw [hm9]; simp)]
        rw [hm9] at T7
        have T9 := Lib.hid (fun (v : World) (hv : Below w6.heap.size w6 v) => schowned_any v a2 c2 s9 (HO6.out.isX.below hv) (own_nil HO6.out) (by have := ((may_iff s9).1 hm9).1; omega) (may_names hm9))
        clear hm9 HRS
        go_upto_region 9 with (go_at_call 20; refine T7.out.mono ?_; rintro e w7 ⟨rfl, hb7⟩; have HB7 := Lib.hid (HB6.out.trans (hb7.mono HB6.out.size)); have HX7 := Lib.hid hb7; have HS7 := Lib.hid (HS6.out.below hb7); clear hb7)
        clear e0 e1 e2
        obtain ⟨e0, e1, e2⟩ := HS7.out.at
        go_wp2_with (go_at_call 65; refine (T9.out w7 HX7.out).mono ?_; rintro e w8 ⟨a3, c3, rfl, ho, hb⟩; have HO8 := Lib.hid ho; have HB8 := Lib.hid (HB7.out.trans (hb.mono HB7.out.size)); have hr8 := HR.out.below (HB7.out.trans (hb.mono HB7.out.size)); obtain ⟨z0, z1, z2⟩ := hr8.at; obtain ⟨y0, y1, y2⟩ := hr8.froz; simp only [zeroSc] at z0 z1 z2; have HR8 := Lib.hid hr8; clear ho hb hr8)
        change bodyPost _ _ _ _ _ (putSc w8 (w.heap.size + 1) a3 c3 s9)
        have hp := HR8.out.put a3 c3 s9
        have hpf := putSc_frm (g := w.heap.size + 1) (F := fun j => j = w.heap.size + 1) rfl w8 a3 c3 s9
        generalize putSc w8 (w.heap.size + 1) a3 c3 s9 = w99 at *
        clear z0 z1 z2 y0 y1 y2 e0 e1 e2
        obtain ⟨b0, b1, b2⟩ := hp.at
        refine bodyPost_ret (v := .tuple #[.agg #[.int .i64 s9.id, .slice a3 s9.cs.length c3, .int .i64 s9.next], .int .i64 0]) (by simp [results, Try.results50, go_sem, b0, b1, b2]) rfl ?_
        exact ⟨a3, c3, rfl, (own_off HO8.out HR8.out hpf).lower (by have h1 := HB7.out.size; have h2 := HB.out.size; omega), ch_below HB.out HB8.out hpf⟩
    · have hne : (re != 0) = true := by simpa using hE
      obtain rfl : R = (zeroSc, re) := by rw [HRR.out, if_neg (by rw [HM.out]; simp), if_pos hE]
      clear hE HRR
      go_upto_region 5 with fail
      obtain ⟨z0, z1, z2⟩ := (HR.out.below HB5.out).at
      obtain ⟨y0, y1, y2⟩ := (HR.out.below HB5.out).froz
      simp only [zeroSc] at z0 z1 z2
      go_wp2
      change bodyPost _ _ _ _ _ (putSc w5 (w.heap.size + 1) none 0 zeroSc)
      have hp := (HR.out.below HB5.out).put none 0 zeroSc
      have hpf := putSc_frm (g := w.heap.size + 1) (F := fun j => j = w.heap.size + 1) rfl w5 none 0 zeroSc
      generalize putSc w5 (w.heap.size + 1) none 0 zeroSc = w99 at *
      obtain ⟨b0, b1, b2⟩ := hp.at
      simp only [zeroSc] at b0 b1 b2
      clear z0 z1 z2 y0 y1 y2
      refine bodyPost_ret (v := .tuple #[.agg #[.int .i64 0, .slice none 0 0, .int .i64 0], .int .i64 re]) (by simp [results, Try.results50, go_sem, b0, b1, b2]) rfl ?_
      exact ⟨none, 0, rfl, OwnCo.nil _ _, ch_below HB.out HB5.out hpf⟩
end Go.Proofs.Ythfakpekdjmpjaa
