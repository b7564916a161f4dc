/- act of the law: List of both stores. -/
import Derived.Test.YtembcflgjfligaaAct
namespace Go.Proofs.Ytembcflgjfligaa
set_option linter.unusedVariables false
open Go.Conc Go.RowKit

theorem Acted.more {w w3 w5 : World} {F : Nat → Prop} {b rb : Nat} {st : St} {e : Ending} (h : Acted w F b rb st e w3) (hb : Below w3.heap.size w3 w5) : Acted w F b rb st e w5 := by
  obtain ⟨he, st', hs, hh, hf⟩ := h
  exact ⟨he, st', hs, hh.new hb, hf.trans (Frm.of_new hb _)⟩

theorem nil_row (w : World) (B : Nat) : w.ownsRow B 56 3 (.slice none 0 0) ([] : List Ob).length (rowOf []) := by simpa [rowOf] using World.ownsRow_nil _ _ _ _
/-- Same lists are the same. -/
theorem same_yes (w : World) (sa sb : Value) (la : List Ob) (ha : w.ownsRow 0 56 3 sa la.length (rowOf la)) (hb : w.ownsRow 0 56 3 sb la.length (rowOf la)) (hla : la.length ≤ 4096) :
    Calls Try.prog 13 #[sa, sb] w fun e w' => e = .returned (.bool true) ∧ Below w.heap.size w w' := by
  refine (same_any w sa sb la la ha hb hla).mono ?_
  rintro e w' ⟨h1, ⟨rfl, _⟩ | ⟨_, h2⟩⟩
  · exact ⟨rfl, h1⟩
  · exact absurd rfl h2

section
variable {F : Nat → Prop} (b rb : Nat) (kind n : Int) (key dat : ByteArray) (w : World) (st : St)
set_option maxHeartbeats 4000000 in
set_option maxRecDepth 100000 in
theorem act_list_fails (h : Half w F b rb st st) (hs : Rises (st.os.map Ob.key)) (hk : key.size ≤ 9223372036854775807) (hd : dat.size ≤ 9223372036854775807) (hn : n ≤ 9223372036854775807) (hc : st.calls + 1 ≤ 9223372036854775807) (hk4 : ¬ kind < 4) (hk6 : ¬ kind < 6) (hk7 : kind = 6) (ho : 0 < st.owed) :
    Calls Try.prog 10 #[.pointer (some ⟨b, 0, none⟩), .pointer (some ⟨rb, 0, none⟩), .agg #[.int .i64 kind, .string key, .string dat, .int .i64 n]] w (Acted w F b rb st) := by
  subst hk7
  obtain ⟨E, hE, hEF, hEn⟩ := boxed h #[.int .i64 6, .string key, .string dat, .int .i64 n]
  obtain ⟨w1, hw1⟩ : ∃ w1, w1 = w.alloc (.cells #[.int .i64 6, .string key, .string dat, .int .i64 n] 36) := ⟨_, rfl⟩
  rw [← hw1] at hE
  have hblk : w1.heap[w.heap.size]? = some (.cells #[.int .i64 6, .string key, .string dat, .int .i64 n] 36 (0, 0)) := by rw [hw1]; exact heap_alloc_new w _
  have hz1 : w1.heap.size = w.heap.size + 1 := by rw [hw1]; simp
  have b1 : Below w.heap.size w w1 := by rw [hw1]; exact (Below.refl _ w).alloc (Nat.le_refl _) _
  obtain ⟨st', hst, hp, hr⟩ : ∃ st', Step st st' ∧
      (∀ F b w, Sto w F b st → News F w → Calls Try.prog 17 #[.pointer (some ⟨b, 0, none⟩), .string key] w (Gave F b w (.tuple #[.slice none 0 0, .int .i64 104]) st')) ∧
      (∀ F b w, Ref w F b st → News F w → Calls Try.prog 25 #[.pointer (some ⟨b, 0, none⟩), .string key] w (RGave F b w (.tuple #[.slice none 0 0, .int .i64 104]) st')) :=
    ⟨{ st with calls := st.calls + 1, owed := st.owed - 1 }, ⟨hs, Int.le_refl _, rfl⟩, fun F b w h hF => list_fails b key w st h hF ho hE.owed.2.1 hc, fun F b w h _ => rlist_fails b key w st h ho hc⟩
  obtain ⟨F1, hS, hN, hgo⟩ := hE.one
  have T := Lib.hid (hp F1 b w1 hS hN)
  have HGo := Lib.hid hgo
  have HR := Lib.hid hr
  have HSt := Lib.hid hst
  have hcells : ∀ v : World, v.heap[w.heap.size]? = w1.heap[w.heap.size]? → v.cell? ⟨w.heap.size, 0, none⟩ = some (.int .i64 6) ∧ v.cell? ⟨w.heap.size, 1, none⟩ = some (.string key) ∧ v.cell? ⟨w.heap.size, 2, none⟩ = some (.string dat) ∧ v.cell? ⟨w.heap.size, 3, none⟩ = some (.int .i64 n) := fun v hv => by
    have hv' := hv.trans hblk
    exact ⟨by rw [cell_of_row v _ 0 _ _ _ hv']; rfl, by rw [cell_of_row v _ 1 _ _ _ hv']; rfl, by rw [cell_of_row v _ 2 _ _ _ hv']; rfl, by rw [cell_of_row v _ 3 _ _ _ hv']; rfl⟩
  have HC := Lib.hid hcells
  obtain ⟨q0, q1, q2, q3⟩ := hcells w1 rfl
  have HEn := Lib.hid hEn
  have HEF := Lib.hid hEF
  have B1 := Lib.hid b1
  clear h hE hp hgo hr hst hcells hS hN hblk hEn hEF b1
  go_enter Try.func10, Try.ntmps10
  rw [hw1] at q0 q1 q2 q3
  have HW1 := Lib.hid hw1
  clear hw1
  go_wp2_with (first
    | (go_at_call 17; rw [← HW1.out]; refine (T.out).mono ?_; rintro e w2 ⟨rfl, s2, f2⟩; obtain ⟨hh2, hf2⟩ := HGo.out w2 st' s2 f2; have hk2 : w2.heap[w.heap.size]? = w1.heap[w.heap.size]? := hf2.block _ (by omega) (fun hu => by rcases hu with hu | hu; exact HEn.out hu; omega); obtain ⟨p0, p1, p2, p3⟩ := HC.out w2 hk2; obtain ⟨G1, hR1, hN1, hgo1⟩ := hh2.two; have TR := Lib.hid (HR.out G1 rb w2 hR1 hN1); have HGo1 := Lib.hid hgo1; have HF2 := Lib.hid hf2; clear s2 f2 hh2 hf2 hk2 hR1 hN1 hgo1)
    | (go_at_call 25; refine (TR.out).mono ?_; rintro e w3 ⟨rfl, r3, f3⟩; have P3 := Lib.hid (HGo1.out w3 st' r3 f3); clear r3 f3)
    | (go_at_call 13; refine (same_yes w3 _ _ [] (nil_row w3 0) (nil_row w3 0) (by simp)).mono ?_; rintro e w4 ⟨rfl, b4⟩; have B4 := Lib.hid b4; clear b4)
    | (go_at_call 6; refine (num_any _ _).mono ?_; rintro e w' ⟨rfl, rfl⟩)
    | (go_at_call 14; refine (spoil_any (nil_row w4 w4.heap.size) (by simp)).mono ?_; rintro e w5 ⟨rfl, b5⟩; have B5 := Lib.hid b5; clear b5))
  go_ret
  exact ((acted_end HEF.out B1.out HF2.out (Below.refl _ w2) P3.out.1 P3.out.2 HSt.out).more B4.out).more B5.out

set_option maxHeartbeats 4000000 in
set_option maxRecDepth 100000 in
theorem act_list_ok (h : Half w F b rb st st) (hs : Rises (st.os.map Ob.key)) (hk : key.size ≤ 9223372036854775807) (hd : dat.size ≤ 9223372036854775807) (hn : n ≤ 9223372036854775807) (hc : st.calls + 1 ≤ 9223372036854775807) (hk4 : ¬ kind < 4) (hk6 : ¬ kind < 6) (hk7 : kind = 6) (ho : st.owed = 0) :
    Calls Try.prog 10 #[.pointer (some ⟨b, 0, none⟩), .pointer (some ⟨rb, 0, none⟩), .agg #[.int .i64 kind, .string key, .string dat, .int .i64 n]] w (Acted w F b rb st) := by
  subst hk7
  obtain ⟨E, hE, hEF, hEn⟩ := boxed h #[.int .i64 6, .string key, .string dat, .int .i64 n]
  obtain ⟨w1, hw1⟩ : ∃ w1, w1 = w.alloc (.cells #[.int .i64 6, .string key, .string dat, .int .i64 n] 36) := ⟨_, rfl⟩
  rw [← hw1] at hE
  have hblk : w1.heap[w.heap.size]? = some (.cells #[.int .i64 6, .string key, .string dat, .int .i64 n] 36 (0, 0)) := by rw [hw1]; exact heap_alloc_new w _
  have hz1 : w1.heap.size = w.heap.size + 1 := by rw [hw1]; simp
  have b1 : Below w.heap.size w w1 := by rw [hw1]; exact (Below.refl _ w).alloc (Nat.le_refl _) _
  have hlo := hE.owed.2.2
  obtain ⟨F1, G1, hS, hR, h3, h4, h5⟩ := hE
  obtain ⟨os, hos⟩ : ∃ os, os = listOf st.os key := ⟨_, rfl⟩
  have hol : os.length ≤ 4096 := by
    rw [hos]
    unfold listOf
    rw [List.length_map]
    have := List.length_filter_le (pre key) st.os
    omega
  have T := Lib.hid (list_ok b key w1 st hS ho hc hs)
  have TR : Hid (∀ v, Ref v G1 rb st → _) := fun v hv => rlist_ok rb key v st hv ho hc
  rw [← hos] at T TR
  have HR := Lib.hid hR
  have H3 := Lib.hid h3
  have H4 := Lib.hid h4
  have H5 := Lib.hid h5
  have hcells : ∀ v : World, v.heap[w.heap.size]? = w1.heap[w.heap.size]? → v.cell? ⟨w.heap.size, 0, none⟩ = some (.int .i64 6) ∧ v.cell? ⟨w.heap.size, 1, none⟩ = some (.string key) ∧ v.cell? ⟨w.heap.size, 2, none⟩ = some (.string dat) ∧ v.cell? ⟨w.heap.size, 3, none⟩ = some (.int .i64 n) := fun v hv => by
    have hv' := hv.trans hblk
    exact ⟨by rw [cell_of_row v _ 0 _ _ _ hv']; rfl, by rw [cell_of_row v _ 1 _ _ _ hv']; rfl, by rw [cell_of_row v _ 2 _ _ _ hv']; rfl, by rw [cell_of_row v _ 3 _ _ _ hv']; rfl⟩
  have HC := Lib.hid hcells
  obtain ⟨q0, q1, q2, q3⟩ := hcells w1 rfl
  have HEn := Lib.hid hEn
  have HEF := Lib.hid hEF
  have B1 := Lib.hid b1
  clear h hcells hS hR h3 h4 h5 hblk hEn hEF b1 hos hlo
  go_enter Try.func10, Try.ntmps10
  rw [hw1] at q0 q1 q2 q3
  have HW1 := Lib.hid hw1
  clear hw1
  go_wp2_with (first
    | (go_at_call 17; rw [← HW1.out]; refine (T.out).mono ?_; rintro e w2 ⟨sv2, rfl, ro2, s2, f2⟩; obtain ⟨a2, c2, rfl⟩ := row_shape ro2; have hk2 : w2.heap[w.heap.size]? = w1.heap[w.heap.size]? := f2.block _ (by omega) (fun hu => HEn.out (H4.out _ hu).1); obtain ⟨p0, p1, p2, p3⟩ := HC.out w2 hk2; have hr2 := HR.out.frm f2 (fun k _ hg hf => H3.out k hf hg); have HR2 := Lib.hid hr2; have S2 := Lib.hid s2; have F2 := Lib.hid f2; have RO2 := Lib.hid ro2; clear s2 f2 hk2 hr2 ro2)
    | (go_at_call 25; refine (TR.out w2 HR2.out).mono ?_; rintro e w3 ⟨sv3, rfl, ro3, r3, f3⟩; obtain ⟨a3, c3, rfl⟩ := row_shape ro3; have ro2' := row_same (w' := w3) RO2.out (fun g hg => f3.block g (RO2.out.lt g hg).2 (fun hu => by have := (H5.out g hu).2; have := (RO2.out.lt g hg).1; omega)); have R3 := Lib.hid r3; have F3 := Lib.hid f3; have RO3 := Lib.hid ro3; have RO2' := Lib.hid ro2'; have S3 := Lib.hid (S2.out.frm f3 (fun k _ hf hg => H3.out k hf hg)); clear r3 f3 ro3 ro2')
    | (go_at_call 13; refine (same_yes w3 _ _ os (ownsRow_base RO2'.out (Nat.zero_le _)) (ownsRow_base RO3.out (Nat.zero_le _)) hol).mono ?_; rintro e w4 ⟨rfl, b4⟩; have ro4 := row_same (w' := w4) RO2'.out (fun g hg => b4.block g (RO2'.out.lt g hg).2); have RO4 := Lib.hid ro4; have B4 := Lib.hid b4; clear b4 ro4)
    | (go_at_call 6; refine (num_any _ _).mono ?_; rintro e w' ⟨rfl, rfl⟩)
    | (go_at_call 14; refine (spoil_any RO4.out (by omega)).mono ?_; rintro e w5 ⟨rfl, b5⟩; have B5 := Lib.hid b5; clear b5))
  go_ret
  have zz : w1.heap.size ≤ w4.heap.size := Nat.le_trans F2.out.size (Nat.le_trans F3.out.size B4.out.size)
  have S5 := (S3.out.new B4.out).same (w' := w5) fun k _ hk => B5.out.block k (H4.out k hk).2
  have R5 := (R3.out.new B4.out).same (w' := w5) fun k _ hk => B5.out.block k (H5.out k hk).2
  have zf : w1.heap.size ≤ w5.heap.size := Nat.le_trans zz B5.out.size
  have hup : ∀ k, F1 k ∨ G1 k → Up F w k := by
    rintro k (hk | hk)
    · exact .inl (HEF.out k (H4.out k hk).1)
    · exact .inl (HEF.out k (H5.out k hk).1)
  refine ⟨rfl, { st with calls := st.calls + 1 }, ⟨hs, Int.le_refl _, rfl⟩, ⟨F1, G1, S5, R5, H3.out, fun k hk => ⟨hup k (.inl hk), Nat.lt_of_lt_of_le (H4.out k hk).2 zf⟩, fun k hk => ⟨hup k (.inr hk), Nat.lt_of_lt_of_le (H5.out k hk).2 zf⟩⟩, ?_⟩
  have e1 : Frm (Up F w) w w1 := Frm.of_new B1.out _
  have e2 : Frm (Up F w) w1 w2 := F2.out.mono fun k _ hk => hup k (.inl hk)
  have e3 : Frm (Up F w) w2 w3 := F3.out.mono fun k _ hk => hup k (.inr hk)
  have e4 : Frm (Up F w) w3 w4 := Frm.of_new B4.out _
  have e5 : Frm (Up F w) w4 w5 := (Frm.of_below B5.out).mono fun k _ hk => .inr (by omega)
  exact (((e1.trans e2).trans e3).trans e4).trans e5

/-- One call of both stores: both answer the same, and stand the same. -/
theorem act_any (h : Half w F b rb st st) (hs : Rises (st.os.map Ob.key)) (hk : key.size ≤ 9223372036854775807) (hd : dat.size ≤ 9223372036854775807) (hn : n ≤ 9223372036854775807) (hc : st.calls + 1 ≤ 9223372036854775807) :
    Calls Try.prog 10 #[.pointer (some ⟨b, 0, none⟩), .pointer (some ⟨rb, 0, none⟩), .agg #[.int .i64 kind, .string key, .string dat, .int .i64 n]] w (Acted w F b rb st) := by
  by_cases h4 : kind < 4
  · exact act_put b rb kind n key dat w st h hs hk hd hn hc h4
  by_cases h6 : kind < 6
  · exact act_get b rb kind n key dat w st h hs hk hd hn hc h4 h6
  by_cases h7 : kind = 6
  · by_cases ho : 0 < st.owed
    · exact act_list_fails b rb kind n key dat w st h hs hk hd hn hc h4 h6 h7 ho
    · exact act_list_ok b rb kind n key dat w st h hs hk hd hn hc h4 h6 h7 (by have := h.owed.1; omega)
  by_cases h9 : kind < 9
  · exact act_del b rb kind n key dat w st h hs hk hd hn hc h4 h6 h7 h9
  · exact act_fail b rb kind n key dat w st h hs hk hd hn hc h4 h6 h7 h9
end
end Go.Proofs.Ytembcflgjfligaa
