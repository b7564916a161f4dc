/- The document's taker: a text, a place, and whether something was wrong; what it takes. -/
import Derived.Test.YtlgfaajmonjpmaaGreatRd
import Derived.Test.YtlgfaajmonjpmaaGreatRFaces
import Derived.Test.YtlgfaajmonjpmaaGreatRPack
namespace Go.Proofs.YtlgfaajmonjpmaaGreat
open Go.Conc Go.RowKit
set_option linter.unusedVariables false
set_option linter.unusedSimpArgs false

/-- A taker in memory. -/
structure TkAt (w : World) (g : Nat) (s : ByteArray) (t : Tk) : Prop where
  b : w.heap[g]? = some (.cells #[.string s, .int .i64 (t.pos : Int), .bool t.bad] 103 (0, 0))
  le : t.pos ≤ s.size
section
variable {w w' : World} {g : Nat} {s : ByteArray} {t : Tk}
theorem TkAt.at (h : TkAt w g s t) : (w.cell? ⟨g, 0, none⟩ = some (.string s) ∧ w.cell? ⟨g, 1, none⟩ = some (.int .i64 (t.pos : Int)) ∧ w.cell? ⟨g, 2, none⟩ = some (.bool t.bad)) ∧ (w.frozen? ⟨g, 0, none⟩ = false ∧ w.frozen? ⟨g, 1, none⟩ = false ∧ w.frozen? ⟨g, 2, none⟩ = false) := by
  have hb := h.b
  refine ⟨⟨?_, ?_, ?_⟩, frozen_of_row w g 0 _ _ hb, frozen_of_row w g 1 _ _ hb, frozen_of_row w g 2 _ _ hb⟩ <;> (rw [cell_of_row _ _ _ _ _ _ hb]; rfl)
theorem TkAt.same (h : TkAt w g s t) (hb : w'.heap[g]? = w.heap[g]?) : TkAt w' g s t := ⟨by rw [hb]; exact h.b, h.le⟩
theorem TkAt.lt (h : TkAt w g s t) : g < w.heap.size := (Array.getElem?_eq_some_iff.1 h.b).1
theorem TkAt.below (h : TkAt w g s t) (hb : Below w.heap.size w w') : TkAt w' g s t := h.same (hb.block g h.lt)
theorem TkAt.frm {F : Nat → Prop} (h : TkAt w g s t) (hf : Frm F w w') (hF : ¬ F g) : TkAt w' g s t := h.same (hf.block g h.lt hF)
theorem TkAt.alloc (h : TkAt w g s t) (o : Obj) : TkAt (w.alloc o) g s t := h.same (Below.heap_alloc w o g h.lt)
theorem TkAt.brk (h : TkAt w g s t) : TkAt (w.setCell ⟨g, 2, none⟩ (.bool true)) g s ⟨t.pos, true⟩ := ⟨heap_setCell_same _ _ _ _ _ _ h.b, h.le⟩
theorem TkAt.mark (h : TkAt w g s t) (f : Bool) : TkAt (w.setCell ⟨g, 2, none⟩ (.bool f)) g s ⟨t.pos, f⟩ := ⟨heap_setCell_same _ _ _ _ _ _ h.b, h.le⟩
theorem TkAt.go (h : TkAt w g s t) (p : Nat) (hp : p ≤ s.size) : TkAt (w.setCell ⟨g, 1, none⟩ (.int .i64 (p : Int))) g s ⟨p, t.bad⟩ := ⟨heap_setCell_same _ _ _ _ _ _ h.b, hp⟩
end

theorem tkNum_cases (l : List UInt8) (t : Tk) (most : Nat) (hm : most ≤ 9223372036854775807) :
    (∃ x z e, getA (readN l t.pos) = (x, z, e) ∧ tkNum l t most = (0, ⟨t.pos, true⟩) ∧ (t.bad = true ∨ e ≠ 0 ∨ (most : Int) < x)) ∨
    (∃ N q : Nat, getA (readN l t.pos) = ((N : Int), (q : Int), 0) ∧ t.bad = false ∧ N ≤ most ∧ q ≤ l.length ∧ tkNum l t most = (N, ⟨q, false⟩)) := by
  unfold tkNum getA
  have hA := @readN_at l t.pos
  generalize readN l t.pos = r at *
  obtain ⟨N, P, E⟩ := r
  simp only at hA ⊢
  by_cases hb : t.bad = true
  · exact .inl ⟨_, _, _, rfl, if_pos (.inl hb), .inl hb⟩
  by_cases hz : E = 0
  · subst hz
    obtain ⟨q, rfl, _, hq⟩ := hA rfl
    simp only [if_true, Int.toNat_natCast]
    by_cases hN : 9223372036854775807 < N
    · rw [if_pos hN, if_pos (.inr (.inr (by omega)))]
      exact .inl ⟨0, 0, 501, rfl, rfl, .inr (.inl (by decide))⟩
    · rw [if_neg hN]
      by_cases c : most < N
      · rw [if_pos (.inr (.inr c))]
        exact .inl ⟨_, _, _, rfl, rfl, .inr (.inr (by omega))⟩
      · rw [if_neg (by rintro (h | h | h); exact hb h; exact h rfl; exact c h)]
        exact .inr ⟨N, q, rfl, by simpa using hb, by omega, hq, rfl⟩
  · rw [if_neg hz, if_pos (.inr (.inl hz))]
    exact .inl ⟨0, 0, E, rfl, rfl, .inr (.inl hz)⟩

set_option maxRecDepth 100000 in
set_option maxHeartbeats 1000000 in
theorem tknum_any (w : World) (g : Nat) (s : ByteArray) (t : Tk) (h : TkAt w g s t) (hs : s.size ≤ 281474976710648) (most : Nat) (hm : most ≤ 9223372036854775807) :
    Calls Tryz.prog 62 #[.pointer (some ⟨g, 0, none⟩), .int .i64 (most : Int)] w fun e w' => e = .returned (.int .i64 ((tkNum s.data.toList t most).1 : Int)) ∧ TkAt w' g s (tkNum s.data.toList t most).2 ∧ Frm (fun k => k = g) w w' := by
  have T := Lib.hid (runvar_any s hs (t.pos : Int))
  have H := Lib.hid h
  have hc := tkNum_cases s.data.toList t most hm
  have hl : s.data.toList.length = s.size := (size_list s).symm
  rw [hl] at hc
  generalize getA (readN s.data.toList (t.pos : Int)) = r at *
  obtain ⟨x, z, e⟩ := r
  have T : Hid (∀ w : World, Calls Tryz.prog 99 #[.string s, .int .i64 (t.pos : Int)] w fun e' w' => e' = .returned (.tuple #[.int .i64 x, .int .i64 z, .int .i64 e]) ∧ w = w') := T
  rcases hc with ⟨x', z', e', he, hR, hw⟩ | ⟨N, q, he, hb, hle, hq, hR⟩
  · rw [hR]
    injection he with h1 h2
    injection h2 with h2 h3
    subst h1 h2 h3
    clear hR h hl
    cases hb : t.bad with
    | true =>
      clear hw
      go_enter Tryz.func62, Tryz.ntmps62
      go_upto_region 1 with fail
      refine region_class (fun w' => Below w.heap.size w w') (by kernel_rfl) (by kernel_rfl) (Below.refl _ _).drew ?_
      repeat (
        refine wpQuiet_step (fun K hK => ?_)
        go_simp
        first
        | (refine hK _ ?_; clear hK K)
        | (apply Exists.intro
           refine ⟨fun w1 hw1 => ?_, hK _ ?_⟩
           (first
             | (exact rfl)
             | (obtain ⟨⟨p0, p1, p2⟩, _⟩ := (H.out.below hw1).at; simp only [p0, p1, p2, Result.andThen]; exact ⟨trivial, rfl⟩)
             | (go_at_call 99; exact (T.out _).mono fun e w2 ⟨he, hb⟩ => ⟨he, by rw [← hb]; exact hw1⟩))
           clear hK K))
      refine wpQuiet_nil ?_
      intro w2 hw2
      have HR := Lib.hid (H.out.below hw2)
      have HW := Lib.hid hw2
      clear hw2
      obtain ⟨⟨c0, c1, c2⟩, f0, f1, f2⟩ := HR.out.at
      rw [hb] at c2
      go_wp2
      go_ret
      exact ⟨rfl, HR.out.brk, (Frm.of_new HW.out _).trans (frm_cell w2 g 2 _)⟩
    | false =>
      by_cases hz : e = 0
      · subst hz
        have hlt : (most : Int) < x := by
          rcases hw with hw | hw | hw
          · rw [hb] at hw; cases hw
          · exact absurd rfl hw
          · exact hw
        have hnb : decide ((most : Int) < x) = true := by simpa using hlt
        clear hw
        go_enter Tryz.func62, Tryz.ntmps62
        go_upto_region 1 with fail
        refine region_class (fun w' => Below w.heap.size w w') (by kernel_rfl) (by kernel_rfl) (Below.refl _ _).drew ?_
        repeat (
          refine wpQuiet_step (fun K hK => ?_)
          go_simp
          first
          | (refine hK _ ?_; clear hK K)
          | (apply Exists.intro
             refine ⟨fun w1 hw1 => ?_, hK _ ?_⟩
             (first
               | (exact rfl)
               | (obtain ⟨⟨p0, p1, p2⟩, _⟩ := (H.out.below hw1).at; simp only [p0, p1, p2, Result.andThen]; exact ⟨trivial, rfl⟩)
               | (go_at_call 99; exact (T.out _).mono fun e w2 ⟨he, hb⟩ => ⟨he, by rw [← hb]; exact hw1⟩))
             clear hK K))
        refine wpQuiet_nil ?_
        intro w2 hw2
        have HR := Lib.hid (H.out.below hw2)
        have HW := Lib.hid hw2
        clear hw2
        obtain ⟨⟨c0, c1, c2⟩, f0, f1, f2⟩ := HR.out.at
        rw [hb] at c2
        go_wp2
        go_ret
        exact ⟨rfl, HR.out.brk, (Frm.of_new HW.out _).trans (frm_cell w2 g 2 _)⟩
      · have hnb : (e != 0) = true := by simpa using hz
        clear hw
        go_enter Tryz.func62, Tryz.ntmps62
        go_upto_region 1 with fail
        refine region_class (fun w' => Below w.heap.size w w') (by kernel_rfl) (by kernel_rfl) (Below.refl _ _).drew ?_
        repeat (
          refine wpQuiet_step (fun K hK => ?_)
          go_simp
          first
          | (refine hK _ ?_; clear hK K)
          | (apply Exists.intro
             refine ⟨fun w1 hw1 => ?_, hK _ ?_⟩
             (first
               | (exact rfl)
               | (obtain ⟨⟨p0, p1, p2⟩, _⟩ := (H.out.below hw1).at; simp only [p0, p1, p2, Result.andThen]; exact ⟨trivial, rfl⟩)
               | (go_at_call 99; exact (T.out _).mono fun e w2 ⟨he, hb⟩ => ⟨he, by rw [← hb]; exact hw1⟩))
             clear hK K))
        refine wpQuiet_nil ?_
        intro w2 hw2
        have HR := Lib.hid (H.out.below hw2)
        have HW := Lib.hid hw2
        clear hw2
        obtain ⟨⟨c0, c1, c2⟩, f0, f1, f2⟩ := HR.out.at
        rw [hb] at c2
        go_wp2
        go_ret
        exact ⟨rfl, HR.out.brk, (Frm.of_new HW.out _).trans (frm_cell w2 g 2 _)⟩
  · injection he with h1 h2
    injection h2 with h2 h3
    subst h1 h2 h3
    rw [hR]
    have hnb : decide ((most : Int) < (N : Int)) = false := by simpa using hle
    have hnl : ¬ most < N := by omega
    have HQ := Lib.hid hq
    clear hR hle h hl hq
    go_enter Tryz.func62, Tryz.ntmps62
    go_upto_region 1 with fail
    refine region_class (fun w' => Below w.heap.size w w') (by kernel_rfl) (by kernel_rfl) (Below.refl _ _).drew ?_
    repeat (
      refine wpQuiet_step (fun K hK => ?_)
      go_simp
      first
      | (refine hK _ ?_; clear hK K)
      | (apply Exists.intro
         refine ⟨fun w1 hw1 => ?_, hK _ ?_⟩
         (first
           | (exact rfl)
           | (obtain ⟨⟨p0, p1, p2⟩, _⟩ := (H.out.below hw1).at; simp only [p0, p1, p2, Result.andThen]; exact ⟨trivial, rfl⟩)
           | (go_at_call 99; exact (T.out _).mono fun e w2 ⟨he, hb⟩ => ⟨he, by rw [← hb]; exact hw1⟩))
         clear hK K))
    refine wpQuiet_nil ?_
    intro w2 hw2
    have HR := Lib.hid (H.out.below hw2)
    have HW := Lib.hid hw2
    clear hw2
    obtain ⟨⟨c0, c1, c2⟩, f0, f1, f2⟩ := HR.out.at
    rw [hb] at c2
    go_wp2
    go_ret
    have hfin := HR.out.go q HQ.out
    rw [hb] at hfin
    exact ⟨rfl, hfin, (Frm.of_new HW.out _).trans (frm_cell w2 g 1 _)⟩

set_option maxRecDepth 100000 in
set_option maxHeartbeats 1000000 in
theorem tkbytes_any (w : World) (g : Nat) (s : ByteArray) (t : Tk) (h : TkAt w g s t) (hs : s.size ≤ 281474976710648) (k : Nat) (hk : k ≤ 9007199254740992) :
    Calls Tryz.prog 72 #[.pointer (some ⟨g, 0, none⟩), .int .i64 (k : Int)] w fun e w' => e = .returned (.string (textB (tkBytes s.data.toList t k).1)) ∧ TkAt w' g s (tkBytes s.data.toList t k).2 ∧ Frm (fun k => k = g) w w' := by
  have hl : s.data.toList.length = s.size := (size_list s).symm
  have HX := Lib.hid (slice_text s t.pos k)
  have H := Lib.hid h
  have hle := h.le
  unfold tkBytes
  rw [hl]
  have e1 : wrap64 ((s.size : Int) - (t.pos : Int)) = (s.size : Int) - (t.pos : Int) := by unfold wrap64; omega
  have e2 : wrap64 ((t.pos : Int) + (k : Int)) = ((t.pos + k : Nat) : Int) := by unfold wrap64; omega
  have e3 : wrap64 (((t.pos + k : Nat) : Int) - (k : Int)) = (t.pos : Int) := by unfold wrap64; omega
  cases hb : t.bad with
  | true =>
    rw [if_pos (.inl rfl)]
    clear e1 e2 e3 HX hk hl hle h
    obtain ⟨⟨c0, c1, c2⟩, f0, f1, f2⟩ := H.out.at
    rw [hb] at c2
    go_enter Tryz.func72, Tryz.ntmps72
    go_upto_region 1 with fail
    go_quiet (fail)
    have HR : Hid (TkAt (w.drewN nq) g s t) := H.out.same rfl
    have HW : Hid (Frm (fun k => k = g) w (w.drewN nq)) := (Frm.refl _ _).same rfl rfl rfl rfl
    generalize w.drewN nq = w2 at *
    clear c0 c1 c2 f0 f1 f2
    obtain ⟨⟨c0, c1, c2⟩, f0, f1, f2⟩ := HR.out.at
    rw [hb] at c2
    go_wp2
    go_ret
    exact ⟨rfl, HR.out.brk, HW.out.trans (frm_cell w2 g 2 _)⟩
  | false =>
    by_cases c : s.size < t.pos + k
    · rw [if_pos (.inr c)]
      have hc : decide ((s.size : Int) - (t.pos : Int) < (k : Int)) = true := decide_eq_true (by omega)
      have hc2 : decide ((k : Int) < 0) = false := decide_eq_false (by omega)
      have hc3 : (s.size : Int) - (t.pos : Int) < (k : Int) := by omega
      clear e2 e3 HX hl hle h
      obtain ⟨⟨c0, c1, c2⟩, f0, f1, f2⟩ := H.out.at
      rw [hb] at c2
      go_enter Tryz.func72, Tryz.ntmps72
      go_upto_region 1 with fail
      go_quiet (fail)
      have HR : Hid (TkAt (w.drewN nq) g s t) := H.out.same rfl
      have HW : Hid (Frm (fun k => k = g) w (w.drewN nq)) := (Frm.refl _ _).same rfl rfl rfl rfl
      generalize w.drewN nq = w2 at *
      clear c0 c1 c2 f0 f1 f2
      obtain ⟨⟨c0, c1, c2⟩, f0, f1, f2⟩ := HR.out.at
      rw [hb] at c2
      go_wp2
      go_ret
      exact ⟨rfl, HR.out.brk, HW.out.trans (frm_cell w2 g 2 _)⟩
    · rw [if_neg (by rintro (h | h); cases h; exact c h)]
      have hc : decide ((s.size : Int) - (t.pos : Int) < (k : Int)) = false := decide_eq_false (by omega)
      have hc2 : decide ((k : Int) < 0) = false := decide_eq_false (by omega)
      have hc3 : ¬ (s.size : Int) - (t.pos : Int) < (k : Int) := by omega
      have hc4 : ¬ (k : Int) < 0 := by omega
      have hz : t.pos + k ≤ s.size := by omega
      simp only
      rw [← HX.out]
      have HZ := Lib.hid hz
      have hpz : t.pos ≤ t.pos + k := by omega
      clear HX hl h
      obtain ⟨z, hzz⟩ : ∃ z, z = t.pos + k := ⟨_, rfl⟩
      have e4 : (z : Int) - (k : Int) = (t.pos : Int) := by omega
      have HZC : Hid ((z : Int) = (t.pos : Int) + (k : Int)) := by unfold Hid; omega
      rw [← hzz] at e2 e3 hz hpz HZ ⊢
      clear hzz c
      have E4 := Lib.hid e4
      clear e4
      obtain ⟨⟨c0, c1, c2⟩, f0, f1, f2⟩ := H.out.at
      rw [hb] at c2
      go_enter Tryz.func72, Tryz.ntmps72
      go_upto_region 1 with fail
      go_quiet (fail)
      have HR : Hid (TkAt (w.drewN nq) g s t) := H.out.same rfl
      have HW : Hid (Frm (fun k => k = g) w (w.drewN nq)) := (Frm.refl _ _).same rfl rfl rfl rfl
      generalize w.drewN nq = w2 at *
      clear c0 c1 c2 f0 f1 f2
      obtain ⟨⟨c0, c1, c2⟩, f0, f1, f2⟩ := HR.out.at
      rw [hb] at c2
      go_wp2
      go_upto_region 5 with fail
      have HR3 := Lib.hid (HR.out.go z HZ.out)
      have HF3 := Lib.hid (HW.out.trans (frm_cell w2 g 1 (.int .i64 (z : Int))))
      rw [← HZC.out]
      generalize w2.setCell ⟨g, 1, none⟩ (.int .i64 (z : Int)) = w3 at *
      have e4 := E4.out
      clear HR c0 c1 c2 f0 f1 f2
      obtain ⟨⟨c0, c1, c2⟩, f0, f1, f2⟩ := HR3.out.at
      simp only at c1 c2
      go_wp2
      go_quiet (fail)
      go_wp2
      go_ret
      have hfin := HR3.out
      rw [hb] at hfin
      exact ⟨rfl, hfin.same rfl, HF3.out.same rfl rfl rfl rfl⟩
end Go.Proofs.YtlgfaajmonjpmaaGreat
