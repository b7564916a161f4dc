/- The document's taker: a value, numbers in few bits. -/
import Derived.Test.YtlgfaajmonjpmaaGreatTk
import Derived.Handy
namespace Go.Proofs.YtlgfaajmonjpmaaGreat
open Go.Conc Go.RowKit
set_option linter.unusedVariables false
set_option linter.unusedSimpArgs false

/-- A value is stored in a block of one's own: the taker stays. -/
theorem tk_store {w u : World} {g r0 : Nat} {s : ByteArray} {t : Tk} {z : V} (hk : TkAt u g s t) (hs : Slot u r0 z) (hf : Frm (fun k => k = g) w u) (hr : r0 = w.heap.size) (hg : g < w.heap.size) (p : V) :
    TkAt ((((u.setCell ⟨r0, 0, none⟩ (.int .i64 p.k)).setCell ⟨r0, 1, none⟩ (.int .i64 p.i)).setCell ⟨r0, 2, none⟩ (.bool p.b)).setCell ⟨r0, 3, none⟩ (.string p.s)) g s t ∧
    Slot ((((u.setCell ⟨r0, 0, none⟩ (.int .i64 p.k)).setCell ⟨r0, 1, none⟩ (.int .i64 p.i)).setCell ⟨r0, 2, none⟩ (.bool p.b)).setCell ⟨r0, 3, none⟩ (.string p.s)) r0 p ∧
    Frm (fun k => k = g) w ((((u.setCell ⟨r0, 0, none⟩ (.int .i64 p.k)).setCell ⟨r0, 1, none⟩ (.int .i64 p.i)).setCell ⟨r0, 2, none⟩ (.bool p.b)).setCell ⟨r0, 3, none⟩ (.string p.s)) := by
  have hgr : ¬ g = r0 := by omega
  refine ⟨hk.frm (Frm.chain (u := u) (g := r0) (F := fun k => k = r0) rfl p) hgr, hs.store p, ?_⟩
  have hA := hf.mono (F' := fun k => k = g ∨ k = r0) (fun k _ hk => .inl hk)
  refine (hA.trans (Frm.chain (u := u) (g := r0) (F := fun k => k = g ∨ k = r0) (.inr rfl) p)).mono (fun k hk h => ?_)
  rcases h with h | h
  · exact h
  · omega

theorem tkZag_cases (l : List UInt8) (t : Tk) :
    (∃ x z e, zagA (readN l t.pos) = (x, z, e) ∧ tkValue l t 1 = (zeroV, ⟨t.pos, true⟩) ∧ (t.bad = true ∨ e ≠ 0)) ∨
    (∃ x, ∃ q : Nat, zagA (readN l t.pos) = (x, (q : Int), 0) ∧ t.bad = false ∧ q ≤ l.length ∧ tkValue l t 1 = (⟨1, x, false, ByteArray.empty⟩, ⟨q, false⟩)) := by
  have hV : tkValue l t 1 = (if t.bad = true ∨ (readN l t.pos).2.2 ≠ 0 then (zeroV, ⟨t.pos, true⟩) else (⟨1, unzz (readN l t.pos).1, false, ByteArray.empty⟩, ⟨(readN l t.pos).2.1.toNat, false⟩)) := by unfold tkValue; rw [if_pos rfl]
  rw [hV]
  clear hV
  unfold zagA
  have hA := @readN_at l t.pos
  generalize readN l t.pos = r at *
  obtain ⟨N, P, E⟩ := r
  simp only at hA ⊢
  by_cases hb : t.bad = true
  · exact .inl ⟨_, _, _, rfl, if_pos (.inl hb), .inl hb⟩
  by_cases hz : E = 0
  · subst hz
    obtain ⟨q, rfl, _, hq⟩ := hA rfl
    simp only [if_true, Int.toNat_natCast]
    rw [if_neg (by rintro (h | h); exact hb h; exact h rfl)]
    exact .inr ⟨_, q, rfl, by simpa using hb, hq, rfl⟩
  · rw [if_neg hz, if_pos (.inr hz)]
    exact .inl ⟨0, 0, E, rfl, rfl, .inr hz⟩
theorem tkBytes_len (l : List UInt8) (t : Tk) (k : Nat) : (tkBytes l t k).1.length ≤ k := by
  unfold tkBytes
  split
  · exact Nat.zero_le _
  · exact List.length_take_le _ _
theorem tkNum_most (l : List UInt8) (t : Tk) (most : Nat) : (tkNum l t most).1 ≤ most := by
  unfold tkNum
  split
  · exact Nat.zero_le _
  · rename_i h
    simp only
    have := fun x => h (.inr (.inr x))
    omega

set_option maxRecDepth 100000 in
set_option maxHeartbeats 2000000 in
theorem tkint_any (w : World) (g : Nat) (s : ByteArray) (t : Tk) (h : TkAt w g s t) (hs : s.size ≤ 281474976710648) :
    Calls Tryz.prog 101 #[.pointer (some ⟨g, 0, none⟩), .int .i64 1] w fun e w' => e = .returned (.agg #[.int .i64 (tkValue s.data.toList t 1).1.k, .int .i64 (tkValue s.data.toList t 1).1.i, .bool (tkValue s.data.toList t 1).1.b, .string (tkValue s.data.toList t 1).1.s]) ∧ TkAt w' g s (tkValue s.data.toList t 1).2 ∧ Frm (fun k => k = g) w w' := by
  have T := Lib.hid (rzag_any s hs (t.pos : Int))
  have hc := tkZag_cases s.data.toList t
  have hl : s.data.toList.length = s.size := (size_list s).symm
  rw [hl] at hc
  generalize zagA (readN s.data.toList (t.pos : Int)) = r at *
  obtain ⟨x, z, e⟩ := r
  have T : Hid (∀ w : World, Calls Tryz.prog 134 #[.string s, .int .i64 (t.pos : Int)] w fun e' w' => e' = .returned (.tuple #[.int .i64 x, .int .i64 z, .int .i64 e]) ∧ w = w') := T
  have HL := Lib.hid h.lt
  have HS0 := Lib.hid (Slot.new w ⟨0, 0, false, ⟨#[]⟩⟩)
  have HF0 := Lib.hid (show Frm (fun k => k = g) w (w.alloc (.cells #[.int .i64 0, .int .i64 0, .bool false, .string ⟨#[]⟩] 24)) from (Frm.refl _ _).alloc _)
  rcases hc with ⟨x', z', e', he, hR, hw⟩ | ⟨N, q, he, hb, hq, hR⟩
  · rw [hR]
    injection he with h1 h2
    injection h2 with h2 h3
    subst h1 h2 h3
    clear hR hl
    cases hb : t.bad with
    | true =>
      clear hw
      go_enter Tryz.func101, Tryz.ntmps101
      go_upto_region 1 with fail
      obtain ⟨r0, hr0⟩ : ∃ r0, r0 = w.heap.size := ⟨_, rfl⟩
      have HR00 := Lib.hid hr0
      rw [← hr0] at HS0 ⊢
      clear hr0
      have H := Lib.hid (h.alloc (.cells #[.int .i64 0, .int .i64 0, .bool false, .string ⟨#[]⟩] 24))
      clear h
      generalize w.alloc (.cells #[.int .i64 0, .int .i64 0, .bool false, .string ⟨#[]⟩] 24) = u at *
      go_upto_region 3 with fail
      refine region_class (fun w' => Below u.heap.size u w') (by kernel_rfl) (by kernel_rfl) (Below.refl _ _).drew ?_
      repeat (
        refine wpQuiet_step (fun K hK => ?_)
        go_simp
        first
        | (refine hK _ ?_; clear hK K)
        | (apply Exists.intro
           refine ⟨fun w1 hw1 => ?_, hK _ ?_⟩
           (first
             | (exact rfl)
             | (obtain ⟨⟨p0, p1, p2⟩, _⟩ := (H.out.below hw1).at; simp only [p0, p1, p2, Result.andThen]; exact ⟨trivial, rfl⟩)
             | (go_at_call 134; exact (T.out _).mono fun e w2 ⟨he, hb⟩ => ⟨he, by rw [← hb]; exact hw1⟩))
           clear hK K))
      refine wpQuiet_nil ?_
      intro w2 hw2
      have HR := Lib.hid (H.out.below hw2)
      have HW := Lib.hid hw2
      clear hw2
      obtain ⟨⟨c0, c1, c2⟩, f0, f1, f2⟩ := HR.out.at
      rw [hb] at c2
      have hs2 := HS0.out.below HW.out
      have HS2 := Lib.hid hs2
      obtain ⟨⟨m0, m1, m2, m3⟩, y0, y1, y2, y3⟩ := hs2.at
      have HF2 := Lib.hid (HF0.out.trans (Frm.of_new HW.out _))
      have hgr : ¬ g = r0 := by have h1 := HL.out; have h2 := HR00.out; omega
      have hrg : ¬ r0 = g := fun h => hgr h.symm
      clear hs2
      go_wp2
      obtain ⟨k1, k2, k3⟩ := tk_store (w := w) HR.out.brk (HS2.out.other (a := ⟨g, 2, none⟩) (u := .bool true) hgr) (HF2.out.trans (frm_cell w2 g 2 (.bool true))) HR00.out HL.out ⟨0, 0, false, ⟨#[]⟩⟩
      generalize hW : World.setCell _ _ _ = w7 at k1 k2 k3 ⊢
      clear hW
      try simp only at k1 k2 k3
      clear c0 c1 c2 f0 f1 f2 m0 m1 m2 m3 y0 y1 y2 y3
      obtain ⟨⟨c0, c1, c2, c3⟩, _⟩ := k2.at
      try simp only [Exit.inBlock, Exit.then]
      refine bodyPost_ret (v := .agg #[.int .i64 0, .int .i64 0, .bool false, .string ⟨#[]⟩]) (by simp [results, Tryz.results101, go_sem, c0, c1, c2, c3]) rfl ?_
      exact ⟨rfl, k1, k3⟩
    | false =>
      have hz : e ≠ 0 := by
        rcases hw with hw | hw
        · rw [hb] at hw; cases hw
        · exact hw
      have hnb : (e != 0) = true := by simpa using hz
      clear hw
      go_enter Tryz.func101, Tryz.ntmps101
      go_upto_region 1 with fail
      obtain ⟨r0, hr0⟩ : ∃ r0, r0 = w.heap.size := ⟨_, rfl⟩
      have HR00 := Lib.hid hr0
      rw [← hr0] at HS0 ⊢
      clear hr0
      have H := Lib.hid (h.alloc (.cells #[.int .i64 0, .int .i64 0, .bool false, .string ⟨#[]⟩] 24))
      clear h
      generalize w.alloc (.cells #[.int .i64 0, .int .i64 0, .bool false, .string ⟨#[]⟩] 24) = u at *
      go_upto_region 3 with fail
      refine region_class (fun w' => Below u.heap.size u w') (by kernel_rfl) (by kernel_rfl) (Below.refl _ _).drew ?_
      repeat (
        refine wpQuiet_step (fun K hK => ?_)
        go_simp
        first
        | (refine hK _ ?_; clear hK K)
        | (apply Exists.intro
           refine ⟨fun w1 hw1 => ?_, hK _ ?_⟩
           (first
             | (exact rfl)
             | (obtain ⟨⟨p0, p1, p2⟩, _⟩ := (H.out.below hw1).at; simp only [p0, p1, p2, Result.andThen]; exact ⟨trivial, rfl⟩)
             | (go_at_call 134; exact (T.out _).mono fun e w2 ⟨he, hb⟩ => ⟨he, by rw [← hb]; exact hw1⟩))
           clear hK K))
      refine wpQuiet_nil ?_
      intro w2 hw2
      have HR := Lib.hid (H.out.below hw2)
      have HW := Lib.hid hw2
      clear hw2
      obtain ⟨⟨c0, c1, c2⟩, f0, f1, f2⟩ := HR.out.at
      rw [hb] at c2
      have hs2 := HS0.out.below HW.out
      have HS2 := Lib.hid hs2
      obtain ⟨⟨m0, m1, m2, m3⟩, y0, y1, y2, y3⟩ := hs2.at
      have HF2 := Lib.hid (HF0.out.trans (Frm.of_new HW.out _))
      have hgr : ¬ g = r0 := by have h1 := HL.out; have h2 := HR00.out; omega
      have hrg : ¬ r0 = g := fun h => hgr h.symm
      clear hs2
      go_wp2
      obtain ⟨k1, k2, k3⟩ := tk_store (w := w) HR.out.brk (HS2.out.other (a := ⟨g, 2, none⟩) (u := .bool true) hgr) (HF2.out.trans (frm_cell w2 g 2 (.bool true))) HR00.out HL.out ⟨0, 0, false, ⟨#[]⟩⟩
      generalize hW : World.setCell _ _ _ = w7 at k1 k2 k3 ⊢
      clear hW
      try simp only at k1 k2 k3
      clear c0 c1 c2 f0 f1 f2 m0 m1 m2 m3 y0 y1 y2 y3
      obtain ⟨⟨c0, c1, c2, c3⟩, _⟩ := k2.at
      try simp only [Exit.inBlock, Exit.then]
      refine bodyPost_ret (v := .agg #[.int .i64 0, .int .i64 0, .bool false, .string ⟨#[]⟩]) (by simp [results, Tryz.results101, go_sem, c0, c1, c2, c3]) rfl ?_
      exact ⟨rfl, k1, k3⟩
  · injection he with h1 h2
    injection h2 with h2 h3
    subst h1 h2 h3
    rw [hR]
    have HQ := Lib.hid hq
    clear hR hl hq
    go_enter Tryz.func101, Tryz.ntmps101
    go_upto_region 1 with fail
    obtain ⟨r0, hr0⟩ : ∃ r0, r0 = w.heap.size := ⟨_, rfl⟩
    have HR00 := Lib.hid hr0
    rw [← hr0] at HS0 ⊢
    clear hr0
    have H := Lib.hid (h.alloc (.cells #[.int .i64 0, .int .i64 0, .bool false, .string ⟨#[]⟩] 24))
    clear h
    generalize w.alloc (.cells #[.int .i64 0, .int .i64 0, .bool false, .string ⟨#[]⟩] 24) = u at *
    go_upto_region 3 with fail
    refine region_class (fun w' => Below u.heap.size u w') (by kernel_rfl) (by kernel_rfl) (Below.refl _ _).drew ?_
    repeat (
      refine wpQuiet_step (fun K hK => ?_)
      go_simp
      first
      | (refine hK _ ?_; clear hK K)
      | (apply Exists.intro
         refine ⟨fun w1 hw1 => ?_, hK _ ?_⟩
         (first
           | (exact rfl)
           | (obtain ⟨⟨p0, p1, p2⟩, _⟩ := (H.out.below hw1).at; simp only [p0, p1, p2, Result.andThen]; exact ⟨trivial, rfl⟩)
           | (go_at_call 134; exact (T.out _).mono fun e w2 ⟨he, hb⟩ => ⟨he, by rw [← hb]; exact hw1⟩))
         clear hK K))
    refine wpQuiet_nil ?_
    intro w2 hw2
    have HR := Lib.hid (H.out.below hw2)
    have HW := Lib.hid hw2
    clear hw2
    obtain ⟨⟨c0, c1, c2⟩, f0, f1, f2⟩ := HR.out.at
    rw [hb] at c2
    have hs2 := HS0.out.below HW.out
    have HS2 := Lib.hid hs2
    obtain ⟨⟨m0, m1, m2, m3⟩, y0, y1, y2, y3⟩ := hs2.at
    have HF2 := Lib.hid (HF0.out.trans (Frm.of_new HW.out _))
    have hgr : ¬ g = r0 := by have h1 := HL.out; have h2 := HR00.out; omega
    have hrg : ¬ r0 = g := fun h => hgr h.symm
    clear hs2
    go_wp2
    obtain ⟨k1, k2, k3⟩ := tk_store (w := w) (HR.out.go q HQ.out) (HS2.out.other (a := ⟨g, 1, none⟩) (u := .int .i64 (q : Int)) hgr) (HF2.out.trans (frm_cell w2 g 1 (.int .i64 (q : Int)))) HR00.out HL.out ⟨1, x, false, ⟨#[]⟩⟩
    rw [hb] at k1
    generalize hW : World.setCell _ _ _ = w7 at k1 k2 k3 ⊢
    clear hW
    try simp only at k1 k2 k3
    clear c0 c1 c2 f0 f1 f2 m0 m1 m2 m3 y0 y1 y2 y3
    obtain ⟨⟨c0, c1, c2, c3⟩, _⟩ := k2.at
    try simp only [Exit.inBlock, Exit.then]
    refine bodyPost_ret (v := .agg #[.int .i64 1, .int .i64 x, .bool false, .string ⟨#[]⟩]) (by simp [results, Tryz.results101, go_sem, c0, c1, c2, c3]) rfl ?_
    exact ⟨rfl, k1, k3⟩

set_option maxRecDepth 100000 in
set_option maxHeartbeats 2000000 in
theorem tkbool_any (w : World) (g : Nat) (s : ByteArray) (t : Tk) (h : TkAt w g s t) (hs : s.size ≤ 281474976710648) :
    Calls Tryz.prog 101 #[.pointer (some ⟨g, 0, none⟩), .int .i64 2] w fun e w' => e = .returned (.agg #[.int .i64 (tkValue s.data.toList t 2).1.k, .int .i64 (tkValue s.data.toList t 2).1.i, .bool (tkValue s.data.toList t 2).1.b, .string (tkValue s.data.toList t 2).1.s]) ∧ TkAt w' g s (tkValue s.data.toList t 2).2 ∧ Frm (fun k => k = g) w w' := by
  have T := Lib.hid (fun (u : World) (h : TkAt u g s t) => tkbytes_any u g s t h hs 1 (by omega))
  have hR : tkValue s.data.toList t 2 = (⟨2, 0, decide ((tkBytes s.data.toList t 1).1 = [1]), ByteArray.empty⟩, (tkBytes s.data.toList t 1).2) := by
    unfold tkValue; rw [if_neg (by decide), if_pos rfl]
  rw [hR]
  generalize tkBytes s.data.toList t 1 = r at *
  obtain ⟨x, t2⟩ := r
  have T : Hid (∀ u : World, TkAt u g s t → Calls Tryz.prog 72 #[.pointer (some ⟨g, 0, none⟩), .int .i64 1] u fun e w' => e = .returned (.string (textB x)) ∧ TkAt w' g s t2 ∧ Frm (fun k => k = g) u w') := T
  simp only
  have hq : ((textB x).toList == [1]) = decide (x = [1]) := by
    rw [ByteArray.toList_eq, textB_list]
    by_cases c : x = [1]
    · subst c; rfl
    · rw [decide_eq_false c]; simpa using c
  generalize decide (x = [1]) = b at *
  generalize textB x = y at *
  have HL := Lib.hid h.lt
  have HS0 := Lib.hid (Slot.new w ⟨0, 0, false, ⟨#[]⟩⟩)
  have HF0 := Lib.hid (show Frm (fun k => k = g) w (w.alloc (.cells #[.int .i64 0, .int .i64 0, .bool false, .string ⟨#[]⟩] 24)) from (Frm.refl _ _).alloc _)
  clear hR
  go_enter Tryz.func101, Tryz.ntmps101
  go_upto_region 1 with fail
  obtain ⟨r0, hr0⟩ : ∃ r0, r0 = w.heap.size := ⟨_, rfl⟩
  have HR00 := Lib.hid hr0
  rw [← hr0] at HS0 ⊢
  clear hr0
  have H := Lib.hid (h.alloc (.cells #[.int .i64 0, .int .i64 0, .bool false, .string ⟨#[]⟩] 24))
  clear h
  generalize w.alloc (.cells #[.int .i64 0, .int .i64 0, .bool false, .string ⟨#[]⟩] 24) = u at *
  have hgr : ¬ g = r0 := by have h1 := HL.out; have h2 := HR00.out; omega
  have hrg : ¬ r0 = g := fun h => hgr h.symm
  cases b with
  | true =>
    go_wp2_with (go_at_call 72; refine (T.out u H.out).mono ?_; rintro e w5 ⟨rfl, hr5, hf5⟩; have HR := Lib.hid hr5; have HF5 := Lib.hid hf5; have hs5 := HS0.out.same (hf5.block r0 HS0.out.lt hrg); have HS2 := Lib.hid hs5; obtain ⟨⟨m0, m1, m2, m3⟩, y0, y1, y2, y3⟩ := hs5.at; clear hr5 hf5 hs5)
    obtain ⟨k1, k2, k3⟩ := tk_store (w := w) HR.out HS2.out (HF0.out.trans HF5.out) HR00.out HL.out ⟨2, 0, true, ⟨#[]⟩⟩
    generalize hW : World.setCell _ _ _ = w7 at k1 k2 k3 ⊢
    clear hW
    try simp only at k1 k2 k3
    clear m0 m1 m2 m3 y0 y1 y2 y3
    obtain ⟨⟨c0, c1, c2, c3⟩, _⟩ := k2.at
    try simp only [Exit.inBlock, Exit.then]
    refine bodyPost_ret (v := .agg #[.int .i64 2, .int .i64 0, .bool true, .string ⟨#[]⟩]) (by simp [results, Tryz.results101, go_sem, c0, c1, c2, c3]) rfl ?_
    exact ⟨rfl, k1, k3⟩
  | false =>
    go_wp2_with (go_at_call 72; refine (T.out u H.out).mono ?_; rintro e w5 ⟨rfl, hr5, hf5⟩; have HR := Lib.hid hr5; have HF5 := Lib.hid hf5; have hs5 := HS0.out.same (hf5.block r0 HS0.out.lt hrg); have HS2 := Lib.hid hs5; obtain ⟨⟨m0, m1, m2, m3⟩, y0, y1, y2, y3⟩ := hs5.at; clear hr5 hf5 hs5)
    obtain ⟨k1, k2, k3⟩ := tk_store (w := w) HR.out HS2.out (HF0.out.trans HF5.out) HR00.out HL.out ⟨2, 0, false, ⟨#[]⟩⟩
    generalize hW : World.setCell _ _ _ = w7 at k1 k2 k3 ⊢
    clear hW
    try simp only at k1 k2 k3
    clear m0 m1 m2 m3 y0 y1 y2 y3
    obtain ⟨⟨c0, c1, c2, c3⟩, _⟩ := k2.at
    try simp only [Exit.inBlock, Exit.then]
    refine bodyPost_ret (v := .agg #[.int .i64 2, .int .i64 0, .bool false, .string ⟨#[]⟩]) (by simp [results, Tryz.results101, go_sem, c0, c1, c2, c3]) rfl ?_
    exact ⟨rfl, k1, k3⟩

set_option maxRecDepth 100000 in
set_option maxHeartbeats 2000000 in
theorem tktext_any (w : World) (g : Nat) (s : ByteArray) (t : Tk) (h : TkAt w g s t) (hs : s.size ≤ 281474976710648) :
    Calls Tryz.prog 101 #[.pointer (some ⟨g, 0, none⟩), .int .i64 3] w fun e w' => e = .returned (.agg #[.int .i64 (tkValue s.data.toList t 3).1.k, .int .i64 (tkValue s.data.toList t 3).1.i, .bool (tkValue s.data.toList t 3).1.b, .string (tkValue s.data.toList t 3).1.s]) ∧ TkAt w' g s (tkValue s.data.toList t 3).2 ∧ Frm (fun k => k = g) w w' := by
  have TN := Lib.hid (fun (u : World) (h : TkAt u g s t) => tknum_any u g s t h hs 64 (by omega))
  have hR : tkValue s.data.toList t 3 = (⟨3, 0, false, textB (tkBytes s.data.toList (tkNum s.data.toList t 64).2 (tkNum s.data.toList t 64).1).1⟩, (tkBytes s.data.toList (tkNum s.data.toList t 64).2 (tkNum s.data.toList t 64).1).2) := by
    unfold tkValue; rw [if_neg (by decide), if_neg (by decide)]
  rw [hR]
  have hm := tkNum_most s.data.toList t 64
  generalize tkNum s.data.toList t 64 = r at *
  obtain ⟨m, t1⟩ := r
  simp only at hm
  have T := Lib.hid (fun (u : World) (h : TkAt u g s t1) => tkbytes_any u g s t1 h hs m (by omega))
  simp only
  generalize tkBytes s.data.toList t1 m = r at *
  obtain ⟨x, t2⟩ := r
  have TN : Hid (∀ u : World, TkAt u g s t → Calls Tryz.prog 62 #[.pointer (some ⟨g, 0, none⟩), .int .i64 64] u fun e w' => e = .returned (.int .i64 (m : Int)) ∧ TkAt w' g s t1 ∧ Frm (fun k => k = g) u w') := TN
  have T : Hid (∀ u : World, TkAt u g s t1 → Calls Tryz.prog 72 #[.pointer (some ⟨g, 0, none⟩), .int .i64 (m : Int)] u fun e w' => e = .returned (.string (textB x)) ∧ TkAt w' g s t2 ∧ Frm (fun k => k = g) u w') := T
  simp only
  generalize textB x = y at *
  have HL := Lib.hid h.lt
  have HS0 := Lib.hid (Slot.new w ⟨0, 0, false, ⟨#[]⟩⟩)
  have HF0 := Lib.hid (show Frm (fun k => k = g) w (w.alloc (.cells #[.int .i64 0, .int .i64 0, .bool false, .string ⟨#[]⟩] 24)) from (Frm.refl _ _).alloc _)
  clear hR hm
  go_enter Tryz.func101, Tryz.ntmps101
  go_upto_region 1 with fail
  obtain ⟨r0, hr0⟩ : ∃ r0, r0 = w.heap.size := ⟨_, rfl⟩
  have HR00 := Lib.hid hr0
  rw [← hr0] at HS0 ⊢
  clear hr0
  have H := Lib.hid (h.alloc (.cells #[.int .i64 0, .int .i64 0, .bool false, .string ⟨#[]⟩] 24))
  clear h
  generalize w.alloc (.cells #[.int .i64 0, .int .i64 0, .bool false, .string ⟨#[]⟩] 24) = u at *
  have hgr : ¬ g = r0 := by have h1 := HL.out; have h2 := HR00.out; omega
  have hrg : ¬ r0 = g := fun h => hgr h.symm
  go_wp2_with (first
    | (go_at_call 62; refine (TN.out u H.out).mono ?_; rintro e w4 ⟨rfl, hr4, hf4⟩; have HR4 := Lib.hid hr4; have HF4 := Lib.hid hf4; have HS4 := Lib.hid (HS0.out.same (hf4.block r0 HS0.out.lt hrg)); clear hr4 hf4)
    | (go_at_call 72; refine (T.out w4 HR4.out).mono ?_; rintro e w5 ⟨rfl, hr5, hf5⟩; have HR := Lib.hid hr5; have HF5 := Lib.hid hf5; have hs5 := HS4.out.same (hf5.block r0 HS4.out.lt hrg); have HS2 := Lib.hid hs5; obtain ⟨⟨m0, m1, m2, m3⟩, y0, y1, y2, y3⟩ := hs5.at; clear hr5 hf5 hs5))
  obtain ⟨k1, k2, k3⟩ := tk_store (w := w) HR.out HS2.out ((HF0.out.trans HF4.out).trans HF5.out) HR00.out HL.out ⟨3, 0, false, y⟩
  generalize hW : World.setCell _ _ _ = w7 at k1 k2 k3 ⊢
  clear hW
  try simp only at k1 k2 k3
  clear m0 m1 m2 m3 y0 y1 y2 y3
  obtain ⟨⟨c0, c1, c2, c3⟩, _⟩ := k2.at
  try simp only [Exit.inBlock, Exit.then]
  refine bodyPost_ret (v := .agg #[.int .i64 3, .int .i64 0, .bool false, .string y]) (by simp [results, Tryz.results101, go_sem, c0, c1, c2, c3]) rfl ?_
  exact ⟨rfl, k1, k3⟩

theorem tkvalue_any (w : World) (g : Nat) (s : ByteArray) (t : Tk) (h : TkAt w g s t) (hs : s.size ≤ 281474976710648) (k : Int) (hk : 1 ≤ k ∧ k ≤ 3) :
    Calls Tryz.prog 101 #[.pointer (some ⟨g, 0, none⟩), .int .i64 k] w fun e w' => e = .returned (.agg #[.int .i64 (tkValue s.data.toList t k).1.k, .int .i64 (tkValue s.data.toList t k).1.i, .bool (tkValue s.data.toList t k).1.b, .string (tkValue s.data.toList t k).1.s]) ∧ TkAt w' g s (tkValue s.data.toList t k).2 ∧ Frm (fun k => k = g) w w' := by
  rcases (show k = 1 ∨ k = 2 ∨ k = 3 by omega) with rfl | rfl | rfl
  · exact tkint_any w g s t h hs
  · exact tkbool_any w g s t h hs
  · exact tktext_any w g s t h hs

theorem tp_sums (p : Nat) (hp : p ≤ 1048576) : wrap64 (p : Int) = (p : Int) ∧ wrap64 ((p : Int) + 7) = (p : Int) + 7 ∧ wrap64 (((p : Int) + 7).tdiv 8) = (((p + 7) / 8 : Nat) : Int) := by
  refine ⟨?_, ?_, ?_⟩
  · unfold wrap64; omega
  · unfold wrap64; omega
  · rw [Int.tdiv_eq_ediv_of_nonneg (by omega)]; unfold wrap64; omega

set_option maxRecDepth 100000 in
set_option maxHeartbeats 2000000 in
theorem tkpacked_any (w : World) (g : Nat) (s : ByteArray) (t : Tk) (h : TkAt w g s t) (hs : s.size ≤ 281474976710648) (many wd : Nat) (hm : many ≤ 4096) (hw : wd ≤ 16) :
    Calls Tryz.prog 63 #[.pointer (some ⟨g, 0, none⟩), .int .i64 (many : Int), .int .i64 (wd : Int)] w fun e w' => ∃ a cap, e = .returned (.slice a (tkPacked s.data.toList t many wd).1.length cap) ∧ OwnI w.heap.size w' a cap (tkPacked s.data.toList t many wd).1 ∧ TkAt w' g s (tkPacked s.data.toList t many wd).2 ∧ Frm (fun k => k = g) w w' := by
  have hbm := bytes_most many wd (by omega) hw
  obtain ⟨e1', e2, e3⟩ := tp_sums (many * wd) hbm
  have e1 : wrap64 ((many : Int) * (wd : Int)) = ((many * wd : Nat) : Int) := by rw [← Int.natCast_mul]; exact e1'
  have T := Lib.hid (fun (u : World) (h : TkAt u g s t) => tkbytes_any u g s t h hs ((many * wd + 7) / 8) (by omega))
  have H := Lib.hid h
  have HL := Lib.hid h.lt
  unfold tkPacked
  have hm1 : ¬ ((4096 : Int) < (many : Int)) := by omega
  have hm2 : decide ((4096 : Int) < (many : Int)) = false := decide_eq_false hm1
  cases hb : t.bad with
  | true =>
    rw [if_pos (.inl rfl)]
    obtain ⟨⟨c0, c1, c2⟩, f0, f1, f2⟩ := h.at
    rw [hb] at c2
    clear e1' e1 e2 e3 hbm T h
    go_enter Tryz.func63, Tryz.ntmps63
    go_wp2
    go_ret
    exact ⟨none, 0, rfl, OwnI.nil _ _, H.out.brk, frm_cell w g 2 _⟩
  | false =>
    rw [if_neg (by rintro (h | h); cases h; omega)]
    have hq : (many * wd + 7) / 8 ≤ 281474976710648 := by omega
    generalize (many * wd + 7) / 8 = q at *
    generalize many * wd = p at *
    have hxl := tkBytes_len s.data.toList t q
    generalize tkBytes s.data.toList t q = r at *
    obtain ⟨x, t2⟩ := r
    simp only at T hxl ⊢
    have hxs : (textB x).size ≤ 281474976710648 := by rw [textB_size]; omega
    generalize textB x = y at *
    have T2 := Lib.hid (fun u => runpack_any u y hxs many wd)
    generalize unpackA y (many : Int) (wd : Int) = r at *
    obtain ⟨xs, E⟩ := r
    have T2 : Hid (∀ u : World, Calls Tryz.prog 100 #[.string y, .int .i64 (many : Int), .int .i64 (wd : Int)] u fun e w' => ∃ a cap, e = .returned (.tuple #[.slice a xs.length cap, .int .i64 E]) ∧ OwnI u.heap.size w' a cap xs ∧ Below u.heap.size u w') := T2
    simp only
    obtain ⟨⟨c0, c1, c2⟩, f0, f1, f2⟩ := h.at
    rw [hb] at c2
    clear e1' hbm h hxl hxs hq
    cases hb2 : t2.bad with
    | true =>
      go_enter Tryz.func63, Tryz.ntmps63
      go_wp2_with (first
        | (go_at_call 72; refine (T.out w H.out).mono ?_; rintro e w4 ⟨rfl, hr4, hf4⟩; have HR4 := Lib.hid hr4; have HF4 := Lib.hid hf4; clear hr4 hf4 c0 c1 c2 f0 f1 f2)
        | (go_at_call 100; refine (T2.out _).mono ?_; rintro e w5 ⟨a, cap, rfl, ho, hb5⟩; have hr5 := HR4.out.below hb5; have HR5 := Lib.hid hr5; obtain ⟨⟨c0, c1, c2⟩, f0, f1, f2⟩ := hr5.at; rw [hb2] at c2; have HO := Lib.hid ho; have HB5 := Lib.hid hb5; clear hr5 ho hb5))
      go_ret
      refine ⟨a, cap, rfl, ?_, ?_, (HF4.out.trans (Frm.of_new HB5.out _)).trans (frm_cell w5 g 2 _)⟩
      · exact OwnI.lower (OwnI.frm HO.out (frm_cell w5 g 2 _) fun k hk _ e => by have := (HO.out.at_ge hk).1; have h2 := HL.out; have h3 := HF4.out.size; omega) HF4.out.size
      · exact HR5.out.mark true
    | false =>
      by_cases hE : E = 0
      · subst hE
        go_enter Tryz.func63, Tryz.ntmps63
        go_wp2_with (first
          | (go_at_call 72; refine (T.out w H.out).mono ?_; rintro e w4 ⟨rfl, hr4, hf4⟩; have HR4 := Lib.hid hr4; have HF4 := Lib.hid hf4; clear hr4 hf4 c0 c1 c2 f0 f1 f2)
          | (go_at_call 100; refine (T2.out _).mono ?_; rintro e w5 ⟨a, cap, rfl, ho, hb5⟩; have hr5 := HR4.out.below hb5; have HR5 := Lib.hid hr5; obtain ⟨⟨c0, c1, c2⟩, f0, f1, f2⟩ := hr5.at; rw [hb2] at c2; have HO := Lib.hid ho; have HB5 := Lib.hid hb5; clear hr5 ho hb5))
        go_ret
        refine ⟨a, cap, rfl, ?_, ?_, (HF4.out.trans (Frm.of_new HB5.out _)).trans (frm_cell w5 g 2 _)⟩
        · exact OwnI.lower (OwnI.frm HO.out (frm_cell w5 g 2 _) fun k hk _ e => by have := (HO.out.at_ge hk).1; have h2 := HL.out; have h3 := HF4.out.size; omega) HF4.out.size
        · exact HR5.out.mark false
      · have hnE : (E != 0) = true := by simpa using hE
        have hdE : decide (E ≠ 0) = true := decide_eq_true hE
        go_enter Tryz.func63, Tryz.ntmps63
        go_wp2_with (first
          | (go_at_call 72; refine (T.out w H.out).mono ?_; rintro e w4 ⟨rfl, hr4, hf4⟩; have HR4 := Lib.hid hr4; have HF4 := Lib.hid hf4; clear hr4 hf4 c0 c1 c2 f0 f1 f2)
          | (go_at_call 100; refine (T2.out _).mono ?_; rintro e w5 ⟨a, cap, rfl, ho, hb5⟩; have hr5 := HR4.out.below hb5; have HR5 := Lib.hid hr5; obtain ⟨⟨c0, c1, c2⟩, f0, f1, f2⟩ := hr5.at; rw [hb2] at c2; have HO := Lib.hid ho; have HB5 := Lib.hid hb5; clear hr5 ho hb5))
        go_ret
        refine ⟨a, cap, rfl, ?_, ?_, (HF4.out.trans (Frm.of_new HB5.out _)).trans (frm_cell w5 g 2 _)⟩
        · exact OwnI.lower (OwnI.frm HO.out (frm_cell w5 g 2 _) fun k hk _ e => by have := (HO.out.at_ge hk).1; have h2 := HL.out; have h3 := HF4.out.size; omega) HF4.out.size
        · rw [hdE]; exact HR5.out.mark true
end Go.Proofs.YtlgfaajmonjpmaaGreat
