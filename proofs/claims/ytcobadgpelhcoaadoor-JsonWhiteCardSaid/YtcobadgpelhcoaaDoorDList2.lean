/- The program's parser: lists that are not empty. -/
import Derived.Test.YtcobadgpelhcoaaDoorDList
namespace Go.Proofs.YtcobadgpelhcoaaDoor
open Go.Conc Go.RowKit
set_option linter.unusedVariables false
set_option linter.unusedSimpArgs false

/-- A list so far, behind a value. -/
structure LsAt (pb d : Nat) (s : ByteArray) (w wr : World) (k : Nat) (acc : List J) (cs : List (List Value)) (lv : Value) : Prop where
  pat : JPAt wr pb s k (d + 1)
  jb : J6 wr (w.heap.size + 1) (.int .i64 4) (.bool false) (.int .i64 0) (.string ⟨#[]⟩) lv (.slice none 0 0)
  rb : J6 wr w.heap.size (.int .i64 0) (.bool false) (.int .i64 0) (.string ⟨#[]⟩) (.slice none 0 0) (.slice none 0 0)
  own : wr.ownsRow (w.heap.size + 2) 25 6 lv acc.length cs.flatten
  js : JsInU (fun g => w.heap.size + 2 ≤ g ∧ lv.ownBlock ≠ some g) wr acc cs
  frm : Frm (One pb) w wr
theorem LsAt.drew {pb d k : Nat} {s : ByteArray} {w wr : World} {acc : List J} {cs : List (List Value)} {lv : Value} (h : LsAt pb d s w wr k acc cs lv) : LsAt pb d s w wr.drew k acc cs lv :=
  ⟨h.pat, h.jb, h.rb, own_same h.own fun _ _ _ => rfl, h.js.imp fun _ _ hj => hj.same (fun _ _ _ => rfl) (Nat.le_refl _), h.frm.drew⟩
theorem LsAt.flat {pb d k : Nat} {s : ByteArray} {w wr : World} {acc : List J} {cs : List (List Value)} {lv : Value} (h : LsAt pb d s w wr k acc cs lv) : cs.flatten.length = acc.length * 6 := h.js.flat
theorem own_slice {w : World} {base e size n : Nat} {v : Value} {xs : List Value} (h : w.ownsRow base e size v n xs) : ∃ a c, v = .slice a n c := by
  rcases h.2 with ⟨rfl, h0⟩ | ⟨g, cap, cur, rfl, _⟩
  · subst h0; exact ⟨none, 0, rfl⟩
  · exact ⟨_, _, rfl⟩
theorem six_of {c : List Value} (h : c.length = 6) : ∃ x0 x1 x2 x3 x4 x5, c = [x0, x1, x2, x3, x4, x5] := by
  match c, h with
  | [x0, x1, x2, x3, x4, x5], _ => exact ⟨x0, x1, x2, x3, x4, x5, rfl⟩
theorem six_news (w : World) (x0 x1 x2 x3 x4 x5 : Value) : ∀ (j : Nat) (u : Value), [x0, x1, x2, x3, x4, x5][j]? = some u → (w.alloc (.cells #[x0, x1, x2, x3, x4, x5] 25)).cell? ((⟨w.heap.size, 0, none⟩ : Addr).add j) = some u := by
  intro j u h
  have hn := j6_new w x0 x1 x2 x3 x4 x5
  have e : (⟨w.heap.size, 0, none⟩ : Addr).add j = ⟨w.heap.size, j, none⟩ := by unfold Addr.add; cases j <;> simp
  rw [e]
  rcases (by have := List.getElem?_eq_some_iff.1 h; obtain ⟨h, _⟩ := this; simp at h; omega : j = 0 ∨ j = 1 ∨ j = 2 ∨ j = 3 ∨ j = 4 ∨ j = 5) with rfl | rfl | rfl | rfl | rfl | rfl
  · rw [hn.c0]; simpa using h
  · rw [hn.c1]; simpa using h
  · rw [hn.c2]; simpa using h
  · rw [hn.c3]; simpa using h
  · rw [hn.c4]; simpa using h
  · rw [hn.c5]; simpa using h
theorem LsAt.step {pb d k k2 : Nat} {s : ByteArray} {w wr w1 : World} {acc : List J} {cs : List (List Value)} {lv : Value} {j : J} {c : List Value} (h : LsAt pb d s w wr k acc cs lv) (hlt : pb < w.heap.size)
    (hp : JPAt w1 pb s k2 (d + 1)) (hf : Frm (One pb) wr w1) (hj : JInU (fun g => wr.heap.size ≤ g) w1 j c) (o : Obj) (w2 : World) (v' : Value) (hg : (w1.alloc o).grownBy w2 lv.ownBlock) (hn : NewRow (w1.alloc o) lv v')
    (hown : w2.ownsRow (w.heap.size + 2) 25 6 v' (acc.length + 1) (cs.flatten ++ c)) : LsAt pb d s w (w2.setCell ⟨w.heap.size + 1, 4, none⟩ v') k2 (acc ++ [j]) (cs ++ [c]) v' := by
  have hb : ∀ g, lv.ownBlock = some g → w.heap.size + 2 ≤ g ∧ g < wr.heap.size := by
    intro g hg
    refine ⟨own_block h.own hg.symm, ?_⟩
    rcases h.own.2 with ⟨rfl, _⟩ | ⟨g', cap, cur, rfl, hb, hgg, _⟩
    · simp [Value.ownBlock] at hg
    · simp only [Value.ownBlock, Option.some.injEq] at hg; subst hg; exact (Array.getElem?_eq_some_iff.1 hgg).1
  have hjlt := h.jb.lt
  have hsz := hf.size
  have hag : ∀ g, g < w1.heap.size → lv.ownBlock ≠ some g → w2.heap[g]? = w1.heap[g]? := fun g hl hne =>
    (hg.block g (by simp; omega) (fun e => hne e.symm)).trans (Below.heap_alloc _ _ _ hl)
  have hsz2 : w1.heap.size ≤ w2.heap.size := by have := hg.size; simp at this; omega
  have hset : ∀ g, g ≠ w.heap.size + 1 → (w2.setCell ⟨w.heap.size + 1, 4, none⟩ v').heap[g]? = w2.heap[g]? := fun g hne => Below.heap_setCell _ _ _ _ hne
  have jb2 : J6 w2 (w.heap.size + 1) (.int .i64 4) (.bool false) (.int .i64 0) (.string ⟨#[]⟩) lv (.slice none 0 0) :=
    (hag _ (by omega) (fun e => by have := hb _ e; omega)).trans (h.jb.frm hf (by unfold One; omega))
  refine ⟨?_, jb2.set4 v', ?_, ?_, ?_, ?_⟩
  · exact (hset pb (by omega)).trans ((hag pb hp.lt (fun e => by have := hb _ e; omega)).trans hp)
  · exact (hset _ (by omega)).trans ((hag _ (by omega) (fun e => by have := hb _ e; omega)).trans (h.rb.frm hf (by unfold One; omega)))
  · rw [List.flatten_append]
    simp only [List.flatten_cons, List.flatten_nil, List.append_nil, List.length_append, List.length_cons, List.length_nil]
    exact own_same hown fun g hb hl => hset g (by omega)
  · have hv' : ∀ g, v'.ownBlock = some g → lv.ownBlock = some g ∨ w1.heap.size < g := fun g e => (hn g e).imp id fun h => by simp at h; omega
    have keep : ∀ {F : Nat → Prop} {q : J} {c : List Value}, JInU F w1 q c → (∀ g, g < w1.heap.size → F g → w.heap.size + 2 ≤ g ∧ lv.ownBlock ≠ some g) → JInU (fun g => w.heap.size + 2 ≤ g ∧ v'.ownBlock ≠ some g) (w2.setCell ⟨w.heap.size + 1, 4, none⟩ v') q c := by
      intro F q c hq hF
      have h1 : JInU (fun g => (w.heap.size + 2 ≤ g ∧ lv.ownBlock ≠ some g) ∧ g < w1.heap.size) w1 q c := hq.mono fun g hl hFg => ⟨hF g hl hFg, hl⟩
      have h2 := h1.same (w' := w2.setCell ⟨w.heap.size + 1, 4, none⟩ v') (fun g hFg hl => (hset g (by have := hFg.1.1; omega)).trans (hag g hl hFg.1.2)) (by simpa [World.setCell] using hsz2)
      exact h2.mono fun g _ hFg => ⟨hFg.1.1, fun e => by rcases hv' g e with h | h; exact hFg.1.2 h; have := hFg.2; omega⟩
    refine JsInU.snoc (h.js.imp fun q c hq => keep (hq.frm hf fun g hg _ => by have := hg.1; unfold One; omega) fun g _ hg => hg) (keep hj fun g _ hg => ⟨by omega, fun e => by have := hb _ e; omega⟩)
  · have f1 := h.frm.trans hf
    have hwsz := h.frm.size
    refine ⟨hg.os.trans f1.os, hg.tape.trans f1.tape, hg.output.trans f1.output, ?_, fun g hl hn => ?_⟩
    · have := f1.size; simp [World.setCell]; omega
    · exact (hset g (by omega)).trans ((hag g (by omega) (fun e => by have := hb _ e; omega)).trans (f1.block g hl hn))
theorem LsAt.jbw {pb d k : Nat} {s : ByteArray} {w wr w1 : World} {acc : List J} {cs : List (List Value)} {lv : Value} (h : LsAt pb d s w wr k acc cs lv) (hf : Frm (One pb) wr w1) (hlt : pb < w.heap.size) (o : Obj) (w2 : World) (hg : (w1.alloc o).grownBy w2 lv.ownBlock) :
    J6 w2 (w.heap.size + 1) (.int .i64 4) (.bool false) (.int .i64 0) (.string ⟨#[]⟩) lv (.slice none 0 0) := by
  have h1 := h.jb.frm hf (by unfold One; omega)
  have hl := h1.lt
  exact (hg.block _ (by simp; omega) (fun e => by have := own_block h.own e; omega)).trans ((Below.heap_alloc _ _ _ hl).trans h1)

theorem LsAt.fin {pb d k : Nat} {s : ByteArray} {w w3 w4 v : World} {acc : List J} {cs : List (List Value)} {lv : Value} (h : LsAt pb d s w w3 k acc cs lv) (hlt : pb < w.heap.size) (hf : Frm (One pb) w3 w4) (hv : Frm (One w.heap.size) w4 v) :
    JInU (fun g => w.heap.size ≤ g) v (jList acc) [.int .i64 4, .bool false, .int .i64 0, .string ⟨#[]⟩, lv, .slice none 0 0] ∧ Frm (One pb) w v := by
  have o4 := own_frm h.own hf fun g hg hgp => by have : g = pb := hgp; omega
  have o5 := own_frm o4 hv fun g hg hgp => by have : g = w.heap.size := hgp; omega
  have j5 : JsInU (fun g => w.heap.size ≤ g) v acc cs := h.js.imp fun q c hq =>
    ((hq.frm hf fun g hg _ hgp => by have : g = pb := hgp; have := hg.1; omega).frm hv fun g hg _ hgp => by have : g = w.heap.size := hgp; have := hg.1; omega).mono fun g _ hg => by have := hg.1; omega
  refine ⟨JInU.mk 4 false 0 ⟨#[]⟩ acc [] lv _ cs (row_of_ownU o5 fun k hk => by have := own_block o5 hk.symm; omega) ⟨rfl, none, 0, rfl, .inl rfl⟩ j5.1 j5.2, frm_new_one (h.frm.trans hf) (Nat.le_refl _) hv⟩

theorem LsAt.pass {pb d k k2 : Nat} {s : ByteArray} {w w3 w4 w5 : World} {acc : List J} {cs : List (List Value)} {lv : Value} (h : LsAt pb d s w w3 k acc cs lv) (hlt : pb < w.heap.size) (h4 : Frm (One pb) w3 w4) (h5 : Frm (One pb) w4 w5) (hp : JPAt w5 pb s k2 (d + 1)) :
    LsAt pb d s w w5 k2 acc cs lv := by
  have hf := h4.trans h5
  exact ⟨hp, h.jb.frm hf (by unfold One; omega), h.rb.frm hf (by unfold One; omega), own_frm h.own hf fun g hg hgp => (by have : g = pb := hgp; omega), h.js.imp fun q c hq => hq.frm hf fun g hg _ hgp => (by have : g = pb := hgp; have := hg.1; omega), h.frm.trans hf⟩

/-- The loop of a list goes on. -/
def JLs (pb d i : Nat) (s : ByteArray) (f : Nat → Rd J) (R : Rd J) (w : World) (g : Nat) (wr : World) : Prop :=
  ∃ (k : Nat) (acc : List J) (cs : List (List Value)) (lv : Value), k ≤ s.size ∧ i ≤ k ∧ s.size + 1 ≤ k + g ∧ Hid (listAt s.data.toList f g k acc = R) ∧ acc.length ≤ k ∧ LsAt pb d s w wr k acc cs lv

set_option maxHeartbeats 8000000 in
set_option maxRecDepth 100000 in
theorem jlist_some (pb : Nat) (s : ByteArray) (i d k0 : Nat) (f : Nat → Rd J) (HS : SubOk pb s (d + 1) f) (w : World) (h : JPAt w pb s i d) (hi1 : i + 1 ≤ s.size) (hs : s.size ≤ 65536) (hd : d < 16) (hk0 : skipW s.data.toList (i + 1) = k0) (hk0s : k0 ≤ s.size) (hk0i : i + 1 ≤ k0) (h93 : ¬ pk s.data.toList k0 = 93) :
    Calls Tryd.prog 69 #[.pointer (some ⟨pb, 0, none⟩)] w (JV pb s i d (listAt s.data.toList f (s.size + 1) k0 []) w) := by
  have hlt := h.lt
  have HL := Lib.hid (show s.data.toList.length = s.size by simp)
  have H := Lib.hid h
  have HK0 := Lib.hid hk0
  have HC := Lib.hid h93
  have HSS := Lib.hid HS
  clear h h93 hk0 HS
  have B0 := Lib.hid (j6_new w (.int .i64 0) (.bool false) (.int .i64 0) (.string ⟨#[]⟩) (.slice none 0 0) (.slice none 0 0))
  generalize hR : listAt s.data.toList f (s.size + 1) k0 [] = R
  have HR := Lib.hid hR
  clear hR
  go_enter Tryd.func69, Tryd.ntmps69
  go_wp2_with (first
      | (go_at_call 80
         have hB := Lib.hid (j6_new1 w (.cells #[.int .i64 0, .bool false, .int .i64 0, .string ⟨#[]⟩, .slice none 0 0, .slice none 0 0] 25) (.int .i64 4) (.bool false) (.int .i64 0) (.string ⟨#[]⟩) (.slice none 0 0) (.slice none 0 0))
         have hR0 := Lib.hid (j6_alloc B0.out (.cells #[.int .i64 4, .bool false, .int .i64 0, .string ⟨#[]⟩, .slice none 0 0, .slice none 0 0] 25))
         have hA := Lib.hid (((Frm.refl (One pb) w).alloc (.cells #[.int .i64 0, .bool false, .int .i64 0, .string ⟨#[]⟩, .slice none 0 0, .slice none 0 0] 25)).alloc (.cells #[.int .i64 4, .bool false, .int .i64 0, .string ⟨#[]⟩, .slice none 0 0, .slice none 0 0] 25))
         have hP := Lib.hid (H.out.below ((((Below.refl _ w).alloc (Nat.le_refl _) (.cells #[.int .i64 0, .bool false, .int .i64 0, .string ⟨#[]⟩, .slice none 0 0, .slice none 0 0] 25))).alloc (by simp) (.cells #[.int .i64 4, .bool false, .int .i64 0, .string ⟨#[]⟩, .slice none 0 0, .slice none 0 0] 25)))
         refine (jopen_yes pb s i d _ hP.out hi1 hs hd).mono ?_; rintro e w1 ⟨rfl, hp, hf⟩; rw [HK0.out] at hp
         have HP1 := Lib.hid hp; have HF1 := Lib.hid hf; clear hp hf)
      | (go_at_call 81; refine (jcloses_no pb s 93 k0 (d + 1) _ HP1.out hs HC.out).mono ?_; rintro e w2 ⟨rfl, hp, hf⟩; have HP2 := Lib.hid hp; have HF2 := Lib.hid hf; clear hp hf
         have HB2 := Lib.hid ((hB.out.frm HF1.out (by unfold One; omega)).frm HF2.out (by unfold One; omega))
         have HR2 := Lib.hid ((hR0.out.frm HF1.out (by unfold One; omega)).frm HF2.out (by unfold One; omega))))
  go_loopg [] (s.size + 1) (fun g wr => JLs pb d i s f R w g wr)
  case atStart => exact ⟨k0, [], [], .slice none 0 0, hk0s, by omega, by omega, HR.out, by simp, HP2.out, HB2.out, HR2.out, World.ownsRow_nil _ _ _ _, JsInU.nil _ _, (hA.out.trans HF1.out).trans HF2.out⟩
  case round =>
    clear HB2 HR2 HP2 hB hR0 hA hP HP1 HF1 HF2 HC HK0 B0 HR
    obtain ⟨k, acc, cs, lv, hk, hki, hkg, hla, hacc, hls⟩ := hrel
    obtain ⟨g, rfl⟩ : ∃ g, gk = g + 1 := ⟨gk - 1, by omega⟩
    have b4 := hls.jb.c4
    have HLS := Lib.hid hls
    have HF := Lib.hid hls.frm
    have hwsz := hls.jb.lt
    have HPb : Hid (∀ g, w.heap.size + 2 ≤ g → ¬ One pb g) := fun g hg hgp => by have : g = pb := hgp; omega
    clear hls
    have HV := Lib.hid (HSS.out k wr.drew HLS.out.pat hk)
    cases hV : f (skipW s.data.toList k) with
    | error c =>
      have hW : valW s.data.toList f k = .error c := by unfold valW; rw [hV]
      rw [hW] at HV
      obtain rfl : R = .error c := by rw [← hla.out]; unfold listAt; rw [hV]
      clear hV hW hla
      go_wp2
      refine wp_region_any (by kernel_rfl) ?_
      change wpAny _ _ _ _ _ _ _ (World.drew _)
      refine wpAny_take (i := 0) (v := ?_) rfl (by kernel_rfl) (by kernel_rfl) (by kernel_rfl) (fun _ _ _ h => h) (Or.inl ⟨by rfl, fun w => ?_⟩) ?_
      rotate_left
      · go_simp
        try with_reducible rfl
      try simp only [Go.Act.put, List.setIfInBounds_toArray, List.set_cons_zero, List.set_cons_succ]
      refine wpAny_take (i := 2) (v := ?_) rfl (by kernel_rfl) (by kernel_rfl) (by kernel_rfl) (fun _ _ _ h => h) (Or.inl ⟨by rfl, fun w => ?_⟩) ?_
      rotate_left
      · go_simp
        try with_reducible rfl
      try simp only [Go.Act.put, List.setIfInBounds_toArray, List.set_cons_zero, List.set_cons_succ]
      refine wpAny_ready (rs := [1, 3]) (by kernel_rfl) (by simp) (AllReady.cons rfl (fun K hK => ?_) (AllReady.cons rfl (fun K hK => ?_) (AllReady.nil)))
      · go_simp
        refine hK _ _ ?_
        clear hK K
        try simp only [Go.Act.put, List.setIfInBounds_toArray, List.set_cons_zero, List.set_cons_succ]
        refine wpAny_ready (rs := [3]) (by kernel_rfl) (by simp) (AllReady.cons rfl (fun K hK => ?_) (AllReady.nil))
        go_simp
        refine HV.out.mono ?_
        rintro e w1 ⟨rfl, hf⟩
        unfold thrown
        dsimp only
        exact ⟨rfl, rfl, HF.out.drew.trans hf⟩
      · go_simp
        refine HV.out.mono ?_
        rintro e w1 ⟨rfl, hf⟩
        unfold thrown
        dsimp only
        exact ⟨rfl, rfl, HF.out.drew.trans hf⟩
    | ok q =>
      obtain ⟨j, kv⟩ := q
      have hW : valW s.data.toList f k = .ok (j, skipW s.data.toList kv) := by unfold valW; rw [hV]
      rw [hW] at HV
      obtain ⟨k2, hk2⟩ : ∃ k2, k2 = skipW s.data.toList kv := ⟨_, rfl⟩
      rw [← hk2] at HV
      have HLA : Hid (R = (if wordAt [93] s.data.toList k2 then .ok (jList (acc ++ [j]), k2 + 1) else if wordAt [44] s.data.toList k2 then listAt s.data.toList f g (k2 + 1) (acc ++ [j]) else .error 300)) := by
        unfold Hid; rw [← hla.out, hk2]; conv => lhs; unfold listAt
        rw [hV]
      clear hV hW hla hk2
      go_wp2
      refine wp_region_any (by kernel_rfl) ?_
      change wpAny _ _ _ _ _ _ _ (World.drew _)
      refine wpAny_take (i := 0) (v := ?_) rfl (by kernel_rfl) (by kernel_rfl) (by kernel_rfl) (fun _ _ _ h => h) (Or.inl ⟨by rfl, fun w => ?_⟩) ?_
      rotate_left
      · go_simp
        try with_reducible rfl
      try simp only [Go.Act.put, List.setIfInBounds_toArray, List.set_cons_zero, List.set_cons_succ]
      refine wpAny_take (i := 2) (v := ?_) rfl (by kernel_rfl) (by kernel_rfl) (by kernel_rfl) (fun _ _ _ h => h) (Or.inl ⟨by rfl, fun w => ?_⟩) ?_
      rotate_left
      · go_simp
        try with_reducible rfl
      try simp only [Go.Act.put, List.setIfInBounds_toArray, List.set_cons_zero, List.set_cons_succ]
      refine wpAny_ready (rs := [1, 3]) (by kernel_rfl) (by simp) (AllReady.cons rfl (fun K hK => ?_) (AllReady.cons rfl (fun K hK => ?_) (AllReady.nil)))
      · go_simp
        refine hK _ _ ?_
        clear hK K
        try simp only [Go.Act.put, List.setIfInBounds_toArray, List.set_cons_zero, List.set_cons_succ]
        refine wpAny_ready (rs := [3]) (by kernel_rfl) (by simp) (AllReady.cons rfl (fun K hK => ?_) (AllReady.nil))
        go_simp
        refine HV.out.mono ?_
        rintro e w1 ⟨ccs, rfl, hik, hks, hp1, hf1, hj1⟩
        obtain ⟨x0, x1, x2, x3, x4, x5, rfl⟩ := six_of hj1.length
        have HST := Lib.hid (HLS.out.drew.step hlt hp1 hf1 hj1)
        have HJW := Lib.hid (HLS.out.drew.jbw hf1 hlt)
        have HO1 := Lib.hid (own_frm HLS.out.drew.own hf1 HPb.out)
        have B4 := (HLS.out.drew.jb.frm hf1 (by unfold One; omega)).c4
        have B4b := (j6_alloc (HLS.out.drew.jb.frm hf1 (by unfold One; omega)) (.cells #[x0, x1, x2, x3, x4, x5] 25)).c4
        have hsz1 := hf1.size
        have HJ1 := Lib.hid hj1
        clear hp1 hf1 hj1
        dsimp only
        refine hK _ _ ?_
        clear hK K
        try simp only [Go.Act.put, List.setIfInBounds_toArray, List.set_cons_zero, List.set_cons_succ]
        refine wpAny_ready (rs := [4]) (by kernel_rfl) (by simp) (AllReady.cons rfl (fun K hK => ?_) (AllReady.nil))
        go_simp
        refine hK _ _ ?_
        clear hK K
        try simp only [Go.Act.put, List.setIfInBounds_toArray, List.set_cons_zero, List.set_cons_succ]
        refine wpAny_ready (rs := [5]) (by kernel_rfl) (by simp) (AllReady.cons rfl (fun K hK => ?_) (AllReady.nil))
        refine step_append_json rfl _ _ rfl (w.heap.size + 2) (by simp at hsz1 ⊢; omega) lv acc.length cs.flatten [x0, x1, x2, x3, x4, x5] ⟨w1.heap.size, 0, none⟩ 1 (by rfl) (by rfl) (HO1.out.alloc _) HLS.out.flat (by omega) rfl HJ1.out.one (six_news w1 _ _ _ _ _ _) ?_
        intro lv' w2 hown hgrow hnew
        obtain ⟨la, lc, rfl⟩ := own_slice hown
        have HLS2 := Lib.hid (HST.out _ _ _ hgrow hnew hown)
        have HG := Lib.hid hgrow
        have HJ2 := HJW.out _ _ hgrow
        have hfz := HJ2.fz 4
        have hc4 := HJ2.c4
        clear hown hgrow hnew HST HJ2 HJW
        refine hK _ _ ?_
        clear hK K
        try simp only [Go.Act.put, List.setIfInBounds_toArray, List.set_cons_zero, List.set_cons_succ]
        refine wpAny_take (i := 6) (v := ?_) rfl (by kernel_rfl) (by kernel_rfl) (by kernel_rfl) (fun _ _ _ h => h) (Or.inl ⟨by rfl, fun w => ?_⟩) ?_
        rotate_left
        · go_simp
          try with_reducible rfl
        try simp only [Go.Act.put, List.setIfInBounds_toArray, List.set_cons_zero, List.set_cons_succ]
        refine wpAny_ready (rs := [7]) (by kernel_rfl) (by simp) (AllReady.cons rfl (fun K hK => ?_) (AllReady.nil))
        go_simp
        refine hK _ _ ?_
        clear hK K
        try simp only [Go.Act.put, List.setIfInBounds_toArray, List.set_cons_zero, List.set_cons_succ]
        refine wpAny_done (by kernel_rfl) ?_ _
        have HP3 := Lib.hid HLS2.out.pat
        generalize w2.setCell ⟨w.heap.size + 1, 4, none⟩ (.slice la (acc.length + 1) lc) = w3 at *
        clear hfz hc4 HG B4 B4b b4
        by_cases h93 : pk s.data.toList k2 = 93
        · obtain rfl : R = .ok (jList (acc ++ [j]), k2 + 1) := by rw [HLA.out, if_pos (by rw [show ([93] : List UInt8) = [UInt8.ofNat 93] from rfl, wordAt_one (by omega) (by omega)]; simpa using h93)]
          have hk3 : k2 + 1 ≤ s.size := by obtain ⟨_, _, _, h⟩ := pk_some h93 (by omega); rw [HL.out] at h; omega
          have HC := Lib.hid h93
          clear h93
          go_wp2_with (go_at_call 81; refine (jcloses_yes pb s 93 k2 d _ HP3.out hks hs hd HC.out).mono ?_; rintro e w4 ⟨rfl, hp, hf⟩; have HP4 := Lib.hid hp; have HF4 := Lib.hid hf; clear hp hf
                       have HB2 := Lib.hid (HLS2.out.jb.frm HF4.out (by unfold One; omega))
                       have HR2 := Lib.hid (HLS2.out.rb.frm HF4.out (by unfold One; omega))
                       have b0 := HB2.out.c0; have b1 := HB2.out.c1; have b2 := HB2.out.c2; have b3 := HB2.out.c3; have b4 := HB2.out.c4; have b5 := HB2.out.c5
                       have r0 := HR2.out.c0; have r1 := HR2.out.c1; have r2 := HR2.out.c2; have r3 := HR2.out.c3; have r4 := HR2.out.c4; have r5 := HR2.out.c5
                       have z0 := HR2.out.fz 0; have z1 := HR2.out.fz 1; have z2 := HR2.out.fz 2; have z3 := HR2.out.fz 3; have z4 := HR2.out.fz 4; have z5 := HR2.out.fz 5)
          have hv := HR2.out.fill (.int .i64 4) (.bool false) (.int .i64 0) (.string ⟨#[]⟩) (.slice la (acc.length + 1) lc) (.slice none 0 0)
          have hfv := frm_fill6 w4 w.heap.size (.int .i64 4) (.bool false) (.int .i64 0) (.string ⟨#[]⟩) (.slice la (acc.length + 1) lc) (.slice none 0 0)
          change bodyPost _ _ _ _ _ (Fill6 w4 w.heap.size (.int .i64 4) (.bool false) (.int .i64 0) (.string ⟨#[]⟩) (.slice la (acc.length + 1) lc) (.slice none 0 0))
          generalize Fill6 w4 w.heap.size (.int .i64 4) (.bool false) (.int .i64 0) (.string ⟨#[]⟩) (.slice la (acc.length + 1) lc) (.slice none 0 0) = v at *
          refine bodyPost_ret (v := .agg #[.int .i64 4, .bool false, .int .i64 0, .string ⟨#[]⟩, .slice la (acc.length + 1) lc, .slice none 0 0]) (by simp [results, Tryd.results69, go_sem, hv.c0, hv.c1, hv.c2, hv.c3, hv.c4, hv.c5]) rfl ?_
          have hfin := HLS2.out.fin hlt HF4.out hfv
          exact ⟨_, rfl, by omega, hk3, HP4.out.frm hfv (by unfold One; omega), hfin.2, hfin.1⟩
        have HLA2 := HLA.out
        rw [if_neg (by rw [show ([93] : List UInt8) = [UInt8.ofNat 93] from rfl, wordAt_one (by omega) (by omega)]; simpa using h93)] at HLA2
        have HC := Lib.hid h93
        clear h93 HLA
        cases h44 : wordAt [44] s.data.toList k2 with
        | true =>
          rw [h44, if_pos rfl] at HLA2
          have HLA := Lib.hid HLA2
          have hk3 : k2 + 1 ≤ s.size := by rw [show ([44] : List UInt8) = [UInt8.ofNat 44] from rfl, wordAt_one (by omega) (by omega)] at h44; obtain ⟨_, _, _, h⟩ := pk_some (of_decide_eq_true h44) (by omega); rw [HL.out] at h; omega
          have HW := Lib.hid h44
          clear h44 HLA2
          go_wp2_with (first
            | (go_at_call 81; refine (jcloses_no pb s 93 k2 (d + 1) _ HP3.out hs HC.out).mono ?_; rintro e w4 ⟨rfl, hp, hf⟩; have HP4 := Lib.hid hp; have HF4 := Lib.hid hf; clear hp hf)
            | (go_at_call 72; refine (jexpect_yes pb s ⟨#[44]⟩ k2 (d + 1) _ HP4.out hs hks (by decide) HW.out).mono ?_; rintro e w5 ⟨rfl, hp, hf⟩; have HP5 := Lib.hid hp; have HF5 := Lib.hid hf; clear hp hf))
          go_roundg g
          case rel => exact ⟨k2 + 1, acc ++ [j], cs ++ [[x0, x1, x2, x3, x4, x5]], _, hk3, by omega, by omega, HLA.out.symm, by simp; omega, HLS2.out.pass hlt HF4.out HF5.out HP5.out⟩
          case measure => omega
        | false =>
          obtain rfl : R = .error 300 := by rw [HLA2, h44]; rfl
          have HW := Lib.hid h44
          clear h44 HLA2
          go_wp2_with (first
            | (go_at_call 81; refine (jcloses_no pb s 93 k2 (d + 1) _ HP3.out hs HC.out).mono ?_; rintro e w4 ⟨rfl, hp, hf⟩; have HP4 := Lib.hid hp; have HF4 := Lib.hid hf; clear hp hf)
            | (go_at_call 72; refine (jexpect_no pb s ⟨#[44]⟩ k2 (d + 1) _ HP4.out hs hks (by decide) HW.out).mono ?_; rintro e w5 ⟨rfl, hf⟩; unfold thrown; have HF5 := Lib.hid hf; clear hf))
          exact ⟨rfl, rfl, (HLS2.out.frm.trans HF4.out).trans HF5.out⟩
      · go_simp
        refine HV.out.mono ?_
        rintro e w1 ⟨ccs, rfl, hik, hks, hp1, hf1, hj1⟩
        obtain ⟨x0, x1, x2, x3, x4, x5, rfl⟩ := six_of hj1.length
        have HST := Lib.hid (HLS.out.drew.step hlt hp1 hf1 hj1)
        have HJW := Lib.hid (HLS.out.drew.jbw hf1 hlt)
        have HO1 := Lib.hid (own_frm HLS.out.drew.own hf1 HPb.out)
        have B4 := (HLS.out.drew.jb.frm hf1 (by unfold One; omega)).c4
        have B4b := (j6_alloc (HLS.out.drew.jb.frm hf1 (by unfold One; omega)) (.cells #[x0, x1, x2, x3, x4, x5] 25)).c4
        have hsz1 := hf1.size
        have HJ1 := Lib.hid hj1
        clear hp1 hf1 hj1
        dsimp only
        refine hK _ _ ?_
        clear hK K
        try simp only [Go.Act.put, List.setIfInBounds_toArray, List.set_cons_zero, List.set_cons_succ]
        refine wpAny_ready (rs := [1, 4]) (by kernel_rfl) (by simp) (AllReady.cons rfl (fun K hK => ?_) (AllReady.cons rfl (fun K hK => ?_) (AllReady.nil)))
        · go_simp
          refine hK _ _ ?_
          clear hK K
          try simp only [Go.Act.put, List.setIfInBounds_toArray, List.set_cons_zero, List.set_cons_succ]
          refine wpAny_ready (rs := [4]) (by kernel_rfl) (by simp) (AllReady.cons rfl (fun K hK => ?_) (AllReady.nil))
          go_simp
          refine hK _ _ ?_
          clear hK K
          try simp only [Go.Act.put, List.setIfInBounds_toArray, List.set_cons_zero, List.set_cons_succ]
          refine wpAny_ready (rs := [5]) (by kernel_rfl) (by simp) (AllReady.cons rfl (fun K hK => ?_) (AllReady.nil))
          refine step_append_json rfl _ _ rfl (w.heap.size + 2) (by simp at hsz1 ⊢; omega) lv acc.length cs.flatten [x0, x1, x2, x3, x4, x5] ⟨w1.heap.size, 0, none⟩ 1 (by rfl) (by rfl) (HO1.out.alloc _) HLS.out.flat (by omega) rfl HJ1.out.one (six_news w1 _ _ _ _ _ _) ?_
          intro lv' w2 hown hgrow hnew
          obtain ⟨la, lc, rfl⟩ := own_slice hown
          have HLS2 := Lib.hid (HST.out _ _ _ hgrow hnew hown)
          have HG := Lib.hid hgrow
          have HJ2 := HJW.out _ _ hgrow
          have hfz := HJ2.fz 4
          have hc4 := HJ2.c4
          clear hown hgrow hnew HST HJ2 HJW
          refine hK _ _ ?_
          clear hK K
          try simp only [Go.Act.put, List.setIfInBounds_toArray, List.set_cons_zero, List.set_cons_succ]
          refine wpAny_take (i := 6) (v := ?_) rfl (by kernel_rfl) (by kernel_rfl) (by kernel_rfl) (fun _ _ _ h => h) (Or.inl ⟨by rfl, fun w => ?_⟩) ?_
          rotate_left
          · go_simp
            try with_reducible rfl
          try simp only [Go.Act.put, List.setIfInBounds_toArray, List.set_cons_zero, List.set_cons_succ]
          refine wpAny_ready (rs := [7]) (by kernel_rfl) (by simp) (AllReady.cons rfl (fun K hK => ?_) (AllReady.nil))
          go_simp
          refine hK _ _ ?_
          clear hK K
          try simp only [Go.Act.put, List.setIfInBounds_toArray, List.set_cons_zero, List.set_cons_succ]
          refine wpAny_done (by kernel_rfl) ?_ _
          have HP3 := Lib.hid HLS2.out.pat
          generalize w2.setCell ⟨w.heap.size + 1, 4, none⟩ (.slice la (acc.length + 1) lc) = w3 at *
          clear hfz hc4 HG B4 B4b b4
          by_cases h93 : pk s.data.toList k2 = 93
          · obtain rfl : R = .ok (jList (acc ++ [j]), k2 + 1) := by rw [HLA.out, if_pos (by rw [show ([93] : List UInt8) = [UInt8.ofNat 93] from rfl, wordAt_one (by omega) (by omega)]; simpa using h93)]
            have hk3 : k2 + 1 ≤ s.size := by obtain ⟨_, _, _, h⟩ := pk_some h93 (by omega); rw [HL.out] at h; omega
            have HC := Lib.hid h93
            clear h93
            go_wp2_with (go_at_call 81; refine (jcloses_yes pb s 93 k2 d _ HP3.out hks hs hd HC.out).mono ?_; rintro e w4 ⟨rfl, hp, hf⟩; have HP4 := Lib.hid hp; have HF4 := Lib.hid hf; clear hp hf
                         have HB2 := Lib.hid (HLS2.out.jb.frm HF4.out (by unfold One; omega))
                         have HR2 := Lib.hid (HLS2.out.rb.frm HF4.out (by unfold One; omega))
                         have b0 := HB2.out.c0; have b1 := HB2.out.c1; have b2 := HB2.out.c2; have b3 := HB2.out.c3; have b4 := HB2.out.c4; have b5 := HB2.out.c5
                         have r0 := HR2.out.c0; have r1 := HR2.out.c1; have r2 := HR2.out.c2; have r3 := HR2.out.c3; have r4 := HR2.out.c4; have r5 := HR2.out.c5
                         have z0 := HR2.out.fz 0; have z1 := HR2.out.fz 1; have z2 := HR2.out.fz 2; have z3 := HR2.out.fz 3; have z4 := HR2.out.fz 4; have z5 := HR2.out.fz 5)
            have hv := HR2.out.fill (.int .i64 4) (.bool false) (.int .i64 0) (.string ⟨#[]⟩) (.slice la (acc.length + 1) lc) (.slice none 0 0)
            have hfv := frm_fill6 w4 w.heap.size (.int .i64 4) (.bool false) (.int .i64 0) (.string ⟨#[]⟩) (.slice la (acc.length + 1) lc) (.slice none 0 0)
            change bodyPost _ _ _ _ _ (Fill6 w4 w.heap.size (.int .i64 4) (.bool false) (.int .i64 0) (.string ⟨#[]⟩) (.slice la (acc.length + 1) lc) (.slice none 0 0))
            generalize Fill6 w4 w.heap.size (.int .i64 4) (.bool false) (.int .i64 0) (.string ⟨#[]⟩) (.slice la (acc.length + 1) lc) (.slice none 0 0) = v at *
            refine bodyPost_ret (v := .agg #[.int .i64 4, .bool false, .int .i64 0, .string ⟨#[]⟩, .slice la (acc.length + 1) lc, .slice none 0 0]) (by simp [results, Tryd.results69, go_sem, hv.c0, hv.c1, hv.c2, hv.c3, hv.c4, hv.c5]) rfl ?_
            have hfin := HLS2.out.fin hlt HF4.out hfv
            exact ⟨_, rfl, by omega, hk3, HP4.out.frm hfv (by unfold One; omega), hfin.2, hfin.1⟩
          have HLA2 := HLA.out
          rw [if_neg (by rw [show ([93] : List UInt8) = [UInt8.ofNat 93] from rfl, wordAt_one (by omega) (by omega)]; simpa using h93)] at HLA2
          have HC := Lib.hid h93
          clear h93 HLA
          cases h44 : wordAt [44] s.data.toList k2 with
          | true =>
            rw [h44, if_pos rfl] at HLA2
            have HLA := Lib.hid HLA2
            have hk3 : k2 + 1 ≤ s.size := by rw [show ([44] : List UInt8) = [UInt8.ofNat 44] from rfl, wordAt_one (by omega) (by omega)] at h44; obtain ⟨_, _, _, h⟩ := pk_some (of_decide_eq_true h44) (by omega); rw [HL.out] at h; omega
            have HW := Lib.hid h44
            clear h44 HLA2
            go_wp2_with (first
              | (go_at_call 81; refine (jcloses_no pb s 93 k2 (d + 1) _ HP3.out hs HC.out).mono ?_; rintro e w4 ⟨rfl, hp, hf⟩; have HP4 := Lib.hid hp; have HF4 := Lib.hid hf; clear hp hf)
              | (go_at_call 72; refine (jexpect_yes pb s ⟨#[44]⟩ k2 (d + 1) _ HP4.out hs hks (by decide) HW.out).mono ?_; rintro e w5 ⟨rfl, hp, hf⟩; have HP5 := Lib.hid hp; have HF5 := Lib.hid hf; clear hp hf))
            go_roundg g
            case rel => exact ⟨k2 + 1, acc ++ [j], cs ++ [[x0, x1, x2, x3, x4, x5]], _, hk3, by omega, by omega, HLA.out.symm, by simp; omega, HLS2.out.pass hlt HF4.out HF5.out HP5.out⟩
            case measure => omega
          | false =>
            obtain rfl : R = .error 300 := by rw [HLA2, h44]; rfl
            have HW := Lib.hid h44
            clear h44 HLA2
            go_wp2_with (first
              | (go_at_call 81; refine (jcloses_no pb s 93 k2 (d + 1) _ HP3.out hs HC.out).mono ?_; rintro e w4 ⟨rfl, hp, hf⟩; have HP4 := Lib.hid hp; have HF4 := Lib.hid hf; clear hp hf)
              | (go_at_call 72; refine (jexpect_no pb s ⟨#[44]⟩ k2 (d + 1) _ HP4.out hs hks (by decide) HW.out).mono ?_; rintro e w5 ⟨rfl, hf⟩; unfold thrown; have HF5 := Lib.hid hf; clear hf))
            exact ⟨rfl, rfl, (HLS2.out.frm.trans HF4.out).trans HF5.out⟩
        · go_simp
          refine hK _ _ ?_
          clear hK K
          try simp only [Go.Act.put, List.setIfInBounds_toArray, List.set_cons_zero, List.set_cons_succ]
          refine wpAny_ready (rs := [1]) (by kernel_rfl) (by simp) (AllReady.cons rfl (fun K hK => ?_) (AllReady.nil))
          go_simp
          refine hK _ _ ?_
          clear hK K
          try simp only [Go.Act.put, List.setIfInBounds_toArray, List.set_cons_zero, List.set_cons_succ]
          refine wpAny_ready (rs := [5]) (by kernel_rfl) (by simp) (AllReady.cons rfl (fun K hK => ?_) (AllReady.nil))
          refine step_append_json rfl _ _ rfl (w.heap.size + 2) (by simp at hsz1 ⊢; omega) lv acc.length cs.flatten [x0, x1, x2, x3, x4, x5] ⟨w1.heap.size, 0, none⟩ 1 (by rfl) (by rfl) (HO1.out.alloc _) HLS.out.flat (by omega) rfl HJ1.out.one (six_news w1 _ _ _ _ _ _) ?_
          intro lv' w2 hown hgrow hnew
          obtain ⟨la, lc, rfl⟩ := own_slice hown
          have HLS2 := Lib.hid (HST.out _ _ _ hgrow hnew hown)
          have HG := Lib.hid hgrow
          have HJ2 := HJW.out _ _ hgrow
          have hfz := HJ2.fz 4
          have hc4 := HJ2.c4
          clear hown hgrow hnew HST HJ2 HJW
          refine hK _ _ ?_
          clear hK K
          try simp only [Go.Act.put, List.setIfInBounds_toArray, List.set_cons_zero, List.set_cons_succ]
          refine wpAny_take (i := 6) (v := ?_) rfl (by kernel_rfl) (by kernel_rfl) (by kernel_rfl) (fun _ _ _ h => h) (Or.inl ⟨by rfl, fun w => ?_⟩) ?_
          rotate_left
          · go_simp
            try with_reducible rfl
          try simp only [Go.Act.put, List.setIfInBounds_toArray, List.set_cons_zero, List.set_cons_succ]
          refine wpAny_ready (rs := [7]) (by kernel_rfl) (by simp) (AllReady.cons rfl (fun K hK => ?_) (AllReady.nil))
          go_simp
          refine hK _ _ ?_
          clear hK K
          try simp only [Go.Act.put, List.setIfInBounds_toArray, List.set_cons_zero, List.set_cons_succ]
          refine wpAny_done (by kernel_rfl) ?_ _
          have HP3 := Lib.hid HLS2.out.pat
          generalize w2.setCell ⟨w.heap.size + 1, 4, none⟩ (.slice la (acc.length + 1) lc) = w3 at *
          clear hfz hc4 HG B4 B4b b4
          by_cases h93 : pk s.data.toList k2 = 93
          · obtain rfl : R = .ok (jList (acc ++ [j]), k2 + 1) := by rw [HLA.out, if_pos (by rw [show ([93] : List UInt8) = [UInt8.ofNat 93] from rfl, wordAt_one (by omega) (by omega)]; simpa using h93)]
            have hk3 : k2 + 1 ≤ s.size := by obtain ⟨_, _, _, h⟩ := pk_some h93 (by omega); rw [HL.out] at h; omega
            have HC := Lib.hid h93
            clear h93
            go_wp2_with (go_at_call 81; refine (jcloses_yes pb s 93 k2 d _ HP3.out hks hs hd HC.out).mono ?_; rintro e w4 ⟨rfl, hp, hf⟩; have HP4 := Lib.hid hp; have HF4 := Lib.hid hf; clear hp hf
                         have HB2 := Lib.hid (HLS2.out.jb.frm HF4.out (by unfold One; omega))
                         have HR2 := Lib.hid (HLS2.out.rb.frm HF4.out (by unfold One; omega))
                         have b0 := HB2.out.c0; have b1 := HB2.out.c1; have b2 := HB2.out.c2; have b3 := HB2.out.c3; have b4 := HB2.out.c4; have b5 := HB2.out.c5
                         have r0 := HR2.out.c0; have r1 := HR2.out.c1; have r2 := HR2.out.c2; have r3 := HR2.out.c3; have r4 := HR2.out.c4; have r5 := HR2.out.c5
                         have z0 := HR2.out.fz 0; have z1 := HR2.out.fz 1; have z2 := HR2.out.fz 2; have z3 := HR2.out.fz 3; have z4 := HR2.out.fz 4; have z5 := HR2.out.fz 5)
            have hv := HR2.out.fill (.int .i64 4) (.bool false) (.int .i64 0) (.string ⟨#[]⟩) (.slice la (acc.length + 1) lc) (.slice none 0 0)
            have hfv := frm_fill6 w4 w.heap.size (.int .i64 4) (.bool false) (.int .i64 0) (.string ⟨#[]⟩) (.slice la (acc.length + 1) lc) (.slice none 0 0)
            change bodyPost _ _ _ _ _ (Fill6 w4 w.heap.size (.int .i64 4) (.bool false) (.int .i64 0) (.string ⟨#[]⟩) (.slice la (acc.length + 1) lc) (.slice none 0 0))
            generalize Fill6 w4 w.heap.size (.int .i64 4) (.bool false) (.int .i64 0) (.string ⟨#[]⟩) (.slice la (acc.length + 1) lc) (.slice none 0 0) = v at *
            refine bodyPost_ret (v := .agg #[.int .i64 4, .bool false, .int .i64 0, .string ⟨#[]⟩, .slice la (acc.length + 1) lc, .slice none 0 0]) (by simp [results, Tryd.results69, go_sem, hv.c0, hv.c1, hv.c2, hv.c3, hv.c4, hv.c5]) rfl ?_
            have hfin := HLS2.out.fin hlt HF4.out hfv
            exact ⟨_, rfl, by omega, hk3, HP4.out.frm hfv (by unfold One; omega), hfin.2, hfin.1⟩
          have HLA2 := HLA.out
          rw [if_neg (by rw [show ([93] : List UInt8) = [UInt8.ofNat 93] from rfl, wordAt_one (by omega) (by omega)]; simpa using h93)] at HLA2
          have HC := Lib.hid h93
          clear h93 HLA
          cases h44 : wordAt [44] s.data.toList k2 with
          | true =>
            rw [h44, if_pos rfl] at HLA2
            have HLA := Lib.hid HLA2
            have hk3 : k2 + 1 ≤ s.size := by rw [show ([44] : List UInt8) = [UInt8.ofNat 44] from rfl, wordAt_one (by omega) (by omega)] at h44; obtain ⟨_, _, _, h⟩ := pk_some (of_decide_eq_true h44) (by omega); rw [HL.out] at h; omega
            have HW := Lib.hid h44
            clear h44 HLA2
            go_wp2_with (first
              | (go_at_call 81; refine (jcloses_no pb s 93 k2 (d + 1) _ HP3.out hs HC.out).mono ?_; rintro e w4 ⟨rfl, hp, hf⟩; have HP4 := Lib.hid hp; have HF4 := Lib.hid hf; clear hp hf)
              | (go_at_call 72; refine (jexpect_yes pb s ⟨#[44]⟩ k2 (d + 1) _ HP4.out hs hks (by decide) HW.out).mono ?_; rintro e w5 ⟨rfl, hp, hf⟩; have HP5 := Lib.hid hp; have HF5 := Lib.hid hf; clear hp hf))
            go_roundg g
            case rel => exact ⟨k2 + 1, acc ++ [j], cs ++ [[x0, x1, x2, x3, x4, x5]], _, hk3, by omega, by omega, HLA.out.symm, by simp; omega, HLS2.out.pass hlt HF4.out HF5.out HP5.out⟩
            case measure => omega
          | false =>
            obtain rfl : R = .error 300 := by rw [HLA2, h44]; rfl
            have HW := Lib.hid h44
            clear h44 HLA2
            go_wp2_with (first
              | (go_at_call 81; refine (jcloses_no pb s 93 k2 (d + 1) _ HP3.out hs HC.out).mono ?_; rintro e w4 ⟨rfl, hp, hf⟩; have HP4 := Lib.hid hp; have HF4 := Lib.hid hf; clear hp hf)
              | (go_at_call 72; refine (jexpect_no pb s ⟨#[44]⟩ k2 (d + 1) _ HP4.out hs hks (by decide) HW.out).mono ?_; rintro e w5 ⟨rfl, hf⟩; unfold thrown; have HF5 := Lib.hid hf; clear hf))
            exact ⟨rfl, rfl, (HLS2.out.frm.trans HF4.out).trans HF5.out⟩
end Go.Proofs.YtcobadgpelhcoaaDoor
