/- The program's printer: lists. The program's printer: objects. The program's printer: a value, as deep as it may go. The program's Print. -/
import Derived.Test.YtcobadgpelhcoaaDoorEPrinter
import Derived.Lib.ItoaLen
namespace Go.Proofs.YtcobadgpelhcoaaDoor
open Go.Conc Go.RowKit Go.Maps Go.WideMaps
set_option linter.unusedVariables false
set_option linter.unusedSimpArgs false

theorem flat6 : ∀ (cs : List (List Value)) (k i : Nat), (∀ c ∈ cs, c.length = 6) → (hk : k < cs.length) → i < 6 → cs.flatten[k * 6 + i]? = cs[k][i]?
  | [], k, i, _, hk, _ => by simp at hk
  | c :: r, 0, i, h, hk, hi => by
    have hc := h c (by simp)
    rw [List.flatten_cons, List.getElem?_append_left (by omega)]
    simp
  | c :: r, k + 1, i, h, hk, hi => by
    have hc := h c (by simp)
    rw [List.flatten_cons, List.getElem?_append_right (by omega), hc]
    have := flat6 r k i (fun c hc => h c (by simp [hc])) (by simpa using hk) hi
    rw [show (k + 1) * 6 + i - 6 = k * 6 + i by omega, this]
    simp
theorem JsIn.six {F : Nat → Prop} {w : World} {l : List J} {cs : List (List Value)} (h : JsIn F w l cs) : ∀ c ∈ cs, c.length = 6 := by
  intro c hc
  obtain ⟨i, hi, rfl⟩ := List.mem_iff_getElem.1 hc
  exact (h.2 i (l[i]'(by rw [← h.1]; exact hi)) _ (List.getElem?_eq_getElem (by rw [← h.1]; exact hi)) (List.getElem?_eq_getElem hi)).length
/-- A value in a row: where it lies. -/
theorem RowIn.elem {F : Nat → Prop} {w : World} {l : List J} {cs : List (List Value)} {v : Value} (h : RowIn F w 6 l.length v cs.flatten) (hj : JsIn F w l cs) {k : Nat} (hk : k < l.length) :
    ∃ b o c xk xb xn xs xla xll xlc xka xkl xkc, v = .slice (some ⟨b, o, none⟩) l.length c ∧ F b ∧ b < w.heap.size ∧ JIn F w l[k] [.int .i64 xk, .bool xb, .int .i64 xn, .string xs, .slice xla xll xlc, .slice xka xkl xkc] ∧
      w.cell? ⟨b, o + k * 6, none⟩ = some (.int .i64 xk) ∧ w.cell? ⟨b, o + k * 6 + 1, none⟩ = some (.bool xb) ∧ w.cell? ⟨b, o + k * 6 + 2, none⟩ = some (.int .i64 xn) ∧ w.cell? ⟨b, o + k * 6 + 3, none⟩ = some (.string xs) ∧
      w.cell? ⟨b, o + k * 6 + 4, none⟩ = some (.slice xla xll xlc) ∧ w.cell? ⟨b, o + k * 6 + 5, none⟩ = some (.slice xka xkl xkc) := by
  obtain ⟨_, a, cap, rfl, h0 | ⟨b, o, rfl, hF, hb, hc⟩⟩ := h
  · omega
  · have hkc : k < cs.length := by rw [hj.1]; exact hk
    have hx := hj.2 k _ _ (List.getElem?_eq_getElem hk) (List.getElem?_eq_getElem hkc)
    obtain ⟨xk, xb, xn, xs, xla, xll, xlc, xka, xkl, xkc, e⟩ := hx.form
    rw [e] at hx
    have hcell : ∀ i u, i < 6 → cs[k][i]? = some u → w.cell? ⟨b, o + (k * 6 + i), none⟩ = some u := fun i u hi hu => hc _ _ (by rw [flat6 cs k i hj.six hkc hi]; exact hu)
    rw [e] at hcell
    refine ⟨b, o, cap, xk, xb, xn, xs, xla, xll, xlc, xka, xkl, xkc, rfl, hF, hb, hx, ?_, ?_, ?_, ?_, ?_, ?_⟩
    · have := hcell 0 _ (by omega) rfl; simpa [Nat.add_assoc] using this
    · have := hcell 1 _ (by omega) rfl; simpa [Nat.add_assoc] using this
    · have := hcell 2 _ (by omega) rfl; simpa [Nat.add_assoc] using this
    · have := hcell 3 _ (by omega) rfl; simpa [Nat.add_assoc] using this
    · have := hcell 4 _ (by omega) rfl; simpa [Nat.add_assoc] using this
    · have := hcell 5 _ (by omega) rfl; simpa [Nat.add_assoc] using this

/-- What is known of how values within are printed. -/
def SubPr (pb B : Nat) (d : Int) (f : Pr) : Prop :=
  ∀ (j : J) (c : List Value) (acc : List UInt8) (v : Value) (w : World), PrAt w pb acc v → JIn (fun g => g < pb) w j c → JSm j → TabLow B w → Calls Tryd.prog 26 #[.pointer (some ⟨pb, 0, none⟩), .agg c.toArray, .int .i64 d] w (JPut pb (f j acc) w)

/-- The loop of a list goes on. -/
def JLp (pb : Nat) (f : Pr) (l : List J) (R : Except Int (List UInt8)) (w : World) (g : Nat) (iv : Value) (wr : World) : Prop :=
  ∃ (k : Nat) (acc : List UInt8) (v : Value), iv = .int .i64 k ∧ k ≤ l.length ∧ l.length + 1 ≤ k + g ∧ PrAt wr pb acc v ∧ PrStep pb w wr ∧ Hid (bnd (elemsP f (decide (k = 0)) (l.drop k) acc) (fun b => putB b [93]) = R)

set_option maxHeartbeats 2000000 in
set_option maxRecDepth 100000 in
theorem jplist_any (pb B d : Nat) (f : Pr) (HS : SubPr pb B ((d : Int) + 1) f) (hd : d ≤ 16) (hB : B ≤ pb) (l : List J) (cs : List (List Value)) (lv : Value) (acc : List UInt8) (v : Value) (w : World) (h : PrAt w pb acc v)
    (hrow : RowIn (fun g => g < pb) w 6 l.length lv cs.flatten) (hjs : JsIn (fun g => g < pb) w l cs) (hsm : ∀ x ∈ l, JSm x) (hl : l.length ≤ 9000000000000) (ht : TabLow B w) :
    Calls Tryd.prog 45 #[.pointer (some ⟨pb, 0, none⟩), lv, .int .i64 d] w (JPut pb (listP f l acc) w) := by
  obtain ⟨_, ra, rc, hlv, _⟩ := id hrow
  have hlt := h.lt
  have H := Lib.hid h
  have HRow := Lib.hid hrow
  have HJs := Lib.hid hjs
  have HSm := Lib.hid hsm
  have HT := Lib.hid ht
  have HSS := Lib.hid HS
  obtain ⟨n, hn⟩ : ∃ n, n = l.length := ⟨_, rfl⟩
  have HN := Lib.hid hn
  have hlen := h.len
  rw [← hn] at hlv
  subst hlv
  clear h hrow hjs hsm ht HS hn
  unfold listP
  by_cases hf0 : acc.length + 1 ≤ 65536
  · rw [putB_yes (by simpa using hf0), bnd_ok]
    generalize hR : bnd (elemsP f true l (acc ++ [91])) (fun b => putB b [93]) = R
    have HR := Lib.hid hR
    clear hR
    go_enter Tryd.func45, Tryd.ntmps45
    go_wp2_with (go_at_call 39; refine (jput_yes (bs := [91]) H.out rfl (by decide) hf0).mono ?_; rintro e w0 ⟨rfl, v0, hp0, hf0⟩; have HP0 := Lib.hid hp0; have HF0 := Lib.hid hf0; clear hp0 hf0)
    go_loopg [12] (l.length + 1) (fun g iv wr => JLp pb f l R w g iv wr)
    case atStart => exact ⟨0, _, _, rfl, by omega, by omega, HP0.out, HF0.out, HR.out⟩
    case round =>
      clear HP0 HF0 HR H hlen
      obtain ⟨k, acc, v, rfl, hk, hkg, hp, hf, hre⟩ := hrel
      obtain ⟨g, rfl⟩ : ∃ g, gk = g + 1 := ⟨gk - 1, by omega⟩
      have HP := Lib.hid hp
      have HF := Lib.hid hf
      have hpl := hp.lt
      clear hp hf
      by_cases hkn : k = n
      · have g0 : decide ((k : Int) < (n : Int)) = false := by simp; omega
        have hre2 := hre.out
        rw [List.drop_eq_nil_of_le (by have := HN.out; omega)] at hre2
        unfold elemsP at hre2
        rw [bnd_ok] at hre2
        clear hre
        by_cases hf1 : acc.length + 1 ≤ 65536
        · obtain rfl : R = .ok (acc ++ [93]) := by rw [← hre2]; exact putB_yes hf1
          go_wp2_with (go_at_call 39; refine (jput_yes (bs := [93]) HP.out rfl (by decide) hf1).mono ?_; rintro e w1 ⟨rfl, v1, hp1, hf1⟩; have HP1 := Lib.hid hp1; have HF1 := Lib.hid hf1; clear hp1 hf1)
          go_end0
          exact ⟨rfl, _, HP1.out, HF.out.trans HF1.out⟩
        · obtain rfl : R = .error 302 := by rw [← hre2]; exact putB_no (by simp; omega)
          go_wp2_with (go_at_call 39; refine (jput_no (bs := [93]) HP.out rfl (by decide) (by simp; omega)).mono ?_; rintro e w1 ⟨rfl, hf1⟩; unfold thrown; have HF1 := Lib.hid hf1; clear hf1)
          exact ⟨rfl, rfl, HF.out.trans HF1.out⟩
      have hkl : k < l.length := by have := HN.out; omega
      have hkn2 : k < n := by have := HN.out; omega
      have hnn : n ≤ 9000000000000 := by have := HN.out; omega
      have g0 : decide ((k : Int) < (n : Int)) = true := by have := HN.out; simp; omega
      obtain ⟨b, o, c, xk, xb, xn, xs, xla, xll, xlc, xka, xkl, xkc, hv, hF, hbl, hx, q0, q1, q2, q3, q4, q5⟩ := HRow.out.elem HJs.out hkl
      simp only [Value.slice.injEq] at hv
      obtain ⟨rfl, hvn, rfl⟩ := hv
      clear hvn
      have hag : wr.heap[b]? = w.heap[b]? := HF.out.ahead hF hbl
      rw [← World.cell?_of_block hag] at q0 q1 q2 q3 q4 q5
      clear hag
      have hre2 := hre.out
      rw [List.drop_eq_getElem_cons hkl] at hre2
      unfold elemsP at hre2
      have hxm := HSm.out l[k] (List.getElem_mem hkl)
      have hjx : JIn (fun g => g < pb) (wr.alloc (.cells #[.int .i64 xk, .bool xb, .int .i64 xn, .string xs, .slice xla xll xlc, .slice xka xkl xkc] 25)) l[k] [.int .i64 xk, .bool xb, .int .i64 xn, .string xs, .slice xla xll xlc, .slice xka xkl xkc] := (HF.out.jin hx).same (fun g hg hl => Below.heap_alloc _ _ _ hl) (by simp)
      have HJx := Lib.hid hjx
      have HXm := Lib.hid hxm
      have HTa := Lib.hid ((HF.out.tab HT.out hB hlt).keep (w' := wr.alloc (.cells #[.int .i64 xk, .bool xb, .int .i64 xn, .string xs, .slice xla xll xlc, .slice xka xkl xkc] 25)) fun g hg => Below.heap_alloc _ _ _ (by omega))
      have HBa := Lib.hid ((Below.refl _ wr).alloc (Nat.le_refl _) (.cells #[.int .i64 xk, .bool xb, .int .i64 xn, .string xs, .slice xla xll xlc, .slice xka xkl xkc] 25))
      have HPa := Lib.hid (HP.out.below HBa.out)
      have H6 := Lib.hid (j6_new wr (.int .i64 xk) (.bool xb) (.int .i64 xn) (.string xs) (.slice xla xll xlc) (.slice xka xkl xkc))
      clear hre hx hxm hjx hkn
      by_cases hk0 : k = 0
      · have g1 : decide ((0 : Int) < (k : Int)) = false := by simp; omega
        have g2 : decide (0 < k) = false := by simp; omega
        have HV := Lib.hid (HSS.out l[k] [.int .i64 xk, .bool xb, .int .i64 xn, .string xs, .slice xla xll xlc, .slice xka xkl xkc] acc v _ HPa.out HJx.out HXm.out HTa.out)
        rw [show decide (k = 0) = true by simpa using hk0] at hre2
        clear hk0
        simp only [comma, if_true, bnd_ok] at hre2
        cases hV : f l[k] acc with
        | error x =>
          obtain rfl : R = .error x := by rw [← hre2, hV]; rfl
          rw [hV] at HV
          clear hV hre2
          go_wp2_with (go_at_call 26; refine HV.out.mono ?_; rintro e w2 ⟨rfl, hf2⟩; unfold thrown; have HF2 := Lib.hid hf2; clear hf2)
          exact ⟨rfl, rfl, (HF.out.below HBa.out).trans HF2.out⟩
        | ok acc2 =>
          rw [hV, bnd_ok] at hre2
          have HRE := Lib.hid hre2
          clear hre2
          rw [hV] at HV
          clear hV
          go_wp2_with (go_at_call 26; refine HV.out.mono ?_; rintro e w2 ⟨rfl, v2, hp2, hf2⟩; have HP2 := Lib.hid hp2; have HF2 := Lib.hid hf2; clear hp2 hf2)
          go_roundg g
          case rel => exact ⟨k + 1, _, _, by first | rfl | (congr 1), by omega, by omega, HP2.out, (HF.out.below HBa.out).trans HF2.out, Lib.hid (by rw [show decide (k + 1 = 0) = false by simp]; exact HRE.out)⟩
          case measure => omega
      have g1 : decide ((0 : Int) < (k : Int)) = true := by simp; omega
      have g2 : decide (0 < k) = true := by simp; omega
      rw [show decide (k = 0) = false by simpa using hk0] at hre2
      clear hk0
      simp only [comma, Bool.false_eq_true, if_false] at hre2
      by_cases hf1 : acc.length + 1 ≤ 65536
      · rw [putB_yes (by simpa using hf1), bnd_ok] at hre2
        have HC := Lib.hid (jput_yes (s := ⟨#[44]⟩) (bs := [44]) HPa.out rfl (by decide) hf1)
        cases hV : f l[k] (acc ++ [44]) with
        | error x =>
          obtain rfl : R = .error x := by rw [← hre2, hV]; rfl
          have HE := Lib.hid hV
          clear hV hre2
          go_wp2_with (first
            | (go_at_call 39; refine HC.out.mono ?_; rintro e w1 ⟨rfl, v1, hp1, hf1⟩; have HP1 := Lib.hid hp1; have HF1 := Lib.hid hf1; clear hp1 hf1; have H62 := Lib.hid (HF1.out.j6 H6.out (by omega)); have j0 := H62.out.c0; have j1 := H62.out.c1; have j2 := H62.out.c2; have j3 := H62.out.c3; have j4 := H62.out.c4; have j5 := H62.out.c5)
            | (go_at_call 26; have HV := HSS.out l[k] [.int .i64 xk, .bool xb, .int .i64 xn, .string xs, .slice xla xll xlc, .slice xka xkl xkc] (acc ++ [44]) v1 _ HP1.out (HF1.out.jin HJx.out) HXm.out (HF1.out.tab HTa.out hB (by have := HPa.out.lt; omega)); rw [HE.out] at HV; refine HV.mono ?_; rintro e w2 ⟨rfl, hf2⟩; unfold thrown; have HF2 := Lib.hid hf2; clear hf2 HV))
          exact ⟨rfl, rfl, ((HF.out.below HBa.out).trans HF1.out).trans HF2.out⟩
        | ok acc2 =>
          rw [hV, bnd_ok] at hre2
          have HRE := Lib.hid hre2
          clear hre2
          have HE := Lib.hid hV
          clear hV
          go_wp2_with (first
            | (go_at_call 39; refine HC.out.mono ?_; rintro e w1 ⟨rfl, v1, hp1, hf1⟩; have HP1 := Lib.hid hp1; have HF1 := Lib.hid hf1; clear hp1 hf1; have H62 := Lib.hid (HF1.out.j6 H6.out (by omega)); have j0 := H62.out.c0; have j1 := H62.out.c1; have j2 := H62.out.c2; have j3 := H62.out.c3; have j4 := H62.out.c4; have j5 := H62.out.c5)
            | (go_at_call 26; have HV := HSS.out l[k] [.int .i64 xk, .bool xb, .int .i64 xn, .string xs, .slice xla xll xlc, .slice xka xkl xkc] (acc ++ [44]) v1 _ HP1.out (HF1.out.jin HJx.out) HXm.out (HF1.out.tab HTa.out hB (by have := HPa.out.lt; omega)); rw [HE.out] at HV; refine HV.mono ?_; rintro e w2 ⟨rfl, v2, hp2, hf2⟩; have HP2 := Lib.hid hp2; have HF2 := Lib.hid hf2; clear hp2 hf2 HV))
          go_roundg g
          case rel => exact ⟨k + 1, _, _, by first | rfl | (congr 1), by omega, by omega, HP2.out, ((HF.out.below HBa.out).trans HF1.out).trans HF2.out, Lib.hid (by rw [show decide (k + 1 = 0) = false by simp]; exact HRE.out)⟩
          case measure => omega
      · obtain rfl : R = .error 302 := by rw [← hre2, putB_no (by simp; omega)]; rfl
        go_wp2_with (go_at_call 39; refine (jput_no (s := ⟨#[44]⟩) (bs := [44]) HPa.out rfl (by decide) (by simp; omega)).mono ?_; rintro e w1 ⟨rfl, hf1⟩; unfold thrown; have HF1 := Lib.hid hf1; clear hf1)
        exact ⟨rfl, rfl, (HF.out.below HBa.out).trans HF1.out⟩
  · rw [putB_no (by simp; omega), bnd_error]
    go_enter Tryd.func45, Tryd.ntmps45
    go_wp2_with (go_at_call 39; refine (jput_no (bs := [91]) H.out rfl (by decide) (by simp; omega)).mono ?_; rintro e w0 ⟨rfl, hf0⟩; unfold thrown; have HF0 := Lib.hid hf0; clear hf0)
    exact ⟨rfl, rfl, HF0.out⟩
end Go.Proofs.YtcobadgpelhcoaaDoor

namespace Go.Proofs.YtcobadgpelhcoaaDoor
open Go.Conc Go.RowKit Go.Maps Go.WideMaps
set_option linter.unusedVariables false
set_option linter.unusedSimpArgs false

theorem jpquoted_yes {pb : Nat} {s : ByteArray} {acc : List UInt8} {w : World} {v : Value} (h : PrAt w pb acc v) (hs : s.size ≤ 140737488351232) (hf : acc.length + (quoteL s.data.toList).length ≤ 65536) :
    Calls Tryd.prog 43 #[.pointer (some ⟨pb, 0, none⟩), .string s] w fun e w' => e = .returned (.tuple #[]) ∧ ∃ v', PrAt w' pb (acc ++ quoteL s.data.toList) v' ∧ PrStep pb w w' := by
  have := jpquoted_any pb s acc w v h hs
  rw [putB_yes hf] at this; exact this
theorem jpquoted_no {pb : Nat} {s : ByteArray} {acc : List UInt8} {w : World} {v : Value} (h : PrAt w pb acc v) (hs : s.size ≤ 140737488351232) (hf : 65536 < acc.length + (quoteL s.data.toList).length) :
    Calls Tryd.prog 43 #[.pointer (some ⟨pb, 0, none⟩), .string s] w fun e w' => e = thrown 302 ∧ PrStep pb w w' := by
  have := jpquoted_any pb s acc w v h hs
  rw [putB_no hf] at this; exact this

/-- The loop of an object goes on. -/
def JOp (pb ob : Nat) (a0 a1 a2 a3 a4 a5 : Value) (f : Pr) (ks : List ByteArray) (l : List J) (R : Except Int (List UInt8)) (w : World) (g : Nat) (iv : Value) (wr : World) : Prop :=
  ∃ (k : Nat) (acc : List UInt8) (v : Value), iv = .int .i64 k ∧ k ≤ l.length ∧ l.length + 1 ≤ k + g ∧ J6 wr ob a0 a1 a2 a3 a4 a5 ∧ PrAt wr pb acc v ∧ PrStep pb w wr ∧ Hid (bnd (pairsP f (decide (k = 0)) (ks.drop k) (l.drop k) acc) (fun b => putB b [125]) = R)

set_option maxHeartbeats 4000000 in
set_option maxRecDepth 100000 in
theorem jpobj_any (pb B d : Nat) (f : Pr) (HS : SubPr pb B ((d : Int) + 1) f) (hd : d ≤ 16) (hB : B ≤ pb) (jk : Int) (jb : Bool) (jn : Int) (js : ByteArray) (ks : List ByteArray) (l : List J) (cs : List (List Value)) (lv kv : Value) (acc : List UInt8) (v : Value) (w : World) (h : PrAt w pb acc v)
    (hrow : RowIn (fun g => g < pb) w 6 l.length lv cs.flatten) (hkrow : RowIn (fun g => g < pb) w 1 ks.length kv (ks.map Value.string)) (hjs : JsIn (fun g => g < pb) w l cs) (hkl : ks.length = l.length) (hsm : ∀ x ∈ l, JSm x) (hl : l.length ≤ 9000000000000) (hks : ∀ k ∈ ks, k.size ≤ 140737488351232) (ht : TabLow B w) :
    Calls Tryd.prog 47 #[.pointer (some ⟨pb, 0, none⟩), .agg #[.int .i64 jk, .bool jb, .int .i64 jn, .string js, lv, kv], .int .i64 d] w (JPut pb (objP f ks l acc) w) := by
  obtain ⟨_, la, lc, hlv, _⟩ := id hrow
  obtain ⟨_, ka, kc, hkv, _⟩ := id hkrow
  have hlt := h.lt
  have H := Lib.hid h
  have HRow := Lib.hid hrow
  have HKRow := Lib.hid hkrow
  have HJs := Lib.hid hjs
  have HSm := Lib.hid hsm
  have HKs := Lib.hid hks
  have HT := Lib.hid ht
  have HSS := Lib.hid HS
  have HKL := Lib.hid hkl
  obtain ⟨n, hn⟩ : ∃ n, n = l.length := ⟨_, rfl⟩
  have HN := Lib.hid hn
  have HN2 : Hid (n = ks.length) := by unfold Hid; omega
  have hlen := h.len
  rw [← hn] at hlv
  rw [hkl, ← hn] at hkv
  obtain ⟨nl, hnl⟩ : ∃ nl, nl = n := ⟨_, rfl⟩
  have HNL : Hid (nl = l.length) := by unfold Hid; omega
  rw [← hnl] at hlv
  subst hlv hkv
  have ob0 := j6_new w (.int .i64 jk) (.bool jb) (.int .i64 jn) (.string js) (.slice la nl lc) (.slice ka n kc)
  have hOb := Lib.hid ob0
  have HOb : Hid (w.heap.size ≠ pb) := by unfold Hid; omega
  have hBa := Lib.hid ((Below.refl _ w).alloc (Nat.le_refl _) (.cells #[.int .i64 jk, .bool jb, .int .i64 jn, .string js, .slice la nl lc, .slice ka n kc] 25))
  clear h hrow hjs hsm ht HS hn hkrow hkl hks hnl ob0
  have HPa := Lib.hid (H.out.below hBa.out)
  unfold objP
  by_cases hf0 : acc.length + 1 ≤ 65536
  · rw [putB_yes (by simpa using hf0), bnd_ok]
    generalize hR : bnd (pairsP f true ks l (acc ++ [123])) (fun b => putB b [125]) = R
    have HR := Lib.hid hR
    clear hR
    go_enter Tryd.func47, Tryd.ntmps47
    go_wp2_with (go_at_call 39; refine (jput_yes (bs := [123]) HPa.out rfl (by decide) hf0).mono ?_; rintro e w0 ⟨rfl, v0, hp0, hf0⟩; have HP0 := Lib.hid hp0; have HF0 := Lib.hid hf0; clear hp0 hf0; have hO0 := HF0.out.j6 hOb.out HOb.out; have HO0 := Lib.hid hO0; have o5 := hO0.c5; clear hO0)
    go_loopg [13] (l.length + 1) (fun g iv wr => JOp pb w.heap.size (.int .i64 jk) (.bool jb) (.int .i64 jn) (.string js) (.slice la nl lc) (.slice ka n kc) f ks l R w g iv wr)
    case atStart => exact ⟨0, _, _, rfl, by omega, by omega, HO0.out, HP0.out, (PrStep.of_below pb hBa.out).trans HF0.out, HR.out⟩
    case round =>
      clear HP0 HF0 HR H hlen HO0 o5 hOb hBa HPa
      obtain ⟨k, acc, v, rfl, hk, hkg, hob, hp, hf, hre⟩ := hrel
      obtain ⟨g, rfl⟩ : ∃ g, gk = g + 1 := ⟨gk - 1, by omega⟩
      have HP := Lib.hid hp
      have HF := Lib.hid hf
      have hpl := hp.lt
      have HO := Lib.hid hob
      clear hp hf hob
      by_cases hkn : k = n
      · have g0 : decide ((k : Int) < (n : Int)) = false := by simp; omega
        have hre2 := hre.out
        rw [List.drop_eq_nil_of_le (show ks.length ≤ k by have := HN2.out; have := HN.out; omega)] at hre2
        unfold pairsP at hre2
        rw [bnd_ok] at hre2
        clear hre
        by_cases hf1 : acc.length + 1 ≤ 65536
        · obtain rfl : R = .ok (acc ++ [125]) := by rw [← hre2]; exact putB_yes hf1
          go_wp2_with (go_at_call 39; refine (jput_yes (bs := [125]) HP.out rfl (by decide) hf1).mono ?_; rintro e w1 ⟨rfl, v1, hp1, hf1⟩; have HP1 := Lib.hid hp1; have HF1 := Lib.hid hf1; clear hp1 hf1)
          go_end0
          exact ⟨rfl, _, HP1.out, HF.out.trans HF1.out⟩
        · obtain rfl : R = .error 302 := by rw [← hre2]; exact putB_no (by simp; omega)
          go_wp2_with (go_at_call 39; refine (jput_no (bs := [125]) HP.out rfl (by decide) (by simp; omega)).mono ?_; rintro e w1 ⟨rfl, hf1⟩; unfold thrown; have HF1 := Lib.hid hf1; clear hf1)
          exact ⟨rfl, rfl, HF.out.trans HF1.out⟩
      have hkl : k < l.length := by have := HN.out; omega
      have hkk : k < ks.length := by have := HN2.out; have := HN.out; omega
      have hkn2 : k < n := by have := HN.out; omega
      have hkn3 : k < nl := by have := HNL.out; omega
      have hnn : n ≤ 9000000000000 := by have := HN.out; omega
      have g0 : decide ((k : Int) < (n : Int)) = true := by have := HN.out; simp; omega
      obtain ⟨b, o, c, xk, xb, xn, xs, xla, xll, xlc, xka, xkl, xkc, hv, hF, hbl, hx, q0, q1, q2, q3, q4, q5⟩ := HRow.out.elem HJs.out hkl
      simp only [Value.slice.injEq] at hv
      obtain ⟨rfl, hvn, rfl⟩ := hv
      clear hvn
      obtain ⟨b2, o2, c2, hv2, hF2, hbl2, hc2⟩ := HKRow.out.key rfl hkk
      simp only [Value.slice.injEq] at hv2
      obtain ⟨rfl, hvn, rfl⟩ := hv2
      clear hvn
      have kc0 : wr.cell? ⟨b2, o2 + k, none⟩ = some (.string ks[k]) := by rw [← hc2 k hkk]; exact World.cell?_of_block (HF.out.ahead hF2 hbl2)
      have hkz : ks[k].size ≤ 140737488351232 := by have := HKs.out ks[k] (List.getElem_mem hkk); omega
      have HQ : Hid (∀ u, PrStep pb w u → u.cell? ⟨b, o + k * 6, none⟩ = some (.int .i64 xk) ∧ u.cell? ⟨b, o + k * 6 + 1, none⟩ = some (.bool xb) ∧ u.cell? ⟨b, o + k * 6 + 2, none⟩ = some (.int .i64 xn) ∧ u.cell? ⟨b, o + k * 6 + 3, none⟩ = some (.string xs) ∧ u.cell? ⟨b, o + k * 6 + 4, none⟩ = some (.slice xla xll xlc) ∧ u.cell? ⟨b, o + k * 6 + 5, none⟩ = some (.slice xka xkl xkc)) := by
        intro u hu
        have hag : u.heap[b]? = w.heap[b]? := hu.ahead hF hbl
        rw [← World.cell?_of_block hag] at q0 q1 q2 q3 q4 q5
        exact ⟨q0, q1, q2, q3, q4, q5⟩
      have HX := Lib.hid hx
      have HXm := Lib.hid (HSm.out l[k] (List.getElem_mem hkl))
      have hre2 := hre.out
      rw [List.drop_eq_getElem_cons hkl, List.drop_eq_getElem_cons hkk] at hre2
      unfold pairsP at hre2
      clear hre hx hkn q0 q1 q2 q3 q4 q5 hc2
      by_cases hk0 : k = 0
      · have g1 : decide ((0 : Int) < (k : Int)) = false := by simp; omega
        have g2 : decide (0 < k) = false := by simp; omega
        rw [show decide (k = 0) = true by simpa using hk0] at hre2
        clear hk0
        simp only [comma, if_true, bnd_ok] at hre2
        by_cases hfq : (acc).length + (quoteL ks[k].data.toList).length ≤ 65536
        · rw [putB_yes hfq, bnd_ok] at hre2
          have HFQ := Lib.hid hfq
          by_cases hfc : (acc ++ quoteL ks[k].data.toList).length + [(58 : UInt8)].length ≤ 65536
          · rw [putB_yes hfc, bnd_ok] at hre2
            have HFC := Lib.hid hfc
            clear hfq hfc
            cases hV : f l[k] (acc ++ quoteL ks[k].data.toList ++ [58]) with
            | error x =>
              obtain rfl : R = .error x := by rw [← hre2, hV]; rfl
              have HE := Lib.hid hV
              clear hV hre2
              go_wp2_with (first
                | (go_at_call 43; refine (jpquoted_yes HP.out hkz HFQ.out).mono ?_; rintro e w2 ⟨rfl, v2, hp2, hff⟩; have HP2 := Lib.hid hp2; have HF2 := Lib.hid hff; clear hp2 hff)
                | (go_at_call 39; refine (jput_yes (s := ⟨#[58]⟩) (bs := [58]) HP2.out rfl (by decide) HFC.out).mono ?_; rintro e w3 ⟨rfl, v3, hp3, hff⟩; have HP3 := Lib.hid hp3; have HF3 := Lib.hid (((HF.out).trans HF2.out).trans hff); have HO3 := Lib.hid (((HF2.out).trans hff).j6 HO.out HOb.out); clear hp3 hff; obtain ⟨q0, q1, q2, q3, q4, q5⟩ := HQ.out _ HF3.out; have o4 := HO3.out.c4)
                | (go_at_call 26; have HV := HSS.out l[k] [.int .i64 xk, .bool xb, .int .i64 xn, .string xs, .slice xla xll xlc, .slice xka xkl xkc] _ v3 _ HP3.out (HF3.out.jin HX.out) HXm.out (HF3.out.tab HT.out hB hlt); rw [HE.out] at HV; refine HV.mono ?_; rintro e w4 ⟨rfl, hff⟩; unfold thrown; have HF4 := Lib.hid hff; clear hff HV))
              exact ⟨rfl, rfl, HF3.out.trans HF4.out⟩
            | ok acc2 =>
              rw [hV, bnd_ok] at hre2
              have HRE := Lib.hid hre2
              have HE := Lib.hid hV
              clear hV hre2
              go_wp2_with (first
                | (go_at_call 43; refine (jpquoted_yes HP.out hkz HFQ.out).mono ?_; rintro e w2 ⟨rfl, v2, hp2, hff⟩; have HP2 := Lib.hid hp2; have HF2 := Lib.hid hff; clear hp2 hff)
                | (go_at_call 39; refine (jput_yes (s := ⟨#[58]⟩) (bs := [58]) HP2.out rfl (by decide) HFC.out).mono ?_; rintro e w3 ⟨rfl, v3, hp3, hff⟩; have HP3 := Lib.hid hp3; have HF3 := Lib.hid (((HF.out).trans HF2.out).trans hff); have HO3 := Lib.hid (((HF2.out).trans hff).j6 HO.out HOb.out); clear hp3 hff; obtain ⟨q0, q1, q2, q3, q4, q5⟩ := HQ.out _ HF3.out; have o4 := HO3.out.c4)
                | (go_at_call 26; have HV := HSS.out l[k] [.int .i64 xk, .bool xb, .int .i64 xn, .string xs, .slice xla xll xlc, .slice xka xkl xkc] _ v3 _ HP3.out (HF3.out.jin HX.out) HXm.out (HF3.out.tab HT.out hB hlt); rw [HE.out] at HV; refine HV.mono ?_; rintro e w4 ⟨rfl, v4, hp4, hff⟩; have HP4 := Lib.hid hp4; have HF4 := Lib.hid hff; clear hp4 hff HV))
              go_roundg g
              case rel => exact ⟨k + 1, _, _, by first | rfl | (congr 1), by omega, by omega, HF4.out.j6 HO3.out HOb.out, HP4.out, HF3.out.trans HF4.out, Lib.hid (by rw [show decide (k + 1 = 0) = false by simp]; exact HRE.out)⟩
              case measure => omega
          · obtain rfl : R = .error 302 := by rw [← hre2, putB_no (Nat.lt_of_not_le hfc)]; rfl
            have HFC := Lib.hid (Nat.lt_of_not_le hfc)
            clear hfq hfc hre2
            go_wp2_with (first
              | (go_at_call 43; refine (jpquoted_yes HP.out hkz HFQ.out).mono ?_; rintro e w2 ⟨rfl, v2, hp2, hff⟩; have HP2 := Lib.hid hp2; have HF2 := Lib.hid hff; clear hp2 hff)
              | (go_at_call 39; refine (jput_no (s := ⟨#[58]⟩) (bs := [58]) HP2.out rfl (by decide) HFC.out).mono ?_; rintro e w3 ⟨rfl, hff⟩; unfold thrown; have HF3 := Lib.hid hff; clear hff))
            exact ⟨rfl, rfl, ((HF.out).trans HF2.out).trans HF3.out⟩
        · obtain rfl : R = .error 302 := by rw [← hre2, putB_no (Nat.lt_of_not_le hfq)]; rfl
          have HFQ := Lib.hid (Nat.lt_of_not_le hfq)
          clear hfq hre2
          go_wp2_with (go_at_call 43; refine (jpquoted_no HP.out hkz HFQ.out).mono ?_; rintro e w2 ⟨rfl, hff⟩; unfold thrown; have HF2 := Lib.hid hff; clear hff)
          exact ⟨rfl, rfl, (HF.out).trans HF2.out⟩
      have g1 : decide ((0 : Int) < (k : Int)) = true := by simp; omega
      have g2 : decide (0 < k) = true := by simp; omega
      rw [show decide (k = 0) = false by simpa using hk0] at hre2
      clear hk0
      simp only [comma, Bool.false_eq_true, if_false] at hre2
      by_cases hf1 : acc.length + 1 ≤ 65536
      · rw [putB_yes (by simpa using hf1), bnd_ok] at hre2
        have HC := Lib.hid (jput_yes (s := ⟨#[44]⟩) (bs := [44]) HP.out rfl (by decide) hf1)
        by_cases hfq : (acc ++ [44]).length + (quoteL ks[k].data.toList).length ≤ 65536
        · rw [putB_yes hfq, bnd_ok] at hre2
          have HFQ := Lib.hid hfq
          by_cases hfc : (acc ++ [44] ++ quoteL ks[k].data.toList).length + [(58 : UInt8)].length ≤ 65536
          · rw [putB_yes hfc, bnd_ok] at hre2
            have HFC := Lib.hid hfc
            clear hfq hfc
            cases hV : f l[k] (acc ++ [44] ++ quoteL ks[k].data.toList ++ [58]) with
            | error x =>
              obtain rfl : R = .error x := by rw [← hre2, hV]; rfl
              have HE := Lib.hid hV
              clear hV hre2
              go_wp2_with (first
                | (go_at_call 39; first | ((with_reducible refine HC.out.mono ?_); rintro e w1 ⟨rfl, v1, hp1, hf1⟩; have HP1 := Lib.hid hp1; have HF1 := Lib.hid hf1; clear hp1 hf1) | (refine (jput_yes (s := ⟨#[58]⟩) (bs := [58]) HP2.out rfl (by decide) HFC.out).mono ?_; rintro e w3 ⟨rfl, v3, hp3, hff⟩; have HP3 := Lib.hid hp3; have HF3 := Lib.hid (((HF.out.trans HF1.out).trans HF2.out).trans hff); have HO3 := Lib.hid (((HF1.out.trans HF2.out).trans hff).j6 HO.out HOb.out); clear hp3 hff; obtain ⟨q0, q1, q2, q3, q4, q5⟩ := HQ.out _ HF3.out; have o4 := HO3.out.c4))
                | (go_at_call 43; refine (jpquoted_yes HP1.out hkz HFQ.out).mono ?_; rintro e w2 ⟨rfl, v2, hp2, hff⟩; have HP2 := Lib.hid hp2; have HF2 := Lib.hid hff; clear hp2 hff)
                | (go_at_call 26; have HV := HSS.out l[k] [.int .i64 xk, .bool xb, .int .i64 xn, .string xs, .slice xla xll xlc, .slice xka xkl xkc] _ v3 _ HP3.out (HF3.out.jin HX.out) HXm.out (HF3.out.tab HT.out hB hlt); rw [HE.out] at HV; refine HV.mono ?_; rintro e w4 ⟨rfl, hff⟩; unfold thrown; have HF4 := Lib.hid hff; clear hff HV))
              exact ⟨rfl, rfl, HF3.out.trans HF4.out⟩
            | ok acc2 =>
              rw [hV, bnd_ok] at hre2
              have HRE := Lib.hid hre2
              have HE := Lib.hid hV
              clear hV hre2
              go_wp2_with (first
                | (go_at_call 39; first | ((with_reducible refine HC.out.mono ?_); rintro e w1 ⟨rfl, v1, hp1, hf1⟩; have HP1 := Lib.hid hp1; have HF1 := Lib.hid hf1; clear hp1 hf1) | (refine (jput_yes (s := ⟨#[58]⟩) (bs := [58]) HP2.out rfl (by decide) HFC.out).mono ?_; rintro e w3 ⟨rfl, v3, hp3, hff⟩; have HP3 := Lib.hid hp3; have HF3 := Lib.hid (((HF.out.trans HF1.out).trans HF2.out).trans hff); have HO3 := Lib.hid (((HF1.out.trans HF2.out).trans hff).j6 HO.out HOb.out); clear hp3 hff; obtain ⟨q0, q1, q2, q3, q4, q5⟩ := HQ.out _ HF3.out; have o4 := HO3.out.c4))
                | (go_at_call 43; refine (jpquoted_yes HP1.out hkz HFQ.out).mono ?_; rintro e w2 ⟨rfl, v2, hp2, hff⟩; have HP2 := Lib.hid hp2; have HF2 := Lib.hid hff; clear hp2 hff)
                | (go_at_call 26; have HV := HSS.out l[k] [.int .i64 xk, .bool xb, .int .i64 xn, .string xs, .slice xla xll xlc, .slice xka xkl xkc] _ v3 _ HP3.out (HF3.out.jin HX.out) HXm.out (HF3.out.tab HT.out hB hlt); rw [HE.out] at HV; refine HV.mono ?_; rintro e w4 ⟨rfl, v4, hp4, hff⟩; have HP4 := Lib.hid hp4; have HF4 := Lib.hid hff; clear hp4 hff HV))
              go_roundg g
              case rel => exact ⟨k + 1, _, _, by first | rfl | (congr 1), by omega, by omega, HF4.out.j6 HO3.out HOb.out, HP4.out, HF3.out.trans HF4.out, Lib.hid (by rw [show decide (k + 1 = 0) = false by simp]; exact HRE.out)⟩
              case measure => omega
          · obtain rfl : R = .error 302 := by rw [← hre2, putB_no (Nat.lt_of_not_le hfc)]; rfl
            have HFC := Lib.hid (Nat.lt_of_not_le hfc)
            clear hfq hfc hre2
            go_wp2_with (first
              | (go_at_call 39; first | ((with_reducible refine HC.out.mono ?_); rintro e w1 ⟨rfl, v1, hp1, hf1⟩; have HP1 := Lib.hid hp1; have HF1 := Lib.hid hf1; clear hp1 hf1) | (refine (jput_no (s := ⟨#[58]⟩) (bs := [58]) HP2.out rfl (by decide) HFC.out).mono ?_; rintro e w3 ⟨rfl, hff⟩; unfold thrown; have HF3 := Lib.hid hff; clear hff))
              | (go_at_call 43; refine (jpquoted_yes HP1.out hkz HFQ.out).mono ?_; rintro e w2 ⟨rfl, v2, hp2, hff⟩; have HP2 := Lib.hid hp2; have HF2 := Lib.hid hff; clear hp2 hff))
            exact ⟨rfl, rfl, ((HF.out.trans HF1.out).trans HF2.out).trans HF3.out⟩
        · obtain rfl : R = .error 302 := by rw [← hre2, putB_no (Nat.lt_of_not_le hfq)]; rfl
          have HFQ := Lib.hid (Nat.lt_of_not_le hfq)
          clear hfq hre2
          go_wp2_with (first
            | (go_at_call 39; refine HC.out.mono ?_; rintro e w1 ⟨rfl, v1, hp1, hf1⟩; have HP1 := Lib.hid hp1; have HF1 := Lib.hid hf1; clear hp1 hf1)
            | (go_at_call 43; refine (jpquoted_no HP1.out hkz HFQ.out).mono ?_; rintro e w2 ⟨rfl, hff⟩; unfold thrown; have HF2 := Lib.hid hff; clear hff))
          exact ⟨rfl, rfl, (HF.out.trans HF1.out).trans HF2.out⟩
      · obtain rfl : R = .error 302 := by rw [← hre2, putB_no (by simp; omega)]; rfl
        clear hre2
        go_wp2_with (go_at_call 39; refine (jput_no (s := ⟨#[44]⟩) (bs := [44]) HP.out rfl (by decide) (by simp; omega)).mono ?_; rintro e w1 ⟨rfl, hf1⟩; unfold thrown; have HF1 := Lib.hid hf1; clear hf1)
        exact ⟨rfl, rfl, HF.out.trans HF1.out⟩
  · rw [putB_no (by simp; omega), bnd_error]
    go_enter Tryd.func47, Tryd.ntmps47
    go_wp2_with (go_at_call 39; refine (jput_no (bs := [123]) HPa.out rfl (by decide) (by simp; omega)).mono ?_; rintro e w0 ⟨rfl, hf0⟩; unfold thrown; have HF0 := Lib.hid hf0; clear hf0)
    exact ⟨rfl, rfl, (PrStep.of_below pb hBa.out).trans HF0.out⟩
end Go.Proofs.YtcobadgpelhcoaaDoor

namespace Go.Proofs.YtcobadgpelhcoaaDoor
open Go.Conc Go.RowKit Go.Maps Go.WideMaps Go.Sort
set_option linter.unusedVariables false
set_option linter.unusedSimpArgs false

theorem prF_mk (sub : Option Pr) (k : Int) (b : Bool) (n : Int) (s : ByteArray) (l : List J) (ks : List ByteArray) (acc : List UInt8) : prF sub (.mk k b n s l ks) acc =
    if k = 0 then putB acc [110, 117, 108, 108]
    else if k = 1 then putB acc (Lib.formatBool b)
    else if k = 2 then putB acc (Lib.itoa n)
    else if k = 3 then (if validB s then putB acc (quoteL s.data.toList) else .error 300)
    else if k = 4 then (match sub with | none => .error 301 | some f => listP f l acc)
    else if k = 5 then (match sub with | none => .error 301 | some f => if keysOk ks l then objP f ks l acc else .error 300)
    else .error 300 := rfl
theorem below_grow (w : World) (k : Nat) (os : Array Obj) : Below w.heap.size w (grow (w.drewN k) os) :=
  ⟨rfl, rfl, rfl, by simp [grow], fun j hj => by simp only [grow]; rw [Array.getElem?_append_left (by simpa using hj)]; rfl⟩
/-- What stands within: nothing may, or what is known. -/
def SubPrAt (pb B d : Nat) (sub : Option Pr) : Prop := match sub with | none => d = 17 | some f => d ≤ 16 ∧ SubPr pb B ((d : Int) + 1) f
theorem JPut.of_below {pb : Nat} {r : Except Int (List UInt8)} {w w1 w' : World} {e : Ending} (hb : Below w.heap.size w w1) (h : JPut pb r w1 e w') : JPut pb r w e w' := by
  cases r with
  | error c => exact ⟨h.1, (PrStep.of_below pb hb).trans h.2⟩
  | ok a => obtain ⟨h1, v', h2, h3⟩ := h; exact ⟨h1, v', h2, (PrStep.of_below pb hb).trans h3⟩

set_option maxHeartbeats 4000000 in
set_option maxRecDepth 100000 in
theorem jpval_of (pb B d : Nat) (sub : Option Pr) (hsub : SubPrAt pb B d sub) (hB : B ≤ pb) : SubPr pb B (d : Int) (prF sub) := by
  intro j c acc v w h hj hm ht
  obtain ⟨k, b, n, s, l, ks, hn, hs, hl, hk, hks, hsm⟩ := hm
  obtain ⟨_, _, _, _, _, _, lv, kv, cs, hrow, hkrow, hcs, hjs⟩ := hj
  obtain ⟨_, la, lc, rfl, _⟩ := id hrow
  obtain ⟨_, ka, kc, rfl, _⟩ := id hkrow
  obtain ⟨nl, hnl⟩ : ∃ nl, nl = l.length := ⟨_, rfl⟩
  obtain ⟨nk, hnk⟩ : ∃ nk, nk = ks.length := ⟨_, rfl⟩
  have HRow := Lib.hid hrow
  have HKRow := Lib.hid hkrow
  have HJs : Hid (JsIn (fun g => g < pb) w l cs) := ⟨hcs, hjs⟩
  have HSm := Lib.hid hsm
  have HKs := Lib.hid hks
  have HT := Lib.hid ht
  have hlt := h.lt
  rw [← hnl] at HRow ⊢
  rw [← hnk] at HKRow ⊢
  have HNL := Lib.hid hnl
  have HNK := Lib.hid hnk
  have HSub := Lib.hid hsub
  have h0 := j6_new w (.int .i64 k) (.bool b) (.int .i64 n) (.string s) (.slice la nl lc) (.slice ka nk kc)
  have c0 := h0.c0; have c1 := h0.c1; have c2 := h0.c2; have c3 := h0.c3; have c4 := h0.c4; have c5 := h0.c5
  have HO := Lib.hid h0
  have HOb : Hid (w.heap.size ≠ pb) := by unfold Hid; omega
  have HBa := Lib.hid ((Below.refl _ w).alloc (Nat.le_refl _) (.cells #[.int .i64 k, .bool b, .int .i64 n, .string s, .slice la nl lc, .slice ka nk kc] 25))
  have HP := Lib.hid (h.below HBa.out)
  have HTa := Lib.hid (ht.keep (w' := w.alloc (.cells #[.int .i64 k, .bool b, .int .i64 n, .string s, .slice la nl lc, .slice ka nk kc] 25)) fun g hg => Below.heap_alloc _ _ _ (by omega))
  have hpa : pb < (w.alloc (.cells #[.int .i64 k, .bool b, .int .i64 n, .string s, .slice la nl lc, .slice ka nk kc] 25)).heap.size := HP.out.lt
  have HLt := Lib.hid hpa
  clear h hrow hkrow hcs hjs hks hsm ht h0 hnl hnk hpa hsub
  rw [prF_mk]
  by_cases hk0 : k = 0
  · rw [if_pos hk0]
    subst hk0
    generalize hR : putB acc [110, 117, 108, 108] = R
    have HC := Lib.hid (hR ▸ jput_any pb ⟨#[110, 117, 108, 108]⟩ acc _ v HP.out (by decide))
    cases hr : R with
    | error x =>
      rw [hr] at HC
      clear hr
      go_enter Tryd.func26, Tryd.ntmps26
      go_wp2_with (go_at_call 39; refine HC.out.mono ?_; rintro e w2 ⟨rfl, hf2⟩; unfold thrown; have HF2 := Lib.hid hf2; clear hf2)
      exact ⟨rfl, rfl, (PrStep.of_below pb HBa.out).trans HF2.out⟩
    | ok a =>
      rw [hr] at HC
      clear hr
      go_enter Tryd.func26, Tryd.ntmps26
      go_wp2_with (go_at_call 39; refine HC.out.mono ?_; rintro e w2 ⟨rfl, v2, hp2, hf2⟩; have HP2 := Lib.hid hp2; have HF2 := Lib.hid hf2; clear hp2 hf2)
      go_end0
      exact ⟨rfl, _, HP2.out, (PrStep.of_below pb HBa.out).trans HF2.out⟩
  rw [if_neg hk0]
  have gk0 : (k == 0) = false := by simpa using hk0
  by_cases hk1 : k = 1
  · rw [if_pos hk1]
    subst hk1
    generalize hR : putB acc (Lib.formatBool b) = R
    have HC : Hid (Calls Tryd.prog 39 #[.pointer (some ⟨pb, 0, none⟩), .string ⟨(Lib.formatBool b).toArray⟩] (w.alloc (.cells #[.int .i64 1, .bool b, .int .i64 n, .string s, .slice la nl lc, .slice ka nk kc] 25)) (JPut pb R (w.alloc (.cells #[.int .i64 1, .bool b, .int .i64 n, .string s, .slice la nl lc, .slice ka nk kc] 25)))) := by
      have hx := jput_any pb ⟨(Lib.formatBool b).toArray⟩ acc _ v HP.out (by cases b <;> decide)
      rw [show (ByteArray.mk (Lib.formatBool b).toArray).data.toList = Lib.formatBool b by simp, hR] at hx
      exact hx
    cases hr : R with
    | error x =>
      rw [hr] at HC
      clear hr
      go_enter Tryd.func26, Tryd.ntmps26
      go_wp2_with (first
        | (go_at_call 40; refine (Tryd.strconv_FormatBool b _).mono ?_; rintro e u' ⟨rfl, rfl⟩)
        | (go_at_call 39; refine HC.out.mono ?_; rintro e w2 ⟨rfl, hf2⟩; unfold thrown; have HF2 := Lib.hid hf2; clear hf2))
      exact ⟨rfl, rfl, (PrStep.of_below pb HBa.out).trans HF2.out⟩
    | ok a =>
      rw [hr] at HC
      clear hr
      go_enter Tryd.func26, Tryd.ntmps26
      go_wp2_with (first
        | (go_at_call 40; refine (Tryd.strconv_FormatBool b _).mono ?_; rintro e u' ⟨rfl, rfl⟩)
        | (go_at_call 39; refine HC.out.mono ?_; rintro e w2 ⟨rfl, v2, hp2, hf2⟩; have HP2 := Lib.hid hp2; have HF2 := Lib.hid hf2; clear hp2 hf2))
      go_end0
      exact ⟨rfl, _, HP2.out, (PrStep.of_below pb HBa.out).trans HF2.out⟩
  rw [if_neg hk1]
  have gk1 : (k == 1) = false := by simpa using hk1
  by_cases hk2 : k = 2
  · rw [if_pos hk2]
    subst hk2
    generalize hR : putB acc (Lib.itoa n) = R
    have HI := Lib.hid (Tryd.strconv_Itoa n hn.1 hn.2 (w.alloc (.cells #[.int .i64 2, .bool b, .int .i64 n, .string s, .slice la nl lc, .slice ka nk kc] 25)) HTa.out.tab)
    have hil := Lib.itoa_length_le n hn.1 hn.2
    have HC : Hid (∀ u, Below (w.alloc (.cells #[.int .i64 2, .bool b, .int .i64 n, .string s, .slice la nl lc, .slice ka nk kc] 25)).heap.size (w.alloc (.cells #[.int .i64 2, .bool b, .int .i64 n, .string s, .slice la nl lc, .slice ka nk kc] 25)) u → Calls Tryd.prog 39 #[.pointer (some ⟨pb, 0, none⟩), .string ⟨(Lib.itoa n).toArray⟩] u (JPut pb R u)) := by
      intro u hu
      have hx := jput_any pb ⟨(Lib.itoa n).toArray⟩ acc u v (HP.out.below hu) (by simp [ByteArray.size]; omega)
      rw [show (ByteArray.mk (Lib.itoa n).toArray).data.toList = Lib.itoa n by simp, hR] at hx
      exact hx
    cases hr : R with
    | error x =>
      rw [hr] at HC
      clear hr
      go_enter Tryd.func26, Tryd.ntmps26
      go_wp2_with (first
        | (go_at_call 41; refine HI.out.mono ?_; rintro e u' ⟨rfl, m, os, rfl⟩; have HB1 := Lib.hid (below_grow (w.alloc (.cells #[.int .i64 2, .bool b, .int .i64 n, .string s, .slice la nl lc, .slice ka nk kc] 25)) m os); generalize grow ((w.alloc (.cells #[.int .i64 2, .bool b, .int .i64 n, .string s, .slice la nl lc, .slice ka nk kc] 25)).drewN m) os = w1 at *)
        | (go_at_call 39; refine (HC.out _ HB1.out).mono ?_; rintro e w2 ⟨rfl, hf2⟩; unfold thrown; have HF2 := Lib.hid hf2; clear hf2))
      exact ⟨rfl, rfl, ((PrStep.of_below pb HBa.out).below HB1.out).trans HF2.out⟩
    | ok a =>
      rw [hr] at HC
      clear hr
      go_enter Tryd.func26, Tryd.ntmps26
      go_wp2_with (first
        | (go_at_call 41; refine HI.out.mono ?_; rintro e u' ⟨rfl, m, os, rfl⟩; have HB1 := Lib.hid (below_grow (w.alloc (.cells #[.int .i64 2, .bool b, .int .i64 n, .string s, .slice la nl lc, .slice ka nk kc] 25)) m os); generalize grow ((w.alloc (.cells #[.int .i64 2, .bool b, .int .i64 n, .string s, .slice la nl lc, .slice ka nk kc] 25)).drewN m) os = w1 at *)
        | (go_at_call 39; refine (HC.out _ HB1.out).mono ?_; rintro e w2 ⟨rfl, v2, hp2, hf2⟩; have HP2 := Lib.hid hp2; have HF2 := Lib.hid hf2; clear hp2 hf2))
      go_end0
      exact ⟨rfl, _, HP2.out, ((PrStep.of_below pb HBa.out).below HB1.out).trans HF2.out⟩
  rw [if_neg hk2]
  have gk2 : (k == 2) = false := by simpa using hk2
  by_cases hk3 : k = 3
  · rw [if_pos hk3]
    subst hk3
    have HV := Lib.hid (jckrunes_any s (by omega) (w.alloc (.cells #[.int .i64 3, .bool b, .int .i64 n, .string s, .slice la nl lc, .slice ka nk kc] 25)))
    cases hv : validB s with
    | false =>
      rw [hv] at HV
      clear hv
      simp only [Bool.false_eq_true, if_false]
      go_enter Tryd.func26, Tryd.ntmps26
      go_wp2_with (go_at_call 42; refine HV.out.mono ?_; rintro e w1 ⟨rfl, hb1⟩; unfold thrown; have HB1 := Lib.hid hb1; clear hb1)
      exact ⟨rfl, rfl, (PrStep.of_below pb HBa.out).below HB1.out⟩
    | true =>
      rw [hv] at HV
      clear hv
      simp only [if_true]
      generalize hR : putB acc (quoteL s.data.toList) = R
      have HC : Hid (∀ u, Below (w.alloc (.cells #[.int .i64 3, .bool b, .int .i64 n, .string s, .slice la nl lc, .slice ka nk kc] 25)).heap.size (w.alloc (.cells #[.int .i64 3, .bool b, .int .i64 n, .string s, .slice la nl lc, .slice ka nk kc] 25)) u → Calls Tryd.prog 43 #[.pointer (some ⟨pb, 0, none⟩), .string s] u (JPut pb R u)) := by
        intro u hu
        have hx := jpquoted_any pb s acc u v (HP.out.below hu) (by omega)
        rw [hR] at hx
        exact hx
      cases hr : R with
      | error x =>
        rw [hr] at HC
        clear hr
        go_enter Tryd.func26, Tryd.ntmps26
        go_wp2_with (first
          | (go_at_call 42; refine HV.out.mono ?_; rintro e w1 ⟨rfl, hb1⟩; have HB1 := Lib.hid hb1; have HO1 := HO.out.frm (Frm.of_new hb1 (fun _ => False)) id; have d3 := HO1.c3; clear hb1 HO1)
          | (go_at_call 43; refine (HC.out _ HB1.out).mono ?_; rintro e w2 ⟨rfl, hf2⟩; unfold thrown; have HF2 := Lib.hid hf2; clear hf2))
        exact ⟨rfl, rfl, ((PrStep.of_below pb HBa.out).below HB1.out).trans HF2.out⟩
      | ok a =>
        rw [hr] at HC
        clear hr
        go_enter Tryd.func26, Tryd.ntmps26
        go_wp2_with (first
          | (go_at_call 42; refine HV.out.mono ?_; rintro e w1 ⟨rfl, hb1⟩; have HB1 := Lib.hid hb1; have HO1 := HO.out.frm (Frm.of_new hb1 (fun _ => False)) id; have d3 := HO1.c3; clear hb1 HO1)
          | (go_at_call 43; refine (HC.out _ HB1.out).mono ?_; rintro e w2 ⟨rfl, v2, hp2, hf2⟩; have HP2 := Lib.hid hp2; have HF2 := Lib.hid hf2; clear hp2 hf2))
        go_end0
        exact ⟨rfl, _, HP2.out, ((PrStep.of_below pb HBa.out).below HB1.out).trans HF2.out⟩
  rw [if_neg hk3]
  have gk3 : (k == 3) = false := by simpa using hk3
  by_cases hk4 : k = 4
  · rw [if_pos hk4]
    subst hk4
    match sub, HSub.out with
    | none, hsub =>
      obtain rfl : d = 17 := hsub
      have HD := Lib.hid (jckdepth_any 17 (w.alloc (.cells #[.int .i64 4, .bool b, .int .i64 n, .string s, .slice la nl lc, .slice ka nk kc] 25)))
      rw [show chk (decide (17 ≤ 16)) 301 = .error 301 from rfl] at HD
      go_enter Tryd.func26, Tryd.ntmps26
      go_wp2_with (go_at_call 44; refine HD.out.mono ?_; rintro e w1 ⟨rfl, hb1⟩; unfold thrown; have HB1 := Lib.hid hb1; clear hb1)
      exact ⟨rfl, rfl, (PrStep.of_below pb HBa.out).below HB1.out⟩
    | some f, hsub =>
      obtain ⟨hd, hf⟩ := hsub
      have HD := Lib.hid (jckdepth_any d (w.alloc (.cells #[.int .i64 4, .bool b, .int .i64 n, .string s, .slice la nl lc, .slice ka nk kc] 25)))
      rw [show chk (decide (d ≤ 16)) 301 = .ok () by unfold chk; simp [hd]] at HD
      have HFF := Lib.hid hf
      clear hf
      show Calls Tryd.prog _ _ _ (JPut pb (listP f l acc) w)
      generalize hR : listP f l acc = R
      have HC : Hid (∀ u, Below w.heap.size w u → PrAt u pb acc v → Calls Tryd.prog 45 #[.pointer (some ⟨pb, 0, none⟩), .slice la nl lc, .int .i64 d] u (JPut pb R u)) := by
        intro u hu hpu
        have hx := jplist_any pb B d f HFF.out hd hB l cs (.slice la nl lc) acc v u hpu (HNL.out ▸ HRow.out.same (fun g _ hl => hu.block g hl) hu.size) (HJs.out.imp fun _ _ hq => hq.same (fun g _ hl => hu.block g hl) hu.size) HSm.out hl (HT.out.keep fun g hg => hu.block g (by omega))
        rw [hR] at hx
        exact hx
      have HW : Hid (∀ u, Below (w.alloc (.cells #[.int .i64 4, .bool b, .int .i64 n, .string s, .slice la nl lc, .slice ka nk kc] 25)).heap.size (w.alloc (.cells #[.int .i64 4, .bool b, .int .i64 n, .string s, .slice la nl lc, .slice ka nk kc] 25)) u → Below w.heap.size w u ∧ PrAt u pb acc v) := fun u hu => ⟨((Frm.of_below HBa.out).trans (Frm.of_new hu _)).below (Nat.le_refl _), HP.out.below hu⟩
      cases hr : R with
      | error x =>
        rw [hr] at HC
        clear hr
        go_enter Tryd.func26, Tryd.ntmps26
        go_wp2_with (first
          | (go_at_call 44; refine HD.out.mono ?_; rintro e w1 ⟨rfl, hb1⟩; have HB1 := Lib.hid hb1; have HO1 := HO.out.frm (Frm.of_new hb1 (fun _ => False)) id; have d4 := HO1.c4; clear hb1)
          | (go_at_call 45; refine (HC.out _ (HW.out _ HB1.out).1 (HW.out _ HB1.out).2).mono ?_; rintro e w2 ⟨rfl, hf2⟩; unfold thrown; have HF2 := Lib.hid hf2; clear hf2))
        exact ⟨rfl, rfl, ((PrStep.of_below pb HBa.out).below HB1.out).trans HF2.out⟩
      | ok a =>
        rw [hr] at HC
        clear hr
        go_enter Tryd.func26, Tryd.ntmps26
        go_wp2_with (first
          | (go_at_call 44; refine HD.out.mono ?_; rintro e w1 ⟨rfl, hb1⟩; have HB1 := Lib.hid hb1; have HO1 := HO.out.frm (Frm.of_new hb1 (fun _ => False)) id; have d4 := HO1.c4; clear hb1)
          | (go_at_call 45; refine (HC.out _ (HW.out _ HB1.out).1 (HW.out _ HB1.out).2).mono ?_; rintro e w2 ⟨rfl, v2, hp2, hf2⟩; have HP2 := Lib.hid hp2; have HF2 := Lib.hid hf2; clear hp2 hf2))
        go_end0
        exact ⟨rfl, _, HP2.out, ((PrStep.of_below pb HBa.out).below HB1.out).trans HF2.out⟩
  rw [if_neg hk4]
  have gk4 : (k == 4) = false := by simpa using hk4
  by_cases hk5 : k = 5
  · rw [if_pos hk5]
    subst hk5
    match sub, HSub.out with
    | none, hsub =>
      obtain rfl : d = 17 := hsub
      have HD := Lib.hid (jckdepth_any 17 (w.alloc (.cells #[.int .i64 5, .bool b, .int .i64 n, .string s, .slice la nl lc, .slice ka nk kc] 25)))
      rw [show chk (decide (17 ≤ 16)) 301 = .error 301 from rfl] at HD
      go_enter Tryd.func26, Tryd.ntmps26
      go_wp2_with (go_at_call 44; refine HD.out.mono ?_; rintro e w1 ⟨rfl, hb1⟩; unfold thrown; have HB1 := Lib.hid hb1; clear hb1)
      exact ⟨rfl, rfl, (PrStep.of_below pb HBa.out).below HB1.out⟩
    | some f, hsub =>
      obtain ⟨hd, hf⟩ := hsub
      have HD := Lib.hid (jckdepth_any d (w.alloc (.cells #[.int .i64 5, .bool b, .int .i64 n, .string s, .slice la nl lc, .slice ka nk kc] 25)))
      rw [show chk (decide (d ≤ 16)) 301 = .ok () by unfold chk; simp [hd]] at HD
      have HFF := Lib.hid hf
      clear hf
      have HW : Hid (∀ u, Below (w.alloc (.cells #[.int .i64 5, .bool b, .int .i64 n, .string s, .slice la nl lc, .slice ka nk kc] 25)).heap.size (w.alloc (.cells #[.int .i64 5, .bool b, .int .i64 n, .string s, .slice la nl lc, .slice ka nk kc] 25)) u → Below w.heap.size w u ∧ PrAt u pb acc v) := fun u hu => ⟨((Frm.of_below HBa.out).trans (Frm.of_new hu _)).below (Nat.le_refl _), HP.out.below hu⟩
      have HK : Hid (∀ u, Below w.heap.size w u → Calls Tryd.prog 46 #[.agg #[.int .i64 5, .bool b, .int .i64 n, .string s, .slice la nl lc, .slice ka nk kc]] u (JChk (chk (keysOk ks l) 300) u)) := by
        intro u hu
        have hx := jckkeys_any (fun g => g < pb) 5 b n s nl ks (.slice ka nk kc) la lc u (HNK.out ▸ HKRow.out.same (fun g _ hl => hu.block g hl) hu.size) hk (by have := HNL.out; omega) HKs.out
        rw [HNL.out] at hx ⊢
        exact hx
      cases hkk : keysOk ks l with
      | false =>
        rw [hkk] at HK
        clear hkk
        simp only [Bool.false_eq_true, if_false]
        go_enter Tryd.func26, Tryd.ntmps26
        go_wp2_with (first
          | (go_at_call 44; refine HD.out.mono ?_; rintro e w1 ⟨rfl, hb1⟩; have HB1 := Lib.hid hb1; have HO1 := HO.out.frm (Frm.of_new hb1 (fun _ => False)) id; have d0 := HO1.c0; have d1 := HO1.c1; have d2 := HO1.c2; have d3 := HO1.c3; have d4 := HO1.c4; have d5 := HO1.c5; clear hb1)
          | (go_at_call 46; refine (HK.out _ (HW.out _ HB1.out).1).mono ?_; rintro e w1b ⟨rfl, hb2⟩; unfold thrown; have HB2 := Lib.hid (((Frm.of_below HB1.out).trans (Frm.of_new hb2 _)).below (Nat.le_refl _)); clear hb2))
        exact ⟨rfl, rfl, (PrStep.of_below pb HBa.out).below HB2.out⟩
      | true =>
        have hkl : ks.length = l.length := by unfold keysOk at hkk; simp only [Bool.and_eq_true, decide_eq_true_eq] at hkk; exact hkk.1
        have HKL := Lib.hid hkl
        rw [hkk] at HK
        clear hkk hkl
        simp only [if_true]
        generalize hR : objP f ks l acc = R
        have HC : Hid (∀ u, Below w.heap.size w u → PrAt u pb acc v → Calls Tryd.prog 47 #[.pointer (some ⟨pb, 0, none⟩), .agg #[.int .i64 5, .bool b, .int .i64 n, .string s, .slice la nl lc, .slice ka nk kc], .int .i64 d] u (JPut pb R u)) := by
          intro u hu hpu
          have hx := jpobj_any pb B d f HFF.out hd hB 5 b n s ks l cs (.slice la nl lc) (.slice ka nk kc) acc v u hpu (HNL.out ▸ HRow.out.same (fun g _ hl => hu.block g hl) hu.size) (HNK.out ▸ HKRow.out.same (fun g _ hl => hu.block g hl) hu.size) (HJs.out.imp fun _ _ hq => hq.same (fun g _ hl => hu.block g hl) hu.size) HKL.out HSm.out hl HKs.out (HT.out.keep fun g hg => hu.block g (by omega))
          rw [hR] at hx
          exact hx
        cases hr : R with
        | error x =>
          rw [hr] at HC
          clear hr
          go_enter Tryd.func26, Tryd.ntmps26
          go_wp2_with (first
            | (go_at_call 44; refine HD.out.mono ?_; rintro e w1 ⟨rfl, hb1⟩; have HB1 := Lib.hid hb1; have HO1 := HO.out.frm (Frm.of_new hb1 (fun _ => False)) id; have d0 := HO1.c0; have d1 := HO1.c1; have d2 := HO1.c2; have d3 := HO1.c3; have d4 := HO1.c4; have d5 := HO1.c5; clear hb1)
            | (go_at_call 46; refine (HK.out _ (HW.out _ HB1.out).1).mono ?_; rintro e w1b ⟨rfl, hb2⟩; have HB2 := Lib.hid (((Frm.of_below HB1.out).trans (Frm.of_new hb2 _)).below (Nat.le_refl _)); have HO2 := HO1.frm (Frm.of_new hb2 (fun _ => False)) id; have e0 := HO2.c0; have e1 := HO2.c1; have e2 := HO2.c2; have e3 := HO2.c3; have e4 := HO2.c4; have e5 := HO2.c5; clear hb2)
            | (go_at_call 47; refine (HC.out _ (HW.out _ HB2.out).1 (HW.out _ HB2.out).2).mono ?_; rintro e w2 ⟨rfl, hf2⟩; unfold thrown; have HF2 := Lib.hid hf2; clear hf2))
          exact ⟨rfl, rfl, ((PrStep.of_below pb HBa.out).below HB2.out).trans HF2.out⟩
        | ok a =>
          rw [hr] at HC
          clear hr
          go_enter Tryd.func26, Tryd.ntmps26
          go_wp2_with (first
            | (go_at_call 44; refine HD.out.mono ?_; rintro e w1 ⟨rfl, hb1⟩; have HB1 := Lib.hid hb1; have HO1 := HO.out.frm (Frm.of_new hb1 (fun _ => False)) id; have d0 := HO1.c0; have d1 := HO1.c1; have d2 := HO1.c2; have d3 := HO1.c3; have d4 := HO1.c4; have d5 := HO1.c5; clear hb1)
            | (go_at_call 46; refine (HK.out _ (HW.out _ HB1.out).1).mono ?_; rintro e w1b ⟨rfl, hb2⟩; have HB2 := Lib.hid (((Frm.of_below HB1.out).trans (Frm.of_new hb2 _)).below (Nat.le_refl _)); have HO2 := HO1.frm (Frm.of_new hb2 (fun _ => False)) id; have e0 := HO2.c0; have e1 := HO2.c1; have e2 := HO2.c2; have e3 := HO2.c3; have e4 := HO2.c4; have e5 := HO2.c5; clear hb2)
            | (go_at_call 47; refine (HC.out _ (HW.out _ HB2.out).1 (HW.out _ HB2.out).2).mono ?_; rintro e w2 ⟨rfl, v2, hp2, hf2⟩; have HP2 := Lib.hid hp2; have HF2 := Lib.hid hf2; clear hp2 hf2))
          go_end0
          exact ⟨rfl, _, HP2.out, ((PrStep.of_below pb HBa.out).below HB2.out).trans HF2.out⟩
  rw [if_neg hk5]
  have gk5 : (k == 5) = false := by simpa using hk5
  go_enter Tryd.func26, Tryd.ntmps26
  go_wp2_with (go_at_call 33; refine (jthrow_any _ _).mono ?_; rintro e u' ⟨rfl, rfl⟩)
  exact ⟨rfl, rfl, (PrStep.of_below pb HBa.out)⟩

theorem subpr_ok (pb B : Nat) (hB : B ≤ pb) : ∀ (n d : Nat), d + n = 17 → SubPr pb B (d : Int) (prN n)
  | 0, d, h => jpval_of pb B d none (show d = 17 by omega) hB
  | n + 1, d, h => jpval_of pb B d (some (prN n)) ⟨by omega, by have := subpr_ok pb B hB n (d + 1) (by omega); simpa using this⟩ hB
end Go.Proofs.YtcobadgpelhcoaaDoor

namespace Go.Proofs.YtcobadgpelhcoaaDoor
open Go.Conc Go.RowKit Go.Maps Go.WideMaps Go.Sort
set_option linter.unusedVariables false
set_option linter.unusedSimpArgs false

/-- What is printed of a value. -/
def printN (j : J) : Except Int (List UInt8) := prN 16 j []
theorem PrAt.new (w : World) : PrAt (w.alloc (.cells #[.slice none 0 0] 59)) w.heap.size [] (.slice none 0 0) := ⟨heap_alloc_new w _, World.ownsRow_nil _ _ _ _, by simp⟩
theorem PrStep.belowNew {w : World} {o : Obj} {w' : World} (h : PrStep w.heap.size (w.alloc o) w') : Below w.heap.size w w' := by
  have h1 : Frm (fun k => w.heap.size ≤ k) (w.alloc o) w' := Frm.mono h fun k _ hk => by rcases hk with h1 | ⟨h1, _⟩ <;> omega
  exact ((Frm.of_below ((Below.refl _ w).alloc (Nat.le_refl _) o)).trans h1).below (Nat.le_refl _)
/-- A text is laid in a block, or something is thrown. -/
def JS (sb : Nat) (r : Except Int (List UInt8)) (w : World) (e : Ending) (w' : World) : Prop :=
  match r with
  | .ok bs => e = .returned (.tuple #[]) ∧ Frm (One sb) w w' ∧ w'.heap[sb]? = some (.cells #[.string ⟨bs.toArray⟩] 9)
  | .error c => e = thrown c ∧ Below w.heap.size w w'

set_option maxHeartbeats 4000000 in
set_option maxRecDepth 100000 in
theorem jprintc_any (jb sb B : Nat) (j : J) (xk : Int) (xb : Bool) (xn : Int) (xs : ByteArray) (xla : Option Addr) (xll xlc : Nat) (xka : Option Addr) (xkl xkc : Nat) (w : World) (hjb : J6 w jb (.int .i64 xk) (.bool xb) (.int .i64 xn) (.string xs) (.slice xla xll xlc) (.slice xka xkl xkc)) (hsb : w.heap[sb]? = some (.cells #[.string ⟨#[]⟩] 9))
    (hj : JIn (fun g => g < w.heap.size) w j [.int .i64 xk, .bool xb, .int .i64 xn, .string xs, .slice xla xll xlc, .slice xka xkl xkc]) (hm : JSm j) (ht : TabLow B w) (hB : B ≤ w.heap.size) :
    Calls Tryd.prog 25 #[.pointer (some ⟨jb, 0, none⟩), .pointer (some ⟨sb, 0, none⟩)] w (JS sb (printN j) w) := by
  have hsl : sb < w.heap.size := (Array.getElem?_eq_some_iff.1 hsb).1
  have hA := (Below.refl _ w).alloc (Nat.le_refl _) (.cells #[.slice none 0 0] 59)
  have HV := Lib.hid (subpr_ok w.heap.size B hB 16 1 rfl j [.int .i64 xk, .bool xb, .int .i64 xn, .string xs, .slice xla xll xlc, .slice xka xkl xkc] [] _ _ (PrAt.new w) (hj.same (fun g _ hl => hA.block g hl) hA.size) hm (ht.keep fun g hg => hA.block g (by omega)))
  have h6 := j6_alloc hjb (.cells #[.slice none 0 0] 59)
  have c0 := h6.c0; have c1 := h6.c1; have c2 := h6.c2; have c3 := h6.c3; have c4 := h6.c4; have c5 := h6.c5
  have HSB := Lib.hid hsb
  have HA := Lib.hid hA
  clear hjb hsb hj hm ht hA h6
  unfold printN
  cases hr : prN 16 j [] with
  | error x =>
    rw [hr] at HV
    clear hr
    go_enter Tryd.func25, Tryd.ntmps25
    go_wp2_with (go_at_call 26; refine HV.out.mono ?_; rintro e w2 ⟨rfl, hf⟩; unfold thrown; have HF2 := Lib.hid hf; clear hf)
    exact ⟨rfl, rfl, HF2.out.belowNew⟩
  | ok bs =>
    rw [hr] at HV
    clear hr
    go_enter Tryd.func25, Tryd.ntmps25
    go_wp2_with (go_at_call 26; refine HV.out.mono ?_; rintro e w2 ⟨rfl, v2, hp2, hf⟩; have HF2 := Lib.hid hf.belowNew; have HP2 := Lib.hid hp2; have p0 := hp2.c0; obtain ⟨a, c, hv2⟩ := hp2.slice; have hcv := own_text hp2.own; have hsb2 := (HF2.out.block sb hsl).trans HSB.out; have HS2 := Lib.hid hsb2; have s0 : w2.cell? ⟨sb, 0, none⟩ = some (.string ⟨#[]⟩) := (by rw [cell_of_row w2 sb 0 _ _ _ hsb2]; rfl); have z0 := frozen_of_row w2 sb 0 _ _ hsb2; rw [hv2] at p0 hcv; clear hf hp2 hsb2)
    go_end0
    have hset := Go.Joins.block_setCell (i := 0) HS2.out (.string ⟨bs.toArray⟩)
    exact ⟨rfl, (Frm.of_new HF2.out (One sb)).trans (frm_at _ _ _ _), by simpa using hset⟩

/-- Behind the catch. -/
def JGs (sb : Nat) (r : Except Int (List UInt8)) (w : World) (e : Ending) (w' : World) : Prop :=
  match r with
  | .ok bs => e = .returned (.int .i64 0) ∧ Frm (One sb) w w' ∧ w'.heap[sb]? = some (.cells #[.string ⟨bs.toArray⟩] 9)
  | .error c => e = .returned (.int .i64 c) ∧ Below w.heap.size w w'

set_option maxHeartbeats 4000000 in
set_option maxRecDepth 100000 in
theorem jcaught_print (jb sb B : Nat) (j : J) (xk : Int) (xb : Bool) (xn : Int) (xs : ByteArray) (xla : Option Addr) (xll xlc : Nat) (xka : Option Addr) (xkl xkc : Nat) (w : World) (hjb : J6 w jb (.int .i64 xk) (.bool xb) (.int .i64 xn) (.string xs) (.slice xla xll xlc) (.slice xka xkl xkc)) (hsb : w.heap[sb]? = some (.cells #[.string ⟨#[]⟩] 9))
    (hj : JIn (fun g => g < w.heap.size) w j [.int .i64 xk, .bool xb, .int .i64 xn, .string xs, .slice xla xll xlc, .slice xka xkl xkc]) (hm : JSm j) (ht : TabLow B w) (hB : B ≤ w.heap.size) :
    Calls Tryd.prog 19 #[.func (.func 25) #[] #[.pointer (some ⟨jb, 0, none⟩), .pointer (some ⟨sb, 0, none⟩)]] w (JGs sb (printN j) w) := by
  have hmf : ∀ (fn : Fn) (first cap : Array Value) (w : World), (Instr.makeFunc fn first cap).run Tryd.prog w = .ok (.func fn first cap) w := fun _ _ _ _ => rfl
  have hlt : sb < w.heap.size := (Array.getElem?_eq_some_iff.1 hsb).1
  have hA := (Below.refl _ w).alloc (Nat.le_refl _) (.cells #[.int .i64 0] 26)
  have HA := Lib.hid hA
  have HN : Hid ((w.alloc (.cells #[.int .i64 0] 26)).heap[w.heap.size]? = some (.cells #[.int .i64 0] 26)) := heap_alloc_new w _
  have HW := Lib.hid (jprintc_any jb sb B j xk xb xn xs xla xll xlc xka xkl xkc _ (j6_alloc hjb (.cells #[.int .i64 0] 26)) ((hA.block sb hlt).trans hsb) ((hj.same (fun g _ hl => hA.block g hl) hA.size).mono fun g hl _ => hl) hm (ht.keep fun g hg => hA.block g (by omega)) (by simp; omega))
  clear hjb hsb hj hm ht hA
  cases hV : printN j with
  | error x =>
    rw [hV] at HW
    clear hV
    go_enter_defers Tryd.func19, Tryd.ntmps19
    go_wp2_with (go_at_call 25; refine HW.out.mono ?_; rintro e w2 ⟨rfl, hf⟩; unfold thrown; have HF2 := Lib.hid hf; clear hf)
    refine leaves_cons (f := 30) (args := #[.pointer (some ⟨w.heap.size, 0, none⟩)]) (by simp) (by simp [go_sem]) ?_
    have hb2 : w2.heap[w.heap.size]? = some (.cells #[.int .i64 0] 26) := (HF2.out.block _ (by simp)).trans HN.out
    refine (jcatch_thrown w.heap.size x 0 [] w2 ?_ ?_).mono ?_
    · rw [cell_of_row w2 w.heap.size 0 _ _ _ hb2]; rfl
    · exact frozen_of_row w2 w.heap.size 0 _ _ hb2
    rintro e u' w'' ⟨rfl, rfl, rfl⟩
    have hc2 : (w2.setCell ⟨w.heap.size, 0, none⟩ (.int .i64 x)).cell? ⟨w.heap.size, 0, none⟩ = some (.int .i64 x) := by
      have hb := Go.Joins.block_setCell (i := 0) hb2 (.int .i64 x)
      rw [cell_of_row _ w.heap.size 0 _ _ _ hb]; rfl
    have hbel : Below w.heap.size w (w2.setCell ⟨w.heap.size, 0, none⟩ (.int .i64 x)) :=
      (((Frm.of_below HA.out).trans ((Frm.of_below HF2.out).mono fun k _ hk => by simp at hk; omega)).trans ((frm_at _ _ _ _).mono fun k _ hk => by have : k = w.heap.size := hk; omega)).below (Nat.le_refl _)
    simp [Leaves, settle, results, Tryd.results19, go_sem, hc2]
    exact ⟨rfl, hbel⟩
  | ok bs =>
    rw [hV] at HW
    clear hV
    go_enter_defers Tryd.func19, Tryd.ntmps19
    go_wp2_with (go_at_call 25; refine HW.out.mono ?_; rintro e w2 ⟨rfl, hf, h6⟩; have HF2 := Lib.hid hf; have H6 := Lib.hid h6; clear hf h6
                 have hb2 : w2.heap[w.heap.size]? = some (.cells #[.int .i64 0] 26) := (HF2.out.block _ (by simp) (by unfold One; omega)).trans HN.out
                 have hc1 : w2.cell? ⟨w.heap.size, 0, none⟩ = some (.int .i64 0) := by rw [cell_of_row w2 w.heap.size 0 _ _ _ hb2]; rfl
                 have hz1 : w2.frozen? ⟨w.heap.size, 0, none⟩ = false := frozen_of_row w2 w.heap.size 0 _ _ hb2)
    refine leaves_cons (f := 30) (args := #[.pointer (some ⟨w.heap.size, 0, none⟩)]) (by simp) (by simp [go_sem]) ?_
    refine (jcatch_idle _ _).mono ?_
    rintro e u' w'' ⟨rfl, rfl, rfl⟩
    have hc2 : (w2.setCell ⟨w.heap.size, 0, none⟩ (.int .i64 0)).cell? ⟨w.heap.size, 0, none⟩ = some (.int .i64 0) := by
      have hb := Go.Joins.block_setCell (i := 0) hb2 (.int .i64 0)
      rw [cell_of_row _ w.heap.size 0 _ _ _ hb]; rfl
    have hfv := frm_at w2 w.heap.size 0 (.int .i64 0)
    simp [Leaves, settle, results, Tryd.results19, go_sem, hc2]
    refine ⟨rfl, frm_new_one ((Frm.of_new HA.out (One sb)).trans HF2.out) (Nat.le_refl _) hfv, (hfv.block sb (by have := HF2.out.size; simp at this; omega) (by unfold One; omega)).trans H6.out⟩

/-- What Print answers. -/
def JPt (r : Except Int (List UInt8)) (w : World) (e : Ending) (w' : World) : Prop :=
  match r with
  | .ok bs => e = .returned (.tuple #[.string ⟨bs.toArray⟩, .int .i64 0]) ∧ Below w.heap.size w w'
  | .error c => e = .returned (.tuple #[.string ⟨#[]⟩, .int .i64 c]) ∧ Below w.heap.size w w'
set_option maxHeartbeats 4000000 in
set_option maxRecDepth 100000 in
theorem jprint_any (B : Nat) (j : J) (c : List Value) (w : World) (hj : JIn (fun g => g < w.heap.size) w j c) (hm : JSm j) (ht : TabLow B w) (hB : B ≤ w.heap.size) :
    Calls Tryd.prog 15 #[.agg c.toArray] w (JPt (printN j) w) := by
  have hmf : ∀ (fn : Fn) (first cap : Array Value) (w : World), (Instr.makeFunc fn first cap).run Tryd.prog w = .ok (.func fn first cap) w := fun _ _ _ _ => rfl
  obtain ⟨xk, xb, xn, xs, xla, xll, xlc, xka, xkl, xkc, rfl⟩ := hj.form
  have h6 := j6_new w (.int .i64 xk) (.bool xb) (.int .i64 xn) (.string xs) (.slice xla xll xlc) (.slice xka xkl xkc)
  have hA := (Below.refl _ w).alloc (Nat.le_refl _) (.cells #[.int .i64 xk, .bool xb, .int .i64 xn, .string xs, .slice xla xll xlc, .slice xka xkl xkc] 25)
  have hA2 := hA.alloc (by simp) (.cells #[.string ⟨#[]⟩] 9)
  have hsb : ((w.alloc (.cells #[.int .i64 xk, .bool xb, .int .i64 xn, .string xs, .slice xla xll xlc, .slice xka xkl xkc] 25)).alloc (.cells #[.string ⟨#[]⟩] 9)).heap[w.heap.size + 1]? = some (.cells #[.string ⟨#[]⟩] 9) := by have := heap_alloc_new (w.alloc (.cells #[.int .i64 xk, .bool xb, .int .i64 xn, .string xs, .slice xla xll xlc, .slice xka xkl xkc] 25)) (.cells #[.string ⟨#[]⟩] 9); simpa using this
  have HW := Lib.hid (jcaught_print w.heap.size (w.heap.size + 1) B j xk xb xn xs xla xll xlc xka xkl xkc _ (j6_alloc h6 (.cells #[.string ⟨#[]⟩] 9)) hsb ((hj.same (fun g _ hl => hA2.block g hl) hA2.size).mono fun g hl _ => hl) hm (ht.keep fun g hg => hA2.block g (by omega)) (by simp; omega))
  have HA2 := Lib.hid hA2
  have HSB := Lib.hid hsb
  clear h6 hA hA2 hj hm ht hsb
  cases hV : printN j with
  | error x =>
    rw [hV] at HW
    clear hV
    go_enter Tryd.func15, Tryd.ntmps15
    go_wp2_with (go_at_call 19; refine HW.out.mono ?_; rintro e w2 ⟨rfl, hf⟩; have HF2 := Lib.hid hf; clear hf; have hb2 := (HF2.out.block (w.heap.size + 1) (by simp)).trans HSB.out; have s0 : w2.cell? ⟨w.heap.size + 1, 0, none⟩ = some (.string ⟨#[]⟩) := (by rw [cell_of_row w2 (w.heap.size + 1) 0 _ _ _ hb2]; rfl); clear hb2)
    refine bodyPost_ret (v := .tuple #[.string ⟨#[]⟩, .int .i64 x]) (by simp [results, Tryd.results15, go_sem]) rfl ?_
    exact ⟨rfl, ((Frm.of_below HA2.out).trans ((Frm.of_below HF2.out).mono fun k _ hk => by simp at hk; omega)).below (Nat.le_refl _)⟩
  | ok bs =>
    rw [hV] at HW
    clear hV
    go_enter Tryd.func15, Tryd.ntmps15
    go_wp2_with (go_at_call 19; refine HW.out.mono ?_; rintro e w2 ⟨rfl, hf, hb2⟩; have HF2 := Lib.hid hf; clear hf; have s0 : w2.cell? ⟨w.heap.size + 1, 0, none⟩ = some (.string ⟨bs.toArray⟩) := (by rw [cell_of_row w2 (w.heap.size + 1) 0 _ _ _ hb2]; rfl); clear hb2)
    refine bodyPost_ret (v := .tuple #[.string ⟨bs.toArray⟩, .int .i64 0]) (by simp [results, Tryd.results15, go_sem]) rfl ?_
    exact ⟨rfl, ((Frm.of_below HA2.out).trans (HF2.out.mono fun k _ hk => by have : k = w.heap.size + 1 := hk; omega)).below (Nat.le_refl _)⟩
end Go.Proofs.YtcobadgpelhcoaaDoor
