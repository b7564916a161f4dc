/- White between turns nothing: the walk of the law. -/
import Derived.Test.YtcobadgpelhcoaaDoorFWhite
import Derived.Test.YtcobadgpelhcoaaDoorSAwake
import Derived.Deep.Cut
import Derived.Deep.CutRange
namespace Go.Proofs.YtcobadgpelhcoaaDoor
open Go.Conc Go.RowKit
set_option linter.unusedVariables false
set_option linter.unusedSimpArgs false

/-- The white that is put in. -/
def whS : Nat → ByteArray
  | 0 => ⟨#[32]⟩
  | 1 => ⟨#[9]⟩
  | 2 => ⟨#[10]⟩
  | 3 => ⟨#[13]⟩
  | _ => ⟨#[32, 10, 32]⟩
def whCells : Array Value := #[.string ⟨#[32]⟩, .string ⟨#[9]⟩, .string ⟨#[10]⟩, .string ⟨#[13]⟩, .string ⟨#[32, 10, 32]⟩]
def whQ (picks : Int) (n : Nat) : Nat := ((picks + (n : Int)) % 4).toNat
def whP (picks : Int) (n : Nat) : List UInt8 := (whS (whQ picks n)).data.toList
theorem whQ_lt (picks : Int) (n : Nat) : whQ picks n < 4 := by unfold whQ; omega
theorem whS_size (q : Nat) : (whS q).size ≤ 3 := by
  unfold whS
  split <;> decide
theorem whP_white (picks : Int) (n : Nat) : White (whP picks n) := by
  have h := whQ_lt picks n
  unfold whP
  generalize whQ picks n = q at *
  rcases (by omega : q = 0 ∨ q = 1 ∨ q = 2 ∨ q = 3) with rfl | rfl | rfl | rfl <;> (intro c hc; simp [whS] at hc; subst hc; decide)
theorem whP_length (picks : Int) (n : Nat) : (whP picks n).length ≤ 3 := by
  have := whS_size (whQ picks n)
  unfold whP
  rw [Array.length_toList]
  exact this
theorem and3 (z : Int) : bits .and .i64 (wrap64 z) 3 = (((z % 4).toNat : Nat) : Int) := by
  have e : (BitVec.ofInt 64 (wrap64 z)).toNat &&& (BitVec.ofInt 64 3).toNat = (z % 4).toNat := by
    rw [show (BitVec.ofInt 64 3).toNat = 2 ^ 2 - 1 from rfl, Nat.and_two_pow_sub_one_eq_mod, BitVec.toNat_ofInt]
    unfold wrap64
    omega
  show IntKind.i64.wrap ((BitVec.ofInt 64 (wrap64 z) &&& BitVec.ofInt 64 3).toNat : Int) = _
  rw [BitVec.toNat_and, e]
  generalize hn : (z % 4).toNat = n
  have h32 : n < 32 := by omega
  clear hn e
  have e : (n : Int) % 2 ^ 64 = n := Int.emod_eq_of_lt (by omega) (by omega)
  simp only [IntKind.wrap, IntKind.bits, IntKind.signed, e]
  rw [if_neg]
  simp
  omega
theorem whQ_and (picks : Int) (n : Nat) : bits .and .i64 (wrap64 (picks + (n : Int))) 3 = ((whQ picks n : Nat) : Int) := and3 _
theorem whQ_and1 (picks : Int) (n : Nat) : bits .and .i64 (wrap64 (wrap64 (picks + (n : Int)) + 1)) 3 = ((whQ picks (n + 1) : Nat) : Int) := by
  have e : wrap64 (wrap64 (picks + (n : Int)) + 1) = wrap64 (picks + ((n + 1 : Nat) : Int)) := by unfold wrap64; omega
  rw [e]
  exact and3 _

/-- The loop: what is put together so far stands in a row of one's own; the white in a block ahead of it. -/
structure WAt (g : Nat) (a w : World) (v : Value) (O : List UInt8) : Prop where
  own : w.ownsRow (g + 1) 5 1 v O.length (byteCells O)
  blk : w.heap[g]? = some (.cells whCells 9 (0, 0))
  bel : Below g a w
theorem WAt.cell {g : Nat} {a w : World} {v : Value} {O : List UInt8} (h : WAt g a w v O) {q : Nat} (hq : q < 4) : w.cell? ⟨g, q, none⟩ = some (.string (whS q)) := by
  rw [cell_of_row w g q _ _ _ h.blk]
  rcases (by omega : q = 0 ∨ q = 1 ∨ q = 2 ∨ q = 3) with rfl | rfl | rfl | rfl <;> rfl
theorem WAt.lt {g : Nat} {a w : World} {v : Value} {O : List UInt8} (h : WAt g a w v O) : g < w.heap.size := (Array.getElem?_eq_some_iff.1 h.blk).1
theorem WAt.grow {g : Nat} {a w w' : World} {v v' : Value} {O : List UInt8} (h : WAt g a w v O) (l : List UInt8) (hown : w'.ownsRow (g + 1) 5 1 v' (O.length + l.length) (byteCells O ++ byteCells l)) (hg : w.grownBy w' v.ownBlock) : WAt g a w' v' (O ++ l) := by
  have hne : ∀ k, v.ownBlock = some k → g + 1 ≤ k := fun k hk => own_block h.own hk.symm
  refine ⟨by rw [List.length_append, byteCells_append]; exact hown, ?_, ?_⟩
  · exact (hg.block g h.lt (fun e => by have := hne g e.symm; omega)).trans h.blk
  · have hb := h.bel
    exact ⟨by rw [hg.os, hb.os], by rw [hg.tape, hb.tape], by rw [hg.output, hb.output], Nat.le_trans hb.size hg.size, fun k hk => (hg.block k (by have := h.lt; omega) (fun e => by have := hne k e.symm; omega)).trans (hb.block k hk)⟩
theorem WAt.alloc {g : Nat} {a w : World} {v : Value} {O : List UInt8} (h : WAt g a w v O) (ob : Obj) : WAt g a (w.alloc ob) v O :=
  ⟨own_same h.own fun k _ hk => Below.heap_alloc w ob k hk, (Below.heap_alloc w ob g h.lt).trans h.blk, h.bel.alloc (Nat.le_of_lt h.lt) ob⟩
theorem strCells_bytes (s : ByteArray) : Lib.strCells s = byteCells s.data.toList := by simp [Lib.strCells, byteCells]
theorem errw_ne {c : Int} (h : c = 300 ∨ c = 301 ∨ c = 302) : (c == 0) = false ∧ (c != 0) = true := by
  rcases h with rfl | rfl | rfl <;> decide
theorem tr_ue : parseN numD [116, 114, 32, 117, 101] = .error 300 := by kernel_rfl

/-- White is put in. -/
theorem wp_white {g : Nat} {a w : World} {v : Value} {O : List UInt8} (h : WAt g a w v O) (hO : O.length ≤ 20000) {ops : Array Oper} {rest : List Oper} {op : Oper} {A : Act} {Q : Exit → Act → World → Prop} (hgd : op.guard = none) (sl x : Operand)
    (ho : op.op = .call { callee := .builtin .append, args := #[sl, x], argTypes := #[47, 9] }) (s : ByteArray) (hz : s.size ≤ 3) (hs : A.eval sl = v) (hx : A.eval x = .string s)
    (hK : ∀ v' w', WAt g a w' v' (O ++ s.data.toList) → wpList Tryd.prog ops Q rest (A.put op.dst v') w') : wpList Tryd.prog ops Q (op :: rest) A w := by
  obtain ⟨i0, hi0, hz0, hz1, hz2⟩ := info_parts infoByte
  refine Lib.wpList_append_own_string _ hgd sl x 47 9 ho (g + 1) 5 i0 Tryd.underlying47 Tryd.underlying9 hi0 hz0 hz1 hz2 v O.length (byteCells O) hs h.own s hx (by simp only [maxLen]; omega) (by omega) h.lt ?_
  intro v' w' hown hgrow _
  have e : s.size = s.data.toList.length := (Array.length_toList).symm
  rw [strCells_bytes, e] at hown
  exact hK v' w' (h.grow _ hown hgrow)
/-- A byte is put in. -/
theorem wp_byte {g : Nat} {a w : World} {v : Value} {O : List UInt8} (h : WAt g a w v O) (hO : O.length ≤ 20000) {ops : Array Oper} {rest : List Oper} {op : Oper} {A : Act} {Q : Exit → Act → World → Prop} (hgd : op.guard = none) (sl x : Operand)
    (ho : op.op = .call { callee := .builtin .append, args := #[sl, x], argTypes := #[47, 47] }) (c : UInt8) (z : Int) (hcz : (c.toNat : Int) = z) (hs : A.eval sl = v) (hx : A.eval x = .slice (some ⟨w.heap.size, 0, none⟩) 1 1)
    (hK : ∀ v' w', WAt g a w' v' (O ++ [c]) → wpList Tryd.prog ops Q rest (A.put op.dst v') w') : wpList Tryd.prog ops Q (op :: rest) A (w.alloc (.cells #[.int .u8 z] 5)) := by
  subst hcz
  obtain ⟨i0, hi0, hz0, hz1, hz2⟩ := info_parts infoByte
  have ha := h.alloc (.cells #[.int .u8 (c.toNat : Int)] 5)
  have hb : (w.alloc (.cells #[.int .u8 (c.toNat : Int)] 5)).heap[w.heap.size]? = some (.cells #[.int .u8 (c.toNat : Int)] 5 (0, 0)) := heap_alloc_new w _
  refine wpList_append_own _ hgd sl x 47 ho (g + 1) 5 i0 (.int .u8 0) 1 1 Tryd.underlying47 hi0 hz0 hz1 hz2 rfl (by decide) v O.length (byteCells O) hs ha.own ⟨w.heap.size, 0, none⟩ 1 1 (byteCells [c]) hx rfl (fun j u hj => ?_) (fun u hu => ?_) (by simp only [maxLen]; omega) (by omega) ha.lt ?_
  · have hj1 : j < 1 := by have := (List.getElem?_eq_some_iff.1 hj).1; simpa [byteCells] using this
    have hj0 : j = 0 := by omega
    subst hj0
    rw [show (⟨w.heap.size, 0, none⟩ : Addr).add 0 = ⟨w.heap.size, 0, none⟩ by simp [Addr.add], cell_of_row _ _ _ _ _ _ hb]
    simpa [byteCells] using hj
  · simp [byteCells] at hu
    subst hu
    rfl
  intro v' w' hown hgrow _
  exact hK v' w' (ha.grow [c] hown hgrow)

set_option maxHeartbeats 8000000 in
set_option maxRecDepth 100000 in
theorem jwhite_ok (B : Nat) (j : J) (x0 x1 x2 x3 x4 x5 : Value) (picks : Int) (w : World) (hj : JIn (fun g => g < w.heap.size) w j [x0, x1, x2, x3, x4, x5]) (hm : JSm j) (ht : TabLow B w) (hB : B ≤ w.heap.size) (T : ByteArray) (u : J) (hpj : printN j = .ok T.data.toList) (hz : T.size ≤ 2000) (hf : FmN 16 u T.data.toList) (hpu : parseN numD T.data.toList = .ok u) (hsu : JSm u) :
    Calls Tryd.prog 9 #[.agg #[x0, x1, x2, x3, x4, x5], .int .i64 picks] w fun e w' => e = .returned (.bool true) ∧ Below w.heap.size w w' := by
  have hbox := (Below.refl _ w).alloc (Nat.le_refl _) (.cells #[x0, x1, x2, x3, x4, x5] 25)
  have hbs := hbox.size
  have HTU : Hid (∀ u : World, Below w.heap.size w u → TabLow B u ∧ B ≤ u.heap.size) := fun u hu => ⟨ht.keep fun g hg => hu.block g (by omega), by have := hu.size; omega⟩
  have HA := Lib.hid (jawake_any B _ (HTU.out _ hbox).1 (HTU.out _ hbox).2)
  have HPJ : Hid (∀ u : World, Below w.heap.size w u → Calls Tryd.prog 15 #[.agg #[x0, x1, x2, x3, x4, x5]] u fun e w' => e = .returned (.tuple #[.string T, .int .i64 0]) ∧ Below u.heap.size u w') := by
    intro u hu
    have hp := jprint_any B j [x0, x1, x2, x3, x4, x5] u ((hj.same (fun g _ hl => hu.block g hl) hu.size).mono fun g hg _ => hg) hm (HTU.out u hu).1 (HTU.out u hu).2
    rw [hpj] at hp
    have hp : Calls Tryd.prog 15 #[.agg #[x0, x1, x2, x3, x4, x5]] u fun e w' => e = .returned (.tuple #[.string ⟨T.data.toList.toArray⟩, .int .i64 0]) ∧ Below u.heap.size u w' := hp
    rw [show (⟨T.data.toList.toArray⟩ : ByteArray) = T by cases T; simp] at hp
    exact hp
  have HF := Lib.hid hf
  have HPU := Lib.hid hpu
  have HSU := Lib.hid hsu
  clear hpj hf hpu hsu
  have HX := Lib.hid (j6_new w x0 x1 x2 x3 x4 x5)
  have HBX := Lib.hid hbox
  clear hbox hbs hj hm ht
  have gz : ¬ (2000 : Int) < (T.size : Int) := by omega
  have gz2 : decide ((T.size : Int) > 2000) = false := by simp; omega
  go_enter Tryd.func9, Tryd.ntmps9
  go_wp2_with (first
      | (go_at_call 14; refine HA.out.mono ?_; rintro e w1 ⟨rfl, hb1⟩
         have h6 := j6_below HX.out hb1
         have x0 := h6.c0; have x1 := h6.c1; have x2 := h6.c2; have x3 := h6.c3; have x4 := h6.c4; have x5 := h6.c5
         have HB1 := Lib.hid (HBX.out.trans (hb1.mono HBX.out.size)); clear hb1 h6)
      | (go_at_call 15; refine (HPJ.out _ (HB1.out)).mono ?_; rintro e w2 ⟨rfl, hb2⟩; have HB2 := Lib.hid (HB1.out.trans (hb2.mono HB1.out.size)); clear hb2)
      | (go_at_call 13; refine (num_any _ _).mono ?_; rintro e w' ⟨rfl, rfl⟩))
  go_loopw [8, 9, 10, 11] (fun ov wv sv iv wr => ∃ (i : Nat) (wi sk : Bool) (O : List UInt8), iv = .int .i64 i ∧ i ≤ T.size ∧ wv = .bool wi ∧ sv = .bool sk ∧ (sk = true → wi = true) ∧ WAt w2.heap.size w2 wr ov O ∧ O.length ≤ 7 * i ∧
    Hid (O ++ wh (whP picks) i wi sk (T.data.toList.drop i) = wh (whP picks) 0 false false T.data.toList)) (fun _ _ _ iv _ => T.size - (intOf iv).toNat)
  case atStart => exact ⟨0, false, false, [], rfl, by omega, rfl, rfl, by decide, ⟨World.ownsRow_nil _ _ _ _, heap_alloc_new w2 _, (Below.refl _ w2).alloc (Nat.le_refl _) _⟩, by simp, rfl⟩
  case round =>
    obtain ⟨i, wi, sk, O, rfl, hi, rfl, rfl, hsw, hw, hO, hE⟩ := hrel
    have HS0 := Lib.hid hw
    by_cases c : i < T.size
    · have hd : T.data.toList.drop i = T[i] :: T.data.toList.drop (i + 1) := by
        rw [List.drop_eq_getElem_cons (by simpa using c)]
        rfl
      have HE := Lib.hid hE.out
      rw [hd] at HE
      have hbl := T[i].toNat_lt
      clear hE hd
      have e1 := whQ_and picks i
      have e2 := whQ_and1 picks i
      have hq1 : ((whQ picks i : Nat) : Int) < 5 := by have := whQ_lt picks i; omega
      have hq2 : ((whQ picks (i + 1) : Nat) : Int) < 5 := by have := whQ_lt picks (i + 1); omega
      have hc0 := hw.cell (whQ_lt picks i)
      have hl1 : (whS (whQ picks i)).data.toList.length ≤ 3 := by rw [Array.length_toList]; exact whS_size _
      have hl2 : (whS (whQ picks (i + 1))).data.toList.length ≤ 3 := by rw [Array.length_toList]; exact whS_size _
      clear hw
      cases wi
      · obtain rfl : sk = false := by cases sk; rfl; exact absurd (hsw rfl) (by decide)
        by_cases hm : mark T[i] = true
        · have hm2 := hm
          unfold mark at hm2
          rw [decide_eq_true_eq] at hm2
          rcases hm2 with hc | hc | hc | hc | hc | hc
          · have hcn : T[i].toNat = 44 := by rw [hc]; rfl
            go_wp2_with (first
              | (at_builtin; have hx := HS2.out; clear hx; refine wp_white HS2.out (by simp only [List.length_append, List.length_cons, List.length_nil]; omega) rfl _ _ rfl (whS (whQ picks (i + 1))) (whS_size _) rfl rfl ?_; intro v3 u3 h3; have HS3 := Lib.hid h3; clear h3)
              | (at_builtin; have hx := HS1.out; clear hx; refine wp_byte HS1.out (by simp only [List.length_append]; omega) rfl _ _ rfl T[i] 44 (by omega) rfl rfl ?_; intro v2 u2 h2; have hc2 := h2.cell (whQ_lt picks (i + 1)); have HS2 := Lib.hid h2; clear h2)
              | (at_builtin; refine wp_white HS0.out (by omega) rfl _ _ rfl (whS (whQ picks i)) (whS_size _) rfl rfl ?_; intro v1 u1 h1; have HS1 := Lib.hid h1; clear h1))
            go_roundw
            case rel => exact ⟨i + 1, false, false, _, by go_num, by omega, rfl, rfl, by decide, HS3.out, by simp only [List.length_append, List.length_cons, List.length_nil]; omega, Lib.hid (by have := HE.out; rw [wh_mark hm] at this; simp only [List.append_assoc, List.singleton_append]; exact this)⟩
            case measure => simp [intOf]; omega
          · have hcn : T[i].toNat = 58 := by rw [hc]; rfl
            go_wp2_with (first
              | (at_builtin; have hx := HS2.out; clear hx; refine wp_white HS2.out (by simp only [List.length_append, List.length_cons, List.length_nil]; omega) rfl _ _ rfl (whS (whQ picks (i + 1))) (whS_size _) rfl rfl ?_; intro v3 u3 h3; have HS3 := Lib.hid h3; clear h3)
              | (at_builtin; have hx := HS1.out; clear hx; refine wp_byte HS1.out (by simp only [List.length_append]; omega) rfl _ _ rfl T[i] 58 (by omega) rfl rfl ?_; intro v2 u2 h2; have hc2 := h2.cell (whQ_lt picks (i + 1)); have HS2 := Lib.hid h2; clear h2)
              | (at_builtin; refine wp_white HS0.out (by omega) rfl _ _ rfl (whS (whQ picks i)) (whS_size _) rfl rfl ?_; intro v1 u1 h1; have HS1 := Lib.hid h1; clear h1))
            go_roundw
            case rel => exact ⟨i + 1, false, false, _, by go_num, by omega, rfl, rfl, by decide, HS3.out, by simp only [List.length_append, List.length_cons, List.length_nil]; omega, Lib.hid (by have := HE.out; rw [wh_mark hm] at this; simp only [List.append_assoc, List.singleton_append]; exact this)⟩
            case measure => simp [intOf]; omega
          · have hcn : T[i].toNat = 91 := by rw [hc]; rfl
            go_wp2_with (first
              | (at_builtin; have hx := HS2.out; clear hx; refine wp_white HS2.out (by simp only [List.length_append, List.length_cons, List.length_nil]; omega) rfl _ _ rfl (whS (whQ picks (i + 1))) (whS_size _) rfl rfl ?_; intro v3 u3 h3; have HS3 := Lib.hid h3; clear h3)
              | (at_builtin; have hx := HS1.out; clear hx; refine wp_byte HS1.out (by simp only [List.length_append]; omega) rfl _ _ rfl T[i] 91 (by omega) rfl rfl ?_; intro v2 u2 h2; have hc2 := h2.cell (whQ_lt picks (i + 1)); have HS2 := Lib.hid h2; clear h2)
              | (at_builtin; refine wp_white HS0.out (by omega) rfl _ _ rfl (whS (whQ picks i)) (whS_size _) rfl rfl ?_; intro v1 u1 h1; have HS1 := Lib.hid h1; clear h1))
            go_roundw
            case rel => exact ⟨i + 1, false, false, _, by go_num, by omega, rfl, rfl, by decide, HS3.out, by simp only [List.length_append, List.length_cons, List.length_nil]; omega, Lib.hid (by have := HE.out; rw [wh_mark hm] at this; simp only [List.append_assoc, List.singleton_append]; exact this)⟩
            case measure => simp [intOf]; omega
          · have hcn : T[i].toNat = 93 := by rw [hc]; rfl
            go_wp2_with (first
              | (at_builtin; have hx := HS2.out; clear hx; refine wp_white HS2.out (by simp only [List.length_append, List.length_cons, List.length_nil]; omega) rfl _ _ rfl (whS (whQ picks (i + 1))) (whS_size _) rfl rfl ?_; intro v3 u3 h3; have HS3 := Lib.hid h3; clear h3)
              | (at_builtin; have hx := HS1.out; clear hx; refine wp_byte HS1.out (by simp only [List.length_append]; omega) rfl _ _ rfl T[i] 93 (by omega) rfl rfl ?_; intro v2 u2 h2; have hc2 := h2.cell (whQ_lt picks (i + 1)); have HS2 := Lib.hid h2; clear h2)
              | (at_builtin; refine wp_white HS0.out (by omega) rfl _ _ rfl (whS (whQ picks i)) (whS_size _) rfl rfl ?_; intro v1 u1 h1; have HS1 := Lib.hid h1; clear h1))
            go_roundw
            case rel => exact ⟨i + 1, false, false, _, by go_num, by omega, rfl, rfl, by decide, HS3.out, by simp only [List.length_append, List.length_cons, List.length_nil]; omega, Lib.hid (by have := HE.out; rw [wh_mark hm] at this; simp only [List.append_assoc, List.singleton_append]; exact this)⟩
            case measure => simp [intOf]; omega
          · have hcn : T[i].toNat = 123 := by rw [hc]; rfl
            go_wp2_with (first
              | (at_builtin; have hx := HS2.out; clear hx; refine wp_white HS2.out (by simp only [List.length_append, List.length_cons, List.length_nil]; omega) rfl _ _ rfl (whS (whQ picks (i + 1))) (whS_size _) rfl rfl ?_; intro v3 u3 h3; have HS3 := Lib.hid h3; clear h3)
              | (at_builtin; have hx := HS1.out; clear hx; refine wp_byte HS1.out (by simp only [List.length_append]; omega) rfl _ _ rfl T[i] 123 (by omega) rfl rfl ?_; intro v2 u2 h2; have hc2 := h2.cell (whQ_lt picks (i + 1)); have HS2 := Lib.hid h2; clear h2)
              | (at_builtin; refine wp_white HS0.out (by omega) rfl _ _ rfl (whS (whQ picks i)) (whS_size _) rfl rfl ?_; intro v1 u1 h1; have HS1 := Lib.hid h1; clear h1))
            go_roundw
            case rel => exact ⟨i + 1, false, false, _, by go_num, by omega, rfl, rfl, by decide, HS3.out, by simp only [List.length_append, List.length_cons, List.length_nil]; omega, Lib.hid (by have := HE.out; rw [wh_mark hm] at this; simp only [List.append_assoc, List.singleton_append]; exact this)⟩
            case measure => simp [intOf]; omega
          · have hcn : T[i].toNat = 125 := by rw [hc]; rfl
            go_wp2_with (first
              | (at_builtin; have hx := HS2.out; clear hx; refine wp_white HS2.out (by simp only [List.length_append, List.length_cons, List.length_nil]; omega) rfl _ _ rfl (whS (whQ picks (i + 1))) (whS_size _) rfl rfl ?_; intro v3 u3 h3; have HS3 := Lib.hid h3; clear h3)
              | (at_builtin; have hx := HS1.out; clear hx; refine wp_byte HS1.out (by simp only [List.length_append]; omega) rfl _ _ rfl T[i] 125 (by omega) rfl rfl ?_; intro v2 u2 h2; have hc2 := h2.cell (whQ_lt picks (i + 1)); have HS2 := Lib.hid h2; clear h2)
              | (at_builtin; refine wp_white HS0.out (by omega) rfl _ _ rfl (whS (whQ picks i)) (whS_size _) rfl rfl ?_; intro v1 u1 h1; have HS1 := Lib.hid h1; clear h1))
            go_roundw
            case rel => exact ⟨i + 1, false, false, _, by go_num, by omega, rfl, rfl, by decide, HS3.out, by simp only [List.length_append, List.length_cons, List.length_nil]; omega, Lib.hid (by have := HE.out; rw [wh_mark hm] at this; simp only [List.append_assoc, List.singleton_append]; exact this)⟩
            case measure => simp [intOf]; omega
        · have hne : T[i].toNat ≠ 44 ∧ T[i].toNat ≠ 58 ∧ T[i].toNat ≠ 91 ∧ T[i].toNat ≠ 93 ∧ T[i].toNat ≠ 123 ∧ T[i].toNat ≠ 125 := by
            unfold mark at hm
            rw [decide_eq_true_eq] at hm
            refine ⟨fun e => hm (.inl (UInt8.toNat_inj.1 (by rw [e]; rfl))), fun e => hm (.inr (.inl (UInt8.toNat_inj.1 (by rw [e]; rfl)))), fun e => hm (.inr (.inr (.inl (UInt8.toNat_inj.1 (by rw [e]; rfl))))), fun e => hm (.inr (.inr (.inr (.inl (UInt8.toNat_inj.1 (by rw [e]; rfl)))))), fun e => hm (.inr (.inr (.inr (.inr (.inl (UInt8.toNat_inj.1 (by rw [e]; rfl))))))), fun e => hm (.inr (.inr (.inr (.inr (.inr ((UInt8.toNat_inj.1 (by rw [e]; rfl))))))))⟩
          obtain ⟨n44, n58, n91, n93, n123, n125⟩ := hne
          have f44a : ((T[i].toNat : Int) == 44) = false := by simp; omega
          have f44b : ¬ ((T[i].toNat : Int) = 44) := by omega
          have f44c : (T[i].toNat == 44) = false := by simp; omega
          have f58a : ((T[i].toNat : Int) == 58) = false := by simp; omega
          have f58b : ¬ ((T[i].toNat : Int) = 58) := by omega
          have f58c : (T[i].toNat == 58) = false := by simp; omega
          have f91a : ((T[i].toNat : Int) == 91) = false := by simp; omega
          have f91b : ¬ ((T[i].toNat : Int) = 91) := by omega
          have f91c : (T[i].toNat == 91) = false := by simp; omega
          have f93a : ((T[i].toNat : Int) == 93) = false := by simp; omega
          have f93b : ¬ ((T[i].toNat : Int) = 93) := by omega
          have f93c : (T[i].toNat == 93) = false := by simp; omega
          have f123a : ((T[i].toNat : Int) == 123) = false := by simp; omega
          have f123b : ¬ ((T[i].toNat : Int) = 123) := by omega
          have f123c : (T[i].toNat == 123) = false := by simp; omega
          have f125a : ((T[i].toNat : Int) == 125) = false := by simp; omega
          have f125b : ¬ ((T[i].toNat : Int) = 125) := by omega
          have f125c : (T[i].toNat == 125) = false := by simp; omega
          have hm : mark T[i] = false := by simpa using hm
          by_cases hc : T[i] = 34
          · have hcn : T[i].toNat = 34 := by rw [hc]; rfl
            go_wp2_with ((at_builtin; refine wp_byte HS0.out (by omega) rfl _ _ rfl T[i] 34 (by omega) rfl rfl ?_; intro v1 u1 h1; have HS1 := Lib.hid h1; clear h1))
            go_roundw
            case rel => exact ⟨i + 1, true, false, _, by go_num, by omega, rfl, rfl, by decide, HS1.out, by simp only [List.length_append, List.length_cons, List.length_nil]; omega, Lib.hid (by have := HE.out; rw [hc, wh_open] at this; rw [hc, List.append_assoc, List.singleton_append]; exact this)⟩
            case measure => simp [intOf]; omega
          · have n34 : T[i].toNat ≠ 34 := fun e => hc (UInt8.toNat_inj.1 (by rw [e]; rfl))
            have f34a : ((T[i].toNat : Int) == 34) = false := by simp; omega
            have f34b : ¬ ((T[i].toNat : Int) = 34) := by omega
            have f34c : (T[i].toNat == 34) = false := by simp; omega
            go_wp2_with ((at_builtin; refine wp_byte HS0.out (by omega) rfl _ _ rfl T[i] _ rfl rfl rfl ?_; intro v1 u1 h1; have HS1 := Lib.hid h1; clear h1))
            go_roundw
            case rel => exact ⟨i + 1, false, false, _, by go_num, by omega, rfl, rfl, by decide, HS1.out, by simp only [List.length_append, List.length_cons, List.length_nil]; omega, Lib.hid (by have := HE.out; rw [wh_plain hm hc] at this; rw [List.append_assoc, List.singleton_append]; exact this)⟩
            case measure => simp [intOf]; omega
      · cases sk
        · by_cases hc : T[i] = 92
          · have hcn : T[i].toNat = 92 := by rw [hc]; rfl
            go_wp2_with ((at_builtin; refine wp_byte HS0.out (by omega) rfl _ _ rfl T[i] 92 (by omega) rfl rfl ?_; intro v1 u1 h1; have HS1 := Lib.hid h1; clear h1))
            go_roundw
            case rel => exact ⟨i + 1, true, true, _, by go_num, by omega, rfl, rfl, by decide, HS1.out, by simp only [List.length_append, List.length_cons, List.length_nil]; omega, Lib.hid (by have := HE.out; rw [hc, wh_stroke] at this; rw [hc, List.append_assoc, List.singleton_append]; exact this)⟩
            case measure => simp [intOf]; omega
          · have n92 : T[i].toNat ≠ 92 := fun e => hc (UInt8.toNat_inj.1 (by rw [e]; rfl))
            have f92a : ((T[i].toNat : Int) == 92) = false := by simp; omega
            have f92b : ¬ ((T[i].toNat : Int) = 92) := by omega
            have f92c : (T[i].toNat == 92) = false := by simp; omega
            by_cases hq : T[i] = 34
            · have hcn : T[i].toNat = 34 := by rw [hq]; rfl
              go_wp2_with ((at_builtin; refine wp_byte HS0.out (by omega) rfl _ _ rfl T[i] 34 (by omega) rfl rfl ?_; intro v1 u1 h1; have HS1 := Lib.hid h1; clear h1))
              go_roundw
              case rel => exact ⟨i + 1, false, false, _, by go_num, by omega, rfl, rfl, by decide, HS1.out, by simp only [List.length_append, List.length_cons, List.length_nil]; omega, Lib.hid (by have := HE.out; rw [hq, wh_shut] at this; rw [hq, List.append_assoc, List.singleton_append]; exact this)⟩
              case measure => simp [intOf]; omega
            · have n34 : T[i].toNat ≠ 34 := fun e => hq (UInt8.toNat_inj.1 (by rw [e]; rfl))
              have f34a : ((T[i].toNat : Int) == 34) = false := by simp; omega
              have f34b : ¬ ((T[i].toNat : Int) = 34) := by omega
              have f34c : (T[i].toNat == 34) = false := by simp; omega
              go_wp2_with ((at_builtin; refine wp_byte HS0.out (by omega) rfl _ _ rfl T[i] _ rfl rfl rfl ?_; intro v1 u1 h1; have HS1 := Lib.hid h1; clear h1))
              go_roundw
              case rel => exact ⟨i + 1, true, false, _, by go_num, by omega, rfl, rfl, by decide, HS1.out, by simp only [List.length_append, List.length_cons, List.length_nil]; omega, Lib.hid (by have := HE.out; rw [wh_in1 hq hc] at this; rw [List.append_assoc, List.singleton_append]; exact this)⟩
              case measure => simp [intOf]; omega
        · by_cases hq : T[i] = 34
          · have hcn : T[i].toNat = 34 := by rw [hq]; rfl
            go_wp2_with ((at_builtin; refine wp_byte HS0.out (by omega) rfl _ _ rfl T[i] 34 (by omega) rfl rfl ?_; intro v1 u1 h1; have HS1 := Lib.hid h1; clear h1))
            go_roundw
            case rel => exact ⟨i + 1, true, false, _, by go_num, by omega, rfl, rfl, by decide, HS1.out, by simp only [List.length_append, List.length_cons, List.length_nil]; omega, Lib.hid (by have := HE.out; rw [wh_behind] at this; rw [List.append_assoc, List.singleton_append]; exact this)⟩
            case measure => simp [intOf]; omega
          · have n34 : T[i].toNat ≠ 34 := fun e => hq (UInt8.toNat_inj.1 (by rw [e]; rfl))
            have f34a : ((T[i].toNat : Int) == 34) = false := by simp; omega
            have f34b : ¬ ((T[i].toNat : Int) = 34) := by omega
            have f34c : (T[i].toNat == 34) = false := by simp; omega
            go_wp2_with ((at_builtin; refine wp_byte HS0.out (by omega) rfl _ _ rfl T[i] _ rfl rfl rfl ?_; intro v1 u1 h1; have HS1 := Lib.hid h1; clear h1))
            go_roundw
            case rel => exact ⟨i + 1, true, false, _, by go_num, by omega, rfl, rfl, by decide, HS1.out, by simp only [List.length_append, List.length_cons, List.length_nil]; omega, Lib.hid (by have := HE.out; rw [wh_behind] at this; rw [List.append_assoc, List.singleton_append]; exact this)⟩
            case measure => simp [intOf]; omega
    · obtain rfl : i = T.size := by omega
      have hd : T.data.toList.drop T.size = [] := List.drop_eq_nil_of_le (by rw [Array.length_toList]; exact Nat.le_refl _)
      have hOW : O = wh (whP picks) 0 false false T.data.toList := by
        have h1 := hE.out
        rw [hd, show wh (whP picks) T.size wi sk [] = [] by unfold wh; rfl, List.append_nil] at h1
        exact h1
      have hpo : parseN numD O = .ok u := by
        rw [hOW]
        exact white_parse (whP_white picks) (whP_length picks) HF.out (by rw [Array.length_toList]; exact hz)
      have HP1 : Hid (∀ v : World, Calls Tryd.prog 10 #[.string T] v fun e w' => ∃ cs : List Value, e = .returned (.tuple #[.agg cs.toArray, .int .i64 0]) ∧ Below v.heap.size v w' ∧ JIn (fun g => v.heap.size ≤ g) w' u cs) := by
        intro v
        have hp := jparse_any T v (by omega)
        rw [HPU.out] at hp
        exact hp
      obtain ⟨P, hP⟩ : ∃ P : ByteArray, P = ⟨O.toArray⟩ := ⟨_, rfl⟩
      have HP2 : Hid (∀ v : World, Calls Tryd.prog 10 #[.string P] v fun e w' => ∃ cs : List Value, e = .returned (.tuple #[.agg cs.toArray, .int .i64 0]) ∧ Below v.heap.size v w' ∧ JIn (fun g => v.heap.size ≤ g) w' u cs) := by
        intro v
        have hp := jparse_any P v (by rw [hP]; show O.toArray.size ≤ _; rw [List.size_toArray]; omega)
        rw [hP, show (⟨O.toArray⟩ : ByteArray).data.toList = O by simp, hpo, ← hP] at hp
        exact hp
      have HP3 : Hid (∀ v : World, Calls Tryd.prog 10 #[.string ⟨#[116, 114, 32, 117, 101]⟩] v fun e w' => e = .returned (.tuple #[zJ, .int .i64 300]) ∧ Below v.heap.size v w') := by
        intro v
        have hp := jparse_any ⟨#[116, 114, 32, 117, 101]⟩ v (by show 5 ≤ 140737488351232; omega)
        rw [show (⟨#[116, 114, 32, 117, 101]⟩ : ByteArray).data.toList = [116, 114, 32, 117, 101] from rfl, tr_ue] at hp
        exact hp
      have HSK := Lib.hid (same_json HSU.out)
      obtain ⟨la, lc, hov⟩ := own_slice HS0.out.own
      subst hov
      have hcv0 : ∀ v : World, Below wr.heap.size wr v → (convert 47 9 (.slice la O.length lc)).run Tryd.prog v = .ok (.string P) v := fun v hv => by
        rw [hP]
        exact own_text (own_same HS0.out.own fun g _ hl => hv.block g hl)
      have HCV := Lib.hid hcv0
      have HBR := Lib.hid (HB2.out.trans (HS0.out.bel.mono HB2.out.size))
      clear hd hOW hpo hP hcv0 hE hw
      go_wp2_with (first
        | (go_at_call 10; have hx := HA4.out; clear hx; refine (HP3.out _).mono ?_; rintro e w5 ⟨he, hb5⟩; unfold zJ at he; subst he
           have HA5 := Lib.hid (hb5.alloc hb5.size (.cells #[.int .i64 0, .bool false, .int .i64 0, .string ⟨#[]⟩, .slice none 0 0, .slice none 0 0] 25))
           have h6y := j6_below (j6_below (j6_below (j6_new w3 (.int .i64 yk) (.bool yb) (.int .i64 yn) (.string ys) (.slice yla yll ylc) (.slice yka ykl ykc)) HA4.out) HZ4.out) HA5.out
           have p0 := h6y.c0; have p1 := h6y.c1; have p2 := h6y.c2; have p3 := h6y.c3; have p4 := h6y.c4; have p5 := h6y.c5
           have h6z := j6_below (j6_new w4 (.int .i64 zk) (.bool zb) (.int .i64 zn) (.string zs) (.slice zla zll zlc) (.slice zka zkl zkc)) HA5.out
           have q0 := h6z.c0; have q1 := h6z.c1; have q2 := h6z.c2; have q3 := h6z.c3; have q4 := h6z.c4; have q5 := h6z.c5
           clear hb5 h6y h6z)
        | (go_at_call 10; have hx := HY3.out; clear hx; refine (HP2.out _).mono ?_; rintro e w4 ⟨cs, rfl, hb4, hjc⟩
           obtain ⟨zk, zb, zn, zs, zla, zll, zlc, zka, zkl, zkc, rfl⟩ := hjc.form
           have HJZ := Lib.hid hjc
           have HA4 := Lib.hid hb4
           have HZ4 := Lib.hid ((Below.refl _ w4).alloc (Nat.le_refl _) (.cells #[.int .i64 zk, .bool zb, .int .i64 zn, .string zs, .slice zla zll zlc, .slice zka zkl zkc] 25))
           clear hb4 hjc)
        | (go_at_call 10; refine (HP1.out _).mono ?_; rintro e w3 ⟨cs, rfl, hb3, hjc⟩
           obtain ⟨yk, yb, yn, ys, yla, yll, ylc, yka, ykl, ykc, rfl⟩ := hjc.form
           have HJY := Lib.hid hjc
           have HY3 := Lib.hid hb3
           have hcv := HCV.out _ (hb3.alloc hb3.size (.cells #[.int .i64 yk, .bool yb, .int .i64 yn, .string ys, .slice yla yll ylc, .slice yka ykl ykc] 25))
           clear hb3 hjc)
        | (go_at_call 13; refine (num_any _ _).mono ?_; rintro e w' ⟨rfl, rfl⟩)
        | (go_at_call 12
           have hj1 := jin_below (jin_below (jin_below (jin_below HJY.out ((Below.refl _ w3).alloc (Nat.le_refl _) (.cells #[.int .i64 yk, .bool yb, .int .i64 yn, .string ys, .slice yla yll ylc, .slice yka ykl ykc] 25))) HA4.out) HZ4.out) HA5.out
           have hj2 := jin_below (jin_below HJZ.out HZ4.out) HA5.out
           refine (HSK.out _ _ [.int .i64 yk, .bool yb, .int .i64 yn, .string ys, .slice yla yll ylc, .slice yka ykl ykc] [.int .i64 zk, .bool zb, .int .i64 zn, .string zs, .slice zla zll zlc, .slice zka zkl zkc] _ hj1 hj2).mono ?_; rintro e w8 ⟨rfl, hb8⟩
           have HB8 := Lib.hid hb8
           clear hb8 hj1 hj2))
      go_ret
      have b3 := HBR.out.trans (HY3.out.mono HBR.out.size)
      have b3 := b3.alloc b3.size (.cells #[.int .i64 yk, .bool yb, .int .i64 yn, .string ys, .slice yla yll ylc, .slice yka ykl ykc] 25)
      have b4 := b3.trans (HA4.out.mono b3.size)
      have b4 := b4.trans (HZ4.out.mono b4.size)
      have b5 := b4.trans (HA5.out.mono b4.size)
      exact ⟨rfl, b5.trans (HB8.out.mono b5.size)⟩

set_option maxHeartbeats 8000000 in
set_option maxRecDepth 100000 in
theorem jwhite_no (B : Nat) (j : J) (x0 x1 x2 x3 x4 x5 : Value) (picks : Int) (w : World) (hj : JIn (fun g => g < w.heap.size) w j [x0, x1, x2, x3, x4, x5]) (hm : JSm j) (ht : TabLow B w) (hB : B ≤ w.heap.size) (ca : Int) (hpj : printN j = .error ca) :
    Calls Tryd.prog 9 #[.agg #[x0, x1, x2, x3, x4, x5], .int .i64 picks] w fun e w' => e = .returned (.bool true) ∧ Below w.heap.size w w' := by
  have hbox := (Below.refl _ w).alloc (Nat.le_refl _) (.cells #[x0, x1, x2, x3, x4, x5] 25)
  have hbs := hbox.size
  have HTU : Hid (∀ u : World, Below w.heap.size w u → TabLow B u ∧ B ≤ u.heap.size) := fun u hu => ⟨ht.keep fun g hg => hu.block g (by omega), by have := hu.size; omega⟩
  have HA := Lib.hid (jawake_any B _ (HTU.out _ hbox).1 (HTU.out _ hbox).2)
  have HPJ : Hid (∀ u : World, Below w.heap.size w u → Calls Tryd.prog 15 #[.agg #[x0, x1, x2, x3, x4, x5]] u fun e w' => e = .returned (.tuple #[.string ⟨#[]⟩, .int .i64 ca]) ∧ Below u.heap.size u w') := by
    intro u hu
    have hp := jprint_any B j [x0, x1, x2, x3, x4, x5] u ((hj.same (fun g _ hl => hu.block g hl) hu.size).mono fun g hg _ => hg) hm (HTU.out u hu).1 (HTU.out u hu).2
    rw [hpj] at hp
    exact hp
  obtain ⟨hca1, hca2⟩ := errw_ne (e3_print j _ hpj)
  clear hpj
  have HX := Lib.hid (j6_new w x0 x1 x2 x3 x4 x5)
  have HBX := Lib.hid hbox
  clear hbox hbs hj hm ht
  go_enter Tryd.func9, Tryd.ntmps9
  go_wp2_with (first
      | (go_at_call 14; refine HA.out.mono ?_; rintro e w1 ⟨rfl, hb1⟩
         have h6 := j6_below HX.out hb1
         have x0 := h6.c0; have x1 := h6.c1; have x2 := h6.c2; have x3 := h6.c3; have x4 := h6.c4; have x5 := h6.c5
         have HB1 := Lib.hid (HBX.out.trans (hb1.mono HBX.out.size)); clear hb1 h6)
      | (go_at_call 15; refine (HPJ.out _ (HB1.out)).mono ?_; rintro e w2 ⟨rfl, hb2⟩; have HB2 := Lib.hid (HB1.out.trans (hb2.mono HB1.out.size)); clear hb2)
      | (go_at_call 13; refine (num_any _ _).mono ?_; rintro e w' ⟨rfl, rfl⟩))
  go_ret
  exact ⟨rfl, HB2.out⟩

set_option maxHeartbeats 8000000 in
set_option maxRecDepth 100000 in
theorem jwhite_long (B : Nat) (j : J) (x0 x1 x2 x3 x4 x5 : Value) (picks : Int) (w : World) (hj : JIn (fun g => g < w.heap.size) w j [x0, x1, x2, x3, x4, x5]) (hm : JSm j) (ht : TabLow B w) (hB : B ≤ w.heap.size) (T : ByteArray) (hpj : printN j = .ok T.data.toList) (hz : 2000 < T.size) (hz2 : T.size ≤ 65536) :
    Calls Tryd.prog 9 #[.agg #[x0, x1, x2, x3, x4, x5], .int .i64 picks] w fun e w' => e = .returned (.bool true) ∧ Below w.heap.size w w' := by
  have hbox := (Below.refl _ w).alloc (Nat.le_refl _) (.cells #[x0, x1, x2, x3, x4, x5] 25)
  have hbs := hbox.size
  have HTU : Hid (∀ u : World, Below w.heap.size w u → TabLow B u ∧ B ≤ u.heap.size) := fun u hu => ⟨ht.keep fun g hg => hu.block g (by omega), by have := hu.size; omega⟩
  have HA := Lib.hid (jawake_any B _ (HTU.out _ hbox).1 (HTU.out _ hbox).2)
  have HPJ : Hid (∀ u : World, Below w.heap.size w u → Calls Tryd.prog 15 #[.agg #[x0, x1, x2, x3, x4, x5]] u fun e w' => e = .returned (.tuple #[.string T, .int .i64 0]) ∧ Below u.heap.size u w') := by
    intro u hu
    have hp := jprint_any B j [x0, x1, x2, x3, x4, x5] u ((hj.same (fun g _ hl => hu.block g hl) hu.size).mono fun g hg _ => hg) hm (HTU.out u hu).1 (HTU.out u hu).2
    rw [hpj] at hp
    have hp : Calls Tryd.prog 15 #[.agg #[x0, x1, x2, x3, x4, x5]] u fun e w' => e = .returned (.tuple #[.string ⟨T.data.toList.toArray⟩, .int .i64 0]) ∧ Below u.heap.size u w' := hp
    rw [show (⟨T.data.toList.toArray⟩ : ByteArray) = T by cases T; simp] at hp
    exact hp
  have gz : (2000 : Int) < (T.size : Int) := by omega
  have gz2 : decide ((T.size : Int) > 2000) = true := by simp; omega
  clear hpj
  have HX := Lib.hid (j6_new w x0 x1 x2 x3 x4 x5)
  have HBX := Lib.hid hbox
  clear hbox hbs hj hm ht
  go_enter Tryd.func9, Tryd.ntmps9
  go_wp2_with (first
      | (go_at_call 14; refine HA.out.mono ?_; rintro e w1 ⟨rfl, hb1⟩
         have h6 := j6_below HX.out hb1
         have x0 := h6.c0; have x1 := h6.c1; have x2 := h6.c2; have x3 := h6.c3; have x4 := h6.c4; have x5 := h6.c5
         have HB1 := Lib.hid (HBX.out.trans (hb1.mono HBX.out.size)); clear hb1 h6)
      | (go_at_call 15; refine (HPJ.out _ (HB1.out)).mono ?_; rintro e w2 ⟨rfl, hb2⟩; have HB2 := Lib.hid (HB1.out.trans (hb2.mono HB1.out.size)); clear hb2)
      | (go_at_call 13; refine (num_any _ _).mono ?_; rintro e w' ⟨rfl, rfl⟩))
  go_ret
  exact ⟨rfl, HB2.out⟩

theorem jsonWhite_walk (B : Nat) (j : J) (x0 x1 x2 x3 x4 x5 : Value) (picks : Int) (w : World) (hj : JIn (fun g => g < w.heap.size) w j [x0, x1, x2, x3, x4, x5]) (hm : JSm j) (ht : TabLow B w) (hB : B ≤ w.heap.size) :
    Calls Tryd.prog 9 #[.agg #[x0, x1, x2, x3, x4, x5], .int .i64 picks] w fun e w' => e = .returned (.bool true) ∧ Below w.heap.size w w' := by
  cases hpj : printN j with
  | error ca => exact jwhite_no B j x0 x1 x2 x3 x4 x5 picks w hj hm ht hB ca hpj
  | ok bs =>
    obtain ⟨hf, _, hl⟩ := print_fm hm hpj
    have hpu := print_back hm hpj
    have hsu := clean_sm 16 _ (parse_clean hpu)
    obtain ⟨T, hT⟩ : ∃ T : ByteArray, T.data.toList = bs := ⟨⟨bs.toArray⟩, by simp⟩
    subst hT
    rw [Array.length_toList] at hl
    by_cases hz : T.size ≤ 2000
    · exact jwhite_ok B j x0 x1 x2 x3 x4 x5 picks w hj hm ht hB T _ hpj hz hf hpu hsu
    · exact jwhite_long B j x0 x1 x2 x3 x4 x5 picks w hj hm ht hB T hpj (by omega) hl

end Go.Proofs.YtcobadgpelhcoaaDoor
