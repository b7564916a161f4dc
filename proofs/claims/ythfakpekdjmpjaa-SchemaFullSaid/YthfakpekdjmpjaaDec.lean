/- Decimal of the statements: any number's numeral. -/
import Derived.Test.YthfakpekdjmpjaaOwn
import Derived.Test.YthfakpekdjmpjaaGrowE
import Derived.Lib.ItoaLen
import Derived.Laws.AppendOwnNone
import Derived.Laws.IdiomStrings
namespace Go.Proofs.Ythfakpekdjmpjaa
open Go.Conc Go.RowKit
set_option linter.unusedVariables false
set_option linter.unusedSimpArgs false

theorem dd_small {u : Nat} (h : u < 10) : Lib.decDigits u = [UInt8.ofNat (48 + u)] := by rw [Lib.decDigits, dif_pos h]
theorem dd_big {u : Nat} (h : ¬ u < 10) : Lib.decDigits u = Lib.decDigits (u / 10) ++ [UInt8.ofNat (48 + u % 10)] := by rw [Lib.decDigits, dif_neg h]
theorem dgt (n : Nat) (h : n < 10) : (UInt8.ofNat (48 + n)).toNat = 48 + n := by
  rw [UInt8.toNat_ofNat_of_lt']; show 48 + n < 256; omega
theorem add_block (a : Addr) (j : Nat) : (a.add j).block = a.block := by unfold Addr.add; cases j <;> rfl
def dg (n : Nat) : UInt8 := UInt8.ofNat (48 + n % 10)
theorem dg_toNat (n : Nat) : (dg n).toNat = 48 + n % 10 := dgt (n % 10) (by omega)
def dz (n : Nat) : List UInt8 := if n = 0 then [] else Lib.decDigits n
theorem dz_step (n : Nat) : Lib.decDigits n = dz (n / 10) ++ [dg n] := by
  unfold dz dg
  by_cases h : n < 10
  · rw [dd_small h, if_pos (by omega), List.nil_append, show n % 10 = n by omega]
  · rw [dd_big h, if_neg (by omega)]
theorem dz_len (n : Nat) (h : n < 18446744073709551616) : (dz n).length ≤ 20 := by
  unfold dz
  split
  · simp
  · rw [Lib.decDigits_length]; exact Lib.nDigits_le20 n h
theorem byteCells_one (l : List UInt8) : ∀ u ∈ byteCells l, u.oneCell' = true := by
  intro u hu
  obtain ⟨b, _, rfl⟩ := List.mem_map.1 hu
  rfl
def nilOne : Value → Nat
  | .slice none _ _ => 1
  | _ => 0
/-- What the loop has made of n: x is left, the digits l are in the row b. -/
def Made (w : World) (B n x : Nat) (b : Value) : Prop :=
  (b = .slice none 0 0 ∧ x = n) ∨ ∃ l g c, b = .slice (some ⟨g, 0, none⟩) l.length c ∧ l ≠ [] ∧ w.ownsRow B 5 1 b l.length (byteCells l) ∧ dz x ++ l = Lib.decDigits n
theorem ret_str {l m : List UInt8} (h : l = m) : Ending.returned (.string ⟨l.toArray⟩) = .returned (.string ⟨m.toArray⟩) := by rw [h]
theorem dg_cell (y : Nat) : byteCells [dg y] = [.int .u8 (48 + (y : Int) % 10)] := by simp [byteCells, dg_toNat]

theorem made_first {wr : World} {B n : Nat} (hB : B ≤ wr.heap.size) : Made (wr.alloc (.cells #[.int .u8 (48 + (n : Int) % 10)] 5)) B n (n / 10) (.slice (some ⟨wr.heap.size, 0, none⟩) 1 1) := by
  refine .inr ⟨[dg n], wr.heap.size, 1, rfl, by simp, ⟨by simp [byteCells], .inr ⟨wr.heap.size, 1, _, rfl, hB, heap_alloc_new wr _, by simp, by simp [maxLen], rfl, by rw [dg_cell]; rfl⟩⟩, ?_⟩
  exact (dz_step n).symm
/-- One byte more, ahead of the others. -/
theorem ahead_more {wr : World} {B g c : Nat} {l : List UInt8} (z : Int) (b : UInt8) (hz : byteCells [b] = [.int .u8 z]) (hown : wr.ownsRow B 5 1 (.slice (some ⟨g, 0, none⟩) l.length c) l.length (byteCells l)) (hl20 : l.length ≤ 30) (hB : B ≤ wr.heap.size) :
    ∃ v' w' g' c', (∀ ty, (Builtin.append_ #[51, 51] ty #[.slice (some ⟨wr.heap.size, 0, none⟩) 1 1, .slice (some ⟨g, 0, none⟩) l.length c]).run Try.prog (wr.alloc (.cells #[.int .u8 z] 5)) = .ok v' w') ∧ v' = .slice (some ⟨g', 0, none⟩) (b :: l).length c' ∧ w'.ownsRow B 5 1 v' (b :: l).length (byteCells (b :: l)) ∧ Below B wr w' := by
  obtain ⟨i0, hi, hz0, hz1, hz2⟩ := info_parts infoByte
  have hnew : (wr.alloc (.cells #[.int .u8 z] 5)).ownsRow B 5 1 (.slice (some ⟨wr.heap.size, 0, none⟩) 1 1) 1 (byteCells [b]) :=
    ⟨by simp [byteCells], .inr ⟨wr.heap.size, 1, _, rfl, hB, heap_alloc_new wr _, by simp, by simp [maxLen], rfl, by rw [hz]; rfl⟩⟩
  have hglt := (hown.lt g rfl).2
  obtain ⟨v', w', hr, ho, hg, hnil⟩ := run_append_own (P := Try.prog) (wr.alloc (.cells #[.int .u8 z] 5)) B 51 0 5 i0 (.int .u8 0) 1 1 Try.underlying51 hi hz0 hz1 hz2 rfl (by decide) _ 1 _ hnew
    ⟨g, 0, none⟩ l.length c (byteCells l) (by simp [byteCells]) (fun j u hu => (World.cell?_of_block (w := wr) (Below.heap_alloc _ _ _ (by rw [add_block]; exact hglt))).trans (hown.cells (g := g) rfl j u hu)) (byteCells_one l) (by simp only [maxLen]; omega) (by omega) (by simp; omega)
  have hv : ∃ g' c', v' = .slice (some ⟨g', 0, none⟩) (1 + l.length) c' := by
    rcases ho.2 with ⟨_, h0⟩ | ⟨g', cap, cur, rfl, _⟩
    · omega
    · exact ⟨g', cap, rfl⟩
  obtain ⟨g', c', rfl⟩ := hv
  have e : (b :: l).length = 1 + l.length := by simp; omega
  refine ⟨_, w', g', c', fun ty => hr, by rw [e], ?_, ?_⟩
  · rw [e, show b :: l = [b] ++ l from rfl, byteCells_append]
    exact ho
  · exact ((Below.refl _ _).alloc hB _).grown hg (by simp; omega) (fun k hk => by simp [Value.ownBlock] at hk; omega)
theorem made_more {wr : World} {B n y g c : Nat} {l : List UInt8} (hown : wr.ownsRow B 5 1 (.slice (some ⟨g, 0, none⟩) l.length c) l.length (byteCells l)) (hl : dz y ++ l = Lib.decDigits n) (hn : n < 18446744073709551616) (hy : 0 < y) (hB : B ≤ wr.heap.size) :
    ∃ v' w', (∀ ty, (Builtin.append_ #[51, 51] ty #[.slice (some ⟨wr.heap.size, 0, none⟩) 1 1, .slice (some ⟨g, 0, none⟩) l.length c]).run Try.prog (wr.alloc (.cells #[.int .u8 (48 + (y : Int) % 10)] 5)) = .ok v' w') ∧ Made w' B n (y / 10) v' ∧ Below B wr w' ∧ nilOne v' = 0 := by
  have hlen : (dz y ++ l).length ≤ 20 := by rw [hl, Lib.decDigits_length]; exact Lib.nDigits_le20 n hn
  obtain ⟨v', w', g', c', hr, hv, ho, hb⟩ := ahead_more _ (dg y) (dg_cell y) hown (by simp at hlen; omega) hB
  subst hv
  refine ⟨_, w', hr, .inr ⟨dg y :: l, g', c', rfl, by simp, ho, ?_⟩, hb, rfl⟩
  have := dz_step y
  rw [show dg y :: l = [dg y] ++ l from rfl, ← List.append_assoc, ← this, ← hl]
  unfold dz
  rw [if_neg (by omega)]

set_option maxHeartbeats 4000000 in
set_option maxRecDepth 100000 in
theorem decimal_z (x : Int) (hx0 : -9223372036854775808 ≤ x) (hx1 : x ≤ 9223372036854775807) (w : World) : Calls Try.prog 29 #[.int .i64 x] w fun e w' => e = .returned (.string ⟨(Lib.itoa x).toArray⟩) ∧ Below w.heap.size w w' := by
  rcases Int.lt_or_le x 0 with h | h
  · obtain ⟨n, hn⟩ : ∃ n : Nat, x = -(n : Int) - 1 := ⟨(x + 1).natAbs, by omega⟩
    subst hn
    obtain ⟨m, hm⟩ : ∃ m, m = n + 1 := ⟨_, rfl⟩
    have HI : Hid (Lib.itoa (-(n : Int) - 1) = 45 :: Lib.decDigits m) := by
      unfold Hid
      rw [show -(n : Int) - 1 = -((n + 1 : Nat) : Int) by omega, Lib.itoa_neg _ (by omega), hm]
    have hn2 : n ≤ 9223372036854775807 := by omega
    have HM := Lib.hid hm
    have hm2 : m ≤ 9223372036854775808 := by omega
    have g0 : decide (-(n : Int) - 1 < 0) = true := by simp; omega
    clear hx0 hx1 h hm
    go_enter Try.func29, Try.ntmps29
    go_wp2
    go_loopw [3, 4] (fun x b wr => ∃ y : Nat, y ≤ m ∧ x = .int .u64 y ∧ Made wr w.heap.size m y b ∧ Below w.heap.size w wr) (fun x b _ => (intOf x).toNat + nilOne b)
    case atStart => exact ⟨m, Nat.le_refl _, (by have := HM.out; subst this; go_num), .inl ⟨rfl, rfl⟩, Below.refl _ _⟩
    case round =>
      obtain ⟨y, hy, rfl, hm, hbel⟩ := hrel
      rcases hm with ⟨rfl, rfl⟩ | ⟨l, g, c, rfl, hne, hown, hl⟩
      · have HBel := Lib.hid hbel
        have hz := hbel.size
        have HM2 := Lib.hid (made_first (wr := wr) (B := w.heap.size) (n := y) hz)
        clear hbel
        by_cases h0 : 0 < y
        · go_wp2
          go_roundw
          case rel => exact ⟨y / 10, by omega, by go_num, HM2.out, HBel.out.alloc hz _⟩
          case measure => simp [intOf, nilOne]; omega
        · obtain rfl : y = 0 := by omega
          go_wp2
          go_roundw
          case rel => exact ⟨0 / 10, by omega, by go_num, HM2.out, HBel.out.alloc hz _⟩
          case measure => simp [intOf, nilOne]
      · have HBel := Lib.hid hbel
        have hz := hbel.size
        clear hbel
        have hl0 : ¬ l.length = 0 := by simpa using hne
        by_cases h0 : 0 < y
        · obtain ⟨v', w', hr, hM, hB2, hN⟩ := made_more hown hl (by omega) h0 hz
          have HR := Lib.hid hr
          have HM2 := Lib.hid hM
          have HB2 := Lib.hid hB2
          have HN := Lib.hid hN
          clear hr hM hB2 hN hown hl hne
          go_wp2_with (at_builtin; refine wpList_append_eq _ rfl (.tmp 25) (.tmp 26) 51 51 rfl _ _ rfl rfl (HR.out _) ?_)
          go_roundw
          case rel => exact ⟨y / 10, by omega, by go_num, HM2.out, HBel.out.trans HB2.out⟩
          case measure => rw [HN.out]; simp [intOf, nilOne]; omega
        · obtain rfl : y = 0 := by omega
          have hl2 : l = Lib.decDigits m := by rw [← hl]; rfl
          have hll : l.length ≤ 20 := by rw [hl2, Lib.decDigits_length]; exact Lib.nDigits_le20 m (by have := HM.out; omega)
          obtain ⟨v', w', g', c', hr, hv, ho, hb⟩ := ahead_more 45 45 rfl hown (by omega) hz
          subst hv
          have hcv := own_text ho
          rw [List.length_cons] at hcv
          have HR := Lib.hid hr
          have HB2 := Lib.hid hb
          have HL := Lib.hid hl2
          clear hr hb ho hown hl hne hl2
          go_wp2_with (at_builtin; refine wpList_append_eq _ rfl (.tmp 32) (.tmp 33) 51 51 rfl _ _ rfl rfl (HR.out _) ?_)
          go_ret
          exact ⟨ret_str (by rw [HI.out, HL.out]), HBel.out.trans HB2.out⟩
  · obtain ⟨n, hn⟩ : ∃ n : Nat, x = (n : Int) := ⟨x.natAbs, by omega⟩
    subst hn
    have HI : Hid (Lib.itoa (n : Int) = Lib.decDigits n) := Lib.itoa_nonneg n
    have hn2 : n ≤ 9223372036854775807 := by omega
    clear hx0 hx1 h
    go_enter Try.func29, Try.ntmps29
    go_wp2
    go_loopw [3, 4] (fun x b wr => ∃ y : Nat, y ≤ n ∧ x = .int .u64 y ∧ Made wr w.heap.size n y b ∧ Below w.heap.size w wr) (fun x b _ => (intOf x).toNat + nilOne b)
    case atStart => exact ⟨n, Nat.le_refl _, rfl, .inl ⟨rfl, rfl⟩, Below.refl _ _⟩
    case round =>
      obtain ⟨y, hy, rfl, hm, hbel⟩ := hrel
      rcases hm with ⟨rfl, rfl⟩ | ⟨l, g, c, rfl, hne, hown, hl⟩
      · have HBel := Lib.hid hbel
        have hz := hbel.size
        have HM2 := Lib.hid (made_first (wr := wr) (B := w.heap.size) (n := y) hz)
        clear hbel
        by_cases h0 : 0 < y
        · go_wp2
          go_roundw
          case rel => exact ⟨y / 10, by omega, by go_num, HM2.out, HBel.out.alloc hz _⟩
          case measure => simp [intOf, nilOne]; omega
        · obtain rfl : y = 0 := by omega
          go_wp2
          go_roundw
          case rel => exact ⟨0 / 10, by omega, by go_num, HM2.out, HBel.out.alloc hz _⟩
          case measure => simp [intOf, nilOne]
      · have HBel := Lib.hid hbel
        have hz := hbel.size
        clear hbel
        have hl0 : ¬ l.length = 0 := by simpa using hne
        by_cases h0 : 0 < y
        · obtain ⟨v', w', hr, hM, hB2, hN⟩ := made_more hown hl (by omega) h0 hz
          have HR := Lib.hid hr
          have HM2 := Lib.hid hM
          have HB2 := Lib.hid hB2
          have HN := Lib.hid hN
          clear hr hM hB2 hN hown hl hne
          go_wp2_with (at_builtin; refine wpList_append_eq _ rfl (.tmp 25) (.tmp 26) 51 51 rfl _ _ rfl rfl (HR.out _) ?_)
          go_roundw
          case rel => exact ⟨y / 10, by omega, by go_num, HM2.out, HBel.out.trans HB2.out⟩
          case measure => rw [HN.out]; simp [intOf, nilOne]; omega
        · obtain rfl : y = 0 := by omega
          have hl2 : l = Lib.decDigits n := by rw [← hl]; rfl
          have hcv : ∀ w1, (∀ j (hj : j < l.length), w1.cell? ((⟨g, 0, none⟩ : Addr).add j) = some (.int .u8 (l[j].toNat : Int))) → (convert 51 9 (.slice (some ⟨g, 0, none⟩) l.length c)).run Try.prog w1 = .ok (.string ⟨l.toArray⟩) w1 := fun w1 hc =>
            run_convert_bytes_back w1 51 9 5 ⟨g, 0, none⟩ c l Try.underlying51 Try.underlying5 Try.underlying9 hc
          have hc := hcv wr (fun j hj => hown.cells (g := g) rfl j _ (by simp [byteCells, List.getElem?_eq_getElem hj]))
          have HL := Lib.hid hl2
          clear hcv hown hl hne hl2
          go_wp2
          go_ret
          exact ⟨ret_str (HL.out.trans HI.out.symm), HBel.out⟩
end Go.Proofs.Ythfakpekdjmpjaa
