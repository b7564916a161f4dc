/- Decimal of the statements: a number's digits. -/
import Derived.Test.YtepenaoffdaacaaRow
import Derived.Laws.AppendOwnNone
import Derived.Laws.IdiomStrings
namespace Go.Proofs.Ytepenaoffdaacaa
open Go.Conc Go.RowKit

def digit (n : Nat) : UInt8 := UInt8.ofNat (48 + n % 10)
theorem digit_toNat (n : Nat) : (digit n).toNat = 48 + n % 10 := by
  unfold digit
  rw [UInt8.toNat_ofNat_of_lt']
  show 48 + n % 10 < 256
  omega
/-- A number's digits; fewer than f of them. -/
def digs : Nat → Nat → List UInt8
  | 0, _ => []
  | f + 1, n => if n < 10 then [digit n] else digs f (n / 10) ++ [digit n]
/-- .. of 0 none. -/
def digs0 (f n : Nat) : List UInt8 := if n = 0 then [] else digs f n
theorem digs_step (f n : Nat) : digs (f + 1) n = digs0 f (n / 10) ++ [digit n] := by
  unfold digs0
  simp only [digs]
  by_cases h : n < 10
  · rw [if_pos h, if_pos (by omega)]; rfl
  · rw [if_neg h, if_neg (by omega)]
theorem digs_fuel : ∀ (f g n : Nat), n < 10 ^ f → n < 10 ^ g → 0 < f → 0 < g → digs f n = digs g n
  | 0, _, _, _, _, h, _ => by omega
  | _, 0, _, _, _, _, h => by omega
  | f + 1, g + 1, n, h1, h2, _, _ => by
    simp only [digs]
    by_cases h : n < 10
    · rw [if_pos h, if_pos h]
    · rw [if_neg h, if_neg h]
      have e1 : n / 10 < 10 ^ f := by rw [Nat.pow_succ] at h1; omega
      have e2 : n / 10 < 10 ^ g := by rw [Nat.pow_succ] at h2; omega
      have f0 : 0 < f := by rcases Nat.eq_zero_or_pos f with rfl | h'; · simp at e1; omega
                            · exact h'
      have g0 : 0 < g := by rcases Nat.eq_zero_or_pos g with rfl | h'; · simp at e2; omega
                            · exact h'
      rw [digs_fuel f g (n / 10) e1 e2 f0 g0]
/-- The digits of a number of 64 bits. -/
def dec (n : Nat) : List UInt8 := digs 20 n
def dec0 (n : Nat) : List UInt8 := if n = 0 then [] else dec n
theorem dec_step (n : Nat) (h : n < 10 ^ 20) : dec n = dec0 (n / 10) ++ [digit n] := by
  unfold dec
  rw [show (20 : Nat) = 19 + 1 from rfl, digs_step, digs0, dec0]
  by_cases h0 : n / 10 = 0
  · rw [if_pos h0, if_pos h0]
  · rw [if_neg h0, if_neg h0]
    unfold dec
    rw [digs_fuel 19 20 (n / 10) (by have e : (10 : Nat) ^ 20 = 10 ^ 19 * 10 := rfl; omega) (by omega) (by omega) (by omega)]
theorem digs_length (f n : Nat) : (digs f n).length ≤ f := by
  induction f generalizing n with
  | zero => simp [digs]
  | succ f ih =>
    simp only [digs]
    split
    · simp
    · simp only [List.length_append, List.length_cons, List.length_nil]; have := ih (n / 10); omega
theorem dec_length (n : Nat) : (dec n).length ≤ 20 := digs_length 20 n
theorem digs_range (f n : Nat) : ∀ c ∈ digs f n, 48 ≤ c.toNat ∧ c.toNat ≤ 57 := by
  induction f generalizing n with
  | zero => simp [digs]
  | succ f ih =>
    intro c hc
    simp only [digs] at hc
    split at hc
    · simp only [List.mem_cons, List.not_mem_nil, or_false] at hc
      subst hc
      rw [digit_toNat]; omega
    · rcases List.mem_append.1 hc with h | h
      · exact ih _ c h
      · simp only [List.mem_cons, List.not_mem_nil, or_false] at h
        subst h
        rw [digit_toNat]; omega
theorem dec_range (n : Nat) : ∀ c ∈ dec n, 48 ≤ c.toNat ∧ c.toNat ≤ 57 := digs_range 20 n
/-- What digits say. -/
def undec (l : List UInt8) : Nat := l.foldl (fun a c => 10 * a + (c.toNat - 48)) 0
theorem undec_digs (f n : Nat) (h : n < 10 ^ f) : undec (digs f n) = n := by
  induction f generalizing n with
  | zero => simp at h; simp [digs, undec, h]
  | succ f ih =>
    simp only [digs]
    by_cases h0 : n < 10
    · rw [if_pos h0]
      simp [undec, digit_toNat]; omega
    · rw [if_neg h0]
      have := ih (n / 10) (by rw [Nat.pow_succ] at h; omega)
      simp only [undec, List.foldl_append, List.foldl_cons, List.foldl_nil, digit_toNat] at *
      rw [this]; omega
theorem dec_inj {a b : Nat} (ha : a < 10 ^ 20) (hb : b < 10 ^ 20) (h : dec a = dec b) : a = b := by
  have h1 := undec_digs 20 a ha
  have h2 := undec_digs 20 b hb
  unfold dec at h
  rw [h, h2] at h1
  exact h1.symm

def byteCells (l : List UInt8) : List Value := l.map fun b => Value.int .u8 (b.toNat : Int)
theorem byteCells_one (l : List UInt8) : ∀ u ∈ byteCells l, u.oneCell' = true := by
  intro u hu
  obtain ⟨b, _, rfl⟩ := List.mem_map.1 hu
  rfl
def nilOne : Value → Nat
  | .slice none _ _ => 1
  | _ => 0
/-- What the loop has made of n: x is left, the digits l are in the row b. -/
def Made (w : World) (B n x : Nat) (b : Value) : Prop :=
  (b = .slice none 0 0 ∧ x = n) ∨ ∃ l g c, b = .slice (some ⟨g, 0, none⟩) l.length c ∧ l ≠ [] ∧ w.ownsRow B 5 1 b l.length (byteCells l) ∧ dec0 x ++ l = dec n
theorem infoByte : (Try.prog.info? 5).map (fun i => (i.zero, i.size, i.bytes)) = some (some (.int .u8 0), 1, 1) := by kernel_rfl

theorem ret_str {l m : List UInt8} (h : l = m) : Ending.returned (.string ⟨l.toArray⟩) = .returned (.string ⟨m.toArray⟩) := by rw [h]
theorem digit_cell (y : Nat) : byteCells [digit y] = [.int .u8 (48 + (y : Int) % 10)] := by
  simp [byteCells, digit_toNat]
theorem byteCells_append (a b : List UInt8) : byteCells (a ++ b) = byteCells a ++ byteCells b := by simp [byteCells]

/-- The first digit. -/
theorem made_first {wr : World} {B n : Nat} (hB : B ≤ wr.heap.size) (hn : n ≤ 9223372036854775807) : Made (wr.alloc (.cells #[.int .u8 (48 + (n : Int) % 10)] 5)) B n (n / 10) (.slice (some ⟨wr.heap.size, 0, none⟩) 1 1) := by
  refine .inr ⟨[digit n], wr.heap.size, 1, rfl, by simp, ⟨by simp [byteCells], .inr ⟨wr.heap.size, 1, _, rfl, hB, heap_alloc_new wr _, by simp, by simp [maxLen], rfl, by rw [digit_cell]; rfl⟩⟩, ?_⟩
  exact (dec_step n (by omega)).symm

/-- One digit more, ahead of the others. -/
theorem made_more {wr : World} {B n y g c : Nat} {l : List UInt8} (hown : wr.ownsRow B 5 1 (.slice (some ⟨g, 0, none⟩) l.length c) l.length (byteCells l)) (hl : dec0 y ++ l = dec n) (hy : 0 < y) (hyn : y ≤ 9223372036854775807) (hB : B ≤ wr.heap.size) :
    ∃ v' w', (∀ ty, (Builtin.append_ #[62, 62] ty #[.slice (some ⟨wr.heap.size, 0, none⟩) 1 1, .slice (some ⟨g, 0, none⟩) l.length c]).run Try.prog (wr.alloc (.cells #[.int .u8 (48 + (y : Int) % 10)] 5)) = .ok v' w') ∧ Made w' B n (y / 10) v' ∧ Below B wr w' ∧ nilOne v' = 0 := by
  obtain ⟨i0, hi, hz0, hz1, hz2⟩ := info_parts infoByte
  have hlen : (dec0 y ++ l).length ≤ 20 := by rw [hl]; exact dec_length n
  have hl20 : l.length ≤ 20 := by simp at hlen; omega
  have hnew : (wr.alloc (.cells #[.int .u8 (48 + (y : Int) % 10)] 5)).ownsRow B 5 1 (.slice (some ⟨wr.heap.size, 0, none⟩) 1 1) 1 (byteCells [digit y]) :=
    ⟨by simp [byteCells], .inr ⟨wr.heap.size, 1, _, rfl, hB, heap_alloc_new wr _, by simp, by simp [maxLen], rfl, by rw [digit_cell]; rfl⟩⟩
  have hglt := (hown.lt g rfl).2
  obtain ⟨v', w', hr, ho, hg, hnil⟩ := run_append_own (P := Try.prog) (wr.alloc (.cells #[.int .u8 (48 + (y : Int) % 10)] 5)) B 62 0 5 i0 (.int .u8 0) 1 1 Try.underlying62 hi hz0 hz1 hz2 rfl (by decide) _ 1 _ hnew
    ⟨g, 0, none⟩ l.length c (byteCells l) (by simp [byteCells]) (fun j u hu => (World.cell?_of_block (w := wr) (Below.heap_alloc _ _ _ (by rw [add_block]; exact hglt))).trans (hown.cells (g := g) rfl j u hu)) (byteCells_one l) (by simp only [maxLen]; omega) (by omega) (by simp; omega)
  have hv : ∃ g' c', v' = .slice (some ⟨g', 0, none⟩) (1 + l.length) c' := by
    rcases ho.2 with ⟨_, h0⟩ | ⟨g', cap, cur, rfl, _⟩
    · omega
    · exact ⟨g', cap, rfl⟩
  obtain ⟨g', c', rfl⟩ := hv
  refine ⟨_, w', fun ty => hr, ?_, ?_, rfl⟩
  · refine .inr ⟨digit y :: l, g', c', by simp; omega, by simp, ?_, ?_⟩
    · have e : (digit y :: l).length = 1 + l.length := by simp; omega
      rw [e, show digit y :: l = [digit y] ++ l from rfl, byteCells_append]
      exact ho
    · have := dec_step y (by omega)
      rw [show digit y :: l = [digit y] ++ l from rfl, ← List.append_assoc, ← this, ← hl]
      unfold dec0
      rw [if_neg (by omega)]
  · exact ((Below.refl _ _).alloc hB _).grown hg (by simp; omega) (fun k hk => by simp [Value.ownBlock] at hk; omega)

set_option maxHeartbeats 1000000 in
theorem decimal_any (n : Nat) (hn : n ≤ 9223372036854775807) (w : World) : Calls Try.prog 21 #[.int .i64 n] w fun e w' => e = .returned (.string ⟨(dec n).toArray⟩) ∧ Below w.heap.size w w' := by
  go_enter Try.func21, Try.ntmps21
  go_wp2
  go_loopw [3, 4] (fun x b wr => ∃ y : Nat, y ≤ n ∧ x = .int .u64 y ∧ Made wr w.heap.size n y b ∧ Below w.heap.size w wr) (fun x b _ => (intOf x).toNat + nilOne b)
  case atStart => exact ⟨n, Nat.le_refl _, rfl, .inl ⟨rfl, rfl⟩, Below.refl _ _⟩
  case round =>
    obtain ⟨y, hy, rfl, hm, hbel⟩ := hrel
    rcases hm with ⟨rfl, rfl⟩ | ⟨l, g, c, rfl, hne, hown, hl⟩
    · have HBel := Lib.hid hbel
      have hz := hbel.size
      have HM := Lib.hid (made_first (wr := wr) (B := w.heap.size) (n := y) hz hn)
      clear hbel
      by_cases h0 : 0 < y
      · go_wp2
        go_roundw
        case rel => exact ⟨y / 10, by omega, by go_num, HM.out, HBel.out.alloc hz _⟩
        case measure => simp [intOf, nilOne]; omega
      · obtain rfl : y = 0 := by omega
        go_wp2
        go_roundw
        case rel => exact ⟨0 / 10, by omega, by go_num, HM.out, HBel.out.alloc hz _⟩
        case measure => simp [intOf, nilOne]
    · have HBel := Lib.hid hbel
      have hz := hbel.size
      clear hbel
      have hl0 : ¬ l.length = 0 := by simpa using hne
      by_cases h0 : 0 < y
      · obtain ⟨v', w', hr, hM, hB2, hN⟩ := made_more hown hl h0 (by omega) hz
        have HR := Lib.hid hr
        have HM := Lib.hid hM
        have HB2 := Lib.hid hB2
        have HN := Lib.hid hN
        clear hr hM hB2 hN hown hl hne
        go_wp2_with (at_builtin; refine wpList_append_eq _ rfl (.tmp 25) (.tmp 26) 62 62 rfl _ _ rfl rfl (HR.out _) ?_)
        go_roundw
        case rel => exact ⟨y / 10, by omega, by go_num, HM.out, HBel.out.trans HB2.out⟩
        case measure => rw [HN.out]; simp [intOf, nilOne]; omega
      · obtain rfl : y = 0 := by omega
        have hcv : ∀ w1, (∀ j (hj : j < l.length), w1.cell? ((⟨g, 0, none⟩ : Addr).add j) = some (.int .u8 (l[j].toNat : Int))) → (convert 62 9 (.slice (some ⟨g, 0, none⟩) l.length c)).run Try.prog w1 = .ok (.string ⟨l.toArray⟩) w1 := fun w1 hc =>
          run_convert_bytes_back w1 62 9 5 ⟨g, 0, none⟩ c l Try.underlying62 Try.underlying5 Try.underlying9 hc
        have hc := hcv wr (fun j hj => hown.cells (g := g) rfl j _ (by simp [byteCells, List.getElem?_eq_getElem hj]))
        have HL : Hid (l = dec n) := by unfold Hid; rw [← hl]; rfl
        clear hcv hown hl hne
        go_wp2
        go_ret
        exact ⟨ret_str HL.out, HBel.out⟩
end Go.Proofs.Ytepenaoffdaacaa
