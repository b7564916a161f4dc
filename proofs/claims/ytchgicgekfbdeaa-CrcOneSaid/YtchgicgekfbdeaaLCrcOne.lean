/- What is sealed opens, with one byte turned it does not: the walk of the law. -/
import Derived.Test.YtchgicgekfbdeaaCAwake
import Derived.Test.YtchgicgekfbdeaaTurned
import Derived.Deep.Cut
namespace Go.Proofs.Ytchgicgekfbdeaa
open Go.RowKit
set_option linter.unusedVariables false

/-- A text's bytes in new memory: the world behind, and how many cells there are. -/
def capB (t : ByteArray) (w : World) : Nat := grownCap w t.size 0 5
def bytesW (t : ByteArray) (w : World) : World := w.drew.alloc (.cells (bytesRow t (capB t w)) 5 ((bytesRow t (capB t w)).size, (bytesRow t (capB t w)).size + 1))
theorem bytesW_run (t : ByteArray) (w : World) : (convert 9 32 (.string t)).run Try.prog w = .ok (.slice (some ⟨w.heap.size, 0, none⟩) t.size (capB t w)) (bytesW t w) :=
  run_bytes_of_string w 9 32 5 t Try.underlying9 Try.underlying32 Try.underlying5
theorem bytesW_below (t : ByteArray) (w : World) : Below w.heap.size w (bytesW t w) := ((Below.refl _ _).drew).alloc (Nat.le_refl _) _
theorem bytesW_block (t : ByteArray) (w : World) : (bytesW t w).heap[w.heap.size]? = some (.cells (bytesRow t (capB t w)) 5 ((bytesRow t (capB t w)).size, (bytesRow t (capB t w)).size + 1)) := heap_alloc_new w.drew _

theorem bytesW_grows (t : ByteArray) (w : World) : w.heap.size < (bytesW t w).heap.size := by
  show w.heap.size < (w.heap.push _).size
  simp
/-- The row with a byte turned, read as a text. -/
theorem turned_back (t : ByteArray) (w u : World) (k : Nat) (z : UInt8) (hk : k < t.data.size) (n : Nat) (hn : t.size = n)
    (hb : Below ((bytesW t w).setCell ⟨w.heap.size, k, none⟩ (.int .u8 (z.toNat : Int))).heap.size ((bytesW t w).setCell ⟨w.heap.size, k, none⟩ (.int .u8 (z.toNat : Int))) u) :
    (convert 32 9 (.slice (some ⟨w.heap.size, 0, none⟩) n (capB t w))).run Try.prog u = .ok (.string (turnB t k z)) u := by
  subst hn
  have hrow := bytesW_block t w
  have hg := bytesW_grows t w
  have hbl := hb.block w.heap.size (by simpa [World.setCell] using hg)
  rw [setCell_eq_setRow _ _ _ _ _ _ _ hrow, setRow_heap _ _ _ _ _ _ hrow] at hbl
  have hl : (t.data.toList.set k z).length = t.size := by rw [List.length_set, ← size_list]
  rw [← hl]
  refine run_convert_bytes_back _ 32 9 5 ⟨w.heap.size, 0, none⟩ _ _ Try.underlying32 Try.underlying5 Try.underlying9 (fun j hj => ?_)
  have e : (⟨w.heap.size, 0, none⟩ : Addr).add j = ⟨w.heap.size, j, none⟩ := by
    unfold Addr.add
    by_cases h0 : j = 0
    · simp [h0]
    · simp [h0]
  have hj2 : j < t.data.size := by simpa using hj
  rw [e, cell_of_row _ _ _ _ _ _ hbl, Array.getElem?_setIfInBounds]
  by_cases c : k = j
  · subst c
    rw [if_pos rfl, if_pos (by unfold bytesRow; rw [Array.size_append, Array.size_map]; omega)]
    simp
  · rw [if_neg c, bytesRow_at t _ j hj2]
    simp [List.getElem_set_ne c]
theorem modN (x : Int) (n : Nat) (h0 : 0 < n) (hn : n < 9223372036854775808) : ∃ k : Nat, wrap64 ((IntKind.u64.wrap x).tmod (n : Int)) = (k : Int) ∧ k < n := by
  have h1 : 0 ≤ IntKind.u64.wrap x := by rw [IntKind.wrap_u64]; omega
  refine ⟨((IntKind.u64.wrap x) % (n : Int)).toNat, ?_, ?_⟩
  · rw [Int.tmod_eq_emod_of_nonneg h1]
    have h2 := Int.emod_nonneg (IntKind.u64.wrap x) (show (n : Int) ≠ 0 by omega)
    have h3 := Int.emod_lt_of_pos (IntKind.u64.wrap x) (show (0 : Int) < n by omega)
    unfold wrap64
    omega
  · have h2 := Int.emod_nonneg (IntKind.u64.wrap x) (show (n : Int) ≠ 0 by omega)
    have h3 := Int.emod_lt_of_pos (IntKind.u64.wrap x) (show (0 : Int) < n by omega)
    omega
theorem xor_ne (a : UInt8) (v : Nat) (h0 : 0 < v) (h : v < 256) : ∃ z : UInt8, bits .xor .u8 (a.toNat : Int) (v : Int) = (z.toNat : Int) ∧ z ≠ a := by
  refine ⟨a ^^^ UInt8.ofNat v, ?_, ?_⟩
  · rw [u8_xor_nat a.toNat v a.toNat_lt h, UInt8.toNat_xor, UInt8.toNat_ofNat_of_lt' (by show _ < 256; omega)]
  · intro e
    have e := congrArg UInt8.toNat e
    rw [UInt8.toNat_xor, UInt8.toNat_ofNat_of_lt' (by show _ < 256; omega)] at e
    have : v = 0 := xorL (c := a.toNat) (by rw [Nat.xor_zero]; exact e)
    omega

set_option maxHeartbeats 1000000 in
set_option maxRecDepth 100000 in
theorem crcone_walk (s : ByteArray) (at_ by_ : Int) (hs : s.size ≤ 140737488351232) (w : World) : Calls Try.prog 4 #[.string s, .int .i64 at_, .int .i64 by_] w fun e w' => e = .returned (.bool true) ∧ Below w.heap.size w w' := by
  have hz : (sealB s).size = s.size + 4 := sealB_size s
  have TS := Lib.hid (cseal_any s (by omega))
  have TO := Lib.hid (copen_any (sealB s) (by omega))
  rw [seal_openT, seal_openE] at TO
  have TN := fun k z => copen_any (turnB (sealB s) k z) (by rw [turn_size]; omega)
  have HE := turned_openE s
  generalize sealB s = t at *
  have hcv := bytesW_run t
  obtain ⟨k, ek, hk⟩ := modN at_ (s.size + 4) (by omega) (by omega)
  have ek : wrap64 ((IntKind.u64.wrap at_).tmod ((s.size : Int) + 4)) = (k : Int) := ek
  obtain ⟨v, ev, hv⟩ := modN by_ 255 (by omega) (by omega)
  have ev : wrap64 ((IntKind.u64.wrap by_).tmod 255) = (v : Int) := ev
  have hk2 : k < t.data.size := by have : t.data.size = s.size + 4 := hz; omega
  obtain ⟨z, ez, nz⟩ := xor_ne t.data[k] (1 + v) (by omega) (by omega)
  have ez : bits .xor .u8 (t.data[k].toNat : Int) (1 + (v : Int)) = (z.toNat : Int) := ez
  have hce : ∀ W : World, (bytesW t W).cell? ⟨W.heap.size, k, none⟩ = some (.int .u8 (t.data[k].toNat : Int)) := fun W => (cell_of_row _ _ _ _ _ _ (bytesW_block t W)).trans (bytesRow_at t _ k hk2)
  have hfz : ∀ W : World, (bytesW t W).frozen? ⟨W.heap.size, k, none⟩ = false := fun W => by
    simp only [World.frozen?, bytesW_block t W]
    have : k < (bytesRow t (capB t W)).size := by unfold bytesRow; rw [Array.size_append, Array.size_map]; omega
    rw [decide_eq_false (by omega)]
    rfl
  generalize t.data[k].toNat = tk at *
  go_enter Try.func4, Try.ntmps4
  go_upto_region 10 with (first
    | (go_at_call 13; refine (cawake_any _).mono ?_; rintro e w1 ⟨rfl, hb1⟩; have HB1 := Lib.hid hb1; clear hb1)
    | (go_at_call 10; refine (TS.out _).mono ?_; rintro e w2 ⟨rfl, hb2⟩; have HB2 := Lib.hid hb2; clear hb2)
    | (go_at_call 6; refine (TO.out _).mono ?_; rintro e w3 ⟨rfl, hb3⟩; have HB3 := Lib.hid hb3; clear hb3))
  have hcv2 := turned_back t w2 w3 k z hk2 (s.size + 4) hz HB3.out
  have TX := Lib.hid (TN k z)
  rw [HE k z (by simpa using hk2) (by simpa using nz)] at TX
  have hg := bytesW_grows t w2
  have hb3 := (bytesW_below t w2).setCell (Nat.le_refl _) (.int .u8 (z.toNat : Int)) (p := ⟨w2.heap.size, k, none⟩)
  have HW : Hid (Below w2.heap.size w2 w3) := hb3.trans (HB3.out.mono hb3.size)
  clear TN HE hcv hg hb3 HB3
  generalize openT (turnB t k z) = r at *
  generalize turnB t k z = q at *
  generalize capB t w2 = cp at *
  go_wp2_with (first
    | (go_at_call 6; refine (TX.out _).mono ?_; rintro e w4 ⟨rfl, hb4⟩; have HB4 := Lib.hid hb4; clear hb4)
    | (go_at_call 12; refine (num_any _ _).mono ?_; rintro e w' ⟨rfl, rfl⟩))
  go_ret
  have b2 := HB1.out.trans (HB2.out.mono HB1.out.size)
  have b3 := b2.trans (HW.out.mono b2.size)
  exact ⟨rfl, b3.trans (HB4.out.mono b3.size)⟩
end Go.Proofs.Ytchgicgekfbdeaa
