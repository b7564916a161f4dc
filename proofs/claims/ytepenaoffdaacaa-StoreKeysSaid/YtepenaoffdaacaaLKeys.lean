/- The walk of StoreKeys. -/
import Derived.Test.YtepenaoffdaacaaAwake
import Derived.Test.YtepenaoffdaacaaKeys
import Derived.Laws.MakeOwn
namespace Go.Proofs.Ytepenaoffdaacaa
open Go.Conc Go.RowKit

/-- n zero bytes. -/
def zeroRow (n : Nat) : Array Value := (byteCells (List.replicate n 0)).toArray
/-- The first a of k bytes are written. -/
def halfRow (k a : Nat) : Array Value := (byteCells (List.replicate a 107 ++ List.replicate (k - a) 0)).toArray
/-- All are, the last is x. -/
def keyRow (k : Nat) (x : UInt8) : List UInt8 := if k = 0 then [] else List.replicate (k - 1) 107 ++ [x]
theorem keyRow_length (k : Nat) (x : UInt8) : (keyRow k x).length = k := by
  unfold keyRow
  split <;> simp <;> omega

theorem made_zero (n : Nat) : madeCells (Value.int .u8 0).cells (n * 1) = zeroRow n := by
  apply Array.ext
  · simp [size_madeCells, zeroRow, byteCells]
  · intro i h1 h2
    simp [madeCells, zeroRow, byteCells, Value.cells, Nat.mod_one]

theorem make_bytes (n : Nat) (hn : n ≤ 1000000) (w : World) : (Instr.makeSlice 62 (.int .i64 (n : Int)) (.int .i64 (n : Int))).run Try.prog w = .ok (.slice (some ⟨w.heap.size, 0, none⟩) n n) (w.alloc (.cells (zeroRow n) 5)) := by
  obtain ⟨i0, hi, hz0, hz1, hz2⟩ := info_parts infoByte
  have := run_make (P := Try.prog) w 62 5 i0 (.int .u8 0) Try.underlying62 hi hz0 .i64 .i64 (n : Int) (n : Int) (by omega) (by omega) (by rw [hz2]; omega) (by omega)
  rw [hz1, Int.toNat_natCast, made_zero] at this
  exact this

theorem convert_row (w : World) (b c : Nat) (l : List UInt8) (h : w.heap[b]? = some (.cells (byteCells l).toArray 5 (0, 0))) : (convert 62 9 (.slice (some ⟨b, 0, none⟩) l.length c)).run Try.prog w = .ok (.string ⟨l.toArray⟩) w := by
  refine run_convert_bytes_back w 62 9 5 ⟨b, 0, none⟩ c l Try.underlying62 Try.underlying5 Try.underlying9 fun j hj => ?_
  have hadd : (⟨b, 0, none⟩ : Addr).add j = ⟨b, j, none⟩ := by unfold Addr.add; split <;> simp_all
  rw [hadd, cell_of_row w b j _ _ _ h]
  simp [byteCells, List.getElem?_eq_getElem hj]

theorem half_zero (k : Nat) : halfRow k 0 = zeroRow k := by simp [halfRow, zeroRow]
theorem half_cell (k a : Nat) (h : a < k) : (halfRow k a)[a]? = some (.int .u8 0) := by
  have : (List.replicate a (107 : UInt8) ++ List.replicate (k - a) 0)[a]? = some 0 := by
    rw [List.getElem?_append_right (by simp)]
    simp only [List.length_replicate, Nat.sub_self, List.getElem?_replicate]
    rw [if_pos (by omega)]
  simp only [halfRow, List.getElem?_toArray, byteCells, List.getElem?_map, this, Option.map_some]
  rfl
theorem half_step (k a : Nat) (h : a < k) : (halfRow k a).setIfInBounds a (.int .u8 107) = halfRow k (a + 1) := by
  apply Array.ext'
  simp only [halfRow, Array.toList_setIfInBounds, byteCells, List.map_append, List.map_replicate]
  apply List.ext_getElem?
  intro i
  simp only [List.getElem?_set, List.getElem?_append, List.getElem?_replicate, List.length_append, List.length_replicate]
  by_cases h1 : a = i
  · rw [if_pos h1, if_pos (by omega), if_pos (by omega), if_pos (by omega)]; rfl
  · by_cases h2 : i < a
    · rw [if_neg h1, if_pos h2, if_pos h2, if_pos (by omega), if_pos (by omega)]
    · rw [if_neg h1, if_neg h2, if_neg (show ¬ i < a + 1 by omega)]
      by_cases h3 : i < k
      · rw [if_pos (by omega), if_pos (by omega)]
      · rw [if_neg (by omega), if_neg (by omega)]
theorem half_last (k : Nat) (h : 0 < k) (x : UInt8) : (halfRow k k).setIfInBounds (k - 1) (.int .u8 (x.toNat : Int)) = (byteCells (keyRow k x)).toArray := by
  apply Array.ext'
  have e : List.replicate k (107 : UInt8) = List.replicate (k - 1) 107 ++ [107] := by
    rw [← List.replicate_succ', show k - 1 + 1 = k from by omega]
  simp only [halfRow, Nat.sub_self, List.replicate_zero, List.append_nil, Array.toList_setIfInBounds, byteCells, keyRow]
  rw [if_neg (by omega), e]
  simp only [List.map_append, List.map_cons, List.map_nil]
  rw [List.set_append_right _ _ (by simp)]
  simp

theorem half_at (k : Nat) (h : 0 < k) : (halfRow k k)[k - 1]? = some (.int .u8 107) := by
  have : (List.replicate k (107 : UInt8) ++ List.replicate (k - k) 0)[k - 1]? = some 107 := by
    rw [List.getElem?_append_left (by simp; omega)]
    simp only [List.getElem?_replicate]
    rw [if_pos (by omega)]
  simp only [halfRow, List.getElem?_toArray, byteCells, List.getElem?_map, this, Option.map_some]
  rfl
theorem mask_u8 (x : Int) : ∃ c : UInt8, IntKind.u8.wrap x = (c.toNat : Int) := by
  have h0 : 0 ≤ IntKind.u8.wrap x ∧ IntKind.u8.wrap x < 256 := by rw [IntKind.wrap_u8]; omega
  refine ⟨UInt8.ofNat (IntKind.u8.wrap x).toNat, ?_⟩
  rw [UInt8.toNat_ofNat_of_lt' (by show _ < 256; omega)]
  omega

def keyText (k : Nat) (x : UInt8) : ByteArray := ⟨(keyRow k x).toArray⟩
theorem keyText_size (k : Nat) (x : UInt8) : (keyText k x).size = k := by simp [keyText, ByteArray.size, keyRow_length]
theorem keyText_may (k : Nat) (x : UInt8) (h1 : 1 ≤ k) (h2 : k ≤ 64) (h3 : 33 ≤ x.toNat) (h4 : x.toNat ≤ 126) : KeyMay (keyText k x) := by
  refine may_list _ (by rw [keyRow_length]; exact h1) (by rw [keyRow_length]; exact h2) fun c hc => ?_
  unfold keyRow at hc
  rw [if_neg (by omega)] at hc
  rcases List.mem_append.1 hc with h | h
  · rw [(List.mem_replicate.1 h).2]; decide
  · simp at h; subst h; exact ⟨h3, h4⟩
theorem keyText_not (k : Nat) (x : UInt8) (h : k < 1 ∨ 64 < k ∨ x.toNat < 33 ∨ 126 < x.toNat) : ¬ KeyMay (keyText k x) := by
  rintro ⟨h1, h2, h3⟩
  rw [keyText_size] at h1 h2
  have h4 := h3 (k - 1) (by rw [keyText_size]; omega)
  have e : (keyText k x)[k - 1]'(by rw [keyText_size]; omega) = x := by
    have hk : keyRow k x = List.replicate (k - 1) 107 ++ [x] := by unfold keyRow; rw [if_neg (by omega)]
    have : (keyText k x)[k - 1]'(by rw [keyText_size]; omega) = (keyRow k x)[k - 1]'(by rw [keyRow_length]; omega) := by simp [keyText, ByteArray.getElem_eq_getElem_data]
    rw [this]
    simp only [hk]
    rw [List.getElem_append_right (by simp)]
    simp
  rw [e] at h4
  have h5 := h4.1
  have h6 := h4.2
  omega
theorem keyText_big (k : Nat) (x : UInt8) : (⟨#[98, 105, 103]⟩ : ByteArray) ≠ keyText k x := by
  intro h
  have h1 := congrArg (fun b : ByteArray => b.data.toList) h
  simp only [keyText, keyRow] at h1
  by_cases h0 : k = 0
  · rw [if_pos h0] at h1; simp at h1
  · rw [if_neg h0] at h1
    by_cases h2 : k - 1 = 0
    · rw [h2] at h1; simp at h1
    · rw [show k - 1 = (k - 2) + 1 from by omega, List.replicate_succ] at h1
      simp at h1
def bigText (n : Nat) : ByteArray := ⟨(List.replicate n 0).toArray⟩
theorem bigText_size (n : Nat) : (bigText n).size = n := by simp [bigText, ByteArray.size]
theorem convert_big (W : World) (n : Nat) : (convert 62 9 (.slice (some ⟨W.heap.size, 0, none⟩) n n)).run Try.prog (W.alloc (.cells (zeroRow n) 5)) = .ok (.string (bigText n)) (W.alloc (.cells (zeroRow n) 5)) := by
  have := convert_row (W.alloc (.cells (zeroRow n) 5)) W.heap.size n (List.replicate n 0) (heap_alloc_new W _)
  rw [List.length_replicate] at this
  exact this

theorem ret_bool {a b : Bool} (h : a = b) : Ending.returned (.bool a) = .returned (.bool b) := by rw [h]
def kBig : ByteArray := ⟨#[98, 105, 103]⟩
def kEarly : ByteArray := ⟨#[101, 97, 114, 108, 121]⟩
theorem may_big : KeyMay kBig := may_list [98, 105, 103] (by decide) (by decide) (by decide)

set_option maxHeartbeats 8000000 in
theorem keys_walk (a0 a1 a2 : Int) (w : World) : Calls Try.prog 8 #[.int .i64 a0, .int .i64 a1, .int .i64 a2] w fun e w' => e = .returned (.bool true) ∧ Below w.heap.size w w' := by
  obtain ⟨k, hk, ek⟩ := and_small a0 127 (by omega)
  have ek' : bits .and .i64 a0 127 = (k : Int) := ek
  obtain ⟨s, hs, es⟩ := and_small a2 1 (by omega)
  have es' : bits .and .i64 a2 1 = (s : Int) := es
  obtain ⟨t, ht, et⟩ := and_small a2 7 (by omega)
  have et' : bits .and .i64 a2 7 = (t : Int) := et
  obtain ⟨x, ex⟩ := mask_u8 a1
  have hx : x.toNat < 256 := x.toNat_lt
  clear ek es et
  have hmk := make_bytes k (by omega)
  go_enter Try.func8, Try.ntmps8
  go_wp2_with fail
  refine (awake_any _).mono ?_
  rintro e w1 ⟨rfl, b1⟩
  have B1 := Lib.hid b1
  clear b1
  obtain ⟨F, hFd⟩ : ∃ F : Nat → Prop, F = fun k => w1.heap.size ≤ k := ⟨_, rfl⟩
  have HF : Hid (∀ v : World, Frm F w1 v → ∀ k, v.heap.size ≤ k → F k) := fun v hv k hk => by rw [hFd]; exact Nat.le_trans hv.size hk
  have HD := Lib.hid hFd
  clear hFd
  go_wp2_with fail
  refine (new_any 9 (by omega) (by omega) _ (HF.out _ (Frm.refl _ _))).mono ?_
  rintro e w2 ⟨rfl, s2, f2⟩
  obtain ⟨G, hG, s2'⟩ := s2.exact
  have HG := Lib.hid hG
  have S2 := Lib.hid s2'
  have F2 := Lib.hid f2
  have hz2 : w1.heap.size ≤ w2.heap.size := f2.size
  clear s2 f2 hG s2'
  go_wp2_with fail
  go_loopw [11] (fun i wr => ∃ a : Nat, a ≤ k ∧ i = .int .i64 a ∧ wr.heap[w2.heap.size]? = some (.cells (halfRow k a) 5 (0, 0)) ∧ Sto wr G w1.heap.size ⟨9, [], 0, 0⟩ ∧ Frm F w1 wr) (fun i _ => k - (intOf i).toNat)
  case atStart => exact ⟨0, Nat.zero_le _, rfl, by rw [half_zero]; exact heap_alloc_new w2 _, S2.out.alloc _, F2.out.alloc _⟩
  case round =>
    obtain ⟨a, ha, rfl, hrow, s3, f3⟩ := hrel
    have S3 := Lib.hid s3
    have F3 := Lib.hid f3
    have HRow := Lib.hid hrow
    have hFb : Hid (F w2.heap.size) := HF.out _ F2.out _ (Nat.le_refl _)
    have hGb : Hid (¬ G w2.heap.size) := fun h => by have := (HG.out _ h).2; omega
    clear s3 f3
    by_cases hlt : a < k
    · have hc := (cell_of_row wr w2.heap.size a _ _ _ hrow).trans (half_cell k a hlt)
      have hf := frozen_of_row wr w2.heap.size a _ _ hrow
      clear hrow
      go_wp2
      go_roundw
      case rel =>
        refine ⟨a + 1, by omega, by go_num, ?_, S3.out.same fun j _ hj => Below.heap_setCell _ _ _ _ (fun e : _ = w2.heap.size => hGb.out (e ▸ hj)), F3.out.setCell hFb.out _⟩
        rw [← half_step k a hlt]
        exact Go.Joins.block_setCell HRow.out _
      case measure => simp [intOf]; omega
    · obtain rfl : a = k := by omega
      clear hrow
      obtain ⟨n2, hn2⟩ : ∃ n2 : Nat, n2 = 65536 + s := ⟨_, rfl⟩
      have hn2b : 65536 ≤ n2 ∧ n2 ≤ 65537 := by omega
      have hmk2 : ∀ W : World, (Instr.makeSlice 62 (.int .i64 (65536 + (s : Int))) (.int .i64 (65536 + (s : Int)))).run Try.prog W = .ok (.slice (some ⟨W.heap.size, 0, none⟩) n2 n2) (W.alloc (.cells (zeroRow n2) 5)) := fun W => by
        have := make_bytes n2 (by omega) W
        rwa [show ((n2 : Nat) : Int) = 65536 + (s : Int) from by omega] at this
      have hcv2 := fun W : World => convert_big W n2
      have HN2 := Lib.hid hn2
      clear hn2
      by_cases h0 : 0 < a
      · have hc := (cell_of_row wr w2.heap.size (a - 1) _ _ _ HRow.out).trans (half_at a h0)
        have hf := frozen_of_row wr w2.heap.size (a - 1) _ _ HRow.out
        obtain ⟨v3, hv3⟩ : ∃ v3, v3 = wr.setCell ⟨w2.heap.size, a - 1, none⟩ (.int .u8 (x.toNat : Int)) := ⟨_, rfl⟩
        have hr3 : v3.heap[w2.heap.size]? = some (.cells (byteCells (keyRow a x)).toArray 5 (0, 0)) := by
          rw [hv3, ← half_last a h0 x]
          exact Go.Joins.block_setCell HRow.out _
        have V3 : Hid (Sto v3 G w1.heap.size ⟨9, [], 0, 0⟩) := by
          unfold Hid
          rw [hv3]
          exact S3.out.same fun j _ hj => Below.heap_setCell _ _ _ _ (fun e : _ = w2.heap.size => hGb.out (e ▸ hj))
        have V3F : Hid (Frm F w1 v3) := by
          unfold Hid
          rw [hv3]
          exact F3.out.setCell hFb.out _
        have hcv : (convert 62 9 (.slice (some ⟨w2.heap.size, 0, none⟩) a a)).run Try.prog v3 = .ok (.string (keyText a x)) v3 := by
          have := convert_row v3 w2.heap.size a (keyRow a x) hr3
          rw [keyRow_length] at this
          exact this
        clear hr3
        rw [hv3] at hcv
        go_wp2_with fail
        rw [← hv3]
        have HV3 := Lib.hid hv3
        clear hv3 hcv hc hf
        by_cases c1 : 64 < a
        · refine (put_form w1.heap.size (keyText a x) ⟨#[]⟩ 0 v3 ⟨9, [], 0, 0⟩ (V3.out.mono fun j _ hj => (HG.out j hj).1) rfl (by simp) (by rw [keyText_size]; omega) (by decide) (fun h => keyText_not a x (by omega) h.1)).mono ?_
          rintro e w4 ⟨rfl, s4, f4⟩
          have S4 : Hid (Sto w4 F w1.heap.size ⟨9, [], 1, 0⟩) := s4
          have HR4 : Hid (Rises (([] : List Ob).map Ob.key)) := List.Pairwise.nil
          have HN4 : Hid (kBig ∉ ([] : List Ob).map Ob.key) := by
              unfold Hid
              simp
          have F4 := Lib.hid (V3F.out.trans f4)
          clear s4 f4
          go_wp2_with fail
          have b5 : Below w4.heap.size w4 (w4.alloc (.cells (zeroRow n2) 5)) := (Below.refl _ _).alloc (Nat.le_refl _) _
          have B5 := Lib.hid b5
          clear b5
          obtain rfl | rfl : s = 0 ∨ s = 1 := by omega
          · refine (put_ok w1.heap.size kBig (bigText n2) 0 _ ⟨9, [], 1, 0⟩ (S4.out.new B5.out) (HF.out _ (F4.out.trans (Frm.of_new B5.out F))) rfl (by simp) HR4.out may_big (by have h' := HN2.out; rw [bigText_size]; omega) (by omega) HN4.out (by simp)).mono ?_
            rintro e w6 ⟨rfl, s6, f6⟩
            have S6 := Lib.hid s6
            have F6 := Lib.hid ((F4.out.trans (Frm.of_new B5.out F)).trans f6)
            clear s6 f6
            go_wp2_with fail
            refine (put_form w1.heap.size kEarly ⟨#[]⟩ (-1 - (t : Int)) _ _ S6.out rfl (by simp) (by decide) (by decide) (fun h => by have h' := h.2.2; omega)).mono ?_
            rintro e w7 ⟨rfl, s7, f7⟩
            have F7 := Lib.hid (F6.out.trans f7)
            clear s7 f7
            go_wp2_with (go_at_call 12; refine (num_any _ _).mono ?_; rintro e w' ⟨rfl, rfl⟩)
            go_ret
            have hfr := F7.out
            rw [HD.out] at hfr
            first | exact ⟨rfl, B1.out.trans ((hfr.below (Nat.le_refl _)).mono B1.out.size)⟩ | exact ⟨ret_bool (by simp; omega), B1.out.trans ((hfr.below (Nat.le_refl _)).mono B1.out.size)⟩
          · refine (put_form w1.heap.size kBig (bigText n2) 0 _ ⟨9, [], 1, 0⟩ (S4.out.new B5.out) rfl (by simp) (by decide) (by rw [bigText_size]; omega) (fun h => by have h' := h.2.1; have h'' := HN2.out; rw [bigText_size] at h'; omega)).mono ?_
            rintro e w6 ⟨rfl, s6, f6⟩
            have S6 := Lib.hid s6
            have F6 := Lib.hid ((F4.out.trans (Frm.of_new B5.out F)).trans f6)
            clear s6 f6
            go_wp2_with fail
            refine (put_form w1.heap.size kEarly ⟨#[]⟩ (-1 - (t : Int)) _ _ S6.out rfl (by simp) (by decide) (by decide) (fun h => by have h' := h.2.2; omega)).mono ?_
            rintro e w7 ⟨rfl, s7, f7⟩
            have F7 := Lib.hid (F6.out.trans f7)
            clear s7 f7
            go_wp2_with (go_at_call 12; refine (num_any _ _).mono ?_; rintro e w' ⟨rfl, rfl⟩)
            go_ret
            have hfr := F7.out
            rw [HD.out] at hfr
            first | exact ⟨rfl, B1.out.trans ((hfr.below (Nat.le_refl _)).mono B1.out.size)⟩ | exact ⟨ret_bool (by simp; omega), B1.out.trans ((hfr.below (Nat.le_refl _)).mono B1.out.size)⟩
        by_cases c2 : x.toNat < 33
        · refine (put_form w1.heap.size (keyText a x) ⟨#[]⟩ 0 v3 ⟨9, [], 0, 0⟩ (V3.out.mono fun j _ hj => (HG.out j hj).1) rfl (by simp) (by rw [keyText_size]; omega) (by decide) (fun h => keyText_not a x (by omega) h.1)).mono ?_
          rintro e w4 ⟨rfl, s4, f4⟩
          have S4 : Hid (Sto w4 F w1.heap.size ⟨9, [], 1, 0⟩) := s4
          have HR4 : Hid (Rises (([] : List Ob).map Ob.key)) := List.Pairwise.nil
          have HN4 : Hid (kBig ∉ ([] : List Ob).map Ob.key) := by
              unfold Hid
              simp
          have F4 := Lib.hid (V3F.out.trans f4)
          clear s4 f4
          go_wp2_with fail
          have b5 : Below w4.heap.size w4 (w4.alloc (.cells (zeroRow n2) 5)) := (Below.refl _ _).alloc (Nat.le_refl _) _
          have B5 := Lib.hid b5
          clear b5
          obtain rfl | rfl : s = 0 ∨ s = 1 := by omega
          · refine (put_ok w1.heap.size kBig (bigText n2) 0 _ ⟨9, [], 1, 0⟩ (S4.out.new B5.out) (HF.out _ (F4.out.trans (Frm.of_new B5.out F))) rfl (by simp) HR4.out may_big (by have h' := HN2.out; rw [bigText_size]; omega) (by omega) HN4.out (by simp)).mono ?_
            rintro e w6 ⟨rfl, s6, f6⟩
            have S6 := Lib.hid s6
            have F6 := Lib.hid ((F4.out.trans (Frm.of_new B5.out F)).trans f6)
            clear s6 f6
            go_wp2_with fail
            refine (put_form w1.heap.size kEarly ⟨#[]⟩ (-1 - (t : Int)) _ _ S6.out rfl (by simp) (by decide) (by decide) (fun h => by have h' := h.2.2; omega)).mono ?_
            rintro e w7 ⟨rfl, s7, f7⟩
            have F7 := Lib.hid (F6.out.trans f7)
            clear s7 f7
            go_wp2_with (go_at_call 12; refine (num_any _ _).mono ?_; rintro e w' ⟨rfl, rfl⟩)
            go_ret
            have hfr := F7.out
            rw [HD.out] at hfr
            first | exact ⟨rfl, B1.out.trans ((hfr.below (Nat.le_refl _)).mono B1.out.size)⟩ | exact ⟨ret_bool (by simp; omega), B1.out.trans ((hfr.below (Nat.le_refl _)).mono B1.out.size)⟩
          · refine (put_form w1.heap.size kBig (bigText n2) 0 _ ⟨9, [], 1, 0⟩ (S4.out.new B5.out) rfl (by simp) (by decide) (by rw [bigText_size]; omega) (fun h => by have h' := h.2.1; have h'' := HN2.out; rw [bigText_size] at h'; omega)).mono ?_
            rintro e w6 ⟨rfl, s6, f6⟩
            have S6 := Lib.hid s6
            have F6 := Lib.hid ((F4.out.trans (Frm.of_new B5.out F)).trans f6)
            clear s6 f6
            go_wp2_with fail
            refine (put_form w1.heap.size kEarly ⟨#[]⟩ (-1 - (t : Int)) _ _ S6.out rfl (by simp) (by decide) (by decide) (fun h => by have h' := h.2.2; omega)).mono ?_
            rintro e w7 ⟨rfl, s7, f7⟩
            have F7 := Lib.hid (F6.out.trans f7)
            clear s7 f7
            go_wp2_with (go_at_call 12; refine (num_any _ _).mono ?_; rintro e w' ⟨rfl, rfl⟩)
            go_ret
            have hfr := F7.out
            rw [HD.out] at hfr
            first | exact ⟨rfl, B1.out.trans ((hfr.below (Nat.le_refl _)).mono B1.out.size)⟩ | exact ⟨ret_bool (by simp; omega), B1.out.trans ((hfr.below (Nat.le_refl _)).mono B1.out.size)⟩
        by_cases c3 : 126 < x.toNat
        · refine (put_form w1.heap.size (keyText a x) ⟨#[]⟩ 0 v3 ⟨9, [], 0, 0⟩ (V3.out.mono fun j _ hj => (HG.out j hj).1) rfl (by simp) (by rw [keyText_size]; omega) (by decide) (fun h => keyText_not a x (by omega) h.1)).mono ?_
          rintro e w4 ⟨rfl, s4, f4⟩
          have S4 : Hid (Sto w4 F w1.heap.size ⟨9, [], 1, 0⟩) := s4
          have HR4 : Hid (Rises (([] : List Ob).map Ob.key)) := List.Pairwise.nil
          have HN4 : Hid (kBig ∉ ([] : List Ob).map Ob.key) := by
              unfold Hid
              simp
          have F4 := Lib.hid (V3F.out.trans f4)
          clear s4 f4
          go_wp2_with fail
          have b5 : Below w4.heap.size w4 (w4.alloc (.cells (zeroRow n2) 5)) := (Below.refl _ _).alloc (Nat.le_refl _) _
          have B5 := Lib.hid b5
          clear b5
          obtain rfl | rfl : s = 0 ∨ s = 1 := by omega
          · refine (put_ok w1.heap.size kBig (bigText n2) 0 _ ⟨9, [], 1, 0⟩ (S4.out.new B5.out) (HF.out _ (F4.out.trans (Frm.of_new B5.out F))) rfl (by simp) HR4.out may_big (by have h' := HN2.out; rw [bigText_size]; omega) (by omega) HN4.out (by simp)).mono ?_
            rintro e w6 ⟨rfl, s6, f6⟩
            have S6 := Lib.hid s6
            have F6 := Lib.hid ((F4.out.trans (Frm.of_new B5.out F)).trans f6)
            clear s6 f6
            go_wp2_with fail
            refine (put_form w1.heap.size kEarly ⟨#[]⟩ (-1 - (t : Int)) _ _ S6.out rfl (by simp) (by decide) (by decide) (fun h => by have h' := h.2.2; omega)).mono ?_
            rintro e w7 ⟨rfl, s7, f7⟩
            have F7 := Lib.hid (F6.out.trans f7)
            clear s7 f7
            go_wp2_with (go_at_call 12; refine (num_any _ _).mono ?_; rintro e w' ⟨rfl, rfl⟩)
            go_ret
            have hfr := F7.out
            rw [HD.out] at hfr
            first | exact ⟨rfl, B1.out.trans ((hfr.below (Nat.le_refl _)).mono B1.out.size)⟩ | exact ⟨ret_bool (by simp; omega), B1.out.trans ((hfr.below (Nat.le_refl _)).mono B1.out.size)⟩
          · refine (put_form w1.heap.size kBig (bigText n2) 0 _ ⟨9, [], 1, 0⟩ (S4.out.new B5.out) rfl (by simp) (by decide) (by rw [bigText_size]; omega) (fun h => by have h' := h.2.1; have h'' := HN2.out; rw [bigText_size] at h'; omega)).mono ?_
            rintro e w6 ⟨rfl, s6, f6⟩
            have S6 := Lib.hid s6
            have F6 := Lib.hid ((F4.out.trans (Frm.of_new B5.out F)).trans f6)
            clear s6 f6
            go_wp2_with fail
            refine (put_form w1.heap.size kEarly ⟨#[]⟩ (-1 - (t : Int)) _ _ S6.out rfl (by simp) (by decide) (by decide) (fun h => by have h' := h.2.2; omega)).mono ?_
            rintro e w7 ⟨rfl, s7, f7⟩
            have F7 := Lib.hid (F6.out.trans f7)
            clear s7 f7
            go_wp2_with (go_at_call 12; refine (num_any _ _).mono ?_; rintro e w' ⟨rfl, rfl⟩)
            go_ret
            have hfr := F7.out
            rw [HD.out] at hfr
            first | exact ⟨rfl, B1.out.trans ((hfr.below (Nat.le_refl _)).mono B1.out.size)⟩ | exact ⟨ret_bool (by simp; omega), B1.out.trans ((hfr.below (Nat.le_refl _)).mono B1.out.size)⟩
        refine (put_ok w1.heap.size (keyText a x) ⟨#[]⟩ 0 v3 ⟨9, [], 0, 0⟩ (V3.out.mono fun j _ hj => (HG.out j hj).1) (HF.out _ V3F.out) rfl (by simp) List.Pairwise.nil (keyText_may a x (by omega) (by omega) (by omega) (by omega)) (by decide) (by omega) (by simp) (by simp)).mono ?_
        rintro e w4 ⟨rfl, s4, f4⟩
        have S4 : Hid (Sto w4 F w1.heap.size ⟨9, [⟨keyText a x, ⟨#[]⟩, 0⟩], 1, 0⟩) := s4
        have HR4 : Hid (Rises ([(⟨keyText a x, ⟨#[]⟩, 0⟩ : Ob)].map Ob.key)) := List.pairwise_singleton _ _
        have HN4 : Hid (kBig ∉ [(⟨keyText a x, ⟨#[]⟩, 0⟩ : Ob)].map Ob.key) := by
            unfold Hid
            simp only [List.map_cons, List.map_nil, List.mem_cons, List.not_mem_nil, or_false]
            exact keyText_big a x
        have F4 := Lib.hid (V3F.out.trans f4)
        clear s4 f4
        go_wp2_with fail
        have b5 : Below w4.heap.size w4 (w4.alloc (.cells (zeroRow n2) 5)) := (Below.refl _ _).alloc (Nat.le_refl _) _
        have B5 := Lib.hid b5
        clear b5
        obtain rfl | rfl : s = 0 ∨ s = 1 := by omega
        · refine (put_ok w1.heap.size kBig (bigText n2) 0 _ ⟨9, [⟨keyText a x, ⟨#[]⟩, 0⟩], 1, 0⟩ (S4.out.new B5.out) (HF.out _ (F4.out.trans (Frm.of_new B5.out F))) rfl (by simp) HR4.out may_big (by have h' := HN2.out; rw [bigText_size]; omega) (by omega) HN4.out (by simp)).mono ?_
          rintro e w6 ⟨rfl, s6, f6⟩
          have S6 := Lib.hid s6
          have F6 := Lib.hid ((F4.out.trans (Frm.of_new B5.out F)).trans f6)
          clear s6 f6
          go_wp2_with fail
          refine (put_form w1.heap.size kEarly ⟨#[]⟩ (-1 - (t : Int)) _ _ S6.out rfl (by simp) (by decide) (by decide) (fun h => by have h' := h.2.2; omega)).mono ?_
          rintro e w7 ⟨rfl, s7, f7⟩
          have F7 := Lib.hid (F6.out.trans f7)
          clear s7 f7
          go_wp2_with (go_at_call 12; refine (num_any _ _).mono ?_; rintro e w' ⟨rfl, rfl⟩)
          go_ret
          have hfr := F7.out
          rw [HD.out] at hfr
          first | exact ⟨rfl, B1.out.trans ((hfr.below (Nat.le_refl _)).mono B1.out.size)⟩ | exact ⟨ret_bool (by simp; omega), B1.out.trans ((hfr.below (Nat.le_refl _)).mono B1.out.size)⟩
        · refine (put_form w1.heap.size kBig (bigText n2) 0 _ ⟨9, [⟨keyText a x, ⟨#[]⟩, 0⟩], 1, 0⟩ (S4.out.new B5.out) rfl (by simp) (by decide) (by rw [bigText_size]; omega) (fun h => by have h' := h.2.1; have h'' := HN2.out; rw [bigText_size] at h'; omega)).mono ?_
          rintro e w6 ⟨rfl, s6, f6⟩
          have S6 := Lib.hid s6
          have F6 := Lib.hid ((F4.out.trans (Frm.of_new B5.out F)).trans f6)
          clear s6 f6
          go_wp2_with fail
          refine (put_form w1.heap.size kEarly ⟨#[]⟩ (-1 - (t : Int)) _ _ S6.out rfl (by simp) (by decide) (by decide) (fun h => by have h' := h.2.2; omega)).mono ?_
          rintro e w7 ⟨rfl, s7, f7⟩
          have F7 := Lib.hid (F6.out.trans f7)
          clear s7 f7
          go_wp2_with (go_at_call 12; refine (num_any _ _).mono ?_; rintro e w' ⟨rfl, rfl⟩)
          go_ret
          have hfr := F7.out
          rw [HD.out] at hfr
          first | exact ⟨rfl, B1.out.trans ((hfr.below (Nat.le_refl _)).mono B1.out.size)⟩ | exact ⟨ret_bool (by simp; omega), B1.out.trans ((hfr.below (Nat.le_refl _)).mono B1.out.size)⟩
      · obtain rfl : a = 0 := by omega
        obtain ⟨v3, hv3⟩ : ∃ v3, v3 = wr := ⟨_, rfl⟩
        rw [← hv3]
        have hr3 : v3.heap[w2.heap.size]? = some (.cells (byteCells (keyRow 0 x)).toArray 5 (0, 0)) := by
          rw [hv3]
          exact HRow.out
        have V3 : Hid (Sto v3 G w1.heap.size ⟨9, [], 0, 0⟩) := by
          unfold Hid
          rw [hv3]
          exact S3.out
        have V3F : Hid (Frm F w1 v3) := by
          unfold Hid
          rw [hv3]
          exact F3.out
        have hcv : (convert 62 9 (.slice (some ⟨w2.heap.size, 0, none⟩) 0 0)).run Try.prog v3 = .ok (.string (keyText 0 x)) v3 := convert_row v3 w2.heap.size 0 (keyRow 0 x) hr3
        clear hr3 hv3
        go_wp2_with fail
        clear hcv
        refine (put_form w1.heap.size (keyText 0 x) ⟨#[]⟩ 0 v3 ⟨9, [], 0, 0⟩ (V3.out.mono fun j _ hj => (HG.out j hj).1) rfl (by simp) (by rw [keyText_size]; omega) (by decide) (fun h => keyText_not 0 x (by omega) h.1)).mono ?_
        rintro e w4 ⟨rfl, s4, f4⟩
        have S4 : Hid (Sto w4 F w1.heap.size ⟨9, [], 1, 0⟩) := s4
        have HR4 : Hid (Rises (([] : List Ob).map Ob.key)) := List.Pairwise.nil
        have HN4 : Hid (kBig ∉ ([] : List Ob).map Ob.key) := by
            unfold Hid
            simp
        have F4 := Lib.hid (V3F.out.trans f4)
        clear s4 f4
        go_wp2_with fail
        have b5 : Below w4.heap.size w4 (w4.alloc (.cells (zeroRow n2) 5)) := (Below.refl _ _).alloc (Nat.le_refl _) _
        have B5 := Lib.hid b5
        clear b5
        obtain rfl | rfl : s = 0 ∨ s = 1 := by omega
        · refine (put_ok w1.heap.size kBig (bigText n2) 0 _ ⟨9, [], 1, 0⟩ (S4.out.new B5.out) (HF.out _ (F4.out.trans (Frm.of_new B5.out F))) rfl (by simp) HR4.out may_big (by have h' := HN2.out; rw [bigText_size]; omega) (by omega) HN4.out (by simp)).mono ?_
          rintro e w6 ⟨rfl, s6, f6⟩
          have S6 := Lib.hid s6
          have F6 := Lib.hid ((F4.out.trans (Frm.of_new B5.out F)).trans f6)
          clear s6 f6
          go_wp2_with fail
          refine (put_form w1.heap.size kEarly ⟨#[]⟩ (-1 - (t : Int)) _ _ S6.out rfl (by simp) (by decide) (by decide) (fun h => by have h' := h.2.2; omega)).mono ?_
          rintro e w7 ⟨rfl, s7, f7⟩
          have F7 := Lib.hid (F6.out.trans f7)
          clear s7 f7
          go_wp2_with (go_at_call 12; refine (num_any _ _).mono ?_; rintro e w' ⟨rfl, rfl⟩)
          go_ret
          have hfr := F7.out
          rw [HD.out] at hfr
          first | exact ⟨rfl, B1.out.trans ((hfr.below (Nat.le_refl _)).mono B1.out.size)⟩ | exact ⟨ret_bool (by simp; omega), B1.out.trans ((hfr.below (Nat.le_refl _)).mono B1.out.size)⟩
        · refine (put_form w1.heap.size kBig (bigText n2) 0 _ ⟨9, [], 1, 0⟩ (S4.out.new B5.out) rfl (by simp) (by decide) (by rw [bigText_size]; omega) (fun h => by have h' := h.2.1; have h'' := HN2.out; rw [bigText_size] at h'; omega)).mono ?_
          rintro e w6 ⟨rfl, s6, f6⟩
          have S6 := Lib.hid s6
          have F6 := Lib.hid ((F4.out.trans (Frm.of_new B5.out F)).trans f6)
          clear s6 f6
          go_wp2_with fail
          refine (put_form w1.heap.size kEarly ⟨#[]⟩ (-1 - (t : Int)) _ _ S6.out rfl (by simp) (by decide) (by decide) (fun h => by have h' := h.2.2; omega)).mono ?_
          rintro e w7 ⟨rfl, s7, f7⟩
          have F7 := Lib.hid (F6.out.trans f7)
          clear s7 f7
          go_wp2_with (go_at_call 12; refine (num_any _ _).mono ?_; rintro e w' ⟨rfl, rfl⟩)
          go_ret
          have hfr := F7.out
          rw [HD.out] at hfr
          first | exact ⟨rfl, B1.out.trans ((hfr.below (Nat.le_refl _)).mono B1.out.size)⟩ | exact ⟨ret_bool (by simp; omega), B1.out.trans ((hfr.below (Nat.le_refl _)).mono B1.out.size)⟩
end Go.Proofs.Ytepenaoffdaacaa
