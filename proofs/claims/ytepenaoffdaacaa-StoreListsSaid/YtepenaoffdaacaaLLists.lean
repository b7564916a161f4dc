/- The walk of StoreLists. -/
import Derived.Test.YtepenaoffdaacaaAwake
import Derived.Test.YtepenaoffdaacaaKeys
import Derived.Laws.MakeOwn
import Derived.Deep.QuietTactic
import Derived.BigQuiet
namespace Go.Proofs.Ytepenaoffdaacaa
open Go.Conc Go.RowKit

/-- Which of a hundred keys are there. -/
def boolRow (f : Nat → Bool) : Array Value := ((List.range 100).map fun j => Value.bool (f j)).toArray
def setOne (f : Nat → Bool) (r : Nat) : Nat → Bool := fun j => j == r || f j
theorem boolRow_at (f : Nat → Bool) (r : Nat) (h : r < 100) : (boolRow f)[r]? = some (.bool (f r)) := by
  simp [boolRow, List.getElem?_range h]
theorem boolRow_set (f : Nat → Bool) (r : Nat) (h : r < 100) : (boolRow f).setIfInBounds r (.bool true) = boolRow (setOne f r) := by
  apply Array.ext'
  simp only [boolRow, Array.toList_setIfInBounds]
  apply List.ext_getElem?
  intro i
  rw [List.getElem?_set]
  by_cases h1 : r = i
  · subst h1
    rw [if_pos rfl, if_pos (by simpa using h)]
    simp [List.getElem?_range h, setOne]
  · rw [if_neg h1, List.getElem?_map, List.getElem?_map]
    by_cases hi : i < 100
    · rw [List.getElem?_range hi]
      have : (i == r) = false := by simp; omega
      simp [setOne, this]
    · rw [List.getElem?_eq_none (by simp; omega)]
      rfl
theorem infoBool : (Try.prog.info? 4).map (fun i => (i.zero, i.size, i.bytes)) = some (some (.bool false), 1, 1) := by kernel_rfl
theorem make_bools (w : World) : (Instr.makeSlice 54 (.int .i64 100) (.int .i64 100)).run Try.prog w = .ok (.slice (some ⟨w.heap.size, 0, none⟩) 100 100) (w.alloc (.cells (boolRow fun _ => false) 4)) := by
  obtain ⟨i0, hi, hz0, hz1, hz2⟩ := info_parts infoBool
  have := run_make (P := Try.prog) w 54 4 i0 (.bool false) Try.underlying54 hi hz0 .i64 .i64 100 100 (by omega) (by omega) (by rw [hz2]; omega) (by omega)
  rw [hz1] at this
  have e : madeCells (Value.bool false).cells ((100 : Int).toNat * 1) = boolRow fun _ => false := by
    apply Array.ext
    · simp [size_madeCells, boolRow]
    · intro i h1 h2
      simp [madeCells, boolRow, Value.cells, Nat.mod_one]
  rw [e] at this
  exact this

theorem rem_hundred (x : Int) : ∃ r : Nat, r < 100 ∧ wrap64 ((IntKind.u64.wrap x).tmod 100) = (r : Int) := by
  have h0 : 0 ≤ IntKind.u64.wrap x := by rw [IntKind.wrap_u64]; omega
  rw [Int.tmod_eq_emod_of_nonneg h0]
  have h1 := Int.emod_nonneg (IntKind.u64.wrap x) (b := 100) (by omega)
  have h2 := Int.emod_lt_of_pos (IntKind.u64.wrap x) (b := 100) (by omega)
  refine ⟨((IntKind.u64.wrap x) % 100).toNat, by omega, ?_⟩
  rw [IntWalk.wrap64_in _ ⟨by omega, by omega⟩]
  omega

theorem num_same (n : Int) (w : World) : Calls Try.prog 12 #[.int .i64 n] w fun e w' => e = .returned (.int .i64 n) ∧ w' = w :=
  (num_any n w).mono fun _ _ ⟨h1, h2⟩ => ⟨h1, h2.symm⟩

/-- A slice of numbers that came in. -/
def IsInts (w : World) (a : Option Addr) (len : Nat) (zs : Nat → Int) : Prop :=
  len = 0 ∨ ∃ b off, a = some ⟨b, off, none⟩ ∧ ∀ i, i < len → w.cell? ⟨b, off + i, none⟩ = some (.int .i64 (zs i))

/-- The store holds just the keys that f tells. -/
def Holds (os : List Ob) (f : Nat → Bool) : Prop := KeysIn 107 os (fun j => f j = true ∧ j < 100) ∧ ∀ j, j < 100 → f j = true → keyOf 107 j ∈ os.map Ob.key

theorem setOne_same {f : Nat → Bool} {r : Nat} (h : f r = true) : setOne f r = f := by
  funext j
  unfold setOne
  by_cases e : j = r
  · subst e; simp [h]
  · have : (j == r) = false := by simpa using e
    simp [this]
theorem holds_insert {os : List Ob} {f : Nat → Bool} {r : Nat} (h : Holds os f) (hf : f r = false) (hr : r < 100) (d : ByteArray) (t : Int) :
    Holds (insAt os (keyPlace (os.map Ob.key) (keyOf 107 r)) ⟨keyOf 107 r, d, t⟩) (setOne f r) := by
  refine ⟨h.1.insert (i := r) (T := fun j => setOne f r j = true ∧ j < 100) (by omega) (fun e => by rw [hf] at e; simp at e) d t (fun j hj => ⟨by simp [setOne, hj.1], hj.2⟩) ⟨by simp [setOne], hr⟩, fun j hj hfj => ?_⟩
  rw [mem_keys_insAt]
  by_cases e : j = r
  · exact .inl (by rw [e])
  · refine .inr (h.2 j hj ?_)
    have : (j == r) = false := by simpa using e
    simpa [setOne, this] using hfj

/-- Does the key of j begin so? -/
def okP (P : ByteArray) (j : Nat) : Bool := Lib.hasPrefix (keyOf 107 j).data.toList P.data.toList
/-- How many of the first n keys are there and begin so. -/
def cnt (f : Nat → Bool) (P : ByteArray) (n : Nat) : Nat := (List.range n).countP fun j => f j && okP P j
theorem cnt_step (f : Nat → Bool) (P : ByteArray) (n : Nat) : cnt f P (n + 1) = cnt f P n + if (f n && okP P n) = true then 1 else 0 := by
  unfold cnt
  rw [List.range_succ, List.countP_append]
  simp [List.countP_cons]
theorem cnt_le (f : Nat → Bool) (P : ByteArray) (n : Nat) : cnt f P n ≤ n := by
  unfold cnt
  exact Nat.le_trans List.countP_le_length (by simp)
theorem rises_nodup {ks : List ByteArray} (h : Rises ks) : ks.Nodup := by
  refine List.Pairwise.imp ?_ h
  intro a b hab e
  rw [e, cmpK_refl] at hab
  omega
theorem range_nodup (f : Nat → Bool) : (((List.range 100).filter f).map (keyOf 107)).Nodup := by
  rw [List.Nodup, List.pairwise_map]
  refine List.Pairwise.imp_of_mem ?_ (List.nodup_range.filter f)
  intro a b ha hb hab e
  have h1 := List.mem_range.1 (List.mem_filter.1 ha).1
  have h2 := List.mem_range.1 (List.mem_filter.1 hb).1
  exact hab (keyOf_inj (by omega) (by omega) e)
theorem holds_perm {os : List Ob} {f : Nat → Bool} (h : Holds os f) : (os.map Ob.key).Perm (((List.range 100).filter f).map (keyOf 107)) := by
  refine (List.perm_ext_iff_of_nodup (rises_nodup h.1.1) (range_nodup f)).2 fun k => ?_
  constructor
  · intro hk
    obtain ⟨o, ho, rfl⟩ := List.mem_map.1 hk
    obtain ⟨j, ⟨h1, h2⟩, _, e⟩ := h.1.2 o ho
    exact List.mem_map.2 ⟨j, List.mem_filter.2 ⟨List.mem_range.2 h2, h1⟩, e.symm⟩
  · intro hk
    obtain ⟨j, hj, rfl⟩ := List.mem_map.1 hk
    have h1 := List.mem_filter.1 hj
    exact h.2 j (List.mem_range.1 h1.1) h1.2
theorem listOf_count {os : List Ob} {f : Nat → Bool} (h : Holds os f) (P : ByteArray) : (listOf os P).length = cnt f P 100 := by
  unfold listOf cnt
  rw [List.length_map, ← List.countP_eq_length_filter]
  have e1 : os.countP (pre P) = (os.map Ob.key).countP (fun k => Lib.hasPrefix k.data.toList P.data.toList) := by
    rw [List.countP_map]; rfl
  rw [e1, (holds_perm h).countP_eq, List.countP_map, List.countP_filter]
  apply List.countP_congr
  intro j _
  simp [okP, Bool.and_comm]
theorem bytesLess_of : ∀ (a b : List UInt8), cmpL a b < 0 → Op.bytesLess a b = true
  | _, [], h => by
    rename_i a
    cases a <;> simp [cmpL, Lib.compareBytes] at h
  | [], _ :: _, _ => rfl
  | x :: a, y :: b, h => by
    rw [cmpL_cons] at h
    simp only [Op.bytesLess]
    by_cases h1 : x < y
    · simp [h1]
    · rw [if_neg h1] at h
      by_cases h2 : y < x
      · rw [if_pos h2] at h; omega
      · rw [if_neg h2] at h
        have e : x = y := by
          rw [UInt8.lt_iff_toNat_lt] at h1 h2
          exact UInt8.toNat_inj.1 (by omega)
        subst e
        simp [bytesLess_of a b h]
theorem toList_data' (a : ByteArray) : a.toList = a.data.toList := ByteArray.toList_eq a
theorem listOf_rises {os : List Ob} (h : Rises (os.map Ob.key)) (P : ByteArray) : Rises ((listOf os P).map Ob.key) := by
  unfold listOf
  rw [List.map_map]
  have : (Ob.key ∘ shown) = Ob.key := by funext o; rfl
  rw [this]
  exact h.sublist (List.filter_sublist.map _)
theorem listOf_data {os : List Ob} {P : ByteArray} {j : Nat} {o : Ob} (h : (listOf os P)[j]? = some o) : o.data = ByteArray.empty := by
  unfold listOf at h
  rw [List.getElem?_map, Option.map_eq_some_iff] at h
  obtain ⟨q, _, rfl⟩ := h
  rfl
theorem listOf_z {os : List Ob} {f : Nat → Bool} (h : Holds os f) : listOf os kZ = [] := by
  have : os.filter (pre kZ) = [] := by
    rw [List.filter_eq_nil_iff]
    intro o ho hp
    obtain ⟨j, _, _, e⟩ := h.1.2 o ho
    unfold pre at hp
    rw [e] at hp
    exact absurd hp (by simp [keyOf, kZ, Lib.hasPrefix])
  simp [listOf, this]
theorem dec_pos (n : Nat) : 1 ≤ (dec n).length := by
  show 1 ≤ (digs (19 + 1) n).length
  rw [digs_step]
  simp
theorem okP_iff (P : ByteArray) (j : Nat) (hP : P.size ≤ 2) : ((keyOf 107 j).extract 0 P.size).toList = P.toList ↔ okP P j = true := by
  have h := Lib.hasPrefix_raw (keyOf 107 j) P
  have h1 : P.size ≤ (keyOf 107 j).size := by rw [keyOf_size]; have := dec_pos j; omega
  unfold okP
  rw [← h]
  simp [h1]

set_option maxHeartbeats 8000000 in
set_option maxRecDepth 100000 in
theorem lists_walk (a : Option Addr) (len cap : Nat) (zs : Nat → Int) (pre0 : ByteArray) (w : World) (hzs : IsInts w a len zs) (hlen : len ≤ maxLen) :
    Calls Try.prog 6 #[.slice a len cap, .string pre0] w fun e w' => e = .returned (.bool true) ∧ Below w.heap.size w w' := by
  unfold maxLen at hlen
  have hmk := make_bools
  go_enter Try.func6, Try.ntmps6
  go_wp2_with fail
  refine (awake_any _).mono ?_
  rintro e w1 ⟨rfl, b1⟩
  have B1 := Lib.hid b1
  clear b1
  obtain ⟨F, hFd⟩ : ∃ F : Nat → Prop, F = fun k => w1.heap.size ≤ k := ⟨_, rfl⟩
  have HF : Hid (∀ v : World, Frm F w1 v → ∀ k, v.heap.size ≤ k → F k) := fun v hv k hk => by rw [hFd]; exact Nat.le_trans hv.size hk
  have HD := Lib.hid hFd
  clear hFd
  go_wp2_with fail
  refine (new_any 200 (by omega) (by omega) _ (HF.out _ (Frm.refl _ _))).mono ?_
  rintro e w2 ⟨rfl, s2, f2⟩
  obtain ⟨G0, hG0, s2'⟩ := s2.exact
  obtain ⟨G, hGd⟩ : ∃ G : Nat → Prop, G = fun k => G0 k ∨ w2.heap.size + 1 ≤ k := ⟨_, rfl⟩
  have hbG : ¬ G w2.heap.size := by
    rw [hGd]
    rintro (h | h)
    · have := (hG0 _ h).2; omega
    · omega
  have HGc : Hid (∀ v : World, w2.heap.size + 1 ≤ v.heap.size → ∀ k, v.heap.size ≤ k → G k) := fun v hv k hk => by rw [hGd]; exact .inr (by omega)
  have HGF : Hid (∀ k, G k → F k) := fun k hk => by
    rw [hGd] at hk
    rcases hk with h | h
    · exact (hG0 k h).1
    · exact HF.out _ f2 k (by omega)
  have S2 : Hid (Sto w2 G w1.heap.size ⟨200, [], 0, 0⟩) := s2'.mono fun k _ hk => by rw [hGd]; exact .inl hk
  have HbG := Lib.hid hbG
  have F2 := Lib.hid f2
  have hz2 : w1.heap.size ≤ w2.heap.size := f2.size
  clear s2 f2 hG0 s2' hbG hGd
  go_wp2_with fail
  clear hmk
  go_loopw [8] (fun i wr => ∃ n : Nat, n ≤ 60 ∧ i = .int .i64 n ∧ (∃ os f, Sto wr G w1.heap.size ⟨200, os, n, 0⟩ ∧ os.length ≤ n ∧ Holds os f ∧ wr.heap[w2.heap.size]? = some (.cells (boolRow f) 4 (0, 0))) ∧ Frm F w1 wr ∧ w2.heap.size + 1 ≤ wr.heap.size) (fun i _ => 60 - (intOf i).toNat)
  case atStart => exact ⟨0, by omega, rfl, ⟨[], fun _ => false, S2.out.alloc _, by simp, ⟨KeysIn.nil _ _, by simp⟩, heap_alloc_new w2 _⟩, F2.out.alloc _, by simp⟩
  case round =>
    obtain ⟨n, hn, rfl, ⟨os, f, s3, hl, hh, hrow⟩, f3, hz3⟩ := hrel
    have S3 := Lib.hid s3
    have F3 := Lib.hid f3
    have HH := Lib.hid hh
    have HL := Lib.hid hl
    have HRow := Lib.hid hrow
    have hfr : Frm (fun k => w1.heap.size ≤ k) w1 wr := by rw [← HD.out]; exact f3
    have BW := Lib.hid (B1.out.trans ((hfr.below (Nat.le_refl _)).mono B1.out.size))
    clear s3 f3 hh hl hrow hfr
    by_cases hgo : n < len ∧ n < 60
    · obtain ⟨hlt, h60⟩ := hgo
      rcases hzs with h | ⟨bb, off, rfl, hcells⟩
      · omega
      have hb0 : bb < w.heap.size := World.block_lt_of_cell? w ⟨bb, off + n, none⟩ (hcells n hlt)
      have c0 := (BW.out.cell (p := ⟨bb, off + n, none⟩) hb0).trans (hcells n hlt)
      obtain ⟨r, hr, er⟩ := rem_hundred (zs n)
      have hdr := dec_length r
      clear hcells
      go_wp2_with (first
        | (go_at_call 21; refine (decimal_any r (by omega) _).mono ?_; rintro e w5 ⟨rfl, b5⟩; have B5 := Lib.hid b5; clear b5))
      rw [keyOf_eq]
      have HFb : Hid (F w2.heap.size) := HF.out _ F2.out _ (Nat.le_refl _)
      cases hfr : f r with
      | true =>
        refine (put_exists w1.heap.size (keyOf 107 r) ⟨#[100]⟩ n w5 _ (S3.out.new B5.out) rfl (by simp; omega) HH.out.1.1 (keyOf_may 107 (by decide) r) (by decide) (by omega) (HH.out.2 r hr hfr)).mono ?_
        rintro e w6 ⟨rfl, s6, f6⟩
        have hrow6 : w6.heap[w2.heap.size]? = some (.cells (boolRow f) 4 (0, 0)) :=
          (f6.block _ (by have := B5.out.size; omega) HbG.out).trans ((B5.out.block _ (by omega)).trans HRow.out)
        have hc6 := (cell_of_row w6 w2.heap.size r _ _ _ hrow6).trans (boolRow_at f r hr)
        rw [hfr] at hc6
        have hf6 := frozen_of_row w6 w2.heap.size r _ _ hrow6
        have hz6 : w2.heap.size + 1 ≤ w6.heap.size := by have := B5.out.size; have := f6.size; omega
        have S6 := Lib.hid s6
        have F6 := Lib.hid ((F3.out.trans (Frm.of_new B5.out F)).trans (f6.mono fun k _ hk => HGF.out k hk))
        have HRow6 := Lib.hid hrow6
        have HFr := Lib.hid hfr
        clear s6 f6 hrow6 hfr
        go_wp2
        go_quiet ((go_at_call 12; exact Calls.quiet_of_same (num_same _ _)))
        go_wp2
        go_roundw
        case rel =>
          refine ⟨n + 1, by omega, by go_num, ⟨os, setOne f r, ?_, by have := HL.out; omega, by rw [setOne_same HFr.out]; exact HH.out, ?_⟩, (F6.out.same (v := w6.drewN nq) rfl rfl rfl rfl).setCell HFb.out _, by simp [World.setCell]; exact hz6⟩
          · exact S6.out.same fun j _ hj => Below.heap_setCell (w6.drewN nq) _ _ _ (fun e : _ = w2.heap.size => HbG.out (e ▸ hj))
          · rw [← boolRow_set f r hr]
            exact Go.Joins.block_setCell (w := w6.drewN nq) HRow6.out _
        case measure => simp [intOf]; omega
      | false =>
        refine (put_ok w1.heap.size (keyOf 107 r) ⟨#[100]⟩ n w5 _ (S3.out.new B5.out) (HGc.out _ (Nat.le_trans hz3 B5.out.size)) rfl (by simp; omega) HH.out.1.1 (keyOf_may 107 (by decide) r) (by decide) (by omega) (HH.out.1.not_mem (by omega) (fun e => by rw [hfr] at e; simp at e)) (by have := HL.out; simp; omega)).mono ?_
        rintro e w6 ⟨rfl, s6, f6⟩
        have hrow6 : w6.heap[w2.heap.size]? = some (.cells (boolRow f) 4 (0, 0)) :=
          (f6.block _ (by have := B5.out.size; omega) HbG.out).trans ((B5.out.block _ (by omega)).trans HRow.out)
        have hc6 := (cell_of_row w6 w2.heap.size r _ _ _ hrow6).trans (boolRow_at f r hr)
        rw [hfr] at hc6
        have hf6 := frozen_of_row w6 w2.heap.size r _ _ hrow6
        have hz6 : w2.heap.size + 1 ≤ w6.heap.size := by have := B5.out.size; have := f6.size; omega
        have S6 := Lib.hid s6
        have F6 := Lib.hid ((F3.out.trans (Frm.of_new B5.out F)).trans (f6.mono fun k _ hk => HGF.out k hk))
        have HRow6 := Lib.hid hrow6
        have HFr := Lib.hid hfr
        clear s6 f6 hrow6 hfr
        go_wp2
        go_quiet ((go_at_call 12; exact Calls.quiet_of_same (num_same _ _)))
        go_wp2
        go_roundw
        case rel =>
          refine ⟨n + 1, by omega, by go_num, ⟨_, setOne f r, ?_, by rw [insAt_length']; have := HL.out; omega, holds_insert HH.out HFr.out hr ⟨#[100]⟩ n, ?_⟩, (F6.out.same (v := w6.drewN nq) rfl rfl rfl rfl).setCell HFb.out _, by simp [World.setCell]; exact hz6⟩
          · exact S6.out.same fun j _ hj => Below.heap_setCell (w6.drewN nq) _ _ _ (fun e : _ = w2.heap.size => HbG.out (e ▸ hj))
          · rw [← boolRow_set f r hr]
            exact Go.Joins.block_setCell (w := w6.drewN nq) HRow6.out _
        case measure => simp [intOf]; omega
    · have hstop : ¬ (n < len ∧ n < 60) := hgo
      obtain ⟨s, hs, es⟩ := and_small (pre0.size : Int) 1 (by omega)
      have es' : bits .and .i64 (pre0.size : Int) 1 = (s : Int) := es
      clear es
      have hdone : (n < len ∧ n = 60) ∨ ¬ n < len := by omega
      clear hstop hgo
      rcases hdone with ⟨hnl, rfl⟩ | hnl
      all_goals
        go_wp2_with fail
      all_goals
        first
          | (obtain ⟨P, hP, hP2⟩ : ∃ P : ByteArray, P = ⟨#[107, 49]⟩ ∧ P.size ≤ 2 := ⟨_, rfl, by decide⟩; rw [← hP]; clear hP)
          | (obtain ⟨P, hP, hP2⟩ : ∃ P : ByteArray, P = ⟨#[107]⟩ ∧ P.size ≤ 2 := ⟨_, rfl, by decide⟩; rw [← hP]; clear hP)
        clear es'
        refine (list_ok w1.heap.size P wr _ S3.out rfl (by simp <;> omega) HH.out.1.1).mono ?_
        rintro e w7 ⟨sv, rfl, r7, s7, f7⟩
        have HCnt := Lib.hid (listOf_count HH.out P)
        have hLle : (listOf os P).length ≤ 100 := by rw [HCnt.out]; exact cnt_le _ _ _
        have hr0 := r7.2
        obtain ⟨a7, c7, rfl⟩ := row_shape r7
        have HR7 := Lib.hid r7
        have S7 := Lib.hid s7
        have F7 := Lib.hid (F3.out.trans (f7.mono fun k _ hk => HGF.out k hk))
        have HRow7 : Hid (w7.heap[w2.heap.size]? = some (.cells (boolRow f) 4 (0, 0))) := (f7.block _ (by omega) HbG.out).trans HRow.out
        have hbh : w2.heap.size < w7.heap.size := by have := f7.size; omega
        have HR0 := Lib.hid hr0
        clear r7 s7 f7 hr0
        obtain ⟨L, hL⟩ : ∃ L, L = (listOf os P).length := ⟨_, rfl⟩
        rw [← hL]
        rw [← hL] at hLle
        have HLd := Lib.hid hL
        clear hL
        go_wp2_with fail
        go_loopw [14, 15] (fun m j v => ∃ b : Nat, b ≤ 100 ∧ j = .int .i64 b ∧ m = .int .i64 (cnt f P b) ∧ Below w7.heap.size w7 v) (fun _ j _ => 100 - (intOf j).toNat)
        case atStart => exact ⟨0, by omega, rfl, by simp [cnt], Below.refl _ _⟩
        case round =>
          obtain ⟨b, hb, rfl, rfl, hbel⟩ := hrel
          have HBel := Lib.hid hbel
          have hzb := hbel.size
          clear hbel
          have hcle := cnt_le f P b
          by_cases hlt : b < 100
          · have hcb := (HBel.out.cell (p := ⟨w2.heap.size, b, none⟩) hbh).trans ((cell_of_row w7 w2.heap.size b _ _ _ HRow7.out).trans (boolRow_at f b hlt))
            have hdb := dec_length b
            have hcz := Nat.lt_of_lt_of_le hbh hzb
            have hke : (⟨#[107]⟩ : ByteArray) ++ ⟨(dec b).toArray⟩ = keyOf 107 b := keyOf_eq 107 b
            have hks : P.size ≤ (keyOf 107 b).size := by rw [keyOf_size]; have := dec_pos b; omega
            have HSt := Lib.hid (cnt_step f P b)
            cases hfb : f b with
            | false =>
              rw [hfb] at hcb
              have HFb := Lib.hid hfb
              clear hfb
              go_wp2_with (go_at_call 21; refine (decimal_any b (by omega) _).mono ?_; rintro e w8 ⟨rfl, b8⟩; have hc8 := (b8.cell (p := ⟨w2.heap.size, b, none⟩) hcz).trans hcb; have B8 := Lib.hid b8; clear b8 hcb)
              go_roundw
              case rel =>
                refine ⟨b + 1, by omega, by go_num, ?_, HBel.out.trans (B8.out.mono hzb)⟩
                rw [HSt.out, HFb.out]
                simp
              case measure => simp [intOf]; omega
            | true =>
              rw [hfb] at hcb
              have HFb := Lib.hid hfb
              clear hfb
              cases hok : okP P b with
              | true =>
                have heq := (okP_iff P b hP2).2 hok
                have HOk := Lib.hid hok
                clear hok
                go_wp2_with (go_at_call 21; refine (decimal_any b (by omega) _).mono ?_; rintro e w8 ⟨rfl, b8⟩; have hc8 := (b8.cell (p := ⟨w2.heap.size, b, none⟩) hcz).trans hcb; have B8 := Lib.hid b8; clear b8 hcb)
                go_roundw
                case rel =>
                  refine ⟨b + 1, by omega, by go_num, ?_, HBel.out.trans (B8.out.mono hzb)⟩
                  rw [HSt.out, HFb.out, HOk.out]
                  simp
                case measure => simp [intOf]; omega
              | false =>
                have hne : ¬ ((keyOf 107 b).extract 0 P.size).toList = P.toList := fun h => by
                  have := (okP_iff P b hP2).1 h
                  rw [hok] at this
                  simp at this
                have hneb : (((keyOf 107 b).extract 0 P.size).toList == P.toList) = false := by simpa using hne
                have HOk := Lib.hid hok
                clear hok
                go_wp2_with (go_at_call 21; refine (decimal_any b (by omega) _).mono ?_; rintro e w8 ⟨rfl, b8⟩; have hc8 := (b8.cell (p := ⟨w2.heap.size, b, none⟩) hcz).trans hcb; have B8 := Lib.hid b8; clear b8 hcb)
                go_roundw
                case rel =>
                  refine ⟨b + 1, by omega, by go_num, ?_, HBel.out.trans (B8.out.mono hzb)⟩
                  rw [HSt.out, HFb.out, HOk.out]
                  simp
                case measure => simp [intOf]; omega
          · obtain rfl : b = 100 := by omega
            go_wp2_with fail
            have hz7 := hzb
            clear hcle hzb
            go_loopw [17] (fun i v => ∃ c : Nat, 1 ≤ c ∧ (c ≤ L ∨ c = 1) ∧ i = .int .i64 c ∧ Below w7.heap.size w7 v) (fun i _ => 100 - (intOf i).toNat)
            case atStart => exact ⟨1, by omega, .inr rfl, rfl, HBel.out⟩
            case round =>
              obtain ⟨c, hc1, hcL, rfl, hbel3⟩ := hrel
              by_cases hlt : c < L
              · have hlt' : c < (listOf os P).length := HLd.out ▸ hlt
                obtain ⟨g, rfl⟩ : ∃ g, a7 = some ⟨g, 0, none⟩ := by
                  rcases HR0.out with ⟨h1, h2⟩ | ⟨g, cap', cur, hv, _⟩
                  · omega
                  · injection hv with e1 e2 e3
                    exact ⟨g, e1⟩
                obtain ⟨o1, h1⟩ : ∃ o, (listOf os P)[c - 1]? = some o := ⟨(listOf os P)[c - 1]'(by omega), List.getElem?_eq_getElem _⟩
                obtain ⟨o2, h2⟩ : ∃ o, (listOf os P)[c]? = some o := ⟨(listOf os P)[c]'hlt', List.getElem?_eq_getElem _⟩
                obtain ⟨q1, _, _⟩ := row_cells HR7.out (c - 1) o1 h1
                obtain ⟨q2, q3, _⟩ := row_cells HR7.out c o2 h2
                rw [listOf_data h2] at q3
                have hgb : g < w7.heap.size := World.block_lt_of_cell? w7 ⟨g, (c - 1) * 3, none⟩ q1
                have e1 := (hbel3.cell (p := ⟨g, (c - 1) * 3, none⟩) hgb).trans q1
                have e2 := (hbel3.cell (p := ⟨g, c * 3, none⟩) hgb).trans q2
                have e3 := (hbel3.cell (p := ⟨g, c * 3 + 1, none⟩) hgb).trans q3
                have hless : Op.bytesLess o1.key.toList o2.key.toList = true := by
                  rw [toList_data', toList_data']
                  refine bytesLess_of _ _ ?_
                  have hp := List.pairwise_iff_getElem.1 (listOf_rises HH.out.1.1 P) (c - 1) c (by simp; omega) (by simp; omega) (by omega)
                  obtain ⟨_, x1⟩ := List.getElem?_eq_some_iff.1 h1
                  obtain ⟨_, x2⟩ := List.getElem?_eq_some_iff.1 h2
                  rw [List.getElem_map, List.getElem_map, x1, x2] at hp
                  exact hp
                have hsub : IntKind.i64.wrap ((c : Int) - 1) = ((c - 1 : Nat) : Int) := by
                  rw [IntKind.wrap_i64]
                  omega
                have HBel3 := Lib.hid hbel3
                clear q1 q2 q3 h1 h2 hbel3 hlt' hgb
                go_wp2_with fail
                go_quiet (fail)
                go_wp2
                go_roundw
                case rel => exact ⟨c + 1, by omega, .inl (by omega), by go_num, bel_drewN HBel3.out⟩
                case measure => simp [intOf]; omega
              · have hLm : cnt f P 100 = L := by rw [HLd.out]; exact HCnt.out.symm
                rw [hLm]
                have S3 := Lib.hid (S7.out.new hbel3)
                have F3 := Lib.hid (F7.out.trans (Frm.of_new hbel3 F))
                clear hbel3 hLm
                go_wp2_with fail
                refine (list_ok w1.heap.size kZ wr _ S3.out rfl (by simp <;> omega) HH.out.1.1).mono ?_
                rintro e w8 ⟨sv8, rfl, r8, s8, f8⟩
                have hr8 : w8.ownsRow wr.heap.size 59 3 sv8 0 (rowOf (listOf os kZ)) := by
                  have e0 : (listOf os kZ).length = 0 := by rw [listOf_z HH.out]; rfl
                  rw [← e0]
                  exact r8
                obtain ⟨a8, c8, rfl⟩ := row_shape hr8
                have F8 := Lib.hid (F3.out.trans (f8.mono fun k _ hk => HGF.out k hk))
                clear r8 hr8 s8 f8
                go_wp2
                go_ret
                have hfr : Frm (fun k => w1.heap.size ≤ k) w1 w8 := by rw [← HD.out]; exact F8.out
                exact ⟨rfl, B1.out.trans ((hfr.below (Nat.le_refl _)).mono B1.out.size)⟩
end Go.Proofs.Ytepenaoffdaacaa
