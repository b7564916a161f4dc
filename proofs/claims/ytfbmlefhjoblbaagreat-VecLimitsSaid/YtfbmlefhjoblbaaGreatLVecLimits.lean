/- How many values, how long a text, which kinds: the walk of the law. -/
import Derived.Test.YtfbmlefhjoblbaaGreatLVecShort
import Derived.Test.YtfbmlefhjoblbaaGreatRPack
namespace Go.Proofs.YtfbmlefhjoblbaaGreat
open Go.Conc Go.RowKit
set_option linter.unusedVariables false
set_option linter.unusedSimpArgs false

/-- So many of 'x', then what was there. -/
def exL (m j : Nat) : List UInt8 := List.replicate j 120 ++ (bytesN m 0).drop j
theorem exL_len (m j : Nat) (h : j ≤ m) : (exL m j).length = m := by
  unfold exL; rw [List.length_append, List.length_replicate, List.length_drop, bytesN_length]; omega
theorem exL_next (m j : Nat) (h : j < m) : (exL m j).set j 120 = exL m (j + 1) := by
  unfold exL
  have hl : j < (bytesN m 0).length := by rw [bytesN_length]; exact h
  rw [List.set_append_right _ _ (by simp), List.length_replicate, Nat.sub_self, List.drop_eq_getElem_cons hl, List.set_cons_zero, List.replicate_succ', List.append_assoc]
  rfl
theorem exL_all (m : Nat) : exL m m = List.replicate m 120 := by
  unfold exL; rw [List.drop_of_length_le (by rw [bytesN_length]; exact Nat.le_refl _), List.append_nil]
theorem ex_cells (l : List UInt8) (j : Nat) : (byteCells l).set j (.int .u8 120) = byteCells (l.set j 120) := by
  unfold byteCells; rw [List.map_set]; rfl
theorem andN (c : Int) (k : Nat) (hk : k < 63) : ∃ m : Nat, m < 2 ^ k ∧ bits .and .i64 c ((2 ^ k - 1 : Nat) : Int) = (m : Int) := by
  have h := lowBits k hk c
  have h0 : 0 < 2 ^ k := Nat.two_pow_pos k
  refine ⟨_, ?_, h⟩
  have h1 := Int.emod_lt_of_pos c (show (0 : Int) < ((2 ^ k : Nat) : Int) by omega)
  have h2 := Int.emod_nonneg c (show ((2 ^ k : Nat) : Int) ≠ 0 by omega)
  omega
theorem and3 (c : Int) : ∃ m : Nat, m < 4 ∧ bits .and .i64 c 3 = (m : Int) := andN c 2 (by omega)
theorem and7 (c : Int) : ∃ m : Nat, m < 8 ∧ bits .and .i64 c 7 = (m : Int) := andN c 3 (by omega)
theorem li_sum (b : Int) (m n : Nat) (h : (n : Int) = b + m) (hb : 0 ≤ b ∧ b < 5000) (hm : m < 8) : wrap64 (b + (m : Int)) = (n : Int) := by unfold wrap64; omega
theorem li_sum2 (b : Int) (m n : Nat) (h : (n : Int) = b + m) (hn : n < 9000) : IntKind.i64.wrap (b + (m : Int)) = (n : Int) := by rw [← h]; exact wrap_i64_nat n (by omega)
theorem li_put2 (n : Nat) : (colPut 2 (List.replicate n zeroV)).2.2 = if n ≤ 4096 then 0 else 901 := by
  split
  · rename_i h
    have := (nulls_put (k := 2) (by omega) (List.replicate n zeroV) (by rw [List.length_replicate]; exact h) (fun v hv => by rw [(List.mem_replicate.1 hv).2]; kernel_rfl)).1
    rw [this]
  · rename_i h
    rw [putA_form (by omega) (.inl (by rw [List.length_replicate]; omega))]
theorem li_put3 (m : Nat) (h0 : 60 ≤ m) : (colPut 3 [⟨3, 0, false, ⟨(List.replicate m 120).toArray⟩⟩]).2.2 = if m ≤ 64 then 0 else 901 := by
  have hn : isNull (⟨3, 0, false, ⟨(List.replicate m 120).toArray⟩⟩ : V) = false := by
    have : kindV (⟨3, 0, false, ⟨(List.replicate m 120).toArray⟩⟩ : V) = 3 := kind_three.2 rfl
    unfold isNull; rw [this]; rfl
  have hs : (ByteArray.mk (List.replicate m (120 : UInt8)).toArray).size = m := by show (List.replicate m (120 : UInt8)).toArray.size = m; simp
  have hf : first (ByteArray.mk (List.replicate m (120 : UInt8)).toArray).data.toList = -1 := low_first (fun b hb => by have := (List.mem_replicate.1 (by simpa using hb)).2; rw [this]; decide)
  have ho := okK_iff (k := 3) hn
  split
  · rename_i h
    rw [putA_yes (by omega) (by simp) (fun v hv => by rw [List.mem_singleton.1 hv, ho, hs, hf, decide_eq_true h]; rfl)]
  · rename_i h
    rw [putA_form (by omega) (.inr ⟨_, List.mem_singleton.2 rfl, by rw [ho, hs, decide_eq_false h]; rfl⟩)]
theorem li_bad (l : ByteArray) (h : l = ⟨#[255]⟩) : (colPut 3 [⟨3, 0, false, l⟩]).2.2 = 901 := by
  subst h
  rw [putA_form (by omega) (.inr ⟨_, List.mem_singleton.2 rfl, by kernel_rfl⟩)]
theorem li_kind (k : Nat) (h : 4 ≤ k) : (colPut (k : Int) []).2.2 = 900 := by rw [putA_kind (by omega)]
theorem li_get (k : Int) : (colGet k ⟨#[]⟩).2 ≠ 0 := by
  by_cases hk : 1 ≤ k ∧ k ≤ 3
  · rw [get_sum hk (by kernel_rfl)]; simp
  · rw [get_no hk]; simp
theorem li_mix : (colPut 1 [⟨2, 0, false, ⟨#[]⟩⟩]).2.2 = 901 := by
  rw [putA_form (by omega) (.inr ⟨_, List.mem_singleton.2 rfl, by kernel_rfl⟩)]
theorem fine_one {v : V} (h0 : -9223372036854775808 ≤ v.i) (h1 : v.i ≤ 9223372036854775807) (hs : v.s.size ≤ 140737488355328) : Fine [v] := fun u hu => by
  rw [List.mem_singleton.1 hu]; exact ⟨⟨h0, h1⟩, hs⟩

set_option maxRecDepth 100000 in
set_option maxHeartbeats 8000000 in
theorem veclimits_walk (many size kind : Int) (_ : -9223372036854775808 ≤ many) (_ : many < 9223372036854775808) (_ : -9223372036854775808 ≤ size) (_ : size < 9223372036854775808) (_ : -9223372036854775808 ≤ kind) (_ : kind < 9223372036854775808) (w : World) :
    Calls Tryz.prog 8 #[.int .i64 many, .int .i64 size, .int .i64 kind] w fun e w' => e = .returned (.bool true) ∧ Below w.heap.size w w' := by
  obtain ⟨p, hp, hpk⟩ := and3 many
  obtain ⟨n, hn⟩ : ∃ n, n = 4094 + p := ⟨_, rfl⟩
  obtain ⟨q, hq, hqk⟩ := and7 size
  obtain ⟨m, hm⟩ : ∃ m, m = 60 + q := ⟨_, rfl⟩
  obtain ⟨r, hr, hrk⟩ := and7 kind
  obtain ⟨c4, hc4⟩ : ∃ c4, c4 = 4 + r := ⟨_, rfl⟩
  obtain ⟨t, ht, htk⟩ := and7 (wrap64 (-kind))
  have HA1 := Lib.hid (And.intro hpk (And.intro (li_sum 4094 p n (by omega) (by omega) (by omega)) (li_sum2 4094 p n (by omega) (by omega))))
  have HA2 := Lib.hid (And.intro hqk (And.intro (li_sum 60 q m (by omega) (by omega) (by omega)) (li_sum2 60 q m (by omega) (by omega))))
  have HA3 := Lib.hid (And.intro hrk (And.intro (li_sum 4 r c4 (by omega) (by omega) (by omega)) (li_sum2 4 r c4 (by omega) (by omega))))
  have HA4 := Lib.hid htk
  have hx1 : (ByteArray.mk (List.replicate m (120 : UInt8)).toArray).size = m := by show (List.replicate m (120 : UInt8)).toArray.size = m; simp
  have f1 : Fine (List.replicate n zeroV) := fun v hv => by rw [(List.mem_replicate.1 hv).2]; exact ⟨⟨by decide, by decide⟩, Nat.zero_le _⟩
  have T1 : Hid (∀ (u : World) (a : Option Addr) (c : Nat), IsV u a (List.replicate n zeroV) → Calls Tryz.prog 14 #[.int .i64 2, .slice a n c] u fun e w' => ∃ S, e = .returned (.tuple #[.string S, .int .i64 (if n ≤ 4096 then 0 else 901)]) ∧ Below u.heap.size u w') := fun u a c h => by
    have T := vecput_any u 2 a c _ h (by rw [List.length_replicate]; omega) f1
    rw [li_put2, List.length_replicate] at T
    exact T.mono fun e w' h => ⟨_, h.1, h.2⟩
  have T2 : Hid (∀ (u : World) (a : Option Addr) (c : Nat), IsV u a [⟨3, 0, false, ⟨(List.replicate m 120).toArray⟩⟩] → Calls Tryz.prog 14 #[.int .i64 3, .slice a 1 c] u fun e w' => ∃ S, e = .returned (.tuple #[.string S, .int .i64 (if m ≤ 64 then 0 else 901)]) ∧ Below u.heap.size u w') := fun u a c h => by
    have T := vecput_any u 3 a c _ h (by simp) (fine_one (show (-9223372036854775808 : Int) ≤ 0 by decide) (show (0 : Int) ≤ 9223372036854775807 by decide) (by show (ByteArray.mk (List.replicate m (120 : UInt8)).toArray).size ≤ _; omega))
    rw [li_put3 m (by omega)] at T
    exact T.mono fun e w' h => ⟨_, h.1, h.2⟩
  have T3 : Hid (∀ (u : World) (a : Option Addr) (c : Nat), IsV u a [⟨3, 0, false, ⟨#[255]⟩⟩] → Calls Tryz.prog 14 #[.int .i64 3, .slice a 1 c] u fun e w' => ∃ S, e = .returned (.tuple #[.string S, .int .i64 901]) ∧ Below u.heap.size u w') := fun u a c h => by
    have T := vecput_any u 3 a c _ h (by decide) (fine_one (by decide) (by decide) (by decide))
    rw [li_bad _ rfl] at T
    exact T.mono fun e w' h => ⟨_, h.1, h.2⟩
  have T4 : Hid (∀ (u : World), Calls Tryz.prog 14 #[.int .i64 (c4 : Int), .slice none 0 0] u fun e w' => ∃ S, e = .returned (.tuple #[.string S, .int .i64 900]) ∧ Below u.heap.size u w') := fun u => by
    have T := vecput_any u (c4 : Int) none 0 [] (.inl rfl) (by decide) (fun v hv => by simp at hv)
    rw [li_kind c4 (by omega)] at T
    exact T.mono fun e w' h => ⟨_, h.1, h.2⟩
  have T5 : Hid (∀ (u : World), Calls Tryz.prog 23 #[.int .i64 (t : Int), .string ⟨#[]⟩] u fun e w' => ∃ a l c E, e = .returned (.tuple #[.slice a l c, .int .i64 E]) ∧ E ≠ 0 ∧ Below u.heap.size u w') := fun u => by
    have T := vecget_any u (t : Int) ⟨#[]⟩ (by decide)
    exact T.mono fun e w' ⟨a, c, h1, h2, h3⟩ => ⟨a, _, c, _, h1, li_get _, h3⟩
  have T6 : Hid (∀ (u : World) (a : Option Addr) (c : Nat), IsV u a [⟨2, 0, false, ⟨#[]⟩⟩] → Calls Tryz.prog 14 #[.int .i64 1, .slice a 1 c] u fun e w' => ∃ S, e = .returned (.tuple #[.string S, .int .i64 901]) ∧ Below u.heap.size u w') := fun u a c h => by
    have T := vecput_any u 1 a c _ h (by decide) (fine_one (by decide) (by decide) (by decide))
    rw [li_mix] at T
    exact T.mono fun e w' h => ⟨_, h.1, h.2⟩
  have T0 := Lib.hid vecawake_any
  have D1 : Hid (((if n ≤ 4096 then 0 else 901 : Int) == 0) = decide ((n : Int) ≤ 4096)) := by
    unfold Hid; by_cases h : n ≤ 4096
    · rw [if_pos h, decide_eq_true (by omega)]; rfl
    · rw [if_neg h, decide_eq_false (by omega)]; rfl
  have D2 : Hid (((if m ≤ 64 then 0 else 901 : Int) == 0) = decide ((m : Int) ≤ 64)) := by
    unfold Hid; by_cases h : m ≤ 64
    · rw [if_pos h, decide_eq_true (by omega)]; rfl
    · rw [if_neg h, decide_eq_false (by omega)]; rfl
  generalize (if n ≤ 4096 then 0 else 901 : Int) = e1 at *
  generalize (if m ≤ 64 then 0 else 901 : Int) = e2 at *
  obtain ⟨X, HX⟩ : ∃ X, Hid (ByteArray.mk (List.replicate m (120 : UInt8)).toArray = X) := ⟨_, rfl⟩
  rw [HX.out] at T2
  have HNM := Lib.hid (show n ≤ 4097 ∧ m ≤ 67 by omega)
  have HB : Hid (Below w.heap.size w w) := Below.refl _ _
  clear f1 hx1 hpk hqk hrk htk hn hm hc4 hp hq hr ht
  go_enter Tryz.func8, Tryz.ntmps8
  go_upto_region 3 with (go_at_call 21; refine (T0.out _).mono ?_; rintro e w1 ⟨rfl, hb⟩; replace HB := Lib.hid (HB.out.trans (hb.mono HB.out.size)); clear hb)
  obtain ⟨ha, hb2, hb3⟩ := HA1.out
  go_upto_region 4 with fail
  clear ha hb2 hb3
  obtain ⟨C, hmks, hown⟩ := made_vals_own w1 n (by have := HNM.out; omega)
  have HI := Lib.hid hown.isV
  replace HB : Hid (Below w.heap.size w (w1.alloc (.cells C 24))) := HB.out.alloc HB.out.size _
  clear hown
  go_upto_region 5 with (go_at_call 14; refine (T1.out _ _ _ HI.out).mono ?_; rintro e w2 ⟨S1, rfl, hb⟩; replace HB := Lib.hid (HB.out.trans (hb.mono HB.out.size)); clear hb)
  clear hmks HI
  obtain ⟨ha, hb2, hb3⟩ := HA2.out
  go_upto_region 6 with fail
  clear ha hb2 hb3
  have hmkb := make_bytes 0 w2 m (by have := HNM.out; omega)
  go_upto_region 7 with fail
  have HO0 : Hid (World.ownsRow (w2.alloc (.cells (rowB m (0 % 2 ^ 0)) 5)) w2.heap.size 5 1 (.slice (some ⟨w2.heap.size, 0, none⟩) m m) m (byteCells (exL m 0))) := by
    have hl := bytesN_length m 0
    have e0 : exL m 0 = bytesN m 0 := by unfold exL; simp
    rw [e0]
    refine ⟨by rw [byteCells_length, hl, Nat.mul_one], .inr ⟨w2.heap.size, m, _, rfl, Nat.le_refl _, heap_alloc_new w2 _, Nat.le_refl _, by have := HNM.out; simp only [maxLen]; omega, by rw [rowB_size, Nat.mul_one], ?_⟩⟩
    rw [Nat.mul_one]
    show (byteCells (bytesN m 0)).take m = _
    rw [List.take_of_length_le (by rw [byteCells_length, hl]; exact Nat.le_refl _)]
  have HB3 : Hid (Below w.heap.size w (w2.alloc (.cells (rowB m (0 % 2 ^ 0)) 5))) := HB.out.alloc HB.out.size _
  obtain ⟨g, hg⟩ : ∃ g, g = w2.heap.size := ⟨_, rfl⟩
  have HG : Hid (w.heap.size ≤ g) := by rw [hg]; exact HB.out.size
  rw [← hg] at HO0 ⊢
  clear hg hmkb HB
  generalize w2.alloc (.cells (rowB m (0 % 2 ^ 0)) 5) = w3 at *
  go_wp2
  go_loopw [12] (fun iv wr => ∃ j : Nat, j ≤ m ∧ iv = .int .i64 j ∧ Hid (World.ownsRow wr g 5 1 (.slice (some ⟨g, 0, none⟩) m m) m (byteCells (exL m j))) ∧ Hid (Below w.heap.size w wr)) (fun iv _ => m - (intOf iv).toNat)
  case atStart => exact ⟨0, Nat.zero_le _, rfl, HO0, HB3⟩
  case round =>
    obtain ⟨j, hj, rfl, HC, HB⟩ := hrel
    by_cases c : j < m
    · have hlj : j < (exL m j).length := by rw [exL_len m j hj]; exact c
      have hcell := (World.ownsRow.cellAt HC.out j (by omega)).trans (show (byteCells (exL m j))[j]? = some (.int .u8 ((exL m j)[j].toNat : Int)) by unfold byteCells; rw [List.getElem?_map, List.getElem?_eq_getElem hlj]; rfl)
      have hfz := World.ownsRow.frozenAt HC.out j
      have hst := (World.ownsRow.stored HC.out j (.int .u8 120)).1
      rw [ex_cells, exL_next m j c] at hst
      have HST := Lib.hid hst
      have HBS := Lib.hid (HB.out.setCell (p := ⟨g, j, none⟩) HG.out (.int .u8 120))
      have hci : (j : Int) < (m : Int) := by omega
      have hmm : m ≤ 67 := HNM.out.2
      clear hst
      go_wp2
      go_roundw
      case rel => exact ⟨j + 1, c, by go_num, HST, HBS⟩
      case measure => simp [intOf]; omega
    obtain rfl : j = m := by omega
    have ho := HC.out
    rw [exL_all] at ho
    have hcv := own_text (l := List.replicate j 120) (by rw [List.length_replicate]; exact ho)
    rw [HX.out] at hcv
    clear ho c
    go_upto_region 12 with (go_at_call 14; refine (T2.out _ _ _ (isv_new wr [⟨3, 0, false, X⟩] _ rfl)).mono ?_; rintro e w5 ⟨S2, rfl, hb⟩; replace HB := Lib.hid ((HB.out.alloc HB.out.size _).trans (hb.mono (HB.out.alloc HB.out.size _).size)); clear hb)
    clear hcv HC
    go_upto_region 13 with (go_at_call 14; refine (T3.out _ _ _ (isv_new w5 [⟨3, 0, false, ⟨#[255]⟩⟩] _ rfl)).mono ?_; rintro e w6 ⟨S3, rfl, hb⟩; replace HB := Lib.hid ((HB.out.alloc HB.out.size _).trans (hb.mono (HB.out.alloc HB.out.size _).size)); clear hb)
    obtain ⟨ha, hb2, hb3⟩ := HA3.out
    go_upto_region 14 with (go_at_call 14; refine (T4.out _).mono ?_; rintro e w7 ⟨S4, rfl, hb⟩; replace HB := Lib.hid (HB.out.trans (hb.mono HB.out.size)); clear hb)
    clear ha hb2 hb3
    have ha := HA4.out
    go_upto_region 15 with (go_at_call 23; refine (T5.out _).mono ?_; rintro e w8 ⟨a5, l5, c5, E5, rfl, hE, hb⟩; replace HB := Lib.hid (HB.out.trans (hb.mono HB.out.size)); have HE := Lib.hid hE; clear hb hE)
    clear ha
    go_upto_region 16 with (go_at_call 14; refine (T6.out _ _ _ (isv_new w8 [⟨2, 0, false, ⟨#[]⟩⟩] _ rfl)).mono ?_; rintro e w9 ⟨S6, rfl, hb⟩; replace HB := Lib.hid ((HB.out.alloc HB.out.size _).trans (hb.mono (HB.out.alloc HB.out.size _).size)); clear hb)
    have d1 := D1.out
    have d2 := D2.out
    have d5 : (E5 != 0) = true := by simpa using HE.out
    have d6 : (E5 == 0) = false := by simpa using HE.out
    clear T0 T1 T2 T3 T4 T5 T6
    go_wp2_with (go_at_call 17; refine (num_any _ _).mono ?_; rintro e w' ⟨rfl, rfl⟩)
    go_ret
    exact ⟨rfl, HB.out⟩
end Go.Proofs.YtfbmlefhjoblbaaGreat
