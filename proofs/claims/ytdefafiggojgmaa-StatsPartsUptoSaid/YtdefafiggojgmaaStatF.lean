/- The program's Of and Join. -/
import Derived.Test.YtdefafiggojgmaaStatQ
namespace Go.Proofs.Ytdefafiggojgmaa
open Go.Conc Go.RowKit
set_option linter.unusedVariables false
set_option linter.unusedSimpArgs false

/-- What is there behind some values. -/
def stA (c : Int) (vs : List V) : S := ⟨c, nullsA vs, leastA vs, mostA vs⟩
theorem own_st (c : Int) (vs : List V) : ownS (stA c vs) = ofA c vs := rfl
theorem own_tog (a b : S) : ownS (putTog a b) = joinS a b := rfl
theorem st_snoc (c : Int) (vs : List V) (v : V) (h : vs.length < 9223372036854775807) : putTog (stA c vs) (singleS v) = stA c (vs ++ [v]) := by
  have h1 := nullsA_le vs
  unfold putTog stA singleS
  rw [leastA_snoc, mostA_snoc, nullsA_snoc]
  by_cases k : kindV v = 0
  · rw [if_pos k, if_pos k, bnd_null k]
    simp only
    rw [show wrap64 ((nullsA vs : Int) + 1) = ((nullsA vs + 1 : Nat) : Int) by unfold wrap64; omega]
  · rw [if_neg k, if_neg k, bnd_some k]
    simp only
    rw [show wrap64 ((nullsA vs : Int) + 0) = (nullsA vs : Int) by unfold wrap64; omega]
set_option maxRecDepth 100000 in
set_option maxHeartbeats 2000000 in
theorem statjoin_any (a b : S) (ha : a.lo.s.size ≤ 140737488351232 ∧ a.hi.s.size ≤ 140737488351232) (hb : b.lo.s.size ≤ 140737488351232 ∧ b.hi.s.size ≤ 140737488351232) (w : World) : Calls Try.prog 9 #[.agg #[.int .i64 a.c, .int .i64 a.n, .int .i64 a.lo.k, .int .i64 a.lo.i, .bool a.lo.b, .string a.lo.s, .int .i64 a.hi.k, .int .i64 a.hi.i, .bool a.hi.b, .string a.hi.s], .agg #[.int .i64 b.c, .int .i64 b.n, .int .i64 b.lo.k, .int .i64 b.lo.i, .bool b.lo.b, .string b.lo.s, .int .i64 b.hi.k, .int .i64 b.hi.i, .bool b.hi.b, .string b.hi.s]] w fun e w' => e = .returned (.agg #[.int .i64 (joinS a b).c, .int .i64 (joinS a b).n, .int .i64 (joinS a b).lo.k, .int .i64 (joinS a b).lo.i, .bool (joinS a b).lo.b, .string (joinS a b).lo.s, .int .i64 (joinS a b).hi.k, .int .i64 (joinS a b).hi.i, .bool (joinS a b).hi.b, .string (joinS a b).hi.s]) ∧ Below w.heap.size w w' := by
  have T1 := Lib.hid (fun u => joined_any a b u)
  have T2 := Lib.hid (fun u => owned_any (putTog a b) (Nat.le_trans (lessA_size ha.1 hb.1) (by omega)) (Nat.le_trans (moreA_size ha.2 hb.2) (by omega)) u)
  rw [own_tog] at T2
  clear ha hb
  generalize putTog a b = x at *
  generalize joinS a b = y at *
  obtain ⟨u, hu⟩ : ∃ u, u = (((w.alloc (.cells #[.int .i64 a.c, .int .i64 a.n, .int .i64 a.lo.k, .int .i64 a.lo.i, .bool a.lo.b, .string a.lo.s, .int .i64 a.hi.k, .int .i64 a.hi.i, .bool a.hi.b, .string a.hi.s] 26)).alloc (.cells #[.int .i64 b.c, .int .i64 b.n, .int .i64 b.lo.k, .int .i64 b.lo.i, .bool b.lo.b, .string b.lo.s, .int .i64 b.hi.k, .int .i64 b.hi.i, .bool b.hi.b, .string b.hi.s] 26)).alloc (.cells #[.int .i64 0, .int .i64 0, .int .i64 0, .int .i64 0, .bool false, .string ⟨#[]⟩, .int .i64 0, .int .i64 0, .bool false, .string ⟨#[]⟩] 26)) := ⟨_, rfl⟩
  have hsa : SSlot u w.heap.size a := by rw [hu]; exact ((SSlot.new w a).alloc _).alloc _
  have hsb : SSlot u (w.heap.size + 1) b := by
    have := (SSlot.new (w.alloc (.cells #[.int .i64 a.c, .int .i64 a.n, .int .i64 a.lo.k, .int .i64 a.lo.i, .bool a.lo.b, .string a.lo.s, .int .i64 a.hi.k, .int .i64 a.hi.i, .bool a.hi.b, .string a.hi.s] 26)) b).alloc (.cells #[.int .i64 0, .int .i64 0, .int .i64 0, .int .i64 0, .bool false, .string ⟨#[]⟩, .int .i64 0, .int .i64 0, .bool false, .string ⟨#[]⟩] 26)
    rw [show (w.alloc (.cells #[.int .i64 a.c, .int .i64 a.n, .int .i64 a.lo.k, .int .i64 a.lo.i, .bool a.lo.b, .string a.lo.s, .int .i64 a.hi.k, .int .i64 a.hi.i, .bool a.hi.b, .string a.hi.s] 26)).heap.size = w.heap.size + 1 by simp] at this
    rw [hu]; exact this
  have hsz : SSlot u (w.heap.size + 2) zeroS := by
    have := SSlot.new ((w.alloc (.cells #[.int .i64 a.c, .int .i64 a.n, .int .i64 a.lo.k, .int .i64 a.lo.i, .bool a.lo.b, .string a.lo.s, .int .i64 a.hi.k, .int .i64 a.hi.i, .bool a.hi.b, .string a.hi.s] 26)).alloc (.cells #[.int .i64 b.c, .int .i64 b.n, .int .i64 b.lo.k, .int .i64 b.lo.i, .bool b.lo.b, .string b.lo.s, .int .i64 b.hi.k, .int .i64 b.hi.i, .bool b.hi.b, .string b.hi.s] 26)) zeroS
    rw [show ((w.alloc (.cells #[.int .i64 a.c, .int .i64 a.n, .int .i64 a.lo.k, .int .i64 a.lo.i, .bool a.lo.b, .string a.lo.s, .int .i64 a.hi.k, .int .i64 a.hi.i, .bool a.hi.b, .string a.hi.s] 26)).alloc (.cells #[.int .i64 b.c, .int .i64 b.n, .int .i64 b.lo.k, .int .i64 b.lo.i, .bool b.lo.b, .string b.lo.s, .int .i64 b.hi.k, .int .i64 b.hi.i, .bool b.hi.b, .string b.hi.s] 26)).heap.size = w.heap.size + 2 by simp] at this
    rw [hu]; exact this
  have hb0 : Below w.heap.size w u := by rw [hu]; exact ((((Below.refl _ _).alloc (Nat.le_refl _) _).alloc (by simp) _).alloc (by simp; omega) _)
  have HSZ := Lib.hid hsz
  have HB0 := Lib.hid hb0
  clear hsz hb0
  go_enter Try.func9, Try.ntmps9
  go_upto_region 1 with fail
  rw [← hu]
  clear hu
  obtain ⟨⟨z0, z1, z2, z3, z4, z5, z6, z7, z8, z9⟩, _⟩ := hsa.at
  obtain ⟨⟨x0, x1, x2, x3, x4, x5, x6, x7, x8, x9⟩, _⟩ := hsb.at
  clear hsa hsb
  go_wp2_with (first
    | (go_at_call 17; refine (T1.out _).mono ?_; rintro e w1 ⟨rfl, hb⟩; replace HSZ := Lib.hid (HSZ.out.below hb); replace HB0 := Lib.hid (HB0.out.trans (hb.mono HB0.out.size)); clear hb T1 z0 z1 z2 z3 z4 z5 z6 z7 z8 z9 x0 x1 x2 x3 x4 x5 x6 x7 x8 x9)
    | (go_at_call 19; refine (T2.out _).mono ?_; rintro e w2 ⟨rfl, hb⟩; replace HSZ := Lib.hid (HSZ.out.below hb); replace HB0 := Lib.hid (HB0.out.trans (hb.mono HB0.out.size)); clear hb T2; obtain ⟨⟨z0, z1, z2, z3, z4, z5, z6, z7, z8, z9⟩, _⟩ := HSZ.out.at; obtain ⟨y0, y1, y2, y3, y4, y5, y6, y7, y8, y9⟩ := HSZ.out.froz))
  change bodyPost _ _ _ _ _ (putS w2 (w.heap.size + 2) y)
  have hp := HSZ.out.put y
  have hb := putS_below (s := y) HB0.out (Nat.le_add_right w.heap.size 2)
  generalize putS w2 (w.heap.size + 2) y = w4 at *
  clear z0 z1 z2 z3 z4 z5 z6 z7 z8 z9 y0 y1 y2 y3 y4 y5 y6 y7 y8 y9
  obtain ⟨⟨z0, z1, z2, z3, z4, z5, z6, z7, z8, z9⟩, _⟩ := hp.at
  refine bodyPost_ret (v := .agg #[.int .i64 y.c, .int .i64 y.n, .int .i64 y.lo.k, .int .i64 y.lo.i, .bool y.lo.b, .string y.lo.s, .int .i64 y.hi.k, .int .i64 y.hi.i, .bool y.hi.b, .string y.hi.s]) (by simp [results, Try.results9, go_sem, z0, z1, z2, z3, z4, z5, z6, z7, z8, z9]) rfl ?_
  exact ⟨rfl, hb⟩

set_option maxRecDepth 100000 in
set_option maxHeartbeats 4000000 in
theorem statof_any (c : Int) (ad : Option Addr) (cap : Nat) (vs : List V) (w : World) (h0 : IsV w ad vs) (hn : vs.length ≤ 140737488355328) (hs : ∀ v ∈ vs, v.s.size ≤ 140737488351232) : Calls Try.prog 7 #[.int .i64 c, .slice ad vs.length cap] w fun e w' => e = .returned (.agg #[.int .i64 (ofA c vs).c, .int .i64 (ofA c vs).n, .int .i64 (ofA c vs).lo.k, .int .i64 (ofA c vs).lo.i, .bool (ofA c vs).lo.b, .string (ofA c vs).lo.s, .int .i64 (ofA c vs).hi.k, .int .i64 (ofA c vs).hi.i, .bool (ofA c vs).hi.b, .string (ofA c vs).hi.s]) ∧ Below w.heap.size w w' := by
  have T1 := Lib.hid single_any
  have T2 := Lib.hid joined_any
  have T3 := Lib.hid (fun u => owned_any (stA c vs) (Nat.le_trans (least_size vs hs) (by omega)) (Nat.le_trans (most_size vs hs) (by omega)) u)
  rw [own_st] at T3
  generalize ofA c vs = R at *
  have HV := Lib.hid h0
  have HS := Lib.hid hs
  clear h0 hs
  obtain ⟨u, hu⟩ : ∃ u, u = ((w.alloc (.cells #[.int .i64 0, .int .i64 0, .int .i64 0, .int .i64 0, .bool false, .string ⟨#[]⟩, .int .i64 0, .int .i64 0, .bool false, .string ⟨#[]⟩] 26)).alloc (.cells #[.int .i64 c, .int .i64 0, .int .i64 0, .int .i64 0, .bool false, .string ⟨#[]⟩, .int .i64 0, .int .i64 0, .bool false, .string ⟨#[]⟩] 26)) := ⟨_, rfl⟩
  have hsz : SSlot u w.heap.size zeroS := by rw [hu]; exact (SSlot.new w zeroS).alloc _
  have hsa : SSlot u (w.heap.size + 1) (stA c []) := by
    have := SSlot.new (w.alloc (.cells #[.int .i64 0, .int .i64 0, .int .i64 0, .int .i64 0, .bool false, .string ⟨#[]⟩, .int .i64 0, .int .i64 0, .bool false, .string ⟨#[]⟩] 26)) (stA c [])
    rw [show (w.alloc (.cells #[.int .i64 0, .int .i64 0, .int .i64 0, .int .i64 0, .bool false, .string ⟨#[]⟩, .int .i64 0, .int .i64 0, .bool false, .string ⟨#[]⟩] 26)).heap.size = w.heap.size + 1 by simp] at this
    rw [hu]; exact this
  have hb0 : Below w.heap.size w u := by rw [hu]; exact (((Below.refl _ _).alloc (Nat.le_refl _) _).alloc (by simp) _)
  have HSA := Lib.hid hsa
  have HSZ := Lib.hid hsz
  have HB0 := Lib.hid hb0
  clear hsa hsz hb0
  go_enter Try.func7, Try.ntmps7
  go_upto_region 2 with fail
  rw [← hu]
  clear hu
  go_wp2
  go_loopw [12] (fun iv wr => ∃ n : Nat, n ≤ vs.length ∧ iv = .int .i64 n ∧ Hid (SSlot wr (w.heap.size + 1) (stA c (vs.take n))) ∧ Hid (SSlot wr w.heap.size zeroS) ∧ Hid (Below w.heap.size w wr)) (fun iv _ => vs.length - (intOf iv).toNat)
  case atStart => exact ⟨0, Nat.zero_le _, rfl, HSA, HSZ, HB0⟩
  case round =>
    obtain ⟨n, hle, rfl, HA, HZ, HB⟩ := hrel
    clear HSA HSZ HB0
    by_cases cn : n < vs.length
    · have h1 := HV.out
      rcases h1 with h1 | ⟨b, off, rfl, h1⟩
      · subst h1; simp at cn
      have h2 := (h1 n cn).below HB.out
      have hx : putTog (stA c (vs.take n)) (singleS vs[n]) = stA c (vs.take (n + 1)) := by
        rw [st_snoc _ _ _ (by rw [List.length_take]; omega), List.take_append_getElem cn]
      have HX := Lib.hid hx
      have HHV := Lib.hid h1
      clear hx h1
      generalize vs[n] = v at *
      generalize stA c (vs.take n) = s0 at *
      obtain ⟨p0, p1, p2, p3⟩ := h2
      have hni : (n : Int) < (vs.length : Int) := by omega
      go_upto_region 5 with fail
      obtain ⟨u5, hu5⟩ : ∃ u5, u5 = wr.alloc (.cells #[.int .i64 v.k, .int .i64 v.i, .bool v.b, .string v.s] 24) := ⟨_, rfl⟩
      rw [← hu5]
      have hsv : Slot u5 wr.heap.size v := by rw [hu5]; exact Slot.new wr v
      have hsa5 : SSlot u5 (w.heap.size + 1) s0 := by rw [hu5]; exact HA.out.alloc _
      have hsz5 : SSlot u5 w.heap.size zeroS := by rw [hu5]; exact HZ.out.alloc _
      have hb5 : Below w.heap.size w u5 := by rw [hu5]; exact HB.out.alloc HB.out.size _
      have HSV5 := Lib.hid hsv
      have HSA5 := Lib.hid hsa5
      have HSZ5 := Lib.hid hsz5
      have HB5 := Lib.hid hb5
      clear hsv hsa5 hsz5 hb5 hu5 HA HZ HB p0 p1 p2 p3
      generalize wr.heap.size = gv at *
      refine region_class_tail (fun w' => Below u5.heap.size u5 w') 4 (by kernel_rfl) (by kernel_rfl) (Below.refl _ _).drew ?_
      simp only [List.take_succ_cons, List.take_zero, List.drop_succ_cons, List.drop_zero]
      repeat (
        refine wpQuiet_step (fun K hK => ?_)
        go_simp
        first
        | (refine hK _ ?_; clear hK K)
        | (apply Exists.intro
           refine ⟨fun w1 hw1 => ?_, hK _ ?_⟩
           (first
             | (exact rfl)
             | (go_at_call 18; exact (T1.out _ _).mono fun e w2 ⟨he, hb⟩ => ⟨he, hw1.trans (hb.mono hw1.size)⟩)
             | (go_at_call 17; exact (T2.out _ _ _).mono fun e w2 ⟨he, hb⟩ => ⟨he, hw1.trans (hb.mono hw1.size)⟩)
             | (obtain ⟨⟨z0, z1, z2, z3, z4, z5, z6, z7, z8, z9⟩, _⟩ := (HSA5.out.below hw1).at; simp only [z0, z1, z2, z3, z4, z5, z6, z7, z8, z9, Result.andThen]; exact ⟨trivial, rfl⟩)
             | (obtain ⟨⟨z0, z1, z2, z3⟩, _⟩ := (HSV5.out.below hw1).at; simp only [z0, z1, z2, z3, Result.andThen]; exact ⟨trivial, rfl⟩)
             | (exact ⟨trivial, rfl⟩))
           clear hK K))
      refine wpQuiet_nil ?_
      intro w1 hw1
      have ha1 := HSA5.out.below hw1
      have hz1 := HSZ5.out.below hw1
      have hb1 := HB5.out.trans (hw1.mono HB5.out.size)
      clear HSA5 HSZ5 HB5 HSV5 hw1
      have HA1 := Lib.hid ha1
      have HZ1 := Lib.hid hz1
      have HB1 := Lib.hid hb1
      obtain ⟨⟨z0, z1, z2, z3, z4, z5, z6, z7, z8, z9⟩, _⟩ := ha1.at
      obtain ⟨y0, y1, y2, y3, y4, y5, y6, y7, y8, y9⟩ := ha1.froz
      clear ha1 hz1 hb1
      go_upto_region 6 with fail
      change Code.wp _ _ _ _ (putS w1 (w.heap.size + 1) (putTog s0 (singleS v)))
      have hp := HA1.out.put (putTog s0 (singleS v))
      have hz := HZ1.out.frm (putS_frm w1 (w.heap.size + 1) (putTog s0 (singleS v))) (by omega)
      have hb := putS_below (s := putTog s0 (singleS v)) HB1.out (Nat.le_add_right w.heap.size 1)
      generalize putS w1 (w.heap.size + 1) (putTog s0 (singleS v)) = w2 at *
      rw [HX.out] at hp
      have HP := Lib.hid hp
      have HZ2 := Lib.hid hz
      have HB2 := Lib.hid hb
      clear hp hz hb z0 z1 z2 z3 z4 z5 z6 z7 z8 z9 y0 y1 y2 y3 y4 y5 y6 y7 y8 y9 HA1 HZ1 HB1
      go_wp2
      go_roundw
      case rel => exact ⟨n + 1, by omega, by go_num, HP, HZ2, HB2⟩
      case measure => simp [intOf]; omega
    · obtain rfl : n = vs.length := by omega
      rw [List.take_length] at HA
      generalize stA c vs = s0 at *
      obtain ⟨⟨z0, z1, z2, z3, z4, z5, z6, z7, z8, z9⟩, _⟩ := HA.out.at
      go_wp2_with (go_at_call 19; refine (T3.out _).mono ?_; rintro e w2 ⟨rfl, hb⟩; replace HZ := Lib.hid (HZ.out.below hb); replace HB := Lib.hid (HB.out.trans (hb.mono HB.out.size)); clear hb z0 z1 z2 z3 z4 z5 z6 z7 z8 z9; obtain ⟨⟨z0, z1, z2, z3, z4, z5, z6, z7, z8, z9⟩, _⟩ := HZ.out.at; obtain ⟨y0, y1, y2, y3, y4, y5, y6, y7, y8, y9⟩ := HZ.out.froz)
      change bodyPost _ _ _ _ _ (putS w2 w.heap.size R)
      have hp := HZ.out.put R
      have hb := putS_below (s := R) HB.out (Nat.le_refl w.heap.size)
      generalize putS w2 w.heap.size R = w4 at *
      clear z0 z1 z2 z3 z4 z5 z6 z7 z8 z9 y0 y1 y2 y3 y4 y5 y6 y7 y8 y9
      obtain ⟨⟨z0, z1, z2, z3, z4, z5, z6, z7, z8, z9⟩, _⟩ := hp.at
      refine bodyPost_ret (v := .agg #[.int .i64 R.c, .int .i64 R.n, .int .i64 R.lo.k, .int .i64 R.lo.i, .bool R.lo.b, .string R.lo.s, .int .i64 R.hi.k, .int .i64 R.hi.i, .bool R.hi.b, .string R.hi.s]) (by simp [results, Try.results7, go_sem, z0, z1, z2, z3, z4, z5, z6, z7, z8, z9]) rfl ?_
      exact ⟨rfl, hb⟩
end Go.Proofs.Ytdefafiggojgmaa
