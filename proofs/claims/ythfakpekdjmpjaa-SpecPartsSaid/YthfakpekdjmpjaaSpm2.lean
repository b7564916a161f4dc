/- The program's IsNull. The program's IsOf: whether a column of a kind may hold a value. The program's specs: a column's place by its Id; whether a field is like one of others. The program's specs: whether a field is like one of others. The program's specs: whether a spec of a schema may hold a field. The document's specs: a column's place by its Id. Specs, plainly: which may be, which rows may be, what a row's part is. No program is spoken of. -/
import Derived.Test.YthfakpekdjmpjaaVProg
import Derived.Test.YthfakpekdjmpjaaSchB
import Derived.Test.YthfakpekdjmpjaaSpcB
import Derived.Test.YthfakpekdjmpjaaQe
import Derived.BigQuiet
namespace Go.Proofs.Ythfakpekdjmpjaa
open Go.Conc Go.RowKit
set_option linter.unusedVariables false
set_option linter.unusedSimpArgs false

set_option maxRecDepth 100000 in
theorem isnull_any (v : V) (w : World) : Calls Try.prog 95 #[.agg #[.int .i64 v.k, .int .i64 v.i, .bool v.b, .string v.s]] w fun e w' => e = .returned (.bool (decide (plainV v = zeroV))) ∧ Below w.heap.size w w' := by
  have T := Lib.hid (fun u => plain_any v u)
  generalize plainV v = p at *
  have hq : ∀ w, (binOp .eql 57 (.agg #[.int .i64 p.k, .int .i64 p.i, .bool p.b, .string p.s]) (.agg #[.int .i64 0, .int .i64 0, .bool false, .string ⟨#[]⟩])).run Try.prog w = .ok (.bool (decide (p = zeroV))) w := run_eql_val p zeroV
  have HB0 := Lib.hid (show Below w.heap.size w (w.alloc (.cells #[.int .i64 v.k, .int .i64 v.i, .bool v.b, .string v.s] 57)) from (Below.refl _ _).alloc (Nat.le_refl _) _)
  go_enter Try.func95, Try.ntmps95
  go_wp2_with (go_at_call 94; refine (T.out _).mono ?_; rintro e w1 ⟨rfl, hb⟩; have HB := Lib.hid (HB0.out.trans (hb.mono HB0.out.size)); clear hb)
  go_ret
  exact ⟨rfl, HB.out⟩
end Go.Proofs.Ythfakpekdjmpjaa

namespace Go.Proofs.Ythfakpekdjmpjaa
open Go.Conc Go.RowKit
set_option linter.unusedVariables false
set_option linter.unusedSimpArgs false

/-- A value may stand in a column of a kind: null, or one of it. -/
def isOf (v : V) (k : Int) : Bool := decide (plainV v = zeroV) || decide (v.k = k)
set_option maxRecDepth 100000 in
theorem isof_any (v : V) (k : Int) (w : World) : Calls Try.prog 105 #[.agg #[.int .i64 v.k, .int .i64 v.i, .bool v.b, .string v.s], .int .i64 k] w fun e w' => e = .returned (.bool (isOf v k)) ∧ Below w.heap.size w w' := by
  have T := Lib.hid (fun u => isnull_any v u)
  have hs0 := Slot.new w v
  have hb0 : Below w.heap.size w (w.alloc (.cells #[.int .i64 v.k, .int .i64 v.i, .bool v.b, .string v.s] 57)) := (Below.refl _ _).alloc (Nat.le_refl _) _
  have he : (v.k == k) = decide (v.k = k) := by rw [Bool.eq_iff_iff, decide_eq_true_eq, beq_iff_eq]
  unfold isOf
  generalize decide (plainV v = zeroV) = N at *
  obtain ⟨S, hS⟩ : ∃ S, S = decide (v.k = k) := ⟨_, rfl⟩
  rw [← hS] at he ⊢
  clear hS
  obtain ⟨u, hu⟩ : ∃ u, u = (w.alloc (.cells #[.int .i64 v.k, .int .i64 v.i, .bool v.b, .string v.s] 57)) := ⟨_, rfl⟩
  rw [← hu] at hs0 hb0
  have HS := Lib.hid hs0
  have HB := Lib.hid hb0
  obtain ⟨⟨c0, c1, c2, c3⟩, _⟩ := hs0.at
  clear hb0 hs0
  cases N <;> (
    go_enter Try.func105, Try.ntmps105
    go_upto_region 1 with fail
    rw [← hu]
    clear hu
    go_wp2_with (go_at_call 95; refine (T.out _).mono ?_; rintro e w1 ⟨rfl, hb⟩; obtain ⟨⟨z0, z1, z2, z3⟩, _⟩ := (HS.out.below hb).at; have HB1 := Lib.hid (HB.out.trans (hb.mono HB.out.size)); clear hb c0 c1 c2 c3)
    go_ret
    exact ⟨rfl, HB1.out⟩)
end Go.Proofs.Ythfakpekdjmpjaa

namespace Go.Proofs.Ythfakpekdjmpjaa
open Go.Conc Go.RowKit
set_option linter.unusedVariables false
set_option linter.unusedSimpArgs false

def placeA (cs : List Co) (id : Int) : Int := idxA (fun c => decide (c.id = id)) cs
set_option maxRecDepth 100000 in
theorem spplacec_any (o : Co) (nb : Nat) (id : Int) (w : World) (hp : w.cell? ⟨nb, 0, none⟩ = some (.int .i64 id)) :
    Calls Try.prog 113 #[.agg #[.int .i64 o.id, .string o.nm, .int .i64 o.kd], .pointer (some ⟨nb, 0, none⟩)] w fun e w' => e = .returned (.bool (decide (o.id = id))) ∧ Below w.heap.size w w' := by
  obtain ⟨u, hu⟩ : ∃ u, u = w.alloc (.cells #[.int .i64 o.id, .string o.nm, .int .i64 o.kd] 49) := ⟨_, rfl⟩
  have hc : CoAt u w.heap.size 0 o := by rw [hu]; exact CoAt.new w o
  have HB : Hid (Below w.heap.size w u) := by rw [hu]; exact (Below.refl _ _).alloc (Nat.le_refl _) _
  have hpu : u.cell? ⟨nb, 0, none⟩ = some (.int .i64 id) := (World.cell?_of_block (HB.out.block nb (World.block_lt_of_cell? w ⟨nb, 0, none⟩ hp))).trans hp
  obtain ⟨c0, c1, c2⟩ := hc
  have he : (o.id == id) = decide (o.id = id) := by rw [Bool.eq_iff_iff, decide_eq_true_eq, beq_iff_eq]
  obtain ⟨R, hR⟩ : ∃ R, R = decide (o.id = id) := ⟨_, rfl⟩
  rw [← hR] at he ⊢
  clear hR hp
  go_enter Try.func113, Try.ntmps113
  go_upto_region 1 with fail
  rw [← hu]
  clear hu
  go_wp2
  go_ret
  exact ⟨rfl, HB.out⟩
set_option maxRecDepth 100000 in
theorem index_place (nb : Nat) (id : Int) (w : World) (a : Option Addr) (cap : Nat) (cs : List Co) (ha : IsCo w a cs) (hl : cs.length ≤ maxLen) (hp : w.cell? ⟨nb, 0, none⟩ = some (.int .i64 id)) :
    Calls Try.prog 66 #[.slice a cs.length cap, .func (.func 113) #[] #[.pointer (some ⟨nb, 0, none⟩)]] w fun e w' => e = .returned (.int .i64 (idxA (fun c => decide (c.id = id)) cs)) ∧ Below w.heap.size w w' := by
  unfold maxLen at hl
  obtain ⟨R, hR⟩ : ∃ R, R = idxA (fun c => decide (c.id = id)) cs := ⟨_, rfl⟩
  rw [← hR]
  have HR := Lib.hid hR
  have HA := Lib.hid ha
  have HP := Lib.hid hp
  clear hR ha hp
  go_enter Try.func66, Try.ntmps66
  go_wp2
  go_loopw [8] (fun iv wr => ∃ n : Nat, n ≤ cs.length ∧ iv = .int .i64 n ∧ Hid (∀ k (hk : k < cs.length), k < n → (fun c => decide (c.id = id)) cs[k] = false) ∧ Hid (Below w.heap.size w wr)) (fun iv _ => cs.length - (intOf iv).toNat)
  case atStart => exact ⟨0, Nat.zero_le _, rfl, fun k _ hk => absurd hk (Nat.not_lt_zero k), Below.refl _ _⟩
  case round =>
    obtain ⟨n, hle, rfl, HN, HB⟩ := hrel
    by_cases cn : n < cs.length
    · rcases HA.out.below HB.out with e | ⟨b, off, rfl, hcc⟩
      · rw [e] at cn; simp at cn
      obtain ⟨p0, p1, p2⟩ := hcc n cn
      have T := Lib.hid (spplacec_any cs[n] nb id wr ((World.cell?_of_block (HB.out.block nb (World.block_lt_of_cell? w ⟨nb, 0, none⟩ HP.out))).trans HP.out))
      have hni : (n : Int) < (cs.length : Int) := by omega
      obtain ⟨S, hS⟩ : ∃ S, S = (fun c => decide (c.id = id)) cs[n] := ⟨_, rfl⟩
      have T : Hid (Calls Try.prog 113 #[.agg #[.int .i64 cs[n].id, .string cs[n].nm, .int .i64 cs[n].kd], .pointer (some ⟨nb, 0, none⟩)] wr fun e w' => e = .returned (.bool S) ∧ Below wr.heap.size wr w') := by rw [hS]; exact T
      have HS := Lib.hid hS
      have HCN := Lib.hid cn
      clear hcc hS
      have HCN2 := Lib.hid cn
      generalize hv : cs[n] = v at p0 p1 p2 T
      clear hv
      cases S
      · go_wp2_with (go_at_call 113; refine T.out.mono ?_; rintro e w1 ⟨rfl, hb⟩; have HB1 := Lib.hid (HB.out.trans (hb.mono HB.out.size)); clear hb)
        go_roundw
        case rel => exact ⟨n + 1, by omega, by go_num, fun k hk hkn => by
          rcases Nat.lt_or_ge k n with h | h
          · exact HN.out k hk h
          · obtain rfl : k = n := by omega
            exact HS.out.symm, HB1⟩
        case measure => simp [intOf]; omega
      · obtain rfl : R = (n : Int) := HR.out.trans (idx_at HCN2.out HS.out.symm HN.out)
        clear HR
        go_wp2_with (go_at_call 113; refine T.out.mono ?_; rintro e w1 ⟨rfl, hb⟩; have HB1 := Lib.hid (HB.out.trans (hb.mono HB.out.size)); clear hb)
        go_ret
        exact ⟨rfl, HB1.out⟩
    · obtain rfl : n = cs.length := by omega
      obtain rfl : R = -1 := HR.out.trans (idx_none fun k hk => HN.out k hk hk)
      clear cn HR
      go_wp2
      go_ret
      exact ⟨rfl, HB.out⟩

set_option maxRecDepth 100000 in
theorem spplace_any (w : World) (a : Option Addr) (cap : Nat) (s : Sc) (id : Int) (ha : IsCo w a s.cs) (hl : s.cs.length ≤ maxLen) :
    Calls Try.prog 102 #[.int .i64 id, .agg #[.int .i64 s.id, .slice a s.cs.length cap, .int .i64 s.next]] w fun e w' => e = .returned (.int .i64 (placeA s.cs id)) ∧ Below w.heap.size w w' := by
  obtain ⟨u, hu⟩ : ∃ u, u = w.alloc (.cells #[.int .i64 id] 3) := ⟨_, rfl⟩
  obtain ⟨v, hv⟩ : ∃ v, v = u.alloc (.cells #[.int .i64 s.id, .slice a s.cs.length cap, .int .i64 s.next] 24) := ⟨_, rfl⟩
  have hb1 : Below w.heap.size w u := by rw [hu]; exact (Below.refl _ _).alloc (Nat.le_refl _) _
  have hb2 : Below u.heap.size u v := by rw [hv]; exact (Below.refl _ _).alloc (Nat.le_refl _) _
  have hsz : u.heap.size = w.heap.size + 1 := by rw [hu]; simp
  have HS : Hid (ScSlot v u.heap.size a cap s) := show ScSlot v u.heap.size a cap s by rw [hv]; exact ScSlot.new u a cap s
  rw [hsz] at HS
  have HB := Lib.hid (hb1.trans (hb2.mono hb1.size))
  have hp0 : u.cell? ⟨w.heap.size, 0, none⟩ = some (.int .i64 id) := by rw [hu]; exact cell_of_row _ _ _ _ _ _ (heap_alloc_new w (.cells #[.int .i64 id] 3))
  have hp : v.cell? ⟨w.heap.size, 0, none⟩ = some (.int .i64 id) := (World.cell?_of_block (hb2.block w.heap.size (by rw [hsz]; omega))).trans hp0
  have T := Lib.hid (index_place w.heap.size id v a cap s.cs (ha.below HB.out) hl hp)
  have hw : (w.alloc (.cells #[.int .i64 id] 3)).alloc (.cells #[.int .i64 s.id, .slice a s.cs.length cap, .int .i64 s.next] 24) = v := by rw [hv, hu]
  obtain ⟨b0, b1, b2⟩ := HS.out.at
  unfold placeA
  clear hu hv hb1 hb2 hsz hp hp0 ha
  go_enter Try.func102, Try.ntmps102
  go_upto_region 1 with fail
  clear hw
  go_wp2_with (go_at_call 66; refine T.out.mono ?_; rintro e w1 ⟨rfl, hb⟩; have HB1 := Lib.hid (HB.out.trans (hb.mono HB.out.size)); clear hb)
  go_ret
  exact ⟨rfl, HB1.out⟩
end Go.Proofs.Ythfakpekdjmpjaa

namespace Go.Proofs.Ythfakpekdjmpjaa
open Go.Conc Go.RowKit
set_option linter.unusedVariables false
set_option linter.unusedSimpArgs false

def idxF (P : Fd → Bool) (cs : List Fd) : Int := if cs.findIdx P < cs.length then (cs.findIdx P : Int) else -1
theorem idxf_at {P : Fd → Bool} {cs : List Fd} {n : Nat} (hn : n < cs.length) (h : P cs[n] = true) (hb : ∀ k (hk : k < cs.length), k < n → P cs[k] = false) : idxF P cs = (n : Int) := by
  have e : cs.findIdx P = n := (List.findIdx_eq hn).2 ⟨h, fun j hj => hb j (by omega) hj⟩
  unfold idxF
  rw [e, if_pos hn]
theorem idxf_none {P : Fd → Bool} {cs : List Fd} (hb : ∀ k (hk : k < cs.length), P cs[k] = false) : idxF P cs = -1 := by
  unfold idxF
  refine if_neg fun h => ?_
  have := List.findIdx_getElem (w := h)
  rw [hb _ h] at this
  cases this
theorem idxf_ge (P : Fd → Bool) (cs : List Fd) : decide (0 ≤ idxF P cs) = cs.any P := by
  unfold idxF
  have h : cs.findIdx P < cs.length ↔ ∃ c ∈ cs, P c = true := List.findIdx_lt_length
  rw [Bool.eq_iff_iff, decide_eq_true_eq, List.any_eq_true]
  by_cases e : cs.findIdx P < cs.length
  · rw [if_pos e]; exact ⟨fun _ => h.1 e, fun _ => by omega⟩
  · rw [if_neg e]; exact ⟨fun hh => absurd hh (by decide), fun hh => absurd (h.2 hh) e⟩
def likeF (f o : Fd) : Bool := decide (o.src = f.src) && decide (o.tr = f.tr)
set_option maxRecDepth 100000 in
theorem splikec_any (o c : Fd) (cb : Nat) (w : World) (hp : FdAt w cb 0 c) :
    Calls Try.prog 104 #[.agg #[.int .i64 o.src, .int .i64 o.tr, .int .i64 o.par], .pointer (some ⟨cb, 0, none⟩)] w fun e w' => e = .returned (.bool (likeF c o)) ∧ Below w.heap.size w w' := by
  obtain ⟨u, hu⟩ : ∃ u, u = w.alloc (.cells #[.int .i64 o.src, .int .i64 o.tr, .int .i64 o.par] 55) := ⟨_, rfl⟩
  have hc : FdAt u w.heap.size 0 o := by rw [hu]; exact FdAt.new w o
  have HB : Hid (Below w.heap.size w u) := by rw [hu]; exact (Below.refl _ _).alloc (Nat.le_refl _) _
  obtain ⟨p0, p1, p2⟩ := hp.below HB.out
  obtain ⟨c0, c1, c2⟩ := hc
  have he : (o.src == c.src) = decide (o.src = c.src) := by rw [Bool.eq_iff_iff, decide_eq_true_eq, beq_iff_eq]
  have hi : (o.tr == c.tr) = decide (o.tr = c.tr) := by rw [Bool.eq_iff_iff, decide_eq_true_eq, beq_iff_eq]
  unfold likeF
  obtain ⟨R, hR⟩ : ∃ R, R = decide (o.src = c.src) := ⟨_, rfl⟩
  obtain ⟨S, hS⟩ : ∃ S, S = decide (o.tr = c.tr) := ⟨_, rfl⟩
  rw [← hR] at he ⊢
  rw [← hS] at hi ⊢
  clear hR hS hp
  cases R <;> (
    go_enter Try.func104, Try.ntmps104
    go_upto_region 1 with fail
    rw [← hu]
    clear hu
    go_wp2
    go_ret
    exact ⟨rfl, HB.out⟩)
set_option maxRecDepth 100000 in
theorem indexf_like (c : Fd) (cb : Nat) (w : World) (a : Option Addr) (cap : Nat) (cs : List Fd) (ha : IsFd w a cs) (hl : cs.length ≤ maxLen) (hp : FdAt w cb 0 c) :
    Calls Try.prog 114 #[.slice a cs.length cap, .func (.func 104) #[] #[.pointer (some ⟨cb, 0, none⟩)]] w fun e w' => e = .returned (.int .i64 (idxF (likeF c) cs)) ∧ Below w.heap.size w w' := by
  unfold maxLen at hl
  obtain ⟨R, hR⟩ : ∃ R, R = idxF (likeF c) cs := ⟨_, rfl⟩
  rw [← hR]
  have HR := Lib.hid hR
  have HA := Lib.hid ha
  have HP := Lib.hid hp
  clear hR ha hp
  go_enter Try.func114, Try.ntmps114
  go_wp2
  go_loopw [8] (fun iv wr => ∃ n : Nat, n ≤ cs.length ∧ iv = .int .i64 n ∧ Hid (∀ k (hk : k < cs.length), k < n → (likeF c) cs[k] = false) ∧ Hid (Below w.heap.size w wr)) (fun iv _ => cs.length - (intOf iv).toNat)
  case atStart => exact ⟨0, Nat.zero_le _, rfl, fun k _ hk => absurd hk (Nat.not_lt_zero k), Below.refl _ _⟩
  case round =>
    obtain ⟨n, hle, rfl, HN, HB⟩ := hrel
    by_cases cn : n < cs.length
    · rcases HA.out.below HB.out with e | ⟨b, off, rfl, hcc⟩
      · rw [e] at cn; simp at cn
      obtain ⟨p0, p1, p2⟩ := hcc n cn
      have T := Lib.hid (splikec_any cs[n] c cb wr (HP.out.below HB.out))
      have hni : (n : Int) < (cs.length : Int) := by omega
      obtain ⟨S, hS⟩ : ∃ S, S = (likeF c) cs[n] := ⟨_, rfl⟩
      have T : Hid (Calls Try.prog 104 #[.agg #[.int .i64 cs[n].src, .int .i64 cs[n].tr, .int .i64 cs[n].par], .pointer (some ⟨cb, 0, none⟩)] wr fun e w' => e = .returned (.bool S) ∧ Below wr.heap.size wr w') := by rw [hS]; exact T
      have HS := Lib.hid hS
      have HCN := Lib.hid cn
      clear hcc hS
      have HCN2 := Lib.hid cn
      generalize hv : cs[n] = v at p0 p1 p2 T
      clear hv
      cases S
      · go_wp2_with (go_at_call 104; refine T.out.mono ?_; rintro e w1 ⟨rfl, hb⟩; have HB1 := Lib.hid (HB.out.trans (hb.mono HB.out.size)); clear hb)
        go_roundw
        case rel => exact ⟨n + 1, by omega, by go_num, fun k hk hkn => by
          rcases Nat.lt_or_ge k n with h | h
          · exact HN.out k hk h
          · obtain rfl : k = n := by omega
            exact HS.out.symm, HB1⟩
        case measure => simp [intOf]; omega
      · obtain rfl : R = (n : Int) := HR.out.trans (idxf_at HCN2.out HS.out.symm HN.out)
        clear HR
        go_wp2_with (go_at_call 104; refine T.out.mono ?_; rintro e w1 ⟨rfl, hb⟩; have HB1 := Lib.hid (HB.out.trans (hb.mono HB.out.size)); clear hb)
        go_ret
        exact ⟨rfl, HB1.out⟩
    · obtain rfl : n = cs.length := by omega
      obtain rfl : R = -1 := HR.out.trans (idxf_none fun k hk => HN.out k hk hk)
      clear cn HR
      go_wp2
      go_ret
      exact ⟨rfl, HB.out⟩

set_option maxRecDepth 100000 in
theorem holdsf_like (c : Fd) (cb : Nat) (w : World) (a : Option Addr) (cap : Nat) (cs : List Fd) (ha : IsFd w a cs) (hl : cs.length ≤ maxLen) (hp : FdAt w cb 0 c) :
    Calls Try.prog 103 #[.slice a cs.length cap, .func (.func 104) #[] #[.pointer (some ⟨cb, 0, none⟩)]] w fun e w' => e = .returned (.bool (cs.any (likeF c))) ∧ Below w.heap.size w w' := by
  have T := Lib.hid (indexf_like c cb w a cap cs ha hl hp)
  have h := idxf_ge (likeF c) cs
  generalize cs.any (likeF c) = R at *
  generalize idxF (likeF c) cs = k at *
  go_enter Try.func103, Try.ntmps103
  go_wp2_with (go_at_call 114; refine T.out.mono ?_; rintro e w1 ⟨rfl, hb⟩; have HB1 := Lib.hid hb; clear hb)
  go_ret
  exact ⟨rfl, HB1.out⟩
set_option maxRecDepth 100000 in
theorem splike_any (c : Fd) (w : World) (a : Option Addr) (cap : Nat) (cs : List Fd) (ha : IsFd w a cs) (hl : cs.length ≤ maxLen) :
    Calls Try.prog 78 #[.agg #[.int .i64 c.src, .int .i64 c.tr, .int .i64 c.par], .slice a cs.length cap] w fun e w' => e = .returned (.bool (cs.any (likeF c))) ∧ Below w.heap.size w w' := by
  obtain ⟨u, hu⟩ : ∃ u, u = w.alloc (.cells #[.int .i64 c.src, .int .i64 c.tr, .int .i64 c.par] 55) := ⟨_, rfl⟩
  have hc : FdAt u w.heap.size 0 c := by rw [hu]; exact FdAt.new w c
  have HB : Hid (Below w.heap.size w u) := by rw [hu]; exact (Below.refl _ _).alloc (Nat.le_refl _) _
  have T := Lib.hid (holdsf_like c w.heap.size u a cap cs (ha.below HB.out) hl hc)
  clear hc ha
  go_enter Try.func78, Try.ntmps78
  go_upto_region 1 with fail
  rw [← hu]
  clear hu
  go_wp2_with (go_at_call 103; refine T.out.mono ?_; rintro e w1 ⟨rfl, hb⟩; have HB1 := Lib.hid (HB.out.trans (hb.mono HB.out.size)); clear hb)
  go_ret
  exact ⟨rfl, HB1.out⟩
end Go.Proofs.Ythfakpekdjmpjaa

namespace Go.Proofs.Ythfakpekdjmpjaa
open Go.Conc Go.RowKit
set_option linter.unusedVariables false
set_option linter.unusedSimpArgs false

theorem place_range (cs : List Co) (id : Int) : placeA cs id = -1 ∨ ∃ k : Nat, placeA cs id = (k : Int) ∧ k < cs.length := by
  unfold placeA idxA
  split
  · rename_i h; exact .inr ⟨_, rfl, h⟩
  · exact .inl rfl
def kindAt (cs : List Co) (id : Int) : Int := (cs.getD (placeA cs id).toNat zeroCo).kd
def standB (f : Fd) (cs : List Co) : Bool := decide (0 ≤ placeA cs f.src) && takesB f (kindAt cs f.src)
set_option maxRecDepth 100000 in
set_option maxHeartbeats 1000000 in
theorem spstand_any (f : Fd) (w : World) (a : Option Addr) (cap : Nat) (s : Sc) (ha : IsCo w a s.cs) (hl : s.cs.length ≤ maxLen) :
    Calls Try.prog 77 #[.agg #[.int .i64 f.src, .int .i64 f.tr, .int .i64 f.par], .agg #[.int .i64 s.id, .slice a s.cs.length cap, .int .i64 s.next]] w fun e w' => e = .returned (.bool (standB f s.cs)) ∧ Below w.heap.size w w' := by
  obtain ⟨u, hu⟩ : ∃ u, u = w.alloc (.cells #[.int .i64 f.src, .int .i64 f.tr, .int .i64 f.par] 55) := ⟨_, rfl⟩
  obtain ⟨v, hv⟩ : ∃ v, v = u.alloc (.cells #[.int .i64 s.id, .slice a s.cs.length cap, .int .i64 s.next] 24) := ⟨_, rfl⟩
  have hb1 : Below w.heap.size w u := by rw [hu]; exact (Below.refl _ _).alloc (Nat.le_refl _) _
  have hb2 : Below u.heap.size u v := by rw [hv]; exact (Below.refl _ _).alloc (Nat.le_refl _) _
  have hsz : u.heap.size = w.heap.size + 1 := by rw [hu]; simp
  have HS : Hid (ScSlot v u.heap.size a cap s) := show ScSlot v u.heap.size a cap s by rw [hv]; exact ScSlot.new u a cap s
  rw [hsz] at HS
  have HB := Lib.hid (hb1.trans (hb2.mono hb1.size))
  have hf0 : FdAt u w.heap.size 0 f := by rw [hu]; exact FdAt.new w f
  have HF := Lib.hid (hf0.below hb2)
  have HA := Lib.hid (ha.below HB.out)
  have hw : (w.alloc (.cells #[.int .i64 f.src, .int .i64 f.tr, .int .i64 f.par] 55)).alloc (.cells #[.int .i64 s.id, .slice a s.cs.length cap, .int .i64 s.next] 24) = v := by rw [hv, hu]
  have T := Lib.hid (spplace_any v a cap s f.src HA.out hl)
  have T2 := Lib.hid (fun u => takes_any f (kindAt s.cs f.src) u)
  have HL := Lib.hid hl
  obtain ⟨b0, b1, b2⟩ := HS.out.at
  obtain ⟨d0, d1, d2⟩ := HF.out
  clear hu hv hb1 hb2 hsz ha hf0 hl
  unfold standB
  rcases place_range s.cs f.src with hk | ⟨k, hk, hkl⟩
  · rw [hk] at T ⊢
    rw [decide_eq_false (by omega), Bool.false_and]
    clear hk
    go_enter Try.func77, Try.ntmps77
    go_upto_region 1 with fail
    clear hw
    go_upto_region 2 with (go_at_call 102; refine T.out.mono ?_; rintro e w1 ⟨rfl, hb⟩; have HB1 := Lib.hid (HB.out.trans (hb.mono HB.out.size)); clear hb)
    refine region_class (fun w' => Below w1.heap.size w1 w') (by kernel_rfl) (by kernel_rfl) (Below.refl _ _).drew ?_
    clear b0 b1 b2 d0 d1 d2
    repeat (first
      | go_big_quiet_skip
      | (go_big_quiet_want
         go_big_quiet_op
         first
         | go_big_quiet_on
         | (apply Exists.intro
            refine ⟨fun v1 hv1 => ?_, ?_⟩
            (first
              | (exact rfl)
              | (exact ⟨trivial, rfl⟩))
            go_big_quiet_on)))
    refine wpQuiet_nil ?_
    intro w9 hw9
    have HB9 := Lib.hid (HB1.out.trans (hw9.mono HB1.out.size))
    clear hw9
    go_wp2
    go_ret
    exact ⟨rfl, HB9.out⟩
  · have hka : (s.cs.getD k zeroCo).kd = kindAt s.cs f.src := by unfold kindAt; rw [hk, Int.toNat_natCast]
    rw [hk] at T ⊢
    rw [decide_eq_true (by omega), Bool.true_and]
    generalize takesB f (kindAt s.cs f.src) = R at *
    generalize kindAt s.cs f.src = kd at *
    rcases HA.out with e | ⟨b, off, rfl, hcc⟩
    · rw [e] at hkl; simp at hkl
    have hco : CoAt v b (off + k * 3) (s.cs.getD k zeroCo) := by
      have := hcc k hkl
      rwa [show s.cs.getD k zeroCo = s.cs[k] by rw [List.getD_eq_getElem?_getD, List.getElem?_eq_getElem hkl]; rfl]
    have HCO := Lib.hid hco
    have HKA := Lib.hid hka
    have hkl2 : (k : Int) < (s.cs.length : Int) := by omega
    clear hk hcc hco hka
    go_enter Try.func77, Try.ntmps77
    go_upto_region 1 with fail
    clear hw
    go_upto_region 2 with (go_at_call 102; refine T.out.mono ?_; rintro e w1 ⟨rfl, hb⟩; have HB1 := Lib.hid (HB.out.trans (hb.mono HB.out.size)); have HX := Lib.hid hb; clear hb)
    refine region_class (fun w' => Below v.heap.size v w') (by kernel_rfl) (by kernel_rfl) HX.out.drew ?_
    clear b0 b1 b2 d0 d1 d2
    repeat (first
      | go_big_quiet_skip
      | (go_big_quiet_want
         go_big_quiet_op
         first
         | go_big_quiet_on
         | (apply Exists.intro
            refine ⟨fun v1 hv1 => ?_, ?_⟩
            (first
              | (exact rfl)
              | (go_at_call 68; exact (T2.out v1).mono fun e w3 ⟨he, hb⟩ => ⟨he, hv1.trans (hb.mono hv1.size)⟩)
              | (obtain ⟨d0, d1, d2⟩ := HF.out.below hv1; simp only [d0, d1, d2, Nat.zero_add, Result.andThen]; exact ⟨trivial, rfl⟩)
              | (obtain ⟨q0, q1, q2⟩ := HCO.out.below hv1; rw [HKA.out] at q2; simp only [q0, q1, q2, Result.andThen]; exact ⟨trivial, rfl⟩)
              | (obtain ⟨b0, b1, b2⟩ := (HS.out.below hv1).at; simp only [b0, b1, b2, Result.andThen]; exact ⟨trivial, rfl⟩)
              | (exact ⟨trivial, rfl⟩))
            go_big_quiet_on)))
    refine wpQuiet_nil ?_
    intro w9 hw9
    have HB9 := Lib.hid (HB.out.trans (hw9.mono HB.out.size))
    clear hw9
    go_wp2
    go_ret
    exact ⟨rfl, HB9.out⟩
end Go.Proofs.Ythfakpekdjmpjaa

namespace Go.Proofs.Ythfakpekdjmpjaa
open Go.Conc Go.RowKit
set_option linter.unusedVariables false
set_option linter.unusedSimpArgs false

set_option maxRecDepth 100000 in
theorem refbyid_any (w : World) (a : Option Addr) (cap : Nat) (s : Sc) (id : Int) (ha : IsCo w a s.cs) (hl : s.cs.length ≤ maxLen) :
    Calls Try.prog 79 #[.agg #[.int .i64 s.id, .slice a s.cs.length cap, .int .i64 s.next], .int .i64 id] w fun e w' => e = .returned (.int .i64 (placeA s.cs id)) ∧ Below w.heap.size w w' := by
  unfold maxLen at hl
  obtain ⟨R, hR⟩ : ∃ R, R = placeA s.cs id := ⟨_, rfl⟩
  rw [← hR]
  unfold placeA at hR
  have HR := Lib.hid hR
  clear hR
  obtain ⟨u, hu⟩ : ∃ u, u = w.alloc (.cells #[.int .i64 s.id, .slice a s.cs.length cap, .int .i64 s.next] 24) := ⟨_, rfl⟩
  have HS : Hid (ScSlot u w.heap.size a cap s) := by rw [hu]; exact ScSlot.new w a cap s
  have HB : Hid (Below w.heap.size w u) := by rw [hu]; exact (Below.refl _ _).alloc (Nat.le_refl _) _
  have HA := Lib.hid (ha.below HB.out)
  obtain ⟨b0, b1, b2⟩ := HS.out.at
  clear ha
  go_enter Try.func79, Try.ntmps79
  go_upto_region 1 with fail
  rw [← hu]
  clear hu
  go_wp2
  go_loop [5] (fun iv => ∃ n : Nat, n ≤ s.cs.length ∧ iv = .int .i64 n ∧ Hid (∀ k (hk : k < s.cs.length), k < n → (fun c : Co => decide (c.id = id)) s.cs[k] = false)) (fun iv => s.cs.length - (intOf iv).toNat)
  case atStart => exact ⟨0, Nat.zero_le _, rfl, fun k _ hk => absurd hk (Nat.not_lt_zero k)⟩
  case round =>
    obtain ⟨n, hle, rfl, HN⟩ := hrel
    by_cases cn : n < s.cs.length
    · rcases HA.out with e | ⟨b, off, rfl, hcc⟩
      · rw [e] at cn; simp at cn
      obtain ⟨p0, p1, p2⟩ := hcc n cn
      have HCN := Lib.hid cn
      have hni : (n : Int) < (s.cs.length : Int) := by omega
      clear hcc
      by_cases hx : s.cs[n].id = id
      · have he : (s.cs[n].id == id) = true := by rw [hx]; exact beq_self_eq_true _
        obtain rfl : R = (n : Int) := HR.out.trans (idx_at HCN.out (decide_eq_true hx) HN.out)
        clear HR hx p1 p2
        generalize s.cs[n].id = vn at p0 he
        go_wp2
        go_ret
        exact ⟨rfl, HB.out⟩
      · have he : (s.cs[n].id == id) = false := by rw [beq_eq_false_iff_ne]; exact hx
        have HX := Lib.hid hx
        clear hx p1 p2
        generalize s.cs[n].id = vn at p0 he
        go_wp2
        go_round
        case rel => exact ⟨n + 1, by have := HCN.out; omega, by go_num, fun k hk hkn => by
          rcases Nat.lt_or_ge k n with h | h
          · exact HN.out k hk h
          · obtain rfl : k = n := by omega
            exact decide_eq_false HX.out⟩
        case measure => have := HCN.out; simp [intOf]; omega
    · obtain rfl : n = s.cs.length := by omega
      obtain rfl : R = -1 := HR.out.trans (idx_none fun k hk => HN.out k hk hk)
      clear cn HR
      go_wp2
      go_ret
      exact ⟨rfl, HB.out⟩
end Go.Proofs.Ythfakpekdjmpjaa

namespace Go.Proofs.Ythfakpekdjmpjaa
open Go.Conc Go.RowKit
set_option linter.unusedVariables false
set_option linter.unusedSimpArgs false

/-- A field stands, and none of those ahead of it is like it. -/
def okFd (cs : List Co) (fs : List Fd) (k : Nat) : Bool := standB (fs.getD k zeroFd) cs && !((fs.take k).any (likeF (fs.getD k zeroFd)))
def bndSp (p : Sp) : Bool := decide (0 ≤ p.id ∧ p.id ≤ 2147483647 ∧ p.fs.length ≤ 4)
def maySp (p : Sp) (s : Sc) : Bool := bndSp p && maySc s && (List.range p.fs.length).all (okFd s.cs p.fs)
theorem maysp_no {p : Sp} {s : Sc} (h : bndSp p = false ∨ maySc s = false) : maySp p s = false := by
  unfold maySp
  rcases h with h | h <;> rw [h] <;> simp
theorem maysp_bad {p : Sp} {s : Sc} {k : Nat} (hk : k < p.fs.length) (h : okFd s.cs p.fs k = false) : maySp p s = false := by
  unfold maySp
  have : (List.range p.fs.length).all (okFd s.cs p.fs) = false := by
    rw [List.all_eq_false]
    exact ⟨k, List.mem_range.2 hk, by rw [h]; simp⟩
  rw [this, Bool.and_false]
theorem maysp_good {p : Sp} {s : Sc} (hb : bndSp p = true) (hs : maySc s = true) (h : ∀ k, k < p.fs.length → okFd s.cs p.fs k = true) : maySp p s = true := by
  unfold maySp
  rw [hb, hs, Bool.true_and, Bool.true_and, List.all_eq_true]
  exact fun k hk => h k (List.mem_range.1 hk)
def rowB13 (cs : List Co) (r : List V) : Bool := decide (r.length = cs.length) && (List.range r.length).all fun k => isOf (r.getD k zeroV) (cs.getD k zeroCo).kd
/-- What each field makes of a row. -/
def partL (fs : List Fd) (cs : List Co) (r : List V) : List V := fs.map fun f => madeV f (r.getD (placeA cs f.src).toNat zeroV)
def partA (p : Sp) (s : Sc) (r : List V) : List V × Int := if maySp p s && rowB13 s.cs r then (partL p.fs s.cs r, 0) else ([], 1300)
end Go.Proofs.Ythfakpekdjmpjaa
