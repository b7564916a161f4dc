/- The program's schemas: where a column stands, which schemas may be. -/
import Derived.Test.YthfakpekdjmpjaaSchA
namespace Go.Proofs.Ythfakpekdjmpjaa
open Go.Conc Go.RowKit
set_option linter.unusedVariables false
set_option linter.unusedSimpArgs false

/-- The place of the first one, -1: none. -/
def idxA (P : Co → Bool) (cs : List Co) : Int := if cs.findIdx P < cs.length then (cs.findIdx P : Int) else -1
theorem idx_at {P : Co → Bool} {cs : List Co} {n : Nat} (hn : n < cs.length) (h : P cs[n] = true) (hb : ∀ k (hk : k < cs.length), k < n → P cs[k] = false) : idxA P cs = (n : Int) := by
  have e : cs.findIdx P = n := (List.findIdx_eq hn).2 ⟨h, fun j hj => hb j (by omega) hj⟩
  unfold idxA
  rw [e, if_pos hn]
theorem idx_none {P : Co → Bool} {cs : List Co} (hb : ∀ k (hk : k < cs.length), P cs[k] = false) : idxA P cs = -1 := by
  unfold idxA
  refine if_neg fun h => ?_
  have := List.findIdx_getElem (w := h)
  rw [hb _ h] at this
  cases this
theorem idx_ge (P : Co → Bool) (cs : List Co) : decide (0 ≤ idxA P cs) = cs.any P := by
  unfold idxA
  have h : cs.findIdx P < cs.length ↔ ∃ c ∈ cs, P c = true := List.findIdx_lt_length
  rw [Bool.eq_iff_iff, decide_eq_true_eq, List.any_eq_true]
  by_cases e : cs.findIdx P < cs.length
  · rw [if_pos e]; exact ⟨fun _ => h.1 e, fun _ => by omega⟩
  · rw [if_neg e]; exact ⟨fun hh => absurd hh (by decide), fun hh => absurd (h.2 hh) e⟩
theorem findA_idx (cs : List Co) (nm : ByteArray) : findA cs nm = idxA (fun c => decide (c.nm = nm)) cs := rfl
def likeP (c o : Co) : Bool := decide (o.id = c.id) || decide (o.nm = c.nm)
theorem like_unl (c o : Co) : likeP c o = !decide (Unl o c) := by
  unfold likeP Unl
  by_cases h1 : o.id = c.id <;> by_cases h2 : o.nm = c.nm <;> simp [h1, h2]
theorem like_any (c : Co) (os : List Co) : os.any (likeP c) = !(os.all fun o => decide (Unl o c)) := by
  induction os with
  | nil => rfl
  | cons o os ih => simp only [List.any_cons, List.all_cons, ih, like_unl, Bool.not_and]
theorem text_eq (a b : ByteArray) : (a.toList == b.toList) = decide (a = b) := by
  by_cases e : a = b
  · subst e; rw [decide_eq_true rfl]; exact beq_self_eq_true _
  · rw [decide_eq_false e, beq_eq_false_iff_ne]
    exact fun h => e (text_inj (by simpa using h))
set_option maxRecDepth 100000 in
theorem schfindc_any (o : Co) (nb : Nat) (nm : ByteArray) (w : World) (hp : w.cell? ⟨nb, 0, none⟩ = some (.string nm)) :
    Calls Try.prog 67 #[.agg #[.int .i64 o.id, .string o.nm, .int .i64 o.kd], .pointer (some ⟨nb, 0, none⟩)] w fun e w' => e = .returned (.bool (decide (o.nm = nm))) ∧ Below w.heap.size w w' := by
  obtain ⟨u, hu⟩ : ∃ u, u = w.alloc (.cells #[.int .i64 o.id, .string o.nm, .int .i64 o.kd] 49) := ⟨_, rfl⟩
  have hc : CoAt u w.heap.size 0 o := by rw [hu]; exact CoAt.new w o
  have HB : Hid (Below w.heap.size w u) := by rw [hu]; exact (Below.refl _ _).alloc (Nat.le_refl _) _
  have hpu : u.cell? ⟨nb, 0, none⟩ = some (.string nm) := (World.cell?_of_block (HB.out.block nb (World.block_lt_of_cell? w ⟨nb, 0, none⟩ hp))).trans hp
  obtain ⟨c0, c1, c2⟩ := hc
  have he := text_eq o.nm nm
  obtain ⟨R, hR⟩ : ∃ R, R = decide (o.nm = nm) := ⟨_, rfl⟩
  rw [← hR] at he ⊢
  clear hR hp
  go_enter Try.func67, Try.ntmps67
  go_upto_region 1 with fail
  rw [← hu]
  clear hu
  go_wp2
  go_ret
  exact ⟨rfl, HB.out⟩
set_option maxRecDepth 100000 in
theorem schlikec_any (o c : Co) (cb : Nat) (w : World) (hp : CoAt w cb 0 c) :
    Calls Try.prog 90 #[.agg #[.int .i64 o.id, .string o.nm, .int .i64 o.kd], .pointer (some ⟨cb, 0, none⟩)] w fun e w' => e = .returned (.bool (likeP c o)) ∧ Below w.heap.size w w' := by
  obtain ⟨u, hu⟩ : ∃ u, u = w.alloc (.cells #[.int .i64 o.id, .string o.nm, .int .i64 o.kd] 49) := ⟨_, rfl⟩
  have hc : CoAt u w.heap.size 0 o := by rw [hu]; exact CoAt.new w o
  have HB : Hid (Below w.heap.size w u) := by rw [hu]; exact (Below.refl _ _).alloc (Nat.le_refl _) _
  obtain ⟨p0, p1, p2⟩ := hp.below HB.out
  obtain ⟨c0, c1, c2⟩ := hc
  have he := text_eq o.nm c.nm
  have hi : (o.id == c.id) = decide (o.id = c.id) := by rw [Bool.eq_iff_iff, decide_eq_true_eq, beq_iff_eq]
  unfold likeP
  obtain ⟨R, hR⟩ : ∃ R, R = decide (o.nm = c.nm) := ⟨_, rfl⟩
  obtain ⟨S, hS⟩ : ∃ S, S = decide (o.id = c.id) := ⟨_, rfl⟩
  rw [← hR] at he ⊢
  rw [← hS] at hi ⊢
  clear hR hS hp
  cases S <;> (
    go_enter Try.func90, Try.ntmps90
    go_upto_region 1 with fail
    rw [← hu]
    clear hu
    go_wp2
    go_ret
    exact ⟨rfl, HB.out⟩)

set_option maxRecDepth 100000 in
theorem index_find (nb : Nat) (nm : ByteArray) (w : World) (a : Option Addr) (cap : Nat) (cs : List Co) (ha : IsCo w a cs) (hl : cs.length ≤ maxLen) (hp : w.cell? ⟨nb, 0, none⟩ = some (.string nm)) :
    Calls Try.prog 66 #[.slice a cs.length cap, .func (.func 67) #[] #[.pointer (some ⟨nb, 0, none⟩)]] w fun e w' => e = .returned (.int .i64 (idxA (fun c => decide (c.nm = nm)) cs)) ∧ Below w.heap.size w w' := by
  unfold maxLen at hl
  obtain ⟨R, hR⟩ : ∃ R, R = idxA (fun c => decide (c.nm = nm)) cs := ⟨_, rfl⟩
  rw [← hR]
  have HR := Lib.hid hR
  have HA := Lib.hid ha
  have HP := Lib.hid hp
  clear hR ha hp
  go_enter Try.func66, Try.ntmps66
  go_wp2
  go_loopw [8] (fun iv wr => ∃ n : Nat, n ≤ cs.length ∧ iv = .int .i64 n ∧ Hid (∀ k (hk : k < cs.length), k < n → (fun c => decide (c.nm = nm)) cs[k] = false) ∧ Hid (Below w.heap.size w wr)) (fun iv _ => cs.length - (intOf iv).toNat)
  case atStart => exact ⟨0, Nat.zero_le _, rfl, fun k _ hk => absurd hk (Nat.not_lt_zero k), Below.refl _ _⟩
  case round =>
    obtain ⟨n, hle, rfl, HN, HB⟩ := hrel
    by_cases cn : n < cs.length
    · rcases HA.out.below HB.out with e | ⟨b, off, rfl, hcc⟩
      · rw [e] at cn; simp at cn
      obtain ⟨p0, p1, p2⟩ := hcc n cn
      have T := Lib.hid (schfindc_any cs[n] nb nm wr ((World.cell?_of_block (HB.out.block nb (World.block_lt_of_cell? w ⟨nb, 0, none⟩ HP.out))).trans HP.out))
      have hni : (n : Int) < (cs.length : Int) := by omega
      obtain ⟨S, hS⟩ : ∃ S, S = (fun c => decide (c.nm = nm)) cs[n] := ⟨_, rfl⟩
      have T : Hid (Calls Try.prog 67 #[.agg #[.int .i64 cs[n].id, .string cs[n].nm, .int .i64 cs[n].kd], .pointer (some ⟨nb, 0, none⟩)] wr fun e w' => e = .returned (.bool S) ∧ Below wr.heap.size wr w') := by rw [hS]; exact T
      have HS := Lib.hid hS
      have HCN := Lib.hid cn
      clear hcc hS
      have HCN2 := Lib.hid cn
      generalize hv : cs[n] = v at p0 p1 p2 T
      clear hv
      cases S
      · go_wp2_with (go_at_call 67; refine T.out.mono ?_; rintro e w1 ⟨rfl, hb⟩; have HB1 := Lib.hid (HB.out.trans (hb.mono HB.out.size)); clear hb)
        go_roundw
        case rel => exact ⟨n + 1, by omega, by go_num, fun k hk hkn => by
          rcases Nat.lt_or_ge k n with h | h
          · exact HN.out k hk h
          · obtain rfl : k = n := by omega
            exact HS.out.symm, HB1⟩
        case measure => simp [intOf]; omega
      · obtain rfl : R = (n : Int) := HR.out.trans (idx_at HCN2.out HS.out.symm HN.out)
        clear HR
        go_wp2_with (go_at_call 67; refine T.out.mono ?_; rintro e w1 ⟨rfl, hb⟩; have HB1 := Lib.hid (HB.out.trans (hb.mono HB.out.size)); clear hb)
        go_ret
        exact ⟨rfl, HB1.out⟩
    · obtain rfl : n = cs.length := by omega
      obtain rfl : R = -1 := HR.out.trans (idx_none fun k hk => HN.out k hk hk)
      clear cn HR
      go_wp2
      go_ret
      exact ⟨rfl, HB.out⟩

set_option maxRecDepth 100000 in
theorem index_like (c : Co) (cb : Nat) (w : World) (a : Option Addr) (cap : Nat) (cs : List Co) (ha : IsCo w a cs) (hl : cs.length ≤ maxLen) (hp : CoAt w cb 0 c) :
    Calls Try.prog 66 #[.slice a cs.length cap, .func (.func 90) #[] #[.pointer (some ⟨cb, 0, none⟩)]] w fun e w' => e = .returned (.int .i64 (idxA (likeP c) cs)) ∧ Below w.heap.size w w' := by
  unfold maxLen at hl
  obtain ⟨R, hR⟩ : ∃ R, R = idxA (likeP c) cs := ⟨_, rfl⟩
  rw [← hR]
  have HR := Lib.hid hR
  have HA := Lib.hid ha
  have HP := Lib.hid hp
  clear hR ha hp
  go_enter Try.func66, Try.ntmps66
  go_wp2
  go_loopw [8] (fun iv wr => ∃ n : Nat, n ≤ cs.length ∧ iv = .int .i64 n ∧ Hid (∀ k (hk : k < cs.length), k < n → (likeP c) cs[k] = false) ∧ Hid (Below w.heap.size w wr)) (fun iv _ => cs.length - (intOf iv).toNat)
  case atStart => exact ⟨0, Nat.zero_le _, rfl, fun k _ hk => absurd hk (Nat.not_lt_zero k), Below.refl _ _⟩
  case round =>
    obtain ⟨n, hle, rfl, HN, HB⟩ := hrel
    by_cases cn : n < cs.length
    · rcases HA.out.below HB.out with e | ⟨b, off, rfl, hcc⟩
      · rw [e] at cn; simp at cn
      obtain ⟨p0, p1, p2⟩ := hcc n cn
      have T := Lib.hid (schlikec_any cs[n] c cb wr (HP.out.below HB.out))
      have hni : (n : Int) < (cs.length : Int) := by omega
      obtain ⟨S, hS⟩ : ∃ S, S = (likeP c) cs[n] := ⟨_, rfl⟩
      have T : Hid (Calls Try.prog 90 #[.agg #[.int .i64 cs[n].id, .string cs[n].nm, .int .i64 cs[n].kd], .pointer (some ⟨cb, 0, none⟩)] wr fun e w' => e = .returned (.bool S) ∧ Below wr.heap.size wr w') := by rw [hS]; exact T
      have HS := Lib.hid hS
      have HCN := Lib.hid cn
      clear hcc hS
      have HCN2 := Lib.hid cn
      generalize hv : cs[n] = v at p0 p1 p2 T
      clear hv
      cases S
      · go_wp2_with (go_at_call 90; refine T.out.mono ?_; rintro e w1 ⟨rfl, hb⟩; have HB1 := Lib.hid (HB.out.trans (hb.mono HB.out.size)); clear hb)
        go_roundw
        case rel => exact ⟨n + 1, by omega, by go_num, fun k hk hkn => by
          rcases Nat.lt_or_ge k n with h | h
          · exact HN.out k hk h
          · obtain rfl : k = n := by omega
            exact HS.out.symm, HB1⟩
        case measure => simp [intOf]; omega
      · obtain rfl : R = (n : Int) := HR.out.trans (idx_at HCN2.out HS.out.symm HN.out)
        clear HR
        go_wp2_with (go_at_call 90; refine T.out.mono ?_; rintro e w1 ⟨rfl, hb⟩; have HB1 := Lib.hid (HB.out.trans (hb.mono HB.out.size)); clear hb)
        go_ret
        exact ⟨rfl, HB1.out⟩
    · obtain rfl : n = cs.length := by omega
      obtain rfl : R = -1 := HR.out.trans (idx_none fun k hk => HN.out k hk hk)
      clear cn HR
      go_wp2
      go_ret
      exact ⟨rfl, HB.out⟩

set_option maxRecDepth 100000 in
theorem holds_like (c : Co) (cb : Nat) (w : World) (a : Option Addr) (cap : Nat) (cs : List Co) (ha : IsCo w a cs) (hl : cs.length ≤ maxLen) (hp : CoAt w cb 0 c) :
    Calls Try.prog 89 #[.slice a cs.length cap, .func (.func 90) #[] #[.pointer (some ⟨cb, 0, none⟩)]] w fun e w' => e = .returned (.bool (cs.any (likeP c))) ∧ Below w.heap.size w w' := by
  have T := Lib.hid (index_like c cb w a cap cs ha hl hp)
  have h := idx_ge (likeP c) cs
  generalize cs.any (likeP c) = R at *
  generalize idxA (likeP c) cs = k at *
  go_enter Try.func89, Try.ntmps89
  go_wp2_with (go_at_call 66; refine T.out.mono ?_; rintro e w1 ⟨rfl, hb⟩; have HB1 := Lib.hid hb; clear hb)
  go_ret
  exact ⟨rfl, HB1.out⟩
set_option maxRecDepth 100000 in
theorem schlike_any (c : Co) (w : World) (a : Option Addr) (cap : Nat) (cs : List Co) (ha : IsCo w a cs) (hl : cs.length ≤ maxLen) :
    Calls Try.prog 63 #[.agg #[.int .i64 c.id, .string c.nm, .int .i64 c.kd], .slice a cs.length cap] w fun e w' => e = .returned (.bool (cs.any (likeP c))) ∧ Below w.heap.size w w' := by
  obtain ⟨u, hu⟩ : ∃ u, u = w.alloc (.cells #[.int .i64 c.id, .string c.nm, .int .i64 c.kd] 49) := ⟨_, rfl⟩
  have hc : CoAt u w.heap.size 0 c := by rw [hu]; exact CoAt.new w c
  have HB : Hid (Below w.heap.size w u) := by rw [hu]; exact (Below.refl _ _).alloc (Nat.le_refl _) _
  have T := Lib.hid (holds_like c w.heap.size u a cap cs (ha.below HB.out) hl hc)
  clear hc ha
  go_enter Try.func63, Try.ntmps63
  go_upto_region 1 with fail
  rw [← hu]
  clear hu
  go_wp2_with (go_at_call 89; refine T.out.mono ?_; rintro e w1 ⟨rfl, hb⟩; have HB1 := Lib.hid (HB.out.trans (hb.mono HB.out.size)); clear hb)
  go_ret
  exact ⟨rfl, HB1.out⟩
/-- A variable of type Schema. -/
structure ScSlot (w : World) (g : Nat) (a : Option Addr) (c : Nat) (s : Sc) : Prop where
  b : w.heap[g]? = some (.cells #[.int .i64 s.id, .slice a s.cs.length c, .int .i64 s.next] 24 (0, 0))
theorem ScSlot.at {w : World} {g : Nat} {a : Option Addr} {c : Nat} {s : Sc} (h : ScSlot w g a c s) : w.cell? ⟨g, 0, none⟩ = some (.int .i64 s.id) ∧ w.cell? ⟨g, 1, none⟩ = some (.slice a s.cs.length c) ∧ w.cell? ⟨g, 2, none⟩ = some (.int .i64 s.next) :=
  ⟨cell_of_row _ _ _ _ _ _ h.b, cell_of_row _ _ _ _ _ _ h.b, cell_of_row _ _ _ _ _ _ h.b⟩
theorem ScSlot.froz {w : World} {g : Nat} {a : Option Addr} {c : Nat} {s : Sc} (h : ScSlot w g a c s) : w.frozen? ⟨g, 0, none⟩ = false ∧ w.frozen? ⟨g, 1, none⟩ = false ∧ w.frozen? ⟨g, 2, none⟩ = false :=
  ⟨frozen_of_row w g 0 _ _ h.b, frozen_of_row w g 1 _ _ h.b, frozen_of_row w g 2 _ _ h.b⟩
theorem ScSlot.same {w w' : World} {g : Nat} {a : Option Addr} {c : Nat} {s : Sc} (h : ScSlot w g a c s) (hb : w'.heap[g]? = w.heap[g]?) : ScSlot w' g a c s := ⟨by rw [hb]; exact h.b⟩
theorem ScSlot.lt {w : World} {g : Nat} {a : Option Addr} {c : Nat} {s : Sc} (h : ScSlot w g a c s) : g < w.heap.size := (Array.getElem?_eq_some_iff.1 h.b).1
theorem ScSlot.below {w w' : World} {g : Nat} {a : Option Addr} {c : Nat} {s : Sc} (h : ScSlot w g a c s) (hb : Below w.heap.size w w') : ScSlot w' g a c s := h.same (hb.block g h.lt)
theorem ScSlot.frm {w w' : World} {g : Nat} {a : Option Addr} {c : Nat} {s : Sc} {F : Nat → Prop} (h : ScSlot w g a c s) (hf : Frm F w w') (hF : ¬ F g) : ScSlot w' g a c s := h.same (hf.block g h.lt hF)
theorem ScSlot.new (w : World) (a : Option Addr) (c : Nat) (s : Sc) : ScSlot (w.alloc (.cells #[.int .i64 s.id, .slice a s.cs.length c, .int .i64 s.next] 24)) w.heap.size a c s := ⟨heap_alloc_new w _⟩
theorem may_no12 {s : Sc} (h : bndSc s = false) : maySc s = false := by unfold maySc; rw [h]; rfl
theorem may_bad12 {s : Sc} {n : Nat} (hn : n < s.cs.length) (h : okAtS s.next s.cs n = false) : maySc s = false := by
  unfold maySc
  have : (List.range s.cs.length).all (okAtS s.next s.cs) = false := List.all_eq_false.2 ⟨n, List.mem_range.2 hn, by rw [h]; simp⟩
  rw [this, Bool.and_false]
theorem may_good12 {s : Sc} (hb : bndSc s = true) (h : ∀ n, n < s.cs.length → okAtS s.next s.cs n = true) : maySc s = true := by
  unfold maySc
  rw [hb, Bool.true_and, List.all_eq_true]
  exact fun n hn => h n (List.mem_range.1 hn)
set_option maxRecDepth 100000 in
set_option maxHeartbeats 1000000 in
theorem schmay_any (w : World) (a : Option Addr) (cap : Nat) (s : Sc) (ha : IsCo w a s.cs) (hl : s.cs.length ≤ maxLen) (hcap : s.cs.length ≤ cap) :
    Calls Try.prog 20 #[.agg #[.int .i64 s.id, .slice a s.cs.length cap, .int .i64 s.next]] w fun e w' => e = .returned (.bool (maySc s)) ∧ Below w.heap.size w w' := by
  unfold maxLen at hl
  obtain ⟨u, hu⟩ : ∃ u, u = w.alloc (.cells #[.int .i64 s.id, .slice a s.cs.length cap, .int .i64 s.next] 24) := ⟨_, rfl⟩
  have HS : Hid (ScSlot u w.heap.size a cap s) := by rw [hu]; exact ScSlot.new w a cap s
  have HB : Hid (Below w.heap.size w u) := by rw [hu]; exact (Below.refl _ _).alloc (Nat.le_refl _) _
  have HA := Lib.hid (ha.below HB.out)
  clear ha
  obtain ⟨b0, b1, b2⟩ := HS.out.at
  obtain ⟨R, hR⟩ : ∃ R, R = maySc s := ⟨_, rfl⟩
  rw [← hR]
  have HR := Lib.hid hR
  clear hR
  by_cases hb : bndSc s = true
  · have hb2 := hb
    unfold bndSc at hb2
    rw [decide_eq_true_eq] at hb2
    have d1 : decide (s.id < 0) = false := decide_eq_false (by omega)
    have d2 : decide (2147483647 < s.id) = false := decide_eq_false (by omega)
    have d3 : decide (2147483647 < s.next) = false := decide_eq_false (by omega)
    have d4 : decide ((s.cs.length : Int) < 1) = false := decide_eq_false (by omega)
    have d5 : decide ((12 : Int) < (s.cs.length : Int)) = false := decide_eq_false (by omega)
    have HBN := Lib.hid hb
    have HB2 := Lib.hid hb2
    clear hb hb2
    go_enter Try.func20, Try.ntmps20
    go_upto_region 1 with fail
    rw [← hu]
    clear hu
    go_wp2
    clear d1 d2 d3 d4 d5
    go_loopw [33] (fun iv wr => ∃ n : Nat, n ≤ s.cs.length ∧ iv = .int .i64 n ∧ Hid (∀ k, k < n → okAtS s.next s.cs k = true) ∧ Hid (Below u.heap.size u wr)) (fun iv _ => s.cs.length - (intOf iv).toNat)
    case atStart => exact ⟨0, Nat.zero_le _, rfl, fun k hk => absurd hk (Nat.not_lt_zero k), Below.refl _ _⟩
    case round =>
      clear b0 b1 b2
      obtain ⟨n, hle, rfl, HN, HX⟩ := hrel
      obtain ⟨b0, b1, b2⟩ := (HS.out.below HX.out).at
      by_cases cn : n < s.cs.length
      · have hac := HA.out.below HX.out
        have htk := hac.take n
        rcases hac with e | ⟨b, off, rfl, hcc⟩
        · rw [e] at cn; simp at cn
        have hco := hcc n cn
        obtain ⟨p0, p1, p2⟩ := hco
        have hok : okAtS s.next s.cs n = (okCol s.next s.cs[n] && !((s.cs.take n).any (likeP s.cs[n]))) := by
          unfold okAtS
          rw [getD_in cn, like_any, Bool.not_not]
        have htl : (s.cs.take n).length = n := by rw [List.length_take]; omega
        have HOK := Lib.hid hok
        obtain ⟨w2, hw2⟩ : ∃ w2, w2 = wr.alloc (.cells #[.int .i64 s.cs[n].id, .string s.cs[n].nm, .int .i64 s.cs[n].kd] 49) := ⟨_, rfl⟩
        have hb2 : Below wr.heap.size wr w2 := by rw [hw2]; exact (Below.refl _ _).alloc (Nat.le_refl _) _
        have HCO := Lib.hid (show CoAt w2 wr.heap.size 0 s.cs[n] by rw [hw2]; exact CoAt.new wr s.cs[n])
        have HX2 := Lib.hid (HX.out.trans (hb2.mono HX.out.size))
        have T1 := Lib.hid (fun v => stand_any s.cs[n] s.next v)
        have T2 := Lib.hid (fun (v : World) (hv : Below w2.heap.size w2 v) => schlike_any s.cs[n] v (some ⟨b, off, none⟩) cap (s.cs.take n) ((htk.below hb2).below hv) (by rw [htl]; unfold maxLen; omega))
        rw [htl] at T2
        have hni : (n : Int) < (s.cs.length : Int) := by omega
        have hnc : (n : Int) ≤ (cap : Int) := by omega
        have hnc2 : n ≤ cap := by omega
        have HCN := Lib.hid cn
        clear hok hcc htk htl hb2
        have hw2' := hw2
        generalize okCol s.next s.cs[n] = K1 at *
        generalize (s.cs.take n).any (likeP s.cs[n]) = K2 at *
        generalize s.cs[n] = v at *
        go_upto_region 7 with fail
        rw [← hw2]
        clear hw2 hw2' b0 b1 b2 p0 p1 p2
        generalize wr.heap.size = gc at *
        obtain ⟨q0, q1, q2⟩ := HCO.out
        obtain ⟨b0, b1, b2⟩ := (HS.out.below HX2.out).at
        cases K1 with
        | false =>
          obtain rfl : R = false := HR.out.trans (may_bad12 HCN.out (by rw [HOK.out]; rfl))
          clear HR
          refine region_class (fun w' => Below w2.heap.size w2 w') (by kernel_rfl) (by kernel_rfl) (Below.refl _ _).drew ?_
          clear b0 b1 b2 q0 q1 q2
          repeat (
            refine wpQuiet_step (fun K9 hK => ?_)
            go_simp
            first
            | (refine hK _ ?_; clear hK K9)
            | (apply Exists.intro
               refine ⟨fun v1 hv1 => ?_, hK _ ?_⟩
               (first
                 | (exact rfl)
                 | (go_at_call 62; exact (T1.out v1).mono fun e w3 ⟨he, hb⟩ => ⟨he, hv1.trans (hb.mono hv1.size)⟩)
                 | (go_at_call 63; exact (T2.out v1 hv1).mono fun e w3 ⟨he, hb⟩ => ⟨he, hv1.trans (hb.mono hv1.size)⟩)
                 | (obtain ⟨q0, q1, q2⟩ := HCO.out.below hv1; obtain ⟨b0, b1, b2⟩ := (HS.out.below (HX2.out.trans (hv1.mono HX2.out.size))).at; simp only [q0, q1, q2, b0, b1, b2, Result.andThen]; exact ⟨trivial, rfl⟩)
                 | (exact ⟨trivial, rfl⟩))
               clear hK K9))
          refine wpQuiet_nil ?_
          intro w9 hw9
          have HB9 := Lib.hid (HX2.out.trans (hw9.mono HX2.out.size))
          clear hw9
          go_wp2
          go_ret
          exact ⟨rfl, HB.out.trans (HB9.out.mono HB.out.size)⟩
        | true =>
          cases K2 with
          | true =>
            obtain rfl : R = false := HR.out.trans (may_bad12 HCN.out (by rw [HOK.out]; rfl))
            clear HR
            refine region_class (fun w' => Below w2.heap.size w2 w') (by kernel_rfl) (by kernel_rfl) (Below.refl _ _).drew ?_
            clear b0 b1 b2 q0 q1 q2
            repeat (
              refine wpQuiet_step (fun K9 hK => ?_)
              go_simp
              first
              | (refine hK _ ?_; clear hK K9)
              | (apply Exists.intro
                 refine ⟨fun v1 hv1 => ?_, hK _ ?_⟩
                 (first
                   | (exact rfl)
                   | (go_at_call 62; exact (T1.out v1).mono fun e w3 ⟨he, hb⟩ => ⟨he, hv1.trans (hb.mono hv1.size)⟩)
                   | (go_at_call 63; exact (T2.out v1 hv1).mono fun e w3 ⟨he, hb⟩ => ⟨he, hv1.trans (hb.mono hv1.size)⟩)
                   | (obtain ⟨q0, q1, q2⟩ := HCO.out.below hv1; obtain ⟨b0, b1, b2⟩ := (HS.out.below (HX2.out.trans (hv1.mono HX2.out.size))).at; simp only [q0, q1, q2, b0, b1, b2, Result.andThen]; exact ⟨trivial, rfl⟩)
                   | (exact ⟨trivial, rfl⟩))
                 clear hK K9))
            refine wpQuiet_nil ?_
            intro w9 hw9
            have HB9 := Lib.hid (HX2.out.trans (hw9.mono HX2.out.size))
            clear hw9
            go_wp2
            go_ret
            exact ⟨rfl, HB.out.trans (HB9.out.mono HB.out.size)⟩
          | false =>
            refine region_class (fun w' => Below w2.heap.size w2 w') (by kernel_rfl) (by kernel_rfl) (Below.refl _ _).drew ?_
            clear b0 b1 b2 q0 q1 q2
            repeat (
              refine wpQuiet_step (fun K9 hK => ?_)
              go_simp
              first
              | (refine hK _ ?_; clear hK K9)
              | (apply Exists.intro
                 refine ⟨fun v1 hv1 => ?_, hK _ ?_⟩
                 (first
                   | (exact rfl)
                   | (go_at_call 62; exact (T1.out v1).mono fun e w3 ⟨he, hb⟩ => ⟨he, hv1.trans (hb.mono hv1.size)⟩)
                   | (go_at_call 63; exact (T2.out v1 hv1).mono fun e w3 ⟨he, hb⟩ => ⟨he, hv1.trans (hb.mono hv1.size)⟩)
                   | (obtain ⟨q0, q1, q2⟩ := HCO.out.below hv1; obtain ⟨b0, b1, b2⟩ := (HS.out.below (HX2.out.trans (hv1.mono HX2.out.size))).at; simp only [q0, q1, q2, b0, b1, b2, Result.andThen]; exact ⟨trivial, rfl⟩)
                   | (exact ⟨trivial, rfl⟩))
                 clear hK K9))
            refine wpQuiet_nil ?_
            intro w9 hw9
            have HB9 := Lib.hid (HX2.out.trans (hw9.mono HX2.out.size))
            clear hw9
            go_wp2
            go_roundw
            case rel => exact ⟨n + 1, by have := HCN.out; omega, by go_num, fun k hk => by
              rcases Nat.lt_or_ge k n with h | h
              · exact HN.out k h
              · obtain rfl : k = n := by omega
                rw [HOK.out]; rfl, HB9⟩
            case measure => have := HCN.out; simp [intOf]; omega
      · obtain rfl : n = s.cs.length := by omega
        obtain rfl : R = true := HR.out.trans (may_good12 HBN.out HN.out)
        clear cn HR
        go_wp2
        go_ret
        exact ⟨rfl, HB.out.trans (HX.out.mono HB.out.size)⟩
  · have hb' : bndSc s = false := by simpa using hb
    obtain rfl : R = false := HR.out.trans (may_no12 hb')
    have hn : ¬ (0 ≤ s.id ∧ s.id ≤ 2147483647 ∧ s.next ≤ 2147483647 ∧ 1 ≤ s.cs.length ∧ s.cs.length ≤ 12) := by
      unfold bndSc at hb
      rwa [decide_eq_true_eq] at hb
    have go : ∀ (d1 d2 d3 d4 d5 : Bool), decide (s.id < 0) = d1 → decide (2147483647 < s.id) = d2 → decide (2147483647 < s.next) = d3 → decide ((s.cs.length : Int) < 1) = d4 → decide ((12 : Int) < (s.cs.length : Int)) = d5 → (d1 || d2 || d3 || d4 || d5) = true →
        Calls Try.prog 20 #[.agg #[.int .i64 s.id, .slice a s.cs.length cap, .int .i64 s.next]] w fun e w' => e = .returned (.bool false) ∧ Below w.heap.size w w' := by
      clear hn hb hb' HR HA hl hcap
      intro d1 d2 d3 d4 d5 h1 h2 h3 h4 h5 h
      have HH := Lib.hid h
      clear h
      cases d1 with
      | true => (go_enter Try.func20, Try.ntmps20; go_upto_region 1 with fail; rw [← hu]; clear hu; go_wp2; go_ret; exact ⟨rfl, HB.out⟩)
      | false =>
        cases d2 with
        | true => (go_enter Try.func20, Try.ntmps20; go_upto_region 1 with fail; rw [← hu]; clear hu; go_wp2; go_ret; exact ⟨rfl, HB.out⟩)
        | false =>
          cases d3 with
          | true => (go_enter Try.func20, Try.ntmps20; go_upto_region 1 with fail; rw [← hu]; clear hu; go_wp2; go_ret; exact ⟨rfl, HB.out⟩)
          | false =>
            cases d4 with
            | true => (go_enter Try.func20, Try.ntmps20; go_upto_region 1 with fail; rw [← hu]; clear hu; go_wp2; go_ret; exact ⟨rfl, HB.out⟩)
            | false =>
              cases d5 with
              | true => (go_enter Try.func20, Try.ntmps20; go_upto_region 1 with fail; rw [← hu]; clear hu; go_wp2; go_ret; exact ⟨rfl, HB.out⟩)
              | false => exact absurd HH.out (by decide)
    refine go _ _ _ _ _ rfl rfl rfl rfl rfl ?_
    simp only [Bool.or_eq_true, decide_eq_true_eq]
    omega
set_option maxRecDepth 100000 in
theorem schfind_any (w : World) (a : Option Addr) (cap : Nat) (s : Sc) (nm : ByteArray) (ha : IsCo w a s.cs) (hl : s.cs.length ≤ maxLen) :
    Calls Try.prog 26 #[.agg #[.int .i64 s.id, .slice a s.cs.length cap, .int .i64 s.next], .string nm] w fun e w' => e = .returned (.int .i64 (findA s.cs nm)) ∧ Below w.heap.size w w' := by
  obtain ⟨u, hu⟩ : ∃ u, u = w.alloc (.cells #[.int .i64 s.id, .slice a s.cs.length cap, .int .i64 s.next] 24) := ⟨_, rfl⟩
  obtain ⟨v, hv⟩ : ∃ v, v = u.alloc (.cells #[.string nm] 9) := ⟨_, rfl⟩
  have hb1 : Below w.heap.size w u := by rw [hu]; exact (Below.refl _ _).alloc (Nat.le_refl _) _
  have hb2 : Below u.heap.size u v := by rw [hv]; exact (Below.refl _ _).alloc (Nat.le_refl _) _
  have hsz : u.heap.size = w.heap.size + 1 := by rw [hu]; simp
  have HS : Hid (ScSlot v w.heap.size a cap s) := (show ScSlot u w.heap.size a cap s by rw [hu]; exact ScSlot.new w a cap s).below hb2
  have HB := Lib.hid (hb1.trans (hb2.mono hb1.size))
  have hp : v.cell? ⟨u.heap.size, 0, none⟩ = some (.string nm) := by rw [hv]; exact cell_of_row _ _ _ _ _ _ (heap_alloc_new u (.cells #[.string nm] 9))
  have T := Lib.hid (index_find u.heap.size nm v a cap s.cs (ha.below HB.out) hl hp)
  rw [← findA_idx, hsz] at T
  have hw : (w.alloc (.cells #[.int .i64 s.id, .slice a s.cs.length cap, .int .i64 s.next] 24)).alloc (.cells #[.string nm] 9) = v := by rw [hv, hu]
  obtain ⟨b0, b1, b2⟩ := HS.out.at
  clear hu hv hb1 hb2 hsz hp ha
  go_enter Try.func26, Try.ntmps26
  go_upto_region 1 with fail
  clear hw
  go_wp2_with (go_at_call 66; refine T.out.mono ?_; rintro e w1 ⟨rfl, hb⟩; have HB1 := Lib.hid (HB.out.trans (hb.mono HB.out.size)); clear hb)
  go_ret
  exact ⟨rfl, HB1.out⟩
end Go.Proofs.Ythfakpekdjmpjaa
