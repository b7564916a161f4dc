/- The program's schemas: a column more; a schema in memory of its own. -/
import Derived.Test.YthfakpekdjmpjaaSchB
import Derived.Test.YthfakpekdjmpjaaShelf
import Derived.Test.YthfakpekdjmpjaaQe
namespace Go.Proofs.Ythfakpekdjmpjaa
open Go.Conc Go.RowKit
set_option linter.unusedVariables false
set_option linter.unusedSimpArgs false

section
variable {w : World} {g : Nat} {a : Option Addr} {c : Nat} {s : Sc}
theorem ScSlot.setI (h : ScSlot w g a c s) (i : Int) : ScSlot (w.setCell ⟨g, 0, none⟩ (.int .i64 i)) g a c ⟨i, s.next, s.cs⟩ := ⟨heap_setCell_same _ _ _ _ _ _ h.b⟩
theorem ScSlot.setC (h : ScSlot w g a c s) (a' : Option Addr) (c' : Nat) (cs : List Co) : ScSlot (w.setCell ⟨g, 1, none⟩ (.slice a' cs.length c')) g a' c' ⟨s.id, s.next, cs⟩ := ⟨heap_setCell_same _ _ _ _ _ _ h.b⟩
theorem ScSlot.setN (h : ScSlot w g a c s) (n : Int) : ScSlot (w.setCell ⟨g, 2, none⟩ (.int .i64 n)) g a c ⟨s.id, n, s.cs⟩ := ⟨heap_setCell_same _ _ _ _ _ _ h.b⟩
def putSc (w : World) (g : Nat) (a : Option Addr) (c : Nat) (s : Sc) : World := ((w.setCell ⟨g, 0, none⟩ (.int .i64 s.id)).setCell ⟨g, 1, none⟩ (.slice a s.cs.length c)).setCell ⟨g, 2, none⟩ (.int .i64 s.next)
theorem ScSlot.put {a0 : Option Addr} {c0 : Nat} {s0 : Sc} (h : ScSlot w g a0 c0 s0) (a : Option Addr) (c : Nat) (s : Sc) : ScSlot (putSc w g a c s) g a c s := ((h.setI s.id).setC a c s.cs).setN s.next
theorem putSc_frm {F : Nat → Prop} (hg : F g) (w : World) (a : Option Addr) (c : Nat) (s : Sc) : Frm F w (putSc w g a c s) :=
  (((Frm.refl F w).setCell (p := ⟨g, 0, none⟩) hg _).setCell (p := ⟨g, 1, none⟩) hg _).setCell (p := ⟨g, 2, none⟩) hg _
/-- A store of what is there anyway. -/
theorem setCell_there {w : World} {g k : Nat} {cur : Array Value} {t : TypeId} {u : Value} (h : w.heap[g]? = some (.cells cur t (0, 0))) (hu : cur[k]? = some u) : Frm (fun _ => False) w (w.setCell ⟨g, k, none⟩ u) := by
  refine ⟨rfl, rfl, rfl, by simp [World.setCell], fun j hj _ => ?_⟩
  by_cases e : j = g
  · subst e
    rw [heap_setCell_same _ _ _ _ _ _ h, h]
    obtain ⟨hk, hv⟩ := Array.getElem?_eq_some_iff.1 hu
    have : cur.setIfInBounds k u = cur := by
      refine Array.ext_getElem? fun i => ?_
      rw [Array.getElem?_setIfInBounds]
      by_cases e : k = i
      · subst e; rw [if_pos rfl, if_pos hk, hu]
      · rw [if_neg e]
    rw [this]
  · exact Below.heap_setCell _ _ _ _ (fun e2 => e (by simpa using e2))
end
theorem own_tyS {base e size n cap : Nat} {w : World} {a : Option Addr} {xs : List Value} (h : w.ownsRow base e size (.slice a n cap) n xs) {k : Nat} (hk : At a k) : ∃ cur, w.heap[k]? = some (.cells cur e (0, 0)) := by
  rcases h.2 with ⟨hv, _⟩ | ⟨g, cp, cur, hv, hb, hg, _⟩
  · injection hv with h1; subst h1; simp [At] at hk
  · injection hv with h1; subst h1; simp [At] at hk; subst hk; exact ⟨cur, hg⟩
set_option maxRecDepth 100000 in
theorem stclone_any (s : ByteArray) (w : World) (hs : s.size ≤ 281474976710656) : Calls Try.prog 92 #[.string s] w fun e w' => e = .returned (.string s) ∧ Below w.heap.size w w' := by
  have T := Lib.hid (fun u => Try.stringslite_Clone s u hs)
  go_enter Try.func92, Try.ntmps92
  go_wp2_with (go_at_call 107; refine (T.out _).mono ?_; rintro e w3 ⟨rfl, hb3⟩; have HB := Lib.hid hb3; clear hb3)
  go_ret
  exact ⟨rfl, HB.out⟩
set_option maxRecDepth 100000 in
set_option maxHeartbeats 1000000 in
theorem schwith_any (w : World) (base : Nat) (a : Option Addr) (c : Nat) (s : Sc) (nm : ByteArray) (k : Int) (h : OwnCo base w a c s.cs) (hb : base ≤ w.heap.size) (hl : s.cs.length ≤ 4096) (hn : -9223372036854775808 ≤ s.next ∧ s.next < 9223372036854775807) :
    Calls Try.prog 54 #[.agg #[.int .i64 s.id, .slice a s.cs.length c, .int .i64 s.next], .string nm, .int .i64 k] w fun e w' => ∃ a' c', e = .returned (.agg #[.int .i64 s.id, .slice a' (s.cs ++ [(⟨s.next, nm, k⟩ : Co)]).length c', .int .i64 (s.next + 1)]) ∧ OwnCo base w' a' c' (s.cs ++ [(⟨s.next, nm, k⟩ : Co)]) ∧ Frm (At a) w w' := by
  obtain ⟨u, hu⟩ : ∃ u, u = (w.alloc (.cells #[.int .i64 s.id, .slice a s.cs.length c, .int .i64 s.next] 24)).alloc (.cells #[.int .i64 0, .slice none 0 0, .int .i64 0] 24) := ⟨_, rfl⟩
  have hsz : (w.alloc (.cells #[.int .i64 s.id, .slice a s.cs.length c, .int .i64 s.next] 24)).heap.size = w.heap.size + 1 := by simp
  have hbu : Below w.heap.size w u := by rw [hu]; exact ((Below.refl _ _).alloc (Nat.le_refl _) _).alloc (by simp) _
  have HS := Lib.hid (show ScSlot u w.heap.size a c s by rw [hu]; exact (ScSlot.new w a c s).same (Below.heap_alloc _ _ _ (by simp)))
  have HR := Lib.hid (show ScSlot u (w.heap.size + 1) none 0 zeroSc by rw [hu, ← hsz]; exact ScSlot.new _ none 0 zeroSc)
  have HO := Lib.hid (h.below hbu)
  have HB := Lib.hid hbu
  have hbz : base ≤ u.heap.size := Nat.le_trans hb hbu.size
  have hgt : ∀ j, At a j → j < w.heap.size := fun j hj => (h.at_ge hj).2
  have HGT := Lib.hid hgt
  have hwn : wrap64 (s.next + 1) = s.next + 1 := by unfold wrap64; omega
  clear hbu hsz h hb hgt
  obtain ⟨b0, b1, b2⟩ := HS.out.at
  obtain ⟨y0, y1, y2⟩ := HS.out.froz
  go_enter Try.func54, Try.ntmps54
  go_upto_region 1 with fail
  change Code.wp _ _ _ _ ((w.alloc (.cells #[.int .i64 s.id, .slice a s.cs.length c, .int .i64 s.next] 24)).alloc (.cells #[.int .i64 0, .slice none 0 0, .int .i64 0] 24))
  rw [← hu]
  clear hu
  go_upto_region 2 with (at_builtin; refine wp_co HO.out hbz (by omega) rfl _ _ rfl ⟨s.next, nm, k⟩ rfl rfl ?_; intro a' c' w2 hx hf2 hnew; have HX2 := Lib.hid hx; have HF2 := Lib.hid hf2; have hd2 := HS.out.frm hf2 (fun hk => by have := HGT.out _ hk; omega); have hr2 := HR.out.frm hf2 (fun hk => by have := HGT.out _ hk; omega); clear b0 b1 b2 y0 y1 y2; obtain ⟨b0, b1, b2⟩ := hd2.at; obtain ⟨y0, y1, y2⟩ := hd2.froz; have HD2 := Lib.hid hd2; have HR2 := Lib.hid hr2; clear hx hf2 hnew hd2 hr2)
  have hlc : (s.cs ++ [(⟨s.next, nm, k⟩ : Co)]).length = s.cs.length + 1 := by simp
  obtain ⟨w3, hw3⟩ : ∃ w3, w3 = w2.setCell ⟨w.heap.size, 1, none⟩ (.slice a' (s.cs ++ [(⟨s.next, nm, k⟩ : Co)]).length c') := ⟨_, rfl⟩
  have HD3 := Lib.hid (show ScSlot w3 w.heap.size a' c' ⟨s.id, s.next, s.cs ++ [⟨s.next, nm, k⟩]⟩ by rw [hw3]; exact HD2.out.setC a' c' _)
  have hf3 : Frm (fun j => j = w.heap.size) w2 w3 := by rw [hw3]; exact (Frm.refl (fun j => j = w.heap.size) w2).setCell (p := ⟨w.heap.size, 1, none⟩) rfl _
  have HR3 := Lib.hid (HR2.out.frm hf3 (by omega))
  have HF3 := Lib.hid hf3
  rw [hlc] at hw3
  change Code.wp _ _ _ _ (w2.setCell ⟨w.heap.size, 1, none⟩ (.slice a' (s.cs.length + 1 : Nat) c'))
  rw [← hw3]
  clear hw3 hf3 hlc b0 b1 b2 y0 y1 y2 HD2 HR2
  obtain ⟨b0, b1, b2⟩ := HD3.out.at
  obtain ⟨y0, y1, y2⟩ := HD3.out.froz
  simp only at b0 b1 b2
  go_upto_region 3 with fail
  obtain ⟨w4, hw4⟩ : ∃ w4, w4 = w3.setCell ⟨w.heap.size, 2, none⟩ (.int .i64 (s.next + 1)) := ⟨_, rfl⟩
  have HD4 := Lib.hid (show ScSlot w4 w.heap.size a' c' ⟨s.id, s.next + 1, s.cs ++ [⟨s.next, nm, k⟩]⟩ by rw [hw4]; exact HD3.out.setN _)
  have hf4 : Frm (fun j => j = w.heap.size) w3 w4 := by rw [hw4]; exact (Frm.refl (fun j => j = w.heap.size) w3).setCell (p := ⟨w.heap.size, 2, none⟩) rfl _
  have HR4 := Lib.hid (HR3.out.frm hf4 (by omega))
  have HF4 := Lib.hid (HF3.out.trans hf4)
  change Code.wp _ _ _ _ (w3.setCell ⟨w.heap.size, 2, none⟩ (.int .i64 (s.next + 1)))
  rw [← hw4]
  clear hw4 hf4 b0 b1 b2 y0 y1 y2 HD3 HR3
  obtain ⟨b0, b1, b2⟩ := HD4.out.at
  obtain ⟨z0, z1, z2⟩ := HR4.out.at
  obtain ⟨y0, y1, y2⟩ := HR4.out.froz
  simp only at b0 b1 b2 z0 z1 z2
  go_wp2
  generalize hcs : (s.cs ++ [(⟨s.next, nm, k⟩ : Co)]) = cs at *
  have hl2 : cs.length = s.cs.length + 1 := by rw [← hcs]; simp
  rw [← hl2]
  change bodyPost _ _ _ _ _ (putSc w4 (w.heap.size + 1) a' c' ⟨s.id, s.next + 1, cs⟩)
  have hp := HR4.out.put a' c' ⟨s.id, s.next + 1, cs⟩
  have hpf := putSc_frm (g := w.heap.size + 1) (F := fun j => j = w.heap.size + 1) rfl w4 a' c' ⟨s.id, s.next + 1, cs⟩
  generalize putSc w4 (w.heap.size + 1) a' c' ⟨s.id, s.next + 1, cs⟩ = w9 at *
  clear b0 b1 b2 z0 z1 z2 y0 y1 y2
  obtain ⟨b0, b1, b2⟩ := hp.at
  simp only at b0 b1 b2
  refine bodyPost_ret (v := .agg #[.int .i64 s.id, .slice a' cs.length c', .int .i64 (s.next + 1)]) (by simp [results, Try.results54, go_sem, b0, b1, b2]) rfl ?_
  refine ⟨a', c', rfl, ?_, ?_⟩
  · refine (HX2.out.frm HF4.out fun j hj hjl e => ?_).frm hpf fun j hj hjl e => ?_
    · subst e
      obtain ⟨cur, hc⟩ := own_tyS HX2.out hj
      have hs2 := HS.out.frm HF2.out (fun hk => by have := HGT.out _ hk; omega)
      rw [hs2.b] at hc
      injection hc with hc
      injection hc with _ hc _
      exact absurd hc (by decide)
    · subst e
      obtain ⟨cur, hc⟩ := own_tyS HX2.out hj
      have hs2 := HR.out.frm HF2.out (fun hk => by have := HGT.out _ hk; omega)
      rw [hs2.b] at hc
      injection hc with hc
      injection hc with _ hc _
      exact absurd hc (by decide)
  · have h1 : Frm (fun j => At a j ∨ w.heap.size ≤ j) w w9 := ((((Frm.of_below HB.out).mono fun j _ e => Or.inr e).trans (HF2.out.mono fun j _ e => Or.inl e)).trans (HF4.out.mono fun j _ e => Or.inr (by omega))).trans (hpf.mono fun j _ e => Or.inr (by omega))
    exact h1.mono fun j hj e => e.elim id fun e => by omega
set_option maxRecDepth 100000 in
theorem clonecols_any (w : World) (a : Option Addr) (cap : Nat) (xs : List Co) (ha : IsCo w a xs) (hn : a = none → xs.length = 0 ∧ cap = 0) (hx : xs.length * 32 ≤ 140737488355328) :
    Calls Try.prog 91 #[.slice a xs.length cap] w fun e w' => ∃ a' c, e = .returned (.slice a' xs.length c) ∧ OwnCo w.heap.size w' a' c xs ∧ Below w.heap.size w w' := by
  obtain ⟨i0, hi0, hz0, hz1, hz2⟩ := info_parts infoCo
  have hO : (w.alloc (.cells #[] 49)).ownsRow w.heap.size 49 3 (.slice (some ⟨w.heap.size, 0, none⟩) 0 0) 0 [] := World.ownsRow_made w #[] 0 (Nat.le_refl _) (Nat.zero_le _) rfl
  have HO := Lib.hid hO
  have HB : Hid (Below w.heap.size w (w.alloc (.cells #[] 49))) := (Below.refl _ _).alloc (Nat.le_refl _) _
  have HZ := Lib.hid hz0
  clear hz0 hO
  cases a with
  | none =>
    obtain ⟨h1, rfl⟩ := hn rfl
    have e1 : xs = [] := List.eq_nil_of_length_eq_zero h1
    subst e1
    clear hn h1 hx ha
    have hq : ∀ v : World, (binOp .eql 22 (.slice none 0 0) (.slice none 0 0)).run Try.prog v = .ok (.bool true) v := fun v => by kernel_rfl
    go_enter Try.func91, Try.ntmps91
    go_wp2
    go_ret
    exact ⟨none, 0, rfl, OwnCo.nil _ _, Below.refl _ _⟩
  | some ad =>
    have hc : ∀ j u, (rowCo xs)[j]? = some u → (w.alloc (.cells #[] 49)).cell? (ad.add j) = some u := by
      rcases ha.below HB.out with rfl | ⟨b, off, e, h⟩
      · intro j u hj; simp [rowCo] at hj
      · injection e with e
        subst e
        exact IsCo.cells h
    have HC := Lib.hid hc
    clear hc ha hn
    have hl := rowCo_length xs
    have hq : ∀ v : World, (binOp .eql 22 (.slice (some ad) xs.length cap) (.slice none 0 0)).run Try.prog v = .ok (.bool false) v := fun v => by kernel_rfl
    go_enter Try.func91, Try.ntmps91
    go_wp2_with (at_builtin; refine wpList_append_own _ rfl _ _ 22 rfl w.heap.size 49 i0 zCoVal 3 32 Try.underlying22 hi0 HZ.out hz1 hz2 rfl (by decide) (.slice (some ⟨w.heap.size, 0, none⟩) 0 0) 0 [] rfl HO.out ad xs.length cap (rowCo xs) rfl hl HC.out (rowCo_cells xs) (by simp only [maxLen]; omega) (by omega) (by simp) ?_; intro v1 w1 h1 g1 n1; rw [Nat.zero_add, List.nil_append] at h1; obtain ⟨ag, cp, rfl⟩ := own_form h1; have H1 := Lib.hid h1; have G1 := Lib.hid g1; clear h1 g1 n1)
    go_ret
    refine ⟨ag, cp, rfl, H1.out, ?_⟩
    have hb := HB.out
    have hg := G1.out
    exact ⟨hg.os.trans hb.os, hg.tape.trans hb.tape, hg.output.trans hb.output, Nat.le_trans hb.size hg.size, fun k hk => (hg.block k (Nat.lt_of_lt_of_le hk hb.size) (by simp [Value.ownBlock]; omega)).trans (hb.block k hk)⟩
set_option maxRecDepth 100000 in
set_option maxHeartbeats 2000000 in
theorem schowned_any (w : World) (a : Option Addr) (c : Nat) (s : Sc) (h : IsCo w a s.cs) (hn : a = none → s.cs.length = 0 ∧ c = 0) (hl : s.cs.length ≤ 4096) (hs : ∀ o ∈ s.cs, o.nm.size ≤ 281474976710656) :
    Calls Try.prog 65 #[.agg #[.int .i64 s.id, .slice a s.cs.length c, .int .i64 s.next]] w fun e w' => ∃ a' c', e = .returned (.agg #[.int .i64 s.id, .slice a' s.cs.length c', .int .i64 s.next]) ∧ OwnCo w.heap.size w' a' c' s.cs ∧ Below w.heap.size w w' := by
  obtain ⟨u, hu⟩ : ∃ u, u = (w.alloc (.cells #[.int .i64 s.id, .slice a s.cs.length c, .int .i64 s.next] 24)).alloc (.cells #[.int .i64 0, .slice none 0 0, .int .i64 0] 24) := ⟨_, rfl⟩
  have hsz : (w.alloc (.cells #[.int .i64 s.id, .slice a s.cs.length c, .int .i64 s.next] 24)).heap.size = w.heap.size + 1 := by simp
  have hbu : Below w.heap.size w u := by rw [hu]; exact ((Below.refl _ _).alloc (Nat.le_refl _) _).alloc (by simp) _
  have HS := Lib.hid (show ScSlot u w.heap.size a c s by rw [hu]; exact (ScSlot.new w a c s).same (Below.heap_alloc _ _ _ (by simp)))
  have HR := Lib.hid (show ScSlot u (w.heap.size + 1) none 0 zeroSc by rw [hu, ← hsz]; exact ScSlot.new _ none 0 zeroSc)
  have HB := Lib.hid hbu
  have T1 := Lib.hid (clonecols_any u a c s.cs (h.below hbu) hn (by omega))
  have HN := Lib.hid hs
  clear hbu hsz h hn hs
  obtain ⟨b0, b1, b2⟩ := HS.out.at
  obtain ⟨y0, y1, y2⟩ := HS.out.froz
  go_enter Try.func65, Try.ntmps65
  go_upto_region 1 with fail
  change Code.wp _ _ _ _ ((w.alloc (.cells #[.int .i64 s.id, .slice a s.cs.length c, .int .i64 s.next] 24)).alloc (.cells #[.int .i64 0, .slice none 0 0, .int .i64 0] 24))
  rw [← hu]
  clear hu
  go_upto_region 2 with (go_at_call 91; refine T1.out.mono ?_; rintro e w2 ⟨a', c', rfl, ho, hb⟩; have HO2 := Lib.hid ho; have HB2 := Lib.hid hb; clear b0 b1 b2 y0 y1 y2; have hd2 := HS.out.below hb; obtain ⟨b0, b1, b2⟩ := hd2.at; obtain ⟨y0, y1, y2⟩ := hd2.froz; have HD2 := Lib.hid hd2; clear ho hb hd2)
  obtain ⟨w3, hw3⟩ : ∃ w3, w3 = w2.setCell ⟨w.heap.size, 1, none⟩ (.slice a' s.cs.length c') := ⟨_, rfl⟩
  have HD3 := Lib.hid (show ScSlot w3 w.heap.size a' c' s by rw [hw3]; exact HD2.out.setC a' c' s.cs)
  have hf3 : Frm (fun j => j = w.heap.size) w2 w3 := by rw [hw3]; exact (Frm.refl (fun j => j = w.heap.size) w2).setCell (p := ⟨w.heap.size, 1, none⟩) rfl _
  have hul : w.heap.size + 2 ≤ u.heap.size := by have := HR.out.lt; omega
  have HR3 := Lib.hid ((HR.out.below HB2.out).frm hf3 (by omega))
  have HO3 := Lib.hid (HO2.out.frm hf3 fun k hk _ e => by have := (HO2.out.at_ge hk).1; omega)
  have HB3 := Lib.hid (Frm.to_below (HB.out.trans (HB2.out.mono HB.out.size)) hf3 (fun k e => by rw [e]; exact Nat.le_refl _) (Nat.le_refl _))
  change Code.wp _ _ _ _ (w2.setCell ⟨w.heap.size, 1, none⟩ (.slice a' s.cs.length c'))
  rw [← hw3]
  clear hw3 hf3 b0 b1 b2 y0 y1 y2 HD2 HO2 HB2 T1
  obtain ⟨b0, b1, b2⟩ := HD3.out.at
  go_wp2
  go_loopw [11] (fun iv wr => ∃ n : Nat, n ≤ s.cs.length ∧ iv = .int .i64 n ∧ Hid (Below w3.heap.size w3 wr)) (fun iv _ => s.cs.length - (intOf iv).toNat)
  case atStart => exact ⟨0, Nat.zero_le _, rfl, Below.refl _ _⟩
  case round =>
    clear b0 b1 b2
    obtain ⟨n, hle, rfl, HX⟩ := hrel
    by_cases cn : n < s.cs.length
    · obtain ⟨g, hga⟩ := HO3.out.there (by intro e; rw [e] at cn; simp at cn)
      subst hga
      have hco := HO3.out.get n cn
      have T := Lib.hid (fun v => stclone_any s.cs[n].nm v (HN.out _ (List.getElem_mem cn)))
      obtain ⟨cur, hcur⟩ := own_tyS HO3.out (k := g) rfl
      have hcn : cur[n * 3 + 1]? = some (.string s.cs[n].nm) := by have := hco.c1; rwa [cell_of_row _ _ _ _ _ _ hcur] at this
      have hni : (n : Int) < (s.cs.length : Int) := by omega
      have HCO := Lib.hid hco
      have HCU := Lib.hid hcur
      have HCN := Lib.hid hcn
      have hc1 := hco.c1
      clear hco hcur hcn
      generalize s.cs[n] = v at *
      obtain ⟨vi, vn, vk⟩ := v
      simp only at T hc1 HCN
      go_upto_region 5 with fail
      refine region_class_tail (fun w' => Below wr.heap.size wr w') 10 (by kernel_rfl) (by kernel_rfl) (Below.refl _ _).drew ?_
      simp only [List.take_succ_cons, List.take_zero, List.drop_succ_cons, List.drop_zero]
      repeat (
        refine wpQuiet_step (fun K9 hK => ?_)
        go_simp
        first
        | (refine hK _ ?_; clear hK K9)
        | (apply Exists.intro
           refine ⟨fun v1 hv1 => ?_, hK _ ?_⟩
           (first
             | (exact rfl)
             | (go_at_call 92; exact (T.out v1).mono fun e w9 ⟨he, hb⟩ => ⟨he, hv1.trans (hb.mono hv1.size)⟩)
             | (obtain ⟨b0, b1, b2⟩ := (HD3.out.below (HX.out.trans (hv1.mono HX.out.size))).at; simp only [b0, b1, b2, Result.andThen]; exact ⟨trivial, rfl⟩)
             | (have q1 := (HCO.out.below (HX.out.trans (hv1.mono HX.out.size))).c1; simp only at q1; simp only [q1, Result.andThen]; exact ⟨trivial, rfl⟩)
             | (exact ⟨trivial, rfl⟩))
           clear hK K9))
      refine wpQuiet_nil ?_
      intro w7 hw7
      have hx7 := HX.out.trans (hw7.mono HX.out.size)
      have hcu7 : w7.heap[g]? = some (.cells cur 49 (0, 0)) := (hx7.block g (Array.getElem?_eq_some_iff.1 HCU.out).1).trans HCU.out
      have q1 := cell_of_row w7 g (n * 3 + 1) _ _ _ hcu7
      rw [HCN.out] at q1
      have q2 := frozen_of_row w7 g (n * 3 + 1) _ _ hcu7
      have HX7 := Lib.hid hx7
      have HCU7 := Lib.hid hcu7
      clear hw7 hx7 hcu7 hc1
      go_wp2
      go_roundw
      case rel => exact ⟨n + 1, by omega, by go_num, HX7.out.trans ((Frm.below (B := w7.heap.size) ((setCell_there HCU7.out HCN.out).mono fun _ _ e => e.elim) (Nat.le_refl _)).mono HX7.out.size)⟩
      case measure => simp [intOf]; omega
    · obtain rfl : n = s.cs.length := by omega
      clear cn
      have HD7 := Lib.hid (HD3.out.below HX.out)
      have HR7 := Lib.hid (HR3.out.below HX.out)
      obtain ⟨b0, b1, b2⟩ := HD7.out.at
      obtain ⟨z0, z1, z2⟩ := HR7.out.at
      obtain ⟨y0, y1, y2⟩ := HR7.out.froz
      go_wp2
      change bodyPost _ _ _ _ _ (putSc wr (w.heap.size + 1) a' c' s)
      have hp := HR7.out.put a' c' s
      have hpf := putSc_frm (g := w.heap.size + 1) (F := fun j => j = w.heap.size + 1) rfl wr a' c' s
      generalize putSc wr (w.heap.size + 1) a' c' s = w9 at *
      clear b0 b1 b2 z0 z1 z2 y0 y1 y2
      obtain ⟨b0, b1, b2⟩ := hp.at
      refine bodyPost_ret (v := .agg #[.int .i64 s.id, .slice a' s.cs.length c', .int .i64 s.next]) (by simp [results, Try.results65, go_sem, b0, b1, b2]) rfl ?_
      refine ⟨a', c', rfl, ?_, Frm.to_below (HB3.out.trans (HX.out.mono HB3.out.size)) hpf (fun k e => by rw [e]; omega) (Nat.le_refl _)⟩
      have ho := HO3.out.below HX.out
      exact (ho.frm hpf fun k hk _ e => by have := (ho.at_ge hk).1; omega).lower (by omega)
end Go.Proofs.Ythfakpekdjmpjaa
