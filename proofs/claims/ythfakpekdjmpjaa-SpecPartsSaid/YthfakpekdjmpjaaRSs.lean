/- A list of one-cell things gets one more, as many as memory holds. Lists of lists of values of one's own. What the walks over parts share: an answer of a part and an errno whatever their order; which blocks lie apart; parts are plain. The document's specs: Split. -/
import Derived.Test.YthfakpekdjmpjaaOneL
import Derived.Test.YthfakpekdjmpjaaValL
import Derived.Test.YthfakpekdjmpjaaRSq
import Derived.Test.YthfakpekdjmpjaaSpcS
import Derived.BigQuiet
namespace Go.Proofs.Ythfakpekdjmpjaa
open Go.Conc Go.RowKit
set_option linter.unusedVariables false
set_option linter.unusedSimpArgs false

/-- One element more at a row's end. -/
theorem run_append_oneW {e sl : TypeId} {zv : Value} {B : Nat} (O : OneT e sl zv B) (w : World) (base : Nat) (hbase : base ≤ w.heap.size) (v : Value) (n : Nat) (xs p : List Value) (hown : w.ownsRow base e 1 v n xs) (hxl : xs.length = n * 1) (hl0 : n ≤ 100000000000000) (hl : (n + 1) * B ≤ 140737488355328) (hp : p.length = 1) (hp1 : ∀ u ∈ p, u.oneCell' = true)
    (a : Addr) (c : Nat) (hnews : ∀ j u, p[j]? = some u → w.cell? (a.add j) = some u) :
    ∃ v' w', (∀ ty, (Builtin.append_ #[sl, sl] ty #[v, .slice (some a) 1 c]).run Try.prog w = .ok v' w') ∧ w'.ownsRow base e 1 v' (n + 1) (xs ++ p) ∧ w.grownBy w' v.ownBlock ∧ (∀ k, v'.ownBlock = some k → v.ownBlock = some k ∨ w.heap.size ≤ k) := by
  obtain ⟨i0, hi, hz0, hz1, hz2⟩ := info_parts O.info
  have hB := O.byt
  have hBn := Nat.mul_le_mul_left (n + 1) O.byt
  have hpl : p.length = 1 * i0.size := by rw [hz1, hp]
  have hpx : (xs ++ p).length = (n + 1) * 1 := by rw [List.length_append, hxl, hp]; omega
  have grown : ∀ (old : Nat), old < n + 1 →
      (w.drew.alloc (.cells (xs.toArray ++ p.toArray ++ Builtin.zeroCells zv.cells (grownCap w (n + 1) old e - (n + 1))) e)).ownsRow base e 1
        (.slice (some ⟨w.heap.size, 0, none⟩) (n + 1) (grownCap w (n + 1) old e)) (n + 1) (xs ++ p) := by
    intro old ho
    have hge := grownCap_ge w (n + 1) old e
    have hcm : grownCap w (n + 1) old e ≤ maxLen := grownCap_le_maxLen w (n + 1) old e (by simp only [maxLen]; omega)
    refine ⟨hpx, .inr ⟨w.heap.size, _, _, rfl, hbase, heap_alloc_new w.drew _, hge, hcm, ?_, ?_⟩⟩
    · simp only [Array.size_append, List.size_toArray, size_zeroCells, hxl, hp]
      rw [O.zero]
      omega
    · simp only [Array.toList_append]
      rw [show (xs ++ p ++ (Builtin.zeroCells zv.cells (grownCap w (n + 1) old e - (n + 1))).toList) = (xs ++ p) ++ (Builtin.zeroCells zv.cells (grownCap w (n + 1) old e - (n + 1))).toList from rfl, ← hpx]
      exact List.take_left
  rcases hown.2 with ⟨rfl, h0⟩ | ⟨g, cap, cur, rfl, hb, hgg, hnc, hcm, hcs, htake⟩
  · have e0 : xs = [] := List.eq_nil_of_length_eq_zero (by omega)
    subst e0 h0
    have gr := grown 0 (by omega)
    refine ⟨_, _, fun ty => run_append_nil w sl ty e i0 zv O.und hi hz0 a 1 c p hpl hnews (by omega) (by omega) (by rw [hz2]; omega), by simpa using gr, ⟨rfl, rfl, rfl, by simp, fun k hk _ => Below.heap_alloc w.drew _ k hk⟩, ?_⟩
    intro k hk
    simp [Value.ownBlock] at hk
    exact .inr (by omega)
  · by_cases hroom : n + 1 ≤ cap
    · have hfit : n * i0.size + p.length ≤ cur.size := by rw [hcs, hz1, hp]; omega
      have hlt : (cur.toList.take (n * 1) ++ p).length = (n + 1) * 1 := by rw [htake]; exact hpx
      refine ⟨_, _, fun ty => run_append_room w sl ty e i0 O.und hi g n cap cur hgg a 1 c p hpl hnews hp1 hroom hfit, ⟨hpx, .inr ⟨g, cap, _, rfl, hb, setRow_heap w g cur _ e _ hgg, by omega, hcm, ?_, ?_⟩⟩, ⟨rfl, rfl, rfl, by simp, fun k _ hk => setRow_other w g k _ (fun e => hk (by rw [e]; rfl))⟩, fun k hk => .inl hk⟩
      · simp only [List.size_toArray, List.length_append, List.length_take, List.length_drop, Array.length_toList]
        omega
      · rw [hz1, ← htake, List.append_assoc]
        rw [← List.append_assoc, ← hlt]
        exact List.take_left
    · have hr := fun ty => run_append_grow (P := Try.prog) w sl ty e i0 zv O.und hi hz0 ⟨g, 0, none⟩ n cap xs (by rw [hz1]; exact hxl) (hown.cells (g := g) rfl) a 1 c p hpl hnews (by omega) (by omega) (growslice_fits (by omega) (by rw [hz2]; omega))
      refine ⟨_, _, hr, grown cap (by omega), ⟨rfl, rfl, rfl, by simp, fun k hk _ => Below.heap_alloc w.drew _ k hk⟩, ?_⟩
      intro k hk
      simp [Value.ownBlock] at hk
      exact .inr (by omega)
theorem wp_oneW {e sl : TypeId} {zv : Value} {B : Nat} (O : OneT e sl zv B) {base : Nat} {w : World} {ad : Option Addr} {n cap : Nat} {xs : List Value} (h : w.ownsRow base e 1 (.slice ad n cap) n xs) (hxl : xs.length = n) (hb : base ≤ w.heap.size) (hO0 : n ≤ 100000000000000) (hO : (n + 1) * B ≤ 140737488355328)
    {ops : Array Oper} {rest : List Oper} {op : Oper} {A : Act} {Q : Exit → Act → World → Prop} (hgd : op.guard = none) (s x : Operand)
    (ho : op.op = .call { callee := .builtin .append, args := #[s, x], argTypes := #[sl, sl] }) (u : Value) (hu1 : u.oneCell' = true) (hs : A.eval s = .slice ad n cap) (hx : A.eval x = .slice (some ⟨w.heap.size, 0, none⟩) 1 1)
    (hK : ∀ ad' cap' w', w'.ownsRow base e 1 (.slice ad' (n + 1) cap') (n + 1) (xs ++ [u]) → Frm (At ad) w w' → (∀ k, At ad' k → At ad k ∨ w.heap.size < k) → wpList Try.prog ops Q rest (A.put op.dst (.slice ad' (n + 1) cap')) w') :
    wpList Try.prog ops Q (op :: rest) A (w.alloc (.cells #[u] e)) := by
  have ha : (w.alloc (.cells #[u] e)).ownsRow base e 1 (.slice ad n cap) n xs := own_same h fun k _ hk => Below.heap_alloc w _ k hk
  obtain ⟨v', w', hr, hown, hgrow, hnew⟩ := run_append_oneW O _ base (Nat.le_trans hb (by simp)) (.slice ad n cap) n xs [u] ha (by omega) hO0 hO rfl (fun z hz => by rw [List.mem_singleton.1 hz]; exact hu1) ⟨w.heap.size, 0, none⟩ 1 (one_cells w u e)
  obtain ⟨ad', cap', rfl⟩ := own_form hown
  have := hK ad' cap' w' hown (grown_frm _ hgrow (own_head h)) (grown_new _ (own_head h) (own_head hown) hnew)
  exact wpV_append_eq _ hgd s x sl sl ho _ _ hs hx (hr _) this
theorem oneVals : OneT 70 120 (.slice none 0 0) 24 := ⟨by kernel_rfl, Try.underlying120, rfl, by decide⟩
end Go.Proofs.Ythfakpekdjmpjaa

namespace Go.Proofs.Ythfakpekdjmpjaa
open Go.Conc Go.RowKit
set_option linter.unusedVariables false
set_option linter.unusedSimpArgs false

def PartPost (w : World) (r : List V × Int) (e : Ending) (w' : World) : Prop := ∃ ao co, e = .returned (.tuple #[.slice ao r.1.length co, .int .i64 r.2]) ∧ OwnV w.heap.size w' ao co r.1 ∧ Below w.heap.size w w'
def tupP (q : List V) (z : Int) (a : Option Addr) (c : Nat) : Value := .tuple #[.slice a q.length c, .int .i64 z]
def relPart (base : Nat) (q : List V) (z : Int) : Rel := ⟨fun v => ∃ a c, v = tupP q z a c, fun v w => ∀ a c, v = tupP q z a c → OwnV base w a c q⟩
theorem relPart_ok (base : Nat) (q : List V) (z : Int) : (relPart base q z).Ok := ⟨⟨_, none, 0, rfl⟩, fun v w w' h hb a c e => (h a c e).below hb⟩
theorem tupP_inj {q : List V} {z : Int} {a a' : Option Addr} {c c' : Nat} (e : tupP q z a c = tupP q z a' c') : (a, c) = (a', c') := by
  unfold tupP at e
  simp only [Value.tuple.injEq, Array.mk.injEq, List.cons.injEq, Value.slice.injEq, true_and, and_true] at e
  rw [e.1, e.2]
theorem rel_part {u w : World} {q : List V} {z : Int} {f : FuncId} {args : Array Value} (hu : Below u.heap.size u w) (h : Calls Try.prog f args w (PartPost w (q, z))) : relUpon Try.prog (fun w' => Below u.heap.size u w') (relPart u.heap.size q z) w (.ok (.enter f args) w) :=
  ⟨rfl, h.mono fun e w2 ⟨a, c, he, ho, hb⟩ => ⟨_, he, hu.trans (hb.mono hu.size), hb, ⟨a, c, rfl⟩, fun a' c' e => by
    have e2 := tupP_inj e
    cases e2
    exact ho.lower hu.size⟩⟩
theorem rel_mvP {u w : World} {q : List V} {z : Int} {a : Option Addr} {c : Nat} (hu : Below u.heap.size u w) (h : (relPart u.heap.size q z).V (tupP q z a c) w) : relUpon Try.prog (fun w' => Below u.heap.size u w') (relPart u.heap.size q z) w (.ok (.value (tupP q z a c)) w) := ⟨hu, Below.refl _ _, ⟨a, c, rfl⟩, h⟩
theorem snd_tupP {P : Program} {ops : Array Oper} {b : Act} {v : Value} {k B : Nat} {q : List V} {z : Int} (o : Oper) (ho : o.op = .extract (.tmp k) 1) (hg : o.guard = none) (hk : k < b.tmps.size) (hv : (relPart B q z).U v) : Yields P ops o (snd2 v) (b.put (some k) v) := by
  obtain ⟨a', c', rfl⟩ := hv
  exact yields_snd o ho hg hk
theorem ownTy {base e size n cap : Nat} {w : World} {a : Option Addr} {xs : List Value} (h : w.ownsRow base e size (.slice a n cap) n xs) {k : Nat} (hk : At a k) : ∃ cur, w.heap[k]? = some (.cells cur e (0, 0)) := by
  rcases h.2 with ⟨hv, _⟩ | ⟨g, cp, cur, hv, hb, hg, _⟩
  · injection hv with h1; subst h1; simp [At] at hk
  · injection hv with h1; subst h1; simp [At] at hk; subst hk; exact ⟨cur, hg⟩
theorem ownTypes {b1 e1 s1 n1 c1 b2 e2 s2 n2 c2 : Nat} {w : World} {a1 a2 : Option Addr} {x1 x2 : List Value} (hne : e1 ≠ e2) (h1 : w.ownsRow b1 e1 s1 (.slice a1 n1 c1) n1 x1) (h2 : w.ownsRow b2 e2 s2 (.slice a2 n2 c2) n2 x2) {k : Nat} (hk : At a1 k) : ¬ At a2 k := fun hk2 => by
  obtain ⟨c1, e1⟩ := ownTy h1 hk
  obtain ⟨c2, e2⟩ := ownTy h2 hk2
  rw [e1] at e2
  injection e2 with e2
  injection e2 with _ e2 _
  exact hne e2
theorem partL_ok (fs : List Fd) (cs : List Co) (r : List V) (hr : ∀ v ∈ r, v.s.size ≤ 140737488355328) : ∀ v ∈ partL fs cs r, plainV v = v ∧ v.s.size ≤ 9223372036854775807 := by
  intro v hv
  unfold partL at hv
  rw [List.mem_map] at hv
  obtain ⟨f, _, rfl⟩ := hv
  refine ⟨madeV_plain _ _, Nat.le_trans (madeV_size _ _) ?_⟩
  generalize (placeA cs f.src).toNat = j
  by_cases hj : j < r.length
  · have := hr (r.getD j zeroV) (by rw [List.getD_eq_getElem?_getD, List.getElem?_eq_getElem hj]; exact List.getElem_mem hj)
    omega
  · rw [List.getD_eq_getElem?_getD, List.getElem?_eq_none (by omega)]
    decide
/-- Cells of a list of lists. -/
def rowCs (us : List (Option Addr × Nat)) (ws : List (List V)) : List Value := List.zipWith (fun u (r : List V) => Value.slice u.1 r.length u.2) us ws
theorem rowCs_length {us : List (Option Addr × Nat)} {ws : List (List V)} (h : us.length = ws.length) : (rowCs us ws).length = ws.length := by unfold rowCs; rw [List.length_zipWith, h]; omega
theorem rowCs_snoc {us : List (Option Addr × Nat)} {ws : List (List V)} (h : us.length = ws.length) (a : Option Addr) (c : Nat) (r : List V) : rowCs (us ++ [(a, c)]) (ws ++ [r]) = rowCs us ws ++ [.slice a r.length c] := by unfold rowCs; rw [List.zipWith_append h]; rfl
theorem rowCs_get {us : List (Option Addr × Nat)} {ws : List (List V)} {i : Nat} (h1 : i < us.length) (h2 : i < ws.length) : (rowCs us ws)[i]? = some (.slice us[i].1 ws[i].length us[i].2) := by
  unfold rowCs
  rw [List.getElem?_zipWith, List.getElem?_eq_getElem h1, List.getElem?_eq_getElem h2]
theorem own_readV {base : Nat} {w : World} {g n cap : Nat} {cs : List Value} (h : w.ownsRow base 70 1 (.slice (some ⟨g, 0, none⟩) n cap) n cs) (j : Nat) (u : Value) (hj : cs[j]? = some u) : w.cell? ⟨g, j, none⟩ = some u := by
  have := h.cells (g := g) rfl j u hj
  rwa [addr_off, Nat.zero_add] at this
end Go.Proofs.Ythfakpekdjmpjaa

namespace Go.Proofs.Ythfakpekdjmpjaa
open Go.Conc Go.RowKit
set_option linter.unusedVariables false
set_option linter.unusedSimpArgs false

/-- What the document's Split has behind n rows. -/
structure DSt (w v wr : World) (fa a : Option Addr) (fcap cap : Nat) (p : Sp) (s : Sc) (rs : List (List V)) (n : Nat) (ap : Option Addr) (cp : Nat) (us : List (Option Addr × Nat)) (ws : List (List V)) (ai : Option Addr) (ci : Nat) (at_ : List Int) : Prop where
  is : grpA ((rs.map (partL p.fs s.cs)).take n) = (ws, at_)
  p2 : P2 w wr fa a fcap cap p s
  low : w.heap.size + 1 < v.heap.size
  nums : OwnI v.heap.size wr ai ci at_
  parts : wr.ownsRow v.heap.size 70 1 (.slice ap ws.length cp) ws.length (rowCs us ws)
  len : us.length = ws.length
  rows : ∀ i (h : i < us.length) (h2 : i < ws.length), OwnV v.heap.size wr us[i].1 us[i].2 ws[i]
  below : Below v.heap.size v wr
section
variable {w v wr w' : World} {fa a ap ap' ai ai' : Option Addr} {fcap cap cp cp' ci ci' n : Nat} {p : Sp} {s : Sc} {rs ws : List (List V)} {us : List (Option Addr × Nat)} {at_ at' : List Int}
theorem P2.frm {F : Nat → Prop} (h : P2 w wr fa a fcap cap p s) (hf : Frm F wr w') {N : Nat} (hN : w.heap.size + 1 < N) (hF : ∀ k, F k → N ≤ k) : P2 w w' fa a fcap cap p s := by
  have e : ∀ k, k ≤ w.heap.size + 1 → k < wr.heap.size → w'.heap[k]? = wr.heap[k]? := fun k h1 h2 => hf.block k h2 fun hk => by have := hF k hk; omega
  exact ⟨⟨by rw [e _ (by omega) h.sp.lt]; exact h.sp.b⟩, h.sc.same (e _ (by omega) h.sc.lt), Frm.to_below h.below hf (fun k hk => by have := hF k hk; omega) (Nat.le_refl _)⟩
theorem ty_vals_int : (70 : Nat) ≠ 3 := by decide
theorem ty_vals_val : (70 : Nat) ≠ 57 := by decide
theorem ty_int_val : (3 : Nat) ≠ 57 := by decide
theorem DSt.more (h : DSt w v wr fa a fcap cap p s rs n ap cp us ws ai ci at_) (hb : Below wr.heap.size wr w') : DSt w v w' fa a fcap cap p s rs n ap cp us ws ai ci at_ :=
  ⟨h.is, h.p2.more hb, h.low, h.nums.below hb, own_same h.parts fun k _ hk => hb.block k hk, h.len, fun i h1 h2 => (h.rows i h1 h2).below hb, h.below.trans (hb.mono h.below.size)⟩
/-- Its parts, one by one. -/
theorem DSt.part (h : DSt w v wr fa a fcap cap p s rs n ap cp us ws ai ci at_) {k : Nat} (hk : k < ws.length) : ∃ gp ak ck, ap = some ⟨gp, 0, none⟩ ∧ wr.cell? ⟨gp, k, none⟩ = some (.slice ak ws[k].length ck) ∧ IsV wr ak ws[k] := by
  have hku : k < us.length := by rw [h.len]; exact hk
  have hp := h.parts
  rcases hp.2 with ⟨hv, h0⟩ | ⟨g, cp', cur, hv, _⟩
  · have : ws.length = 0 := by simpa using h0
    omega
  · injection hv with h1
    subst h1
    exact ⟨g, us[k].1, us[k].2, rfl, own_readV hp k _ (rowCs_get hku hk), (h.rows k hku hk).isV⟩
/-- A number more: the row has a part that was there. -/
theorem DSt.old {q : List V} (h : DSt w v wr fa a fcap cap p s rs n ap cp us ws ai ci at_) (hn : n < rs.length) (hq : q = partL p.fs s.cs rs[n]) {k : Nat} (hk : placeG q ws = k) (hl : k < ws.length) (ho : OwnI v.heap.size w' ai' ci' (at_ ++ [(k : Int)])) (hf : Frm (At ai) wr w') :
    DSt w v w' fa a fcap cap p s rs (n + 1) ap cp us ws ai' ci' (at_ ++ [(k : Int)]) := by
  have hge : ∀ k, At ai k → v.heap.size ≤ k := fun k hk => (h.nums.at_ge hk).1
  refine ⟨?_, h.p2.frm hf h.low hge, h.low, ho, own_by h.parts hf fun k hk _ hk2 => ownTypes ty_vals_int h.parts h.nums hk hk2, h.len, fun i h1 h2 => (h.rows i h1 h2).frm hf fun k hk _ hk2 => ownTypes ty_int_val h.nums (h.rows i h1 h2) hk2 hk, Frm.to_below h.below hf hge (Nat.le_refl _)⟩
  rw [grpA_take _ n (by rw [List.length_map]; exact hn), h.is, List.getElem_map, ← hq]
  unfold grpStep
  simp only
  rw [if_neg (by omega), hk]
/-- A part more, then a number. -/
theorem DSt.new {u : World} {q : List V} {av : Option Addr} {cv : Nat} (h : DSt w v wr fa a fcap cap p s rs n ap cp us ws ai ci at_) (hn : n < rs.length) (hq : q = partL p.fs s.cs rs[n]) (hk : placeG q ws = ws.length) (hov : OwnV v.heap.size wr av cv q)
    (hop : u.ownsRow v.heap.size 70 1 (.slice ap' (ws.length + 1) cp') (ws.length + 1) (rowCs us ws ++ [.slice av q.length cv])) (hf0 : Frm (At ap) wr u) (ho : OwnI v.heap.size w' ai' ci' (at_ ++ [(ws.length : Int)])) (hf : Frm (At ai) u w') :
    DSt w v w' fa a fcap cap p s rs (n + 1) ap' cp' (us ++ [(av, cv)]) (ws ++ [q]) ai' ci' (at_ ++ [(ws.length : Int)]) := by
  have hgp : ∀ k, At ap k → v.heap.size ≤ k := fun k hk => (own_ge h.parts hk).1
  have hni := h.nums.frm hf0 fun k hk _ hk2 => ownTypes ty_vals_int h.parts h.nums hk2 hk
  have hge : ∀ k, At ai k → v.heap.size ≤ k := fun k hk => (h.nums.at_ge hk).1
  have h2' := h.p2.frm hf0 h.low hgp
  have hbl := Frm.to_below h.below hf0 hgp (Nat.le_refl _)
  have hr0 : ∀ i (h1 : i < us.length) (h2 : i < ws.length), OwnV v.heap.size u us[i].1 us[i].2 ws[i] := fun i h1 h2 => (h.rows i h1 h2).frm hf0 fun k hk _ hk2 => ownTypes ty_vals_val h.parts (h.rows i h1 h2) hk2 hk
  have hv0 : OwnV v.heap.size u av cv q := hov.frm hf0 fun k hk _ hk2 => ownTypes ty_vals_val h.parts hov hk2 hk
  have hall : ∀ i (h1 : i < (us ++ [(av, cv)]).length) (h2 : i < (ws ++ [q]).length), OwnV v.heap.size u (us ++ [(av, cv)])[i].1 (us ++ [(av, cv)])[i].2 (ws ++ [q])[i] := fun i h1 h2 => by
    by_cases c : i < us.length
    · have c2 : i < ws.length := by rw [← h.len]; exact c
      simp only [List.getElem_append_left c, List.getElem_append_left c2]
      exact hr0 i c c2
    · obtain rfl : i = us.length := by simp at h1; omega
      have c2 : ¬ us.length < ws.length := by rw [h.len]; omega
      have e2 : (ws ++ [q])[us.length] = q := by
        rw [List.getElem_append_right (by rw [h.len]; exact Nat.le_refl _)]; simp
      rw [e2]
      simp only [List.getElem_append_right (Nat.le_refl _), Nat.sub_self, List.getElem_singleton]
      exact hv0
  refine ⟨?_, h2'.frm hf h.low hge, h.low, ho, ?_, by rw [List.length_append, List.length_append, h.len]; rfl, fun i h1 h2 => (hall i h1 h2).frm hf fun k hk _ hk2 => ownTypes ty_int_val hni (hall i h1 h2) hk2 hk, Frm.to_below hbl hf hge (Nat.le_refl _)⟩
  · rw [grpA_take _ n (by rw [List.length_map]; exact hn), h.is, List.getElem_map, ← hq]
    unfold grpStep
    simp only
    rw [if_pos hk, hk]
  · rw [rowCs_snoc h.len, List.length_append, List.length_singleton]
    exact own_by hop hf fun k hk _ hk2 => ownTypes ty_vals_int hop hni hk hk2
end
set_option maxRecDepth 100000 in
set_option maxHeartbeats 8000000 in
theorem refsplit_any (w : World) (fa a ra : Option Addr) (fcap cap rcap : Nat) (p : Sp) (s : Sc) (rs : List (List V)) (hf : IsFd w fa p.fs) (ha : IsCo w a s.cs) (hl : s.cs.length ≤ maxLen) (hr : IsR w ra rs) (hrl : rs.length * 24 ≤ 140737488355328)
    (hv : ∀ r ∈ rs, r.length ≤ 35184372088832 ∧ ∀ v ∈ r, (-9223372036854775808 ≤ v.i ∧ v.i < 9223372036854775808) ∧ v.s.size ≤ 140737488355328) :
    Calls Try.prog 42 #[.agg #[.int .i64 p.id, .slice fa p.fs.length fcap], .agg #[.int .i64 s.id, .slice a s.cs.length cap, .int .i64 s.next], .slice ra rs.length rcap] w fun e w' => ∃ ai ci, e = .returned (.tuple #[.slice ai (splitA p s rs).1.length ci, .int .i64 (splitA p s rs).2]) ∧ OwnI w.heap.size w' ai ci (splitA p s rs).1 ∧ Below w.heap.size w w' := by
  have hP := P2.new w fa a fcap cap p s
  obtain ⟨u, hu⟩ : ∃ u, u = ((w.alloc (.cells #[.int .i64 p.id, .slice fa p.fs.length fcap] 65)).alloc (.cells #[.int .i64 s.id, .slice a s.cs.length cap, .int .i64 s.next] 24)) := ⟨_, rfl⟩
  have hus : w.heap.size + 1 < u.heap.size := by rw [hu]; simp
  rw [← hu] at hP
  have HP := Lib.hid hP
  have hw := hu.symm
  have T0 := Lib.hid (refspecmay_any u fa a fcap cap p s (hf.below hP.below) (ha.below hP.below) hl)
  have HUS := Lib.hid hus
  by_cases hm : maySp p s = true
  · rw [hm] at T0
    have HM := Lib.hid hm
    have HR := Lib.hid hr
    have HV := Lib.hid hv
    have HRL := Lib.hid hrl
    have T1 := Lib.hid (fun (x : World) (hx : Below w.heap.size w x) (ar : Option Addr) (cr : Nat) (r : List V) (h1 : IsV w ar r) h2 h3 => show Calls Try.prog 38 _ x (PartPost x (partA p s r)) from refpart_any x fa a ar fcap cap cr p s r (hf.below hx) (ha.below hx) hl (h1.below hx) h2 h3)
    obtain ⟨R, hR⟩ : ∃ R, R = splitA p s rs := ⟨_, rfl⟩
    rw [← hR]
    have HRR := Lib.hid hR
    clear hm hf ha hl hr hrl hv hR hus hu hP
    go_enter Try.func42, Try.ntmps42
    go_upto_region 1 with fail
    clear hw
    obtain ⟨c0, c1⟩ := HP.out.sp.at
    obtain ⟨b0, b1, b2⟩ := HP.out.sc.at
    go_upto_region 3 with (go_at_call 36; refine T0.out.mono ?_; rintro e v ⟨rfl, hb⟩; have HP1 := Lib.hid (HP.out.more hb); have HS1 := Lib.hid hb.size; clear hb c0 c1 b0 b1 b2 T0)
    go_upto_region 6 with fail
    have HC0 : Hid (DSt w v v fa a fcap cap p s rs 0 none 0 [] [] none 0 []) :=
      ⟨rfl, HP1.out, by have h1 := HUS.out; have h2 := HS1.out; omega, OwnI.nil _ _, World.ownsRow_nil _ _ _ _, rfl, fun i h => absurd h (Nat.not_lt_zero i), Below.refl _ _⟩
    clear HP HP1 HS1 HUS
    go_loopw [8, 9, 10] (fun pv tv iv wr => ∃ (n cp ci : Nat) (ap ai : Option Addr) (us : List (Option Addr × Nat)) (ws : List (List V)) (at_ : List Int), n ≤ rs.length ∧ pv = .slice ap ws.length cp ∧ tv = .slice ai at_.length ci ∧ iv = .int .i64 n ∧ Hid (∀ r ∈ rs.take n, rowB13 s.cs r = true) ∧ Hid (DSt w v wr fa a fcap cap p s rs n ap cp us ws ai ci at_)) (fun _ _ iv _ => rs.length - (intOf iv).toNat)
    case atStart => exact ⟨0, 0, 0, none, none, [], [], [], Nat.zero_le _, rfl, rfl, rfl, fun r hr => by simp at hr, HC0⟩
    case round =>
      obtain ⟨n, cp, ci, ap, ai, us, ws, at_, hle, rfl, rfl, rfl, HOK, HX⟩ := hrel
      by_cases cn : n < rs.length
      · obtain ⟨b, off, ar, cr, rfl, hcell, hiv⟩ := HR.out.get cn
        have hcell' := (World.cell?_of_block (HX.out.p2.below.block b (World.block_lt_of_cell? w ⟨b, off + n, none⟩ hcell))).trans hcell
        obtain ⟨hrl, hrv⟩ := HV.out rs[n] (List.getElem_mem cn)
        have T3 := Lib.hid (fun (x : World) (hx : Below wr.heap.size wr x) => T1.out x (HX.out.more hx).p2.below ar cr rs[n] hiv hrl hrv)
        obtain ⟨q, hq⟩ : ∃ q, q = partL p.fs s.cs rs[n] := ⟨_, rfl⟩
        have HQOK : Hid (∀ v ∈ q, plainV v = v ∧ v.s.size ≤ 9223372036854775807) := by unfold Hid; rw [hq]; exact partL_ok _ _ _ fun v hv => (hrv v hv).2
        have HQ4 : Hid (q.length ≤ maxLen) := by unfold Hid maxLen; rw [hq, partL_length]; have := (maysp_most HM.out).1; omega
        obtain ⟨B, hB⟩ : ∃ B, B = rowB13 s.cs rs[n] := ⟨_, rfl⟩
        have HPA : Hid (partA p s rs[n] = if B = true then (q, 0) else ([], 1300)) := by
          unfold Hid
          cases B with
          | true => rw [if_pos rfl, hq]; exact partA_yes HM.out hB.symm
          | false => rw [if_neg (by simp)]; exact partA_no (by rw [← hB, Bool.and_false])
        have HOLD := Lib.hid (fun (wr' w' : World) (ai' : Option Addr) (ci' k : Nat) (h : DSt w v wr' fa a fcap cap p s rs n ap cp us ws ai ci at_) hk hl ho hf => h.old (w' := w') (ai' := ai') (ci' := ci') (k := k) cn hq hk hl ho hf)
        have HNEW := Lib.hid (fun (wr' u w' : World) (ap' ai' av : Option Addr) (cp' ci' cv : Nat) (h : DSt w v wr' fa a fcap cap p s rs n ap cp us ws ai ci at_) hk hov hop hf0 ho hf => h.new (u := u) (w' := w') (ap' := ap') (cp' := cp') (ai' := ai') (ci' := ci') (av := av) (cv := cv) cn hq hk hov hop hf0 ho hf)
        have HBAD : Hid (B = false → R = ([], 1300)) := fun h => by rw [HRR.out]; exact splitA_bad cn (by rw [← hB]; exact h)
        have HMORE : Hid (B = true → ∀ r ∈ rs.take (n + 1), rowB13 s.cs r = true) := fun h r hr => by
          rw [← List.take_append_getElem cn] at hr
          rcases List.mem_append.1 hr with h1 | h1
          · exact HOK.out r h1
          · rw [List.mem_singleton.1 h1, ← hB]; exact h
        have HCELL := Lib.hid (fun (x : World) (hx : Below wr.heap.size wr x) => (World.cell?_of_block (hx.block b (World.block_lt_of_cell? wr ⟨b, off + n, none⟩ hcell'))).trans hcell')
        have HWS : Hid (ws.length ≤ n ∧ at_.length = n ∧ ∀ x ∈ ws, ∀ v ∈ x, plainV v = v ∧ v.s.size ≤ 9223372036854775807) := by
          have hg := grouped ((rs.map (partL p.fs s.cs)).take n)
          rw [HX.out.is] at hg
          have hln : ((rs.map (partL p.fs s.cs)).take n).length = n := by rw [List.length_take, List.length_map]; omega
          have hg1 := hg.le
          have hg2 := hg.len
          simp only at hg1 hg2
          refine ⟨by omega, by omega, fun x hx => ?_⟩
          have hm := List.mem_of_mem_take (hg.mem x hx)
          rw [List.mem_map] at hm
          obtain ⟨r, hr, rfl⟩ := hm
          exact partL_ok _ _ _ fun v hv => ((HV.out r hr).2 v hv).2
        have HW4 : Hid (∀ x ∈ ws, x.length ≤ maxLen) := fun x hx => by
          have hg := grouped ((rs.map (partL p.fs s.cs)).take n)
          rw [HX.out.is] at hg
          have hm := List.mem_of_mem_take (hg.mem x hx)
          rw [List.mem_map] at hm
          obtain ⟨r, hr, rfl⟩ := hm
          rw [partL_length]; unfold maxLen; have := (maysp_most HM.out).1; omega
        have hni : (n : Int) < (rs.length : Int) := by omega
        have hnb : (n : Int) < 5864062014806 := by have := HRL.out; omega
        have HCN := Lib.hid cn
        have hw8 : (ws.length + 1) * 24 ≤ 140737488355328 := by have h1 := HRL.out; have h2 := HWS.out.1; have := Nat.mul_le_mul_right 24 (show ws.length + 1 ≤ rs.length by omega); omega
        have hw9 : ws.length ≤ 100000000000000 := by omega
        have hib : at_.length ≤ 17592186044000 := by have h1 := HRL.out; have h2 := HWS.out.2.1; omega
        have HW8 := Lib.hid hw8
        have HW9 := Lib.hid hw9
        have HIB := Lib.hid hib
        clear hrl hrv hq hB hcell hcell' hiv hw8 hw9 hib
        generalize rs[n] = r at *
        rw [HPA.out] at T3
        clear HPA
        cases B with
        | false =>
          obtain rfl : R = ([], 1300) := HBAD.out rfl
          rw [if_neg (by simp)] at T3
          clear HBAD HMORE HOLD HNEW
          go_upto_region 8 with fail
          refine region_glue (fun w' => Below wr.heap.size wr w') 10 7 9 snd2 _ _ [0, 1, 2, 3, 4, 5, 6, 7, 8] [(6, relPart wr.heap.size ([] : List V) 1300), (7, relPart wr.heap.size ([] : List V) 1300)] [(7, 6)] (by kernel_rfl) (by kernel_rfl) rfl rfl rfl (fun R hR b v hb hu => ?_) (fun _ _ _ _ h => h) (by kernel_rfl) (ok_cons (relPart_ok _ _ _) (ok_cons (relPart_ok _ _ _) ok_nil)) (Below.refl _ _).drew (fun w1 w2 h1 h2 => h1.trans (h2.mono h1.size)) ?_
          · cases hR
            exact snd_tupP _ rfl rfl (by rw [hb]; exact of_decide_eq_true rfl) hu
          refine wpRelG_segL [0, 1, 2, 3, 4, 5] (fun l => (l.take 6).drop 0) rfl (by kernel_rfl) (by kernel_rfl) (by kernel_rfl) ?_
          simp only [List.take_succ_cons, List.take_zero, List.drop_succ_cons, List.drop_zero]
          repeat (
            first
            | go_big_quiet_skip
            | (go_big_quiet_want
               go_big_quiet_op
               first
               | go_big_quiet_on
               | (apply Exists.intro
                  refine ⟨fun v1 hv1 => ?_, ?_⟩
                  · (first
                    | (exact rfl)
                    | (obtain ⟨c0, c1⟩ := (HX.out.more hv1).p2.sp.at; simp only [c0, c1, Result.andThen]; exact ⟨trivial, rfl⟩)
                    | (obtain ⟨b0, b1, b2⟩ := (HX.out.more hv1).p2.sc.at; simp only [b0, b1, b2, Result.andThen]; exact ⟨trivial, rfl⟩)
                    | (have d0 := HCELL.out v1 hv1; simp only [d0, Result.andThen]; exact ⟨trivial, rfl⟩)
                    | (exact ⟨trivial, rfl⟩))
                  go_big_quiet_on)))
          refine wpQuiet_nil ?_
          refine wpRelG_rel (k := 6) rfl rfl (by decide) rfl (fun w5 hw5 => ?_) (fun v hv => ?_)
          · go_simp
            exact rel_part hw5.1 (T3.out w5 hw5.1)
          obtain ⟨a5, c5, rfl⟩ := hv
          simp only [Act.put, tupP, snd2_two, List.getElem_toArray, List.getElem_cons_succ, List.getElem_cons_zero, List.setIfInBounds_toArray, List.set_cons_succ, List.set_cons_zero]
          refine wpRelG_glued (p := 7) rfl rfl rfl (fun w5 hw5 => ?_) (fun v hv => ?_)
          · go_simp
            exact rel_mvP hw5.1 (hw5.2 6 rfl)
          obtain ⟨av, cv, rfl⟩ := hv
          simp only [Act.put, tupP, snd2_two, List.getElem_toArray, List.getElem_cons_succ, List.getElem_cons_zero, List.setIfInBounds_toArray, List.set_cons_succ, List.set_cons_zero]
          refine wpRelG_segL [8] (fun l => (l.take 9).drop 8) rfl (by kernel_rfl) (by kernel_rfl) (by kernel_rfl) ?_
          simp only [List.take_succ_cons, List.take_zero, List.drop_succ_cons, List.drop_zero]
          repeat (
            first
            | go_big_quiet_skip
            | (go_big_quiet_want
               go_big_quiet_op
               first
               | go_big_quiet_on
               | (apply Exists.intro
                  refine ⟨fun v1 hv1 => ?_, ?_⟩
                  · (first
                    | (exact rfl)
                    | (exact ⟨trivial, rfl⟩))
                  go_big_quiet_on)))
          refine wpQuiet_nil ?_
          refine wpRelG_nil ?_
          intro w9 hb9 hF
          have HO9 := Lib.hid ((show (relPart wr.heap.size ([] : List V) 1300).V (tupP ([] : List V) 1300 av cv) w9 from hF 7) av cv rfl)
          clear hF
          have HX9 := Lib.hid (HX.out.more hb9)
          clear hb9
          go_wp2
          go_ret2
          exact ⟨none, 0, rfl, OwnI.nil _ _, HX9.out.p2.below⟩
        | true =>
          have HMO := Lib.hid (HMORE.out rfl)
          rw [if_pos rfl] at T3
          clear HBAD HMORE
          go_upto_region 8 with fail
          refine region_glue (fun w' => Below wr.heap.size wr w') 10 7 9 snd2 _ _ [0, 1, 2, 3, 4, 5, 6, 7, 8] [(6, relPart wr.heap.size q 0), (7, relPart wr.heap.size q 0)] [(7, 6)] (by kernel_rfl) (by kernel_rfl) rfl rfl rfl (fun R hR b v hb hu => ?_) (fun _ _ _ _ h => h) (by kernel_rfl) (ok_cons (relPart_ok _ _ _) (ok_cons (relPart_ok _ _ _) ok_nil)) (Below.refl _ _).drew (fun w1 w2 h1 h2 => h1.trans (h2.mono h1.size)) ?_
          · cases hR
            exact snd_tupP _ rfl rfl (by rw [hb]; exact of_decide_eq_true rfl) hu
          refine wpRelG_segL [0, 1, 2, 3, 4, 5] (fun l => (l.take 6).drop 0) rfl (by kernel_rfl) (by kernel_rfl) (by kernel_rfl) ?_
          simp only [List.take_succ_cons, List.take_zero, List.drop_succ_cons, List.drop_zero]
          repeat (
            first
            | go_big_quiet_skip
            | (go_big_quiet_want
               go_big_quiet_op
               first
               | go_big_quiet_on
               | (apply Exists.intro
                  refine ⟨fun v1 hv1 => ?_, ?_⟩
                  · (first
                    | (exact rfl)
                    | (obtain ⟨c0, c1⟩ := (HX.out.more hv1).p2.sp.at; simp only [c0, c1, Result.andThen]; exact ⟨trivial, rfl⟩)
                    | (obtain ⟨b0, b1, b2⟩ := (HX.out.more hv1).p2.sc.at; simp only [b0, b1, b2, Result.andThen]; exact ⟨trivial, rfl⟩)
                    | (have d0 := HCELL.out v1 hv1; simp only [d0, Result.andThen]; exact ⟨trivial, rfl⟩)
                    | (exact ⟨trivial, rfl⟩))
                  go_big_quiet_on)))
          refine wpQuiet_nil ?_
          refine wpRelG_rel (k := 6) rfl rfl (by decide) rfl (fun w5 hw5 => ?_) (fun v hv => ?_)
          · go_simp
            exact rel_part hw5.1 (T3.out w5 hw5.1)
          obtain ⟨a5, c5, rfl⟩ := hv
          simp only [Act.put, tupP, snd2_two, List.getElem_toArray, List.getElem_cons_succ, List.getElem_cons_zero, List.setIfInBounds_toArray, List.set_cons_succ, List.set_cons_zero]
          refine wpRelG_glued (p := 7) rfl rfl rfl (fun w5 hw5 => ?_) (fun v hv => ?_)
          · go_simp
            exact rel_mvP hw5.1 (hw5.2 6 rfl)
          obtain ⟨av, cv, rfl⟩ := hv
          simp only [Act.put, tupP, snd2_two, List.getElem_toArray, List.getElem_cons_succ, List.getElem_cons_zero, List.setIfInBounds_toArray, List.set_cons_succ, List.set_cons_zero]
          refine wpRelG_segL [8] (fun l => (l.take 9).drop 8) rfl (by kernel_rfl) (by kernel_rfl) (by kernel_rfl) ?_
          simp only [List.take_succ_cons, List.take_zero, List.drop_succ_cons, List.drop_zero]
          repeat (
            first
            | go_big_quiet_skip
            | (go_big_quiet_want
               go_big_quiet_op
               first
               | go_big_quiet_on
               | (apply Exists.intro
                  refine ⟨fun v1 hv1 => ?_, ?_⟩
                  · (first
                    | (exact rfl)
                    | (exact ⟨trivial, rfl⟩))
                  go_big_quiet_on)))
          refine wpQuiet_nil ?_
          refine wpRelG_nil ?_
          intro w9 hb9 hF
          have HO9 := Lib.hid ((show (relPart wr.heap.size q 0).V (tupP q 0 av cv) w9 from hF 7) av cv rfl)
          clear hF
          have HX9 := Lib.hid (HX.out.more hb9)
          have HQO := Lib.hid (OwnV.lower HO9.out HX.out.below.size)
          clear hb9 HX HO9 HCELL T3
          go_upto_region 12 with fail
          go_loopw [13] (fun kv wr => ∃ k : Nat, k ≤ ws.length ∧ kv = .int .i64 k ∧ Hid (∀ i, i < k → ws.getD i [] ≠ q) ∧ Hid (Below w9.heap.size w9 wr)) (fun kv _ => ws.length - (intOf kv).toNat)
          case atStart => exact ⟨0, Nat.zero_le _, rfl, fun i hi => absurd hi (Nat.not_lt_zero i), Below.refl _ _⟩
          case round =>
            obtain ⟨k, hkl, rfl, HNK, HY⟩ := hrel
            have HXY := Lib.hid (HX9.out.more HY.out)
            by_cases ck : k < ws.length
            · obtain ⟨gp, ak, ck2, rfl, hpc, hpv⟩ := HXY.out.part ck
              have hgk : ws.getD k [] = ws[k] := by rw [List.getD_eq_getElem?_getD, List.getElem?_eq_getElem ck]; rfl
              have hym : ws[k] ∈ ws := List.getElem_mem ck
              obtain ⟨y, hy⟩ : ∃ y, y = ws[k] := ⟨_, rfl⟩
              rw [← hy] at hgk hym hpc hpv
              have T5 := Lib.hid (fun (x : World) (hx : Below wr.heap.size wr x) => refalike_any x ak av ck2 cv y q (hpv.below hx) ((HQO.out.isV.below HY.out).below hx) (HW4.out _ hym) (HWS.out.2.2 _ hym) HQOK.out)
              have hki : (k : Int) < (ws.length : Int) := by omega
              have hkb : (k : Int) < 5864062014806 := by have := HWS.out.1; omega
              have HCK := Lib.hid ck
              have HGK := Lib.hid hgk
              clear hgk hpv hy hym
              by_cases hq : y = q
              · rw [decide_eq_true hq] at T5
                have HPL : Hid (placeG q ws = k) := placeG_is q ws k (by omega) HNK.out (.inr (HGK.out.trans hq))
                clear hq HNEW
                have hkne : ((k : Int) == (ws.length : Int)) = false := by rw [beq_eq_false_iff_ne]; omega
                go_upto_region 14 with (go_at_call 48; refine (T5.out _ (Below.refl _ _)).mono ?_; rintro e w10 ⟨rfl, hb⟩; have HX10 := Lib.hid (HXY.out.more hb); clear hb hpc)
                go_wp2_with (at_builtin; refine wp_num HX10.out.nums HX10.out.below.size HIB.out rfl _ _ rfl (k : Int) rfl rfl ?_; intro ai' ci' u4 ho hf; have HFIN := Lib.hid (HOLD.out _ _ _ _ _ HX10.out HPL.out HCK.out ho hf); clear ho hf)
                go_roundw
                case rel => exact ⟨n + 1, cp, ci', _, ai', us, ws, at_ ++ [(k : Int)], HCN.out, rfl, by simp, by go_num, HMO, HFIN⟩
                case measure => have := HCN.out; simp [intOf]; omega
              · rw [decide_eq_false hq] at T5
                have HNK2 : Hid (∀ i, i < k + 1 → ws.getD i [] ≠ q) := fun i hi => by
                  rcases Nat.lt_or_ge i k with h | h
                  · exact HNK.out i h
                  · obtain rfl : i = k := by omega
                    rw [HGK.out]; exact hq
                clear hq HNEW HOLD
                go_wp2_with (go_at_call 48; refine (T5.out _ (Below.refl _ _)).mono ?_; rintro e w10 ⟨rfl, hb⟩; have HY10 := Lib.hid (HY.out.trans (hb.mono HY.out.size)); clear hb hpc)
                go_roundw
                case rel => exact ⟨k + 1, by have := HCK.out; omega, by go_num, HNK2, HY10⟩
                case measure => have := HCK.out; simp [intOf]; omega
            · obtain rfl : k = ws.length := by omega
              have HPL : Hid (placeG q ws = ws.length) := placeG_is q ws _ (Nat.le_refl _) HNK.out (.inl rfl)
              have HOV := Lib.hid (HQO.out.below HY.out)
              clear ck hkl HOLD
              go_upto_region 15 with fail
              go_upto_region 16 with (at_builtin; refine wp_oneW oneVals HXY.out.parts (rowCs_length HXY.out.len) HXY.out.below.size HW9.out HW8.out rfl _ _ rfl (.slice av q.length cv) rfl rfl rfl ?_; intro ap' cp' u6 hx hf0 _; have HP6 := Lib.hid hx; have HF6 := Lib.hid hf0; have HI6 := Lib.hid (OwnI.frm HXY.out.nums hf0 fun k hk _ hk2 => ownTypes ty_vals_int HXY.out.parts HXY.out.nums hk2 hk); have HS6 := Lib.hid (Nat.le_trans HXY.out.below.size hf0.size); clear hx hf0)
              go_wp2_with (at_builtin; refine wp_num HI6.out HS6.out HIB.out rfl _ _ rfl (ws.length : Int) rfl rfl ?_; intro ai' ci' u7 ho hf; have HFIN := Lib.hid (HNEW.out _ _ _ _ _ _ _ _ _ HXY.out HPL.out HOV.out HP6.out HF6.out ho hf); clear ho hf)
              go_roundw
              case rel => exact ⟨n + 1, cp', ci', ap', ai', us ++ [(av, cv)], ws ++ [q], at_ ++ [(ws.length : Int)], HCN.out, by simp, by simp, by go_num, HMO, HFIN⟩
              case measure => have := HCN.out; simp [intOf]; omega
      · obtain rfl : n = rs.length := by omega
        have hRR : R = (at_, 0) := by
          rw [HRR.out, splitA_good HM.out (by have := HOK.out; rwa [List.take_length] at this)]
          have h := HX.out.is
          rw [show rs.length = (rs.map (partL p.fs s.cs)).length by rw [List.length_map], List.take_length] at h
          rw [h]
        subst hRR
        clear cn hle
        go_wp2
        go_ret2
        exact ⟨ai, ci, rfl, HX.out.nums.lower (by have := HX.out.low; omega), HX.out.p2.below⟩
  · have hm' : maySp p s = false := by simpa using hm
    rw [hm'] at T0
    rw [splitA_no hm']
    clear hm hm' hf ha hl hr hrl hv hus hu hP HUS
    go_enter Try.func42, Try.ntmps42
    go_upto_region 1 with fail
    clear hw
    obtain ⟨c0, c1⟩ := HP.out.sp.at
    obtain ⟨b0, b1, b2⟩ := HP.out.sc.at
    go_wp2_with (go_at_call 36; refine T0.out.mono ?_; rintro e w1 ⟨rfl, hb⟩; have HP1 := Lib.hid (HP.out.more hb); clear hb c0 c1 b0 b1 b2)
    go_ret2
    exact ⟨none, 0, rfl, OwnI.nil _ _, HP1.out.below⟩
end Go.Proofs.Ythfakpekdjmpjaa
