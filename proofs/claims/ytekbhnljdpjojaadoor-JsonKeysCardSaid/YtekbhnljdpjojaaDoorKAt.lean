/- The law on keys: the object in memory as it grows. -/
import Derived.Test.YtekbhnljdpjojaaDoorKObj
namespace Go.Proofs.YtekbhnljdpjojaaDoor
open Go.Conc Go.RowKit Go.Maps Go.WideMaps
set_option linter.unusedVariables false
set_option linter.unusedSimpArgs false

/-- The object so far at block jb, the first block behind w0. -/
structure KAt (jb : Nat) (w0 wr : World) (ks : List ByteArray) (l : List J) (cs : List (List Value)) (lv kv : Value) : Prop where
  jbe : jb = w0.heap.size
  j6 : J6 wr jb (.int .i64 5) (.bool false) (.int .i64 0) (.string ⟨#[]⟩) lv kv
  ownL : wr.ownsRow (jb + 1) 25 6 lv l.length cs.flatten
  ownK : wr.ownsRow (jb + 1) 9 1 kv ks.length (ks.map Value.string)
  js : ∀ w, JsIn (fun _ => False) w l cs
  bel : Below w0.heap.size w0 wr
theorem own_type {w : World} {base e size n : Nat} {v : Value} {xs : List Value} (h : w.ownsRow base e size v n xs) {g : Nat} (hg : v.ownBlock = some g) : base ≤ g ∧ ∃ cur ph, w.heap[g]? = some (.cells cur e ph) := by
  rcases h.2 with ⟨rfl, _⟩ | ⟨g', cap, cur, rfl, hb, hgg, _⟩
  · simp [Value.ownBlock] at hg
  · simp only [Value.ownBlock, Option.some.injEq] at hg; subst hg; exact ⟨hb, cur, _, hgg⟩
section
variable {jb : Nat} {w0 wr w' w2 : World} {ks : List ByteArray} {l : List J} {cs : List (List Value)} {lv kv v' : Value}
theorem KAt.ne (h : KAt jb w0 wr ks l cs lv kv) {g : Nat} (hg : lv.ownBlock = some g) : kv.ownBlock ≠ some g := by
  intro e
  obtain ⟨_, c1, p1, h1⟩ := own_type h.ownL hg
  obtain ⟨_, c2, p2, h2⟩ := own_type h.ownK e
  rw [h1] at h2; simp at h2
theorem KAt.below (h : KAt jb w0 wr ks l cs lv kv) (hb : Below wr.heap.size wr w') : KAt jb w0 w' ks l cs lv kv :=
  ⟨h.jbe, h.j6.frm (Frm.of_new hb (fun _ => False)) id, own_same h.ownL fun g _ hl => hb.block g hl, own_same h.ownK fun g _ hl => hb.block g hl, h.js, ((Frm.of_below h.bel).trans (Frm.of_new hb _)).below (Nat.le_refl _)⟩
theorem KAt.drew (h : KAt jb w0 wr ks l cs lv kv) : KAt jb w0 wr.drew ks l cs lv kv :=
  ⟨h.jbe, h.j6, own_same h.ownL fun _ _ _ => rfl, own_same h.ownK fun _ _ _ => rfl, h.js, ((Frm.of_below h.bel).drew).below (Nat.le_refl _)⟩
theorem KAt.keyed {key : ByteArray} (h : KAt jb w0 wr ks l cs lv kv) (hg : wr.grownBy w2 kv.ownBlock) (hown : w2.ownsRow (jb + 1) 9 1 v' (ks.length + 1) (ks.map Value.string ++ [.string key])) :
    KAt jb w0 (w2.setCell ⟨jb, 5, none⟩ v') (ks ++ [key]) l cs lv v' := by
  have hjl := h.j6.lt
  have hkb := fun g (hg : kv.ownBlock = some g) => (own_type h.ownK hg).1
  have hlb := fun g (hg : lv.ownBlock = some g) => (own_type h.ownL hg).1
  have j2 : J6 w2 jb (.int .i64 5) (.bool false) (.int .i64 0) (.string ⟨#[]⟩) lv kv := (hg.block jb hjl fun e => by have := hkb jb e.symm; omega).trans h.j6
  refine ⟨h.jbe, j2.set5 v', ?_, ?_, h.js, ?_⟩
  · refine ⟨h.ownL.1, ?_⟩
    rcases h.ownL.2 with hn | ⟨g, cap, cur, rfl, hb, hgg, rest⟩
    · exact .inl hn
    · exact .inr ⟨g, cap, cur, rfl, hb, (Below.heap_setCell _ _ _ _ (show g ≠ jb by omega)).trans ((hg.block g (Array.getElem?_eq_some_iff.1 hgg).1 fun e => h.ne rfl e.symm).trans hgg), rest⟩
  · rw [List.map_append, List.length_append]
    exact own_same hown fun g hb _ => Below.heap_setCell _ _ _ _ (show g ≠ jb by omega)
  · have hs := h.bel.size
    have hj := h.jbe
    refine ⟨hg.os.trans h.bel.os, hg.tape.trans h.bel.tape, hg.output.trans h.bel.output, by simp [World.setCell]; exact Nat.le_trans hs hg.size, fun g hl => ?_⟩
    exact (Below.heap_setCell _ _ _ _ (show g ≠ jb by omega)).trans ((hg.block g (by omega) fun e => by have := hkb g e.symm; omega).trans (h.bel.block g hl))
theorem KAt.valued {j : J} {c : List Value} (h : KAt jb w0 wr ks l cs lv kv) (hg : wr.grownBy w2 lv.ownBlock) (hown : w2.ownsRow (jb + 1) 25 6 v' (l.length + 1) (cs.flatten ++ c)) (hj : ∀ w, JIn (fun _ => False) w j c) :
    KAt jb w0 (w2.setCell ⟨jb, 4, none⟩ v') ks (l ++ [j]) (cs ++ [c]) v' kv := by
  have hjl := h.j6.lt
  have hkb := fun g (hg : kv.ownBlock = some g) => (own_type h.ownK hg).1
  have hlb := fun g (hg : lv.ownBlock = some g) => (own_type h.ownL hg).1
  have j2 : J6 w2 jb (.int .i64 5) (.bool false) (.int .i64 0) (.string ⟨#[]⟩) lv kv := (hg.block jb hjl fun e => by have := hlb jb e.symm; omega).trans h.j6
  refine ⟨h.jbe, j2.set4 v', ?_, ?_, fun w => JsIn.snoc (h.js w) (hj w), ?_⟩
  · rw [List.flatten_append]
    simp only [List.flatten_cons, List.flatten_nil, List.append_nil, List.length_append, List.length_cons, List.length_nil]
    exact own_same hown fun g hb _ => Below.heap_setCell _ _ _ _ (show g ≠ jb by omega)
  · refine ⟨h.ownK.1, ?_⟩
    rcases h.ownK.2 with hn | ⟨g, cap, cur, rfl, hb, hgg, rest⟩
    · exact .inl hn
    · exact .inr ⟨g, cap, cur, rfl, hb, (Below.heap_setCell _ _ _ _ (show g ≠ jb by omega)).trans ((hg.block g (Array.getElem?_eq_some_iff.1 hgg).1 fun e => h.ne e.symm rfl).trans hgg), rest⟩
  · have hs := h.bel.size
    have hj := h.jbe
    refine ⟨hg.os.trans h.bel.os, hg.tape.trans h.bel.tape, hg.output.trans h.bel.output, by simp [World.setCell]; exact Nat.le_trans hs hg.size, fun g hl => ?_⟩
    exact (Below.heap_setCell _ _ _ _ (show g ≠ jb by omega)).trans ((hg.block g (by omega) fun e => by have := hlb g e.symm; omega).trans (h.bel.block g hl))
/-- The whole object, read. -/
theorem KAt.jin (h : KAt jb w0 wr ks l cs lv kv) : JIn (fun g => g < wr.heap.size) wr (jObj ks l) [.int .i64 5, .bool false, .int .i64 0, .string ⟨#[]⟩, lv, kv] :=
  .mk 5 false 0 ⟨#[]⟩ l ks lv kv cs (row_of_own h.ownL fun g hg => by obtain ⟨_, c, p, h1⟩ := own_type h.ownL hg; exact (Array.getElem?_eq_some_iff.1 h1).1) (row_of_own h.ownK fun g hg => by obtain ⟨_, c, p, h1⟩ := own_type h.ownK hg; exact (Array.getElem?_eq_some_iff.1 h1).1)
    (h.js wr).1 (fun i j c h1 h2 => ((h.js wr).2 i j c h1 h2).mono fun g _ hg => hg.elim)
end
theorem wpList_app_json (w : World) {ops : Array Oper} {rest : List Oper} {o : Oper} {a : Act} {Q : Exit → Act → World → Prop} (hgd : o.guard = none) (d x : Operand)
    (ho : o.op = .call { callee := .builtin .append, args := #[d, x], argTypes := #[22, 22] }) (base : Nat) (hbase : base ≤ w.heap.size) (v : Value) (n : Nat) (xs p : List Value) (ad : Addr) (c : Nat) (hd : a.eval d = v) (hx : a.eval x = .slice (some ad) 1 c)
    (hown : w.ownsRow base 25 6 v n xs) (hxl : xs.length = n * 6) (hl : n ≤ 200000) (hp : p.length = 6) (hp1 : ∀ u ∈ p, u.oneCell' = true) (hnews : ∀ j u, p[j]? = some u → w.cell? (ad.add j) = some u)
    (hK : ∀ v' w', w'.ownsRow base 25 6 v' (n + 1) (xs ++ p) → w.grownBy w' v.ownBlock → NewRow w v v' → wpList Tryd.prog ops Q rest (a.put o.dst v') w') : wpList Tryd.prog ops Q (o :: rest) a w := by
  obtain ⟨v', w', hr, h1, h2, h3⟩ := run_append_json w base hbase v n xs p hown hxl hl hp hp1 ad c hnews
  exact wpList_append_eq w hgd d x 22 22 ho v _ hd hx (hr _) (hK v' w' h1 h2 h3)
end Go.Proofs.YtekbhnljdpjojaaDoor
