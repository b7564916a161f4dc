/- Rows parted by any spec: the walk. -/
import Derived.Test.YthfakpekdjmpjaaRSs
import Derived.Test.YthfakpekdjmpjaaSpcW
import Derived.Test.YthfakpekdjmpjaaSpcO
import Derived.Test.YthfakpekdjmpjaaSchO
import Derived.Test.YthfakpekdjmpjaaRowsA
import Derived.Test.YthfakpekdjmpjaaSchX
import Derived.Test.YthfakpekdjmpjaaKeptR
import Derived.Test.YthfakpekdjmpjaaIntC
import Derived.BigQuiet
namespace Go.Proofs.Ythfakpekdjmpjaa
open Go.Conc Go.RowKit
set_option linter.unusedVariables false
set_option linter.unusedSimpArgs false

def relLF (base : Nat) (fs : List Fd) : Rel := ⟨fun v => ∃ g c, v = .slice (some ⟨g, 0, none⟩) fs.length c, fun v w => ∀ g c, v = .slice (some ⟨g, 0, none⟩) fs.length c → OwnFd base w (some ⟨g, 0, none⟩) c (fs ++ [markFd, markFd])⟩
theorem relLF_ok (base : Nat) (fs : List Fd) : (relLF base fs).Ok := ⟨⟨_, 0, 0, rfl⟩, fun v w w' h hb g c e => (h g c e).below hb⟩
theorem rel_lf {u w : World} {fs : List Fd} {a : Option Addr} {cap : Nat} (hu : Below u.heap.size u w) (h : Calls Try.prog 33 #[.slice a fs.length cap] w fun e w' => ∃ g c, e = .returned (.slice (some ⟨g, 0, none⟩) fs.length c) ∧ OwnFd w.heap.size w' (some ⟨g, 0, none⟩) c (fs ++ [markFd, markFd]) ∧ Below w.heap.size w w') : relUpon Try.prog (fun w' => Below u.heap.size u w') (relLF u.heap.size fs) w (.ok (.enter 33 #[.slice a fs.length cap]) w) :=
  ⟨rfl, h.mono fun e w2 ⟨g, c, he, ho, hb⟩ => ⟨_, he, hu.trans (hb.mono hu.size), hb, ⟨g, c, rfl⟩, fun g' c' e => by
    simp only [Value.slice.injEq, Option.some.injEq, Addr.mk.injEq, true_and, and_true] at e
    obtain ⟨e1, e2⟩ := e
    subst e1 e2
    exact ho.lower hu.size⟩⟩
def relSF (base : Nat) (id : Int) (fs : List Fd) : Rel := ⟨fun v => ∃ g c, v = .agg #[.int .i64 id, .slice (some ⟨g, 0, none⟩) fs.length c], fun v w => ∀ g c, v = .agg #[.int .i64 id, .slice (some ⟨g, 0, none⟩) fs.length c] → OwnFd base w (some ⟨g, 0, none⟩) c (fs ++ [markFd, markFd])⟩
theorem relSF_ok (base : Nat) (id : Int) (fs : List Fd) : (relSF base id fs).Ok := ⟨⟨_, 0, 0, rfl⟩, fun v w w' h hb g c e => (h g c e).below hb⟩
theorem rel_sf {u w : World} {id : Int} {fs : List Fd} {g c : Nat} (hu : Below u.heap.size u w) (h : (relLF u.heap.size fs).V (.slice (some ⟨g, 0, none⟩) fs.length c) w) : relUpon Try.prog (fun w' => Below u.heap.size u w') (relSF u.heap.size id fs) w (.ok (.value (.agg #[.int .i64 id, .slice (some ⟨g, 0, none⟩) fs.length c])) w) :=
  ⟨hu, Below.refl _ _, ⟨g, c, rfl⟩, fun g' c' e => by
    simp only [Value.agg.injEq, Array.mk.injEq, List.cons.injEq, Value.slice.injEq, Option.some.injEq, Addr.mk.injEq, true_and, and_true] at e
    obtain ⟨e1, e2⟩ := e
    subst e1 e2
    exact h g c rfl⟩
def relNSp (base : Nat) : Rel := ⟨fun v => ∃ g, v = .pointer (some ⟨g, 0, none⟩), fun v w => ∀ g, v = .pointer (some ⟨g, 0, none⟩) → base ≤ g ∧ SpSlot w g none 0 ⟨0, []⟩⟩
theorem relNSp_ok (base : Nat) : (relNSp base).Ok := ⟨⟨_, 0, rfl⟩, fun v w w' h hb g e => ⟨(h g e).1, (h g e).2.below hb⟩⟩
theorem rel_nsp {u w : World} (hu : Below u.heap.size u w) : relUpon Try.prog (fun w' => Below u.heap.size u w') (relNSp u.heap.size) w (.ok (.value (.pointer (some ⟨w.heap.size, 0, none⟩))) (w.alloc (.cells #[.int .i64 0, .slice none 0 0] 65))) :=
  ⟨hu.alloc hu.size _, (Below.refl _ _).alloc (Nat.le_refl _) _, ⟨_, rfl⟩, fun g e => by
    have : w.heap.size = g := by simpa using e
    subst this
    exact ⟨hu.size, SpSlot.new w none 0 ⟨0, []⟩⟩⟩
def putSp (w : World) (g : Nat) (p : Sp) (a : Option Addr) (c : Nat) : World := (w.setCell ⟨g, 0, none⟩ (.int .i64 p.id)).setCell ⟨g, 1, none⟩ (.slice a p.fs.length c)
theorem SpSlot.put {w : World} {g : Nat} {a0 : Option Addr} {c0 : Nat} {p0 : Sp} (h : SpSlot w g a0 c0 p0) (p : Sp) (a : Option Addr) (c : Nat) : SpSlot (putSp w g p a c) g a c p :=
  ⟨heap_setCell_same _ _ _ _ _ _ (heap_setCell_same _ _ _ _ _ _ h.b)⟩
theorem putSp_below {w u : World} {B g : Nat} (h : Below B u w) (hg : B ≤ g) (p : Sp) (a : Option Addr) (c : Nat) : Below B u (putSp w g p a c) := (h.setCell hg _).setCell hg _
theorem putSp_other {w : World} {g k : Nat} (hne : k ≠ g) (p : Sp) (a : Option Addr) (c : Nat) : (putSp w g p a c).heap[k]? = w.heap[k]? := by
  unfold putSp
  rw [Below.heap_setCell _ _ _ _ hne, Below.heap_setCell _ _ _ _ hne]
theorem SpSlot.free {w : World} {g : Nat} {a : Option Addr} {c : Nat} {p : Sp} (h : SpSlot w g a c p) : w.frozen? ⟨g, 0, none⟩ = false ∧ w.frozen? ⟨g, 1, none⟩ = false := ⟨frozen_of_row w g 0 _ _ h.b, frozen_of_row w g 1 _ _ h.b⟩
theorem putSp_frm {F : Nat → Prop} {g : Nat} (hg : F g) (w : World) (p : Sp) (a : Option Addr) (c : Nat) : Frm F w (putSp w g p a c) :=
  ((Frm.refl F w).setCell (p := ⟨g, 0, none⟩) hg _).setCell (p := ⟨g, 1, none⟩) hg _
theorem lent_is {w : World} {B g c : Nat} {cs : List Value} {rs : List (List V)} (ho : OwnR B w (some ⟨g, 0, none⟩) rs.length c cs) (hl : LentR B w cs rs) : IsR w (some ⟨g, 0, none⟩) rs := by
  refine .inr ⟨g, 0, rfl, fun i hi => ?_⟩
  obtain ⟨gi, ci, h1, h2⟩ := hl.2 i hi
  refine ⟨_, by rw [Nat.zero_add]; exact ho.read i _ h1, some ⟨gi, 0, none⟩, ci, rfl, ?_, fun e => by cases e⟩
  have := h2.isV.take rs[i].length
  rwa [List.take_left] at this
theorem partA_len (p : Sp) (s : Sc) (r : List V) : (partA p s r).1.length ≤ maxLen := by
  unfold partA
  split
  · rename_i h
    rw [Bool.and_eq_true] at h
    show (partL p.fs s.cs r).length ≤ maxLen
    rw [partL_length]; have := (maysp_most h.1).1; unfold maxLen; omega
  · exact Nat.zero_le _
theorem splitA_len (p : Sp) (s : Sc) (rs : List (List V)) : (splitA p s rs).1.length ≤ rs.length := by
  unfold splitA
  split
  · show (grpA _).2.length ≤ _
    rw [(grouped _).len, List.length_map]; exact Nat.le_refl _
  · exact Nat.zero_le _
set_option maxRecDepth 100000 in
set_option maxHeartbeats 16000000 in
theorem specparts_walk (fa : Option Addr) (fcap : Nat) (p : Sp) (a : Option Addr) (cap : Nat) (s : Sc) (ra : Option Addr) (rcap : Nat) (rs : List (List V)) {W : World}
    (hf : IsFd W fa p.fs) (hfn : fa = none → p.fs.length = 0 ∧ fcap = 0) (hfc : p.fs.length ≤ fcap) (hfi : InSp p) (ha : IsCo W a s.cs) (hsn : a = none → s.cs.length = 0 ∧ cap = 0) (hcap : s.cs.length ≤ cap) (hsi : InSc s) (hr : IsR W ra rs) (hrn : ra = none → rs.length = 0 ∧ rcap = 0) (hrl : rs.length * 24 ≤ 140737488351232) (hri : ∀ r ∈ rs, InRow r) :
    Calls Try.prog 8 #[.agg #[.int .i64 p.id, .slice fa p.fs.length fcap], .agg #[.int .i64 s.id, .slice a s.cs.length cap, .int .i64 s.next], .slice ra rs.length rcap] W fun e w' => e = .returned (.bool true) ∧ Below W.heap.size W w' := by
  have hl : s.cs.length ≤ maxLen := by have := hsi.cl; unfold maxLen; omega
  have hrl2 : rs.length ≤ 17592186044000 := by omega
  have hv : ∀ r ∈ rs, r.length ≤ 35184372088832 ∧ ∀ v ∈ r, (-9223372036854775808 ≤ v.i ∧ v.i < 9223372036854775808) ∧ v.s.size ≤ 140737488355328 := fun r h => ⟨by have := (hri r h).len; omega, fun v hv => ⟨(hri r h).num v hv, by have := (hri r h).txt v hv; omega⟩⟩
  have h40 : ∀ r ∈ rs, (r.length + 2) * 40 ≤ 140737488355328 := fun r h => by have := (hri r h).len; omega
  have hP := P2.new W fa a fcap cap p s
  obtain ⟨u, hu⟩ : ∃ u, u = ((W.alloc (.cells #[.int .i64 p.id, .slice fa p.fs.length fcap] 65)).alloc (.cells #[.int .i64 s.id, .slice a s.cs.length cap, .int .i64 s.next] 24)) := ⟨_, rfl⟩
  rw [← hu] at hP
  have HP := Lib.hid hP
  have hw := hu.symm
  have TLF := Lib.hid (fun (x : World) (hx : Below u.heap.size u x) => lendfields_any x fa fcap p.fs ((hf.below hP.below).below hx) hfn (by have := hfi.fl; omega))
  have HF := Lib.hid hf
  have HFN := Lib.hid hfn
  have HA := Lib.hid ha
  have HSN := Lib.hid hsn
  have HR := Lib.hid hr
  have HL := Lib.hid hl
  have HCAP := Lib.hid hcap
  have HFC := Lib.hid hfc
  have HV := Lib.hid hv
  have H40 := Lib.hid h40
  have HRL := Lib.hid hrl2
  have HRL3 := Lib.hid hrl
  have HFL3 : Hid ((p.fs.length + 2) * 24 ≤ 140737488355328) := by have := hfi.fl; unfold Hid; omega
  have HSL3 : Hid ((s.cs.length + 2) * 32 ≤ 140737488355328) := by have := hsi.cl; unfold Hid; omega
  clear hf hfn hfc hfi ha hsn hcap hsi hr hrn hrl hri hl hrl2 hv h40 hP hu
  go_enter Try.func8, Try.ntmps8
  go_upto_region 1 with fail
  clear hw
  refine region_known (fun w' => Below u.heap.size u w') 7 [0, 1, 2, 3, 4, 5, 6] [(4, relLF u.heap.size p.fs), (5, relSF u.heap.size p.id p.fs), (6, relNSp u.heap.size)] [(5, 4)] (by kernel_rfl) (by kernel_rfl) (by kernel_rfl) (ok_cons (relLF_ok _ _) (ok_cons (relSF_ok _ _ _) (ok_cons (relNSp_ok _) ok_nil))) (Below.refl _ _).drew (fun w1 w2 h1 h2 => h1.trans (h2.mono h1.size)) ?_
  refine wpRel_segL [0, 1, 2, 3] (fun l => (l.take 4).drop 0) rfl (by kernel_rfl) (by kernel_rfl) (by kernel_rfl) ?_
  simp only [List.take_succ_cons, List.take_zero, List.drop_succ_cons, List.drop_zero]
  repeat (
    first
    | go_big_quiet_skip
    | (go_big_quiet_want
       go_big_quiet_op
       first
       | go_big_quiet_on
       | (apply Exists.intro
          refine ⟨fun v1 hv1 => ?_, ?_⟩
          · (first
            | (exact rfl)
            | (obtain ⟨c0, c1⟩ := (HP.out.more hv1).sp.at; simp only [c0, c1, Result.andThen]; exact ⟨trivial, rfl⟩)
            | (exact ⟨trivial, rfl⟩))
          go_big_quiet_on)))
  refine wpQuiet_nil ?_
  refine wpRel_rel (k := 4) rfl rfl rfl (fun w5 hw5 => ?_) (fun v hv => ?_)
  · go_simp
    exact rel_lf hw5.1 (TLF.out w5 hw5.1)
  obtain ⟨gf, cf, rfl⟩ := hv
  simp only [Act.put, snd2_two, List.getElem_toArray, List.getElem_cons_succ, List.getElem_cons_zero, List.setIfInBounds_toArray, List.set_cons_succ, List.set_cons_zero]
  refine wpRel_rel (k := 5) rfl rfl rfl (fun w5 hw5 => ?_) (fun v hv => ?_)
  · go_simp
    exact rel_sf hw5.1 (hw5.2 4 rfl)
  obtain ⟨gf, cf, rfl⟩ := hv
  simp only [Act.put, snd2_two, List.getElem_toArray, List.getElem_cons_succ, List.getElem_cons_zero, List.setIfInBounds_toArray, List.set_cons_succ, List.set_cons_zero]
  refine wpRel_rel (k := 6) rfl rfl rfl (fun w5 hw5 => ?_) (fun v hv => ?_)
  · go_simp
    exact rel_nsp hw5.1
  obtain ⟨gx, rfl⟩ := hv
  simp only [Act.put, snd2_two, List.getElem_toArray, List.getElem_cons_succ, List.getElem_cons_zero, List.setIfInBounds_toArray, List.set_cons_succ, List.set_cons_zero]
  refine wpRel_nil ?_
  intro w1 hb1 hF1
  have hfo := (show (relSF u.heap.size p.id p.fs).V (.agg #[.int .i64 p.id, .slice (some ⟨gf, 0, none⟩) p.fs.length cf]) w1 from hF1 5) gf cf rfl
  obtain ⟨hgx, hsx⟩ := (show (relNSp u.heap.size).V (.pointer (some ⟨gx, 0, none⟩)) w1 from hF1 6) gx rfl
  have HP1 := Lib.hid (HP.out.more (putSp_below hb1 hgx p (some ⟨gf, 0, none⟩) cf))
  have HX1 := Lib.hid (hsx.put p (some ⟨gf, 0, none⟩) cf)
  have hgn : gf ≠ gx := fun e => by
    obtain ⟨cur, hc⟩ := ownTy hfo (k := gf) rfl
    rw [e, hsx.b] at hc
    simp only [Option.some.injEq, Obj.cells.injEq] at hc
    exact absurd hc.2.1 (by decide)
  have HFO1 : Hid (OwnFd u.heap.size (putSp w1 gx p (some ⟨gf, 0, none⟩) cf) (some ⟨gf, 0, none⟩) cf (p.fs ++ [markFd, markFd])) :=
    hfo.frm (F := fun k => k = gx) (putSp_frm (F := fun k => k = gx) rfl w1 p _ cf) fun k hk _ e => hgn (by
      have h2 : k = gf := by simpa [At, eq_comm] using hk
      rw [← h2]; exact e)
  obtain ⟨z0, z1⟩ := hsx.at
  obtain ⟨y0, y1⟩ := hsx.free
  simp only at z0 z1
  clear hb1 hF1 hfo hgx hgn TLF HP
  go_upto_region 2 with fail
  change Code.wp _ _ _ _ (putSp w1 gx p (some ⟨gf, 0, none⟩) cf)
  clear z0 z1 y0 y1 hsx
  generalize putSp w1 gx p (some ⟨gf, 0, none⟩) cf = u1 at *
  obtain ⟨b0, b1, b2⟩ := HP1.out.sc.at
  have TLS := Lib.hid (lendschema_any u1 a cap s (HA.out.below HP1.out.below) HSN.out HSL3.out)
  have TLR := Lib.hid (fun (x : World) (hx : Below u1.heap.size u1 x) => lendrows_any x ra rcap rs ((HR.out.below HP1.out.below).below hx) (by have := HRL3.out; omega) H40.out)
  go_upto_region 3 with (first
    | (go_at_call 11; refine TLS.out.mono ?_; rintro e u2 ⟨gc, cc, rfl, ho, hb⟩; have HC2 := Lib.hid ho; have HB2 := Lib.hid hb; clear ho hb b0 b1 b2 TLS)
    | (go_at_call 34; refine (TLR.out _ HB2.out).mono ?_; rintro e u3 ⟨gr, cr, cs, rfl, ho, hle, hb⟩; have HR3 := Lib.hid ho; have HE3 := Lib.hid hle; have HB3 := Lib.hid (HB2.out.trans (hb.mono HB2.out.size)); have HC3 := Lib.hid (HC2.out.below hb); clear ho hle hb TLR HB2 HC2))
  change Code.wp _ _ _ _ (u3.alloc (.cells #[.int .i64 s.id, .slice (some ⟨gc, 0, none⟩) s.cs.length cc, .int .i64 s.next] 24))
  obtain ⟨v, hv⟩ : ∃ v, v = u3.alloc (.cells #[.int .i64 s.id, .slice (some ⟨gc, 0, none⟩) s.cs.length cc, .int .i64 s.next] 24) := ⟨_, rfl⟩
  have hb : Below u3.heap.size u3 v := by rw [hv]; exact (Below.refl _ _).alloc (Nat.le_refl _) _
  have HY := Lib.hid (show ScSlot v u3.heap.size (some ⟨gc, 0, none⟩) cc s by rw [hv]; exact ScSlot.new u3 _ cc s)
  have hbv := HB3.out.trans (hb.mono HB3.out.size)
  have HPV := Lib.hid (HP1.out.more hbv)
  have HX := Lib.hid (HX1.out.below hbv)
  have HFO := Lib.hid (HFO1.out.below hbv)
  have HCO := Lib.hid (HC3.out.below hb)
  have HRO := Lib.hid (show OwnR _ v _ _ _ _ from own_same HR3.out fun k _ hk => hb.block k hk)
  have HLE := Lib.hid (HE3.out.below hb)
  rw [← hv]
  clear hv hb hbv HP1 HX1 HFO1 HC3 HR3 HE3 HB3
  generalize u3.heap.size = gy at *
  have HIF : Hid (IsFd v (some ⟨gf, 0, none⟩) p.fs) := by have := HFO.out.isX.take p.fs.length; rwa [List.take_left] at this
  have HIC : Hid (IsCo v (some ⟨gc, 0, none⟩) s.cs) := by have := HCO.out.isX.take s.cs.length; rwa [List.take_left] at this
  have HIR := Lib.hid (lent_is HRO.out HLE.out)
  have HCF : Hid (p.fs.length ≤ cf) := by have := HFO.out.cap; rw [List.length_append] at this; unfold Hid; omega
  have HCC : Hid (s.cs.length ≤ cc) := by have := HCO.out.cap; rw [List.length_append] at this; unfold Hid; omega
  have TM1 := Lib.hid (fun (x : World) (hx : Below v.heap.size v x) => spmay_any x (some ⟨gf, 0, none⟩) (some ⟨gc, 0, none⟩) cf cc p s (HIF.out.below hx) HCF.out (HIC.out.below hx) HL.out HCC.out)
  have TM2 := Lib.hid (fun (x : World) (hx : Below v.heap.size v x) => refspecmay_any x fa a fcap cap p s (HF.out.below (HPV.out.more hx).below) (HA.out.below (HPV.out.more hx).below) HL.out)
  have TP1 := Lib.hid (fun (x : World) (hx : Below v.heap.size v x) (n : Nat) (hn : n < rs.length) (ar : Option Addr) (cr : Nat) (h1 : IsV x ar rs[n]) => show Calls Try.prog 37 _ x (PartPost x (partA p s rs[n])) from sppart_any x (some ⟨gf, 0, none⟩) (some ⟨gc, 0, none⟩) ar cf cc cr p s rs[n] (HIF.out.below hx) HCF.out (HIC.out.below hx) HL.out HCC.out h1 (HV.out _ (List.getElem_mem hn)).1 (HV.out _ (List.getElem_mem hn)).2)
  have TP2 := Lib.hid (fun (x : World) (hx : Below v.heap.size v x) (n : Nat) (hn : n < rs.length) (ar : Option Addr) (cr : Nat) (h1 : IsV x ar rs[n]) => show Calls Try.prog 38 _ x (PartPost x (partA p s rs[n])) from refpart_any x fa a ar fcap cap cr p s rs[n] (HF.out.below (HPV.out.more hx).below) (HA.out.below (HPV.out.more hx).below) HL.out h1 (HV.out _ (List.getElem_mem hn)).1 (HV.out _ (List.getElem_mem hn)).2)
  have TS1 := Lib.hid (fun (x : World) (hx : Below v.heap.size v x) => spsplit_any x (some ⟨gf, 0, none⟩) (some ⟨gc, 0, none⟩) (some ⟨gr, 0, none⟩) cf cc cr p s rs (HIF.out.below hx) HCF.out (HIC.out.below hx) HL.out HCC.out (HIR.out.below hx) HRL.out HV.out)
  have TS2 := Lib.hid (fun (x : World) (hx : Below v.heap.size v x) => refsplit_any x fa a ra fcap cap rcap p s rs (HF.out.below (HPV.out.more hx).below) (HA.out.below (HPV.out.more hx).below) HL.out (HR.out.below (HPV.out.more hx).below) (by have := HRL3.out; omega) HV.out)
  have TKF := Lib.hid (fun (x : World) (hx : Below v.heap.size v x) => keptfields_any x gf cf fa fcap _ p.fs (HFO.out.below hx) (HF.out.below (HPV.out.more hx).below) HFL3.out)
  have TKC := Lib.hid (fun (x : World) (hx : Below v.heap.size v x) => keptschema_any x gc cc a cap _ s (HCO.out.below hx) (HA.out.below (HPV.out.more hx).below) HSL3.out)
  have TKR := Lib.hid (fun (x : World) (hx : Below v.heap.size v x) => keptrows_any x gr cr ra rcap _ cs rs (own_same HRO.out fun k _ hk => hx.block k hk) (HLE.out.below hx) (HR.out.below (HPV.out.more hx).below) (by have := HRL.out; unfold maxLen; omega) H40.out)
  have TAW := Lib.hid (fun (x : World) => specawake_any x)
  have HPLEN := Lib.hid (fun n (hn : n < rs.length) => partA_len p s rs[n])
  have HSLEN := Lib.hid (splitA_len p s rs)
  clear HFO HCO HRO HLE HF HA HFN HSN HV H40 HCAP HFC HFL3 HSL3 HRL3 HIF HIC HCF HCC HL
  generalize maySp p s = M at *
  obtain ⟨zt, ze, hzz⟩ : ∃ zt ze, splitA p s rs = (zt, ze) := ⟨_, _, rfl⟩
  rw [hzz] at TS1 TS2 HSLEN
  clear hzz
  have go5 : ∃ M', M' = M := ⟨_, rfl⟩
  clear go5
  cases M with
  | true =>
    refine region_class (fun w' => Below v.heap.size v w') (by kernel_rfl) (by kernel_rfl) (Below.refl _ _).drew ?_
    repeat (
      first
      | go_big_quiet_skip
      | (go_big_quiet_want
         go_big_quiet_op
         first
         | go_big_quiet_on
         | (apply Exists.intro
            refine ⟨fun v1 hv1 => ?_, ?_⟩
            · (first
              | (exact rfl)
              | (go_at_call 35; exact (TM1.out v1 hv1).mono fun e w3 ⟨he, hb⟩ => ⟨he, hv1.trans (hb.mono hv1.size)⟩)
              | (go_at_call 36; exact (TM2.out v1 hv1).mono fun e w3 ⟨he, hb⟩ => ⟨he, hv1.trans (hb.mono hv1.size)⟩)
              | (obtain ⟨c0, c1⟩ := (HX.out.below hv1).at; simp only [c0, c1, Result.andThen]; exact ⟨trivial, rfl⟩)
              | (obtain ⟨b0, b1, b2⟩ := (HY.out.below hv1).at; simp only [b0, b1, b2, Result.andThen]; exact ⟨trivial, rfl⟩)
              | (obtain ⟨c0, c1⟩ := (HPV.out.more hv1).sp.at; simp only [c0, c1, Result.andThen]; exact ⟨trivial, rfl⟩)
              | (obtain ⟨b0, b1, b2⟩ := (HPV.out.more hv1).sc.at; simp only [b0, b1, b2, Result.andThen]; exact ⟨trivial, rfl⟩)
              | (exact ⟨trivial, rfl⟩))
            go_big_quiet_on)))
    refine wpQuiet_nil ?_
    intro w5 hw5
    have HB5 := Lib.hid hw5
    clear hw5
    go_upto_region 6 with fail
    clear TM1 TM2
    go_loopw [10] (fun iv wr => ∃ n : Nat, n ≤ rs.length ∧ n ≤ 20 ∧ iv = .int .i64 n ∧ Hid (Below v.heap.size v wr)) (fun iv _ => 20 - (intOf iv).toNat)
    case atStart => exact ⟨0, Nat.zero_le _, Nat.zero_le _, rfl, HB5⟩
    case round =>
      obtain ⟨n, hle, hl20, rfl, HB⟩ := hrel
      by_cases cn : n < rs.length
      · have hni : (n : Int) < (rs.length : Int) := by omega
        by_cases c20 : n < 20
        · have hn2 : (n : Int) < 20 := by omega
          obtain ⟨b, off, ar, kr, e0, hc1, hi1⟩ := (HIR.out.below HB.out).get cn
          obtain ⟨rfl, rfl⟩ : gr = b ∧ 0 = off := by simp only [Option.some.injEq, Addr.mk.injEq] at e0; exact ⟨e0.1, e0.2.1⟩
          obtain ⟨b2, off2, ar2, kr2, rfl, hc2, hi2⟩ := (HR.out.below (HPV.out.more HB.out).below).get cn
          rw [Nat.zero_add] at hc1
          have HCELL1 := Lib.hid (fun (x : World) (hx : Below wr.heap.size wr x) => (World.cell?_of_block (hx.block _ (World.block_lt_of_cell? wr ⟨_, _, none⟩ hc1))).trans hc1)
          have HCELL2 := Lib.hid (fun (x : World) (hx : Below wr.heap.size wr x) => (World.cell?_of_block (hx.block _ (World.block_lt_of_cell? wr ⟨_, _, none⟩ hc2))).trans hc2)
          have T1 := Lib.hid (fun (x : World) (hx : Below wr.heap.size wr x) => TP1.out x (HB.out.trans (hx.mono HB.out.size)) n cn ar kr (hi1.below hx))
          have T2 := Lib.hid (fun (x : World) (hx : Below wr.heap.size wr x) => TP2.out x (HB.out.trans (hx.mono HB.out.size)) n cn ar2 kr2 (hi2.below hx))
          have HQL := Lib.hid (HPLEN.out n cn)
          obtain ⟨q, z, hqz⟩ : ∃ q z, partA p s rs[n] = (q, z) := ⟨_, _, rfl⟩
          rw [hqz] at T1 T2 HQL
          clear hqz e0 hc1 hc2 hi1 hi2
          generalize rs[n] = r at *
          have HCN := Lib.hid cn
          have HC20 := Lib.hid c20
          go_upto_region 8 with fail
          refine region_glue (fun w' => Below wr.heap.size wr w') 10 7 9 snd2 _ _ [0, 1, 2, 3, 4, 5, 6, 7, 8] [(6, relPart wr.heap.size q z), (7, relPart wr.heap.size q z)] [(7, 6)] (by kernel_rfl) (by kernel_rfl) rfl rfl rfl (fun R hR b v hb hu => ?_) (fun _ _ _ _ h => h) (by kernel_rfl) (ok_cons (relPart_ok _ _ _) (ok_cons (relPart_ok _ _ _) ok_nil)) (Below.refl _ _).drew (fun w1 w2 h1 h2 => h1.trans (h2.mono h1.size)) ?_
          · cases hR
            exact snd_tupP _ rfl rfl (by rw [hb]; exact of_decide_eq_true rfl) hu
          refine wpRelG_segL [0, 1, 2, 3, 4, 5] (fun l => (l.take 6).drop 0) rfl (by kernel_rfl) (by kernel_rfl) (by kernel_rfl) ?_
          simp only [List.take_succ_cons, List.take_zero, List.drop_succ_cons, List.drop_zero]
          repeat (
            first
            | go_big_quiet_skip
            | (go_big_quiet_want
               go_big_quiet_op
               first
               | go_big_quiet_on
               | (apply Exists.intro
                  refine ⟨fun v1 hv1 => ?_, ?_⟩
                  · (first
                    | (exact rfl)
                    | (obtain ⟨c0, c1⟩ := (HX.out.below (HB.out.trans (hv1.mono HB.out.size))).at; simp only [c0, c1, Result.andThen]; exact ⟨trivial, rfl⟩)
                    | (obtain ⟨b0, b1, b2⟩ := (HY.out.below (HB.out.trans (hv1.mono HB.out.size))).at; simp only [b0, b1, b2, Result.andThen]; exact ⟨trivial, rfl⟩)
                    | (have d0 := HCELL1.out v1 hv1; simp only [d0, Result.andThen]; exact ⟨trivial, rfl⟩)
                    | (exact ⟨trivial, rfl⟩))
                  go_big_quiet_on)))
          refine wpQuiet_nil ?_
          refine wpRelG_rel (k := 6) rfl rfl (by decide) rfl (fun w5 hw5 => ?_) (fun v hv => ?_)
          · go_simp
            exact rel_part hw5.1 (T1.out w5 hw5.1)
          obtain ⟨a5, c5, rfl⟩ := hv
          simp only [Act.put, tupP, snd2_two, List.getElem_toArray, List.getElem_cons_succ, List.getElem_cons_zero, List.setIfInBounds_toArray, List.set_cons_succ, List.set_cons_zero]
          refine wpRelG_glued (p := 7) rfl rfl rfl (fun w5 hw5 => ?_) (fun v hv => ?_)
          · go_simp
            exact rel_mvP hw5.1 (hw5.2 6 rfl)
          obtain ⟨av, cv, rfl⟩ := hv
          simp only [Act.put, tupP, snd2_two, List.getElem_toArray, List.getElem_cons_succ, List.getElem_cons_zero, List.setIfInBounds_toArray, List.set_cons_succ, List.set_cons_zero]
          refine wpRelG_segL [8] (fun l => (l.take 9).drop 8) rfl (by kernel_rfl) (by kernel_rfl) (by kernel_rfl) ?_
          simp only [List.take_succ_cons, List.take_zero, List.drop_succ_cons, List.drop_zero]
          repeat (
            first
            | go_big_quiet_skip
            | (go_big_quiet_want
               go_big_quiet_op
               first
               | go_big_quiet_on
               | (apply Exists.intro
                  refine ⟨fun v1 hv1 => ?_, ?_⟩
                  · (first
                    | (exact rfl)
                    | (exact ⟨trivial, rfl⟩))
                  go_big_quiet_on)))
          refine wpQuiet_nil ?_
          refine wpRelG_nil ?_
          intro w7 hb9 hF
          have HO7 := Lib.hid ((show (relPart wr.heap.size q z).V (tupP q z av cv) w7 from hF 7) av cv rfl)
          clear hF
          have HB7 := Lib.hid (HB.out.trans (hb9.mono HB.out.size))
          have HCELL7 := Lib.hid (fun (x : World) (hx : Below w7.heap.size w7 x) => HCELL2.out x (hb9.trans (hx.mono hb9.size)))
          have T7 := Lib.hid (fun (x : World) (hx : Below w7.heap.size w7 x) => T2.out x (hb9.trans (hx.mono hb9.size)))
          have HGE := Lib.hid HB.out.size
          clear hb9 HCELL1 HCELL2 T1 T2
          go_upto_region 9 with fail
          refine region_glue (fun w' => Below w7.heap.size w7 w') 10 7 9 snd2 _ _ [0, 1, 2, 3, 4, 5, 6, 7, 8] [(6, relPart w7.heap.size q z), (7, relPart w7.heap.size q z)] [(7, 6)] (by kernel_rfl) (by kernel_rfl) rfl rfl rfl (fun R hR b v hb hu => ?_) (fun _ _ _ _ h => h) (by kernel_rfl) (ok_cons (relPart_ok _ _ _) (ok_cons (relPart_ok _ _ _) ok_nil)) (Below.refl _ _).drew (fun w1 w2 h1 h2 => h1.trans (h2.mono h1.size)) ?_
          · cases hR
            exact snd_tupP _ rfl rfl (by rw [hb]; exact of_decide_eq_true rfl) hu
          refine wpRelG_segL [0, 1, 2, 3, 4, 5] (fun l => (l.take 6).drop 0) rfl (by kernel_rfl) (by kernel_rfl) (by kernel_rfl) ?_
          simp only [List.take_succ_cons, List.take_zero, List.drop_succ_cons, List.drop_zero]
          repeat (
            first
            | go_big_quiet_skip
            | (go_big_quiet_want
               go_big_quiet_op
               first
               | go_big_quiet_on
               | (apply Exists.intro
                  refine ⟨fun v1 hv1 => ?_, ?_⟩
                  · (first
                    | (exact rfl)
                    | (obtain ⟨c0, c1⟩ := (HPV.out.more (HB7.out.trans (hv1.mono HB7.out.size))).sp.at; simp only [c0, c1, Result.andThen]; exact ⟨trivial, rfl⟩)
                    | (obtain ⟨b0, b1, b2⟩ := (HPV.out.more (HB7.out.trans (hv1.mono HB7.out.size))).sc.at; simp only [b0, b1, b2, Result.andThen]; exact ⟨trivial, rfl⟩)
                    | (have d0 := HCELL7.out v1 hv1; simp only [d0, Result.andThen]; exact ⟨trivial, rfl⟩)
                    | (exact ⟨trivial, rfl⟩))
                  go_big_quiet_on)))
          refine wpQuiet_nil ?_
          refine wpRelG_rel (k := 6) rfl rfl (by decide) rfl (fun w5 hw5 => ?_) (fun v hv => ?_)
          · go_simp
            exact rel_part hw5.1 (T7.out w5 hw5.1)
          obtain ⟨a5, c5, rfl⟩ := hv
          simp only [Act.put, tupP, snd2_two, List.getElem_toArray, List.getElem_cons_succ, List.getElem_cons_zero, List.setIfInBounds_toArray, List.set_cons_succ, List.set_cons_zero]
          refine wpRelG_glued (p := 7) rfl rfl rfl (fun w5 hw5 => ?_) (fun v hv => ?_)
          · go_simp
            exact rel_mvP hw5.1 (hw5.2 6 rfl)
          obtain ⟨bv, dv, rfl⟩ := hv
          simp only [Act.put, tupP, snd2_two, List.getElem_toArray, List.getElem_cons_succ, List.getElem_cons_zero, List.setIfInBounds_toArray, List.set_cons_succ, List.set_cons_zero]
          refine wpRelG_segL [8] (fun l => (l.take 9).drop 8) rfl (by kernel_rfl) (by kernel_rfl) (by kernel_rfl) ?_
          simp only [List.take_succ_cons, List.take_zero, List.drop_succ_cons, List.drop_zero]
          repeat (
            first
            | go_big_quiet_skip
            | (go_big_quiet_want
               go_big_quiet_op
               first
               | go_big_quiet_on
               | (apply Exists.intro
                  refine ⟨fun v1 hv1 => ?_, ?_⟩
                  · (first
                    | (exact rfl)
                    | (exact ⟨trivial, rfl⟩))
                  go_big_quiet_on)))
          refine wpQuiet_nil ?_
          refine wpRelG_nil ?_
          intro w8 hb9 hF
          have HO8 := Lib.hid ((show (relPart w7.heap.size q z).V (tupP q z bv dv) w8 from hF 7) bv dv rfl)
          clear hF
          have HB8 := Lib.hid (HB7.out.trans (hb9.mono HB7.out.size))
          have HO78 := Lib.hid (HO7.out.below hb9)
          clear hb9 HCELL7 T7 HO7
          have T9 := Lib.hid (samevals_any w8 av bv cv dv q q HO78.out.isV HO8.out.isV HQL.out)
          rw [decide_eq_true (rfl : q = q)] at T9
          have hz : (z != z) = false := by simp
          go_upto_region 12 with (first
            | (go_at_call 19; refine (num_any _ _).mono ?_; rintro e wn ⟨rfl, rfl⟩)
            | (go_at_call 39; refine T9.out.mono ?_; rintro e w9 ⟨rfl, hb⟩; have HB9 := Lib.hid (HB8.out.trans (hb.mono HB8.out.size)); have HO79 := Lib.hid (HO78.out.below hb); clear hb))
          clear hz
          go_wp2_with (go_at_call 40; refine (spoilvals_any _ av cv _ q HO79.out HQL.out).mono ?_; rintro e w10 ⟨rfl, hf⟩; have HB10 := Lib.hid (Frm.to_below HB9.out hf (fun k hk => by have h1 := (HO79.out.at_ge (k := k) (by unfold At; exact hk)).1; have h2 := HGE.out; omega) (Nat.le_refl _)); clear hf)
          go_roundw
          case rel => exact ⟨n + 1, HCN.out, by have := HC20.out; omega, by go_num, HB10⟩
          case measure => have := HC20.out; simp [intOf]; omega
        · have hn2 : ¬ (n : Int) < 20 := by omega
          clear c20 hl20
          obtain ⟨c0, c1⟩ := (HX.out.below HB.out).at
          obtain ⟨b0, b1, b2⟩ := (HY.out.below HB.out).at
          go_upto_region 14 with (go_at_call 41; refine (TS1.out _ HB.out).mono ?_; rintro e w6 ⟨at1, ct1, rfl, ho, hb⟩; have HB6 := Lib.hid (HB.out.trans (hb.mono HB.out.size)); have HI6 := Lib.hid (OwnI.isL ho); clear ho hb c0 c1 b0 b1 b2)
          obtain ⟨c0, c1⟩ := (HPV.out.more HB6.out).sp.at
          obtain ⟨b0, b1, b2⟩ := (HPV.out.more HB6.out).sc.at
          go_upto_region 15 with (go_at_call 42; refine (TS2.out _ HB6.out).mono ?_; rintro e w7 ⟨at2, ct2, rfl, ho, hb⟩; have HB7 := Lib.hid (HB6.out.trans (hb.mono HB6.out.size)); have HI7 := Lib.hid (HI6.out.below hb); have HJ7 := Lib.hid (OwnI.isL ho); clear ho hb c0 c1 b0 b1 b2)
          have T8 := Lib.hid (sameints_any w7 at1 at2 ct1 ct2 zt zt HI7.out HJ7.out (by have h1 := HSLEN.out; have h2 := HRL.out; unfold maxLen; omega))
          rw [decide_eq_true (rfl : zt = zt)] at T8
          have hz : (ze == ze) = true := by simp
          go_wp2_with (first
            | (go_at_call 19; refine (num_any _ _).mono ?_; rintro e wn ⟨rfl, rfl⟩; obtain ⟨c0, c1⟩ := (HX.out.below HB8.out).at; obtain ⟨d0, d1⟩ := (HPV.out.more HB8.out).sp.at)
            | (go_at_call 43; refine T8.out.mono ?_; rintro e w8 ⟨rfl, hb⟩; have HB8 := Lib.hid (HB7.out.trans (hb.mono HB7.out.size)); clear hb)
            | (go_at_call 44; refine (TKF.out _ HB8.out).mono ?_; rintro e w9 ⟨rfl, hb⟩; have HB9 := Lib.hid (HB8.out.trans (hb.mono HB8.out.size)); clear hb c0 c1 d0 d1; obtain ⟨b0, b1, b2⟩ := (HY.out.below HB9.out).at; obtain ⟨d0, d1, d2⟩ := (HPV.out.more HB9.out).sc.at)
            | (go_at_call 22; refine (TKC.out _ HB9.out).mono ?_; rintro e w10 ⟨rfl, hb⟩; have HB10 := Lib.hid (HB9.out.trans (hb.mono HB9.out.size)); clear hb b0 b1 b2 d0 d1 d2)
            | (go_at_call 45; refine (TKR.out _ HB10.out).mono ?_; rintro e w11 ⟨rfl, hb⟩; have HB11 := Lib.hid (HB10.out.trans (hb.mono HB10.out.size)); clear hb)
            | (go_at_call 32; refine (TAW.out _).mono ?_; rintro e w12 ⟨rfl, hb⟩; have HB12 := Lib.hid (HB11.out.trans (hb.mono HB11.out.size)); clear hb))
          go_ret
          exact ⟨rfl, (HPV.out.more HB12.out).below⟩
      · obtain rfl : n = rs.length := by omega
        clear cn hle hl20
        obtain ⟨c0, c1⟩ := (HX.out.below HB.out).at
        obtain ⟨b0, b1, b2⟩ := (HY.out.below HB.out).at
        go_upto_region 14 with (go_at_call 41; refine (TS1.out _ HB.out).mono ?_; rintro e w6 ⟨at1, ct1, rfl, ho, hb⟩; have HB6 := Lib.hid (HB.out.trans (hb.mono HB.out.size)); have HI6 := Lib.hid (OwnI.isL ho); clear ho hb c0 c1 b0 b1 b2)
        obtain ⟨c0, c1⟩ := (HPV.out.more HB6.out).sp.at
        obtain ⟨b0, b1, b2⟩ := (HPV.out.more HB6.out).sc.at
        go_upto_region 15 with (go_at_call 42; refine (TS2.out _ HB6.out).mono ?_; rintro e w7 ⟨at2, ct2, rfl, ho, hb⟩; have HB7 := Lib.hid (HB6.out.trans (hb.mono HB6.out.size)); have HI7 := Lib.hid (HI6.out.below hb); have HJ7 := Lib.hid (OwnI.isL ho); clear ho hb c0 c1 b0 b1 b2)
        have T8 := Lib.hid (sameints_any w7 at1 at2 ct1 ct2 zt zt HI7.out HJ7.out (by have h1 := HSLEN.out; have h2 := HRL.out; unfold maxLen; omega))
        rw [decide_eq_true (rfl : zt = zt)] at T8
        have hz : (ze == ze) = true := by simp
        go_wp2_with (first
          | (go_at_call 19; refine (num_any _ _).mono ?_; rintro e wn ⟨rfl, rfl⟩; obtain ⟨c0, c1⟩ := (HX.out.below HB8.out).at; obtain ⟨d0, d1⟩ := (HPV.out.more HB8.out).sp.at)
          | (go_at_call 43; refine T8.out.mono ?_; rintro e w8 ⟨rfl, hb⟩; have HB8 := Lib.hid (HB7.out.trans (hb.mono HB7.out.size)); clear hb)
          | (go_at_call 44; refine (TKF.out _ HB8.out).mono ?_; rintro e w9 ⟨rfl, hb⟩; have HB9 := Lib.hid (HB8.out.trans (hb.mono HB8.out.size)); clear hb c0 c1 d0 d1; obtain ⟨b0, b1, b2⟩ := (HY.out.below HB9.out).at; obtain ⟨d0, d1, d2⟩ := (HPV.out.more HB9.out).sc.at)
          | (go_at_call 22; refine (TKC.out _ HB9.out).mono ?_; rintro e w10 ⟨rfl, hb⟩; have HB10 := Lib.hid (HB9.out.trans (hb.mono HB9.out.size)); clear hb b0 b1 b2 d0 d1 d2)
          | (go_at_call 45; refine (TKR.out _ HB10.out).mono ?_; rintro e w11 ⟨rfl, hb⟩; have HB11 := Lib.hid (HB10.out.trans (hb.mono HB10.out.size)); clear hb)
          | (go_at_call 32; refine (TAW.out _).mono ?_; rintro e w12 ⟨rfl, hb⟩; have HB12 := Lib.hid (HB11.out.trans (hb.mono HB11.out.size)); clear hb))
        go_ret
        exact ⟨rfl, (HPV.out.more HB12.out).below⟩
  | false =>
    refine region_class (fun w' => Below v.heap.size v w') (by kernel_rfl) (by kernel_rfl) (Below.refl _ _).drew ?_
    repeat (
      first
      | go_big_quiet_skip
      | (go_big_quiet_want
         go_big_quiet_op
         first
         | go_big_quiet_on
         | (apply Exists.intro
            refine ⟨fun v1 hv1 => ?_, ?_⟩
            · (first
              | (exact rfl)
              | (go_at_call 35; exact (TM1.out v1 hv1).mono fun e w3 ⟨he, hb⟩ => ⟨he, hv1.trans (hb.mono hv1.size)⟩)
              | (go_at_call 36; exact (TM2.out v1 hv1).mono fun e w3 ⟨he, hb⟩ => ⟨he, hv1.trans (hb.mono hv1.size)⟩)
              | (obtain ⟨c0, c1⟩ := (HX.out.below hv1).at; simp only [c0, c1, Result.andThen]; exact ⟨trivial, rfl⟩)
              | (obtain ⟨b0, b1, b2⟩ := (HY.out.below hv1).at; simp only [b0, b1, b2, Result.andThen]; exact ⟨trivial, rfl⟩)
              | (obtain ⟨c0, c1⟩ := (HPV.out.more hv1).sp.at; simp only [c0, c1, Result.andThen]; exact ⟨trivial, rfl⟩)
              | (obtain ⟨b0, b1, b2⟩ := (HPV.out.more hv1).sc.at; simp only [b0, b1, b2, Result.andThen]; exact ⟨trivial, rfl⟩)
              | (exact ⟨trivial, rfl⟩))
            go_big_quiet_on)))
    refine wpQuiet_nil ?_
    intro w5 hw5
    have HB5 := Lib.hid hw5
    clear hw5
    go_upto_region 6 with fail
    clear TM1 TM2
    go_loopw [10] (fun iv wr => ∃ n : Nat, n ≤ rs.length ∧ n ≤ 20 ∧ iv = .int .i64 n ∧ Hid (Below v.heap.size v wr)) (fun iv _ => 20 - (intOf iv).toNat)
    case atStart => exact ⟨0, Nat.zero_le _, Nat.zero_le _, rfl, HB5⟩
    case round =>
      obtain ⟨n, hle, hl20, rfl, HB⟩ := hrel
      by_cases cn : n < rs.length
      · have hni : (n : Int) < (rs.length : Int) := by omega
        by_cases c20 : n < 20
        · have hn2 : (n : Int) < 20 := by omega
          obtain ⟨b, off, ar, kr, e0, hc1, hi1⟩ := (HIR.out.below HB.out).get cn
          obtain ⟨rfl, rfl⟩ : gr = b ∧ 0 = off := by simp only [Option.some.injEq, Addr.mk.injEq] at e0; exact ⟨e0.1, e0.2.1⟩
          obtain ⟨b2, off2, ar2, kr2, rfl, hc2, hi2⟩ := (HR.out.below (HPV.out.more HB.out).below).get cn
          rw [Nat.zero_add] at hc1
          have HCELL1 := Lib.hid (fun (x : World) (hx : Below wr.heap.size wr x) => (World.cell?_of_block (hx.block _ (World.block_lt_of_cell? wr ⟨_, _, none⟩ hc1))).trans hc1)
          have HCELL2 := Lib.hid (fun (x : World) (hx : Below wr.heap.size wr x) => (World.cell?_of_block (hx.block _ (World.block_lt_of_cell? wr ⟨_, _, none⟩ hc2))).trans hc2)
          have T1 := Lib.hid (fun (x : World) (hx : Below wr.heap.size wr x) => TP1.out x (HB.out.trans (hx.mono HB.out.size)) n cn ar kr (hi1.below hx))
          have T2 := Lib.hid (fun (x : World) (hx : Below wr.heap.size wr x) => TP2.out x (HB.out.trans (hx.mono HB.out.size)) n cn ar2 kr2 (hi2.below hx))
          have HQL := Lib.hid (HPLEN.out n cn)
          obtain ⟨q, z, hqz⟩ : ∃ q z, partA p s rs[n] = (q, z) := ⟨_, _, rfl⟩
          rw [hqz] at T1 T2 HQL
          clear hqz e0 hc1 hc2 hi1 hi2
          generalize rs[n] = r at *
          have HCN := Lib.hid cn
          have HC20 := Lib.hid c20
          go_upto_region 8 with fail
          refine region_glue (fun w' => Below wr.heap.size wr w') 10 7 9 snd2 _ _ [0, 1, 2, 3, 4, 5, 6, 7, 8] [(6, relPart wr.heap.size q z), (7, relPart wr.heap.size q z)] [(7, 6)] (by kernel_rfl) (by kernel_rfl) rfl rfl rfl (fun R hR b v hb hu => ?_) (fun _ _ _ _ h => h) (by kernel_rfl) (ok_cons (relPart_ok _ _ _) (ok_cons (relPart_ok _ _ _) ok_nil)) (Below.refl _ _).drew (fun w1 w2 h1 h2 => h1.trans (h2.mono h1.size)) ?_
          · cases hR
            exact snd_tupP _ rfl rfl (by rw [hb]; exact of_decide_eq_true rfl) hu
          refine wpRelG_segL [0, 1, 2, 3, 4, 5] (fun l => (l.take 6).drop 0) rfl (by kernel_rfl) (by kernel_rfl) (by kernel_rfl) ?_
          simp only [List.take_succ_cons, List.take_zero, List.drop_succ_cons, List.drop_zero]
          repeat (
            first
            | go_big_quiet_skip
            | (go_big_quiet_want
               go_big_quiet_op
               first
               | go_big_quiet_on
               | (apply Exists.intro
                  refine ⟨fun v1 hv1 => ?_, ?_⟩
                  · (first
                    | (exact rfl)
                    | (obtain ⟨c0, c1⟩ := (HX.out.below (HB.out.trans (hv1.mono HB.out.size))).at; simp only [c0, c1, Result.andThen]; exact ⟨trivial, rfl⟩)
                    | (obtain ⟨b0, b1, b2⟩ := (HY.out.below (HB.out.trans (hv1.mono HB.out.size))).at; simp only [b0, b1, b2, Result.andThen]; exact ⟨trivial, rfl⟩)
                    | (have d0 := HCELL1.out v1 hv1; simp only [d0, Result.andThen]; exact ⟨trivial, rfl⟩)
                    | (exact ⟨trivial, rfl⟩))
                  go_big_quiet_on)))
          refine wpQuiet_nil ?_
          refine wpRelG_rel (k := 6) rfl rfl (by decide) rfl (fun w5 hw5 => ?_) (fun v hv => ?_)
          · go_simp
            exact rel_part hw5.1 (T1.out w5 hw5.1)
          obtain ⟨a5, c5, rfl⟩ := hv
          simp only [Act.put, tupP, snd2_two, List.getElem_toArray, List.getElem_cons_succ, List.getElem_cons_zero, List.setIfInBounds_toArray, List.set_cons_succ, List.set_cons_zero]
          refine wpRelG_glued (p := 7) rfl rfl rfl (fun w5 hw5 => ?_) (fun v hv => ?_)
          · go_simp
            exact rel_mvP hw5.1 (hw5.2 6 rfl)
          obtain ⟨av, cv, rfl⟩ := hv
          simp only [Act.put, tupP, snd2_two, List.getElem_toArray, List.getElem_cons_succ, List.getElem_cons_zero, List.setIfInBounds_toArray, List.set_cons_succ, List.set_cons_zero]
          refine wpRelG_segL [8] (fun l => (l.take 9).drop 8) rfl (by kernel_rfl) (by kernel_rfl) (by kernel_rfl) ?_
          simp only [List.take_succ_cons, List.take_zero, List.drop_succ_cons, List.drop_zero]
          repeat (
            first
            | go_big_quiet_skip
            | (go_big_quiet_want
               go_big_quiet_op
               first
               | go_big_quiet_on
               | (apply Exists.intro
                  refine ⟨fun v1 hv1 => ?_, ?_⟩
                  · (first
                    | (exact rfl)
                    | (exact ⟨trivial, rfl⟩))
                  go_big_quiet_on)))
          refine wpQuiet_nil ?_
          refine wpRelG_nil ?_
          intro w7 hb9 hF
          have HO7 := Lib.hid ((show (relPart wr.heap.size q z).V (tupP q z av cv) w7 from hF 7) av cv rfl)
          clear hF
          have HB7 := Lib.hid (HB.out.trans (hb9.mono HB.out.size))
          have HCELL7 := Lib.hid (fun (x : World) (hx : Below w7.heap.size w7 x) => HCELL2.out x (hb9.trans (hx.mono hb9.size)))
          have T7 := Lib.hid (fun (x : World) (hx : Below w7.heap.size w7 x) => T2.out x (hb9.trans (hx.mono hb9.size)))
          have HGE := Lib.hid HB.out.size
          clear hb9 HCELL1 HCELL2 T1 T2
          go_upto_region 9 with fail
          refine region_glue (fun w' => Below w7.heap.size w7 w') 10 7 9 snd2 _ _ [0, 1, 2, 3, 4, 5, 6, 7, 8] [(6, relPart w7.heap.size q z), (7, relPart w7.heap.size q z)] [(7, 6)] (by kernel_rfl) (by kernel_rfl) rfl rfl rfl (fun R hR b v hb hu => ?_) (fun _ _ _ _ h => h) (by kernel_rfl) (ok_cons (relPart_ok _ _ _) (ok_cons (relPart_ok _ _ _) ok_nil)) (Below.refl _ _).drew (fun w1 w2 h1 h2 => h1.trans (h2.mono h1.size)) ?_
          · cases hR
            exact snd_tupP _ rfl rfl (by rw [hb]; exact of_decide_eq_true rfl) hu
          refine wpRelG_segL [0, 1, 2, 3, 4, 5] (fun l => (l.take 6).drop 0) rfl (by kernel_rfl) (by kernel_rfl) (by kernel_rfl) ?_
          simp only [List.take_succ_cons, List.take_zero, List.drop_succ_cons, List.drop_zero]
          repeat (
            first
            | go_big_quiet_skip
            | (go_big_quiet_want
               go_big_quiet_op
               first
               | go_big_quiet_on
               | (apply Exists.intro
                  refine ⟨fun v1 hv1 => ?_, ?_⟩
                  · (first
                    | (exact rfl)
                    | (obtain ⟨c0, c1⟩ := (HPV.out.more (HB7.out.trans (hv1.mono HB7.out.size))).sp.at; simp only [c0, c1, Result.andThen]; exact ⟨trivial, rfl⟩)
                    | (obtain ⟨b0, b1, b2⟩ := (HPV.out.more (HB7.out.trans (hv1.mono HB7.out.size))).sc.at; simp only [b0, b1, b2, Result.andThen]; exact ⟨trivial, rfl⟩)
                    | (have d0 := HCELL7.out v1 hv1; simp only [d0, Result.andThen]; exact ⟨trivial, rfl⟩)
                    | (exact ⟨trivial, rfl⟩))
                  go_big_quiet_on)))
          refine wpQuiet_nil ?_
          refine wpRelG_rel (k := 6) rfl rfl (by decide) rfl (fun w5 hw5 => ?_) (fun v hv => ?_)
          · go_simp
            exact rel_part hw5.1 (T7.out w5 hw5.1)
          obtain ⟨a5, c5, rfl⟩ := hv
          simp only [Act.put, tupP, snd2_two, List.getElem_toArray, List.getElem_cons_succ, List.getElem_cons_zero, List.setIfInBounds_toArray, List.set_cons_succ, List.set_cons_zero]
          refine wpRelG_glued (p := 7) rfl rfl rfl (fun w5 hw5 => ?_) (fun v hv => ?_)
          · go_simp
            exact rel_mvP hw5.1 (hw5.2 6 rfl)
          obtain ⟨bv, dv, rfl⟩ := hv
          simp only [Act.put, tupP, snd2_two, List.getElem_toArray, List.getElem_cons_succ, List.getElem_cons_zero, List.setIfInBounds_toArray, List.set_cons_succ, List.set_cons_zero]
          refine wpRelG_segL [8] (fun l => (l.take 9).drop 8) rfl (by kernel_rfl) (by kernel_rfl) (by kernel_rfl) ?_
          simp only [List.take_succ_cons, List.take_zero, List.drop_succ_cons, List.drop_zero]
          repeat (
            first
            | go_big_quiet_skip
            | (go_big_quiet_want
               go_big_quiet_op
               first
               | go_big_quiet_on
               | (apply Exists.intro
                  refine ⟨fun v1 hv1 => ?_, ?_⟩
                  · (first
                    | (exact rfl)
                    | (exact ⟨trivial, rfl⟩))
                  go_big_quiet_on)))
          refine wpQuiet_nil ?_
          refine wpRelG_nil ?_
          intro w8 hb9 hF
          have HO8 := Lib.hid ((show (relPart w7.heap.size q z).V (tupP q z bv dv) w8 from hF 7) bv dv rfl)
          clear hF
          have HB8 := Lib.hid (HB7.out.trans (hb9.mono HB7.out.size))
          have HO78 := Lib.hid (HO7.out.below hb9)
          clear hb9 HCELL7 T7 HO7
          have T9 := Lib.hid (samevals_any w8 av bv cv dv q q HO78.out.isV HO8.out.isV HQL.out)
          rw [decide_eq_true (rfl : q = q)] at T9
          have hz : (z != z) = false := by simp
          go_upto_region 12 with (first
            | (go_at_call 19; refine (num_any _ _).mono ?_; rintro e wn ⟨rfl, rfl⟩)
            | (go_at_call 39; refine T9.out.mono ?_; rintro e w9 ⟨rfl, hb⟩; have HB9 := Lib.hid (HB8.out.trans (hb.mono HB8.out.size)); have HO79 := Lib.hid (HO78.out.below hb); clear hb))
          clear hz
          go_wp2_with (go_at_call 40; refine (spoilvals_any _ av cv _ q HO79.out HQL.out).mono ?_; rintro e w10 ⟨rfl, hf⟩; have HB10 := Lib.hid (Frm.to_below HB9.out hf (fun k hk => by have h1 := (HO79.out.at_ge (k := k) (by unfold At; exact hk)).1; have h2 := HGE.out; omega) (Nat.le_refl _)); clear hf)
          go_roundw
          case rel => exact ⟨n + 1, HCN.out, by have := HC20.out; omega, by go_num, HB10⟩
          case measure => have := HC20.out; simp [intOf]; omega
        · have hn2 : ¬ (n : Int) < 20 := by omega
          clear c20 hl20
          obtain ⟨c0, c1⟩ := (HX.out.below HB.out).at
          obtain ⟨b0, b1, b2⟩ := (HY.out.below HB.out).at
          go_upto_region 14 with (go_at_call 41; refine (TS1.out _ HB.out).mono ?_; rintro e w6 ⟨at1, ct1, rfl, ho, hb⟩; have HB6 := Lib.hid (HB.out.trans (hb.mono HB.out.size)); have HI6 := Lib.hid (OwnI.isL ho); clear ho hb c0 c1 b0 b1 b2)
          obtain ⟨c0, c1⟩ := (HPV.out.more HB6.out).sp.at
          obtain ⟨b0, b1, b2⟩ := (HPV.out.more HB6.out).sc.at
          go_upto_region 15 with (go_at_call 42; refine (TS2.out _ HB6.out).mono ?_; rintro e w7 ⟨at2, ct2, rfl, ho, hb⟩; have HB7 := Lib.hid (HB6.out.trans (hb.mono HB6.out.size)); have HI7 := Lib.hid (HI6.out.below hb); have HJ7 := Lib.hid (OwnI.isL ho); clear ho hb c0 c1 b0 b1 b2)
          have T8 := Lib.hid (sameints_any w7 at1 at2 ct1 ct2 zt zt HI7.out HJ7.out (by have h1 := HSLEN.out; have h2 := HRL.out; unfold maxLen; omega))
          rw [decide_eq_true (rfl : zt = zt)] at T8
          have hz : (ze == ze) = true := by simp
          go_wp2_with (first
            | (go_at_call 19; refine (num_any _ _).mono ?_; rintro e wn ⟨rfl, rfl⟩; obtain ⟨c0, c1⟩ := (HX.out.below HB8.out).at; obtain ⟨d0, d1⟩ := (HPV.out.more HB8.out).sp.at)
            | (go_at_call 43; refine T8.out.mono ?_; rintro e w8 ⟨rfl, hb⟩; have HB8 := Lib.hid (HB7.out.trans (hb.mono HB7.out.size)); clear hb)
            | (go_at_call 44; refine (TKF.out _ HB8.out).mono ?_; rintro e w9 ⟨rfl, hb⟩; have HB9 := Lib.hid (HB8.out.trans (hb.mono HB8.out.size)); clear hb c0 c1 d0 d1; obtain ⟨b0, b1, b2⟩ := (HY.out.below HB9.out).at; obtain ⟨d0, d1, d2⟩ := (HPV.out.more HB9.out).sc.at)
            | (go_at_call 22; refine (TKC.out _ HB9.out).mono ?_; rintro e w10 ⟨rfl, hb⟩; have HB10 := Lib.hid (HB9.out.trans (hb.mono HB9.out.size)); clear hb b0 b1 b2 d0 d1 d2)
            | (go_at_call 45; refine (TKR.out _ HB10.out).mono ?_; rintro e w11 ⟨rfl, hb⟩; have HB11 := Lib.hid (HB10.out.trans (hb.mono HB10.out.size)); clear hb)
            | (go_at_call 32; refine (TAW.out _).mono ?_; rintro e w12 ⟨rfl, hb⟩; have HB12 := Lib.hid (HB11.out.trans (hb.mono HB11.out.size)); clear hb))
          go_ret
          exact ⟨rfl, (HPV.out.more HB12.out).below⟩
      · obtain rfl : n = rs.length := by omega
        clear cn hle hl20
        obtain ⟨c0, c1⟩ := (HX.out.below HB.out).at
        obtain ⟨b0, b1, b2⟩ := (HY.out.below HB.out).at
        go_upto_region 14 with (go_at_call 41; refine (TS1.out _ HB.out).mono ?_; rintro e w6 ⟨at1, ct1, rfl, ho, hb⟩; have HB6 := Lib.hid (HB.out.trans (hb.mono HB.out.size)); have HI6 := Lib.hid (OwnI.isL ho); clear ho hb c0 c1 b0 b1 b2)
        obtain ⟨c0, c1⟩ := (HPV.out.more HB6.out).sp.at
        obtain ⟨b0, b1, b2⟩ := (HPV.out.more HB6.out).sc.at
        go_upto_region 15 with (go_at_call 42; refine (TS2.out _ HB6.out).mono ?_; rintro e w7 ⟨at2, ct2, rfl, ho, hb⟩; have HB7 := Lib.hid (HB6.out.trans (hb.mono HB6.out.size)); have HI7 := Lib.hid (HI6.out.below hb); have HJ7 := Lib.hid (OwnI.isL ho); clear ho hb c0 c1 b0 b1 b2)
        have T8 := Lib.hid (sameints_any w7 at1 at2 ct1 ct2 zt zt HI7.out HJ7.out (by have h1 := HSLEN.out; have h2 := HRL.out; unfold maxLen; omega))
        rw [decide_eq_true (rfl : zt = zt)] at T8
        have hz : (ze == ze) = true := by simp
        go_wp2_with (first
          | (go_at_call 19; refine (num_any _ _).mono ?_; rintro e wn ⟨rfl, rfl⟩; obtain ⟨c0, c1⟩ := (HX.out.below HB8.out).at; obtain ⟨d0, d1⟩ := (HPV.out.more HB8.out).sp.at)
          | (go_at_call 43; refine T8.out.mono ?_; rintro e w8 ⟨rfl, hb⟩; have HB8 := Lib.hid (HB7.out.trans (hb.mono HB7.out.size)); clear hb)
          | (go_at_call 44; refine (TKF.out _ HB8.out).mono ?_; rintro e w9 ⟨rfl, hb⟩; have HB9 := Lib.hid (HB8.out.trans (hb.mono HB8.out.size)); clear hb c0 c1 d0 d1; obtain ⟨b0, b1, b2⟩ := (HY.out.below HB9.out).at; obtain ⟨d0, d1, d2⟩ := (HPV.out.more HB9.out).sc.at)
          | (go_at_call 22; refine (TKC.out _ HB9.out).mono ?_; rintro e w10 ⟨rfl, hb⟩; have HB10 := Lib.hid (HB9.out.trans (hb.mono HB9.out.size)); clear hb b0 b1 b2 d0 d1 d2)
          | (go_at_call 45; refine (TKR.out _ HB10.out).mono ?_; rintro e w11 ⟨rfl, hb⟩; have HB11 := Lib.hid (HB10.out.trans (hb.mono HB10.out.size)); clear hb)
          | (go_at_call 32; refine (TAW.out _).mono ?_; rintro e w12 ⟨rfl, hb⟩; have HB12 := Lib.hid (HB11.out.trans (hb.mono HB11.out.size)); clear hb))
        go_ret
        exact ⟨rfl, (HPV.out.more HB12.out).below⟩
end Go.Proofs.Ythfakpekdjmpjaa
