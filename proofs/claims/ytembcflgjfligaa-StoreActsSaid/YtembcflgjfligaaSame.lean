/- SameObjects of the statements: are two lists of objects alike? -/
import Derived.Test.YtembcflgjfligaaList
import Derived.Laws.StructEq
namespace Go.Proofs.Ytembcflgjfligaa
open Go.Conc Go.RowKit

theorem bel_drewN {B : Nat} {a w : World} {n : Nat} (h : Below B a w) : Below B a (w.drewN n) := ⟨h.os, h.tape, h.output, h.size, h.block⟩
/-- The answer is whether they are alike. -/
def SameAns (la lb : List Ob) (w : World) (e : Ending) (w' : World) : Prop := Below w.heap.size w w' ∧ ((e = .returned (.bool true) ∧ la = lb) ∨ (e = .returned (.bool false) ∧ la ≠ lb))

theorem ne_at {la lb : List Ob} {a : Nat} {o p : Ob} (ho : la[a]? = some o) (hp : lb[a]? = some p) (h : o ≠ p) : la ≠ lb := by
  rintro rfl
  rw [ho] at hp
  exact h (by simpa using hp)
theorem take_more {la lb : List Ob} {a : Nat} {o p : Ob} (h : la.take a = lb.take a) (ho : la[a]? = some o) (hp : lb[a]? = some p) (he : o = p) : la.take (a + 1) = lb.take (a + 1) := by
  rw [List.take_add_one, List.take_add_one, ho, hp, h, he]

/-- Are two objects alike, field by field? -/
def sameOb (o p : Ob) : Bool := (o.key.toList == p.key.toList) && ((o.data.toList == p.data.toList) && (o.time == p.time))
theorem toList_inj {a b : ByteArray} (h : a.toList = b.toList) : a = b := by
  rw [ByteArray.toList_eq, ByteArray.toList_eq] at h
  exact congrArg ByteArray.mk (Array.toList_inj.1 h)
theorem sameOb_iff (o p : Ob) : sameOb o p = true ↔ o = p := by
  cases o; cases p
  simp only [sameOb, Bool.and_eq_true, beq_iff_eq, Ob.mk.injEq]
  constructor
  · rintro ⟨h1, h2, h3⟩
    exact ⟨toList_inj h1, toList_inj h2, h3⟩
  · rintro ⟨rfl, rfl, rfl⟩
    exact ⟨rfl, rfl, rfl⟩

theorem run_neq_obj (o p : Ob) (w : World) : (binOp .neq 56 (.agg #[.string o.key, .string o.data, .int .i64 o.time]) (.agg #[.string p.key, .string p.data, .int .i64 p.time])).run Try.prog w = .ok (.bool (!sameOb o p)) w := by
  unfold sameOb
  cases h1 : (o.key.toList == p.key.toList) <;> cases h2 : (o.data.toList == p.data.toList) <;> cases h3 : (o.time == p.time) <;> go_simp

set_option maxHeartbeats 1000000 in
theorem same_any (w : World) (sa sb : Value) (la lb : List Ob) (ha : w.ownsRow 0 56 3 sa la.length (rowOf la)) (hb : w.ownsRow 0 56 3 sb lb.length (rowOf lb)) (hla : la.length ≤ 4096) :
    Calls Try.prog 13 #[sa, sb] w (SameAns la lb w) := by
  by_cases hl : la.length = lb.length
  · by_cases h0 : la.length = 0
    · have e1 : la = [] := List.eq_nil_of_length_eq_zero h0
      have e2 : lb = [] := List.eq_nil_of_length_eq_zero (by omega)
      subst e1
      subst e2
      obtain ⟨a1, c1, rfl⟩ := row_shape ha
      obtain ⟨a2, c2, rfl⟩ := row_shape hb
      clear ha hb
      go_enter Try.func13, Try.ntmps13
      go_wp2
      go_loopw [5] (fun i wr => i = .int .i64 0 ∧ w = wr) (fun _ _ => 0)
      case atStart => exact ⟨rfl, rfl⟩
      case round =>
        obtain ⟨rfl, rfl⟩ := hrel
        go_wp2
        go_ret
        exact ⟨Below.refl _ _, .inl ⟨rfl, rfl⟩⟩
    · rcases ha.2 with ⟨rfl, h1⟩ | ⟨g, cap, cur, rfl, hb', hgg, hnc, hcm, hcs, htake⟩
      · omega
      rcases hb.2 with ⟨rfl, h1⟩ | ⟨g2, cap2, cur2, rfl, hb2', hgg2, hnc2, hcm2, hcs2, htake2⟩
      · omega
      have HA := Lib.hid (row_cells ha)
      have HB := Lib.hid (row_cells hb)
      have hg : g < w.heap.size := (Array.getElem?_eq_some_iff.1 hgg).1
      have hg2 : g2 < w.heap.size := (Array.getElem?_eq_some_iff.1 hgg2).1
      obtain ⟨n, hn⟩ : ∃ n, n = la.length := ⟨_, rfl⟩
      have HN := Lib.hid hn
      have HL : Hid (n = lb.length) := by unfold Hid; omega
      have hn0 : n ≤ 4096 := by omega
      rw [← hl, ← hn]
      clear ha hb hgg hnc hcm hcs htake hb' hgg2 hnc2 hcm2 hcs2 htake2 hb2' hl h0 hn hla
      go_enter Try.func13, Try.ntmps13
      go_wp2
      go_loopw [5] (fun i wr => ∃ a : Nat, a ≤ n ∧ i = .int .i64 a ∧ Below w.heap.size w wr ∧ Hid (la.take a = lb.take a)) (fun i _ => n - (intOf i).toNat)
      case atStart => exact ⟨0, Nat.zero_le _, rfl, Below.refl _ _, rfl⟩
      case round =>
        obtain ⟨a, ha, rfl, hbel, HT⟩ := hrel
        by_cases hlt : a < n
        · obtain ⟨o, ho⟩ : ∃ o, la[a]? = some o := ⟨la[a]'(by have := HN.out; omega), List.getElem?_eq_getElem _⟩
          obtain ⟨p, hp⟩ : ∃ p, lb[a]? = some p := ⟨lb[a]'(by have := HL.out; omega), List.getElem?_eq_getElem _⟩
          obtain ⟨q0, q1, q2⟩ := HA.out _ _ ho
          obtain ⟨r0, r1, r2⟩ := HB.out _ _ hp
          have f0 := (hbel.cell (p := ⟨g, a * 3, none⟩) hg).trans q0
          have f1 := (hbel.cell (p := ⟨g, a * 3 + 1, none⟩) hg).trans q1
          have f2 := (hbel.cell (p := ⟨g, a * 3 + 2, none⟩) hg).trans q2
          have e0 := (hbel.cell (p := ⟨g2, a * 3, none⟩) hg2).trans r0
          have e1 := (hbel.cell (p := ⟨g2, a * 3 + 1, none⟩) hg2).trans r1
          have e2 := (hbel.cell (p := ⟨g2, a * 3 + 2, none⟩) hg2).trans r2
          have HO := Lib.hid ho
          have HP := Lib.hid hp
          have HBel := Lib.hid hbel
          clear q0 q1 q2 r0 r1 r2 ho hp hbel
          have hq := run_neq_obj o p
          cases hs : sameOb o p with
          | false =>
            simp only [hs, Bool.not_false] at hq
            have HS := Lib.hid hs
            clear hs
            go_wp2
            go_quiet (fail)
            go_wp2
            go_ret
            refine ⟨(bel_drewN HBel.out), .inr ⟨rfl, ne_at HO.out HP.out fun e => ?_⟩⟩
            have := HS.out
            rw [(sameOb_iff o p).2 e] at this
            simp at this
          | true =>
            simp only [hs, Bool.not_true] at hq
            have HS := Lib.hid hs
            clear hs
            go_wp2
            go_quiet (fail)
            go_wp2
            go_roundw
            case rel => exact ⟨a + 1, by omega, by go_num, (bel_drewN HBel.out), take_more HT.out HO.out HP.out ((sameOb_iff o p).1 HS.out)⟩
            case measure => simp [intOf]; omega
        · have HBel := Lib.hid hbel
          clear hbel
          go_wp2
          go_ret
          refine ⟨HBel.out, .inl ⟨rfl, ?_⟩⟩
          have := HT.out
          rwa [List.take_of_length_le (by have := HN.out; omega), List.take_of_length_le (by have := HL.out; omega)] at this
  · obtain ⟨a1, c1, rfl⟩ := row_shape ha
    obtain ⟨a2, c2, rfl⟩ := row_shape hb
    have hne : ((la.length : Int) != (lb.length : Int)) = true := by simp; omega
    clear ha hb
    go_enter Try.func13, Try.ntmps13
    go_wp2
    go_ret
    exact ⟨Below.refl _ _, .inr ⟨rfl, fun e => hl (by rw [e])⟩⟩
end Go.Proofs.Ytembcflgjfligaa
