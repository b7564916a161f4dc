/- Specs, plainly: which may be, which rows may be, what a row's part is. No program is spoken of. -/
import Derived.Test.YthfakpekdjmpjaaSpcG
import Derived.Test.YthfakpekdjmpjaaUIsOf
namespace Go.Proofs.Ythfakpekdjmpjaa
open Go.Conc Go.RowKit
set_option linter.unusedVariables false
set_option linter.unusedSimpArgs false

/-- A field stands, and none of those ahead of it is like it. -/
def okFd (cs : List Co) (fs : List Fd) (k : Nat) : Bool := standB (fs.getD k zeroFd) cs && !((fs.take k).any (likeF (fs.getD k zeroFd)))
def bndSp (p : Sp) : Bool := decide (0 ≤ p.id ∧ p.id ≤ 2147483647 ∧ p.fs.length ≤ 4)
def maySp (p : Sp) (s : Sc) : Bool := bndSp p && maySc s && (List.range p.fs.length).all (okFd s.cs p.fs)
theorem maysp_no {p : Sp} {s : Sc} (h : bndSp p = false ∨ maySc s = false) : maySp p s = false := by
  unfold maySp
  rcases h with h | h <;> rw [h] <;> simp
theorem maysp_bad {p : Sp} {s : Sc} {k : Nat} (hk : k < p.fs.length) (h : okFd s.cs p.fs k = false) : maySp p s = false := by
  unfold maySp
  have : (List.range p.fs.length).all (okFd s.cs p.fs) = false := by
    rw [List.all_eq_false]
    exact ⟨k, List.mem_range.2 hk, by rw [h]; simp⟩
  rw [this, Bool.and_false]
theorem maysp_good {p : Sp} {s : Sc} (hb : bndSp p = true) (hs : maySc s = true) (h : ∀ k, k < p.fs.length → okFd s.cs p.fs k = true) : maySp p s = true := by
  unfold maySp
  rw [hb, hs, Bool.true_and, Bool.true_and, List.all_eq_true]
  exact fun k hk => h k (List.mem_range.1 hk)
def rowB13 (cs : List Co) (r : List V) : Bool := decide (r.length = cs.length) && (List.range r.length).all fun k => isOf (r.getD k zeroV) (cs.getD k zeroCo).kd
/-- What each field makes of a row. -/
def partL (fs : List Fd) (cs : List Co) (r : List V) : List V := fs.map fun f => madeV f (r.getD (placeA cs f.src).toNat zeroV)
def partA (p : Sp) (s : Sc) (r : List V) : List V × Int := if maySp p s && rowB13 s.cs r then (partL p.fs s.cs r, 0) else ([], 1300)
end Go.Proofs.Ythfakpekdjmpjaa
