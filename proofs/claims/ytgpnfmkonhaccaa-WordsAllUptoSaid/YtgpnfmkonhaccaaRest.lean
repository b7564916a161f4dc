/- What is read behind a spoiling, by where blocks lie. -/
import Derived.Test.YtgpnfmkonhaccaaValA
namespace Go.Proofs.Ytgpnfmkonhaccaa
open Go.Conc Go.RowKit
set_option linter.unusedVariables false

/-- A list lies between two numbers of blocks. -/
def Lies (lo hi : Nat) (a : Option Addr) : Prop := ∀ k, At a k → lo ≤ k ∧ k < hi
theorem isl_frm {w w' : World} {a b : Option Addr} {xs : List Int} {lo hi lo2 hi2 : Nat} (h : IsL w a xs) (hf : Frm (At b) w w') (ha : Lies lo hi a) (hb : Lies lo2 hi2 b) (hd : hi ≤ lo2 ∨ hi2 ≤ lo) (hz : hi ≤ w.heap.size) : IsL w' a xs :=
  h.keep fun k hk => hf.block k (by have := ha k hk; omega) fun h2 => by have := ha k hk; have := hb k h2; omega
theorem isv_frm {w w' : World} {a b : Option Addr} {xs : List V} {lo hi lo2 hi2 : Nat} (h : IsV w a xs) (hf : Frm (At b) w w') (ha : Lies lo hi a) (hb : Lies lo2 hi2 b) (hd : hi ≤ lo2 ∨ hi2 ≤ lo) (hz : hi ≤ w.heap.size) : IsV w' a xs :=
  h.keep fun k hk => hf.block k (by have := ha k hk; omega) fun h2 => by have := ha k hk; have := hb k h2; omega
/-- What is read behind the spoiling. -/
structure Rest (w u : World) (n3 n4 n5 : Nat) (ax : Option Addr) (ac ad : Option Addr) (vs : List V) (m : List Int) (e : List V) : Prop where
  x : IsV u ax vs
  c : IsL u ac m
  d : IsV u ad e
  lx : Lies 0 n3 ax
  lc : Lies n4 n5 ac
  ld : Lies n4 n5 ad
  s3 : w.heap.size ≤ n3
  s4 : n3 ≤ n4
  s5 : n4 ≤ n5
  sz : n5 ≤ u.heap.size
  below : Below w.heap.size w u
theorem Rest.frm {w u u' : World} {n3 n4 n5 : Nat} {x ac ad b : Option Addr} {vs : List V} {m : List Int} {e : List V} (h : Rest w u n3 n4 n5 x ac ad vs m e) (hf : Frm (At b) u u') (hb : Lies n3 n4 b) : Rest w u' n3 n4 n5 x ac ad vs m e :=
  ⟨isv_frm h.x hf h.lx hb (.inl (Nat.le_refl _)) (by have := h.s4; have := h.s5; have := h.sz; omega), isl_frm h.c hf h.lc hb (.inr (Nat.le_refl _)) h.sz, isv_frm h.d hf h.ld hb (.inr (Nat.le_refl _)) h.sz, h.lx, h.lc, h.ld, h.s3, h.s4, h.s5, Nat.le_trans h.sz hf.size, Frm.to_below h.below hf (fun k hk => Nat.le_trans h.s3 (hb k hk).1) (Nat.le_refl _)⟩
theorem Rest.more {w u u' : World} {n3 n4 n5 : Nat} {x ac ad : Option Addr} {vs : List V} {m : List Int} {e : List V} (h : Rest w u n3 n4 n5 x ac ad vs m e) (hb : Below u.heap.size u u') : Rest w u' n3 n4 n5 x ac ad vs m e :=
  ⟨h.x.below hb, h.c.below hb, h.d.below hb, h.lx, h.lc, h.ld, h.s3, h.s4, h.s5, Nat.le_trans h.sz hb.size, h.below.trans (hb.mono h.below.size)⟩
theorem OwnI.cap {base cap : Nat} {w : World} {a : Option Addr} {xs : List Int} (h : OwnI base w a cap xs) : xs.length ≤ cap := by
  rcases h.block with ⟨_, rfl, rfl⟩ | ⟨g, _, _, _, hc, _⟩
  · simp
  · exact hc
theorem OwnV.cap {base cap : Nat} {w : World} {a : Option Addr} {xs : List V} (h : OwnV base w a cap xs) : xs.length ≤ cap := by
  rcases h.block with ⟨_, rfl, rfl⟩ | ⟨g, _, _, _, hc, _⟩
  · simp
  · exact hc
end Go.Proofs.Ytgpnfmkonhaccaa
