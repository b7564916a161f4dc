/- The program's Look. -/
import Derived.Test.YtgpnfmkonhaccaaWBuild
namespace Go.Proofs.Ytgpnfmkonhaccaa
open Go.Conc Go.RowKit
set_option linter.unusedVariables false

/-- What Look has behind n places: w1 is the world in which the words were built again. -/
structure LookAt (w1 wr : World) (own : List V) (at_ : List Int) (n : Nat) (aj : Option Addr) (cj : Nat) (out : List V) : Prop where
  is : out = (at_.take n).map fun x => own.getD x.toNat zeroV
  ok : ∀ x ∈ at_.take n, 0 ≤ x ∧ x < own.length
  vals : OwnV w1.heap.size wr aj cj out
  below : Below w1.heap.size w1 wr
theorem LookAt.len {w1 wr : World} {own : List V} {at_ : List Int} {n : Nat} {aj : Option Addr} {cj : Nat} {out : List V} (h : LookAt w1 wr own at_ n aj cj out) : out.length ≤ n := by
  rw [h.is, List.length_map, List.length_take]; omega
theorem LookAt.more {w1 wr u : World} {own : List V} {at_ : List Int} {n : Nat} {aj : Option Addr} {cj : Nat} {out : List V} (h : LookAt w1 wr own at_ n aj cj out) (hb : Below wr.heap.size wr u) : LookAt w1 u own at_ n aj cj out :=
  ⟨h.is, h.ok, h.vals.below hb, h.below.trans (hb.mono h.below.size)⟩
theorem LookAt.val {w1 u u' : World} {own : List V} {at_ : List Int} {n : Nat} {aj aj' : Option Addr} {cj cj' : Nat} {out : List V} {x : Nat} {p : V} (h : LookAt w1 u own at_ n aj cj out) (hc : n < at_.length) (hx : at_[n] = (x : Int)) (hx2 : x < own.length) (hp : own[x] = p)
    (ho : OwnV w1.heap.size u' aj' cj' (out ++ [p])) (hf : Frm (At aj) u u') : LookAt w1 u' own at_ (n + 1) aj' cj' (out ++ [p]) := by
  have ht : at_.take (n + 1) = at_.take n ++ [(x : Int)] := by rw [← hx]; exact (List.take_append_getElem hc).symm
  refine ⟨?_, ?_, ho, Frm.to_below h.below hf (fun k hk => (h.vals.at_ge hk).1) (Nat.le_refl _)⟩
  · rw [ht, List.map_append, ← h.is, List.map_singleton, Int.toNat_natCast, getD_in hx2, hp]
  · rw [ht]
    intro y hy
    rcases List.mem_append.1 hy with hy | hy
    · exact h.ok y hy
    · simp at hy; subst hy; omega

set_option maxRecDepth 100000 in
set_option maxHeartbeats 4000000 in
theorem wlook_any (w : World) (a am : Option Addr) (cap cm : Nat) (ws : List V) (at_ : List Int) (ha : IsV w a ws) (hm : IsL w am at_) (hx : ws.length * 40 ≤ 140737488355328) (hs : ∀ v ∈ ws, v.s.size ≤ 281474976710656) (hxm : at_.length ≤ 3518437208882) :
    Calls Try.prog 10 #[.slice a ws.length cap, .slice am at_.length cm] w fun e w' => ∃ aj cj, e = .returned (.tuple #[.slice aj (lookA ws at_).1.length cj, .int .i64 (lookA ws at_).2]) ∧ OwnV w.heap.size w' aj cj (lookA ws at_).1 ∧ Below w.heap.size w w' := by
  obtain ⟨R, hR⟩ : ∃ R, R = lookA ws at_ := ⟨_, rfl⟩
  rw [← hR]
  have HR := Lib.hid hR
  have HM := Lib.hid hm
  have T1 := Lib.hid (wbuild_any w a cap ws ha hx hs)
  have HBW := Lib.hid (build_whole ws)
  have HBL := Lib.hid (build_less ws)
  have hol := (built ws).le
  generalize buildA ws = B at *
  obtain ⟨own, pl⟩ := B
  clear hR ha hm hs
  go_enter Try.func10, Try.ntmps10
  go_upto_region 2 with (go_at_call 8; refine T1.out.mono ?_; rintro e w1 ⟨ao, co, ai, ci, rfl, ho, _, hb⟩; have HB1 := Lib.hid hb; have HO := Lib.hid ho; clear ho hb T1)
  by_cases hd : dupV ws
  · obtain rfl : R = ([], 800) := by rw [HR.out]; exact lookA_dup hd
    have hl := HBL.out hd
    have hli : (own.length : Int) < (ws.length : Int) := by omega
    clear hd
    go_wp2
    go_ret2
    exact ⟨none, 0, rfl, OwnV.nil _ _, HB1.out⟩
  · have ho := HBW.out hd
    have hlen : own.length = ws.length := by rw [ho, List.length_map]
    have HWH := Lib.hid ho
    have HD := Lib.hid hd
    have HLN := Lib.hid hlen
    rw [← hlen]
    rw [← hlen] at hx
    have hnl : ¬ ((own.length : Int) < (own.length : Int)) := by omega
    have hnn : ¬ (own.length < own.length) := by omega
    have H0 : Hid (LookAt w1 w1 own at_ 0 none 0 []) := ⟨rfl, fun x hx => by simp at hx, OwnV.nil _ _, Below.refl _ _⟩
    clear ho hd hlen hol HBW HBL
    go_wp2
    clear hnl hnn
    go_loopw [8, 23] (fun jv iv wr => ∃ (n cj : Nat) (aj : Option Addr) (out : List V), n ≤ at_.length ∧ iv = .int .i64 n ∧ jv = .slice aj out.length cj ∧ Hid (LookAt w1 wr own at_ n aj cj out)) (fun _ iv _ => at_.length - (intOf iv).toNat)
    case atStart => exact ⟨0, 0, none, [], Nat.zero_le _, rfl, rfl, H0⟩
    case round =>
      obtain ⟨n, cj, aj, out, hn, rfl, rfl, HC⟩ := hrel
      by_cases c : n < at_.length
      · obtain ⟨bm, om, rfl, hmc⟩ := HM.out.get (n := n) c
        have hmc := (HC.out.below.cell (p := ⟨bm, om + n, none⟩) (World.block_lt_of_cell? w1 _ ((HB1.out.cell (p := ⟨bm, om + n, none⟩) (World.block_lt_of_cell? w _ hmc)).trans hmc))).trans ((HB1.out.cell (p := ⟨bm, om + n, none⟩) (World.block_lt_of_cell? w _ hmc)).trans hmc)
        have HXE : Hid (at_.getD n 0 = at_[n]) := getD_in c
        obtain ⟨x, hx'⟩ : ∃ x, x = at_.getD n 0 := ⟨_, rfl⟩
        rw [← hx'] at hmc HXE
        clear hx'
        by_cases x1 : x < 0
        · obtain rfl : R = ([], 800) := by
            rw [HR.out]
            exact lookA_out (x := x) (by rw [HXE.out]; exact List.getElem_mem _) (.inl x1)
          go_wp2
          go_ret2
          exact ⟨none, 0, rfl, OwnV.nil _ _, HB1.out.trans (HC.out.below.mono HB1.out.size)⟩
        · by_cases x2 : (own.length : Int) ≤ x
          · obtain rfl : R = ([], 800) := by
              rw [HR.out]
              exact lookA_out (x := x) (by rw [HXE.out]; exact List.getElem_mem _) (.inr (by rw [← HLN.out]; exact x2))
            go_wp2
            go_ret2
            exact ⟨none, 0, rfl, OwnV.nil _ _, HB1.out.trans (HC.out.below.mono HB1.out.size)⟩
          · obtain ⟨X, rfl⟩ : ∃ X : Nat, x = X := ⟨x.toNat, by omega⟩
            have hXb : X < own.length := by omega
            obtain ⟨go, rfl⟩ := HO.out.there (by intro h; rw [h] at hXb; simp at hXb)
            have HV := Lib.hid ((HO.out.get X hXb).below HC.out.below)
            obtain ⟨p, hp⟩ : ∃ p, own[X] = p := ⟨_, rfl⟩
            rw [hp] at HV
            have HP := Lib.hid hp
            have HOE := Lib.hid (Nat.le_trans HC.out.len (Nat.le_trans hn hxm))
            obtain ⟨v0, v1, v2, v3⟩ := HV.out
            clear hp x1
            go_upto_region 10 with fail
            clear hmc
            go_wp2_with (at_builtin; refine wp_val HC.out.vals HC.out.below.size HOE.out rfl _ _ rfl p rfl rfl ?_; intro aj' cj' u7 ho hf _; have HFIN := Lib.hid (HC.out.val c HXE.out.symm hXb HP.out ho hf); clear ho hf)
            go_roundw
            case rel => exact ⟨n + 1, cj', aj', out ++ [p], c, by go_num, by simp, HFIN⟩
            case measure => simp [intOf]; omega
      · obtain rfl : n = at_.length := by omega
        have hR : R = (out, 0) := by
          have h1 := HC.out.is
          have h2 := HC.out.ok
          rw [List.take_length] at h1 h2
          rw [HR.out, lookA_yes HD.out (fun x hx => by rw [← HLN.out]; exact h2 x hx), h1]
          refine Prod.ext ?_ rfl
          refine List.map_congr_left fun x hx => ?_
          have h3 := h2 x hx
          rw [HWH.out]
          exact (map_getD (by rw [← HLN.out]; omega)).symm
        subst hR
        clear c
        go_wp2
        go_ret2
        exact ⟨aj, cj, rfl, HC.out.vals.lower (by have := HB1.out.size; omega), HB1.out.trans (HC.out.below.mono HB1.out.size)⟩
end Go.Proofs.Ytgpnfmkonhaccaa
