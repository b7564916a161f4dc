/- The walk of StoreOnce. -/
import Derived.Test.YtepenaoffdaacaaAwake
import Derived.Test.YtepenaoffdaacaaKeys
namespace Go.Proofs.Ytepenaoffdaacaa
open Go.Conc Go.RowKit

/-- A text's first thousand bytes. -/
def cutText (d : ByteArray) : ByteArray := if 1000 < d.size then d.extract 0 1000 else d
theorem cutText_size (d : ByteArray) : (cutText d).size ≤ 1000 := by
  unfold cutText
  split
  · simp [ByteArray.size_extract]; omega
  · omega
def onceOs (k d0 : ByteArray) (a : Nat) : List Ob := if a = 0 then [] else [⟨k, cutText d0, 0⟩]

/-- A slice of texts that came in. -/
def IsStrs (w : World) (a : Option Addr) (len : Nat) (ss : Nat → ByteArray) : Prop :=
  len = 0 ∨ ∃ b off, a = some ⟨b, off, none⟩ ∧ ∀ i, i < len → w.cell? ⟨b, off + i, none⟩ = some (.string (ss i))

set_option maxHeartbeats 4000000 in
theorem once_walk (key : ByteArray) (hkey : key.size ≤ maxLen) (a : Option Addr) (len cap : Nat) (hlen : len ≤ maxLen) (ss : Nat → ByteArray) (w : World) (hss : IsStrs w a len ss) :
    Calls Try.prog 4 #[.string key, .slice a len cap] w fun e w' => e = .returned (.bool true) ∧ Below w.heap.size w w' := by
  unfold maxLen at hkey hlen
  have hdk := dec_length key.size
  go_enter Try.func4, Try.ntmps4
  go_wp2_with fail
  refine (awake_any _).mono ?_
  rintro e w1 ⟨rfl, b1⟩
  have B1 := Lib.hid b1
  clear b1
  obtain ⟨F, hFd⟩ : ∃ F : Nat → Prop, F = fun k => w1.heap.size ≤ k := ⟨_, rfl⟩
  have HF : Hid (∀ v : World, Frm F w1 v → ∀ k, v.heap.size ≤ k → F k) := fun v hv k hk => by rw [hFd]; exact Nat.le_trans hv.size hk
  have HD := Lib.hid hFd
  clear hFd
  go_wp2_with fail
  refine (new_any 10 (by omega) (by omega) _ (HF.out _ (Frm.refl _ _))).mono ?_
  rintro e w2 ⟨rfl, s2, f2⟩
  have S2 := Lib.hid s2
  have F2 := Lib.hid f2
  clear s2 f2
  go_wp2_with fail
  refine (decimal_any key.size (by omega) w2).mono ?_
  rintro e w3 ⟨rfl, b3⟩
  have S3 := Lib.hid (S2.out.new b3)
  have F3 := Lib.hid (F2.out.trans (Frm.of_new b3 F))
  clear b3
  go_wp2_with fail
  rw [keyOf_eq]
  obtain ⟨k, hk⟩ : ∃ k, k = keyOf 107 key.size := ⟨_, rfl⟩
  rw [← hk]
  have KM : Hid (KeyMay k) := by rw [hk]; exact keyOf_may 107 (by decide) _
  clear hk
  by_cases h0 : len = 0
  · subst h0
    go_loopw [8] (fun i wr => i = .int .i64 0 ∧ w3 = wr) (fun _ _ => 0)
    case atStart => exact ⟨rfl, rfl⟩
    case round =>
      obtain ⟨rfl, rfl⟩ := hrel
      go_wp2_with (go_at_call 12; refine (num_any _ _).mono ?_; rintro e w' ⟨rfl, rfl⟩)
      go_ret
      have hfr := F3.out
      rw [HD.out] at hfr
      exact ⟨rfl, B1.out.trans ((hfr.below (Nat.le_refl _)).mono B1.out.size)⟩
  rcases hss with h | ⟨bb, off, rfl, hcells⟩
  · exact absurd h h0
  have HC := Lib.hid hcells
  clear hcells
  go_loopw [8] (fun i wr => ∃ n : Nat, n ≤ 20 ∧ i = .int .i64 n ∧ Sto wr F w1.heap.size ⟨10, onceOs k (ss 0) n, 2 * (n : Int), 0⟩ ∧ Frm F w1 wr) (fun i _ => 20 - (intOf i).toNat)
  case atStart => exact ⟨0, by omega, rfl, S3.out, F3.out⟩
  case round =>
    obtain ⟨n, hn, rfl, s4, f4⟩ := hrel
    have S4 := Lib.hid s4
    have F4 := Lib.hid f4
    have hfr : Frm (fun k => w1.heap.size ≤ k) w1 wr := by rw [← HD.out]; exact f4
    have BW := Lib.hid (B1.out.trans ((hfr.below (Nat.le_refl _)).mono B1.out.size))
    clear s4 f4 hfr
    by_cases hlt : n < len
    · by_cases h20 : n < 20
      · have hb0 : bb < w.heap.size := World.block_lt_of_cell? w ⟨bb, off + n, none⟩ (HC.out n hlt)
        have c0 := (BW.out.cell (p := ⟨bb, off + n, none⟩) hb0).trans (HC.out n hlt)
        have c00 : wr.cell? ⟨bb, off, none⟩ = some (.string (ss 0)) := (BW.out.cell (p := ⟨bb, off, none⟩) hb0).trans (HC.out 0 (by omega))
        by_cases hz : n = 0
        · subst hz
          by_cases hd : 1000 < (ss 0).size
          · have HE0 : Hid (cutText (ss 0) = (ss 0).extract 0 1000) := if_pos hd
            have HD0 : Hid (((ss 0).extract 0 1000).size ≤ 65536) := by have := cutText_size (ss 0); rw [HE0.out] at this; exact Nat.le_trans this (by omega)
            go_wp2_with fail
            refine (put_ok w1.heap.size k ((ss 0).extract 0 1000) 0 wr ⟨10, [], 0, 0⟩ S4.out (HF.out _ F4.out) rfl (by simp) List.Pairwise.nil KM.out HD0.out (by omega) (by simp) (by simp)).mono ?_
            rintro e w6 ⟨rfl, s6, f6⟩
            have S6 : Hid (Sto w6 F w1.heap.size ⟨10, [⟨k, cutText (ss 0), 0⟩], 1, 0⟩) := by rw [HE0.out]; exact s6
            have F6 := Lib.hid (F4.out.trans f6)
            clear s6 f6
            go_wp2_with fail
            refine (get_ok w1.heap.size k w6 ⟨10, [⟨k, cutText (ss 0), 0⟩], 1, 0⟩ S6.out rfl (by simp) (List.pairwise_singleton _ _) ⟨k, cutText (ss 0), 0⟩ (by simp) rfl).mono ?_
            rintro e w7 ⟨rfl, s7, f7⟩
            have S7 := Lib.hid s7
            have F7 := Lib.hid (F6.out.trans f7)
            clear s7 f7
            have hfr7 : Frm (fun k => w1.heap.size ≤ k) w1 w7 := by rw [← HD.out]; exact F7.out
            have BW7 := B1.out.trans ((hfr7.below (Nat.le_refl _)).mono B1.out.size)
            have c7 := (BW7.cell (p := ⟨bb, off, none⟩) hb0).trans (HC.out 0 (by omega))
            clear BW7 hfr7
            have he0 := HE0.out
            rw [he0]
            clear he0
            go_wp2_with (go_at_call 12; refine (num_any _ _).mono ?_; rintro e w' ⟨rfl, rfl⟩)
            go_roundw
            case rel => exact ⟨1, by omega, rfl, S7.out, F7.out⟩
            case measure => simp [intOf]
          · have HE0 : Hid (cutText (ss 0) = ss 0) := if_neg hd
            have HD0 : Hid ((ss 0).size ≤ 65536) := by unfold Hid; omega
            go_wp2_with fail
            refine (put_ok w1.heap.size k (ss 0) 0 wr ⟨10, [], 0, 0⟩ S4.out (HF.out _ F4.out) rfl (by simp) List.Pairwise.nil KM.out HD0.out (by omega) (by simp) (by simp)).mono ?_
            rintro e w6 ⟨rfl, s6, f6⟩
            have S6 : Hid (Sto w6 F w1.heap.size ⟨10, [⟨k, cutText (ss 0), 0⟩], 1, 0⟩) := by rw [HE0.out]; exact s6
            have F6 := Lib.hid (F4.out.trans f6)
            clear s6 f6
            go_wp2_with fail
            refine (get_ok w1.heap.size k w6 ⟨10, [⟨k, cutText (ss 0), 0⟩], 1, 0⟩ S6.out rfl (by simp) (List.pairwise_singleton _ _) ⟨k, cutText (ss 0), 0⟩ (by simp) rfl).mono ?_
            rintro e w7 ⟨rfl, s7, f7⟩
            have S7 := Lib.hid s7
            have F7 := Lib.hid (F6.out.trans f7)
            clear s7 f7
            have hfr7 : Frm (fun k => w1.heap.size ≤ k) w1 w7 := by rw [← HD.out]; exact F7.out
            have BW7 := B1.out.trans ((hfr7.below (Nat.le_refl _)).mono B1.out.size)
            have c7 := (BW7.cell (p := ⟨bb, off, none⟩) hb0).trans (HC.out 0 (by omega))
            clear BW7 hfr7
            have he0 := HE0.out
            rw [he0]
            clear he0
            go_wp2_with (go_at_call 12; refine (num_any _ _).mono ?_; rintro e w' ⟨rfl, rfl⟩)
            go_roundw
            case rel => exact ⟨1, by omega, rfl, S7.out, F7.out⟩
            case measure => simp [intOf]
        · have S4' : Hid (Sto wr F w1.heap.size ⟨10, [⟨k, cutText (ss 0), 0⟩], 2 * (n : Int), 0⟩) := by
            have := S4.out
            unfold onceOs at this
            rw [if_neg hz] at this
            exact this
          have hzz : ((n : Int) == 0) = false := by simp; omega
          clear c00
          by_cases hd : 1000 < (ss 0).size
          · have HE0 : Hid (cutText (ss 0) = (ss 0).extract 0 1000) := if_pos hd
            by_cases hdn : 1000 < (ss n).size
            · have HDn : Hid (((ss n).extract 0 1000).size ≤ 65536) := by have := cutText_size (ss n); unfold cutText at this; rw [if_pos hdn] at this; exact Nat.le_trans this (by omega)
              go_wp2_with fail
              refine (put_exists w1.heap.size k ((ss n).extract 0 1000) n wr ⟨10, [⟨k, cutText (ss 0), 0⟩], 2 * (n : Int), 0⟩ S4'.out rfl (by simp; omega) (List.pairwise_singleton _ _) KM.out HDn.out (by omega) (by simp)).mono ?_
              rintro e w6 ⟨rfl, s6, f6⟩
              have S6 : Hid (Sto w6 F w1.heap.size ⟨10, [⟨k, cutText (ss 0), 0⟩], 2 * (n : Int) + 1, 0⟩) := s6
              have F6 := Lib.hid (F4.out.trans f6)
              clear s6 f6
              go_wp2_with fail
              refine (get_ok w1.heap.size k w6 ⟨10, [⟨k, cutText (ss 0), 0⟩], 2 * (n : Int) + 1, 0⟩ S6.out rfl (by simp; omega) (List.pairwise_singleton _ _) ⟨k, cutText (ss 0), 0⟩ (by simp) rfl).mono ?_
              rintro e w7 ⟨rfl, s7, f7⟩
              have S7 := Lib.hid s7
              have F7 := Lib.hid (F6.out.trans f7)
              clear s7 f7
              have hfr7 : Frm (fun k => w1.heap.size ≤ k) w1 w7 := by rw [← HD.out]; exact F7.out
              have BW7 := B1.out.trans ((hfr7.below (Nat.le_refl _)).mono B1.out.size)
              have c7 := (BW7.cell (p := ⟨bb, off, none⟩) hb0).trans (HC.out 0 (by omega))
              clear BW7 hfr7
              have he0 := HE0.out
              rw [he0]
              clear he0
              go_wp2_with (go_at_call 12; refine (num_any _ _).mono ?_; rintro e w' ⟨rfl, rfl⟩)
              go_roundw
              case rel =>
                refine ⟨n + 1, by omega, by go_num, ?_, F7.out⟩
                have e1 : 2 * ((n + 1 : Nat) : Int) = 2 * (n : Int) + 1 + 1 := by omega
                rw [e1, show onceOs k (ss 0) (n + 1) = [⟨k, cutText (ss 0), 0⟩] from rfl]
                exact S7.out
              case measure => simp [intOf]; omega
            · have HDn : Hid ((ss n).size ≤ 65536) := by unfold Hid; omega
              go_wp2_with fail
              refine (put_exists w1.heap.size k (ss n) n wr ⟨10, [⟨k, cutText (ss 0), 0⟩], 2 * (n : Int), 0⟩ S4'.out rfl (by simp; omega) (List.pairwise_singleton _ _) KM.out HDn.out (by omega) (by simp)).mono ?_
              rintro e w6 ⟨rfl, s6, f6⟩
              have S6 : Hid (Sto w6 F w1.heap.size ⟨10, [⟨k, cutText (ss 0), 0⟩], 2 * (n : Int) + 1, 0⟩) := s6
              have F6 := Lib.hid (F4.out.trans f6)
              clear s6 f6
              go_wp2_with fail
              refine (get_ok w1.heap.size k w6 ⟨10, [⟨k, cutText (ss 0), 0⟩], 2 * (n : Int) + 1, 0⟩ S6.out rfl (by simp; omega) (List.pairwise_singleton _ _) ⟨k, cutText (ss 0), 0⟩ (by simp) rfl).mono ?_
              rintro e w7 ⟨rfl, s7, f7⟩
              have S7 := Lib.hid s7
              have F7 := Lib.hid (F6.out.trans f7)
              clear s7 f7
              have hfr7 : Frm (fun k => w1.heap.size ≤ k) w1 w7 := by rw [← HD.out]; exact F7.out
              have BW7 := B1.out.trans ((hfr7.below (Nat.le_refl _)).mono B1.out.size)
              have c7 := (BW7.cell (p := ⟨bb, off, none⟩) hb0).trans (HC.out 0 (by omega))
              clear BW7 hfr7
              have he0 := HE0.out
              rw [he0]
              clear he0
              go_wp2_with (go_at_call 12; refine (num_any _ _).mono ?_; rintro e w' ⟨rfl, rfl⟩)
              go_roundw
              case rel =>
                refine ⟨n + 1, by omega, by go_num, ?_, F7.out⟩
                have e1 : 2 * ((n + 1 : Nat) : Int) = 2 * (n : Int) + 1 + 1 := by omega
                rw [e1, show onceOs k (ss 0) (n + 1) = [⟨k, cutText (ss 0), 0⟩] from rfl]
                exact S7.out
              case measure => simp [intOf]; omega
          · have HE0 : Hid (cutText (ss 0) = ss 0) := if_neg hd
            by_cases hdn : 1000 < (ss n).size
            · have HDn : Hid (((ss n).extract 0 1000).size ≤ 65536) := by have := cutText_size (ss n); unfold cutText at this; rw [if_pos hdn] at this; exact Nat.le_trans this (by omega)
              go_wp2_with fail
              refine (put_exists w1.heap.size k ((ss n).extract 0 1000) n wr ⟨10, [⟨k, cutText (ss 0), 0⟩], 2 * (n : Int), 0⟩ S4'.out rfl (by simp; omega) (List.pairwise_singleton _ _) KM.out HDn.out (by omega) (by simp)).mono ?_
              rintro e w6 ⟨rfl, s6, f6⟩
              have S6 : Hid (Sto w6 F w1.heap.size ⟨10, [⟨k, cutText (ss 0), 0⟩], 2 * (n : Int) + 1, 0⟩) := s6
              have F6 := Lib.hid (F4.out.trans f6)
              clear s6 f6
              go_wp2_with fail
              refine (get_ok w1.heap.size k w6 ⟨10, [⟨k, cutText (ss 0), 0⟩], 2 * (n : Int) + 1, 0⟩ S6.out rfl (by simp; omega) (List.pairwise_singleton _ _) ⟨k, cutText (ss 0), 0⟩ (by simp) rfl).mono ?_
              rintro e w7 ⟨rfl, s7, f7⟩
              have S7 := Lib.hid s7
              have F7 := Lib.hid (F6.out.trans f7)
              clear s7 f7
              have hfr7 : Frm (fun k => w1.heap.size ≤ k) w1 w7 := by rw [← HD.out]; exact F7.out
              have BW7 := B1.out.trans ((hfr7.below (Nat.le_refl _)).mono B1.out.size)
              have c7 := (BW7.cell (p := ⟨bb, off, none⟩) hb0).trans (HC.out 0 (by omega))
              clear BW7 hfr7
              have he0 := HE0.out
              rw [he0]
              clear he0
              go_wp2_with (go_at_call 12; refine (num_any _ _).mono ?_; rintro e w' ⟨rfl, rfl⟩)
              go_roundw
              case rel =>
                refine ⟨n + 1, by omega, by go_num, ?_, F7.out⟩
                have e1 : 2 * ((n + 1 : Nat) : Int) = 2 * (n : Int) + 1 + 1 := by omega
                rw [e1, show onceOs k (ss 0) (n + 1) = [⟨k, cutText (ss 0), 0⟩] from rfl]
                exact S7.out
              case measure => simp [intOf]; omega
            · have HDn : Hid ((ss n).size ≤ 65536) := by unfold Hid; omega
              go_wp2_with fail
              refine (put_exists w1.heap.size k (ss n) n wr ⟨10, [⟨k, cutText (ss 0), 0⟩], 2 * (n : Int), 0⟩ S4'.out rfl (by simp; omega) (List.pairwise_singleton _ _) KM.out HDn.out (by omega) (by simp)).mono ?_
              rintro e w6 ⟨rfl, s6, f6⟩
              have S6 : Hid (Sto w6 F w1.heap.size ⟨10, [⟨k, cutText (ss 0), 0⟩], 2 * (n : Int) + 1, 0⟩) := s6
              have F6 := Lib.hid (F4.out.trans f6)
              clear s6 f6
              go_wp2_with fail
              refine (get_ok w1.heap.size k w6 ⟨10, [⟨k, cutText (ss 0), 0⟩], 2 * (n : Int) + 1, 0⟩ S6.out rfl (by simp; omega) (List.pairwise_singleton _ _) ⟨k, cutText (ss 0), 0⟩ (by simp) rfl).mono ?_
              rintro e w7 ⟨rfl, s7, f7⟩
              have S7 := Lib.hid s7
              have F7 := Lib.hid (F6.out.trans f7)
              clear s7 f7
              have hfr7 : Frm (fun k => w1.heap.size ≤ k) w1 w7 := by rw [← HD.out]; exact F7.out
              have BW7 := B1.out.trans ((hfr7.below (Nat.le_refl _)).mono B1.out.size)
              have c7 := (BW7.cell (p := ⟨bb, off, none⟩) hb0).trans (HC.out 0 (by omega))
              clear BW7 hfr7
              have he0 := HE0.out
              rw [he0]
              clear he0
              go_wp2_with (go_at_call 12; refine (num_any _ _).mono ?_; rintro e w' ⟨rfl, rfl⟩)
              go_roundw
              case rel =>
                refine ⟨n + 1, by omega, by go_num, ?_, F7.out⟩
                have e1 : 2 * ((n + 1 : Nat) : Int) = 2 * (n : Int) + 1 + 1 := by omega
                rw [e1, show onceOs k (ss 0) (n + 1) = [⟨k, cutText (ss 0), 0⟩] from rfl]
                exact S7.out
              case measure => simp [intOf]; omega
      · obtain rfl : n = 20 := by omega
        go_wp2_with (go_at_call 12; refine (num_any _ _).mono ?_; rintro e w' ⟨rfl, rfl⟩)
        go_ret
        exact ⟨rfl, BW.out⟩
    · go_wp2_with (go_at_call 12; refine (num_any _ _).mono ?_; rintro e w' ⟨rfl, rfl⟩)
      go_ret
      exact ⟨rfl, BW.out⟩
end Go.Proofs.Ytepenaoffdaacaa
