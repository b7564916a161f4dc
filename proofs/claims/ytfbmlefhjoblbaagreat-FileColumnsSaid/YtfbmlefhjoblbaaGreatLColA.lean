/- A file of one column more has the others as they were; its statistics are one more: the walk of the law. -/
import Derived.Test.YtfbmlefhjoblbaaGreatLColH
import Derived.Test.YtfbmlefhjoblbaaGreatFAw
import Derived.Test.YtfbmlefhjoblbaaGreatFLent
import Derived.Test.YtfbmlefhjoblbaaGreatFMore
import Derived.Test.YtfbmlefhjoblbaaGreatBits
import Derived.Test.YtfbmlefhjoblbaaGreatWmath
import Derived.Test.YtfbmlefhjoblbaaGreatLFin
namespace Go.Proofs.YtfbmlefhjoblbaaGreat
open Go.Conc Go.RowKit
set_option linter.unusedVariables false
set_option linter.unusedSimpArgs false

set_option maxRecDepth 100000 in
set_option maxHeartbeats 2000000 in
theorem filecolumns_12 (p : DaAt) (d : Da) (kind : Int) {w : World} (g0 : -9223372036854775808 ≤ kind) (g1 : kind < 9223372036854775808) (hd : DaIs w p d) (hi : InData d) (hE : (fileA d).2 = 0) (h12 : 12 ≤ d.cs.length) :
    Calls Tryz.prog 12 #[.agg #[.int .i64 d.n, .slice p.ac d.cs.length p.kc, .slice p.ar d.rs.length p.kr], .int .i64 kind] w fun e w' => e = .returned (.bool true) ∧ Below w.heap.size w w' := by
  obtain ⟨ac, kc, ar, kr⟩ := p
  simp only at *
  have hf := hi.fin
  have TA := Lib.hid (fun v => fileawake_any v)
  have TP := Lib.hid (fun (v : World) (hv : Below w.heap.size w v) => fileput_any v ⟨ac, kc, ar, kr⟩ d (hd.below hv) hf)
  obtain ⟨u, hu⟩ : ∃ u, u = w.alloc (.cells #[.int .i64 d.n, .slice ac d.cs.length kc, .slice ar d.rs.length kr] 55) := ⟨_, rfl⟩
  have hs0 : DSlot u w.heap.size ⟨ac, kc, ar, kr⟩ d := by rw [hu]; exact DSlot.new w ⟨ac, kc, ar, kr⟩ d
  have hb0 : Below w.heap.size w u := by rw [hu]; exact (Below.refl _ _).alloc (Nat.le_refl _) _
  have HB0 := Lib.hid hb0
  have HS0 := Lib.hid hs0
  have HD := Lib.hid hd
  clear hs0 hb0
  have hemp : ((⟨#[]⟩ : ByteArray).toList == []) = true := by rw [ByteArray.toList_eq]; rfl
  have hemp2 : (ByteArray.empty.toList == []) = true := by rw [ByteArray.toList_eq]; rfl
  obtain ⟨hm, hlen, hfa⟩ := file_ok hE
  obtain ⟨⟨n0, n1, c1, c2, hrl⟩, hokA⟩ := may_ok hm
  rw [hE] at TP
  generalize (fileA d).1 = X at *
  have h12' : decide ((12 : Int) ≤ (d.cs.length : Int)) = true := decide_eq_true (by omega)
  clear hm hlen hfa n0 n1 c1 c2 hrl hokA hf hi hd hE
  obtain ⟨b0, b1, b2⟩ := HS0.out.at
  simp only at b0 b1 b2
  go_enter Tryz.func12, Tryz.ntmps12
  go_upto_region 1 with fail
  rw [← hu]
  clear hu
  go_upto_region 3 with (go_at_call 35; refine (TA.out _).mono ?_; rintro e w1 ⟨rfl, hb⟩; have HB1 := Lib.hid (HB0.out.trans (hb.mono HB0.out.size)); have HS1 := Lib.hid (HS0.out.below hb); clear hb)
  clear b0 b1 b2
  obtain ⟨b0, b1, b2⟩ := HS1.out.at
  simp only at b0 b1 b2
  go_upto_region 4 with (go_at_call 29; refine (TP.out _ HB1.out).mono ?_; rintro e w2 ⟨rfl, hb⟩; have HB2 := Lib.hid (HB1.out.trans (hb.mono HB1.out.size)); have HS2 := Lib.hid (HS1.out.below hb); clear hb)
  clear b0 b1 b2
  obtain ⟨b0, b1, b2⟩ := HS2.out.at
  simp only at b0 b1 b2
  by_cases hx : (X.toList == []) = true
  · go_wp2_with (go_at_call 17; refine (num_any _ _).mono ?_; rintro e w' ⟨rfl, rfl⟩)
    go_ret
    exact ⟨rfl, HB2.out⟩
  · have hx2 : (X.toList == []) = false := by simpa using hx
    clear hx
    go_wp2_with (go_at_call 17; refine (num_any _ _).mono ?_; rintro e w' ⟨rfl, rfl⟩)
    go_ret
    exact ⟨rfl, HB2.out⟩
set_option maxRecDepth 100000 in
set_option maxHeartbeats 2000000 in
theorem filecolumns_no (p : DaAt) (d : Da) (kind : Int) {w : World} (g0 : -9223372036854775808 ≤ kind) (g1 : kind < 9223372036854775808) (hd : DaIs w p d) (hi : InData d) (hE : ¬ (fileA d).2 = 0) :
    Calls Tryz.prog 12 #[.agg #[.int .i64 d.n, .slice p.ac d.cs.length p.kc, .slice p.ar d.rs.length p.kr], .int .i64 kind] w fun e w' => e = .returned (.bool true) ∧ Below w.heap.size w w' := by
  obtain ⟨ac, kc, ar, kr⟩ := p
  simp only at *
  have hf := hi.fin
  have TA := Lib.hid (fun v => fileawake_any v)
  have TP := Lib.hid (fun (v : World) (hv : Below w.heap.size w v) => fileput_any v ⟨ac, kc, ar, kr⟩ d (hd.below hv) hf)
  obtain ⟨u, hu⟩ : ∃ u, u = w.alloc (.cells #[.int .i64 d.n, .slice ac d.cs.length kc, .slice ar d.rs.length kr] 55) := ⟨_, rfl⟩
  have hs0 : DSlot u w.heap.size ⟨ac, kc, ar, kr⟩ d := by rw [hu]; exact DSlot.new w ⟨ac, kc, ar, kr⟩ d
  have hb0 : Below w.heap.size w u := by rw [hu]; exact (Below.refl _ _).alloc (Nat.le_refl _) _
  have HB0 := Lib.hid hb0
  have HS0 := Lib.hid hs0
  have HD := Lib.hid hd
  clear hs0 hb0
  have hemp : ((⟨#[]⟩ : ByteArray).toList == []) = true := by rw [ByteArray.toList_eq]; rfl
  have hemp2 : (ByteArray.empty.toList == []) = true := by rw [ByteArray.toList_eq]; rfl
  have hfa : fileA d = (ByteArray.empty, 1100) := by
    by_cases c : mayA d = true ∧ (fileB d).length + 4 ≤ 65536
    · exact absurd (by unfold fileA; rw [if_pos c]) hE
    · exact file_no c
  rw [hfa] at TP
  obtain ⟨b0, b1, b2⟩ := HS0.out.at
  simp only at b0 b1 b2
  clear hfa hE hf hi g0 g1 hd
  go_enter Tryz.func12, Tryz.ntmps12
  go_upto_region 1 with fail
  rw [← hu]
  clear hu
  go_upto_region 3 with (go_at_call 35; refine (TA.out _).mono ?_; rintro e w1 ⟨rfl, hb⟩; have HB1 := Lib.hid (HB0.out.trans (hb.mono HB0.out.size)); have HS1 := Lib.hid (HS0.out.below hb); clear hb)
  clear b0 b1 b2
  obtain ⟨b0, b1, b2⟩ := HS1.out.at
  simp only at b0 b1 b2
  go_wp2_with (first
    | (go_at_call 29; refine (TP.out _ HB1.out).mono ?_; rintro e w2 ⟨rfl, hb⟩; have HB2 := Lib.hid (HB1.out.trans (hb.mono HB1.out.size)); clear hb)
    | (go_at_call 17; refine (num_any _ _).mono ?_; rintro e w' ⟨rfl, rfl⟩))
  go_ret
  exact ⟨rfl, HB2.out⟩
end Go.Proofs.YtfbmlefhjoblbaaGreat
